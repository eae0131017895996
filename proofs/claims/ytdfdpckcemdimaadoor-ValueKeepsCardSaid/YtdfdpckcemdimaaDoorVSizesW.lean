/- The walk of the statement of how many and how deep values are: whatever pairs, it answers true. -/
import Derived.Test.YtdfdpckcemdimaaDoorVMap
import Derived.Test.YtdfdpckcemdimaaDoorVPrintsW
namespace Go.Proofs.YtdfdpckcemdimaaDoor.V
open Go.RowKit Go.Sort Go.Joins
set_option maxRecDepth 100000

theorem RowL.front {w : World} {k : Nat} {a : Option Addr} {n c : Nat} {css : List (List Value)} (h : RowL w k (.slice a n c) css) {j : Nat} (hj : j ≤ css.length) : RowL w k (.slice a j c) (css.take j) := by
  obtain ⟨h0, a', c', hv, hc, hm, hn, hl⟩ := h
  injection hv with e1 e2 e3
  subst e1
  subst e3
  have hlen : (css.take j).length = j := by rw [List.length_take]; omega
  refine ⟨fun cs hcs => h0 cs (List.mem_of_mem_take hcs), a, c, by rw [hlen], by omega, hm, hn, fun hpos => ?_⟩
  obtain ⟨b, off, ha, hx⟩ := hl (by omega)
  refine ⟨b, off, ha, fun i cs hi => hx i cs ?_⟩
  rw [List.getElem?_take] at hi
  split at hi
  · exact hi
  · cases hi
theorem Pairs.front {w : World} {d : Nat} {a : Option Addr} {n c : Nat} {S : List PairT} (h : Pairs w d (.slice a n c) S) {j : Nat} (hj : j ≤ S.length) : Pairs w d (.slice a j c) (S.take j) :=
  ⟨by rw [List.map_take]; exact h.1.front (by rw [List.length_map]; exact hj), fun p hp => h.2 p (List.mem_of_mem_take hp)⟩
theorem countL_perm {a b : List VT} (h : a.Perm b) : countL a = countL b := by
  induction h with
  | nil => rfl
  | cons x _ ih => rw [countL_cons, countL_cons, ih]
  | swap x y l => rw [countL_cons, countL_cons, countL_cons, countL_cons]; omega
  | trans _ _ h1 h2 => exact h1.trans h2
theorem depthL_perm {a b : List VT} (h : a.Perm b) : depthL a = depthL b := by
  induction h with
  | nil => rfl
  | cons x _ ih => rw [depthL_cons, depthL_cons, ih]
  | swap x y l => rw [depthL_cons, depthL_cons, depthL_cons, depthL_cons]; omega
  | trans _ _ h1 h2 => exact h1.trans h2
/-- how many, and how deep, the first ones are -/
def SizeTo (S : List PairT) (j n e : Nat) : Prop := n = 1 + countL ((S.take j).map (·.val)) ∧ e = depthL ((S.take j).map (·.val))
theorem SizeTo.next {S : List PairT} {j n e : Nat} {p : PairT} (h : SizeTo S j n e) (hp : S[j]? = some p) : SizeTo S (j + 1) (n + p.val.count) (max e p.val.depth) := by
  obtain ⟨hlt, rfl⟩ := List.getElem?_eq_some_iff.1 hp
  obtain ⟨rfl, rfl⟩ := h
  unfold SizeTo
  rw [List.take_succ_eq_append_getElem hlt, List.map_append, countL_append, depthL_append]
  simp only [List.map_cons, List.map_nil, countL_cons, countL_nil, depthL_cons, depthL_nil]
  omega
theorem sizes_all {S S' : List PairT} (h : S'.Perm S) {n e : Nat} (hs : SizeTo S S.length n e) : (mapT S').count = n ∧ (mapT S').depth = e + 1 ∧ (listT (S.map (·.val))).count = n ∧ (listT (S.map (·.val))).depth = e + 1 := by
  obtain ⟨rfl, rfl⟩ := hs
  unfold mapT listT
  rw [List.take_of_length_le (Nat.le_refl _), count_eq, count_eq, depth_eq, depth_eq, countL_perm (h.map _), depthL_perm (h.map _)]
  omega
/-- what is no value -/
def zeroT : VT := .mk 0 0 [] [] []
theorem isV_zero (w : World) (d : Nat) : IsV w (d + 1) [.int .i64 0, .int .i64 0, .string ⟨#[]⟩, .slice none 0 0, .slice none 0 0] zeroT :=
  isV_make (s := []) (RowL.nil w 5) rfl (fun i cs h => by simp at h) (Strs.nil w) ⟨(show -9223372036854775808 ≤ (0 : Int) ∧ (0 : Int) ≤ 9223372036854775807 by decide), (show -9223372036854775808 ≤ (0 : Int) ∧ (0 : Int) ≤ 9223372036854775807 by decide), Nat.zero_le _, fun x hx => by cases hx⟩
/-- Map's answer: a value, and a number -/
theorem Ans.val {B d : Nat} {S : List PairT} {cs : List Value} {er : Int} {w : World} (h : Ans B S cs er w) (hp : ∀ p ∈ S, IsV w d p.cells p.val ∧ p.key.length ≤ maxLen) : ∃ t : VT, IsV w (d + 1) cs t ∧
    ((er = 0 ∧ ∃ S' : List PairT, S'.Perm S ∧ Rising S' ∧ t = mapT S') ∨ (er = 23 ∧ ¬ (S.map (·.key)).Nodup ∧ t = zeroT)) := by
  rcases h with ⟨he, S', h1, h2, vi, vk, rfl, hi, hk⟩ | ⟨he, hn, rfl⟩
  · exact ⟨_, mapT_isV hi.read hk.read (fun p hq => hp p (h1.mem_iff.1 hq)), .inl ⟨he, S', h1, h2, rfl⟩⟩
  · exact ⟨_, isV_zero w d, .inr ⟨he, hn, rfl⟩⟩
theorem one_valL {W : World} {d : Nat} {S : List PairT} (h : ∀ p ∈ S, IsV W d p.cells p.val) : ∀ u ∈ (valL S).flatten, u.oneCell' = true := by
  intro u hu
  obtain ⟨cs, hcs, hu⟩ := List.mem_flatten.1 hu
  obtain ⟨p, hp, rfl⟩ := List.mem_map.1 hcs
  exact (h p hp).ones u hu
theorem isV_vals {W : World} {d : Nat} {v : Value} {S : List PairT} (hv : RowL W 5 v (valL S)) (h : ∀ p ∈ S, IsV W d p.cells p.val) : IsV W (d + 1) [.int .i64 3, .int .i64 0, .string ⟨#[]⟩, v, .slice none 0 0] (listT (S.map (·.val))) := by
  refine isV_list hv (by unfold valL; rw [List.length_map, List.length_map]) (fun i cs hi => ?_)
  unfold valL at hi
  rw [List.getElem?_map] at hi
  obtain ⟨p, hp, rfl⟩ := Option.map_eq_some_iff.1 hi
  exact ⟨p.val, by rw [List.getElem?_map, hp]; rfl, h p (List.mem_of_getElem? hp)⟩
set_option maxHeartbeats 6400000 in
theorem sizesV_walk (d : Nat) (v : Value) (S0 : List PairT) (W : World) (h : Pairs W d v S0) (hM : MaxAt W) (hT : Tab W) :
    Calls Tryd.prog 7 #[v] W fun e w' => e = .returned (.bool true) ∧ Below W.heap.size W w' := by
  obtain ⟨iV, hi, hz0, hz1, hz2⟩ := info_parts infoV
  obtain ⟨a, c, rfl, hc, hm, hn⟩ := h.1.form
  rw [List.length_map] at hc
  rw [List.length_map] at h
  rw [List.length_map]
  have hsl : (min (S0.length : Int) 10) ≤ c := by omega
  have hF := h.front (j := (min (S0.length : Int) 10).toNat) (by omega)
  obtain ⟨S, hS, hl0⟩ : ∃ S, S0.take (min (S0.length : Int) 10).toNat = S ∧ S.length = (min (S0.length : Int) 10).toNat := ⟨_, rfl, by rw [List.length_take]; omega⟩
  rw [hS, ← hl0] at hF
  have hl1 : S.length ≤ 10 := by omega
  go_enter Tryd.func7, Tryd.ntmps7
  go_upto_region 2 with fail
  rw [← hl0]
  have HPs := Lib.hid (fun (w1 : World) (hb : Below W.heap.size W w1) => hF.below hb)
  have HP := Lib.hid hF.2
  have HRow := Lib.hid (fun (j : Nat) (p : PairT) (hp : S[j]? = some p) => hF.1.at (i := j) (cs := p.all) (by rw [List.getElem?_map, hp]; rfl))
  have HAl := Lib.hid (fun (w1 : World) (hb : Below W.heap.size W w1) => alive_any w1 (hM.below hb) (hT.below hb))
  clear hF h hl0 hsl hM hT hS
  go_wp2
  go_loopw [3, 4, 5, 18] (fun nv dv xv iv wr => ∃ (j n e : Nat) (ai : Option Addr) (ci : Nat), nv = .int .i64 n ∧ dv = .int .i64 e ∧ xv = .slice ai j ci ∧ iv = .int .i64 j ∧ j ≤ S.length ∧ n ≤ 1 + 2100 * j ∧ e ≤ 2100 ∧ Hid (SizeTo S j n e) ∧ OwnL wr W.heap.size 25 5 (.slice ai j ci) (valL (S.take j)) ∧ Below W.heap.size W wr) (fun _ _ _ iv _ => S.length - (intOf iv).toNat)
  case atStart => exact ⟨0, 1, 0, none, 0, rfl, rfl, rfl, rfl, Nat.zero_le _, by omega, by omega, Lib.hid ⟨by rw [List.take_zero, List.map_nil, countL_nil], by rw [List.take_zero, List.map_nil, depthL_nil]⟩, OwnL.nil _ _ _ _, Below.refl _ _⟩
  case round =>
    obtain ⟨j, n, e, ai, ci, rfl, rfl, rfl, rfl, hjl, hnl, hel, HS, hoI, hb⟩ := hrel
    by_cases hlt : j < S.length
    · obtain ⟨p, hp⟩ : ∃ p, S[j]? = some p := ⟨S[j], List.getElem?_eq_getElem hlt⟩
      have hpm := List.mem_of_getElem? hp
      obtain ⟨b, off, rfl, hra, _⟩ := HRow.out j p hp
      have hpv := (HP.out p hpm).1
      obtain ⟨xi, xc, xk, xd, hcs⟩ := hpv.form
      unfold PairT.all at hra
      rw [hcs] at hra hpv
      obtain ⟨k0, k1, k2, k3, k4, k5⟩ := range6 (range_below hb hra)
      unfold str at k0
      have HI := Lib.hid (take_valL hp)
      rw [hcs] at HI
      have HS2 := Lib.hid (HS.out.next hp)
      have hdc := depth_le_count p.val.count p.val (Nat.le_refl _)
      have HB := Lib.hid (fun (w1 : World) (hb : Below W.heap.size W w1) => big_any d _ p.val w1 (hpv.below hb))
      have hba := (Below.refl wr.heap.size wr).alloc (Nat.le_refl _) (.cells #[.string ⟨p.key.toArray⟩, .int .i64 p.val.kind, .int .i64 p.val.num, .string ⟨p.val.txt.toArray⟩, .slice xi p.val.items.length xc, .slice xk p.val.keys.length xd] 39)
      have lP := Lies.new wr 39 #[.string ⟨p.key.toArray⟩, .int .i64 p.val.kind, .int .i64 p.val.num, .string ⟨p.val.txt.toArray⟩, .slice xi p.val.items.length xc, .slice xk p.val.keys.length xd]
      have hoI1 := hoI.on hba
      have hb1 := on_below hb hba hb.size
      have x0 := lP.cell 0; have x1 := lP.cell 1; have x2 := lP.cell 2; have x3 := lP.cell 3; have x4 := lP.cell 4; have x5 := lP.cell 5; simp only [List.getElem?_toArray, List.getElem?_cons_succ, List.getElem?_cons_zero] at x0 x1 x2 x3 x4 x5
      clear hoI hba HS hra
      by_cases hbig : 2100 < p.val.count
      · rw [decide_eq_true hbig] at HB
        go_wp2_with (first
          | (go_at_call 9; (with_reducible refine (HB.out _ hb1).mono ?_); rintro e w3 ⟨rfl, hb3⟩; replace hb1 := below_on hb1 hb3)
          | (go_at_call 10; (with_reducible refine (HAl.out _ hb1).mono ?_); rintro e w4 ⟨rfl, hb4⟩))
        go_ret
        exact ⟨rfl, below_on hb1 hb4⟩
      · rw [decide_eq_false hbig] at HB
        have HC := Lib.hid (fun (w1 : World) (hb : Below W.heap.size W w1) => count_any d _ p.val w1 (hpv.below hb) (by omega) (by omega))
        have HD := Lib.hid (fun (w1 : World) (hb : Below W.heap.size W w1) => depth_any d _ p.val w1 (hpv.below hb) (by omega) (by omega))
        have hcm : p.val.count ≤ 2100 := by omega
        clear hbig
        generalize p.val.count = pc at *
        generalize p.val.depth = pd at *
        go_upto_region 11 with (first
          | (go_at_call 9; (with_reducible refine (HB.out _ hb1).mono ?_); rintro e w3 ⟨rfl, hb3⟩; replace hb1 := below_on hb1 hb3; replace lP := lP.on hb3; replace hoI1 := hoI1.on hb3; have x0 := lP.cell 0; have x1 := lP.cell 1; have x2 := lP.cell 2; have x3 := lP.cell 3; have x4 := lP.cell 4; have x5 := lP.cell 5; simp only [List.getElem?_toArray, List.getElem?_cons_succ, List.getElem?_cons_zero] at x0 x1 x2 x3 x4 x5)
          | (go_at_call 12; (with_reducible refine (HC.out _ hb1).mono ?_); rintro e w4 ⟨rfl, hb4⟩; replace hb1 := below_on hb1 hb4; replace lP := lP.on hb4; replace hoI1 := hoI1.on hb4; have x0 := lP.cell 0; have x1 := lP.cell 1; have x2 := lP.cell 2; have x3 := lP.cell 3; have x4 := lP.cell 4; have x5 := lP.cell 5; simp only [List.getElem?_toArray, List.getElem?_cons_succ, List.getElem?_cons_zero] at x0 x1 x2 x3 x4 x5)
          | (go_at_call 14; (with_reducible refine (HD.out _ hb1).mono ?_); rintro e w5 ⟨rfl, hb5⟩; replace hb1 := below_on hb1 hb5; replace lP := lP.on hb5; replace hoI1 := hoI1.on hb5; have x0 := lP.cell 0; have x1 := lP.cell 1; have x2 := lP.cell 2; have x3 := lP.cell 3; have x4 := lP.cell 4; have x5 := lP.cell 5; simp only [List.getElem?_toArray, List.getElem?_cons_succ, List.getElem?_cons_zero] at x0 x1 x2 x3 x4 x5))
        obtain ⟨m, hm⟩ : ∃ m, Hid (m = j + 1) := ⟨_, Lib.hid rfl⟩
        have hra : (valL (S.take j)).length + ([[.int .i64 p.val.kind, .int .i64 p.val.num, .string ⟨p.val.txt.toArray⟩, .slice xi p.val.items.length xc, .slice xk p.val.keys.length xd]] : List (List Value)).length ≤ maxLen := by rw [len_valL hjl]; unfold maxLen; simp only [List.length_cons, List.length_nil]; omega
        have hrb : ((valL (S.take j)).length + ([[.int .i64 p.val.kind, .int .i64 p.val.num, .string ⟨p.val.txt.toArray⟩, .slice xi p.val.items.length xc, .slice xk p.val.keys.length xd]] : List (List Value)).length) * 80 ≤ 140737488355328 := by rw [len_valL hjl]; simp only [List.length_cons, List.length_nil]; omega
        have hrc : (valL (S.take j) ++ ([[.int .i64 p.val.kind, .int .i64 p.val.num, .string ⟨p.val.txt.toArray⟩, .slice xi p.val.items.length xc, .slice xk p.val.keys.length xd]] : List (List Value))).length = m := by rw [List.length_append, len_valL hjl, hm.out]; rfl
        have hru : ∀ u ∈ ([[.int .i64 p.val.kind, .int .i64 p.val.num, .string ⟨p.val.txt.toArray⟩, .slice xi p.val.items.length xc, .slice xk p.val.keys.length xd]] : List (List Value)).flatten, u.oneCell' = true := one_five _ _ _ _ _ _ _ _ _
        have hbl : Below w5.heap.size w5 (w5.alloc (.cells #[.int .i64 p.val.kind, .int .i64 p.val.num, .string ⟨p.val.txt.toArray⟩, .slice xi p.val.items.length xc, .slice xk p.val.keys.length xd] 25)) := (Below.refl _ _).alloc (Nat.le_refl _) _
        have hrl := RowL.lit w5 25 5 [.int .i64 p.val.kind, .int .i64 p.val.num, .string ⟨p.val.txt.toArray⟩, .slice xi p.val.items.length xc, .slice xk p.val.keys.length xd] rfl
        have hoI2 := hoI1.on hbl
        have hb2 := on_below hb1 hbl hb1.size
        have hbs := hb2.size
        go_wp2_with ((with_reducible refine wpL_appendL W.heap.size 25 iV (.agg valZ) 5 80 Tryd.underlying22 hi hz0 hz1 hz2 rfl (by decide) _ (valL (S.take j)) hoI2 _ [[.int .i64 p.val.kind, .int .i64 p.val.num, .string ⟨p.val.txt.toArray⟩, .slice xi p.val.items.length xc, .slice xk p.val.keys.length xd]] hrl hru hra hrb hbs ?_ ?_ ?_); rfl; rfl; intro vc wc hoc hgc; obtain ⟨ac, cc, rfl, _, _⟩ := hoc.form2 hrc; have hb7 := hb2.grown hgc hbs (fun k hk => by have := hoI2.lt k hk; omega))
        go_roundw
        case rel => obtain rfl := hm.out; exact ⟨j + 1, n + pc, max e pd, ac, cc, by go_num, congrArg (Value.int .i64) (by omega), rfl, by go_num, by omega, by omega, by omega, HS2, by rw [HI.out]; exact hoc, hb7⟩
        case measure => simp [intOf]; omega
    · obtain rfl : j = S.length := by omega
      rw [List.take_of_length_le (Nat.le_refl _)] at hoI
      obtain ⟨_, _, hz1, hz2⟩ := sizes_all (List.Perm.refl S) HS.out
      have HSz := Lib.hid (fun (S' : List PairT) (hp : S'.Perm S) => sizes_all hp HS.out)
      have hlv : (valL S).length = S.length := by unfold valL; rw [List.length_map]
      have HL := Lib.hid (list_any _ (valL S) wr hoI.read (one_valL (fun p hp => (HP.out p hp).1)) (by omega))
      clear HRow HS hoI
      go_upto_region 14 with (go_at_call 25; (with_reducible refine HL.out.mono ?_); rintro e6 w6 ⟨v', rfl, ho6, hb6⟩; obtain ⟨va, vc, rfl, _, _⟩ := ho6.form2 hlv)
      have hba := (Below.refl w6.heap.size w6).alloc (Nat.le_refl _) (.cells #[.int .i64 3, .int .i64 0, .string ⟨#[]⟩, .slice va S.length vc, .slice none 0 0] 25)
      have lV := Lies.new w6 25 #[.int .i64 3, .int .i64 0, .string ⟨#[]⟩, .slice va S.length vc, .slice none 0 0]
      have ho8 := ho6.on hba
      have hb8 := on_below (below_on hb hb6) hba (below_on hb hb6).size
      generalize hg8 : w6.heap.size = g8 at *
      generalize w6.alloc (.cells #[.int .i64 3, .int .i64 0, .string ⟨#[]⟩, .slice va S.length vc, .slice none 0 0] 25) = w8 at *
      have hv8 := isV_vals ho8.read (fun p hp => (HP.out p hp).1.below hb8)
      have HC8 := Lib.hid (fun (w1 : World) (hb : Below w8.heap.size w8 w1) => count_any (d + 1) _ _ w1 (hv8.below hb) (by omega) (by omega))
      have HD8 := Lib.hid (fun (w1 : World) (hb : Below w8.heap.size w8 w1) => depth_any (d + 1) _ _ w1 (hv8.below hb) (by omega) (by omega))
      rw [hz1] at HC8
      rw [hz2, show ((e + 1 : Nat) : Int) = (e : Int) + 1 by omega] at HD8
      have hbx := Below.refl w8.heap.size w8
      have y0 := lV.cell 0; have y1 := lV.cell 1; have y2 := lV.cell 2; have y3 := lV.cell 3; have y4 := lV.cell 4; simp only [List.getElem?_toArray, List.getElem?_cons_succ, List.getElem?_cons_zero] at y0 y1 y2 y3 y4
      clear hz1 hz2 ho6 ho8 hba hb6 hv8 HL hg8
      go_upto_region 17 with (first
        | (go_at_call 12; (with_reducible refine (HC8.out _ hbx).mono ?_); rintro e1 w9 ⟨rfl, hb9⟩; replace hbx := hbx.trans (hb9.mono hbx.size); replace lV := lV.on hb9; have y0 := lV.cell 0; have y1 := lV.cell 1; have y2 := lV.cell 2; have y3 := lV.cell 3; have y4 := lV.cell 4; simp only [List.getElem?_toArray, List.getElem?_cons_succ, List.getElem?_cons_zero] at y0 y1 y2 y3 y4)
        | (go_at_call 14; (with_reducible refine (HD8.out _ hbx).mono ?_); rintro e2 wa ⟨rfl, hba⟩; replace hbx := hbx.trans (hba.mono hbx.size); replace lV := lV.on hba; have y0 := lV.cell 0; have y1 := lV.cell 1; have y2 := lV.cell 2; have y3 := lV.cell 3; have y4 := lV.cell 4; simp only [List.getElem?_toArray, List.getElem?_cons_succ, List.getElem?_cons_zero] at y0 y1 y2 y3 y4)
        | (go_at_call 10; (with_reducible refine (HAl.out _ (on_below hb8 hbx hb8.size)).mono ?_); rintro e3 wb ⟨rfl, hbb⟩; replace hbx := hbx.trans (hbb.mono hbx.size))
        | (go_at_call 21; (with_reducible refine (mapV_any d _ S _ (HPs.out _ (on_below hb8 hbx hb8.size)) (by omega)).mono ?_); rintro e4 wc ⟨⟨cs1, er, rfl, hans⟩, hbc⟩; obtain ⟨k, n1, s1, ai1, ni, ci1, ak1, nk, ck1, rfl⟩ := hans.form))
      have hbd := on_below (on_below hb8 hbx hb8.size) hbc (on_below hb8 hbx hb8.size).size
      obtain ⟨t, hv, hcase⟩ := hans.val (fun p hp => ⟨(HP.out p hp).1.below hbd, (HP.out p hp).2⟩)
      rcases hcase with ⟨rfl, S', hperm, _, rfl⟩ | ⟨rfl, _, _⟩
      · obtain ⟨hz1, hz2, _, _⟩ := HSz.out S' hperm
        have hba := (Below.refl wc.heap.size wc).alloc (Nat.le_refl _) (.cells #[.int .i64 k, .int .i64 n1, .string s1, .slice ai1 ni ci1, .slice ak1 nk ck1] 25)
        have lM := Lies.new wc 25 #[.int .i64 k, .int .i64 n1, .string s1, .slice ai1 ni ci1, .slice ak1 nk ck1]
        have hvm := hv.below hba
        have hbe := on_below hbd hba hbd.size
        clear hv hba hbd hbc hans HSz HC8 HD8 lV hb8 hbx
        generalize hgm : wc.heap.size = gm at *
        generalize wc.alloc (.cells #[.int .i64 k, .int .i64 n1, .string s1, .slice ai1 ni ci1, .slice ak1 nk ck1] 25) = wd at *
        have HCm := Lib.hid (fun (w1 : World) (hb : Below wd.heap.size wd w1) => count_any (d + 1) _ _ w1 (hvm.below hb) (by omega) (by omega))
        have HDm := Lib.hid (fun (w1 : World) (hb : Below wd.heap.size wd w1) => depth_any (d + 1) _ _ w1 (hvm.below hb) (by omega) (by omega))
        rw [hz1] at HCm
        rw [hz2, show ((e + 1 : Nat) : Int) = (e : Int) + 1 by omega] at HDm
        have hbx := Below.refl wd.heap.size wd
        have x0 := lM.cell 0; have x1 := lM.cell 1; have x2 := lM.cell 2; have x3 := lM.cell 3; have x4 := lM.cell 4; simp only [List.getElem?_toArray, List.getElem?_cons_succ, List.getElem?_cons_zero] at x0 x1 x2 x3 x4
        clear hvm hz1 hz2 hgm
        go_wp2_with (first
          | (go_at_call 12; (with_reducible refine (HCm.out _ hbx).mono ?_); rintro e5 we ⟨rfl, hb5⟩; replace hbx := hbx.trans (hb5.mono hbx.size); replace lM := lM.on hb5; have x0 := lM.cell 0; have x1 := lM.cell 1; have x2 := lM.cell 2; have x3 := lM.cell 3; have x4 := lM.cell 4; simp only [List.getElem?_toArray, List.getElem?_cons_succ, List.getElem?_cons_zero] at x0 x1 x2 x3 x4)
          | (go_at_call 14; (with_reducible refine (HDm.out _ hbx).mono ?_); rintro e6 wf ⟨rfl, hb6⟩; replace hbx := hbx.trans (hb6.mono hbx.size)))
        go_ret
        exact ⟨rfl, on_below hbe hbx hbe.size⟩
      · go_wp2
        go_ret
        exact ⟨rfl, hbd.alloc hbd.size _⟩
end Go.Proofs.YtdfdpckcemdimaaDoor.V
