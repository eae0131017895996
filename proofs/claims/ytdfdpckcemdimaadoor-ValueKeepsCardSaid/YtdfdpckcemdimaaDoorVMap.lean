/- The developers' Map. -/
import Derived.Test.YtdfdpckcemdimaaDoorVSort
import Derived.Test.YtdfdpckcemdimaaDoorVMake
namespace Go.Proofs.YtdfdpckcemdimaaDoor.V
open Go.RowKit Go.Sort Go.Joins
set_option maxRecDepth 100000

theorem OwnL.kept2 {w w' : World} {B B' : Nat} {e e' : TypeId} {k k' : Nat} {v u : Value} {css css' : List (List Value)} (h : OwnL w B e k v css) (hu : OwnL w B' e' k' u css') (hg : w.grownBy w' u.ownBlock) (hne : e ≠ e') : OwnL w' B e k v css := by
  refine ⟨h.1, h.2.kept hg ?_⟩
  rcases h.2.2 with ⟨rfl, _⟩ | ⟨g, cap, cur, rfl, _, hh, _⟩
  · exact .inl rfl
  · refine .inr fun e1 => ?_
    rcases hu.2.2 with ⟨rfl, _⟩ | ⟨g2, cap2, cur2, rfl, _, hh2, _⟩
    · cases e1
    · simp only [Value.ownBlock, Option.some.injEq] at e1
      subst e1
      rw [hh] at hh2
      simp only [Option.some.injEq, Obj.cells.injEq] at hh2
      exact hne hh2.2.1
theorem Lies.kept {w w' : World} {g B : Nat} {t e : TypeId} {k : Nat} {cs : Array Value} {u : Value} {css : List (List Value)} (h : Lies w g t cs) (hu : OwnL w B e k u css) (hg : w.grownBy w' u.ownBlock) (hne : t ≠ e) : Lies w' g t cs := by
  refine h.only hg fun e1 => ?_
  rcases hu.2.2 with ⟨rfl, _⟩ | ⟨g2, cap2, cur2, rfl, _, hh2, _⟩
  · cases e1
  · simp only [Value.ownBlock, Option.some.injEq] at e1
    subst e1
    unfold Lies at h
    rw [h] at hh2
    simp only [Option.some.injEq, Obj.cells.injEq] at hh2
    exact hne hh2.2.1
theorem Lies.keptLt {w w' : World} {g B : Nat} {t e : TypeId} {k : Nat} {cs : Array Value} {u : Value} {css : List (List Value)} (h : Lies w g t cs) (hu : OwnL w B e k u css) (hg : w.grownBy w' u.ownBlock) (hlt : g < B) : Lies w' g t cs :=
  h.only hg fun e1 => by have := hu.lt g e1.symm; omega
theorem OwnL.form2 {w : World} {B : Nat} {e : TypeId} {k n : Nat} {v : Value} {css : List (List Value)} (h : OwnL w B e k v css) (hn : css.length = n) : ∃ a c, v = .slice a n c ∧ n ≤ c ∧ c ≤ maxLen := by
  obtain ⟨a, c, rfl, hc, hm, _⟩ := h.form
  rw [hn] at hc ⊢
  exact ⟨a, c, rfl, hc, hm⟩
theorem range6 {w : World} {b o : Nat} {c0 c1 c2 c3 c4 c5 : Value} (h : w.rangeAt b o [c0, c1, c2, c3, c4, c5]) :
    w.cell? ⟨b, o, none⟩ = some c0 ∧ w.cell? ⟨b, o + 1, none⟩ = some c1 ∧ w.cell? ⟨b, o + 2, none⟩ = some c2 ∧ w.cell? ⟨b, o + 3, none⟩ = some c3 ∧ w.cell? ⟨b, o + 4, none⟩ = some c4 ∧ w.cell? ⟨b, o + 5, none⟩ = some c5 := ⟨h 0 _ rfl, h 1 _ rfl, h 2 _ rfl, h 3 _ rfl, h 4 _ rfl, h 5 _ rfl⟩

theorem one_five (a b : Int) (s : ByteArray) (x y : Option Addr) (n m c d : Nat) : ∀ u ∈ [[(Value.int .i64 a : Value), .int .i64 b, .string s, .slice x n c, .slice y m d]].flatten, u.oneCell' = true := by
  intro u hu
  simp only [List.flatten_cons, List.flatten_nil, List.append_nil, List.mem_cons, List.not_mem_nil, or_false] at hu
  rcases hu with rfl | rfl | rfl | rfl | rfl <;> rfl
theorem setCell_size (w : World) (p : Addr) (v : Value) : (w.setCell p v).heap.size = w.heap.size := by simp
/-- values by keys -/
def mapT (S : List PairT) : VT := .mk 4 0 [] (S.map (·.val)) (S.map (·.key))
def Rising (S : List PairT) : Prop := ∀ (i : Nat) (p q : PairT), S[i]? = some p → S[i + 1]? = some q → lessL p.key q.key = true
def keyC (S : List PairT) : List (List Value) := S.map fun p => [str p.key]
def valL (S : List PairT) : List (List Value) := S.map (·.cells)
/-- Map's answer, in blocks from B on: pairs in their order, or a number -/
def Ans (B : Nat) (S : List PairT) (cs : List Value) (er : Int) (w : World) : Prop :=
  (er = 0 ∧ ∃ S' : List PairT, S'.Perm S ∧ Rising S' ∧ ∃ vi vk : Value, cs = [.int .i64 4, .int .i64 0, .string ⟨#[]⟩, vi, vk] ∧ OwnL w B 25 5 vi (valL S') ∧ OwnL w B 9 1 vk (keyC S')) ∨
  (er = 23 ∧ ¬ (S.map (·.key)).Nodup ∧ cs = [.int .i64 0, .int .i64 0, .string ⟨#[]⟩, .slice none 0 0, .slice none 0 0])
theorem Ans.on {B : Nat} {S : List PairT} {cs : List Value} {er : Int} {w w' : World} (h : Ans B S cs er w) (hb : Below w.heap.size w w') : Ans B S cs er w' := by
  rcases h with ⟨he, S', h1, h2, vi, vk, hc, hi, hk⟩ | h
  · exact .inl ⟨he, S', h1, h2, vi, vk, hc, hi.on hb, hk.on hb⟩
  · exact .inr h
theorem Ans.rowFar {B g : Nat} {S : List PairT} {cs : List Value} {er : Int} {w : World} (h : Ans B S cs er w) (hg : g < B) (old : Array Value) : Ans B S cs er (w.setRow g old) := by
  rcases h with ⟨he, S', h1, h2, vi, vk, hc, hi, hk⟩ | h
  · exact .inl ⟨he, S', h1, h2, vi, vk, hc, hi.rowFar hg old, hk.rowFar hg old⟩
  · exact .inr h
theorem Ans.form {B : Nat} {S : List PairT} {cs : List Value} {er : Int} {w : World} (h : Ans B S cs er w) : ∃ (k n : Int) (s : ByteArray) (ai : Option Addr) (ni ci : Nat) (ak : Option Addr) (nk ck : Nat), cs = [.int .i64 k, .int .i64 n, .string s, .slice ai ni ci, .slice ak nk ck] := by
  rcases h with ⟨_, S', _, _, vi, vk, rfl, hi, hk⟩ | ⟨_, _, rfl⟩
  · obtain ⟨ai, ci, rfl, _⟩ := hi.form
    obtain ⟨ak, ck, rfl, _⟩ := hk.form
    exact ⟨_, _, _, _, _, _, _, _, _, rfl⟩
  · exact ⟨_, _, _, _, _, _, _, _, _, rfl⟩
def MapPost (B : Nat) (S : List PairT) (e : Ending) (w : World) : Prop := ∃ (cs : List Value) (er : Int), e = .returned (.tuple #[.agg cs.toArray, .int .i64 er]) ∧ Ans B S cs er w
theorem strs_of_keyC {w : World} {v : Value} {S : List PairT} (h : RowL w 1 v (keyC S)) : Strs w v (S.map (·.key)) := by
  obtain ⟨h0, a, c, rfl, hc, hm, hn, hl⟩ := h
  have e : (keyC S).length = (S.map (·.key)).length := by unfold keyC; simp
  rw [e] at hc hl ⊢
  refine ⟨a, c, rfl, hc, hm, hn, fun hne => ?_⟩
  obtain ⟨b, off, ha, hx⟩ := hl (List.length_pos_iff.2 hne)
  refine ⟨b, off, ha, fun i x hi => ?_⟩
  rw [List.getElem?_map] at hi
  obtain ⟨p, hp, rfl⟩ := Option.map_eq_some_iff.1 hi
  have := hx i [str p.key] (by unfold keyC; rw [List.getElem?_map, hp]; rfl) 0 (str p.key) rfl
  rwa [Nat.mul_one] at this
theorem mapT_isV {w : World} {d : Nat} {vi vk : Value} {S : List PairT} (hi : RowL w 5 vi (valL S)) (hk : RowL w 1 vk (keyC S)) (hS : ∀ p ∈ S, IsV w d p.cells p.val ∧ p.key.length ≤ maxLen) : IsV w (d + 1) [.int .i64 4, .int .i64 0, .string ⟨#[]⟩, vi, vk] (mapT S) := by
  refine isV_make (s := []) hi (by unfold valL; simp) (fun i cs h => ?_) (strs_of_keyC hk) ⟨(show -9223372036854775808 ≤ (4 : Int) ∧ (4 : Int) ≤ 9223372036854775807 by decide), (show -9223372036854775808 ≤ (0 : Int) ∧ (0 : Int) ≤ 9223372036854775807 by decide), Nat.zero_le _, fun x hx => ?_⟩
  · unfold valL at h
    rw [List.getElem?_map] at h
    obtain ⟨p, hp, rfl⟩ := Option.map_eq_some_iff.1 h
    exact ⟨p.val, by rw [List.getElem?_map, hp]; rfl, (hS p (List.mem_of_getElem? hp)).1⟩
  · obtain ⟨p, hp, rfl⟩ := List.mem_map.1 hx
    exact (hS p hp).2
theorem twice_not {S S' : List PairT} (hp : S'.Perm S) {i : Nat} {p q : PairT} (h1 : S'[i]? = some p) (h2 : S'[i + 1]? = some q) (he : p.key = q.key) : ¬ (S.map (·.key)).Nodup := by
  intro hn
  have hn2 : (S'.map (·.key)).Nodup := ((hp.map (·.key)).nodup_iff).2 hn
  have a1 : (S'.map (·.key))[i]? = some p.key := by rw [List.getElem?_map, h1]; rfl
  have a2 : (S'.map (·.key))[i + 1]? = some p.key := by rw [List.getElem?_map, h2, he]; rfl
  obtain ⟨l1, e1⟩ := List.getElem?_eq_some_iff.1 a1
  obtain ⟨l2, e2⟩ := List.getElem?_eq_some_iff.1 a2
  have := (List.nodup_iff_pairwise_ne.1 hn2)
  have := List.pairwise_iff_getElem.1 this i (i + 1) l1 l2 (Nat.lt_succ_self _)
  exact this (e1.trans e2.symm)
theorem take_keyC {S : List PairT} {j : Nat} {p : PairT} (h : S[j]? = some p) : keyC (S.take (j + 1)) = keyC (S.take j) ++ [[str p.key]] := by
  obtain ⟨hlt, rfl⟩ := List.getElem?_eq_some_iff.1 h
  unfold keyC
  rw [List.take_succ_eq_append_getElem hlt, List.map_append]
  rfl
theorem take_valL {S : List PairT} {j : Nat} {p : PairT} (h : S[j]? = some p) : valL (S.take (j + 1)) = valL (S.take j) ++ [p.cells] := by
  obtain ⟨hlt, rfl⟩ := List.getElem?_eq_some_iff.1 h
  unfold valL
  rw [List.take_succ_eq_append_getElem hlt, List.map_append]
  rfl
theorem len_keyC {S : List PairT} {j : Nat} (h : j ≤ S.length) : (keyC (S.take j)).length = j := by unfold keyC; simp; omega
theorem len_valL {S : List PairT} {j : Nat} (h : j ≤ S.length) : (valL (S.take j)).length = j := by unfold valL; simp; omega
set_option maxHeartbeats 6400000 in
theorem mapV_any (d : Nat) (v : Value) (S : List PairT) (W : World) (h : Pairs W d v S) (hn : S.length ≤ 1000) :
    Calls Tryd.prog 21 #[v] W fun e w' => MapPost W.heap.size S e w' ∧ Below W.heap.size W w' := by
  obtain ⟨iV, hi, hz0, hz1, hz2⟩ := info_parts infoV
  obtain ⟨iS, hj, hy0, hy1, hy2⟩ := info_parts infoS
  have hgood : ∀ p ∈ S, goodC p.cells = true := fun p hp => goodC_of (h.2 p hp).1
  have hall : S.map PairT.all = S.map encP := List.map_congr_left fun p hp => (encP_good (hgood p hp)).symm
  have hrow := h.1
  rw [hall] at hrow
  have hone : ∀ u ∈ (S.map encP).flatten, u.oneCell' = true := by
    intro u hu
    obtain ⟨cs, hcs, hu⟩ := List.mem_flatten.1 hu
    obtain ⟨p, _, rfl⟩ := List.mem_map.1 hcs
    exact (encP_form p).choose_spec.choose_spec.choose_spec.choose_spec.choose_spec.2 u hu
  have hB := (Below.refl W.heap.size W).alloc (Nat.le_refl _) (.cells valZ 25)
  have lR : Lies (W.alloc (.cells valZ 25)) W.heap.size 25 valZ := Lies.new W _ _
  have HC := Lib.hid (cloneP_any v (S.map encP) (W.alloc (.cells valZ 25)) (hrow.below hB) hone (by simpa using hn))
  have HS := Lib.hid (fun (u : Value) (B : Nat) (w1 : World) (ho : OwnL w1 B 39 6 u (S.map encP)) (hB : B ≤ w1.heap.size) => sortP_any u S B w1 ho hn hB)
  have HP := Lib.hid h.2
  have HG := Lib.hid hgood
  clear hrow hone hall hgood
  have hsz : (W.alloc (.cells valZ 25)).heap.size = W.heap.size + 1 := by simp
  clear h
  go_enter Tryd.func21, Tryd.ntmps21
  go_upto_region 3 with (first
    | (go_at_call 34; (with_reducible refine HC.out.mono ?_); rintro e w1 ⟨v1, rfl, ho, hb1⟩; replace lR := lR.on hb1; replace hB := below_on hB hb1; rw [hsz] at ho; obtain ⟨va, vc, rfl, hvc, hvm⟩ := ho.form2 (n := S.length) (by simp); have hB1 : W.heap.size + 1 ≤ w1.heap.size := by rw [← hsz]; exact hb1.size)
    | (go_at_call 35; (with_reducible refine (HS.out _ _ _ ho hB1).mono ?_); rintro e w2 ⟨rfl, S', hperm, hord, hrow, hb2⟩))
  have hB2 : Below W.heap.size W w2 := hB.trans (hb2.mono (Nat.le_succ _))
  have lR2 : Lies w2 W.heap.size 25 valZ := lR.below hb2 (Nat.lt_succ_self _)
  have hlen := hperm.length_eq
  have HPm := Lib.hid (fun (p : PairT) (hp : p ∈ S') => HP.out p (hperm.mem_iff.1 hp))
  have HGm := Lib.hid (fun (p : PairT) (hp : p ∈ S') => HG.out p (hperm.mem_iff.1 hp))
  have HRow := Lib.hid (fun (j : Nat) (p : PairT) (hp : S'[j]? = some p) => hrow.at (i := j) (cs := encP p) (by rw [List.getElem?_map, hp]; rfl))
  have HTw := Lib.hid (fun (i : Nat) (p q : PairT) (h1 : S'[i]? = some p) (h2 : S'[i + 1]? = some q) => twice_not hperm h1 h2)
  have HLen := Lib.hid hlen
  have hWg : W.heap.size < w2.heap.size := by have := hb2.size; omega
  clear HC HS HP HG hrow ho hb1 hb2 lR hB hsz hlen hB1
  have lV0 := Lies.new w2 25 #[.int .i64 4, .int .i64 0, .string ⟨#[]⟩, .slice none 0 0, .slice none 0 0]
  go_wp2
  go_loopw [15] (fun iv wr => ∃ (j : Nat) (ai : Option Addr) (ci : Nat) (ak : Option Addr) (ck : Nat), iv = .int .i64 j ∧ j ≤ S.length ∧ Hid (∀ (i : Nat) (p q : PairT), i + 1 < j → S'[i]? = some p → S'[i + 1]? = some q → p.key ≠ q.key) ∧ Lies wr w2.heap.size 25 #[.int .i64 4, .int .i64 0, .string ⟨#[]⟩, .slice ai j ci, .slice ak j ck] ∧ OwnL wr (w2.heap.size + 1) 25 5 (.slice ai j ci) (valL (S'.take j)) ∧ OwnL wr (w2.heap.size + 1) 9 1 (.slice ak j ck) (keyC (S'.take j)) ∧ Below w2.heap.size w2 wr ∧ w2.heap.size + 1 ≤ wr.heap.size) (fun iv _ => S.length - (intOf iv).toNat)
  case atStart => exact ⟨0, none, 0, none, 0, rfl, Nat.zero_le _, Lib.hid (fun i p q h => absurd h (by omega)), lV0, OwnL.nil _ _ _ _, OwnL.nil _ _ _ _, (Below.refl _ w2).alloc (Nat.le_refl _) _, by simp⟩
  case round =>
    clear lV0
    obtain ⟨j, ai, ci, ak, ck, rfl, hjl, HD, lV, hoI, hoK, hb, hsz⟩ := hrel
    by_cases hlt : j < S.length
    · obtain ⟨p, hp⟩ : ∃ p, S'[j]? = some p := ⟨S'[j]'(by rw [HLen.out]; exact hlt), List.getElem?_eq_getElem _⟩
      have hpm := List.mem_of_getElem? hp
      obtain ⟨b, off, rfl, hra, _⟩ := HRow.out j p hp
      rw [encP_good (HGm.out p hpm)] at hra
      obtain ⟨xi, xc, xk, xd, hcs⟩ := (HPm.out p hpm).1.form
      unfold PairT.all at hra
      rw [hcs] at hra
      obtain ⟨k0, k1, k2, k3, k4, k5⟩ := range6 (range_below hb hra)
      unfold str at k0
      have HK := Lib.hid (take_keyC hp)
      have HI := Lib.hid (take_valL hp)
      rw [hcs] at HI
      have hba := (Below.refl wr.heap.size wr).alloc (Nat.le_refl _) (.cells #[.string ⟨p.key.toArray⟩, .int .i64 p.val.kind, .int .i64 p.val.num, .string ⟨p.val.txt.toArray⟩, .slice xi p.val.items.length xc, .slice xk p.val.keys.length xd] 39)
      have lP := Lies.new wr 39 #[.string ⟨p.key.toArray⟩, .int .i64 p.val.kind, .int .i64 p.val.num, .string ⟨p.val.txt.toArray⟩, .slice xi p.val.items.length xc, .slice xk p.val.keys.length xd]
      replace lV := lV.on hba
      replace hoI := hoI.on hba
      replace hoK := hoK.on hba
      have hsz0 : wr.heap.size + 1 = (wr.alloc (.cells #[.string ⟨p.key.toArray⟩, .int .i64 p.val.kind, .int .i64 p.val.num, .string ⟨p.val.txt.toArray⟩, .slice xi p.val.items.length xc, .slice xk p.val.keys.length xd] 39)).heap.size := by simp
      have hgp : w2.heap.size < wr.heap.size := by omega
      have hbx := on_below hb hba hb.size
      rcases Nat.eq_zero_or_pos j with hz | hz
      · subst hz
        simp only [Nat.zero_mul, Nat.add_zero] at k0 k1 k2 k3 k4 k5
        go_upto_region 7 with fail
        generalize hga : World.alloc wr _ = wa at *
        have x0 := lP.cell 0
        simp only [List.getElem?_toArray, List.getElem?_cons_zero] at x0
        have u0 := cell_regrown x0
        clear x0
        refine wp_region_quiet_below (by kernel_rfl) (by kernel_rfl) ?_
        repeat (go_big_quiet_step (fail))
        refine wpQuiet_nil ?_
        intro _ hw'
        obtain ⟨⟨dq, osq⟩, hw''⟩ := hw'
        subst hw''
        have hbb := below_regrown wa dq osq
        generalize grow (redrawn wa dq) osq = wb at *
        replace lV := lV.on hbb
        replace lP := lP.on hbb
        replace hoI := hoI.on hbb
        replace hoK := hoK.on hbb
        have hb2 := on_below hbx hbb hbx.size
        have hsb : w2.heap.size + 1 ≤ wb.heap.size := Nat.le_trans (by rw [← hsz0]; omega) hbb.size
        clear hbb hbx hba u0 hga hsz0
        obtain ⟨m, hm⟩ : ∃ m, Hid (m = 0 + 1) := ⟨_, Lib.hid rfl⟩
        have hbl : Below wb.heap.size wb (wb.alloc (.cells #[.string ⟨p.key.toArray⟩] 9)) := (Below.refl _ _).alloc (Nat.le_refl _) _
        have lV1 := lV.on hbl
        have lP1 := lP.on hbl
        have hoI1 := hoI.on hbl
        have hoK1 := hoK.on hbl
        have hb3 := on_below hb2 hbl hb2.size
        have hsl := Nat.le_trans hsb hbl.size
        have hrl := RowL.lit wb 9 1 [.string ⟨p.key.toArray⟩] rfl
        have hbs := Nat.le_trans hb2.size hbl.size
        have q4 := lV.cell 4; simp only [List.getElem?_toArray, List.getElem?_cons_succ, List.getElem?_cons_zero] at q4
        have x0 := lP.cell 0
        simp only [List.getElem?_toArray, List.getElem?_cons_zero] at x0
        clear hbl lV lP hoI hoK hb2 hsb
        have hqa : (keyC (S'.take 0)).length + [[(Value.string ⟨p.key.toArray⟩ : Value)]].length ≤ maxLen := by rw [len_keyC (by rw [HLen.out]; omega)]; unfold maxLen; simp only [List.length_cons, List.length_nil]; omega
        have hqb : ((keyC (S'.take 0)).length + [[(Value.string ⟨p.key.toArray⟩ : Value)]].length) * 16 ≤ 140737488355328 := by rw [len_keyC (by rw [HLen.out]; omega)]; simp only [List.length_cons, List.length_nil]; omega
        have hqc : (keyC (S'.take 0) ++ [[(Value.string ⟨p.key.toArray⟩ : Value)]]).length = m := by rw [List.length_append, len_keyC (by rw [HLen.out]; omega), hm.out]; rfl
        have hqu : ∀ u ∈ [[(Value.string ⟨p.key.toArray⟩ : Value)]].flatten, u.oneCell' = true := fun u hu => by rcases List.mem_singleton.1 (show u ∈ [(Value.string ⟨p.key.toArray⟩ : Value)] from hu) with rfl; rfl
        have hra : (valL (S'.take 0)).length + ([[.int .i64 p.val.kind, .int .i64 p.val.num, .string ⟨p.val.txt.toArray⟩, .slice xi p.val.items.length xc, .slice xk p.val.keys.length xd]] : List (List Value)).length ≤ maxLen := by rw [len_valL (by rw [HLen.out]; omega)]; unfold maxLen; simp only [List.length_cons, List.length_nil]; omega
        have hrb : ((valL (S'.take 0)).length + ([[.int .i64 p.val.kind, .int .i64 p.val.num, .string ⟨p.val.txt.toArray⟩, .slice xi p.val.items.length xc, .slice xk p.val.keys.length xd]] : List (List Value)).length) * 80 ≤ 140737488355328 := by rw [len_valL (by rw [HLen.out]; omega)]; simp only [List.length_cons, List.length_nil]; omega
        have hrc : (valL (S'.take 0) ++ ([[.int .i64 p.val.kind, .int .i64 p.val.num, .string ⟨p.val.txt.toArray⟩, .slice xi p.val.items.length xc, .slice xk p.val.keys.length xd]] : List (List Value))).length = m := by rw [List.length_append, len_valL (by rw [HLen.out]; omega), hm.out]; rfl
        have hru : ∀ u ∈ ([[.int .i64 p.val.kind, .int .i64 p.val.num, .string ⟨p.val.txt.toArray⟩, .slice xi p.val.items.length xc, .slice xk p.val.keys.length xd]] : List (List Value)).flatten, u.oneCell' = true := one_five _ _ _ _ _ _ _ _ _
        go_upto_region 10 with ((with_reducible refine wpL_appendL (w2.heap.size + 1) 9 iS (.string ⟨#[]⟩) 1 16 Tryd.underlying23 hj hy0 hy1 hy2 rfl (by decide) _ (keyC (S'.take 0)) hoK1 _ [[.string ⟨p.key.toArray⟩]] hrl hqu hqa hqb hsl ?_ ?_ ?_); rfl; rfl; intro v9 w9 ho9 hg9; obtain ⟨a9, c9, rfl, _, _⟩ := ho9.form2 hqc; have lV2 := lV1.keptLt hoK1 hg9 (Nat.lt_succ_self _); have lP2 := lP1.kept hoK1 hg9 (by decide); have hoI2 := hoI1.kept2 hoK1 hg9 (by decide); have hb4 := hb3.grown hg9 hbs (fun k hk => by have := hoK1.lt k hk; omega); have hs4 := Nat.le_trans hsl hg9.size; have f4 := lV2.frozen 4; have q4 := lV2.cell 4; simp only [List.getElem?_toArray, List.getElem?_cons_succ, List.getElem?_cons_zero] at q4)
        clear lV1 lP1 hoI1 hoK1 hb3 hsl hrl hbs q4 f4 hg9 x0
        have lV3 : Lies (w9.setCell ⟨w2.heap.size, 4, none⟩ (.slice a9 m c9)) w2.heap.size 25 #[.int .i64 4, .int .i64 0, .string ⟨#[]⟩, .slice ai 0 ci, .slice a9 m c9] := lV2.put 4 _
        have lP3 := lP2.far (p := ⟨w2.heap.size, 4, none⟩) (show wr.heap.size ≠ w2.heap.size by omega) (.slice a9 m c9)
        have hoI3 := hoI2.far (Nat.lt_succ_self _) 4 (.slice a9 m c9)
        have hoK3 := ho9.far (Nat.lt_succ_self _) 4 (.slice a9 m c9)
        have hb5 := hb4.setCell (p := ⟨w2.heap.size, 4, none⟩) (Nat.le_refl _) (.slice a9 m c9)
        have hs5 : w2.heap.size + 1 ≤ (w9.setCell ⟨w2.heap.size, 4, none⟩ (.slice a9 m c9)).heap.size := by rw [setCell_size]; exact hs4
        clear lV2 lP2 hoI2 ho9 hb4 hs4
        generalize w9.setCell ⟨w2.heap.size, 4, none⟩ (.slice a9 m c9) = wd at *
        have hbl : Below wd.heap.size wd (wd.alloc (.cells #[.int .i64 p.val.kind, .int .i64 p.val.num, .string ⟨p.val.txt.toArray⟩, .slice xi p.val.items.length xc, .slice xk p.val.keys.length xd] 25)) := (Below.refl _ _).alloc (Nat.le_refl _) _
        have lV4 := lV3.on hbl
        have hoI4 := hoI3.on hbl
        have hoK4 := hoK3.on hbl
        have hb6 := on_below hb5 hbl hb5.size
        have hs6 := Nat.le_trans hs5 hbl.size
        have hrl := RowL.lit wd 25 5 [.int .i64 p.val.kind, .int .i64 p.val.num, .string ⟨p.val.txt.toArray⟩, .slice xi p.val.items.length xc, .slice xk p.val.keys.length xd] rfl
        have hbs := Nat.le_trans hb5.size hbl.size
        have r3 := lV3.cell 3; simp only [List.getElem?_toArray, List.getElem?_cons_succ, List.getElem?_cons_zero] at r3
        have x1 := lP3.cell 1; have x2 := lP3.cell 2; have x3 := lP3.cell 3; have x4 := lP3.cell 4; have x5 := lP3.cell 5; simp only [List.getElem?_toArray, List.getElem?_cons_succ, List.getElem?_cons_zero] at x1 x2 x3 x4 x5
        clear hbl lV3 lP3 hoI3 hoK3 hb5 hs5
        go_upto_region 11 with ((with_reducible refine wpL_appendL (w2.heap.size + 1) 25 iV (.agg valZ) 5 80 Tryd.underlying22 hi hz0 hz1 hz2 rfl (by decide) _ (valL (S'.take 0)) hoI4 _ [[.int .i64 p.val.kind, .int .i64 p.val.num, .string ⟨p.val.txt.toArray⟩, .slice xi p.val.items.length xc, .slice xk p.val.keys.length xd]] hrl hru hra hrb hs6 ?_ ?_ ?_); rfl; rfl; intro vc wc hoc hgc; obtain ⟨ac, cc, rfl, _, _⟩ := hoc.form2 hrc; have lV5 := lV4.keptLt hoI4 hgc (Nat.lt_succ_self _); have hoK5 := hoK4.kept2 hoI4 hgc (by decide); have hb7 := hb6.grown hgc hbs (fun k hk => by have := hoI4.lt k hk; omega); have hs7 := Nat.le_trans hs6 hgc.size; have f3 := lV5.frozen 3; have r3 := lV5.cell 3; simp only [List.getElem?_toArray, List.getElem?_cons_succ, List.getElem?_cons_zero] at r3)
        clear lV4 hoI4 hoK4 hb6 hs6 hrl hbs r3 f3 hgc x1 x2 x3 x4 x5
        have lV6 : Lies (wc.setCell ⟨w2.heap.size, 3, none⟩ (.slice ac m cc)) w2.heap.size 25 #[.int .i64 4, .int .i64 0, .string ⟨#[]⟩, .slice ac m cc, .slice a9 m c9] := lV5.put 3 _
        have hoI6 := hoc.far (Nat.lt_succ_self _) 3 (.slice ac m cc)
        have hoK6 := hoK5.far (Nat.lt_succ_self _) 3 (.slice ac m cc)
        have hb8 := hb7.setCell (p := ⟨w2.heap.size, 3, none⟩) (Nat.le_refl _) (.slice ac m cc)
        have hs8 : w2.heap.size + 1 ≤ (wc.setCell ⟨w2.heap.size, 3, none⟩ (.slice ac m cc)).heap.size := by rw [setCell_size]; exact hs7
        clear lV5 hoc hoK5 hb7 hs7
        generalize wc.setCell ⟨w2.heap.size, 3, none⟩ (.slice ac m cc) = we at *
        go_wp2
        go_roundw
        case rel => obtain rfl := hm.out; exact ⟨0 + 1, ac, cc, a9, c9, by go_num, by omega, Lib.hid (fun i p q h => absurd h (by omega)), lV6, by rw [HI.out]; exact hoI6, by rw [HK.out]; exact hoK6, hb8, hs8⟩
        case measure => simp [intOf]; omega
      · obtain ⟨k, rfl⟩ : ∃ k, j = k + 1 := ⟨j - 1, by omega⟩
        obtain ⟨q, hq⟩ : ∃ q, S'[k]? = some q := ⟨S'[k]'(by rw [HLen.out]; omega), List.getElem?_eq_getElem _⟩
        have g0 : wr.cell? ⟨b, off + k * 6, none⟩ = some (.string ⟨q.key.toArray⟩) := by
          obtain ⟨b', off', e1, hra', _⟩ := HRow.out k q hq
          rw [encP_good (HGm.out q (List.mem_of_getElem? hq))] at hra'
          simp only [Option.some.injEq, Addr.mk.injEq, and_true] at e1
          obtain ⟨rfl, rfl⟩ := e1
          exact range_below hb hra' 0 (str q.key) rfl
        have g1 := (hba.cell (World.block_lt_of_cell? wr _ g0)).trans g0
        have ej : ((k + 1 : Nat) : Int) = (k : Int) + 1 := by omega
        rw [ej]
        have hk1 : (k : Int) < (S.length : Int) := by omega
        have hk2 : (k : Int) + 1 < (S.length : Int) := by omega
        have HD2 := Lib.hid (fun (h : ¬ q.key = p.key) (i : Nat) (x y : PairT) (hi : i + 1 < k + 1 + 1) (h1 : S'[i]? = some x) (h2 : S'[i + 1]? = some y) => show x.key ≠ y.key from by
          rcases Nat.lt_or_ge (i + 1) (k + 1) with hlt2 | hge2
          · exact HD.out i x y hlt2 h1 h2
          · obtain rfl : i = k := by omega
            rw [hq] at h1
            rw [hp] at h2
            cases h1; cases h2; exact h)
        have HN := Lib.hid (fun (h : q.key = p.key) => HTw.out k q p hq hp h)
        clear HD hp hq ej g0
        go_upto_region 7 with fail
        generalize hga : World.alloc wr _ = wa at *
        have x0 := lP.cell 0
        simp only [List.getElem?_toArray, List.getElem?_cons_zero] at x0
        have u0 := cell_regrown x0
        clear x0
        have g2 := cell_regrown g1
        clear g1
        refine wp_region_quiet_below (by kernel_rfl) (by kernel_rfl) ?_
        repeat (go_big_quiet_step (fail))
        refine wpQuiet_nil ?_
        intro _ hw'
        obtain ⟨⟨dq, osq⟩, hw''⟩ := hw'
        subst hw''
        have hbb := below_regrown wa dq osq
        generalize grow (redrawn wa dq) osq = wb at *
        replace lV := lV.on hbb
        replace lP := lP.on hbb
        replace hoI := hoI.on hbb
        replace hoK := hoK.on hbb
        have hb2 := on_below hbx hbb hbx.size
        have hsb : w2.heap.size + 1 ≤ wb.heap.size := Nat.le_trans (by rw [← hsz0]; omega) hbb.size
        clear hbb hbx hba u0 hga hsz0
        clear g2
        by_cases hxy : q.key = p.key
        · rw [show (q.key == p.key) = true by simp [hxy]]
          have lR3 := lR2.below hb2 hWg
          have hbz := hB2.trans (hb2.mono (Nat.le_of_lt hWg))
          go_wp2_with ((with_reducible refine wpL_store W.heap.size 25 valZ valZ 5 rowVal rfl rfl (valC_one _ _ _ _ _ _ _ _ _) lR3 ?_ ?_ ?_); rfl; rfl)
          exact bodyPost_ret (results_row_tmp Tryd.results21 rowVal rfl (lR3.row _) rfl rfl) rfl ⟨⟨_, _, rfl, .inr ⟨rfl, HN.out hxy, rfl⟩⟩, below_rowSet hbz (Nat.le_refl _) _⟩
        · rw [show (q.key == p.key) = false by simp [hxy]]
          obtain ⟨m, hm⟩ : ∃ m, Hid (m = (k + 1) + 1) := ⟨_, Lib.hid rfl⟩
          have hbl : Below wb.heap.size wb (wb.alloc (.cells #[.string ⟨p.key.toArray⟩] 9)) := (Below.refl _ _).alloc (Nat.le_refl _) _
          have lV1 := lV.on hbl
          have lP1 := lP.on hbl
          have hoI1 := hoI.on hbl
          have hoK1 := hoK.on hbl
          have hb3 := on_below hb2 hbl hb2.size
          have hsl := Nat.le_trans hsb hbl.size
          have hrl := RowL.lit wb 9 1 [.string ⟨p.key.toArray⟩] rfl
          have hbs := Nat.le_trans hb2.size hbl.size
          have q4 := lV.cell 4; simp only [List.getElem?_toArray, List.getElem?_cons_succ, List.getElem?_cons_zero] at q4
          have x0 := lP.cell 0
          simp only [List.getElem?_toArray, List.getElem?_cons_zero] at x0
          clear hbl lV lP hoI hoK hb2 hsb
          have hqa : (keyC (S'.take (k + 1))).length + [[(Value.string ⟨p.key.toArray⟩ : Value)]].length ≤ maxLen := by rw [len_keyC (by rw [HLen.out]; omega)]; unfold maxLen; simp only [List.length_cons, List.length_nil]; omega
          have hqb : ((keyC (S'.take (k + 1))).length + [[(Value.string ⟨p.key.toArray⟩ : Value)]].length) * 16 ≤ 140737488355328 := by rw [len_keyC (by rw [HLen.out]; omega)]; simp only [List.length_cons, List.length_nil]; omega
          have hqc : (keyC (S'.take (k + 1)) ++ [[(Value.string ⟨p.key.toArray⟩ : Value)]]).length = m := by rw [List.length_append, len_keyC (by rw [HLen.out]; omega), hm.out]; rfl
          have hqu : ∀ u ∈ [[(Value.string ⟨p.key.toArray⟩ : Value)]].flatten, u.oneCell' = true := fun u hu => by rcases List.mem_singleton.1 (show u ∈ [(Value.string ⟨p.key.toArray⟩ : Value)] from hu) with rfl; rfl
          have hra : (valL (S'.take (k + 1))).length + ([[.int .i64 p.val.kind, .int .i64 p.val.num, .string ⟨p.val.txt.toArray⟩, .slice xi p.val.items.length xc, .slice xk p.val.keys.length xd]] : List (List Value)).length ≤ maxLen := by rw [len_valL (by rw [HLen.out]; omega)]; unfold maxLen; simp only [List.length_cons, List.length_nil]; omega
          have hrb : ((valL (S'.take (k + 1))).length + ([[.int .i64 p.val.kind, .int .i64 p.val.num, .string ⟨p.val.txt.toArray⟩, .slice xi p.val.items.length xc, .slice xk p.val.keys.length xd]] : List (List Value)).length) * 80 ≤ 140737488355328 := by rw [len_valL (by rw [HLen.out]; omega)]; simp only [List.length_cons, List.length_nil]; omega
          have hrc : (valL (S'.take (k + 1)) ++ ([[.int .i64 p.val.kind, .int .i64 p.val.num, .string ⟨p.val.txt.toArray⟩, .slice xi p.val.items.length xc, .slice xk p.val.keys.length xd]] : List (List Value))).length = m := by rw [List.length_append, len_valL (by rw [HLen.out]; omega), hm.out]; rfl
          have hru : ∀ u ∈ ([[.int .i64 p.val.kind, .int .i64 p.val.num, .string ⟨p.val.txt.toArray⟩, .slice xi p.val.items.length xc, .slice xk p.val.keys.length xd]] : List (List Value)).flatten, u.oneCell' = true := one_five _ _ _ _ _ _ _ _ _
          go_upto_region 10 with ((with_reducible refine wpL_appendL (w2.heap.size + 1) 9 iS (.string ⟨#[]⟩) 1 16 Tryd.underlying23 hj hy0 hy1 hy2 rfl (by decide) _ (keyC (S'.take (k + 1))) hoK1 _ [[.string ⟨p.key.toArray⟩]] hrl hqu hqa hqb hsl ?_ ?_ ?_); rfl; rfl; intro v9 w9 ho9 hg9; obtain ⟨a9, c9, rfl, _, _⟩ := ho9.form2 hqc; have lV2 := lV1.keptLt hoK1 hg9 (Nat.lt_succ_self _); have lP2 := lP1.kept hoK1 hg9 (by decide); have hoI2 := hoI1.kept2 hoK1 hg9 (by decide); have hb4 := hb3.grown hg9 hbs (fun k hk => by have := hoK1.lt k hk; omega); have hs4 := Nat.le_trans hsl hg9.size; have f4 := lV2.frozen 4; have q4 := lV2.cell 4; simp only [List.getElem?_toArray, List.getElem?_cons_succ, List.getElem?_cons_zero] at q4)
          clear lV1 lP1 hoI1 hoK1 hb3 hsl hrl hbs q4 f4 hg9 x0
          have lV3 : Lies (w9.setCell ⟨w2.heap.size, 4, none⟩ (.slice a9 m c9)) w2.heap.size 25 #[.int .i64 4, .int .i64 0, .string ⟨#[]⟩, .slice ai (k + 1) ci, .slice a9 m c9] := lV2.put 4 _
          have lP3 := lP2.far (p := ⟨w2.heap.size, 4, none⟩) (show wr.heap.size ≠ w2.heap.size by omega) (.slice a9 m c9)
          have hoI3 := hoI2.far (Nat.lt_succ_self _) 4 (.slice a9 m c9)
          have hoK3 := ho9.far (Nat.lt_succ_self _) 4 (.slice a9 m c9)
          have hb5 := hb4.setCell (p := ⟨w2.heap.size, 4, none⟩) (Nat.le_refl _) (.slice a9 m c9)
          have hs5 : w2.heap.size + 1 ≤ (w9.setCell ⟨w2.heap.size, 4, none⟩ (.slice a9 m c9)).heap.size := by rw [setCell_size]; exact hs4
          clear lV2 lP2 hoI2 ho9 hb4 hs4
          generalize w9.setCell ⟨w2.heap.size, 4, none⟩ (.slice a9 m c9) = wd at *
          have hbl : Below wd.heap.size wd (wd.alloc (.cells #[.int .i64 p.val.kind, .int .i64 p.val.num, .string ⟨p.val.txt.toArray⟩, .slice xi p.val.items.length xc, .slice xk p.val.keys.length xd] 25)) := (Below.refl _ _).alloc (Nat.le_refl _) _
          have lV4 := lV3.on hbl
          have hoI4 := hoI3.on hbl
          have hoK4 := hoK3.on hbl
          have hb6 := on_below hb5 hbl hb5.size
          have hs6 := Nat.le_trans hs5 hbl.size
          have hrl := RowL.lit wd 25 5 [.int .i64 p.val.kind, .int .i64 p.val.num, .string ⟨p.val.txt.toArray⟩, .slice xi p.val.items.length xc, .slice xk p.val.keys.length xd] rfl
          have hbs := Nat.le_trans hb5.size hbl.size
          have r3 := lV3.cell 3; simp only [List.getElem?_toArray, List.getElem?_cons_succ, List.getElem?_cons_zero] at r3
          have x1 := lP3.cell 1; have x2 := lP3.cell 2; have x3 := lP3.cell 3; have x4 := lP3.cell 4; have x5 := lP3.cell 5; simp only [List.getElem?_toArray, List.getElem?_cons_succ, List.getElem?_cons_zero] at x1 x2 x3 x4 x5
          clear hbl lV3 lP3 hoI3 hoK3 hb5 hs5
          go_upto_region 11 with ((with_reducible refine wpL_appendL (w2.heap.size + 1) 25 iV (.agg valZ) 5 80 Tryd.underlying22 hi hz0 hz1 hz2 rfl (by decide) _ (valL (S'.take (k + 1))) hoI4 _ [[.int .i64 p.val.kind, .int .i64 p.val.num, .string ⟨p.val.txt.toArray⟩, .slice xi p.val.items.length xc, .slice xk p.val.keys.length xd]] hrl hru hra hrb hs6 ?_ ?_ ?_); rfl; rfl; intro vc wc hoc hgc; obtain ⟨ac, cc, rfl, _, _⟩ := hoc.form2 hrc; have lV5 := lV4.keptLt hoI4 hgc (Nat.lt_succ_self _); have hoK5 := hoK4.kept2 hoI4 hgc (by decide); have hb7 := hb6.grown hgc hbs (fun k hk => by have := hoI4.lt k hk; omega); have hs7 := Nat.le_trans hs6 hgc.size; have f3 := lV5.frozen 3; have r3 := lV5.cell 3; simp only [List.getElem?_toArray, List.getElem?_cons_succ, List.getElem?_cons_zero] at r3)
          clear lV4 hoI4 hoK4 hb6 hs6 hrl hbs r3 f3 hgc x1 x2 x3 x4 x5
          have lV6 : Lies (wc.setCell ⟨w2.heap.size, 3, none⟩ (.slice ac m cc)) w2.heap.size 25 #[.int .i64 4, .int .i64 0, .string ⟨#[]⟩, .slice ac m cc, .slice a9 m c9] := lV5.put 3 _
          have hoI6 := hoc.far (Nat.lt_succ_self _) 3 (.slice ac m cc)
          have hoK6 := hoK5.far (Nat.lt_succ_self _) 3 (.slice ac m cc)
          have hb8 := hb7.setCell (p := ⟨w2.heap.size, 3, none⟩) (Nat.le_refl _) (.slice ac m cc)
          have hs8 : w2.heap.size + 1 ≤ (wc.setCell ⟨w2.heap.size, 3, none⟩ (.slice ac m cc)).heap.size := by rw [setCell_size]; exact hs7
          clear lV5 hoc hoK5 hb7 hs7
          generalize wc.setCell ⟨w2.heap.size, 3, none⟩ (.slice ac m cc) = we at *
          go_wp2
          go_roundw
          case rel => obtain rfl := hm.out; exact ⟨(k + 1) + 1, ac, cc, a9, c9, by go_num, by omega, Lib.hid (HD2.out hxy), lV6, by rw [HI.out]; exact hoI6, by rw [HK.out]; exact hoK6, hb8, hs8⟩
          case measure => simp [intOf]; omega
    · obtain rfl : j = S.length := by omega
      rw [List.take_of_length_le (by rw [HLen.out]; exact Nat.le_refl _)] at hoI hoK
      have hris := Lib.hid (fun (i : Nat) (p q : PairT) (h1 : S'[i]? = some p) (h2 : S'[i + 1]? = some q) => show lessL p.key q.key = true from by
        have hl2 := (List.getElem?_eq_some_iff.1 h2).1
        rw [HLen.out] at hl2
        have hne := HD.out i p q hl2 h1 h2
        have hno := hord i (i + 1) p q (Nat.lt_succ_self _) h1 h2
        rcases less_three p.key q.key with ⟨h3, _, _⟩ | ⟨h3, _, _⟩ | ⟨_, _, h3⟩
        · exact h3
        · exact absurd h3 hne
        · rw [hno] at h3; cases h3)
      have lR3 := lR2.below hb hWg
      have hbz := hB2.trans (hb.mono (Nat.le_of_lt hWg))
      have y0 := lV.cell 0; have y1 := lV.cell 1; have y2 := lV.cell 2; have y3 := lV.cell 3; have y4 := lV.cell 4; simp only [List.getElem?_toArray, List.getElem?_cons_succ, List.getElem?_cons_zero] at y0 y1 y2 y3 y4
      clear HD HRow HTw HGm
      go_wp2_with ((with_reducible refine wpL_store W.heap.size 25 valZ #[.int .i64 4, .int .i64 0, .string ⟨#[]⟩, .slice ai S.length ci, .slice ak S.length ck] 5 rowVal rfl rfl (valC_one _ _ _ _ _ _ _ _ _) lR3 ?_ ?_ ?_); rfl; rfl)
      exact bodyPost_ret (results_row_tmp Tryd.results21 rowVal rfl (lR3.row _) rfl rfl) rfl ⟨⟨_, _, rfl, .inl ⟨rfl, S', hperm, hris.out, _, _, rfl, (hoI.rowFar (by omega) _).weak (by omega), (hoK.rowFar (by omega) _).weak (by omega)⟩⟩, below_rowSet hbz (Nat.le_refl _) _⟩
end Go.Proofs.YtdfdpckcemdimaaDoor.V
