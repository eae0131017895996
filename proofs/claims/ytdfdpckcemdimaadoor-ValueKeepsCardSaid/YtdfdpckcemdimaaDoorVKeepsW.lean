/- The walk of the statement of pairs in another order: whatever pairs, it answers true. -/
import Derived.Test.YtdfdpckcemdimaaDoorVPairs
import Derived.Test.YtdfdpckcemdimaaDoorVHeld
import Derived.Test.YtdfdpckcemdimaaDoorVRefSame
import Derived.Deep.CutRange
import Derived.Deep.CutBlock
namespace Go.Proofs.YtdfdpckcemdimaaDoor.V
open Go.RowKit Go.Sort Go.Joins
set_option maxRecDepth 100000

section
variable {a : Act} {d : Option Tmp} {x y : Tmp} {t' : TypeId} {pos : String} {after : Array Edge} {gd : Option (Nat × Bool)}
theorem elemP : Tryd.prog.elem 34 = 39 := by kernel_rfl
theorem run_cutLo (ad : Option Addr) (n c r : Nat) (hr : r ≤ n) (hx : a.eval (.tmp x) = .slice ad n c) (hy : a.eval (.tmp y) = .int .i64 (r : Int)) (w : World) :
    (execOp a.eval ⟨d, .slice 34 (.tmp x) (some (.tmp y)) none none, t', pos, after, gd⟩).run Tryd.prog w = .ok (.value (sliced ad r n c 6)) w := by
  have h1 := run_slice_l (P := Tryd.prog) w 34 ad n c Tryd.underlying34 .i64 (r : Int) (by omega) (by omega)
  have h2 := run_sliceAt_slice (P := Tryd.prog) w 34 (.slice ad n c) (some (.int .i64 (r : Int))) none none Tryd.underlying34
  unfold execOp
  simp only [hx, hy, Option.map_some, Option.map_none, Sem.run_bind, h2, h1, elemP, sizeP, Result.andThen, Sem.run_pure, Int.toNat_natCast]
theorem run_cutHi (ad : Option Addr) (n c r : Nat) (hr : r ≤ c) (hx : a.eval (.tmp x) = .slice ad n c) (hy : a.eval (.tmp y) = .int .i64 (r : Int)) (w : World) :
    (execOp a.eval ⟨d, .slice 34 (.tmp x) none (some (.tmp y)) none, t', pos, after, gd⟩).run Tryd.prog w = .ok (.value (sliced ad 0 r c 6)) w := by
  have h1 := run_slice_h (P := Tryd.prog) w 34 ad n c Tryd.underlying34 .i64 (r : Int) (by omega) (by omega)
  have h2 := run_sliceAt_slice (P := Tryd.prog) w 34 (.slice ad n c) none (some (.int .i64 (r : Int))) none Tryd.underlying34
  unfold execOp
  simp only [hx, hy, Option.map_some, Option.map_none, Sem.run_bind, h2, h1, elemP, sizeP, Result.andThen, Sem.run_pure, Int.toNat_natCast]
end
theorem one_allL {W : World} {d : Nat} {S : List PairT} (h : ∀ p ∈ S, IsV W d p.cells p.val) : ∀ u ∈ (S.map PairT.all).flatten, u.oneCell' = true := by
  intro u hu
  obtain ⟨cs, hcs, hu⟩ := List.mem_flatten.1 hu
  obtain ⟨p, hp, rfl⟩ := List.mem_map.1 hcs
  rcases List.mem_cons.1 (show u ∈ str p.key :: p.cells from hu) with rfl | hu
  · rfl
  · exact (h p hp).ones u hu
set_option maxHeartbeats 12800000 in
theorem keepsV_walk (d : Nat) (v : Value) (S0 : List PairT) (by_ : Int) (W : World) (h : Pairs W d v S0) (_ : -9223372036854775808 ≤ by_ ∧ by_ ≤ 9223372036854775807) (hM : MaxAt W) (hT : Tab W) :
    Calls Tryd.prog 6 #[v, .int .i64 by_] W fun e w' => e = .returned (.bool true) ∧ Below W.heap.size W w' := by
  obtain ⟨iP, hi, hz0, hz1, hz2⟩ := info_parts infoP
  obtain ⟨a, c, rfl, hc, hm, hn⟩ := h.1.form
  rw [List.length_map] at hc
  rw [List.length_map] at h
  rw [List.length_map]
  have hsl : (min (S0.length : Int) 20) ≤ c := by omega
  have hF := h.front (j := (min (S0.length : Int) 20).toNat) (by omega)
  obtain ⟨S, hS, hl0⟩ : ∃ S, S0.take (min (S0.length : Int) 20).toNat = S ∧ S.length = (min (S0.length : Int) 20).toNat := ⟨_, rfl, by rw [List.length_take]; omega⟩
  rw [hS] at hF
  have hl1 : S.length ≤ 20 := by omega
  have hba0 := (Below.refl W.heap.size W).alloc (Nat.le_refl _) (.cells #[] 39)
  have HO := Lib.hid (OwnL.made W W.heap.size 39 6 (Nat.le_refl _))
  have hF1 := Lib.hid (hF.below hba0).1
  have hra : ([] : List (List Value)).length + (S.map PairT.all).length ≤ maxLen := by rw [List.length_map]; unfold maxLen; simp only [List.length_nil]; omega
  have hrb : (([] : List (List Value)).length + (S.map PairT.all).length) * 96 ≤ 140737488355328 := by rw [List.length_map]; simp only [List.length_nil]; omega
  have hrc : ([] ++ S.map PairT.all).length = S.length := by rw [List.nil_append, List.length_map]
  have hru := one_allL (fun p hp => (hF.2 p hp).1)
  have hbs := hba0.size
  have HAl := Lib.hid (fun (w1 : World) (hb : Below W.heap.size W w1) => alive_any w1 (hM.below hb) (hT.below hb))
  have HP := Lib.hid (fun (w1 : World) (hb : Below W.heap.size W w1) (p : PairT) (hp : p ∈ S) => (show IsV w1 d p.cells p.val ∧ p.key.length ≤ maxLen from ⟨(hF.2 p hp).1.below hb, (hF.2 p hp).2⟩))
  clear hF h hS hM hT hn hm hc hl0
  go_enter Tryd.func6, Tryd.ntmps6
  go_upto_region 2 with ((with_reducible refine wpL_appendL W.heap.size 39 iP _ 6 96 Tryd.underlying34 hi hz0 hz1 hz2 rfl (by decide) _ [] HO.out _ (S.map PairT.all) hF1.out hru hra hrb hbs ?_ ?_ ?_); rfl; rfl; intro v9 w1 ho1 hg1; obtain ⟨b1, c1, rfl, hbc1, _⟩ := ho1.form2 hrc)
  have hb1 : Below W.heap.size W w1 := hba0.grown hg1 hbs (fun k hk => HO.out.lt k hk)
  have hP1 : Pairs w1 d (.slice b1 S.length c1) S := ⟨by simpa using ho1.read, HP.out w1 hb1⟩
  clear ho1 hg1 hbs hba0 HO hF1 hsl
  replace HAl := Lib.hid (fun (w2 : World) (hb : Below w1.heap.size w1 w2) => HAl.out w2 (on_below hb1 hb hb1.size))
  replace HP := Lib.hid (fun (w2 : World) (hb : Below w1.heap.size w1 w2) => HP.out w2 (on_below hb1 hb hb1.size))
  rcases Nat.eq_zero_or_pos S.length with hz | hz
  · have hz2 : (S.length : Int) = 0 := by omega
    clear hz hrc hra hrb
    go_wp2_with (go_at_call 10; (with_reducible refine (HAl.out _ (Below.refl _ _)).mono ?_); rintro e4 w4 ⟨rfl, hb4⟩)
    go_ret
    exact ⟨rfl, below_on hb1 hb4⟩
  have hq2 : ((S.length : Int) == 0) = false := beq_false_of_ne (by omega)
  have HRow := Lib.hid (fun (j : Nat) (p : PairT) (hp : S[j]? = some p) => hP1.1.at (i := j) (cs := p.all) (by rw [List.getElem?_map, hp]; rfl))
  have HPs := Lib.hid (fun (w2 : World) (hb : Below w1.heap.size w1 w2) => hP1.below hb)
  clear hP1
  go_wp2
  go_loopw [31] (fun iv wr => ∃ (j : Nat), iv = .int .i64 j ∧ j ≤ S.length ∧ Below w1.heap.size w1 wr) (fun iv _ => S.length - (intOf iv).toNat)
  case atStart => exact ⟨0, rfl, Nat.zero_le _, Below.refl _ _⟩
  case round =>
    obtain ⟨j, rfl, hjl, hb⟩ := hrel
    by_cases hlt : j < S.length
    · clear hrc hra hrb hru
      obtain ⟨p, hp⟩ : ∃ p, S[j]? = some p := ⟨S[j], List.getElem?_eq_getElem hlt⟩
      have hpm := List.mem_of_getElem? hp
      obtain ⟨b, off, rfl, hra, _⟩ := HRow.out j p hp
      have hpv := (HP.out wr hb p hpm).1
      obtain ⟨xi, xc, xk, xd, hcs⟩ := hpv.form
      unfold PairT.all at hra
      rw [hcs] at hra hpv
      obtain ⟨k0, k1, k2, k3, k4, k5⟩ := range6 (range_below hb hra)
      unfold str at k0
      have HB := Lib.hid (fun (w1 : World) (hb : Below wr.heap.size wr w1) => big_any d _ p.val w1 (hpv.below hb))
      have hbx := (Below.refl wr.heap.size wr).alloc (Nat.le_refl _) (.cells #[.string ⟨p.key.toArray⟩, .int .i64 p.val.kind, .int .i64 p.val.num, .string ⟨p.val.txt.toArray⟩, .slice xi p.val.items.length xc, .slice xk p.val.keys.length xd] 39)
      have lP := Lies.new wr 39 #[.string ⟨p.key.toArray⟩, .int .i64 p.val.kind, .int .i64 p.val.num, .string ⟨p.val.txt.toArray⟩, .slice xi p.val.items.length xc, .slice xk p.val.keys.length xd]
      have x0 := lP.cell 0; have x1 := lP.cell 1; have x2 := lP.cell 2; have x3 := lP.cell 3; have x4 := lP.cell 4; have x5 := lP.cell 5; simp only [List.getElem?_toArray, List.getElem?_cons_succ, List.getElem?_cons_zero] at x0 x1 x2 x3 x4 x5
      clear hra
      by_cases hbig : 2100 < p.val.count
      · rw [decide_eq_true hbig] at HB
        go_wp2_with (first
          | (go_at_call 9; (with_reducible refine (HB.out _ hbx).mono ?_); rintro e w3 ⟨rfl, hb3⟩; replace hbx := below_on hbx hb3)
          | (go_at_call 10; (with_reducible refine (HAl.out _ (on_below hb hbx hb.size)).mono ?_); rintro e w4 ⟨rfl, hb4⟩; replace hbx := below_on hbx hb4))
        go_ret
        exact ⟨rfl, on_below hb1 (on_below hb hbx hb.size) hb1.size⟩
      · rw [decide_eq_false hbig] at HB
        go_wp2_with (go_at_call 9; (with_reducible refine (HB.out _ hbx).mono ?_); rintro e w3 ⟨rfl, hb3⟩; replace hbx := below_on hbx hb3)
        go_roundw
        case rel => exact ⟨j + 1, by go_num, by omega, on_below hb hbx hb.size⟩
        case measure => simp [intOf]; omega
    · obtain rfl : j = S.length := by omega
      have hba2 := (Below.refl wr.heap.size wr).alloc (Nat.le_refl _) (.cells #[] 39)
      have HO2 := Lib.hid (OwnL.made wr wr.heap.size 39 6 (Nat.le_refl _))
      have hF2 := Lib.hid ((HPs.out wr hb).below hba2).1
      have hbs2 := hba2.size
      go_upto_region 12 with ((with_reducible refine wpL_appendL wr.heap.size 39 iP _ 6 96 Tryd.underlying34 hi hz0 hz1 hz2 rfl (by decide) _ [] HO2.out _ (S.map PairT.all) hF2.out hru hra hrb hbs2 ?_ ?_ ?_); rfl; rfl; intro v9 w3 ho3 hg3; obtain ⟨b2, c2, rfl, _, _⟩ := ho3.form2 hrc)
      have hb3 : RowKit.Below wr.heap.size wr w3 := hba2.grown hg3 hbs2 (fun k hk => HO2.out.lt k hk)
      have hbb := on_below hb hb3 hb.size
      have HPb := Lib.hid (fun (w2 : World) (hb : Below w3.heap.size w3 w2) => (show Pairs w3 d (.slice b2 S.length c2) S from ⟨by simpa using ho3.read, HP.out w3 hbb⟩).below hb)
      clear ho3 hg3 hbs2 hba2 HO2 hF2 hb hb3 hra hrb hrc hru
      have hr1 : -20 ≤ Int.tmod by_ (S.length : Int) ∧ Int.tmod by_ (S.length : Int) ≤ 20 ∧ 0 < Int.tmod by_ (S.length : Int) + (S.length : Int) := by
        have h1 : (Int.tmod by_ (S.length : Int)).natAbs = by_.natAbs % (S.length : Int).natAbs := Int.natAbs_tmod _ _
        have h2 := Nat.mod_lt by_.natAbs (show 0 < (S.length : Int).natAbs by omega)
        omega
      obtain ⟨r, hr, hrl⟩ : ∃ r : Nat, Int.tmod (Int.tmod by_ (S.length : Int) + (S.length : Int)) (S.length : Int) = r ∧ r < S.length := by
        have h1 := Int.tmod_nonneg (S.length : Int) (a := Int.tmod by_ (S.length : Int) + (S.length : Int)) (by omega)
        have h2 := Int.tmod_lt_of_pos (Int.tmod by_ (S.length : Int) + (S.length : Int)) (show (0 : Int) < (S.length : Int) by omega)
        exact ⟨(Int.tmod (Int.tmod by_ (S.length : Int) + (S.length : Int)) (S.length : Int)).toNat, by omega, by omega⟩
      obtain ⟨hr1, hr2, _⟩ := hr1
      go_upto_region 13 with fail
      clear hr hr1 hr2
      have HM := Lib.hid (fun (w2 : World) (hb : Below w1.heap.size w1 w2) => mapV_any d _ S w2 (HPs.out w2 hb) (by omega))
      go_upto_region 14 with (go_at_call 21; (with_reducible refine (HM.out _ hbb).mono ?_); rintro e4 w4 ⟨⟨cs1, er, rfl, hans1⟩, hb4⟩; obtain ⟨k1, n1, s1, ai1, ni1, ci1, ak1, nk1, ck1, rfl⟩ := hans1.form)
      have hb14 := on_below hbb hb4 hbb.size
      have hba := (RowKit.Below.refl w4.heap.size w4).alloc (Nat.le_refl _) (.cells #[.int .i64 k1, .int .i64 n1, .string s1, .slice ai1 ni1 ci1, .slice ak1 nk1 ck1] 25)
      have lA := Lies.new w4 25 #[.int .i64 k1, .int .i64 n1, .string s1, .slice ai1 ni1 ci1, .slice ak1 nk1 ck1]
      have hb15 := on_below hb14 hba hb14.size
      have hb35 := on_below hb4 hba hb4.size
      replace hans1 := hans1.on hba
      clear hb14 hba hb4
      generalize w4.alloc (.cells #[.int .i64 k1, .int .i64 n1, .string s1, .slice ai1 ni1 ci1, .slice ak1 nk1 ck1] 25) = w5 at *
      generalize w4.heap.size = g9 at *
      have hb05 := on_below hb1 hb15 hb1.size
      obtain ⟨t1, hv1, hcase1⟩ := hans1.val (HP.out _ hb15)
      have HC1 := Lib.hid hcase1
      have hPl := HPs.out _ hb15
      have hPb := HPb.out _ hb35
      have HPb5 := Lib.hid (fun (w2 : World) (hb : RowKit.Below w5.heap.size w5 w2) => hPb.below hb)
      have HP5 := Lib.hid (fun (w2 : World) (hb : RowKit.Below w5.heap.size w5 w2) => HP.out w2 (on_below hb15 hb hb15.size))
      have HAl5 := Lib.hid (fun (w2 : World) (hb : RowKit.Below w5.heap.size w5 w2) => HAl.out w2 (on_below hb15 hb hb15.size))
      have HPr := Lib.hid (fun (w2 : World) (hb : RowKit.Below w5.heap.size w5 w2) (p : PairT) (hp : p ∈ S.drop r ++ S.take r) => HP5.out w2 hb p ((drop_take_perm S r).mem_iff.1 hp))
      have HM2 := Lib.hid (fun (w2 : World) (hb : RowKit.Below w5.heap.size w5 w2) (v : Value) (hr : RowL w2 6 v ([] ++ (S.map PairT.all).drop r ++ (S.map PairT.all).take r)) => mapV_any d v (S.drop r ++ S.take r) w2 ⟨by rw [List.map_append, List.map_drop, List.map_take]; exact hr, HPr.out w2 hb⟩ (by rw [(drop_take_perm S r).length_eq]; omega))
      have HLo := Lib.hid (fun (w2 : World) (hb : RowKit.Below w5.heap.size w5 w2) => (show RowL w2 6 (sliced b1 r S.length c1 6) ((S.map PairT.all).drop r) from by
        have := (hPl.below hb).1.drop (j := r) (by rw [List.length_map]; omega)
        rwa [List.length_map] at this))
      have HHi := Lib.hid (fun (w2 : World) (hb : RowKit.Below w5.heap.size w5 w2) => (hPl.below hb).1.take (j := r) (by rw [List.length_map]; omega))
      have hu0 := one_allL (fun p hp => (HP5.out w5 (RowKit.Below.refl _ _) p hp).1)
      have hu1 : ∀ u ∈ ((S.map PairT.all).drop r).flatten, u.oneCell' = true := fun u hu => by
        obtain ⟨cs, hcs, hu⟩ := List.mem_flatten.1 hu
        exact hu0 u (List.mem_flatten.2 ⟨cs, List.mem_of_mem_drop hcs, hu⟩)
      have hu2 : ∀ u ∈ ((S.map PairT.all).take r).flatten, u.oneCell' = true := fun u hu => by
        obtain ⟨cs, hcs, hu⟩ := List.mem_flatten.1 hu
        exact hu0 u (List.mem_flatten.2 ⟨cs, List.mem_of_mem_take hcs, hu⟩)
      have hl1 : ([] : List (List Value)).length + ((S.map PairT.all).drop r).length ≤ maxLen := by rw [List.length_drop, List.length_map]; unfold maxLen; simp only [List.length_nil]; omega
      have hl1b : (([] : List (List Value)).length + ((S.map PairT.all).drop r).length) * 96 ≤ 140737488355328 := by rw [List.length_drop, List.length_map]; simp only [List.length_nil]; omega
      have hl2 : ([] ++ (S.map PairT.all).drop r).length + ((S.map PairT.all).take r).length ≤ maxLen := by rw [List.nil_append, List.length_drop, List.length_take, List.length_map]; unfold maxLen; omega
      have hl2b : (([] ++ (S.map PairT.all).drop r).length + ((S.map PairT.all).take r).length) * 96 ≤ 140737488355328 := by rw [List.nil_append, List.length_drop, List.length_take, List.length_map]; omega
      have HPl5 := Lib.hid (fun (w2 : World) (hb : RowKit.Below w5.heap.size w5 w2) => hPl.below hb)
      have hrc1 : r ≤ c1 := by omega
      clear hPl hPb hu0 HPs HPb HP HAl HM hbb hb35 hans1 hcase1 HRow
      go_cut [11, 12] from 55 to 67 (fun s11 s12 wx => ∃ (g : Nat) (er2 : Int) (t2 : VT) (k2 n2 : Int) (s2 : ByteArray) (ai2 : Option Addr) (ni2 ci2 : Nat) (ak2 : Option Addr) (nk2 ck2 : Nat), s11 = .pointer (some ⟨g, 0, none⟩) ∧ s12 = .int .i64 er2 ∧ Lies wx g 25 #[.int .i64 k2, .int .i64 n2, .string s2, .slice ai2 ni2 ci2, .slice ak2 nk2 ck2] ∧ IsV wx (d + 1) [.int .i64 k2, .int .i64 n2, .string s2, .slice ai2 ni2 ci2, .slice ak2 nk2 ck2] t2 ∧ Hid ((er2 = 0 ∧ ∃ S' : List PairT, S'.Perm (S.drop r ++ S.take r) ∧ Rising S' ∧ t2 = mapT S') ∨ (er2 = 23 ∧ ¬ ((S.drop r ++ S.take r).map (·.key)).Nodup ∧ t2 = zeroT)) ∧ RowKit.Below w5.heap.size w5 wx)
      case first =>
        refine wp_held_any (S := fun _ => True) 16 rfl (by kernel_rfl) ?_
        have HB : RowKit.Below w5.heap.size w5 { w5 with drawn := w5.drawn + 1 } := (RowKit.Below.refl _ _).drew
        generalize ({ w5 with drawn := w5.drawn + 1 } : World) = wd at *
        refine held_put 1 57 (.slice b1 S.length c1) rfl rfl (by kernel_rfl) (by kernel_rfl) (by kernel_rfl) (by kernel_rfl) (fun w hS => rfl) trivial ?_
        simp only [List.setIfInBounds_toArray, List.set_cons_succ, List.set_cons_zero]
        refine held_put 2 58 (.int .i64 (r : Int)) rfl rfl (by kernel_rfl) (by kernel_rfl) (by kernel_rfl) (by kernel_rfl) (fun w hS => rfl) trivial ?_
        simp only [List.setIfInBounds_toArray, List.set_cons_succ, List.set_cons_zero]
        refine held_put 3 59 (sliced b1 r S.length c1 6) rfl rfl (by kernel_rfl) (by kernel_rfl) (by kernel_rfl) (by kernel_rfl) (fun w hS => run_cutLo _ _ _ _ (by omega) rfl rfl w) trivial ?_
        simp only [List.setIfInBounds_toArray, List.set_cons_succ, List.set_cons_zero]
        refine held_put 5 61 (.slice b1 S.length c1) rfl rfl (by kernel_rfl) (by kernel_rfl) (by kernel_rfl) (by kernel_rfl) (fun w hS => rfl) trivial ?_
        simp only [List.setIfInBounds_toArray, List.set_cons_succ, List.set_cons_zero]
        refine held_put 6 62 (.int .i64 (r : Int)) rfl rfl (by kernel_rfl) (by kernel_rfl) (by kernel_rfl) (by kernel_rfl) (fun w hS => rfl) trivial ?_
        simp only [List.setIfInBounds_toArray, List.set_cons_succ, List.set_cons_zero]
        refine held_put 7 63 (sliced b1 0 r c1 6) rfl rfl (by kernel_rfl) (by kernel_rfl) (by kernel_rfl) (by kernel_rfl) (fun w hS => run_cutHi _ _ _ _ (by omega) rfl rfl w) trivial ?_
        simp only [List.setIfInBounds_toArray, List.set_cons_succ, List.set_cons_zero]
        refine held_two 0 13 (by kernel_rfl) (wpOp_put 56 (w' := wd.alloc (.cells #[] 39)) (v := .slice (some ⟨wd.heap.size, 0, none⟩) 0 0) rfl rfl (by kernel_rfl) (by kernel_rfl) ⟨trivial, ?_⟩) (wpOp_put 11 (w' := wd.alloc (.cells valZ 25)) (v := .pointer (some ⟨wd.heap.size, 0, none⟩)) rfl rfl (by kernel_rfl) (by kernel_rfl) ⟨trivial, ?_⟩)
        · simp only [List.setIfInBounds_toArray, List.set_cons_succ, List.set_cons_zero]
          have hgB := HB.size
          have HO := OwnL.made wd wd.heap.size 39 6 (Nat.le_refl _)
          replace HB := HB.alloc HB.size (.cells #[] 39)
          have hsB : wd.heap.size ≤ (wd.alloc (.cells #[] 39)).heap.size := by simp
          generalize wd.alloc (.cells #[] 39) = wa0 at *
          generalize wd.heap.size = gB at *
          refine held_two 4 13 (by kernel_rfl) (wpOp_lawD 60 rfl rfl (by kernel_rfl) (wpL_appendL gB 39 iP _ 6 96 Tryd.underlying34 hi hz0 hz1 hz2 rfl (by decide) _ ([]) HO _ ((S.map PairT.all).drop r) (HLo.out _ HB) hu1 hl1 hl1b hsB rfl rfl ?_)) (wpOp_put 11 (w' := wa0.alloc (.cells valZ 25)) (v := .pointer (some ⟨wa0.heap.size, 0, none⟩)) rfl rfl (by kernel_rfl) (by kernel_rfl) ⟨trivial, ?_⟩)
          · intro va1 wa1 hoa hga
            refine And.intro trivial ?_
            simp only [Act.put, List.setIfInBounds_toArray, List.set_cons_succ, List.set_cons_zero]
            replace HB := HB.grown hga HB.size (fun k hk => Nat.le_trans hgB (HO.lt k hk))
            replace hsB := Nat.le_trans hsB hga.size
            clear hga
            replace HO := hoa
            clear hoa
            refine held_two 8 13 (by kernel_rfl) (wpOp_lawD 64 rfl rfl (by kernel_rfl) (wpL_appendL gB 39 iP _ 6 96 Tryd.underlying34 hi hz0 hz1 hz2 rfl (by decide) _ ([] ++ (S.map PairT.all).drop r) HO _ ((S.map PairT.all).take r) (HHi.out _ HB) hu2 hl2 hl2b hsB rfl rfl ?_)) (wpOp_put 11 (w' := wa1.alloc (.cells valZ 25)) (v := .pointer (some ⟨wa1.heap.size, 0, none⟩)) rfl rfl (by kernel_rfl) (by kernel_rfl) ⟨trivial, ?_⟩)
            · intro va2 wa2 hoa hga
              refine And.intro trivial ?_
              simp only [Act.put, List.setIfInBounds_toArray, List.set_cons_succ, List.set_cons_zero]
              replace HB := HB.grown hga HB.size (fun k hk => Nat.le_trans hgB (HO.lt k hk))
              replace hsB := Nat.le_trans hsB hga.size
              clear hga
              replace HO := hoa
              clear hoa
              refine held_two 9 13 (by kernel_rfl) (wpOp_call 65 rfl rfl (by kernel_rfl) (by kernel_rfl) ((HM2.out _ HB _ HO.read).mono ?_)) (wpOp_put 11 (w' := wa2.alloc (.cells valZ 25)) (v := .pointer (some ⟨wa2.heap.size, 0, none⟩)) rfl rfl (by kernel_rfl) (by kernel_rfl) ⟨trivial, ?_⟩)
              · rintro e6 wa3 ⟨⟨cs2, er2, rfl, hans2⟩, hb6⟩
                obtain ⟨k2, n2, s2, ai2, ni2, ci2, ak2, nk2, ck2, rfl⟩ := hans2.form
                refine ⟨_, rfl, trivial, ?_⟩
                simp only [List.setIfInBounds_toArray, List.set_cons_succ, List.set_cons_zero]
                replace HB := on_below HB hb6 HB.size
                clear HO hsB
                refine held_put 10 55 (.tuple #[.agg #[.int .i64 k2, .int .i64 n2, .string s2, .slice ai2 ni2 ci2, .slice ak2 nk2 ck2], .int .i64 er2]) rfl rfl (by kernel_rfl) (by kernel_rfl) (by kernel_rfl) (by kernel_rfl) (fun w hS => rfl) trivial ?_
                simp only [List.setIfInBounds_toArray, List.set_cons_succ, List.set_cons_zero]
                refine held_put 11 66 (.agg #[.int .i64 k2, .int .i64 n2, .string s2, .slice ai2 ni2 ci2, .slice ak2 nk2 ck2]) rfl rfl (by kernel_rfl) (by kernel_rfl) (by kernel_rfl) (by kernel_rfl) (fun w hS => rfl) trivial ?_
                simp only [List.setIfInBounds_toArray, List.set_cons_succ, List.set_cons_zero]
                refine held_put 12 67 (.int .i64 er2) rfl rfl (by kernel_rfl) (by kernel_rfl) (by kernel_rfl) (by kernel_rfl) (fun w hS => rfl) trivial ?_
                simp only [List.setIfInBounds_toArray, List.set_cons_succ, List.set_cons_zero]
                refine held_one 13 (by kernel_rfl) (wpOp_put 11 (w' := wa3.alloc (.cells valZ 25)) (v := .pointer (some ⟨wa3.heap.size, 0, none⟩)) rfl rfl (by kernel_rfl) (by kernel_rfl) ⟨trivial, ?_⟩)
                simp only [List.setIfInBounds_toArray, List.set_cons_succ, List.set_cons_zero]
                have hgR := HB.size
                have hbl : RowKit.Below wa3.heap.size wa3 (wa3.alloc (.cells valZ 25)) := (RowKit.Below.refl _ _).alloc (Nat.le_refl _) _
                have LR := Lies.new wa3 25 valZ
                replace HB := on_below HB hbl HB.size
                have hfr := hbl
                have hgL := LR.lt
                clear hbl
                generalize wa3.alloc (.cells valZ 25) = wa3z at *
                generalize hgx : wa3.heap.size = gR at *
                refine held_one 14 (by kernel_rfl) (wpOp_law rfl (by kernel_rfl) (wpL_store gR 25 valZ #[.int .i64 k2, .int .i64 n2, .string s2, .slice ai2 ni2 ci2, .slice ak2 nk2 ck2] 5 rowVal rfl rfl (valC_one _ _ _ _ _ _ _ _ _) LR rfl rfl ?_))
                replace hans2 := hans2.on (w' := wa3z.setRow gR #[.int .i64 k2, .int .i64 n2, .string s2, .slice ai2 ni2 ci2, .slice ak2 nk2 ck2]) (by rw [hgx]; exact below_rowSet hfr (Nat.le_refl _) _)
                replace LR := LR.row #[.int .i64 k2, .int .i64 n2, .string s2, .slice ai2 ni2 ci2, .slice ak2 nk2 ck2]
                replace HB := below_rowSet HB (show w5.heap.size ≤ gR by omega) #[.int .i64 k2, .int .i64 n2, .string s2, .slice ai2 ni2 ci2, .slice ak2 nk2 ck2]
                obtain ⟨t2, hv2, hc2⟩ := hans2.val (HPr.out _ HB)
                refine And.intro trivial ?_
                simp only [Act.put]
                generalize World.setRow _ _ _ = w9 at *
                refine held_put 15 12 (.int .i64 er2) rfl rfl (by kernel_rfl) (by kernel_rfl) (by kernel_rfl) (by kernel_rfl) (fun w hS => rfl) trivial ?_
                simp only [List.setIfInBounds_toArray, List.set_cons_succ, List.set_cons_zero]
                refine held_done (by kernel_rfl) ?_
                simp only [Exit.then]
                go_wp2_with fail
                go_meet
                exact ⟨gR, er2, t2, k2, n2, s2, ai2, ni2, ci2, ak2, nk2, ck2, rfl, rfl, LR, hv2, Lib.hid hc2, HB⟩
              · simp only [List.setIfInBounds_toArray, List.set_cons_succ, List.set_cons_zero]
                have hgR := HB.size
                have hbl : RowKit.Below wa2.heap.size wa2 (wa2.alloc (.cells valZ 25)) := (RowKit.Below.refl _ _).alloc (Nat.le_refl _) _
                have LR := Lies.new wa2 25 valZ
                replace HB := on_below HB hbl HB.size
                replace HO := HO.on hbl
                replace hsB := Nat.le_trans hsB hbl.size
                have hgL := LR.lt
                clear hbl
                generalize wa2.alloc (.cells valZ 25) = wz3 at *
                generalize hgx : wa2.heap.size = gR at *
                refine held_one 9 (by kernel_rfl) (wpOp_call 65 rfl rfl (by kernel_rfl) (by kernel_rfl) ((HM2.out _ HB _ HO.read).mono ?_))
                rintro e6 wa3r ⟨⟨cs2, er2, rfl, hans2⟩, hb6⟩
                obtain ⟨k2, n2, s2, ai2, ni2, ci2, ak2, nk2, ck2, rfl⟩ := hans2.form
                refine ⟨_, rfl, trivial, ?_⟩
                simp only [List.setIfInBounds_toArray, List.set_cons_succ, List.set_cons_zero]
                replace LR := LR.on hb6
                replace HB := on_below HB hb6 HB.size
                clear HO hsB
                refine held_put 10 55 (.tuple #[.agg #[.int .i64 k2, .int .i64 n2, .string s2, .slice ai2 ni2 ci2, .slice ak2 nk2 ck2], .int .i64 er2]) rfl rfl (by kernel_rfl) (by kernel_rfl) (by kernel_rfl) (by kernel_rfl) (fun w hS => rfl) trivial ?_
                simp only [List.setIfInBounds_toArray, List.set_cons_succ, List.set_cons_zero]
                refine held_put 11 66 (.agg #[.int .i64 k2, .int .i64 n2, .string s2, .slice ai2 ni2 ci2, .slice ak2 nk2 ck2]) rfl rfl (by kernel_rfl) (by kernel_rfl) (by kernel_rfl) (by kernel_rfl) (fun w hS => rfl) trivial ?_
                simp only [List.setIfInBounds_toArray, List.set_cons_succ, List.set_cons_zero]
                refine held_put 12 67 (.int .i64 er2) rfl rfl (by kernel_rfl) (by kernel_rfl) (by kernel_rfl) (by kernel_rfl) (fun w hS => rfl) trivial ?_
                simp only [List.setIfInBounds_toArray, List.set_cons_succ, List.set_cons_zero]
                refine held_one 14 (by kernel_rfl) (wpOp_law rfl (by kernel_rfl) (wpL_store gR 25 valZ #[.int .i64 k2, .int .i64 n2, .string s2, .slice ai2 ni2 ci2, .slice ak2 nk2 ck2] 5 rowVal rfl rfl (valC_one _ _ _ _ _ _ _ _ _) LR rfl rfl ?_))
                replace hans2 := hans2.rowFar (by omega) #[.int .i64 k2, .int .i64 n2, .string s2, .slice ai2 ni2 ci2, .slice ak2 nk2 ck2]
                replace LR := LR.row #[.int .i64 k2, .int .i64 n2, .string s2, .slice ai2 ni2 ci2, .slice ak2 nk2 ck2]
                replace HB := below_rowSet HB (show w5.heap.size ≤ gR by omega) #[.int .i64 k2, .int .i64 n2, .string s2, .slice ai2 ni2 ci2, .slice ak2 nk2 ck2]
                obtain ⟨t2, hv2, hc2⟩ := hans2.val (HPr.out _ HB)
                refine And.intro trivial ?_
                simp only [Act.put]
                generalize World.setRow _ _ _ = w9 at *
                refine held_put 15 12 (.int .i64 er2) rfl rfl (by kernel_rfl) (by kernel_rfl) (by kernel_rfl) (by kernel_rfl) (fun w hS => rfl) trivial ?_
                simp only [List.setIfInBounds_toArray, List.set_cons_succ, List.set_cons_zero]
                refine held_done (by kernel_rfl) ?_
                simp only [Exit.then]
                go_wp2_with fail
                go_meet
                exact ⟨gR, er2, t2, k2, n2, s2, ai2, ni2, ci2, ak2, nk2, ck2, rfl, rfl, LR, hv2, Lib.hid hc2, HB⟩
            · simp only [List.setIfInBounds_toArray, List.set_cons_succ, List.set_cons_zero]
              have hgR := HB.size
              have hbl : RowKit.Below wa1.heap.size wa1 (wa1.alloc (.cells valZ 25)) := (RowKit.Below.refl _ _).alloc (Nat.le_refl _) _
              have LR := Lies.new wa1 25 valZ
              replace HB := on_below HB hbl HB.size
              replace HO := HO.on hbl
              replace hsB := Nat.le_trans hsB hbl.size
              have hgL := LR.lt
              clear hbl
              generalize wa1.alloc (.cells valZ 25) = wz2 at *
              generalize hgx : wa1.heap.size = gR at *
              refine held_one 8 (by kernel_rfl) (wpOp_lawD 64 rfl rfl (by kernel_rfl) (wpL_appendL gB 39 iP _ 6 96 Tryd.underlying34 hi hz0 hz1 hz2 rfl (by decide) _ ([] ++ (S.map PairT.all).drop r) HO _ ((S.map PairT.all).take r) (HHi.out _ HB) hu2 hl2 hl2b hsB rfl rfl ?_))
              intro va2 wa2r hoa hga
              refine And.intro trivial ?_
              simp only [Act.put, List.setIfInBounds_toArray, List.set_cons_succ, List.set_cons_zero]
              replace LR := LR.kept HO hga (by decide)
              replace HB := HB.grown hga HB.size (fun k hk => Nat.le_trans hgB (HO.lt k hk))
              replace hsB := Nat.le_trans hsB hga.size
              clear hga
              replace HO := hoa
              clear hoa
              have hgL := LR.lt
              refine held_one 9 (by kernel_rfl) (wpOp_call 65 rfl rfl (by kernel_rfl) (by kernel_rfl) ((HM2.out _ HB _ HO.read).mono ?_))
              rintro e6 wa3r ⟨⟨cs2, er2, rfl, hans2⟩, hb6⟩
              obtain ⟨k2, n2, s2, ai2, ni2, ci2, ak2, nk2, ck2, rfl⟩ := hans2.form
              refine ⟨_, rfl, trivial, ?_⟩
              simp only [List.setIfInBounds_toArray, List.set_cons_succ, List.set_cons_zero]
              replace LR := LR.on hb6
              replace HB := on_below HB hb6 HB.size
              clear HO hsB
              refine held_put 10 55 (.tuple #[.agg #[.int .i64 k2, .int .i64 n2, .string s2, .slice ai2 ni2 ci2, .slice ak2 nk2 ck2], .int .i64 er2]) rfl rfl (by kernel_rfl) (by kernel_rfl) (by kernel_rfl) (by kernel_rfl) (fun w hS => rfl) trivial ?_
              simp only [List.setIfInBounds_toArray, List.set_cons_succ, List.set_cons_zero]
              refine held_put 11 66 (.agg #[.int .i64 k2, .int .i64 n2, .string s2, .slice ai2 ni2 ci2, .slice ak2 nk2 ck2]) rfl rfl (by kernel_rfl) (by kernel_rfl) (by kernel_rfl) (by kernel_rfl) (fun w hS => rfl) trivial ?_
              simp only [List.setIfInBounds_toArray, List.set_cons_succ, List.set_cons_zero]
              refine held_put 12 67 (.int .i64 er2) rfl rfl (by kernel_rfl) (by kernel_rfl) (by kernel_rfl) (by kernel_rfl) (fun w hS => rfl) trivial ?_
              simp only [List.setIfInBounds_toArray, List.set_cons_succ, List.set_cons_zero]
              refine held_one 14 (by kernel_rfl) (wpOp_law rfl (by kernel_rfl) (wpL_store gR 25 valZ #[.int .i64 k2, .int .i64 n2, .string s2, .slice ai2 ni2 ci2, .slice ak2 nk2 ck2] 5 rowVal rfl rfl (valC_one _ _ _ _ _ _ _ _ _) LR rfl rfl ?_))
              replace hans2 := hans2.rowFar (by omega) #[.int .i64 k2, .int .i64 n2, .string s2, .slice ai2 ni2 ci2, .slice ak2 nk2 ck2]
              replace LR := LR.row #[.int .i64 k2, .int .i64 n2, .string s2, .slice ai2 ni2 ci2, .slice ak2 nk2 ck2]
              replace HB := below_rowSet HB (show w5.heap.size ≤ gR by omega) #[.int .i64 k2, .int .i64 n2, .string s2, .slice ai2 ni2 ci2, .slice ak2 nk2 ck2]
              obtain ⟨t2, hv2, hc2⟩ := hans2.val (HPr.out _ HB)
              refine And.intro trivial ?_
              simp only [Act.put]
              generalize World.setRow _ _ _ = w9 at *
              refine held_put 15 12 (.int .i64 er2) rfl rfl (by kernel_rfl) (by kernel_rfl) (by kernel_rfl) (by kernel_rfl) (fun w hS => rfl) trivial ?_
              simp only [List.setIfInBounds_toArray, List.set_cons_succ, List.set_cons_zero]
              refine held_done (by kernel_rfl) ?_
              simp only [Exit.then]
              go_wp2_with fail
              go_meet
              exact ⟨gR, er2, t2, k2, n2, s2, ai2, ni2, ci2, ak2, nk2, ck2, rfl, rfl, LR, hv2, Lib.hid hc2, HB⟩
          · simp only [List.setIfInBounds_toArray, List.set_cons_succ, List.set_cons_zero]
            have hgR := HB.size
            have hbl : RowKit.Below wa0.heap.size wa0 (wa0.alloc (.cells valZ 25)) := (RowKit.Below.refl _ _).alloc (Nat.le_refl _) _
            have LR := Lies.new wa0 25 valZ
            replace HB := on_below HB hbl HB.size
            replace HO := HO.on hbl
            replace hsB := Nat.le_trans hsB hbl.size
            have hgL := LR.lt
            clear hbl
            generalize wa0.alloc (.cells valZ 25) = wz1 at *
            generalize hgx : wa0.heap.size = gR at *
            refine held_one 4 (by kernel_rfl) (wpOp_lawD 60 rfl rfl (by kernel_rfl) (wpL_appendL gB 39 iP _ 6 96 Tryd.underlying34 hi hz0 hz1 hz2 rfl (by decide) _ ([]) HO _ ((S.map PairT.all).drop r) (HLo.out _ HB) hu1 hl1 hl1b hsB rfl rfl ?_))
            intro va1 wa1r hoa hga
            refine And.intro trivial ?_
            simp only [Act.put, List.setIfInBounds_toArray, List.set_cons_succ, List.set_cons_zero]
            replace LR := LR.kept HO hga (by decide)
            replace HB := HB.grown hga HB.size (fun k hk => Nat.le_trans hgB (HO.lt k hk))
            replace hsB := Nat.le_trans hsB hga.size
            clear hga
            replace HO := hoa
            clear hoa
            have hgL := LR.lt
            refine held_one 8 (by kernel_rfl) (wpOp_lawD 64 rfl rfl (by kernel_rfl) (wpL_appendL gB 39 iP _ 6 96 Tryd.underlying34 hi hz0 hz1 hz2 rfl (by decide) _ ([] ++ (S.map PairT.all).drop r) HO _ ((S.map PairT.all).take r) (HHi.out _ HB) hu2 hl2 hl2b hsB rfl rfl ?_))
            intro va2 wa2r hoa hga
            refine And.intro trivial ?_
            simp only [Act.put, List.setIfInBounds_toArray, List.set_cons_succ, List.set_cons_zero]
            replace LR := LR.kept HO hga (by decide)
            replace HB := HB.grown hga HB.size (fun k hk => Nat.le_trans hgB (HO.lt k hk))
            replace hsB := Nat.le_trans hsB hga.size
            clear hga
            replace HO := hoa
            clear hoa
            have hgL := LR.lt
            refine held_one 9 (by kernel_rfl) (wpOp_call 65 rfl rfl (by kernel_rfl) (by kernel_rfl) ((HM2.out _ HB _ HO.read).mono ?_))
            rintro e6 wa3r ⟨⟨cs2, er2, rfl, hans2⟩, hb6⟩
            obtain ⟨k2, n2, s2, ai2, ni2, ci2, ak2, nk2, ck2, rfl⟩ := hans2.form
            refine ⟨_, rfl, trivial, ?_⟩
            simp only [List.setIfInBounds_toArray, List.set_cons_succ, List.set_cons_zero]
            replace LR := LR.on hb6
            replace HB := on_below HB hb6 HB.size
            clear HO hsB
            refine held_put 10 55 (.tuple #[.agg #[.int .i64 k2, .int .i64 n2, .string s2, .slice ai2 ni2 ci2, .slice ak2 nk2 ck2], .int .i64 er2]) rfl rfl (by kernel_rfl) (by kernel_rfl) (by kernel_rfl) (by kernel_rfl) (fun w hS => rfl) trivial ?_
            simp only [List.setIfInBounds_toArray, List.set_cons_succ, List.set_cons_zero]
            refine held_put 11 66 (.agg #[.int .i64 k2, .int .i64 n2, .string s2, .slice ai2 ni2 ci2, .slice ak2 nk2 ck2]) rfl rfl (by kernel_rfl) (by kernel_rfl) (by kernel_rfl) (by kernel_rfl) (fun w hS => rfl) trivial ?_
            simp only [List.setIfInBounds_toArray, List.set_cons_succ, List.set_cons_zero]
            refine held_put 12 67 (.int .i64 er2) rfl rfl (by kernel_rfl) (by kernel_rfl) (by kernel_rfl) (by kernel_rfl) (fun w hS => rfl) trivial ?_
            simp only [List.setIfInBounds_toArray, List.set_cons_succ, List.set_cons_zero]
            refine held_one 14 (by kernel_rfl) (wpOp_law rfl (by kernel_rfl) (wpL_store gR 25 valZ #[.int .i64 k2, .int .i64 n2, .string s2, .slice ai2 ni2 ci2, .slice ak2 nk2 ck2] 5 rowVal rfl rfl (valC_one _ _ _ _ _ _ _ _ _) LR rfl rfl ?_))
            replace hans2 := hans2.rowFar (by omega) #[.int .i64 k2, .int .i64 n2, .string s2, .slice ai2 ni2 ci2, .slice ak2 nk2 ck2]
            replace LR := LR.row #[.int .i64 k2, .int .i64 n2, .string s2, .slice ai2 ni2 ci2, .slice ak2 nk2 ck2]
            replace HB := below_rowSet HB (show w5.heap.size ≤ gR by omega) #[.int .i64 k2, .int .i64 n2, .string s2, .slice ai2 ni2 ci2, .slice ak2 nk2 ck2]
            obtain ⟨t2, hv2, hc2⟩ := hans2.val (HPr.out _ HB)
            refine And.intro trivial ?_
            simp only [Act.put]
            generalize World.setRow _ _ _ = w9 at *
            refine held_put 15 12 (.int .i64 er2) rfl rfl (by kernel_rfl) (by kernel_rfl) (by kernel_rfl) (by kernel_rfl) (fun w hS => rfl) trivial ?_
            simp only [List.setIfInBounds_toArray, List.set_cons_succ, List.set_cons_zero]
            refine held_done (by kernel_rfl) ?_
            simp only [Exit.then]
            go_wp2_with fail
            go_meet
            exact ⟨gR, er2, t2, k2, n2, s2, ai2, ni2, ci2, ak2, nk2, ck2, rfl, rfl, LR, hv2, Lib.hid hc2, HB⟩
        · simp only [List.setIfInBounds_toArray, List.set_cons_succ, List.set_cons_zero]
          have hgR := HB.size
          have hbl : RowKit.Below wd.heap.size wd (wd.alloc (.cells valZ 25)) := (RowKit.Below.refl _ _).alloc (Nat.le_refl _) _
          have LR := Lies.new wd 25 valZ
          replace HB := on_below HB hbl HB.size
          have hgL := LR.lt
          clear hbl
          generalize wd.alloc (.cells valZ 25) = wz0 at *
          generalize hgx : wd.heap.size = gR at *
          refine held_one 0 (by kernel_rfl) (wpOp_put 56 (w' := wz0.alloc (.cells #[] 39)) (v := .slice (some ⟨wz0.heap.size, 0, none⟩) 0 0) rfl rfl (by kernel_rfl) (by kernel_rfl) ⟨trivial, ?_⟩)
          simp only [List.setIfInBounds_toArray, List.set_cons_succ, List.set_cons_zero]
          have hgB := HB.size
          have HO := OwnL.made wz0 wz0.heap.size 39 6 (Nat.le_refl _)
          replace HB := HB.alloc HB.size (.cells #[] 39)
          have hsB : wz0.heap.size ≤ (wz0.alloc (.cells #[] 39)).heap.size := by simp
          replace LR := LR.alloc (.cells #[] 39)
          generalize wz0.alloc (.cells #[] 39) = wa0r at *
          generalize wz0.heap.size = gB at *
          refine held_one 4 (by kernel_rfl) (wpOp_lawD 60 rfl rfl (by kernel_rfl) (wpL_appendL gB 39 iP _ 6 96 Tryd.underlying34 hi hz0 hz1 hz2 rfl (by decide) _ ([]) HO _ ((S.map PairT.all).drop r) (HLo.out _ HB) hu1 hl1 hl1b hsB rfl rfl ?_))
          intro va1 wa1r hoa hga
          refine And.intro trivial ?_
          simp only [Act.put, List.setIfInBounds_toArray, List.set_cons_succ, List.set_cons_zero]
          replace LR := LR.kept HO hga (by decide)
          replace HB := HB.grown hga HB.size (fun k hk => Nat.le_trans hgB (HO.lt k hk))
          replace hsB := Nat.le_trans hsB hga.size
          clear hga
          replace HO := hoa
          clear hoa
          have hgL := LR.lt
          refine held_one 8 (by kernel_rfl) (wpOp_lawD 64 rfl rfl (by kernel_rfl) (wpL_appendL gB 39 iP _ 6 96 Tryd.underlying34 hi hz0 hz1 hz2 rfl (by decide) _ ([] ++ (S.map PairT.all).drop r) HO _ ((S.map PairT.all).take r) (HHi.out _ HB) hu2 hl2 hl2b hsB rfl rfl ?_))
          intro va2 wa2r hoa hga
          refine And.intro trivial ?_
          simp only [Act.put, List.setIfInBounds_toArray, List.set_cons_succ, List.set_cons_zero]
          replace LR := LR.kept HO hga (by decide)
          replace HB := HB.grown hga HB.size (fun k hk => Nat.le_trans hgB (HO.lt k hk))
          replace hsB := Nat.le_trans hsB hga.size
          clear hga
          replace HO := hoa
          clear hoa
          have hgL := LR.lt
          refine held_one 9 (by kernel_rfl) (wpOp_call 65 rfl rfl (by kernel_rfl) (by kernel_rfl) ((HM2.out _ HB _ HO.read).mono ?_))
          rintro e6 wa3r ⟨⟨cs2, er2, rfl, hans2⟩, hb6⟩
          obtain ⟨k2, n2, s2, ai2, ni2, ci2, ak2, nk2, ck2, rfl⟩ := hans2.form
          refine ⟨_, rfl, trivial, ?_⟩
          simp only [List.setIfInBounds_toArray, List.set_cons_succ, List.set_cons_zero]
          replace LR := LR.on hb6
          replace HB := on_below HB hb6 HB.size
          clear HO hsB
          refine held_put 10 55 (.tuple #[.agg #[.int .i64 k2, .int .i64 n2, .string s2, .slice ai2 ni2 ci2, .slice ak2 nk2 ck2], .int .i64 er2]) rfl rfl (by kernel_rfl) (by kernel_rfl) (by kernel_rfl) (by kernel_rfl) (fun w hS => rfl) trivial ?_
          simp only [List.setIfInBounds_toArray, List.set_cons_succ, List.set_cons_zero]
          refine held_put 11 66 (.agg #[.int .i64 k2, .int .i64 n2, .string s2, .slice ai2 ni2 ci2, .slice ak2 nk2 ck2]) rfl rfl (by kernel_rfl) (by kernel_rfl) (by kernel_rfl) (by kernel_rfl) (fun w hS => rfl) trivial ?_
          simp only [List.setIfInBounds_toArray, List.set_cons_succ, List.set_cons_zero]
          refine held_put 12 67 (.int .i64 er2) rfl rfl (by kernel_rfl) (by kernel_rfl) (by kernel_rfl) (by kernel_rfl) (fun w hS => rfl) trivial ?_
          simp only [List.setIfInBounds_toArray, List.set_cons_succ, List.set_cons_zero]
          refine held_one 14 (by kernel_rfl) (wpOp_law rfl (by kernel_rfl) (wpL_store gR 25 valZ #[.int .i64 k2, .int .i64 n2, .string s2, .slice ai2 ni2 ci2, .slice ak2 nk2 ck2] 5 rowVal rfl rfl (valC_one _ _ _ _ _ _ _ _ _) LR rfl rfl ?_))
          replace hans2 := hans2.rowFar (by omega) #[.int .i64 k2, .int .i64 n2, .string s2, .slice ai2 ni2 ci2, .slice ak2 nk2 ck2]
          replace LR := LR.row #[.int .i64 k2, .int .i64 n2, .string s2, .slice ai2 ni2 ci2, .slice ak2 nk2 ck2]
          replace HB := below_rowSet HB (show w5.heap.size ≤ gR by omega) #[.int .i64 k2, .int .i64 n2, .string s2, .slice ai2 ni2 ci2, .slice ak2 nk2 ck2]
          obtain ⟨t2, hv2, hc2⟩ := hans2.val (HPr.out _ HB)
          refine And.intro trivial ?_
          simp only [Act.put]
          generalize World.setRow _ _ _ = w9 at *
          refine held_put 15 12 (.int .i64 er2) rfl rfl (by kernel_rfl) (by kernel_rfl) (by kernel_rfl) (by kernel_rfl) (fun w hS => rfl) trivial ?_
          simp only [List.setIfInBounds_toArray, List.set_cons_succ, List.set_cons_zero]
          refine held_done (by kernel_rfl) ?_
          simp only [Exit.then]
          go_wp2_with fail
          go_meet
          exact ⟨gR, er2, t2, k2, n2, s2, ai2, ni2, ci2, ak2, nk2, ck2, rfl, rfl, LR, hv2, Lib.hid hc2, HB⟩
      case rest =>
        obtain ⟨g11, er2, t2, k2, n2, s2, ai2, ni2, ci2, ak2, nk2, ck2, rfl, rfl, lB, hv2, HC2, hbx⟩ := hcut
        obtain ⟨rfl, rfl, hgets⟩ := map_both (drop_take_perm S r) HC1.out HC2.out
        have HG := Lib.hid hgets
        replace lA := lA.on hbx
        replace hv1 := hv1.below hbx
        clear HC1 HC2 hgets HM2 HLo HHi hu1 hu2 hl1 hl1b hl2 hl2b HPr hrc1 hrl
        go_upto_region 17 with (go_at_call 10; (with_reducible refine (HAl5.out _ hbx).mono ?_); rintro e7 wd ⟨rfl, hb7⟩; replace lA := lA.on hb7; replace lB := lB.on hb7; replace hv1 := hv1.below hb7; replace hv2 := hv2.below hb7; replace hbx := on_below hbx hb7 hbx.size)
        have hPl := HPl5.out wd hbx
        have hPb := HPb5.out wd hbx
        have hb0d := on_below hb05 hbx hb05.size
        have HRow := Lib.hid (fun (j : Nat) (p : PairT) (hp : S[j]? = some p) => hPl.1.at (i := j) (cs := p.all) (by rw [List.getElem?_map, hp]; rfl))
        have HRow2 := Lib.hid (fun (j : Nat) (p : PairT) (hp : S[j]? = some p) => hPb.1.at (i := j) (cs := p.all) (by rw [List.getElem?_map, hp]; rfl))
        have HP := Lib.hid hPl.2
        have HS0 := Lib.hid (fun (w2 : World) (hb : RowKit.Below wd.heap.size wd w2) => refSame_any (d + 1) _ _ t2 t2 w2 (hv1.below hb) (hv2.below hb))
        rw [decide_eq_true (p := t2 = t2) rfl] at HS0
        have HGet := Lib.hid (fun (k : List UInt8) (w2 : World) (hb : RowKit.Below wd.heap.size wd w2) => get_any d _ t2 k w2 (hv1.below hb))
        clear hPl hPb HPl5 HPb5 HP5 HAl5 hb7 hv1 hv2 hb05 hbx
        go_wp2
        go_loopw [77] (fun iv wr => ∃ (j : Nat), iv = .int .i64 j ∧ j ≤ S.length ∧ RowKit.Below wd.heap.size wd wr) (fun iv _ => S.length - (intOf iv).toNat)
        case atStart => exact ⟨0, rfl, Nat.zero_le _, RowKit.Below.refl _ _⟩
        case round =>
          obtain ⟨j, rfl, hjl, hb⟩ := hrel
          replace lA := lA.on hb
          replace lB := lB.on hb
          by_cases hlt : j < S.length
          · obtain ⟨p, hp⟩ : ∃ p, S[j]? = some p := ⟨S[j], List.getElem?_eq_getElem hlt⟩
            have hpm := List.mem_of_getElem? hp
            obtain ⟨b, off, rfl, hra, _⟩ := HRow.out j p hp
            obtain ⟨b', off', rfl, hra2, _⟩ := HRow2.out j p hp
            have hpv := (HP.out p hpm).1
            have HSx := Lib.hid (fun (cs' : List Value) (w2 : World) (hb2 : RowKit.Below wd.heap.size wd w2) (hx : IsV w2 (d + 1) cs' p.val) => refSame_any (d + 1) cs' p.cells p.val p.val w2 hx ((hpv.below hb2).mono (Nat.le_succ _)))
            rw [decide_eq_true (p := p.val = p.val) rfl] at HSx
            obtain ⟨xi, xc, xk, xd, hcs⟩ := hpv.form
            unfold PairT.all at hra
            rw [hcs] at hra hpv HSx
            obtain ⟨q0, q1, q2, q3, q4, q5⟩ := range6 (range_below hb hra)
            have m0 : wr.cell? ⟨b', off' + j * 6, none⟩ = some (.string ⟨p.key.toArray⟩) := range_below hb hra2 0 (str p.key) rfl
            unfold str at q0
            have hba := (RowKit.Below.refl wr.heap.size wr).alloc (Nat.le_refl _) (.cells #[.string ⟨p.key.toArray⟩, .int .i64 p.val.kind, .int .i64 p.val.num, .string ⟨p.val.txt.toArray⟩, .slice xi p.val.items.length xc, .slice xk p.val.keys.length xd] 39)
            have lP := Lies.new wr 39 #[.string ⟨p.key.toArray⟩, .int .i64 p.val.kind, .int .i64 p.val.num, .string ⟨p.val.txt.toArray⟩, .slice xi p.val.items.length xc, .slice xk p.val.keys.length xd]
            replace m0 := (hba.cell (World.block_lt_of_cell? wr _ m0)).trans m0
            replace lA := lA.on hba
            have hb1' := on_below hb hba hb.size
            have hjl2 : (j : Int) < (S.length : Int) := by omega
            clear hra hra2 hpv hcs hp
            go_upto_region 20 with fail
            generalize hga : World.alloc wr _ = wa at *
            have x0 := lP.cell 0
            simp only [List.getElem?_toArray, List.getElem?_cons_zero] at x0
            have u0 := cell_regrown x0
            have u1 := cell_regrown m0
            clear x0 m0
            refine wp_region_quiet_below (by kernel_rfl) (by kernel_rfl) ?_
            repeat (go_big_quiet_step (fail))
            refine wpQuiet_nil ?_
            intro _ hw'
            obtain ⟨⟨dq, osq⟩, hw''⟩ := hw'
            subst hw''
            have hbb := below_regrown wa dq osq
            generalize grow (redrawn wa dq) osq = wb at *
            replace lA := lA.on hbb
            replace lP := lP.on hbb
            replace hb1' := on_below hb1' hbb hb1'.size
            clear hbb hba u0 u1 hga
            have y0 := lA.cell 0; have y1 := lA.cell 1; have y2 := lA.cell 2; have y3 := lA.cell 3; have y4 := lA.cell 4; simp only [List.getElem?_toArray, List.getElem?_cons_succ, List.getElem?_cons_zero] at y0 y1 y2 y3 y4
            have x0 := lP.cell 0; have x1 := lP.cell 1; have x2 := lP.cell 2; have x3 := lP.cell 3; have x4 := lP.cell 4; have x5 := lP.cell 5; simp only [List.getElem?_toArray, List.getElem?_cons_succ, List.getElem?_cons_zero] at x0 x1 x2 x3 x4 x5
            rcases HG.out with ⟨rfl, hgv⟩ | rfl
            · have hgp := hgv p hpm
              have hgt : getT t2 p.key = p.val := by unfold getT; rw [hgp]; rfl
              have hgs : (getV t2 p.key).isSome = true := by rw [hgp]; rfl
              have HG1 := Lib.hid (HGet.out p.key)
              rw [hgt, hgs] at HG1
              clear hgp hgt hgs hgv HGet HS0 HG lB
              go_upto_region 23 with (go_at_call 19; (with_reducible refine (HG1.out _ hb1').mono ?_); rintro e8 w8 ⟨cs', rfl, hvx, hb8⟩; replace lP := lP.on hb8; replace hb1' := on_below hb1' hb8 hb1'.size; obtain ⟨ax, cx, bx, dx, rfl⟩ := hvx.form)
              have hba8 := (RowKit.Below.refl w8.heap.size w8).alloc (Nat.le_refl _) (.cells #[.int .i64 p.val.kind, .int .i64 p.val.num, .string ⟨p.val.txt.toArray⟩, .slice ax p.val.items.length cx, .slice bx p.val.keys.length dx] 25)
              have lX := Lies.new w8 25 #[.int .i64 p.val.kind, .int .i64 p.val.num, .string ⟨p.val.txt.toArray⟩, .slice ax p.val.items.length cx, .slice bx p.val.keys.length dx]
              replace lP := lP.on hba8
              replace hb1' := on_below hb1' hba8 hb1'.size
              replace hvx := hvx.below hba8
              clear hba8 hb8 HG1 x0 x1 x2 x3 x4 x5 y0 y1 y2 y3 y4
              generalize w8.alloc (.cells #[.int .i64 p.val.kind, .int .i64 p.val.num, .string ⟨p.val.txt.toArray⟩, .slice ax p.val.items.length cx, .slice bx p.val.keys.length dx] 25) = w9 at *
              generalize w8.heap.size = g15 at *
              have y0 := lX.cell 0; have y1 := lX.cell 1; have y2 := lX.cell 2; have y3 := lX.cell 3; have y4 := lX.cell 4; simp only [List.getElem?_toArray, List.getElem?_cons_succ, List.getElem?_cons_zero] at y0 y1 y2 y3 y4
              have x0 := lP.cell 0; have x1 := lP.cell 1; have x2 := lP.cell 2; have x3 := lP.cell 3; have x4 := lP.cell 4; have x5 := lP.cell 5; simp only [List.getElem?_toArray, List.getElem?_cons_succ, List.getElem?_cons_zero] at x0 x1 x2 x3 x4 x5
              go_wp2_with (go_at_call 20; (with_reducible refine (HSx.out _ _ hb1' hvx).mono ?_); rintro ea wz ⟨rfl, hba⟩; replace hb1' := on_below hb1' hba hb1'.size)
              go_roundw
              case rel => exact ⟨j + 1, by go_num, by omega, hb1'⟩
              case measure => simp [intOf]; omega
            · have HG1 := Lib.hid (HGet.out p.key)
              generalize getT t2 p.key = y at *
              generalize (getV t2 p.key).isSome = bs at *
              clear HGet HS0 HG lB
              go_upto_region 23 with (go_at_call 19; (with_reducible refine (HG1.out _ hb1').mono ?_); rintro e8 w8 ⟨cs', rfl, hvx, hb8⟩; replace hb1' := on_below hb1' hb8 hb1'.size; obtain ⟨ax, cx, bx, dx, rfl⟩ := hvx.form)
              replace hb1' := on_below hb1' ((RowKit.Below.refl w8.heap.size w8).alloc (Nat.le_refl _) (.cells #[.int .i64 y.kind, .int .i64 y.num, .string ⟨y.txt.toArray⟩, .slice ax y.items.length cx, .slice bx y.keys.length dx] 25)) hb1'.size
              clear HG1 x0 x1 x2 x3 x4 x5 y0 y1 y2 y3 y4 hvx HSx
              go_wp2
              go_roundw
              case rel => exact ⟨j + 1, by go_num, by omega, hb1'⟩
              case measure => simp [intOf]; omega
          · obtain rfl : j = S.length := by omega
            have y0 := lA.cell 0; have y1 := lA.cell 1; have y2 := lA.cell 2; have y3 := lA.cell 3; have y4 := lA.cell 4; simp only [List.getElem?_toArray, List.getElem?_cons_succ, List.getElem?_cons_zero] at y0 y1 y2 y3 y4
            have x0 := lB.cell 0; have x1 := lB.cell 1; have x2 := lB.cell 2; have x3 := lB.cell 3; have x4 := lB.cell 4; simp only [List.getElem?_toArray, List.getElem?_cons_succ, List.getElem?_cons_zero] at x0 x1 x2 x3 x4
            clear HRow HRow2 HP HGet
            rcases HG.out with ⟨rfl, _⟩ | rfl
            · go_wp2_with (go_at_call 20; (with_reducible refine (HS0.out _ hb).mono ?_); rintro ea wz ⟨rfl, hba⟩; replace hb := on_below hb hba hb.size)
              go_ret
              exact ⟨rfl, on_below hb0d hb hb0d.size⟩
            · go_wp2
              go_ret
              exact ⟨rfl, on_below hb0d hb hb0d.size⟩
end Go.Proofs.YtdfdpckcemdimaaDoor.V
