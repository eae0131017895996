/- The reference's Match. -/
import Derived.Test.YtaliafeekadecaaDoorZPart
import Derived.Test.YtaliafeekadecaaDoorVReg
import Derived.Lib.QuietBelow
namespace Go.Proofs.YtaliafeekadecaaDoor.Z
open Go.RowKit Go.Shelf Go.Sort
open V (Lies OwnL RowL reg)
set_option maxRecDepth 100000

theorem pairs_zip (m p : ByteArray) : pairs m p = (partsB m).zip (partsB p) := rfl
theorem partsB_len (m : ByteArray) : (partsB m).length = (parts m.data.toList).length := by unfold partsB; rw [List.length_map]
theorem matchG_ne {m p : ByteArray} (h : (partsB m).length ≠ (partsB p).length) : matchG m.data.toList p.data.toList = false := by
  rw [Bool.eq_false_iff]
  intro hm
  rw [partsB_len, partsB_len] at h
  exact h (matchL_len _ _ hm)
theorem matchG_eq {m p : ByteArray} (h : (partsB m).length = (partsB p).length) : matchG m.data.toList p.data.toList = (pairs m p).all fun x => gm x.1.data.toList x.2.data.toList := by
  rw [partsB_len, partsB_len] at h
  unfold matchG
  rw [matchL_zip _ _ h, pairs_all]
set_option maxHeartbeats 6400000 in
theorem refMatch_any (m p : ByteArray) (w : World) (hm : m.size ≤ 100000) (hp : p.size ≤ 100000) : Calls Tryd.prog 9 #[.string m, .string p] w fun e w' => e = .returned (.bool (matchG m.data.toList p.data.toList)) ∧ Below w.heap.size w w' := by
  have HM := Lib.hid (fun (w : World) => refSplit_any m w hm)
  have HP := Lib.hid (fun (w : World) => refSplit_any p w hp)
  obtain ⟨R, hR0⟩ : ∃ R, matchG m.data.toList p.data.toList = R := ⟨_, rfl⟩
  rw [hR0]
  have HR0 := Lib.hid hR0
  clear hR0
  go_enter Tryd.func9, Tryd.ntmps9
  go_upto_region 2 with (go_at_call 22; refine (HM.out _).mono ?_; rintro e w1 ⟨v1, rfl, ho1, hb1⟩)
  obtain ⟨a1, c1, rfl, hc1, hm1, hn1⟩ := ho1.form
  rw [List.length_map] at ho1 hc1 ⊢
  go_upto_region 3 with (go_at_call 22; refine (HP.out _).mono ?_; rintro e w2 ⟨v2, rfl, ho2, hb2⟩)
  obtain ⟨a2, c2, rfl, hc2, hm2, hn2⟩ := ho2.form
  rw [List.length_map] at ho2 hc2 ⊢
  replace ho1 := ho1.on hb2
  have hb : Below w.heap.size w w2 := hb1.trans (hb2.mono hb1.size)
  clear hb1 hb2 HM HP
  by_cases hlen : (partsB m).length = (partsB p).length
  case neg =>
    have hne : (((partsB m).length : Int) != ((partsB p).length : Int)) = true := by rw [bne_iff_ne]; omega
    have HR := Lib.hid (HR0.out.symm.trans (matchG_ne hlen))
    clear hlen HR0
    go_wp2
    go_ret
    exact ⟨by rw [HR.out]; rfl, hb⟩
  have hne : (((partsB m).length : Int) != ((partsB p).length : Int)) = false := by rw [bne_eq_false_iff_eq]; omega
  have HR := Lib.hid (show ((pairs m p).all fun x => gm x.1.data.toList x.2.data.toList) = R from (matchG_eq hlen).symm.trans HR0.out)
  have HL := Lib.hid hlen
  clear HR0 hlen
  have hcap : (partsB m).length ≤ 9223372036854775807 := by unfold maxLen at hm1; omega
  go_wp2
  go_loopw [7, 19] (fun _ iv wr => ∃ j : Nat, iv = .int .i64 (j : Int) ∧ j ≤ (partsB m).length ∧ Hid (R = ((pairs m p).drop j).all fun x => gm x.1.data.toList x.2.data.toList) ∧ Below w2.heap.size w2 wr) (fun _ iv _ => (partsB m).length - (intOf iv).toNat)
  case atStart => exact ⟨0, rfl, Nat.zero_le _, Lib.hid (by rw [List.drop_zero]; exact HR.out.symm), Below.refl _ _⟩
  case round =>
    obtain ⟨j, rfl, hj, HT, hbr⟩ := hrel
    clear HR
    have hpl : (pairs m p).length = (partsB m).length := by rw [pairs_zip, List.length_zip, ← HL.out, Nat.min_self]
    by_cases hltj : j < (partsB m).length
    case neg =>
      obtain rfl : j = (partsB m).length := by omega
      have i1 : ¬ (((partsB m).length : Int) < ((partsB m).length : Int)) := by omega
      have HT2 := Lib.hid (show R = true by rw [HT.out, List.drop_eq_nil_of_le (by omega)]; rfl)
      clear HT
      go_wp2
      go_ret
      exact ⟨by rw [HT2.out]; rfl, hb.trans (hbr.mono hb.size)⟩
    have i1 : (j : Int) < ((partsB m).length : Int) := by omega
    have i2 : (j : Int) < ((partsB p).length : Int) := by rw [← HL.out]; omega
    have i3 : (0 : Int) ≤ (j : Int) := by omega
    have hltp : j < (partsB p).length := by rw [← HL.out]; exact hltj
    obtain ⟨x, hx⟩ : ∃ x, (partsB m)[j] = x := ⟨_, rfl⟩
    obtain ⟨y, hy⟩ : ∃ y, (partsB p)[j] = y := ⟨_, rfl⟩
    obtain ⟨b, off, rfl, hr, _⟩ := (ho1.on hbr).read.at (i := j) (cs := oneS x) (by rw [List.getElem?_map, List.getElem?_eq_getElem hltj, hx]; rfl)
    obtain ⟨b', off', rfl, hr', _⟩ := (ho2.on hbr).read.at (i := j) (cs := oneS y) (by rw [List.getElem?_map, List.getElem?_eq_getElem hltp, hy]; rfl)
    have q0 := hr 0 (.string x) rfl
    have q1 := hr' 0 (.string y) rfl
    rw [Nat.mul_one, Nat.add_zero] at q0 q1
    have hmem : (x, y) ∈ pairs m p := by
      rw [pairs_zip, List.mem_iff_getElem]
      exact ⟨j, by rw [List.length_zip]; omega, by rw [List.getElem_zip, hx, hy]⟩
    have hxs := pairs_len hmem
    simp only at hxs
    have hT := HT.out
    rw [List.drop_eq_getElem_cons (by omega), List.all_cons] at hT
    have hxy : (pairs m p)[j]'(by omega) = (x, y) := by
      have : ((partsB m).zip (partsB p))[j]'(by rw [List.length_zip]; omega) = (x, y) := by rw [List.getElem_zip, hx, hy]
      exact this
    rw [hxy] at hT
    obtain ⟨bv, hbv⟩ : ∃ bv, gm x.data.toList y.data.toList = bv := ⟨_, rfl⟩
    simp only [hbv] at hT
    have u0 := cell_regrown q0
    have u1 := cell_regrown q1
    have rL := Lib.hid (reg (W := wr) (fun w _ => refPart_any x y w (by omega) (by omega)))
    rw [hbv] at rL
    have HT2 := Lib.hid hT
    clear HT hT hxy hmem hx hy hr hr' q0 q1 hbv hpl hxs
    cases bv with
    | false =>
      go_upto_region 8 with fail
      refine wp_region_quiet_below (by kernel_rfl) (by kernel_rfl) ?_
      repeat (go_big_quiet_step (with_reducible exact rL.out _ _))
      refine wpQuiet_nil ?_
      intro _ hw'
      obtain ⟨⟨dq, osq⟩, hw''⟩ := hw'
      subst hw''
      have hbb := below_regrown wr dq osq
      go_wp2
      go_ret
      exact ⟨by rw [HT2.out]; rfl, hb.trans ((hbr.trans (hbb.mono hbr.size)).mono hb.size)⟩
    | true =>
      go_upto_region 8 with fail
      refine wp_region_quiet_below (by kernel_rfl) (by kernel_rfl) ?_
      repeat (go_big_quiet_step (with_reducible exact rL.out _ _))
      refine wpQuiet_nil ?_
      intro _ hw'
      obtain ⟨⟨dq, osq⟩, hw''⟩ := hw'
      subst hw''
      have hbb := below_regrown wr dq osq
      go_wp2
      go_roundw
      case rel => exact ⟨j + 1, by go_num, by omega, Lib.hid (by rw [HT2.out, Bool.true_and]), hbr.trans (hbb.mono hbr.size)⟩
      case measure => simp [intOf]; omega
end Go.Proofs.YtaliafeekadecaaDoor.Z
