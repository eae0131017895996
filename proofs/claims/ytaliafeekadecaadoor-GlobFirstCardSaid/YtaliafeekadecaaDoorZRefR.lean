/- The reference's Right. -/
import Derived.Test.YtaliafeekadecaaDoorZSplitR
namespace Go.Proofs.YtaliafeekadecaaDoor.Z
open Go.RowKit Go.Shelf
open V (Lies OwnL RowL)
set_option maxRecDepth 100000

theorem okPart_forms (x : ByteArray) : ∃ b0 b1 b2, x.toList.isEmpty = b0 ∧ (x.toList == [46]) = b1 ∧ (x.toList == [46, 46]) = b2 ∧ okPart x.data.toList = !(b0 || b1 || b2) := by
  refine ⟨_, _, _, rfl, rfl, rfl, ?_⟩
  rw [Lib.toList_data]
  unfold okPart
  congr 1
  congr 1
  · congr 1
    · cases x.data.toList <;> simp
    · by_cases h : x.data.toList = [46] <;> simp [h]
  · by_cases h : x.data.toList = [46, 46] <;> simp [h]
theorem parts_okB (s : ByteArray) : (parts s.data.toList).all okPart = (partsB s).all fun x => okPart x.data.toList := by
  unfold partsB
  rw [List.all_map]
  rfl
set_option maxHeartbeats 3200000 in
theorem refRight_any (s : ByteArray) (pat : Bool) (w : World) (hs : s.size ≤ 100000) : Calls Tryd.prog 8 #[.string s, .bool pat] w fun e w' => e = .returned (.bool (rightG pat s.data.toList)) ∧ Below w.heap.size w w' := by
  have hl := list_len s
  obtain ⟨R, hR⟩ : ∃ R, rightG pat s.data.toList = R := ⟨_, rfl⟩
  rw [hR]
  have HSp := Lib.hid (fun (w : World) => refSplit_any s w hs)
  have HR := Lib.hid (show R = (s.data.toList.all (byt pat) && decide (s.size ≤ 200) && (partsB s).all fun x => okPart x.data.toList) by rw [← hR, ← parts_okB, ← hl]; rfl)
  clear hR
  go_enter Tryd.func8, Tryd.ntmps8
  go_wp2
  go_loopw [5] (fun iv wr => ∃ k : Nat, iv = .int .i64 k ∧ k ≤ s.size ∧ Hid (R = ((s.data.toList.drop k).all (byt pat) && decide (s.size ≤ 200) && (partsB s).all fun x => okPart x.data.toList)) ∧ wr = w) (fun iv _ => s.size - (intOf iv).toNat)
  case atStart => exact ⟨0, rfl, Nat.zero_le _, Lib.hid (by rw [List.drop_zero]; exact HR.out), rfl⟩
  case round =>
    obtain ⟨k, rfl, hk, HS, rfl⟩ := hrel
    clear HR
    by_cases hlt : k < s.size
    · have h1 : (k : Int) < (s.size : Int) := by omega
      have hS := HS.out
      rw [List.drop_eq_getElem_cons (by omega), List.all_cons, show s.data.toList[k]'(by omega) = s[k] from rfl] at hS
      have HB := Lib.hid (fun (w : World) => refByt_any s[k] pat w)
      cases hb : byt pat s[k] with
      | false =>
        rw [hb, Bool.false_and, Bool.false_and, Bool.false_and] at hS
        rw [hb] at HB
        have HS2 := Lib.hid hS
        clear HS hS hb
        go_wp2_with (go_at_call 21; refine (HB.out _).mono ?_; rintro e w1 ⟨rfl, rfl⟩)
        go_ret
        exact ⟨by rw [HS2.out]; rfl, Below.refl _ _⟩
      | true =>
        rw [hb, Bool.true_and] at hS
        rw [hb] at HB
        have HS2 := Lib.hid hS
        clear HS hS hb
        go_wp2_with (go_at_call 21; refine (HB.out _).mono ?_; rintro e w1 ⟨rfl, rfl⟩)
        go_roundw
        case rel => exact ⟨k + 1, by go_num, by omega, HS2, trivial⟩
        case measure => simp [intOf]; omega
    · obtain rfl : k = s.size := by omega
      have h1 : ¬ ((s.size : Int) < (s.size : Int)) := by omega
      have hS := HS.out
      rw [List.drop_eq_nil_of_le (by omega), List.all_nil, Bool.true_and] at hS
      by_cases h200 : s.size ≤ 200
      case neg =>
        rw [decide_eq_false h200, Bool.false_and] at hS
        have h2 : (200 : Int) < (s.size : Int) := by omega
        have HS2 := Lib.hid hS
        clear HS hS
        go_wp2
        go_ret
        exact ⟨by rw [HS2.out]; rfl, Below.refl _ _⟩
      rw [decide_eq_true h200, Bool.true_and] at hS
      have h2 : ¬ (200 : Int) < (s.size : Int) := by omega
      have HS2 := Lib.hid hS
      clear HS hS
      go_wp2_with (go_at_call 22; refine (HSp.out _).mono ?_; rintro e w1 ⟨v, rfl, ho, hb⟩; obtain ⟨a, c, rfl, hc1, hc2, hc3⟩ := ho.form; rw [List.length_map] at ho hc1)
      have hcap : (partsB s).length ≤ 9223372036854775807 := by unfold maxLen at hc2; omega
      go_loopw [7, 26] (fun _ iv wr => ∃ j : Nat, iv = .int .i64 j ∧ j ≤ (partsB s).length ∧ Hid (R = ((partsB s).drop j).all fun x => okPart x.data.toList) ∧ wr = w1) (fun _ iv _ => (partsB s).length - (intOf iv).toNat)
      case atStart => exact ⟨0, rfl, Nat.zero_le _, Lib.hid (by rw [List.drop_zero]; exact HS2.out), rfl⟩
      case round =>
        obtain ⟨j, rfl, hj, HT, rfl⟩ := hrel
        clear HS2
        by_cases hltj : j < (partsB s).length
        · have i1 : (j : Int) < ((partsB s).length : Int) := by omega
          obtain ⟨x, hx⟩ : ∃ x, (partsB s)[j] = x := ⟨_, rfl⟩
          obtain ⟨b, off, rfl, hr, _⟩ := ho.read.at (i := j) (cs := oneS x) (by rw [List.getElem?_map, List.getElem?_eq_getElem hltj, hx]; rfl)
          have q0 := hr 0 (.string x) rfl
          rw [Nat.mul_one, Nat.add_zero] at q0
          have hT := HT.out
          rw [List.drop_eq_getElem_cons hltj, List.all_cons, hx] at hT
          obtain ⟨b0, b1, b2, k0, k1, k2, hok⟩ := okPart_forms x
          rw [hok] at hT
          have HT2 := Lib.hid hT
          clear HT hT hok hr hx
          cases b0 with
          | true =>
            go_wp2
            go_ret
            exact ⟨by rw [HT2.out]; rfl, hb⟩
          | false =>
            cases b1 with
            | true =>
              go_wp2
              go_ret
              exact ⟨by rw [HT2.out]; rfl, hb⟩
            | false =>
              cases b2 with
              | true =>
                go_wp2
                go_ret
                exact ⟨by rw [HT2.out]; rfl, hb⟩
              | false =>
                go_wp2
                go_roundw
                case rel => exact ⟨j + 1, by go_num, by omega, Lib.hid (by rw [HT2.out]; rfl), trivial⟩
                case measure => simp [intOf]; omega
        · obtain rfl : j = (partsB s).length := by omega
          have i1 : ¬ (((partsB s).length : Int) < ((partsB s).length : Int)) := by omega
          have HT2 := Lib.hid (show R = true by rw [HT.out, List.drop_length]; rfl)
          clear HT
          go_wp2
          go_ret
          exact ⟨by rw [HT2.out]; rfl, hb⟩
end Go.Proofs.YtaliafeekadecaaDoor.Z
