/- The developers' isNumber, isText and areKeys. -/
import Derived.Test.YtnloimanklkigaaDoorVReg
import Derived.Test.YtnloimanklkigaaDoorVKeys
import Derived.Test.YtnloimanklkigaaDoorVLess
import Derived.Test.YtnloimanklkigaaDoorVRefText
namespace Go.Proofs.YtnloimanklkigaaDoor.V
open Go.RowKit Go.Sort Go.Joins
set_option maxRecDepth 100000

theorem isNumber_any (n : Int) (W : World) :
    Calls Tryd.prog 71 #[.int .i64 n] W fun e w' => e = .returned (.bool (decide (-1099511627776 ≤ n) && decide (n ≤ 1099511627776))) ∧ w' = W := by
  by_cases h1 : -1099511627776 ≤ n
  · rw [decide_eq_true h1, Bool.true_and]
    go_enter Tryd.func71, Tryd.ntmps71
    go_wp2
    go_ret
    exact ⟨rfl, rfl⟩
  · rw [decide_eq_false h1, Bool.false_and]
    go_enter Tryd.func71, Tryd.ntmps71
    go_wp2
    go_ret
    exact ⟨rfl, rfl⟩
set_option maxHeartbeats 800000 in
theorem isText_any (s : ByteArray) (W : World) (hs : s.size ≤ maxLen) :
    Calls Tryd.prog 72 #[.string s] W fun e w' => e = .returned (.bool (textOk s.data.toList)) ∧ Below W.heap.size W w' := by
  unfold maxLen at hs
  have hlen : s.data.toList.length = s.size := Array.length_toList
  by_cases h4 : (s.size : Int) > 4000
  · have hr := Lib.hid (show textOk s.data.toList = false by
      unfold textOk
      rw [decide_eq_false (p := s.data.toList.length ≤ 4000) (by omega), Bool.and_false])
    go_enter Tryd.func72, Tryd.ntmps72
    go_wp2
    go_ret
    exact ⟨ret1_of (by rw [hr.out]; rfl), Below.refl _ _⟩
  have hT := Lib.hid (show textOk s.data.toList = s.data.toList.all (fun c => decide (32 ≤ c.toNat)) by
    unfold textOk
    rw [decide_eq_true (p := s.data.toList.length ≤ 4000) (by omega), Bool.and_true])
  go_enter Tryd.func72, Tryd.ntmps72
  go_wp2
  go_loopw [9] (fun iv wr => ∃ k : Nat, iv = .int .i64 k ∧ k ≤ s.size ∧ Hid (s.data.toList.all (fun c => decide (32 ≤ c.toNat)) = (s.data.toList.drop k).all (fun c => decide (32 ≤ c.toNat))) ∧ Below W.heap.size W wr) (fun iv _ => s.size - (intOf iv).toNat)
  case atStart => exact ⟨0, rfl, Nat.zero_le _, Lib.hid (by rw [List.drop_zero]), Below.refl _ _⟩
  case round =>
    obtain ⟨k, rfl, hk, HS, hb⟩ := hrel
    by_cases hlt : k < s.size
    · have hS := HS.out
      have he : s.data.toList[k]'(by omega) = s[k] := rfl
      rw [all_drop (by omega), he] at hS
      have h1 : (k : Int) < (s.size : Int) := by omega
      by_cases h32 : s[k].toNat < 32
      · have hr := Lib.hid (show textOk s.data.toList = false by
          rw [hT.out, hS, decide_eq_false (by omega)]
          rfl)
        have h33 : (s[k].toNat : Int) < 32 := by omega
        clear HS hS he hT
        go_wp2
        go_ret
        exact ⟨ret1_of (by rw [hr.out]; rfl), hb⟩
      · rw [decide_eq_true (by omega), Bool.true_and] at hS
        have HS2 := Lib.hid hS
        have h33 : ¬ (s[k].toNat : Int) < 32 := by omega
        clear HS hS he
        go_wp2
        go_roundw
        case rel => exact ⟨k + 1, by go_num, by omega, HS2, hb⟩
        case measure => simp [intOf]; omega
    · obtain rfl : k = s.size := by omega
      have hr := Lib.hid (show textOk s.data.toList = true by
        rw [hT.out, HS.out, List.drop_eq_nil_of_le (by omega)]
        rfl)
      clear HS hT
      go_wp2
      go_ret
      exact ⟨ret1_of (by rw [hr.out]; rfl), hb⟩
theorem isText_l (x : List UInt8) (W : World) (hs : x.length ≤ maxLen) : Calls Tryd.prog 72 #[.string ⟨x.toArray⟩] W fun e w' => e = .returned (.bool (textOk x)) ∧ Below W.heap.size W w' :=
  isText_any ⟨x.toArray⟩ W (by rw [str_size]; exact hs)
set_option maxHeartbeats 1600000 in
theorem areKeys_any (ks : List (List UInt8)) (ak : Option Addr) (kc : Nat) (W : World) (hkc : kc ≤ maxLen) (hkl : ks.length ≤ kc) (hkm : ∀ x ∈ ks, x.length ≤ maxLen)
    (hks : ks ≠ [] → ∃ b off, ak = some ⟨b, off, none⟩ ∧ ∀ i x, ks[i]? = some x → W.cell? ⟨b, off + i, none⟩ = some (str x)) :
    Calls Tryd.prog 73 #[.slice ak ks.length kc] W fun e w' => e = .returned (.bool (keysOk ks)) ∧ Below W.heap.size W w' := by
  unfold maxLen at hkc
  have HK := Lib.hid hks
  have HKM := Lib.hid hkm
  clear hks hkm
  go_enter Tryd.func73, Tryd.ntmps73
  go_wp2
  go_loopw [7] (fun iv wr => ∃ j : Nat, iv = .int .i64 j ∧ j ≤ ks.length ∧ Hid (KeysTo ks j) ∧ Below W.heap.size W wr) (fun iv _ => ks.length - (intOf iv).toNat)
  case atStart => exact ⟨0, rfl, Nat.zero_le _, Lib.hid (KeysTo.zero ks), Below.refl _ _⟩
  case round =>
    obtain ⟨j, rfl, hj, HS, hb⟩ := hrel
    by_cases hlt : j < ks.length
    · obtain ⟨b, off, rfl, hkx⟩ := HK.out (by intro h; rw [h] at hlt; simp at hlt)
      obtain ⟨x, hxi⟩ : ∃ x, ks[j]? = some x := ⟨ks[j], List.getElem?_eq_getElem hlt⟩
      have g1 : W.cell? ⟨b, off + j, none⟩ = some (.string ⟨x.toArray⟩) := hkx j x hxi
      have c1 := (hb.cell (p := ⟨b, off + j, none⟩) (World.block_lt_of_cell? W _ g1)).trans g1
      have HT := Lib.hid (fun w => isText_l x w (HKM.out x (List.mem_of_getElem? hxi)))
      cases hto : textOk x with
      | false =>
        have hr := Lib.hid (keysOk_bad hxi hto)
        rw [hto] at HT
        clear hkx g1 HK HKM hto hxi HS
        go_wp2_with (go_at_call 72; (with_reducible refine (HT.out _).mono ?_); rintro e w1 ⟨rfl, hb1⟩)
        go_ret
        exact ⟨ret1_of (by rw [hr.out]; rfl), on_below hb hb1 hb.size⟩
      | true =>
        rw [hto] at HT
        rcases Nat.eq_zero_or_pos j with hz | hz
        · subst hz
          have HS2 := Lib.hid (KeysTo.first hxi hto)
          simp only [Nat.add_zero] at c1
          clear hkx g1 HK HKM hto hxi HS
          go_wp2_with (go_at_call 72; (with_reducible refine (HT.out _).mono ?_); rintro e w1 ⟨rfl, hb1⟩)
          go_roundw
          case rel => exact ⟨0 + 1, by go_num, by omega, HS2, on_below hb hb1 hb.size⟩
          case measure => simp [intOf]; omega
        · obtain ⟨j, rfl⟩ : ∃ i, j = i + 1 := ⟨j - 1, by omega⟩
          obtain ⟨y, hyi⟩ : ∃ y, ks[j]? = some y := ⟨ks[j], List.getElem?_eq_getElem (by omega)⟩
          have g2 : W.cell? ⟨b, off + j, none⟩ = some (.string ⟨y.toArray⟩) := hkx j y hyi
          have c2 := (hb.cell (p := ⟨b, off + j, none⟩) (World.block_lt_of_cell? W _ g2)).trans g2
          have hj1 : ((j + 1 : Nat) : Int) > 0 := by omega
          have hj2 : ((j + 1 : Nat) : Int) - 1 = (j : Int) := by omega
          have hj3 : (j : Int) < (ks.length : Int) := by omega
          go_wp2_with (go_at_call 72; (with_reducible refine (HT.out _).mono ?_); rintro e w1 ⟨rfl, hb1⟩; have c3 := (hb1.cell (World.block_lt_of_cell? wr _ c2)).trans c2)
          · rename_i hle
            have hr := Lib.hid (keysOk_order hyi hxi (less_leq hle))
            clear hle
            go_ret
            exact ⟨ret1_of (by rw [hr.out]; rfl), on_below hb hb1 hb.size⟩
          · rename_i hle
            have HS2 := Lib.hid (KeysTo.next HS.out hyi hxi hto (less_gtr hle))
            clear hle
            go_roundw
            case rel => exact ⟨j + 1 + 1, by go_num, by omega, HS2, on_below hb hb1 hb.size⟩
            case measure => simp [intOf]; omega
    · have hr := Lib.hid (show keysOk ks = true by
        obtain rfl : j = ks.length := by omega
        exact HS.out.all)
      clear HS HK HKM
      go_wp2
      go_ret
      exact ⟨ret1_of (by rw [hr.out]; rfl), hb⟩
end Go.Proofs.YtnloimanklkigaaDoor.V
