/- The reference's Text. -/
import Derived.Test.YtdfdpckcemdimaaDoorVText
import Derived.Test.YtdfdpckcemdimaaDoorBase
namespace Go.Proofs.YtdfdpckcemdimaaDoor.V
open Go.RowKit Go.Sort
set_option maxRecDepth 100000

theorem all_drop {p : UInt8 → Bool} {l : List UInt8} {k : Nat} (h : k < l.length) : (l.drop k).all p = (p l[k] && (l.drop (k + 1)).all p) := by
  rw [List.drop_eq_getElem_cons h, List.all_cons]
set_option maxHeartbeats 800000 in
theorem refText_any (s : ByteArray) (W : World) (hs : s.size ≤ maxLen) :
    Calls Tryd.prog 58 #[.string s] W fun e w' => e = .returned (.bool (textOk s.data.toList)) ∧ Below W.heap.size W w' := by
  unfold maxLen at hs
  have hlen : s.data.toList.length = s.size := Array.length_toList
  go_enter Tryd.func58, Tryd.ntmps58
  go_wp2
  go_loopw [3] (fun iv wr => ∃ k : Nat, iv = .int .i64 k ∧ k ≤ s.size ∧ Hid (s.data.toList.all (fun c => decide (32 ≤ c.toNat)) = (s.data.toList.drop k).all (fun c => decide (32 ≤ c.toNat))) ∧ Below W.heap.size W wr) (fun iv _ => s.size - (intOf iv).toNat)
  case atStart => exact ⟨0, rfl, Nat.zero_le _, Lib.hid (by rw [List.drop_zero]), Below.refl _ _⟩
  case round =>
    obtain ⟨k, rfl, hk, HS, hb⟩ := hrel
    by_cases hlt : k < s.size
    · have hS := HS.out
      have he : s.data.toList[k]'(by omega) = s[k] := rfl
      rw [all_drop (by omega), he] at hS
      have h1 : (k : Int) < (s.size : Int) := by omega
      by_cases h32 : s[k].toNat < 32
      · have hr := Lib.hid (show textOk s.data.toList = false by
          unfold textOk
          rw [hS, decide_eq_false (by omega)]
          rfl)
        have h33 : (s[k].toNat : Int) < 32 := by omega
        clear HS hS he
        go_wp2
        go_ret
        exact ⟨ret1_of (by rw [hr.out]; rfl), hb⟩
      · rw [decide_eq_true (by omega), Bool.true_and] at hS
        have HS2 := Lib.hid hS
        have h33 : ¬ (s[k].toNat : Int) < 32 := by omega
        clear HS hS he
        go_wp2
        go_roundw
        case rel => exact ⟨k + 1, by go_num, by omega, HS2, hb⟩
        case measure => simp [intOf]; omega
    · obtain rfl : k = s.size := by omega
      have hr := Lib.hid (show textOk s.data.toList = decide ((s.size : Int) ≤ 4000) by
        unfold textOk
        rw [HS.out, List.drop_eq_nil_of_le (by omega), hlen]
        simp
        omega)
      clear HS
      go_wp2
      go_ret
      exact ⟨ret1_of (by rw [hr.out]; rfl), hb⟩
end Go.Proofs.YtdfdpckcemdimaaDoor.V
