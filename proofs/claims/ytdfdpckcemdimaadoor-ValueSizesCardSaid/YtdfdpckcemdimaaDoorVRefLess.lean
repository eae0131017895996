/- The reference's Less. -/
import Derived.Test.YtdfdpckcemdimaaDoorVText
import Derived.Test.YtdfdpckcemdimaaDoorBase
namespace Go.Proofs.YtdfdpckcemdimaaDoor.V
open Go.RowKit Go.Sort
set_option maxRecDepth 100000

theorem lessL_drop {l m : List UInt8} {k : Nat} (hl : k < l.length) (hm : k < m.length) : lessL (l.drop k) (m.drop k) = if l[k] = m[k] then lessL (l.drop (k + 1)) (m.drop (k + 1)) else decide (l[k].toNat < m[k].toNat) := by
  rw [List.drop_eq_getElem_cons hl, List.drop_eq_getElem_cons hm, lessL]
theorem lessL_end {l m : List UInt8} {k : Nat} (h1 : k ≤ l.length) (h2 : k ≤ m.length) (h : l.length ≤ k ∨ m.length ≤ k) : lessL (l.drop k) (m.drop k) = decide (l.length < m.length) := by
  rcases h with h | h
  · rw [List.drop_eq_nil_of_le h]
    cases hd : m.drop k with
    | nil =>
      have := congrArg List.length hd
      simp at this
      rw [lessL, decide_eq_false (by omega)]
    | cons c r =>
      have := congrArg List.length hd
      simp at this
      rw [lessL, decide_eq_true (by omega)]
  · rw [List.drop_eq_nil_of_le h]
    cases hd : l.drop k with
    | nil => 
      have := congrArg List.length hd
      simp at this
      rw [lessL, decide_eq_false (by omega)]
    | cons c r => rw [lessL, decide_eq_false (by omega)]
set_option maxHeartbeats 1600000 in
theorem refLess_any (s t : ByteArray) (W : World) (hs : s.size ≤ maxLen) :
    Calls Tryd.prog 38 #[.string s, .string t] W fun e w' => e = .returned (.bool (lessL s.data.toList t.data.toList)) ∧ Below W.heap.size W w' := by
  unfold maxLen at hs
  have hl1 : s.data.toList.length = s.size := Array.length_toList
  have hl2 : t.data.toList.length = t.size := Array.length_toList
  go_enter Tryd.func38, Tryd.ntmps38
  go_wp2
  go_loopw [5] (fun iv wr => ∃ k : Nat, iv = .int .i64 k ∧ k ≤ s.size ∧ k ≤ t.size ∧ Hid (lessL s.data.toList t.data.toList = lessL (s.data.toList.drop k) (t.data.toList.drop k)) ∧ Below W.heap.size W wr) (fun iv _ => s.size - (intOf iv).toNat)
  case atStart => exact ⟨0, rfl, Nat.zero_le _, Nat.zero_le _, Lib.hid (by rw [List.drop_zero, List.drop_zero]), Below.refl _ _⟩
  case round =>
    obtain ⟨k, rfl, hk1, hk2, HS, hb⟩ := hrel
    by_cases hlt1 : k < s.size
    · have h1 : (k : Int) < (s.size : Int) := by omega
      by_cases hlt2 : k < t.size
      · have h2 : (k : Int) < (t.size : Int) := by omega
        have hS := HS.out
        have he : s.data.toList[k]'(by omega) = s[k] := rfl
        have he2 : t.data.toList[k]'(by omega) = t[k] := rfl
        rw [lessL_drop (by omega) (by omega), he, he2] at hS
        by_cases hne : s[k] = t[k]
        · rw [if_pos hne] at hS
          have HS2 := Lib.hid hS
          have h3 : ((s[k].toNat : Int) != (t[k].toNat : Int)) = false := by rw [hne]; simp
          clear HS hS he he2 
          go_wp2
          go_region
          go_wp2
          go_roundw
          case rel => exact ⟨k + 1, by go_num, by omega, by omega, HS2, hb.drew⟩
          case measure => simp [intOf]; omega
        · rw [if_neg hne] at hS
          have hr := Lib.hid hS
          have h3 : ((s[k].toNat : Int) != (t[k].toNat : Int)) = true := by
            simp only [bne_iff_ne, ne_eq]
            intro e
            exact hne (UInt8.toNat_inj.1 (by omega))
          clear HS hS he he2
          go_wp2
          go_region
          go_wp2
          go_region
          go_wp2
          go_ret
          exact ⟨ret1_of (by rw [hr.out]; simp), hb.drew.drew⟩
      · have h2 : ¬ (k : Int) < (t.size : Int) := by omega
        have hr := Lib.hid (show lessL s.data.toList t.data.toList = decide (s.size < t.size) by
          rw [HS.out, lessL_end (by omega) (by omega) (.inr (by omega)), hl1, hl2])
        clear HS
        go_wp2
        go_ret
        exact ⟨ret1_of (by rw [hr.out]; rfl), hb⟩
    · have h1 : ¬ (k : Int) < (s.size : Int) := by omega
      have hr := Lib.hid (show lessL s.data.toList t.data.toList = decide (s.size < t.size) by
        rw [HS.out, lessL_end (by omega) (by omega) (.inl (by omega)), hl1, hl2])
      clear HS
      go_wp2
      go_ret
      exact ⟨ret1_of (by rw [hr.out]; rfl), hb⟩
end Go.Proofs.YtdfdpckcemdimaaDoor.V
