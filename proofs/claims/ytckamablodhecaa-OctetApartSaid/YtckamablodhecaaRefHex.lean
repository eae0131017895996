/- The contracts of the reference's Hex and digit. -/
import Derived.Test.YtckamablodhecaaHex
namespace Go.Proofs.Ytckamablodhecaa
open Go.RowKit
attribute [local go_sem ↓] Go.wp_at_zero Go.wp_at_succ

theorem wrap_u8_eq (n : Int) : IntKind.u8.wrap n = n % 256 := by simp [IntKind.wrap, IntKind.bits, IntKind.signed]
theorem refHex_row {w : World} {B : Nat} {v : Value} (s : ByteArray) (k : Nat) (hlt : k < s.size) (h1 : ((s[k].toNat : Int) / 16).toNat < digB.size) (h2 : ((s[k].toNat : Int) % 16).toNat < digB.size)
    (hown : w.ownsRow B 5 1 v (2 * k + 2) (Lib.byteCells (hexL (s.data.toList.take k)) ++ #[Value.int .u8 (digB[((s[k].toNat : Int) / 16).toNat].toNat), Value.int .u8 (digB[((s[k].toNat : Int) % 16).toNat].toNat)].toList)) :
    w.ownsRow B 5 1 v (2 * (k + 1)) (Lib.byteCells (hexL (s.data.toList.take (k + 1)))) := by
  have e : ((s[k].toNat : Int) / 16).toNat = s[k].toNat / 16 := by omega
  have e' : ((s[k].toNat : Int) % 16).toNat = s[k].toNat % 16 := by omega
  rw [digB_at _ h1, digB_at _ h2, e, e'] at hown
  rw [take_snoc s k hlt, hexL_append]
  rw [show 2 * (k + 1) = 2 * k + 2 by omega]
  simpa [hexL, Lib.byteCells] using hown

set_option maxRecDepth 100000 in
set_option maxHeartbeats 800000 in
theorem refHex_any (s : ByteArray) (W : World) (hs : s.size ≤ 1000000) :
    Calls Try.prog 13 #[.string s] W fun e W' => e = .returned (.string ⟨(hexL s.data.toList).toArray⟩) ∧ Below W.heap.size W W' := by
  obtain ⟨i0, hi, hz0, hz1, hz2⟩ := info_parts info5
  go_enter Try.func13, Try.ntmps13
  go_wp2_with fail
  go_loopw [3, 4] (fun o i wr => ∃ k : Nat, k ≤ s.size ∧ i = .int .i64 k ∧ wr.ownsRow W.heap.size 5 1 o (2 * k) (Lib.byteCells (hexL (s.data.toList.take k))) ∧ Below W.heap.size W wr) (fun _ i _ => s.size - (intOf i).toNat)
  case atStart => exact ⟨0, Nat.zero_le _, rfl, World.ownsRow_made W #[] 0 (Nat.le_refl _) (Nat.zero_le _) rfl, (Below.refl _ W).alloc (Nat.le_refl _) _⟩
  case round =>
    obtain ⟨k, hk, rfl, ho, hb⟩ := hrel
    by_cases hlt : k < s.size
    · have hi1 : (k : Int) < (s.size : Int) := by omega
      have hi0 : (0 : Int) ≤ (k : Int) := by omega
      have hc1 : (0 : Int) ≤ (s[k].toNat : Int) / 16 := by omega
      have hc2 : (s[k].toNat : Int) / 16 < 16 := by have := u8_lt s[k]; omega
      have hc5 : IntKind.u8.wrap ((s[k].toNat : Int) / 16) = (s[k].toNat : Int) / 16 := by rw [wrap_u8_eq]; have := u8_lt s[k]; omega
      have hc6 : (s[k].toNat : Int).tmod 16 = (s[k].toNat : Int) % 16 := Int.tmod_eq_emod_of_nonneg (by omega)
      have hc3 : (0 : Int) ≤ (s[k].toNat : Int) % 16 := by omega
      have hc4 : (s[k].toNat : Int) % 16 < 16 := by omega
      go_wp2_with fail
      go_region_law ((refine step_append_lies _ (by rfl) _ _ _ (by rfl) W.heap.size 5 i0 _ 1 1 Try.underlying48 hi hz0 hz1 hz2 rfl (by omega) u3 (2 * k) _ (by rfl) ((ho.alloc _).drew) ⟨wr.heap.size, 0, none⟩ 2 2 _ (by rfl) (by rfl) (World.news_of_block (t := 5) (fr := (0, 0)) (heap_alloc_new wr _)) (by simp [Value.oneCell']) (by omega) (by unfold maxLen; omega) (by omega) (by have := hb.size; simp; omega) (wr.heap.size + 1) (by simp) ?_; intro g cap w2 hown2 hgrow2 hat2 hlt2))
      all_goals
        go_wp2
        go_roundw
        case rel => exact ⟨k + 1, by omega, by go_num, refHex_row s k hlt _ _ hown2, (hb.alloc hb.size _).drew.grown hgrow2 (by have := hb.size; simp; omega) (fun j hj => (ho.lt j hj).1)⟩
        case measure => simp [intOf]; omega
    · obtain rfl : k = s.size := by omega
      have hcv := str_own ho
      go_wp2
      go_ret
      exact ⟨ret1_of (val_str (by rw [List.take_of_length_le (by simp)])), hb⟩

set_option maxHeartbeats 400000 in
theorem digit_any (c : UInt8) (W : World) :
    Calls Try.prog 25 #[.int .u8 c.toNat] W fun e W' => e = .returned (.int .i64 (dv c)) ∧ W = W' := by
  have hb := u8_lt c
  have hd := Lib.hid (dv_eq c)
  rcases (show c.toNat < 48 ∨ (48 ≤ c.toNat ∧ c.toNat ≤ 57) ∨ (57 < c.toNat ∧ c.toNat < 97) ∨ (97 ≤ c.toNat ∧ c.toNat ≤ 102) ∨ 102 < c.toNat by omega) with h | h | h | h | h
  all_goals
    go_enter Try.func25, Try.ntmps25
    go_wp2
    go_ret
    exact ⟨ret1_of (val_int (by rw [hd.out]; (repeat' split) <;> omega)), rfl⟩
end Go.Proofs.Ytckamablodhecaa
