/- The contracts of the program's calls that put a number's bytes behind others. -/
import Derived.Test.YtopblemgkcdgnaaDoorSMem
import Derived.Deep.AppendLies
namespace Go.Proofs.YtopblemgkcdgnaaDoor
open Go.RowKit

/-- what a row holds when k of a number's bytes are behind others -/
def upto (acc : List UInt8) (n w k : Nat) : List UInt8 := acc ++ (bigL n w).take k
theorem upto_zero (acc : List UInt8) (n w : Nat) : upto acc n w 0 = acc := by simp [upto]
theorem upto_end (acc : List UInt8) (n w : Nat) : upto acc n w w = acc ++ bigL n w := by
  unfold upto
  rw [List.take_of_length_le (by rw [bigL_length]; exact Nat.le_refl _)]
theorem upto_length (acc : List UInt8) (n w k : Nat) (h : k ≤ w) : (upto acc n w k).length = acc.length + k := by
  unfold upto
  rw [List.length_append, List.length_take, bigL_length]
  omega
theorem bigL_take (n w k : Nat) (h : k < w) : (bigL n w).take (k + 1) = (bigL n w).take k ++ [(n / 256 ^ (w - 1 - k) % 256).toUInt8] := by
  induction w generalizing k with
  | zero => omega
  | succ w ih =>
    rw [bigL_head]
    cases k with
    | zero => simp
    | succ k =>
      rw [List.take_succ_cons, List.take_succ_cons, ih k (by omega), show w + 1 - 1 - (k + 1) = w - 1 - k by omega]
      rfl
theorem upto_step (acc : List UInt8) (n w k : Nat) (h : k < w) : upto acc n w (k + 1) = upto acc n w k ++ [(n / 256 ^ (w - 1 - k) % 256).toUInt8] := by
  unfold upto
  rw [bigL_take n w k h, List.append_assoc]

theorem byte_shift (n k : Nat) : (n : Int) / 2 ^ (8 * k) % 256 = (((n / 256 ^ k % 256).toUInt8).toNat : Int) := by
  have e : (2 : Int) ^ (8 * k) = ((256 ^ k : Nat) : Int) := by rw [Int.pow_mul]; simp
  rw [toNat_mod, e]
  omega

set_option maxHeartbeats 400000 in
theorem appendNumber_any (v : Value) (acc : List UInt8) (n x : Nat) (B : Nat) (W : World) (hx : x ≤ 8) (ha : acc.length ≤ 1000) (hB : B ≤ W.heap.size) (hown : W.ownsRow B 5 1 v acc.length (Lib.byteCells acc)) :
    Calls Tryd.prog 42 #[v, .int .u64 n, .int .i64 x] W fun e W' => ∃ v', e = .returned v' ∧ W'.ownsRow B 5 1 v' (acc ++ bigL n x).length (Lib.byteCells (acc ++ bigL n x)) ∧ Below B W W' := by
  obtain ⟨i0, hi, hz0, hz1, hz2⟩ := info_parts info5
  go_enter Tryd.func42, Tryd.ntmps42
  go_wp2_with fail
  go_loopw [0, 9] (fun o i wr => ∃ k : Nat, k ≤ x ∧ i = .int .i64 k ∧ wr.ownsRow B 5 1 o (upto acc n x k).length (Lib.byteCells (upto acc n x k)) ∧ Below B W wr) (fun _ i _ => x - (intOf i).toNat)
  case atStart => exact ⟨0, Nat.zero_le _, rfl, by rw [upto_zero]; exact hown, Below.refl _ _⟩
  case round =>
    clear hown
    obtain ⟨k, hk, rfl, ho, hb⟩ := hrel
    have hBr := Nat.le_trans hB hb.size
    by_cases hlt : k < x
    · have HS := Lib.hid (upto_step acc n x k hlt)
      have hl := upto_length acc n x k hk
      have hl1 : (upto acc n x k).length ≤ 1008 := by omega
      clear hl
      go_wp2_with (at_builtin; refine wpList_append_lies _ rfl _ _ 48 (by rfl) B 5 i0 _ 1 1 Tryd.underlying48 hi hz0 hz1 hz2 rfl (by omega) _ (upto acc n x k).length _ (by rfl) (ho.alloc _) ⟨wr.heap.size, 0, none⟩ 1 1 _ (by rfl) (by rfl) (World.news_of_block (t := 5) (fr := (0, 0)) (heap_alloc_new wr _)) (by simp [Value.oneCell']) (by omega) (by unfold maxLen; omega) (by omega) (by simp; omega) (wr.heap.size + 1) (by simp) ?_; intro g cap w2 hown2 hgrow2 hat2 hlt3)
      go_roundw
      case rel =>
        exact ⟨k + 1, by omega, by go_num, by rw [HS.out]; rw [byte_shift] at hown2; simpa [Lib.byteCells] using hown2, (hb.alloc hBr _).grown hgrow2 (by simp; omega) (fun j hj => (ho.lt j hj).1)⟩
      case measure => simp [intOf]; omega
    · obtain rfl : k = x := by omega
      have HS := Lib.hid (upto_end acc n k)
      go_wp2
      go_ret
      exact ⟨_, rfl, by rw [← HS.out]; exact ho, hb⟩
end Go.Proofs.YtopblemgkcdgnaaDoor
