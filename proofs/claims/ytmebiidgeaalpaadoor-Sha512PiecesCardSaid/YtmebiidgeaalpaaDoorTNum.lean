/- The contracts of the program's calls that put a number's bytes behind others. -/
import Derived.Test.YtmebiidgeaalpaaDoorTMem
import Derived.Deep.AppendLies
namespace Go.Proofs.YtmebiidgeaalpaaDoor.T
open Go.RowKit

/-- what a row holds when k of a number's bytes are behind others -/
def upto (acc : List UInt8) (n w k : Nat) : List UInt8 := acc ++ (bigL n w).take k
theorem upto_zero (acc : List UInt8) (n w : Nat) : upto acc n w 0 = acc := by simp [upto]
theorem upto_end (acc : List UInt8) (n w : Nat) : upto acc n w w = acc ++ bigL n w := by
  unfold upto
  rw [List.take_of_length_le (by rw [bigL_length]; exact Nat.le_refl _)]
theorem upto_length (acc : List UInt8) (n w k : Nat) (h : k ≤ w) : (upto acc n w k).length = acc.length + k := by
  unfold upto
  rw [List.length_append, List.length_take, bigL_length]
  omega
theorem bigL_take (n w k : Nat) (h : k < w) : (bigL n w).take (k + 1) = (bigL n w).take k ++ [(n / 256 ^ (w - 1 - k) % 256).toUInt8] := by
  induction w generalizing k with
  | zero => omega
  | succ w ih =>
    rw [bigL_head]
    cases k with
    | zero => simp
    | succ k =>
      rw [List.take_succ_cons, List.take_succ_cons, ih k (by omega), show w + 1 - 1 - (k + 1) = w - 1 - k by omega]
      rfl
theorem upto_step (acc : List UInt8) (n w k : Nat) (h : k < w) : upto acc n w (k + 1) = upto acc n w k ++ [(n / 256 ^ (w - 1 - k) % 256).toUInt8] := by
  unfold upto
  rw [bigL_take n w k h, List.append_assoc]

theorem byte_shift (n k : Nat) : (n : Int) / 2 ^ (8 * k) % 256 = (((n / 256 ^ k % 256).toUInt8).toNat : Int) := by
  have e : (2 : Int) ^ (8 * k) = ((256 ^ k : Nat) : Int) := by rw [Int.pow_mul]; simp
  rw [toNat_mod, e]
  omega

/-- a word moved right by so many bytes that all of it may drop out -/
theorem shift_far (n k : Nat) (y : Int) (hy : y = ((8 * k : Nat) : Int)) (hn : n < 18446744073709551616) (w : World) : (Op.shift BinOp.shr .u64 (n : Int) .i64 y).run Tryd.prog w = .ok (.int .u64 ((n : Int) / 2 ^ (8 * k))) w := by
  subst hy
  have hb : IntKind.u64.bits = 64 := rfl
  unfold Op.shift
  rw [if_neg (by omega), Int.toNat_natCast, hb]
  show Result.ok (Value.int .u64 (Int.fdiv (n : Int) (2 ^ min (8 * k) 64))) w = _
  rw [Int.fdiv_eq_ediv_of_nonneg _ (show (0 : Int) ≤ 2 ^ min (8 * k) 64 from Int.pow_nonneg (by decide))]
  by_cases h : 8 * k ≤ 64
  · rw [Nat.min_eq_left h]
  · rw [Nat.min_eq_right (by omega)]
    have h1 : (n : Int) / 2 ^ 64 = 0 := by omega
    have h2 : (n : Int) / 2 ^ (8 * k) = 0 := by
      rw [show (2 : Int) ^ (8 * k) = ((2 ^ (8 * k) : Nat) : Int) by rw [Int.natCast_pow]; rfl, ← Int.natCast_ediv, Nat.div_eq_of_lt (Nat.lt_of_lt_of_le hn (Nat.pow_le_pow_right (n := 2) (i := 64) (by decide) (show 64 ≤ 8 * k by omega)))]
      rfl
    rw [h1, h2]
set_option maxHeartbeats 400000 in
theorem appendNumber_any (v : Value) (acc : List UInt8) (n x : Nat) (B : Nat) (W : World) (hn : n < 18446744073709551616) (hx : x ≤ 16) (ha : acc.length ≤ 1000) (hB : B ≤ W.heap.size) (hown : W.ownsRow B 5 1 v acc.length (Lib.byteCells acc)) :
    Calls Tryd.prog 42 #[v, .int .u64 n, .int .i64 x] W fun e W' => ∃ v', e = .returned v' ∧ W'.ownsRow B 5 1 v' (acc ++ bigL n x).length (Lib.byteCells (acc ++ bigL n x)) ∧ Below B W W' := by
  obtain ⟨i0, hi, hz0, hz1, hz2⟩ := info_parts info5
  go_enter Tryd.func42, Tryd.ntmps42
  go_wp2_with fail
  go_loopw [0, 9] (fun o i wr => ∃ k : Nat, k ≤ x ∧ i = .int .i64 k ∧ wr.ownsRow B 5 1 o (upto acc n x k).length (Lib.byteCells (upto acc n x k)) ∧ Below B W wr) (fun _ i _ => x - (intOf i).toNat)
  case atStart => exact ⟨0, Nat.zero_le _, rfl, by rw [upto_zero]; exact hown, Below.refl _ _⟩
  case round =>
    clear hown
    obtain ⟨k, hk, rfl, ho, hb⟩ := hrel
    have hBr := Nat.le_trans hB hb.size
    by_cases hlt : k < x
    · have HS := Lib.hid (upto_step acc n x k hlt)
      have hsh := fun w => shift_far n (x - 1 - k) (8 * ((x : Int) - 1 - (k : Int))) (by omega) hn w
      have hl := upto_length acc n x k hk
      have hl1 : (upto acc n x k).length ≤ 1016 := by omega
      clear hl
      go_wp2_with (at_builtin; refine wpList_append_lies _ rfl _ _ 47 (by rfl) B 5 i0 _ 1 1 Tryd.underlying47 hi hz0 hz1 hz2 rfl (by omega) _ (upto acc n x k).length _ (by rfl) (ho.alloc _) ⟨wr.heap.size, 0, none⟩ 1 1 _ (by rfl) (by rfl) (World.news_of_block (t := 5) (fr := (0, 0)) (heap_alloc_new wr _)) (by simp [Value.oneCell']) (by omega) (by unfold maxLen; omega) (by omega) (by simp; omega) (wr.heap.size + 1) (by simp) ?_; intro g cap w2 hown2 hgrow2 hat2 hlt3)
      go_roundw
      case rel =>
        exact ⟨k + 1, by omega, by go_num, by rw [HS.out]; rw [byte_shift] at hown2; simpa [Lib.byteCells] using hown2, (hb.alloc hBr _).grown hgrow2 (by simp; omega) (fun j hj => (ho.lt j hj).1)⟩
      case measure => simp [intOf]; omega
    · obtain rfl : k = x := by omega
      have HS := Lib.hid (upto_end acc n k)
      go_wp2
      go_ret
      exact ⟨_, rfl, by rw [← HS.out]; exact ho, hb⟩
end Go.Proofs.YtmebiidgeaalpaaDoor.T
