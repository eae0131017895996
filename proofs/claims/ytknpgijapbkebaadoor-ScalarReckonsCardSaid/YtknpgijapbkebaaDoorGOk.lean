/- What the scalars' functions keep, put together; two numbers compared; the statements' own call. -/
import Derived.Test.YtknpgijapbkebaaDoorGTab
import Derived.Test.YtknpgijapbkebaaDoorGRead
import Derived.Laws.StructEq
import Derived.Lib.QuietBelow
import Derived.Deep.QuietTactic
import Derived.BigQuiet
namespace Go.Proofs.YtknpgijapbkebaaDoor.F
open Go.RowKit Go.Sort

/-! ### two numbers are compared -/
theorem eq_four (d : Nat) (w : World) (a0 a1 a2 a3 b0 b1 b2 b3 : Int) :
    (Op.equalIn (d + 2) 24 (.agg #[.int .u64 a0, .int .u64 a1, .int .u64 a2, .int .u64 a3]) (.agg #[.int .u64 b0, .int .u64 b1, .int .u64 b2, .int .u64 b3])).run Tryd.prog w = .ok (a0 == b0 && a1 == b1 && a2 == b2 && a3 == b3) w := by
  have h1 : ∀ w, (sizeOf 22).run Tryd.prog w = .ok 1 w := fun _ => by kernel_rfl
  have h2 : ∀ w, (isAgg 22).run Tryd.prog w = .ok false w := fun _ => by kernel_rfl
  have h3 : ∀ (a b : Int) w, (Op.equalIn (d + 1) 22 (.int .u64 a) (.int .u64 b)).run Tryd.prog w = .ok (a == b) w := fun a b w => run_equalIn_int w d 22 .u64 .u64 a b Tryd.underlying22
  rw [Op.equalIn]
  simp only [Sem.run_bind, run_underlying Tryd.underlying24, Result.andThen_ok, h1, Std.Legacy.Range.forIn_eq_forIn_range', Std.Legacy.Range.size]
  simp only [Nat.sub_zero, Nat.reduceAdd, Nat.reduceSub, Nat.div_one, List.range', List.forIn_cons, List.forIn_nil]
  simp [part, h2, h3]
  (repeat' split) <;> simp [*]
theorem eql_four (w : World) (a0 a1 a2 a3 b0 b1 b2 b3 : Int) :
    (binOp .eql 24 (.agg #[.int .u64 a0, .int .u64 a1, .int .u64 a2, .int .u64 a3]) (.agg #[.int .u64 b0, .int .u64 b1, .int .u64 b2, .int .u64 b3])).run Tryd.prog w = .ok (.bool (a0 == b0 && a1 == b1 && a2 == b2 && a3 == b3)) w := by
  rw [run_eql_struct, eq_four 9998]
  rfl
theorem neq_four (w : World) (a0 a1 a2 a3 b0 b1 b2 b3 : Int) :
    (binOp .neq 24 (.agg #[.int .u64 a0, .int .u64 a1, .int .u64 a2, .int .u64 a3]) (.agg #[.int .u64 b0, .int .u64 b1, .int .u64 b2, .int .u64 b3])).run Tryd.prog w = .ok (.bool (!(a0 == b0 && a1 == b1 && a2 == b2 && a3 == b3))) w := by
  rw [run_neq_struct, eq_four 9998]
  rfl
theorem fe_word (n : Nat) (h : n < 18446744073709551616) : fe n = .agg #[.int .u64 (n : Int), .int .u64 0, .int .u64 0, .int .u64 0] := by
  unfold fe feA
  rw [Nat.mod_eq_of_lt h, show n / 18446744073709551616 = 0 by omega, show n / 340282366920938463463374607431768211456 = 0 by omega, show n / 6277101735386680763835789423207666416102355444464034512896 = 0 by omega]
  rfl
theorem fe_same (m n : Nat) (hm : m < K256) (hn : n < K256) : (((m % 18446744073709551616 : Nat) : Int) == ((n % 18446744073709551616 : Nat) : Int) && ((m / 18446744073709551616 % 18446744073709551616 : Nat) : Int) == ((n / 18446744073709551616 % 18446744073709551616 : Nat) : Int) && ((m / 340282366920938463463374607431768211456 % 18446744073709551616 : Nat) : Int) == ((n / 340282366920938463463374607431768211456 % 18446744073709551616 : Nat) : Int) && ((m / 6277101735386680763835789423207666416102355444464034512896 % 18446744073709551616 : Nat) : Int) == ((n / 6277101735386680763835789423207666416102355444464034512896 % 18446744073709551616 : Nat) : Int)) = decide (m = n) := by
  unfold K256 at hm hn
  rw [Bool.eq_iff_iff]
  simp only [Bool.and_eq_true, beq_iff_eq, decide_eq_true_eq]
  omega
theorem eql_fe (m n : Nat) (hm : m < K256) (hn : n < K256) (w : World) : (binOp .eql 24 (fe m) (fe n)).run Tryd.prog w = .ok (.bool (decide (m = n))) w := by
  unfold fe feA
  rw [eql_four, fe_same m n hm hn]
theorem neq_fe (m n : Nat) (hm : m < K256) (hn : n < K256) (w : World) : (binOp .neq 24 (fe m) (fe n)).run Tryd.prog w = .ok (.bool (!decide (m = n))) w := by
  unfold fe feA
  rw [neq_four, fe_same m n hm hn]
theorem eql_self (n : Nat) (w : World) : (binOp .eql 24 (fe n) (fe n)).run Tryd.prog w = .ok (.bool true) w := by
  unfold fe feA
  rw [eql_four]
  simp
theorem neq_self (n : Nat) (w : World) : (binOp .neq 24 (fe n) (fe n)).run Tryd.prog w = .ok (.bool false) w := by
  unfold fe feA
  rw [neq_four]
  simp

theorem zero_four (n : Nat) (hn : n < K256) (w : World) : (binOp .eql 24 (fe n) (.agg #[.int .u64 0, .int .u64 0, .int .u64 0, .int .u64 0])).run Tryd.prog w = .ok (.bool (decide (n = 0))) w := eql_fe n 0 hn (by decide) w
theorem one_four (w : World) : (binOp .eql 24 (fe 1) (.agg #[.int .u64 1, .int .u64 0, .int .u64 0, .int .u64 0])).run Tryd.prog w = .ok (.bool true) w := eql_self 1 w
theorem same_four (a b c d : Nat) (w : World) : (binOp .eql 24 (.agg #[w64 a, w64 b, w64 c, w64 d]) (.agg #[w64 a, w64 b, w64 c, w64 d])).run Tryd.prog w = .ok (.bool true) w := by rw [eql_four]; simp

theorem neq_zero (n : Nat) (hn : n < K256) (w : World) : (binOp .neq 24 (fe n) (.agg #[.int .u64 0, .int .u64 0, .int .u64 0, .int .u64 0])).run Tryd.prog w = .ok (.bool (!decide (n = 0))) w := neq_fe n 0 hn (by decide) w

/-! ### what the scalars' functions keep -/
theorem modL_K (n : Nat) : n % l25 < K256 := Nat.lt_trans (Nat.mod_lt _ l25_pos) (by decide)

structure ScalarOk : Prop where
  least : ∀ (n : Nat) (w : World), n < K256 → Tab w → Calls Tryd.prog 9 #[fe n] w fun e w' => e = .returned (fe (n % l25)) ∧ Below w.heap.size w w'
  add : ∀ (m n : Nat) (w : World), m < K256 → n < K256 → Tab w → Calls Tryd.prog 11 #[fe m, fe n] w fun e w' => e = .returned (fe ((m + n) % l25)) ∧ Below w.heap.size w w'
  mul : ∀ (m n : Nat) (w : World), m < K256 → n < K256 → Tab w → Calls Tryd.prog 13 #[fe m, fe n] w fun e w' => e = .returned (fe (m * n % l25)) ∧ Below w.heap.size w w'
  wide : ∀ (s : ByteArray) (w : World), s.size ≤ 140737488355328 → Tab w → Calls Tryd.prog 15 #[.string s] w fun e w' =>
    e = .returned (if s.size ≤ 64 then .tuple #[fe (numLE s.data.toList % l25), .int .i64 0] else .tuple #[fe 0, .int .i64 1]) ∧ Below w.heap.size w w'
  bytes : ∀ (n : Nat) (w : World), n < K256 → Tab w → Calls Tryd.prog 17 #[fe n] w fun e w' => e = .returned (.string ⟨(leL (n % l25) 32).toArray⟩) ∧ Below w.heap.size w w'
  parse : ∀ (s : ByteArray) (w : World), s.size ≤ 140737488355328 → Tab w → Calls Tryd.prog 16 #[.string s] w fun e w' =>
    e = .returned (if s.size = 32 then if numLE s.data.toList < l25 then .tuple #[fe (numLE s.data.toList), .int .i64 0] else .tuple #[fe 0, .int .i64 11] else .tuple #[fe 0, .int .i64 1]) ∧ Below w.heap.size w w'

/-! ### calls in a region that draws its order -/
theorem reg {f : FuncId} {args : Array Value} {W : World} {v : Value} (h : ∀ w, Below W.heap.size W w → Calls Tryd.prog f args w fun e w' => e = .returned v ∧ Below w.heap.size w w') :
    ∀ d os, Calls Tryd.prog f args (grow (redrawn W d) os) fun e w'' => e = .returned v ∧ ∃ p : Regrown, w'' = grow (redrawn W p.d) p.os := fun d os => Calls.regrown_of (h _ (below_regrown W d os))

set_option maxHeartbeats 400000 in
theorem alive_any (F : ScalarOk) (w : World) (hT : Tab w) : Calls Tryd.prog 8 #[] w fun e w' => e = .returned (.bool true) ∧ Below w.heap.size w w' := by
  have HM := Lib.hid (fun w => F.mul 2 3 w (by decide) (by decide))
  rw [show 2 * 3 % l25 = 6 by decide, fe_word 2 (by decide), fe_word 3 (by decide)] at HM
  have HM2 : Hid (∀ w, Tab w → Calls Tryd.prog 13 #[.agg #[.int .u64 2, .int .u64 0, .int .u64 0, .int .u64 0], .agg #[.int .u64 3, .int .u64 0, .int .u64 0, .int .u64 0]] w fun e w' => e = .returned (fe 6) ∧ Below w.heap.size w w') := Lib.hid HM.out
  have e6 : ∀ w, (binOp .eql 24 (fe 6) (.agg #[.int .u64 6, .int .u64 0, .int .u64 0, .int .u64 0])).run Tryd.prog w = .ok (.bool true) w := fun w => eql_self 6 w
  have hB := Below.refl w.heap.size w
  go_enter Tryd.func8, Tryd.ntmps8
  go_wp2_with (go_at_call 13; refine (HM2.out _ hT).mono ?_; rintro e w1 ⟨rfl, hb⟩; replace hT := hT.on hb; replace hB := below_on hB hb; clear hb)
  go_ret
  exact ⟨rfl, hB⟩
end Go.Proofs.YtknpgijapbkebaaDoor.F
