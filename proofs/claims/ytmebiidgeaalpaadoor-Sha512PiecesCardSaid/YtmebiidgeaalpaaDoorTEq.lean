/- Two rows of eight words are compared. -/
import Derived.Test.YtmebiidgeaalpaaDoorTMem
import Derived.Laws.StructEq
namespace Go.Proofs.YtmebiidgeaalpaaDoor.T
open Go.RowKit

theorem eq_words (d : Nat) (w : World) (a0 a1 a2 a3 a4 a5 a6 a7 b0 b1 b2 b3 b4 b5 b6 b7 : Int) :
    (Op.equalIn (d + 2) 26 (.agg #[.int .u64 a0, .int .u64 a1, .int .u64 a2, .int .u64 a3, .int .u64 a4, .int .u64 a5, .int .u64 a6, .int .u64 a7]) (.agg #[.int .u64 b0, .int .u64 b1, .int .u64 b2, .int .u64 b3, .int .u64 b4, .int .u64 b5, .int .u64 b6, .int .u64 b7])).run Tryd.prog w = .ok (a0 == b0 && a1 == b1 && a2 == b2 && a3 == b3 && a4 == b4 && a5 == b5 && a6 == b6 && a7 == b7) w := by
  have h1 : ∀ w, (sizeOf 25).run Tryd.prog w = .ok 1 w := fun _ => by kernel_rfl
  have h2 : ∀ w, (isAgg 25).run Tryd.prog w = .ok false w := fun _ => by kernel_rfl
  have h3 : ∀ (a b : Int) w, (Op.equalIn (d + 1) 25 (.int .u64 a) (.int .u64 b)).run Tryd.prog w = .ok (a == b) w := fun a b w => run_equalIn_int w d 25 .u64 .u64 a b Tryd.underlying25
  rw [Op.equalIn]
  simp only [Sem.run_bind, run_underlying Tryd.underlying26, Result.andThen_ok, h1, Std.Legacy.Range.forIn_eq_forIn_range', Std.Legacy.Range.size]
  simp only [Nat.sub_zero, Nat.reduceAdd, Nat.reduceSub, Nat.div_one, List.range', List.forIn_cons, List.forIn_nil]
  simp [part, h2, h3]
  (repeat' split) <;> simp [*]

theorem eq_h8 (s v : H8) : ((s.a : Int) == v.a && (s.b : Int) == v.b && (s.c : Int) == v.c && (s.d : Int) == v.d && (s.e : Int) == v.e && (s.f : Int) == v.f && (s.g : Int) == v.g && (s.h : Int) == v.h) = decide (s = v) := by
  cases s
  cases v
  rw [Bool.eq_iff_iff]
  simp only [Bool.and_eq_true, beq_iff_eq, decide_eq_true_eq, H8.mk.injEq]
  omega
theorem eql_words (w : World) (s v : H8) : (binOp .eql 26 (.agg (wordsL s).toArray) (.agg (wordsL v).toArray)).run Tryd.prog w = .ok (.bool (decide (s = v))) w := by
  rw [run_eql_struct, ← eq_h8]
  unfold wordsL
  rw [eq_words 9998]
  rfl
theorem eql_sums (w : World) (s v : H8) (b c : ByteArray) (n m : Nat) : (binOp .eql 28 (.agg (sumA s b n)) (.agg (sumA v c m))).run Tryd.prog w = .ok (.bool (decide (s = v) && (b.toList == c.toList && (n : Int) == (m : Int)))) w := by
  have h1 : ∀ w, (isAgg 26).run Tryd.prog w = .ok true w := fun _ => by kernel_rfl
  have h2 : ∀ w, (isAgg 9).run Tryd.prog w = .ok false w := fun _ => by kernel_rfl
  have h3 : ∀ w, (isAgg 25).run Tryd.prog w = .ok false w := fun _ => by kernel_rfl
  have h4 : ∀ w, (sizeOf 26).run Tryd.prog w = .ok 8 w := fun _ => by kernel_rfl
  have h5 : ∀ w : World, (Op.equalIn 9999 26 (.agg #[w64 s.a, w64 s.b, w64 s.c, w64 s.d, w64 s.e, w64 s.f, w64 s.g, w64 s.h]) (.agg #[w64 v.a, w64 v.b, w64 v.c, w64 v.d, w64 v.e, w64 v.f, w64 v.g, w64 v.h])).run Tryd.prog w = .ok (decide (s = v)) w := fun w => by rw [← eq_h8]; exact eq_words 9997 w _ _ _ _ _ _ _ _ _ _ _ _ _ _ _ _
  have h6 : ∀ (a b : ByteArray) w, (Op.equalIn 9999 9 (.string a) (.string b)).run Tryd.prog w = .ok (a.toList == b.toList) w := fun a b w => run_equalIn_string w 9998 9 a b Tryd.underlying9
  have h7 : ∀ (a b : Int) w, (Op.equalIn 9999 25 (.int .u64 a) (.int .u64 b)).run Tryd.prog w = .ok (a == b) w := fun a b w => run_equalIn_int w 9998 25 .u64 .u64 a b Tryd.underlying25
  rw [run_eql_struct, run_equalIn_agg _ 9999 _ _ _ (by kernel_rfl) (by kernel_rfl)]
  have hf : ((Tryd.prog.fieldsOf 28).toList.map fun f => (f.name, f.type, f.offset)) = [("H", 26, 0), ("Buf", 9, 8), ("N", 25, 9)] := by kernel_rfl
  generalize (Tryd.prog.fieldsOf 28).toList = fs at hf
  obtain ⟨f0, fs, rfl, e0, hf⟩ := List.map_eq_cons_iff.1 hf
  obtain ⟨f1, fs, rfl, e1, hf⟩ := List.map_eq_cons_iff.1 hf
  obtain ⟨f2, fs, rfl, e2, hf⟩ := List.map_eq_cons_iff.1 hf
  obtain rfl := List.map_eq_nil_iff.1 hf
  simp only [Prod.mk.injEq] at e0 e1 e2
  obtain ⟨n0, t0, o0⟩ := e0
  obtain ⟨n1, t1, o1⟩ := e1
  obtain ⟨n2, t2, o2⟩ := e2
  simp [Op.eqFields, n0, n1, n2, t0, t1, t2, o0, o1, o2, part, h1, h2, h3, h4, h5, h6, h7, sumA]
  by_cases hs : s = v <;> by_cases hb : b.toList = c.toList <;> by_cases hn : (n : Int) = (m : Int) <;> simp [hs, hb, hn]
end Go.Proofs.YtmebiidgeaalpaaDoor.T
