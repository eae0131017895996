/- Texts that stand on one another, put together: FPlus, FWords, FTab, FRef, FLE, FRefBytes, FOk, FPow, CSem, FLimbs, FMulMath, FBits, FCarry, FLeast, FMul, FSub, FSquared, FOnes, FInv, FSqrt, CPt, CTab, COk, HSc, FRefPow. -/
import Derived.Test.YtdjglghecekeoaaGreatDoorV8
import Derived.BigQuiet
import Derived.BigRegion
import Derived.Deep.CutRange
import Derived.Deep.QuietTactic
import Derived.Deep.RegionWith
import Derived.Deep.WholeRow
import Derived.Laws.Externs
import Derived.Laws.StructEq
import Derived.Lib.QuietBelow
import Derived.Outline
import Derived.StillTailTactics
/- The contracts of the reference's Plus and Times. -/
namespace Go.Proofs.YtdjglghecekeoaaGreatDoor.F
set_option maxRecDepth 100000
open Go.RowKit

theorem below_put {B : Nat} {a w : World} (h : Below B a w) {g : Nat} (hg : B ≤ g) (i : Nat) (v : Value) : Below B a (w.setCell ⟨g, i, none⟩ v) := h.setCell (p := ⟨g, i, none⟩) hg v
end Go.Proofs.YtdjglghecekeoaaGreatDoor.F

/- The contracts of the reference's Digits and Words: four words as digits, and back. -/
namespace Go.Proofs.YtdjglghecekeoaaGreatDoor.F
set_option maxRecDepth 100000
open Go.RowKit

/-- a number of 64-bit words, word by word -/
def wordN (n j : Nat) : Nat := n / 18446744073709551616 ^ j % 18446744073709551616
theorem wordN_lt (n j : Nat) : wordN n j < 18446744073709551616 := Nat.mod_lt _ (by decide)
theorem feA_words (n : Nat) : feA n = #[w64 (wordN n 0), w64 (wordN n 1), w64 (wordN n 2), w64 (wordN n 3)] := by
  unfold feA wordN
  rw [Nat.pow_zero, Nat.div_one]
/-! ### digits of a number -/
/-! ### digits as words -/
end Go.Proofs.YtdjglghecekeoaaGreatDoor.F

/- What the program's own variables hold while the field's functions are called. -/
namespace Go.Proofs.YtdjglghecekeoaaGreatDoor.F
open Go.RowKit

/-- the variable that holds p does -/
def Tab (w : World) : Prop := ∀ i, i < 4 → w.cell? ⟨5, i, none⟩ = some (w64 (wordN p25 i))
theorem Tab.on {w w' : World} (h : Tab w) (hb : Below w.heap.size w w') : Tab w' := fun i hi => by
  have h1 := h i hi
  exact (hb.cell (p := ⟨5, i, none⟩) (World.block_lt_of_cell? w _ h1)).trans h1
/-- .. and the one that holds a root of -1 -/
def TabR (w : World) : Prop := ∀ i, i < 4 → w.cell? ⟨6, i, none⟩ = some (w64 (wordN i25 i))
theorem TabR.on {w w' : World} (h : TabR w) (hb : Below w.heap.size w w') : TabR w' := fun i hi => by
  have h1 := h i hi
  exact (hb.cell (p := ⟨6, i, none⟩) (World.block_lt_of_cell? w _ h1)).trans h1
def Tab2 (w : World) : Prop := Tab w ∧ TabR w
theorem Tab2.on {w w' : World} (h : Tab2 w) (hb : Below w.heap.size w w') : Tab2 w' := ⟨h.1.on hb, h.2.on hb⟩
end Go.Proofs.YtdjglghecekeoaaGreatDoor.F

/- The contracts of the reference's Least, Add, Sub and Mul. -/
namespace Go.Proofs.YtdjglghecekeoaaGreatDoor.F
set_option maxRecDepth 100000
open Go.RowKit

theorem lies3 (w : World) (a b : Obj) (t : TypeId) (cs : Array Value) : Lies (((w.alloc a).alloc b).alloc (.cells cs t)) (w.heap.size + 2) t cs := by
  have h := Lies.new ((w.alloc a).alloc b) t cs
  have e : ((w.alloc a).alloc b).heap.size = w.heap.size + 2 := by simp
  rwa [e] at h
abbrev fe0A : Array Value := #[.int .u64 0, .int .u64 0, .int .u64 0, .int .u64 0]
theorem Lies.four {w : World} {g t : Nat} {x0 x1 x2 x3 : Value} (h : Lies w g t #[x0, x1, x2, x3]) : w.cell? ⟨g, 0, none⟩ = some x0 ∧ w.cell? ⟨g, 1, none⟩ = some x1 ∧ w.cell? ⟨g, 2, none⟩ = some x2 ∧ w.cell? ⟨g, 3, none⟩ = some x3 := ⟨h.cell 0, h.cell 1, h.cell 2, h.cell 3⟩
theorem fe_four (n : Nat) : ∃ a b c d : Nat, feA n = #[w64 a, w64 b, w64 c, w64 d] := ⟨_, _, _, _, rfl⟩

end Go.Proofs.YtdjglghecekeoaaGreatDoor.F

/- Bytes as a number, the lowest first, and back. Nothing of the program is named here. -/
namespace Go.Proofs.YtdjglghecekeoaaGreatDoor.F

/-- the first k bytes of a number, the lowest first -/
def leL (n : Nat) : Nat → List UInt8
  | 0 => []
  | k + 1 => leL n k ++ [(n / 256 ^ k % 256).toUInt8]
theorem leL_length (n k : Nat) : (leL n k).length = k := by
  induction k with
  | zero => rfl
  | succ k ih => rw [leL, List.length_append, ih]; rfl
/-- the number of bytes, the lowest first -/
def numLE : List UInt8 → Nat
  | [] => 0
  | b :: r => b.toNat + 256 * numLE r
theorem numLE_append (a b : List UInt8) : numLE (a ++ b) = numLE a + 256 ^ a.length * numLE b := by
  induction a with
  | nil => simp [numLE]
  | cons x a ih =>
    rw [List.cons_append, numLE, ih, numLE, List.length_cons, Nat.pow_succ, Nat.mul_add, Nat.mul_comm (256 ^ a.length) 256, Nat.mul_assoc]
    omega
theorem numLE_lt (l : List UInt8) : numLE l < 256 ^ l.length := by
  induction l with
  | nil => simp [numLE]
  | cons x l ih =>
    have h1 := u8_lt x
    rw [numLE, List.length_cons, Nat.pow_succ]
    omega
theorem numLE_leL (n k : Nat) : numLE (leL n k) = n % 256 ^ k := by
  induction k with
  | zero => simp [leL, numLE, Nat.mod_one]
  | succ k ih =>
    rw [leL, numLE_append, ih, leL_length, Nat.pow_succ, Nat.mod_mul]
    simp only [numLE, Nat.mul_zero, Nat.add_zero]
    rw [toNat_mod]
theorem take_getD (l : List UInt8) (k : Nat) (h : k < l.length) : l.take (k + 1) = l.take k ++ [l.getD k 0] := by
  rw [List.take_succ_eq_append_getElem h, List.getD_eq_getElem?_getD, List.getElem?_eq_getElem h]
  rfl
end Go.Proofs.YtdjglghecekeoaaGreatDoor.F

/- The contracts of the reference's Raw and Bytes: a number's bytes, the lowest first. -/
namespace Go.Proofs.YtdjglghecekeoaaGreatDoor.F
set_option maxRecDepth 100000
open Go.RowKit

theorem own_news {w : World} {B e g n cap : Nat} {xs : List Value} (h : w.ownsRow B e 1 (.slice (some ⟨g, 0, none⟩) n cap) n xs) : ∀ j u, xs[j]? = some u → w.cell? ((⟨g, 0, none⟩ : Addr).add j) = some u := fun j u hu => by
  have hj : j < xs.length := (List.getElem?_eq_some_iff.1 hu).1
  have hn : xs.length = n := by simpa using h.1
  rw [Addr.add_mid, Nat.zero_add]
  exact (h.cellAt j (by omega)).trans hu
/-- a row goes behind a row that the call owns -/
theorem wpL_appendRow {P : Program} {ops : Array Oper} {rest : List Oper} {a : Act} {w : World} {Q : Exit → Act → World → Prop} {t' : TypeId} {pos : String} {after : Array Edge} {d : Option Tmp} {x y : Tmp} {ty : TypeId}
    (B : Nat) (e : TypeId) (i : TypeInfo) (z : Value) (bytes : Nat) (ht : P.underlying ty = some (.slice e)) (hi : P.info? e = some i) (hz : i.zero = some z) (hsize : i.size = 1) (hby : i.bytes = bytes) (hzs : z.cells.size = 1)
    (v : Value) (n : Nat) (xs : List Value) (hown : w.ownsRow B e 1 v n xs) (B' b m c : Nat) (us : List Value) (hrow : w.ownsRow B' e 1 (.slice (some ⟨b, 0, none⟩) m c) m us) (hu : ∀ u ∈ us, u.oneCell' = true) (hm : 0 < m) (h63 : n + m ≤ maxLen) (hbytes : (n + m) * bytes ≤ 140737488355328) (hbase : B ≤ w.heap.size)
    (hs : a.eval (.tmp x) = v) (hx : a.eval (.tmp y) = .slice (some ⟨b, 0, none⟩) m c)
    (h : ∀ g cap w', w'.ownsRow B e 1 (.slice (some ⟨g, 0, none⟩) (n + m) cap) (n + m) (xs ++ us) → w.grownBy w' v.ownBlock → wpList P ops Q rest (a.put d (.slice (some ⟨g, 0, none⟩) (n + m) cap)) w') :
    wpList P ops Q (⟨d, .call { callee := .builtin .append, args := #[.tmp x, .tmp y], argTypes := #[ty, ty] }, t', pos, after, none⟩ :: rest) a w :=
  wpList_append_lies (o := ⟨d, .call { callee := .builtin .append, args := #[.tmp x, .tmp y], argTypes := #[ty, ty] }, t', pos, after, none⟩) w rfl _ _ ty rfl B e i z 1 bytes ht hi hz hsize hby hzs (by decide) v n xs hs hown ⟨b, 0, none⟩ m c us hx (by simpa using hrow.1) (own_news hrow) hu hm h63 hbytes hbase w.heap.size rfl (fun g cap w' h2 h3 _ _ => h g cap w' h2 h3)
theorem byteCells_one (l : List UInt8) : ∀ u ∈ Lib.byteCells l, u.oneCell' = true := by
  intro u hu
  unfold Lib.byteCells at hu
  rw [List.mem_map] at hu
  obtain ⟨x, _, rfl⟩ := hu
  rfl
end Go.Proofs.YtdjglghecekeoaaGreatDoor.F

/- What the field's functions keep, put together; two numbers compared; the statements' own call. -/
namespace Go.Proofs.YtdjglghecekeoaaGreatDoor.F
set_option maxRecDepth 100000
open Go.RowKit Go.Sort

/-! ### two numbers are compared -/
theorem eq_four (d : Nat) (w : World) (a0 a1 a2 a3 b0 b1 b2 b3 : Int) :
    (Op.equalIn (d + 2) 66 (.agg #[.int .u64 a0, .int .u64 a1, .int .u64 a2, .int .u64 a3]) (.agg #[.int .u64 b0, .int .u64 b1, .int .u64 b2, .int .u64 b3])).run Tryz.prog w = .ok (a0 == b0 && a1 == b1 && a2 == b2 && a3 == b3) w := by
  have h1 : ∀ w, (sizeOf 54).run Tryz.prog w = .ok 1 w := fun _ => by kernel_rfl
  have h2 : ∀ w, (isAgg 54).run Tryz.prog w = .ok false w := fun _ => by kernel_rfl
  have h3 : ∀ (a b : Int) w, (Op.equalIn (d + 1) 54 (.int .u64 a) (.int .u64 b)).run Tryz.prog w = .ok (a == b) w := fun a b w => run_equalIn_int w d 54 .u64 .u64 a b Tryz.underlying54
  rw [Op.equalIn]
  simp only [Sem.run_bind, run_underlying Tryz.underlying66, Result.andThen_ok, h1, Std.Legacy.Range.forIn_eq_forIn_range', Std.Legacy.Range.size]
  simp only [Nat.sub_zero, Nat.reduceAdd, Nat.reduceSub, Nat.div_one, List.range', List.forIn_cons, List.forIn_nil]
  simp [part, h2, h3]
  (repeat' split) <;> simp [*]
theorem eql_four (w : World) (a0 a1 a2 a3 b0 b1 b2 b3 : Int) :
    (binOp .eql 66 (.agg #[.int .u64 a0, .int .u64 a1, .int .u64 a2, .int .u64 a3]) (.agg #[.int .u64 b0, .int .u64 b1, .int .u64 b2, .int .u64 b3])).run Tryz.prog w = .ok (.bool (a0 == b0 && a1 == b1 && a2 == b2 && a3 == b3)) w := by
  rw [run_eql_struct, eq_four 9998]
  rfl
theorem neq_four (w : World) (a0 a1 a2 a3 b0 b1 b2 b3 : Int) :
    (binOp .neq 66 (.agg #[.int .u64 a0, .int .u64 a1, .int .u64 a2, .int .u64 a3]) (.agg #[.int .u64 b0, .int .u64 b1, .int .u64 b2, .int .u64 b3])).run Tryz.prog w = .ok (.bool (!(a0 == b0 && a1 == b1 && a2 == b2 && a3 == b3))) w := by
  rw [run_neq_struct, eq_four 9998]
  rfl
theorem fe_word (n : Nat) (h : n < 18446744073709551616) : fe n = .agg #[.int .u64 (n : Int), .int .u64 0, .int .u64 0, .int .u64 0] := by
  unfold fe feA
  rw [Nat.mod_eq_of_lt h, show n / 18446744073709551616 = 0 by omega, show n / 340282366920938463463374607431768211456 = 0 by omega, show n / 6277101735386680763835789423207666416102355444464034512896 = 0 by omega]
  rfl
theorem fe_same (m n : Nat) (hm : m < K256) (hn : n < K256) : (((m % 18446744073709551616 : Nat) : Int) == ((n % 18446744073709551616 : Nat) : Int) && ((m / 18446744073709551616 % 18446744073709551616 : Nat) : Int) == ((n / 18446744073709551616 % 18446744073709551616 : Nat) : Int) && ((m / 340282366920938463463374607431768211456 % 18446744073709551616 : Nat) : Int) == ((n / 340282366920938463463374607431768211456 % 18446744073709551616 : Nat) : Int) && ((m / 6277101735386680763835789423207666416102355444464034512896 % 18446744073709551616 : Nat) : Int) == ((n / 6277101735386680763835789423207666416102355444464034512896 % 18446744073709551616 : Nat) : Int)) = decide (m = n) := by
  unfold K256 at hm hn
  rw [Bool.eq_iff_iff]
  simp only [Bool.and_eq_true, beq_iff_eq, decide_eq_true_eq]
  omega
theorem eql_fe (m n : Nat) (hm : m < K256) (hn : n < K256) (w : World) : (binOp .eql 66 (fe m) (fe n)).run Tryz.prog w = .ok (.bool (decide (m = n))) w := by
  unfold fe feA
  rw [eql_four, fe_same m n hm hn]
theorem neq_fe (m n : Nat) (hm : m < K256) (hn : n < K256) (w : World) : (binOp .neq 66 (fe m) (fe n)).run Tryz.prog w = .ok (.bool (!decide (m = n))) w := by
  unfold fe feA
  rw [neq_four, fe_same m n hm hn]
/-- a new variable, and what goes into it -/
theorem newly (w : World) (o : Obj) (cs : Array Value) : Below w.heap.size w ((w.alloc o).setRow w.heap.size cs) := below_rowSet ((Below.refl _ w).alloc (Nat.le_refl _) o) (Nat.le_refl _) cs
theorem newly_lies (w : World) (t : TypeId) (cs cs' : Array Value) : Lies ((w.alloc (.cells cs t)).setRow w.heap.size cs') w.heap.size t cs' := (Lies.new w t cs).row _

theorem word_low (n : Nat) : ∃ a b c d : Nat, feA n = #[w64 a, w64 b, w64 c, w64 d] ∧ a % 2 = n % 2 ∧ a < 18446744073709551616 := by
  refine ⟨_, _, _, _, by unfold feA; rfl, ?_, Nat.mod_lt _ (by decide)⟩
  omega

/-! ### what the field's functions keep -/
/-- the inverse, as a power -/
def invN (n : Nat) : Nat := n ^ (p25 - 2) % p25
theorem invN_eq (n : Nat) : invN n = n ^ (p25 - 2) % p25 := rfl
attribute [irreducible] invN
theorem mod_K (n : Nat) : n % p25 < K256 := Nat.lt_trans (Nat.mod_lt _ p25_pos) (by decide)
theorem invN_lt (n : Nat) : invN n < p25 := by rw [invN_eq]; exact Nat.mod_lt _ p25_pos

structure FieldOk : Prop where
  of : ∀ (n : Nat) (w : World), n < 18446744073709551616 → Tab w → Calls Tryz.prog 96 #[.int .u64 (n : Int)] w fun e w' => e = .returned (fe n) ∧ Below w.heap.size w w'
  least : ∀ (n : Nat) (w : World), n < K256 → Tab w → Calls Tryz.prog 93 #[fe n] w fun e w' => e = .returned (fe (n % p25)) ∧ Below w.heap.size w w'
  add : ∀ (m n : Nat) (w : World), m < K256 → n < K256 → Tab w → Calls Tryz.prog 97 #[fe m, fe n] w fun e w' => e = .returned (fe ((m + n) % p25)) ∧ Below w.heap.size w w'
  sub : ∀ (m n : Nat) (w : World), m < K256 → n < K256 → Tab w → Calls Tryz.prog 95 #[fe m, fe n] w fun e w' => e = .returned (fe ((m + (p25 - n % p25)) % p25)) ∧ Below w.heap.size w w'
  mul : ∀ (m n : Nat) (w : World), m < K256 → n < K256 → Tab w → Calls Tryz.prog 94 #[fe m, fe n] w fun e w' => e = .returned (fe (m * n % p25)) ∧ Below w.heap.size w w'
  inv : ∀ (n : Nat) (w : World), n < K256 → Tab w → Calls Tryz.prog 99 #[fe n] w fun e w' => e = .returned (fe (invN n)) ∧ Below w.heap.size w w'
  sqrt : ∃ (R : Nat → Nat) (B : Nat → Bool), (∀ (n : Nat) (w : World), n < K256 → Tab2 w → Calls Tryz.prog 98 #[fe n] w fun e w' => e = .returned (.tuple #[fe (R n), .bool (B n)]) ∧ Below w.heap.size w w') ∧
    ∀ n, n < K256 → R n < p25 ∧ R n % 2 = 0 ∧ (B n = true → R n * R n % p25 = n % p25) ∧ (B n = false → R n = 0) ∧ (B n = true ↔ Sq n)
  bytes : ∀ (n : Nat) (w : World), n < K256 → Tab w → Calls Tryz.prog 125 #[fe n] w fun e w' => e = .returned (.string ⟨(leL (n % p25) 32).toArray⟩) ∧ Below w.heap.size w w'
  parse : ∀ (s : ByteArray) (w : World), s.size ≤ 140737488355328 → Tab w → Calls Tryz.prog 62 #[.string s] w fun e w' =>
    e = .returned (if s.size = 32 then if numLE s.data.toList < p25 then .tuple #[fe (numLE s.data.toList), .int .i64 0] else .tuple #[fe 0, .int .i64 2] else .tuple #[fe 0, .int .i64 1]) ∧ Below w.heap.size w w'

/-! ### calls in a region that draws its order -/
theorem reg {f : FuncId} {args : Array Value} {W : World} {v : Value} (h : ∀ w, Below W.heap.size W w → Calls Tryz.prog f args w fun e w' => e = .returned v ∧ Below w.heap.size w w') :
    ∀ d os, Calls Tryz.prog f args (grow (redrawn W d) os) fun e w'' => e = .returned v ∧ ∃ p : Regrown, w'' = grow (redrawn W p.d) p.os := fun d os => Calls.regrown_of (h _ (below_regrown W d os))

end Go.Proofs.YtdjglghecekeoaaGreatDoor.F

/- Powers modulo p, as squares and products make them; a root, as the program looks for it. Nothing of the program is named here. -/
namespace Go.Proofs.YtdjglghecekeoaaGreatDoor.F

/-- x to a power, modulo p -/
def powN (x e : Nat) : Nat := x ^ e % p25
theorem powN_eq (x e : Nat) : powN x e = x ^ e % p25 := rfl
attribute [irreducible] powN
theorem powN_lt (x e : Nat) : powN x e < p25 := by rw [powN_eq]; exact Nat.mod_lt _ p25_pos
theorem below_K {n : Nat} (h : n < p25) : n < K256 := Nat.lt_trans h (by decide)
/-- v counts as x to the power e -/
def Pw (x e v : Nat) : Prop := v % p25 = powN x e
theorem Pw.one (x : Nat) : Pw x 1 x := by unfold Pw; rw [powN_eq, Nat.pow_one]
theorem Pw.mul {x a b u v : Nat} (h : Pw x a u) (k : Pw x b v) : Pw x (a + b) (u * v % p25) := by
  simp only [Pw, powN_eq] at *
  rw [Nat.mod_mod, Nat.mul_mod, h, k, ← Nat.mul_mod, ← Nat.pow_add]
theorem Pw.pow {x a u : Nat} (h : Pw x a u) (b : Nat) : Pw x (a * b) (powN u b) := by
  simp only [Pw, powN_eq] at *
  rw [Nat.mod_mod, Nat.pow_mod, h, ← Nat.pow_mod, ← Nat.pow_mul]
theorem Pw.is {x e v : Nat} (h : Pw x e v) (hv : v < p25) : v = powN x e := by
  unfold Pw at h
  rw [← h, Nat.mod_eq_of_lt hv]

/-! ### squared so many times -/
def sqL (x i : Nat) : Nat := if i = 0 then x else powN x (2 ^ i)
theorem sqL_pw (x i : Nat) : Pw x (2 ^ i) (sqL x i) := by
  unfold sqL
  split
  · rename_i h
    rw [h]
    exact Pw.one x
  · unfold Pw
    exact Nat.mod_eq_of_lt (powN_lt _ _)
theorem sqL_step (x i : Nat) : sqL x i * sqL x i % p25 = sqL x (i + 1) := by
  have h := ((sqL_pw x i).mul (sqL_pw x i)).is (Nat.mod_lt _ p25_pos)
  rw [h, show 2 ^ i + 2 ^ i = 2 ^ (i + 1) by rw [Nat.pow_succ]; omega]
  unfold sqL
  rw [if_neg (by omega)]
theorem sqL_lt (x i : Nat) (h : x < K256) : sqL x i < K256 := by
  unfold sqL
  split
  · exact h
  · exact below_K (powN_lt _ _)
theorem sqL_pos (x i : Nat) (h : 0 < i) : sqL x i = powN x (2 ^ i) := by unfold sqL; rw [if_neg (by omega)]
theorem sqL_one (x : Nat) : sqL x 1 = x * x % p25 := (sqL_step x 0).symm
/-! ### so many ones -/
def onesN (x n : Nat) : Nat := if n ≤ 1 then x else powN x (2 ^ n - 1)
theorem onesN_pw (x n : Nat) (h : 1 ≤ n) : Pw x (2 ^ n - 1) (onesN x n) := by
  unfold onesN
  split
  · obtain rfl : n = 1 := by omega
    exact Pw.one x
  · unfold Pw
    exact Nat.mod_eq_of_lt (powN_lt _ _)
theorem onesN_lt (x n : Nat) (h : x < K256) : onesN x n < K256 := by
  unfold onesN
  split
  · exact h
  · exact below_K (powN_lt _ _)
theorem onesN_even (x h : Nat) (h1 : 1 ≤ h) : sqL (onesN x h) h * onesN x h % p25 = onesN x (2 * h) := by
  have e := (((onesN_pw x h h1).pow (2 ^ h)).mul (onesN_pw x h h1)).is (Nat.mod_lt _ p25_pos)
  rw [sqL_pos _ _ h1, e]
  unfold onesN
  rw [if_neg (by omega)]
  congr 1
  have h2 : 0 < 2 ^ h := Nat.pow_pos (by decide)
  obtain ⟨m, hm⟩ : ∃ m, 2 ^ h = m + 1 := ⟨2 ^ h - 1, by omega⟩
  rw [Nat.two_mul, Nat.pow_add, hm, Nat.add_sub_cancel, Nat.succ_mul m (m + 1)]
  have h3 : m * (m + 1) = m * m + m := Nat.mul_succ m m
  omega
theorem onesN_odd (x h : Nat) (h1 : 1 ≤ h) : sqL (onesN x (2 * h)) 1 * x % p25 = onesN x (2 * h + 1) := by
  have e := (((onesN_pw x (2 * h) (by omega)).pow (2 ^ 1)).mul (Pw.one x)).is (Nat.mod_lt _ p25_pos)
  rw [sqL_pos _ _ (by decide), e]
  unfold onesN
  rw [if_neg (by omega)]
  congr 1
  have h2 : 0 < 2 ^ (2 * h) := Nat.pow_pos (by decide)
  rw [Nat.pow_succ 2 (2 * h)]
  omega

/-! ### the power that inverses and roots are made of -/
def eP : Nat := 7237005577332262213973186563042994240829374041602535252466099000494570602493
theorem power_eq (x : Nat) : sqL (onesN x 250) 2 * x % p25 = powN x eP := by
  have e := (((onesN_pw x 250 (by decide)).pow (2 ^ 2)).mul (Pw.one x)).is (Nat.mod_lt _ p25_pos)
  rw [sqL_pos _ _ (by decide), e]
  exact congrArg (powN x) (by decide)
theorem inv_eq (x : Nat) : sqL (powN x eP) 3 * (x * sqL x 1 % p25) % p25 = invN x := by
  have h1 : Pw x eP (powN x eP) := by unfold Pw; exact Nat.mod_eq_of_lt (powN_lt _ _)
  have e := ((h1.pow (2 ^ 3)).mul ((Pw.one x).mul (sqL_pw x 1))).is (Nat.mod_lt _ p25_pos)
  rw [sqL_pos _ 3 (by decide), e, invN_eq, ← powN_eq]
  exact congrArg (powN x) (by decide)

/-! ### roots -/
def rootC (x : Nat) : Nat := x * powN x eP % p25
def rootD (x : Nat) : Nat := rootC x * i25 % p25
theorem rootC_lt (x : Nat) : rootC x < p25 := Nat.mod_lt _ p25_pos
theorem rootD_lt (x : Nat) : rootD x < p25 := Nat.mod_lt _ p25_pos
theorem rootC_eq (x : Nat) : rootC x = c25 x % p25 := by
  have h1 : Pw x eP (powN x eP) := by unfold Pw; exact Nat.mod_eq_of_lt (powN_lt _ _)
  have e := ((Pw.one x).mul h1).is (Nat.mod_lt _ p25_pos)
  unfold rootC
  rw [e, show 1 + eP = d25 by decide, powN_eq]
  rfl
/-- the even one of a number below p and its contrary -/
def evN (r : Nat) : Nat := if r % 2 = 1 then (0 + (p25 - r % p25)) % p25 else r
theorem evN_lt (r : Nat) (h : r < p25) : evN r < p25 := by
  unfold evN
  split
  · exact Nat.mod_lt _ p25_pos
  · exact h
theorem evN_odd (r : Nat) (h : r < p25) (h1 : r % 2 = 1) : evN r = p25 - r := by
  unfold evN
  rw [if_pos h1, Nat.zero_add, Nat.mod_eq_of_lt h, Nat.mod_eq_of_lt (by omega)]
theorem evN_even (r : Nat) (h : r < p25) : evN r % 2 = 0 := by
  by_cases h1 : r % 2 = 1
  · rw [evN_odd r h h1]
    have := contrary_odd r h
    omega
  · unfold evN
    rw [if_neg h1]
    omega
theorem contrary_sq (r : Nat) (h : r < p25) : (p25 - r) * (p25 - r) % p25 = r * r % p25 := by
  obtain ⟨s, hs⟩ : ∃ s, p25 - r = s := ⟨_, rfl⟩
  have e : p25 = r + s := by omega
  rw [hs]
  have h1 : s * s + p25 * r = r * r + p25 * s := by
    rw [e, Nat.add_mul, Nat.add_mul, Nat.mul_comm s r]
    omega
  have h2 := congrArg (· % p25) h1
  simp only [Nat.add_mul_mod_self_left] at h2
  exact h2
theorem evN_sq (r : Nat) (h : r < p25) : evN r * evN r % p25 = r * r % p25 := by
  by_cases h1 : r % 2 = 1
  · rw [evN_odd r h h1, contrary_sq r h]
  · unfold evN
    rw [if_neg h1]
def sqrtR (x : Nat) : Nat := if rootC x * rootC x % p25 = x % p25 then evN (rootC x) else if rootD x * rootD x % p25 = x % p25 then evN (rootD x) else 0
def sqrtB (x : Nat) : Bool := decide (rootC x * rootC x % p25 = x % p25) || decide (rootD x * rootD x % p25 = x % p25)
theorem sq_of_square {r x : Nat} (h : r * r % p25 = x % p25) : Sq x := ⟨r, h⟩
theorem sqrt_finds (x : Nat) (h : Sq x) : rootC x * rootC x % p25 = x % p25 ∨ rootD x * rootD x % p25 = x % p25 := by
  by_cases hd : p25 ∣ x
  · left
    have h0 : x % p25 = 0 := Nat.mod_eq_zero_of_dvd hd
    have h1 : rootC x = 0 := by
      unfold rootC
      rw [Nat.mul_mod, h0, Nat.zero_mul, Nat.zero_mod]
    rw [h1, h0]
    rfl
  · rcases cand x (sq_power x hd h) with h1 | h1
    · left
      rw [rootC_eq, ← Nat.mul_mod]
      exact h1
    · right
      have e : rootD x = c25 x * i25 % p25 := by
        unfold rootD
        rw [rootC_eq, Nat.mod_mul_mod]
      rw [e, ← Nat.mul_mod]
      exact h1
theorem sqrt_spec (n : Nat) : sqrtR n < p25 ∧ sqrtR n % 2 = 0 ∧ (sqrtB n = true → sqrtR n * sqrtR n % p25 = n % p25) ∧ (sqrtB n = false → sqrtR n = 0) ∧ (sqrtB n = true ↔ Sq n) := by
  by_cases h1 : rootC n * rootC n % p25 = n % p25
  · have eR : sqrtR n = evN (rootC n) := by unfold sqrtR; rw [if_pos h1]
    have eB : sqrtB n = true := by unfold sqrtB; rw [decide_eq_true h1]; rfl
    rw [eR, eB]
    exact ⟨evN_lt _ (rootC_lt n), evN_even _ (rootC_lt n), fun _ => by rw [evN_sq _ (rootC_lt n), h1], (fun h => by cases h), fun _ => sq_of_square h1, fun _ => rfl⟩
  · by_cases h2 : rootD n * rootD n % p25 = n % p25
    · have eR : sqrtR n = evN (rootD n) := by unfold sqrtR; rw [if_neg h1, if_pos h2]
      have eB : sqrtB n = true := by unfold sqrtB; rw [decide_eq_true h2, Bool.or_true]
      rw [eR, eB]
      exact ⟨evN_lt _ (rootD_lt n), evN_even _ (rootD_lt n), fun _ => by rw [evN_sq _ (rootD_lt n), h2], (fun h => by cases h), fun _ => sq_of_square h2, fun _ => rfl⟩
    · have eR : sqrtR n = 0 := by unfold sqrtR; rw [if_neg h1, if_neg h2]
      have eB : sqrtB n = false := by unfold sqrtB; rw [decide_eq_false h1, decide_eq_false h2]; rfl
      rw [eR, eB]
      refine ⟨p25_pos, rfl, (fun h => by cases h), fun _ => rfl, (fun h => by cases h), fun h => ?_⟩
      rcases sqrt_finds n h with h3 | h3
      · exact absurd h3 h1
      · exact absurd h3 h2
end Go.Proofs.YtdjglghecekeoaaGreatDoor.F

/- Points as four numbers below p, which of them may be, and the points of a y. Nothing of the program's point is named here. -/
namespace Go.Proofs.YtdjglghecekeoaaGreatDoor.C
open Go.Proofs.YtdjglghecekeoaaGreatDoor.F

theorem z_pow (n e : Nat) : z ((n % p25) ^ e) = z (n ^ e) := z_iff.2 (by rw [← Nat.pow_mod])
theorem z_inv (n : Nat) : z (invN n) = zinv (z n) := by
  have h : zinv (z n) = z ((n % p25) ^ (p25 - 2)) := by unfold zinv; rw [show (z n).val = n % p25 by unfold z; rfl]
  rw [h, z_pow, invN_eq, z_mod]
theorem val_z {n : Nat} (h : n < p25) : (z n).val = n := by unfold z; exact Nat.mod_eq_of_lt h
theorem z_ne {n : Nat} (h : n < p25) (h0 : n ≠ 0) : z n ≠ 0 := fun e => h0 (by rw [z_is_zero, Nat.mod_eq_of_lt h] at e; exact e)
theorem val_mod (n : Nat) : (z n).val = n % p25 := by unfold z; rfl

/-! ### four numbers -/
structure N4 where
  X : Nat
  Y : Nat
  Z : Nat
  T : Nat
/-- they are this point's -/
structure Pn (u : N4) (P : Pt) : Prop where
  lX : u.X < p25
  lY : u.Y < p25
  lZ : u.Z < p25
  lT : u.T < p25
  rep : Rep (z u.X) (z u.Y) (z u.Z) P
  t : z u.X * z u.Y = z u.Z * z u.T
  on : P.On
theorem Pn.same {u : N4} {P Q : Pt} (h : Pn u P) (k : Pn u Q) : P = Q := h.rep.same k.rep
/-- x and y by a division -/
theorem Pn.affine {u : N4} {P : Pt} (h : Pn u P) : u.X * invN u.Z % p25 = P.x.val ∧ u.Y * invN u.Z % p25 = P.y.val := by
  obtain ⟨n, a, b⟩ := h.rep
  have hi := zinv_mul n
  constructor
  · rw [← val_mod, z_mul, z_inv, a, show P.x * z u.Z * zinv (z u.Z) = P.x * (z u.Z * zinv (z u.Z)) by grind, hi]
    congr 1
    grind
  · rw [← val_mod, z_mul, z_inv, b, show P.y * z u.Z * zinv (z u.Z) = P.y * (z u.Z * zinv (z u.Z)) by grind, hi]
    congr 1
    grind
/-- is it one of the curve, by x and y? -/
def onB (x y : Nat) : Bool := decide ((y * y % p25 + (p25 - x * x % p25 % p25)) % p25 = (1 + dN * (x * x % p25 * (y * y % p25) % p25) % p25) % p25)
theorem z_dN : z dN = dd := by unfold dd; rfl
theorem onB_iff (x y : Nat) : onB x y = true ↔ On (z x) (z y) := by
  unfold onB
  rw [decide_eq_true_iff, ← z_iff]
  simp only [z_mod, z_mul, z_add, z_neg, z_one, z_dN]
  unfold On
  constructor
  · intro h; grind
  · intro h; grind
def N4.right (u : N4) : Bool := decide (u.X < p25) && decide (u.Y < p25) && decide (u.Z < p25) && decide (u.T < p25) && decide (u.Z ≠ 0) && decide (u.X * u.Y % p25 = u.Z * u.T % p25) && onB (u.X * invN u.Z % p25) (u.Y * invN u.Z % p25)
theorem right_iff (u : N4) : u.right = true ↔ ∃ P, Pn u P := by
  unfold N4.right
  simp only [Bool.and_eq_true, decide_eq_true_eq]
  constructor
  · rintro ⟨⟨⟨⟨⟨⟨h1, h2⟩, h3⟩, h4⟩, h5⟩, h6⟩, h7⟩
    have hz := z_ne h3 h5
    have hi := zinv_mul hz
    refine ⟨⟨z (u.X * invN u.Z % p25), z (u.Y * invN u.Z % p25)⟩, h1, h2, h3, h4, ⟨hz, ?_, ?_⟩, ?_, (onB_iff _ _).1 h7⟩
    · show z u.X = z (u.X * invN u.Z % p25) * z u.Z
      rw [z_mod, z_mul, z_inv]
      grind
    · show z u.Y = z (u.Y * invN u.Z % p25) * z u.Z
      rw [z_mod, z_mul, z_inv]
      grind
    · rw [← z_mul, ← z_mul]
      exact z_iff.2 h6
  · rintro ⟨P, h⟩
    obtain ⟨a, b⟩ := h.affine
    refine ⟨⟨⟨⟨⟨⟨h.lX, h.lY⟩, h.lZ⟩, h.lT⟩, fun e => h.rep.ne (by rw [e, z_zero])⟩, ?_⟩, ?_⟩
    · have := h.t
      rw [← z_mul, ← z_mul] at this
      exact z_iff.1 this
    · rw [a, b, onB_iff, z_back, z_back]
      exact h.on
/-! ### the points of a y -/
theorem den_ne (y : Z) : dd * (y * y) + 1 ≠ 0 := fun h => by
  have hi := zi_two
  by_cases hy : y = 0
  · rw [hy] at h
    rw [Fin.mul_zero, Fin.mul_zero] at h
    exact absurd h (by decide)
  · exact d_no_quot (u := zi) hy (by grind)
/-- what x times x must be -/
def wN (y : Nat) : Nat := (y * y % p25 + (p25 - 1 % p25)) % p25 * invN ((dN * (y * y % p25) % p25 + 1) % p25) % p25
theorem wN_lt (y : Nat) : wN y < p25 := Nat.mod_lt _ p25_pos
theorem wN_is (y : Nat) : z (wN y) * (dd * (z y * z y) + 1) = z y * z y - 1 := by
  have hi := zinv_mul (den_ne (z y))
  unfold wN
  simp only [z_mod, z_mul, z_add, z_neg, z_one, z_inv, z_dN]
  grind
theorem on_w (x : Z) (y : Nat) : On x (z y) ↔ x * x = z (wN y) := by
  have hw := wN_is y
  have hd := den_ne (z y)
  unfold On
  constructor
  · intro h
    refine zcancel hd ?_
    grind
  · intro h
    grind
/-- the even x of a y, if there is one -/
def xE (y : Nat) : Nat := sqrtR (wN y)
def xB (y : Nat) : Bool := sqrtB (wN y)
theorem xE_lt (y : Nat) : xE y < p25 := (sqrt_spec (wN y)).1
theorem xE_even (y : Nat) : xE y % 2 = 0 := (sqrt_spec (wN y)).2.1
theorem xE_on {y : Nat} (h : xB y = true) : On (z (xE y)) (z y) := by
  have hs := (sqrt_spec (wN y)).2.2.1 h
  rw [on_w, ← z_mul, z_iff]
  exact hs
theorem xB_iff (y : Nat) : xB y = true ↔ ∃ x, On x (z y) := by
  refine ⟨fun h => ⟨_, xE_on h⟩, fun ⟨x, hx⟩ => ?_⟩
  refine (sqrt_spec (wN y)).2.2.2.2.2 ⟨x.val, ?_⟩
  rw [on_w] at hx
  have h1 : z (x.val * x.val) = z (wN y) := by rw [z_mul, z_back]; exact hx
  exact z_iff.1 h1
/-- the x of a y and a parity -/
def xOf (y : Nat) (odd : Bool) : Nat := if odd = true then (0 + (p25 - xE y % p25)) % p25 else xE y
theorem xOf_lt (y : Nat) (odd : Bool) : xOf y odd < p25 := by
  unfold xOf
  split
  · exact Nat.mod_lt _ p25_pos
  · exact xE_lt y
theorem xOf_odd (y : Nat) (odd : Bool) (h : xE y ≠ 0 ∨ odd = false) : xOf y odd % 2 = if odd = true then 1 else 0 := by
  unfold xOf
  have h1 := xE_lt y
  have h2 := xE_even y
  cases odd with
  | false => simpa using h2
  | true =>
    have h3 : xE y ≠ 0 := by rcases h with h | h; exact h; cases h
    have h4 := contrary_odd (xE y) h1
    have h5 : p25 - xE y < p25 := by omega
    rw [if_pos rfl, if_pos rfl, Nat.zero_add, Nat.mod_eq_of_lt h1, Nat.mod_eq_of_lt h5]
    omega
/-- any x of a y is that of its parity -/
theorem xOf_is {x : Z} {y : Nat} (h : On x (z y)) : x.val = xOf y (decide (x.val % 2 = 1)) := by
  have hb : xB y = true := (xB_iff y).2 ⟨x, h⟩
  have hx := xE_on hb
  rw [on_w] at h hx
  have h1 := xE_lt y
  have h2 := xE_even y
  have hs : (x - z (xE y)) * (x + z (xE y)) = 0 := by grind
  have hxl := x.isLt
  rcases zmul_zero hs with h3 | h3
  · have e : x.val = xE y := by
      have : x = z (xE y) := by grind
      rw [this, val_z h1]
    rw [e, decide_eq_false (by omega)]
    unfold xOf
    rw [if_neg (by decide)]
  · have e : x = -z (xE y) := by grind
    by_cases h0 : xE y = 0
    · have ex : x.val = 0 := by
        rw [e, h0, z_zero]
        decide
      rw [ex, decide_eq_false (by decide)]
      unfold xOf
      rw [if_neg (by decide), h0]
    · have h5 : p25 - xE y < p25 := by omega
      have ex : x.val = p25 - xE y := by
        rw [e, ← z_neg, val_mod, Nat.mod_eq_of_lt h1, Nat.mod_eq_of_lt h5]
      have h4 := contrary_odd (xE y) h1
      rw [ex, decide_eq_true (by omega)]
      unfold xOf
      rw [if_pos rfl, Nat.zero_add, Nat.mod_eq_of_lt h1, Nat.mod_eq_of_lt h5]
end Go.Proofs.YtdjglghecekeoaaGreatDoor.C

/- Numbers as words of 64 bits, the lowest one first. Nothing of the program is named here. -/
namespace Go.Proofs.YtdjglghecekeoaaGreatDoor.F

def valK : List Nat → Nat
  | [] => 0
  | d :: r => d + 18446744073709551616 * valK r
theorem valK_append (a b : List Nat) : valK (a ++ b) = valK a + 18446744073709551616 ^ a.length * valK b := by
  induction a with
  | nil => simp [valK]
  | cons x a ih =>
    rw [List.cons_append, valK, ih, valK, List.length_cons, Nat.pow_succ, Nat.mul_add, Nat.mul_comm (18446744073709551616 ^ a.length) 18446744073709551616, Nat.mul_assoc]
    omega
theorem valK_snoc (l : List Nat) (x : Nat) : valK (l ++ [x]) = valK l + 18446744073709551616 ^ l.length * x := by rw [valK_append]; simp [valK]
theorem valK_zeros (n : Nat) : valK (List.replicate n 0) = 0 := by
  induction n with
  | zero => rfl
  | succ n ih => rw [List.replicate_succ, valK, ih]
theorem valK_take_succ (l : List Nat) (i : Nat) : valK (l.take (i + 1)) = valK (l.take i) + 18446744073709551616 ^ i * l.getD i 0 := by
  by_cases h : i < l.length
  · rw [List.take_succ_eq_append_getElem h, valK_snoc, List.length_take, Nat.min_eq_left (by omega), List.getD_eq_getElem?_getD, List.getElem?_eq_getElem h]
    rfl
  · rw [getD_past h, List.take_of_length_le (by omega), List.take_of_length_le (by omega)]
    omega
theorem valK_set (l : List Nat) (i x : Nat) (h : i < l.length) : valK (l.set i x) + 18446744073709551616 ^ i * l.getD i 0 = valK l + 18446744073709551616 ^ i * x := by
  induction l generalizing i with
  | nil => simp at h
  | cons a l ih =>
    cases i with
    | zero => simp [valK]; omega
    | succ i =>
      have := ih i (by simpa using h)
      rw [List.set_cons_succ, valK, valK, List.getD_cons_succ, Nat.pow_succ, Nat.mul_comm (18446744073709551616 ^ i) 18446744073709551616, Nat.mul_assoc, Nat.mul_assoc]
      omega
/-- all are words -/
def Wd (l : List Nat) : Prop := ∀ d ∈ l, d < 18446744073709551616
theorem Wd.at {l : List Nat} (h : Wd l) (i : Nat) : l.getD i 0 < 18446744073709551616 := by
  rw [List.getD_eq_getElem?_getD]
  rcases e : l[i]? with _ | x
  · simp
  · exact h x (List.mem_of_getElem? e)
theorem Wd.snoc {l : List Nat} (h : Wd l) {x : Nat} (hx : x < 18446744073709551616) : Wd (l ++ [x]) := fun d hd => by
  rw [List.mem_append, List.mem_singleton] at hd
  rcases hd with hd | rfl
  · exact h d hd
  · exact hx
theorem Wd.set {l : List Nat} (h : Wd l) (i : Nat) {x : Nat} (hx : x < 18446744073709551616) : Wd (l.set i x) := fun d hd => by
  rcases List.mem_or_eq_of_mem_set hd with hd | rfl
  · exact h d hd
  · exact hx
theorem valK_lt {l : List Nat} (h : Wd l) : valK l < 18446744073709551616 ^ l.length := by
  induction l with
  | nil => simp [valK]
  | cons x l ih =>
    have h1 := h x (List.mem_cons_self ..)
    have h2 := ih fun d hd => h d (List.mem_cons_of_mem _ hd)
    rw [valK, List.length_cons, Nat.pow_succ]
    omega

/-! ### a number's four words -/
def wordsL (n : Nat) : List Nat := [wordN n 0, wordN n 1, wordN n 2, wordN n 3]
theorem wordsL_val {n : Nat} (h : n < K256) : valK (wordsL n) = n := by
  unfold wordsL valK valK valK valK valK wordN
  unfold K256 at h
  rw [Nat.pow_zero, Nat.pow_one, Nat.div_one]
  omega
theorem wordsL_wd (n : Nat) : Wd (wordsL n) := fun d hd => by
  simp only [wordsL, List.mem_cons, List.not_mem_nil, or_false] at hd
  rcases hd with rfl | rfl | rfl | rfl <;> exact wordN_lt _ _
theorem feA_wordsL (n : Nat) : feA n = ((wordsL n).map w64).toArray := by rw [feA_words]; rfl
/-- four words are those of their number -/
theorem words_feA (l : List Nat) (hl : l.length = 4) (hw : Wd l) : (l.map w64).toArray = feA (valK l) ∧ valK l < K256 := by
  match l, hl with
  | [a, b, c, d], _ =>
    have ha := hw a (by simp)
    have hb := hw b (by simp)
    have hc := hw c (by simp)
    have hd := hw d (by simp)
    obtain ⟨n, hn, he, hv⟩ := fe_of a b c d ha hb hc hd
    have e : valK [a, b, c, d] = n := by
      rw [hv]
      unfold valK valK valK valK valK
      omega
    rw [e]
    injection he with he
    exact ⟨he, hn⟩

/-! ### sums and differences, word by word -/
end Go.Proofs.YtdjglghecekeoaaGreatDoor.F

/- A product of words, word by word. Nothing of the program is named here. -/
namespace Go.Proofs.YtdjglghecekeoaaGreatDoor.F

/-- one product, what is carried, and what stood there -/
theorem mul_step {x y c o : Nat} (hx : x < 18446744073709551616) (hy : y < 18446744073709551616) (hc : c < 18446744073709551616) (ho : o < 18446744073709551616) :
    ∃ h l l2 m1 nw m2 : Nat, x * y / 18446744073709551616 = h ∧ x * y % 18446744073709551616 = l ∧ (l + c + 0) % 18446744073709551616 = l2 ∧ (l + c + 0) / 18446744073709551616 = m1 ∧ (o + l2 + 0) % 18446744073709551616 = nw ∧ (o + l2 + 0) / 18446744073709551616 = m2 ∧
      h < 18446744073709551616 ∧ l < 18446744073709551616 ∧ l2 < 18446744073709551616 ∧ h + m1 < 18446744073709551616 ∧ h + m1 + m2 < 18446744073709551616 ∧ nw < 18446744073709551616 ∧ nw + 18446744073709551616 * (h + m1 + m2) = x * y + c + o := by
  have h1 := Nat.mul_le_mul (show x ≤ 18446744073709551615 by omega) (show y ≤ 18446744073709551615 by omega)
  have h2 := Nat.le_trans h1 (show 18446744073709551615 * 18446744073709551615 ≤ 340282366920938463426481119284349108225 by decide)
  clear h1
  generalize x * y = p at h2
  exact ⟨_, _, _, _, _, _, rfl, rfl, rfl, rfl, rfl, rfl, by omega, by omega, by omega, by omega, by omega, by omega, by omega⟩
theorem listA_at (l : List Nat) (j : Nat) (h : j < l.length) : ((l.map w64).toArray)[j]? = some (w64 (l.getD j 0)) := by
  rw [List.getElem?_toArray, List.getElem?_map, List.getElem?_eq_getElem h, List.getD_eq_getElem?_getD, List.getElem?_eq_getElem h]
  rfl
theorem listA_set (l : List Nat) (j x : Nat) : ((l.map w64).toArray).setIfInBounds j (w64 x) = ((l.set j x).map w64).toArray := by
  rw [List.setIfInBounds_toArray, List.map_set]
theorem set_getD (l : List Nat) (i j x : Nat) (h : i ≠ j) : (l.set i x).getD j 0 = l.getD j 0 := by
  rw [List.getD_eq_getElem?_getD, List.getD_eq_getElem?_getD, List.getElem?_set_ne h]
/-- the inner step -/
theorem inner_step {al : List Nat} {V A x y c o nw q i k : Nat} (hl : i + k < al.length) (ho : al.getD (i + k) 0 = o) (h : valK al + 18446744073709551616 ^ (i + k) * c = V + 18446744073709551616 ^ i * (x * A)) (hs : nw + 18446744073709551616 * q = x * y + c + o) :
    valK (al.set (i + k) nw) + 18446744073709551616 ^ (i + (k + 1)) * q = V + 18446744073709551616 ^ i * (x * (A + 18446744073709551616 ^ k * y)) := by
  have h1 := valK_set al (i + k) nw hl
  rw [ho] at h1
  have h2 : 18446744073709551616 ^ (i + k) * nw + 18446744073709551616 ^ (i + (k + 1)) * q = 18446744073709551616 ^ (i + k) * (x * y) + 18446744073709551616 ^ (i + k) * c + 18446744073709551616 ^ (i + k) * o := by
    rw [← Nat.add_assoc, Nat.pow_succ, Nat.mul_assoc, ← Nat.mul_add, hs, Nat.mul_add, Nat.mul_add]
  have h3 : 18446744073709551616 ^ i * (x * (A + 18446744073709551616 ^ k * y)) = 18446744073709551616 ^ i * (x * A) + 18446744073709551616 ^ (i + k) * (x * y) := by
    rw [Nat.mul_add, Nat.mul_add, Nat.pow_add, Nat.mul_left_comm x, Nat.mul_assoc]
  rw [h3]
  omega
/-- a row's end -/
theorem row_step {al : List Nat} {V x n c i : Nat} (hl : i + 4 < al.length) (ho : al.getD (i + 4) 0 = 0) (h : valK al + 18446744073709551616 ^ (i + 4) * c = V * n + 18446744073709551616 ^ i * (x * n)) :
    valK (al.set (i + 4) c) = (V + 18446744073709551616 ^ i * x) * n := by
  have h1 := valK_set al (i + 4) c hl
  rw [ho, Nat.mul_zero, Nat.add_zero] at h1
  rw [Nat.add_mul, Nat.mul_assoc, h1, h]
/-- what stands above four words counts 38 times -/
theorem high_step {V L H c x o nw q i : Nat} (h : V + 18446744073709551616 ^ i * c = L + 38 * H) (hs : nw + 18446744073709551616 * q = x * 38 + c + o) :
    (V + 18446744073709551616 ^ i * nw) + 18446744073709551616 ^ (i + 1) * q = (L + 18446744073709551616 ^ i * o) + 38 * (H + 18446744073709551616 ^ i * x) := by
  have h2 : 18446744073709551616 ^ i * nw + 18446744073709551616 ^ (i + 1) * q = 18446744073709551616 ^ i * (x * 38) + 18446744073709551616 ^ i * c + 18446744073709551616 ^ i * o := by
    rw [Nat.pow_succ, Nat.mul_assoc, ← Nat.mul_add, hs, Nat.mul_add, Nat.mul_add]
  have h3 : 38 * (H + 18446744073709551616 ^ i * x) = 38 * H + 18446744073709551616 ^ i * (x * 38) := by
    rw [Nat.mul_add, Nat.mul_left_comm, Nat.mul_comm 38 x]
  rw [h3]
  omega
end Go.Proofs.YtdjglghecekeoaaGreatDoor.F

/- The contracts of the library's calls on whole words: a sum with a carry, a difference with a borrow. -/
namespace Go.Proofs.YtdjglghecekeoaaGreatDoor.F
set_option maxRecDepth 100000
open Go.RowKit

theorem add64_run (x y c : Nat) (hc : c ≤ 1) (w : World) : (callFunc 126 #[.int .u64 (x : Int), .int .u64 (y : Int), .int .u64 (c : Int)]).run Tryz.prog w = .ok (.value (.tuple #[w64 ((x + y + c) % 18446744073709551616), w64 ((x + y + c) / 18446744073709551616)])) w := by
  rw [run_callFunc_extern Tryz.func126 (by kernel_rfl) (by kernel_rfl) (by kernel_rfl) (e := add64Entry) (by kernel_rfl), run_add64 x y c (by omega) (by omega) (by omega) (by omega)]
  simp only [Result.andThen]
  congr 5 <;> omega
theorem sub64_run (x y c : Nat) (hc : c ≤ 1) (w : World) : (callFunc 154 #[.int .u64 (x : Int), .int .u64 (y : Int), .int .u64 (c : Int)]).run Tryz.prog w = .ok (.value (.tuple #[w64 ((x + 18446744073709551616 - y - c) % 18446744073709551616), w64 (if x < y + c then 1 else 0)])) w := by
  have hr : ∀ w, ((Extern.MathBitsCarry.rows[1]'(by decide)).2 #[.int .u64 (x : Int), .int .u64 (y : Int), .int .u64 (c : Int)]).run Tryz.prog w = .ok (.tuple #[w64 ((x + 18446744073709551616 - y - c) % 18446744073709551616), w64 (if x < y + c then 1 else 0)]) w := fun w => by
    have : c = 0 ∨ c = 1 := by omega
    rcases this with rfl | rfl <;> rfl
  rw [run_callFunc_extern Tryz.func154 (by kernel_rfl) (by kernel_rfl) (by kernel_rfl) (e := (Extern.MathBitsCarry.rows[1]'(by decide)).2) (by kernel_rfl), hr]
  rfl
end Go.Proofs.YtdjglghecekeoaaGreatDoor.F

/- The contracts of the program's sums and differences of four words, and of a product of two words with two more. -/
namespace Go.Proofs.YtdjglghecekeoaaGreatDoor.F
set_option maxRecDepth 100000
open Go.RowKit
attribute [local irreducible] feA
theorem wordsL_at (n i : Nat) (h : i < 4) : ((wordsL n).map w64).toArray[i]? = some (w64 ((wordsL n).getD i 0)) := by
  match i, h with
  | 0, _ | 1, _ | 2, _ | 3, _ => rfl
/-- one word of a sum, laid where the word was -/
theorem set_sum {l : List Nat} {i s x y c q A : Nat} (hl : i < l.length) (hx : l.getD i 0 = x) (h : valK l + 18446744073709551616 ^ i * c = A) (hs : s + 18446744073709551616 * q = x + y + c) :
    valK (l.set i s) + 18446744073709551616 ^ (i + 1) * q = A + 18446744073709551616 ^ i * y := by
  have h1 := valK_set l i s hl
  rw [hx] at h1
  have h2 : 18446744073709551616 ^ i * s + 18446744073709551616 ^ (i + 1) * q = 18446744073709551616 ^ i * x + 18446744073709551616 ^ i * y + 18446744073709551616 ^ i * c := by
    rw [Nat.pow_succ, Nat.mul_assoc, ← Nat.mul_add, hs, Nat.mul_add, Nat.mul_add]
  omega
/-- .. of a difference -/
theorem set_diff {l : List Nat} {i s x y c q A B : Nat} (hl : i < l.length) (hx : l.getD i 0 = x) (h : valK l + B = A + 18446744073709551616 ^ i * c) (hs : s + y + c = x + 18446744073709551616 * q) :
    valK (l.set i s) + (B + 18446744073709551616 ^ i * y) = A + 18446744073709551616 ^ (i + 1) * q := by
  have h1 := valK_set l i s hl
  rw [hx] at h1
  have h2 : 18446744073709551616 ^ i * s + 18446744073709551616 ^ i * y + 18446744073709551616 ^ i * c = 18446744073709551616 ^ i * x + 18446744073709551616 ^ (i + 1) * q := by
    rw [Nat.pow_succ, Nat.mul_assoc, ← Nat.mul_add, ← Nat.mul_add, ← Nat.mul_add, hs]
  omega

set_option maxRecDepth 100000 in
set_option maxHeartbeats 1600000 in
theorem plus_words (m n : Nat) (W : World) (hm : m < K256) (hn : n < K256) :
    Calls Tryz.prog 132 #[fe m, fe n] W fun e w' => e = .returned (.tuple #[fe ((m + n) % K256), w64 ((m + n) / K256)]) ∧ Below W.heap.size W w' := by
  have hmv := Lib.hid (wordsL_val hm)
  have hnv := Lib.hid (wordsL_val hn)
  have wm := wordsL_wd m
  have wn := wordsL_wd n
  rw [fe, fe, feA_wordsL m, feA_wordsL n]
  have hna := wordsL_at n
  have hml : (wordsL m).length = 4 := rfl
  have hnl : (wordsL n).length = 4 := rfl
  obtain ⟨Y, hY⟩ : ∃ Y, ((wordsL n).map w64).toArray = Y := ⟨_, rfl⟩
  rw [hY] at hna ⊢
  clear hY
  generalize hxs : wordsL m = xs at *
  generalize hys : wordsL n = ys at *
  clear hxs hys hm hn
  go_enter Tryz.func132, Tryz.ntmps132
  have hx := ((Lies.new W 66 (xs.map w64).toArray).alloc (.cells Y 66)).alloc (.cells fe0A 66)
  have hy : Lies ((W.alloc (.cells (xs.map w64).toArray 66)).alloc (.cells Y 66)) (W.heap.size + 1) 66 Y := heap_alloc2_new W _ _
  replace hy := hy.alloc (.cells fe0A 66)
  have hr := lies3 W (.cells (xs.map w64).toArray 66) (.cells Y 66) 66 fe0A
  have hB := (((Below.refl W.heap.size W).alloc (Nat.le_refl _) (.cells (xs.map w64).toArray 66)).alloc (by simp) (.cells Y 66)).alloc (by simp; omega) (.cells fe0A 66)
  go_upto_region 1 with fail
  generalize World.alloc (World.alloc (World.alloc W _) _) _ = w0 at *
  go_wp2_with fail
  go_loopw [6, 8] (fun cx ix wr => ∃ (i c : Nat) (l : List Nat), i ≤ 4 ∧ ix = .int .i64 i ∧ cx = w64 c ∧ c ≤ 1 ∧ l.length = 4 ∧ Wd l ∧ Hid (valK l + 18446744073709551616 ^ i * c = valK xs + valK (ys.take i)) ∧ Lies wr W.heap.size 66 (l.map w64).toArray ∧ Lies wr (W.heap.size + 1) 66 Y ∧ Lies wr (W.heap.size + 2) 66 fe0A ∧ Below W.heap.size W wr) (fun _ ix _ => 4 - (intOf ix).toNat)
  case atStart => exact ⟨0, 0, xs, by omega, rfl, rfl, by omega, hml, wm, Lib.hid rfl, hx, hy, hr, hB⟩
  case round =>
    clear hx hy hr hB
    obtain ⟨i, c, l, hi, rfl, rfl, hc, hl, hw, HV, hx, hy, hr, hB⟩ := hrel
    by_cases hlt : i < 4
    · have cx := (hx.cell i).trans (listA_at l i (by omega))
      have fx := hx.frozen i
      have cy := (hy.cell i).trans (hna i hlt)
      have bx := hw.at i
      have b_y := wn.at i
      have HP := Lib.hid (fun x => listA_set l i x)
      have HY := Lib.hid (valK_take_succ ys i)
      have HW := Lib.hid hw
      have HSt := Lib.hid (fun (s q x y : Nat) (hx : l.getD i 0 = x) => @set_sum l i s x y c q _ (by omega) hx HV.out)
      clear hw
      generalize hlx : l.getD i 0 = x at *
      generalize ys.getD i 0 = y at *
      have hadd := add64_run x y c hc
      have hsq : (x + y + c) % 18446744073709551616 + 18446744073709551616 * ((x + y + c) / 18446744073709551616) = x + y + c := Nat.mod_add_div _ _
      obtain ⟨s, hs⟩ : ∃ s, (x + y + c) % 18446744073709551616 = s := ⟨_, rfl⟩
      obtain ⟨q, hq⟩ : ∃ q, (x + y + c) / 18446744073709551616 = q := ⟨_, rfl⟩
      have hsK : s < 18446744073709551616 := by omega
      have hq1 : q ≤ 1 := by omega
      rw [hs, hq] at hadd hsq
      have HS := Lib.hid (HSt.out s q x y rfl hsq)
      clear hs hq bx b_y hsq HSt hlx
      have hi4 : (i : Int) < 4 := by omega
      go_upto_region 5 with fail
      go_region_with (fail)
      all_goals
        go_wp2_with fail
        go_roundw
        case rel => exact ⟨i + 1, q, l.set i s, by omega, by go_num, rfl, hq1, by rw [List.length_set]; exact hl, HW.out.set i hsK, Lib.hid (by rw [HY.out, ← Nat.add_assoc]; exact HS.out), by rw [← HP.out]; exact (hx.put i _).drew, (hy.far (by simp only; omega) _).drew, (hr.far (by simp only; omega) _).drew, (below_put hB (by omega) _ _).drew⟩
        case measure => simp [intOf]; omega
    · obtain rfl : i = 4 := by omega
      obtain ⟨hwe, hwK⟩ := words_feA l hl hw
      rw [hwe] at hx
      have hv := HV.out
      rw [List.take_of_length_le (by omega), hmv.out, hnv.out, show (18446744073709551616 : Nat) ^ 4 = K256 by decide] at hv
      have hvm : valK l = (m + n) % K256 := by rw [← hv, Nat.add_mul_mod_self_left, Nat.mod_eq_of_lt hwK]
      have hvd : c = (m + n) / K256 := by rw [← hv, Nat.add_mul_div_left _ _ (by decide), Nat.div_eq_of_lt hwK, Nat.zero_add]
      have HVM := Lib.hid hvm
      have HVD := Lib.hid hvd
      clear hv hvm hvd hwK hwe HV hw
      generalize valK l = V at *
      go_wp2_with (first
        | ((with_reducible refine wpL_load W.heap.size 66 (feA V) 4 rowFe (feA_size _) hx ?_ ?_); rfl)
        | ((with_reducible refine wpL_store (W.heap.size + 1 + 1) 66 _ (feA V) 4 rowFe rfl (feA_size _) (feA_one _) hr ?_ ?_ ?_); rfl; rfl))
      exact bodyPost_ret (results_row_tmp Tryz.results132 rowFe (feA_size _) (hr.row _) rfl rfl) rfl ⟨by rw [← HVM.out, ← HVD.out]; rfl, below_rowSet hB (by omega) _⟩

set_option maxRecDepth 100000 in
set_option maxHeartbeats 1600000 in
theorem minus_words (m n : Nat) (W : World) (hm : m < K256) (hn : n < K256) :
    Calls Tryz.prog 129 #[fe m, fe n] W fun e w' => e = .returned (.tuple #[fe ((m + K256 - n) % K256), .bool (decide (m < n))]) ∧ Below W.heap.size W w' := by
  have hmv := Lib.hid (wordsL_val hm)
  have hnv := Lib.hid (wordsL_val hn)
  have wm := wordsL_wd m
  have wn := wordsL_wd n
  rw [fe, fe, feA_wordsL m, feA_wordsL n]
  have hna := wordsL_at n
  have hml : (wordsL m).length = 4 := rfl
  have hnl : (wordsL n).length = 4 := rfl
  obtain ⟨Y, hY⟩ : ∃ Y, ((wordsL n).map w64).toArray = Y := ⟨_, rfl⟩
  rw [hY] at hna ⊢
  clear hY
  generalize hxs : wordsL m = xs at *
  generalize hys : wordsL n = ys at *
  clear hxs hys
  go_enter Tryz.func129, Tryz.ntmps129
  have hx := ((Lies.new W 66 (xs.map w64).toArray).alloc (.cells Y 66)).alloc (.cells fe0A 66)
  have hy : Lies ((W.alloc (.cells (xs.map w64).toArray 66)).alloc (.cells Y 66)) (W.heap.size + 1) 66 Y := heap_alloc2_new W _ _
  replace hy := hy.alloc (.cells fe0A 66)
  have hr := lies3 W (.cells (xs.map w64).toArray 66) (.cells Y 66) 66 fe0A
  have hB := (((Below.refl W.heap.size W).alloc (Nat.le_refl _) (.cells (xs.map w64).toArray 66)).alloc (by simp) (.cells Y 66)).alloc (by simp; omega) (.cells fe0A 66)
  go_upto_region 1 with fail
  generalize World.alloc (World.alloc (World.alloc W _) _) _ = w0 at *
  go_wp2_with fail
  go_loopw [6, 8] (fun cx ix wr => ∃ (i c : Nat) (l : List Nat), i ≤ 4 ∧ ix = .int .i64 i ∧ cx = w64 c ∧ c ≤ 1 ∧ l.length = 4 ∧ Wd l ∧ Hid (valK l + valK (ys.take i) = valK xs + 18446744073709551616 ^ i * c) ∧ Lies wr W.heap.size 66 (l.map w64).toArray ∧ Lies wr (W.heap.size + 1) 66 Y ∧ Lies wr (W.heap.size + 2) 66 fe0A ∧ Below W.heap.size W wr) (fun _ ix _ => 4 - (intOf ix).toNat)
  case atStart => exact ⟨0, 0, xs, by omega, rfl, rfl, by omega, hml, wm, Lib.hid rfl, hx, hy, hr, hB⟩
  case round =>
    clear hx hy hr hB
    obtain ⟨i, c, l, hi, rfl, rfl, hc, hl, hw, HV, hx, hy, hr, hB⟩ := hrel
    by_cases hlt : i < 4
    · have cx := (hx.cell i).trans (listA_at l i (by omega))
      have fx := hx.frozen i
      have cy := (hy.cell i).trans (hna i hlt)
      have bx := hw.at i
      have b_y := wn.at i
      have HP := Lib.hid (fun x => listA_set l i x)
      have HY := Lib.hid (valK_take_succ ys i)
      have HW := Lib.hid hw
      have HSt := Lib.hid (fun (s q x y : Nat) (hx : l.getD i 0 = x) => @set_diff l i s x y c q _ _ (by omega) hx HV.out)
      clear hw
      generalize hlx : l.getD i 0 = x at *
      generalize ys.getD i 0 = y at *
      have hadd := sub64_run x y c hc
      have hsq : (x + 18446744073709551616 - y - c) % 18446744073709551616 + y + c = x + 18446744073709551616 * (if x < y + c then 1 else 0) := by
        split <;> omega
      obtain ⟨s, hs⟩ : ∃ s, (x + 18446744073709551616 - y - c) % 18446744073709551616 = s := ⟨_, rfl⟩
      obtain ⟨q, hq⟩ : ∃ q, (if x < y + c then 1 else 0) = q := ⟨_, rfl⟩
      have hsK : s < 18446744073709551616 := by rw [← hs]; exact Nat.mod_lt _ (by decide)
      have hq1 : q ≤ 1 := by rw [← hq]; split <;> omega
      rw [hs, hq] at hadd hsq
      have HS := Lib.hid (HSt.out s q x y rfl hsq)
      clear hs hq bx b_y hsq HSt hlx
      have hi4 : (i : Int) < 4 := by omega
      go_upto_region 5 with fail
      go_region_with (fail)
      all_goals
        go_wp2_with fail
        go_roundw
        case rel => exact ⟨i + 1, q, l.set i s, by omega, by go_num, rfl, hq1, by rw [List.length_set]; exact hl, HW.out.set i hsK, Lib.hid (by rw [HY.out]; exact HS.out), by rw [← HP.out]; exact (hx.put i _).drew, (hy.far (by simp only; omega) _).drew, (hr.far (by simp only; omega) _).drew, (below_put hB (by omega) _ _).drew⟩
        case measure => simp [intOf]; omega
    · obtain rfl : i = 4 := by omega
      obtain ⟨hwe, hwK⟩ := words_feA l hl hw
      rw [hwe] at hx
      have hv := HV.out
      rw [List.take_of_length_le (by omega), hmv.out, hnv.out, show (18446744073709551616 : Nat) ^ 4 = K256 by decide] at hv
      have hvm : valK l = (m + K256 - n) % K256 := by
        unfold K256 at *
        omega
      have HVM := Lib.hid hvm
      have hc01 : (m < n ∧ c = 1) ∨ (¬ m < n ∧ c = 0) := by
        unfold K256 at *
        omega
      clear hv hvm hwK hwe HV hw hm hn
      generalize valK l = V at *
      rcases hc01 with ⟨hmn, rfl⟩ | ⟨hmn, rfl⟩
      · have HD := Lib.hid (decide_eq_true hmn)
        clear hmn
        go_wp2_with (first
          | ((with_reducible refine wpL_load W.heap.size 66 (feA V) 4 rowFe (feA_size _) hx ?_ ?_); rfl)
          | ((with_reducible refine wpL_store (W.heap.size + 1 + 1) 66 _ (feA V) 4 rowFe rfl (feA_size _) (feA_one _) hr ?_ ?_ ?_); rfl; rfl))
        exact bodyPost_ret (results_row_tmp Tryz.results129 rowFe (feA_size _) (hr.row _) rfl rfl) rfl ⟨by rw [← HVM.out, HD.out]; rfl, below_rowSet hB (by omega) _⟩
      · have HD := Lib.hid (decide_eq_false hmn)
        clear hmn
        go_wp2_with (first
          | ((with_reducible refine wpL_load W.heap.size 66 (feA V) 4 rowFe (feA_size _) hx ?_ ?_); rfl)
          | ((with_reducible refine wpL_store (W.heap.size + 1 + 1) 66 _ (feA V) 4 rowFe rfl (feA_size _) (feA_one _) hr ?_ ?_ ?_); rfl; rfl))
        exact bodyPost_ret (results_row_tmp Tryz.results129 rowFe (feA_size _) (hr.row _) rfl rfl) rfl ⟨by rw [← HVM.out, HD.out]; rfl, below_rowSet hB (by omega) _⟩

set_option maxHeartbeats 800000 in
theorem wordTimes_any (x y a b : Nat) (hx : x < 18446744073709551616) (hy : y < 18446744073709551616) (ha : a < 18446744073709551616) (hb : b < 18446744073709551616) :
    ∃ q s : Nat, q < 18446744073709551616 ∧ s < 18446744073709551616 ∧ s + 18446744073709551616 * q = x * y + a + b ∧
      ∀ W : World, Calls Tryz.prog 130 #[.int .u64 (x : Int), .int .u64 (y : Int), .int .u64 (a : Int), .int .u64 (b : Int)] W fun e w' => e = .returned (.tuple #[.int .u64 (q : Int), .int .u64 (s : Int)]) ∧ Below W.heap.size W w' := by
  obtain ⟨h, l, l2, m1, nw, m2, e1, e2, e3, e4, e5, e6, b1, b2, b3, b4, b5, b6, hsum⟩ := mul_step hx hy ha hb
  obtain ⟨h2, hh2⟩ : ∃ h2, h + m1 = h2 := ⟨_, rfl⟩
  obtain ⟨q, hqq⟩ : ∃ q, h2 + m2 = q := ⟨_, rfl⟩
  rw [hh2, hqq] at b5 hsum
  rw [hh2] at b4
  refine ⟨q, nw, b5, b6, hsum, fun W => ?_⟩
  have HM := Lib.hid (fun w => Tryz.bits_Mul64 x y hx hy w)
  rw [e1, e2] at HM
  have hA1 : ∀ w, (callFunc 126 #[.int .u64 (l : Int), .int .u64 (a : Int), .int .u64 0]).run Tryz.prog w = .ok (.value (.tuple #[w64 l2, w64 m1])) w := fun w => by rw [← e3, ← e4]; exact add64_run l a 0 (by decide) w
  have hA2 : ∀ w, (callFunc 126 #[.int .u64 (l2 : Int), .int .u64 (b : Int), .int .u64 0]).run Tryz.prog w = .ok (.value (.tuple #[w64 nw, w64 m2])) w := fun w => by rw [← e5, ← e6, Nat.add_comm b l2]; exact add64_run l2 b 0 (by decide) w
  have hadd1 : IntKind.u64.wrap (h2 : Int) = (h2 : Int) := by rw [IntKind.wrap_u64]; omega
  have hc1 : (h : Int) + (m1 : Int) = (h2 : Int) := by omega
  have hadd2 : IntKind.u64.wrap (q : Int) = (q : Int) := by rw [IntKind.wrap_u64]; omega
  have hc2 : (h2 : Int) + (m2 : Int) = (q : Int) := by omega
  clear e1 e2 e3 e4 e5 e6 hsum hh2 hqq b1 b2 b3 b4 b5 b6 hx hy ha hb
  go_enter Tryz.func130, Tryz.ntmps130
  go_wp2_with (go_at_call 128; refine (HM.out _).mono ?_; rintro e w1 ⟨rfl, rfl⟩)
  go_ret2
  exact ⟨rfl, Below.refl _ _⟩
end Go.Proofs.YtdjglghecekeoaaGreatDoor.F

/- The contracts of the program's Of, Least, reduced, Add and Sub. -/
namespace Go.Proofs.YtdjglghecekeoaaGreatDoor.F
set_option maxRecDepth 100000
open Go.RowKit
attribute [local irreducible] feA
section
variable {P : Program} {ops : Array Oper} {rest : List Oper} {a : Act} {w : World} {Q : Exit → Act → World → Prop} {t' : TypeId} {pos : String} {after : Array Edge}
/-- a package-level variable of rows is read -/
theorem wpL_loadGlobal {d : Option Tmp} {x : Operand} {ty : TypeId} (g o : Nat) (cs : List Value) (n : Nat) (hT : RowT P ty n) (hn : cs.length = n) (hg : w.rangeAt g o cs)
    (hx : a.eval x = .pointer (some ⟨g, o, none⟩)) (h : wpList P ops Q rest (a.put d (.agg cs.toArray)) w) : wpList P ops Q (⟨d, .load ty x, t', pos, after, none⟩ :: rest) a w := by
  obtain ⟨⟨ds, hu, hd⟩, hi⟩ := hT
  exact wpList_load_mid (op := ⟨d, .load ty x, t', pos, after, none⟩) rfl ty x rfl g o hx cs ds hg hu hd (by rw [hi, hn]) h
end
theorem Tab.prime {w : World} (h : Tab w) : w.rangeAt 5 0 (feA p25).toList := fun j v hv => by
  rw [Nat.zero_add]
  rw [feA_words] at hv
  match j, hv with
  | 0, hv | 1, hv | 2, hv | 3, hv => exact (h _ (by decide)).trans hv
theorem TabR.root {w : World} (h : TabR w) : w.rangeAt 6 0 (feA i25).toList := fun j v hv => by
  rw [Nat.zero_add]
  rw [feA_words] at hv
  match j, hv with
  | 0, hv | 1, hv | 2, hv | 3, hv => exact (h _ (by decide)).trans hv

theorem of_any (n : Nat) (w : World) (hn : n < 18446744073709551616) : Calls Tryz.prog 96 #[.int .u64 (n : Int)] w fun e w' => e = .returned (fe n) ∧ Below w.heap.size w w' := by
  rw [fe_word n hn]
  go_enter Tryz.func96, Tryz.ntmps96
  go_wp2
  exact bodyPost_ret (results_row Tryz.results96 rowFe rfl (Lies.new w _ #[.int .u64 (n : Int), .int .u64 0, .int .u64 0, .int .u64 0]) rfl) rfl ⟨rfl, (Below.refl _ w).alloc (Nat.le_refl _) _⟩

set_option maxRecDepth 100000 in
set_option maxHeartbeats 800000 in
theorem least_any (n : Nat) (W : World) (hn : n < K256) (hT : Tab W) :
    Calls Tryz.prog 93 #[fe n] W fun e w' => e = .returned (fe (n % p25)) ∧ Below W.heap.size W w' := by
  have hT0 := Lib.hid hT
  go_enter Tryz.func93, Tryz.ntmps93
  have hx := (Lies.new W 66 (feA n)).alloc (.cells fe0A 66)
  have hr : Lies ((W.alloc (.cells (feA n) 66)).alloc (.cells fe0A 66)) (W.heap.size + 1) 66 fe0A := heap_alloc2_new W _ _
  have hB := ((Below.refl W.heap.size W).alloc (Nat.le_refl _) (.cells (feA n) 66)).alloc (by simp) (.cells fe0A 66)
  go_upto_region 1 with fail
  generalize World.alloc (World.alloc W _) _ = w0 at *
  go_wp2_with fail
  go_loopw [5] (fun ix wr => ∃ i v : Nat, i ≤ 2 ∧ ix = .int .i64 i ∧ Hid (v % p25 = n % p25 ∧ v < (3 - i) * p25 ∧ v < K256) ∧ Lies wr W.heap.size 66 (feA v) ∧ Lies wr (W.heap.size + 1) 66 fe0A ∧ Below W.heap.size W wr) (fun ix _ => 2 - (intOf ix).toNat)
  case atStart => exact ⟨0, n, by omega, rfl, Lib.hid ⟨rfl, Nat.lt_of_lt_of_le hn (by decide), hn⟩, hx, hr, hB⟩
  case round =>
    clear hx hr hB hT
    obtain ⟨i, v, hi, rfl, HV, hx, hr, hB⟩ := hrel
    by_cases hlt : i < 2
    · have hT := hT0.out.on hB
      have HM := Lib.hid (fun w => minus_words v p25 w HV.out.2.2 (by decide))
      have hii : (i : Int) < 2 := by omega
      by_cases hv : v < p25
      · rw [decide_eq_true hv] at HM
        have HVn : Hid (v = n % p25) := Lib.hid (by rw [← HV.out.1, Nat.mod_eq_of_lt hv])
        generalize (v + K256 - p25) % K256 = y at HM
        clear hv HV
        go_wp2_with (first
          | ((with_reducible refine wpL_load W.heap.size 66 (feA v) 4 rowFe (feA_size _) hx ?_ ?_); rfl)
          | ((with_reducible refine wpL_loadGlobal 5 0 (feA p25).toList 4 rowFe (by rw [Array.length_toList]; exact feA_size _) hT.prime ?_ ?_); rfl; rw [Array.toArray_toList])
          | (go_at_call 129; refine (HM.out _).mono ?_; rintro e w1 ⟨rfl, hb⟩; replace hx := (hx.on hb).on (newly w1 (.cells fe0A 66) (feA y)); replace hr := (hr.on hb).on (newly w1 (.cells fe0A 66) (feA y)); replace hB := below_on (below_on hB hb) (newly w1 (.cells fe0A 66) (feA y)); clear hb hT)
          | ((with_reducible refine wpL_store w1.heap.size 66 _ (feA y) 4 rowFe ?_ (feA_size _) (feA_one _) (Lies.new w1 _ _) ?_ ?_ ?_); rfl; rfl; rfl)
          | ((with_reducible refine wpL_store (W.heap.size + 1) 66 _ (feA v) 4 rowFe rfl (feA_size _) (feA_one _) hr ?_ ?_ ?_); rfl; rfl))
        exact bodyPost_ret (results_row Tryz.results93 rowFe (feA_size _) (hr.row _) rfl) rfl ⟨by rw [← HVn.out], below_rowSet hB (Nat.le_succ _) _⟩
      · rw [decide_eq_false hv] at HM
        have hle : p25 ≤ v := by omega
        have hyv : (v + K256 - p25) % K256 = v - p25 := by
          have := HV.out.2.2
          rw [show v + K256 - p25 = v - p25 + K256 by omega, Nat.add_mod_right, Nat.mod_eq_of_lt (by omega)]
        have HS : Hid ((v - p25) % p25 = n % p25 ∧ v - p25 < (3 - (i + 1)) * p25 ∧ v - p25 < K256) := Lib.hid ⟨by rw [← HV.out.1, ← Nat.mod_eq_sub_mod hle], by
          have h1 := HV.out.2.1
          rw [show 3 - i = (3 - (i + 1)) + 1 by omega, Nat.succ_mul] at h1
          omega, by have := HV.out.2.2; omega⟩
        rw [hyv] at HM
        generalize v - p25 = y at HM HS
        clear hv HV hyv hle
        go_wp2_with (first
          | ((with_reducible refine wpL_load W.heap.size 66 (feA v) 4 rowFe (feA_size _) hx ?_ ?_); rfl)
          | ((with_reducible refine wpL_loadGlobal 5 0 (feA p25).toList 4 rowFe (by rw [Array.length_toList]; exact feA_size _) hT.prime ?_ ?_); rfl; rw [Array.toArray_toList])
          | (go_at_call 129; refine (HM.out _).mono ?_; rintro e w1 ⟨rfl, hb⟩; replace hx := (hx.on hb).on (newly w1 (.cells fe0A 66) (feA y)); replace hr := (hr.on hb).on (newly w1 (.cells fe0A 66) (feA y)); replace hB := below_on (below_on hB hb) (newly w1 (.cells fe0A 66) (feA y)); clear hb hT; have hz := newly_lies w1 66 fe0A (feA y))
          | ((with_reducible refine wpL_store w1.heap.size 66 _ (feA y) 4 rowFe ?_ (feA_size _) (feA_one _) (Lies.new w1 _ _) ?_ ?_ ?_); rfl; rfl; rfl)
          | ((with_reducible refine wpL_load w1.heap.size 66 (feA y) 4 rowFe (feA_size _) hz ?_ ?_); rfl)
          | ((with_reducible refine wpL_store W.heap.size 66 _ (feA y) 4 rowFe (feA_size _) (feA_size _) (feA_one _) hx ?_ ?_ ?_); rfl; rfl))
        go_roundw
        case rel => exact ⟨i + 1, y, by omega, by go_num, HS, hx.row _, hr.rowFar (by omega) _, below_rowSet hB (Nat.le_refl _) _⟩
        case measure => simp [intOf]; omega
    · obtain rfl : i = 2 := by omega
      have hv : v = n % p25 := by rw [← HV.out.1, Nat.mod_eq_of_lt (by have := HV.out.2.1; omega)]
      have HVn := Lib.hid hv
      clear HV hv
      go_wp2_with (first
        | ((with_reducible refine wpL_load W.heap.size 66 (feA v) 4 rowFe (feA_size _) hx ?_ ?_); rfl)
        | ((with_reducible refine wpL_store (W.heap.size + 1) 66 _ (feA v) 4 rowFe rfl (feA_size _) (feA_one _) hr ?_ ?_ ?_); rfl; rfl))
      exact bodyPost_ret (results_row Tryz.results93 rowFe (feA_size _) (hr.row _) rfl) rfl ⟨by rw [← HVn.out], below_rowSet hB (Nat.le_succ _) _⟩

/-- the number that lies in a block -/
def numB (w : World) (g : Nat) : Nat := match w.heap[g]? with
  | some (.cells cs _ _) => valK (cs.toList.map fun v => (intOf v).toNat)
  | _ => 0
theorem Lies.numB {w : World} {g t v : Nat} (h : Lies w g t (feA v)) (hv : v < K256) : numB w g = v := by
  unfold Lies at h
  unfold F.numB
  rw [h]
  show valK ((feA v).toList.map fun v => (intOf v).toNat) = v
  rw [feA_wordsL, List.map_map]
  have e : (wordsL v).map ((fun v => (intOf v).toNat) ∘ w64) = wordsL v := by
    conv => rhs; rw [← List.map_id (wordsL v)]
    exact List.map_congr_left fun x _ => by simp [intOf]
  rw [e, wordsL_val hv]

set_option maxRecDepth 100000 in
set_option maxHeartbeats 800000 in
/-- what four words, and so many times 2^256, leave -/
theorem reduced_any (z h : Nat) (W : World) (hz : z < K256) (hh : h < 1000) (hT : Tab W) :
    Calls Tryz.prog 131 #[fe z, .int .u64 (h : Int)] W fun e w' => e = .returned (fe ((z + h * K256) % p25)) ∧ Below W.heap.size W w' := by
  have hT0 := Lib.hid hT
  clear hT
  go_enter Tryz.func131, Tryz.ntmps131
  have hx := (Lies.new W 66 (feA z)).alloc (.cells fe0A 66)
  have hr : Lies ((W.alloc (.cells (feA z) 66)).alloc (.cells fe0A 66)) (W.heap.size + 1) 66 fe0A := heap_alloc2_new W _ _
  have hB := ((Below.refl W.heap.size W).alloc (Nat.le_refl _) (.cells (feA z) 66)).alloc (by simp) (.cells fe0A 66)
  go_upto_region 1 with fail
  generalize World.alloc (World.alloc W _) _ = w0 at *
  go_loopw [1] (fun hx wr => ∃ v k : Nat, hx = w64 k ∧ k < 1000 ∧ v < K256 ∧ Hid ((v + k * K256) % p25 = (z + h * K256) % p25) ∧ Lies wr W.heap.size 66 (feA v) ∧ Lies wr (W.heap.size + 1) 66 fe0A ∧ Below W.heap.size W wr) (fun hx wr => (intOf hx).toNat * K256 + numB wr W.heap.size)
  case atStart => exact ⟨z, h, rfl, hh, hz, Lib.hid rfl, hx, hr, hB⟩
  case round =>
    clear hx hr hB hz hh
    obtain ⟨v, k, rfl, hk, hv, HV, hx, hr, hB⟩ := hrel
    by_cases h0 : k = 0
    · subst h0
      have HL := Lib.hid (fun w hT => least_any v w hv hT)
      have HS := Lib.hid HV.out
      rw [Nat.zero_mul, Nat.add_zero] at HS
      rw [HS.out] at HL
      have hT := hT0.out.on hB
      clear HV HS
      obtain ⟨q, hq⟩ : ∃ q, (z + h * K256) % p25 = q := ⟨_, rfl⟩
      rw [hq] at HL
      have HQ := Lib.hid hq
      clear hq
      go_wp2_with (first
        | ((with_reducible refine wpL_load W.heap.size 66 (feA v) 4 rowFe (feA_size _) hx ?_ ?_); rfl)
        | (go_at_call 93; refine (HL.out _ hT).mono ?_; rintro e w1 ⟨rfl, hb⟩; replace hr := hr.on hb; replace hB := below_on hB hb; clear hb)
        | ((with_reducible refine wpL_store (W.heap.size + 1) 66 _ (feA q) 4 rowFe rfl (feA_size _) (feA_one _) hr ?_ ?_ ?_); rfl; rfl))
      exact bodyPost_ret (results_row Tryz.results131 rowFe (feA_size _) (hr.row _) rfl) rfl ⟨by rw [HQ.out], below_rowSet hB (Nat.le_succ _) _⟩
    · have hb38 : k * 38 < 18446744073709551616 := by omega
      have hnb := Lib.hid (hx.numB hv)
      have HVv := Lib.hid (wordsL_val hv)
      have hll : (wordsL v).length = 4 := rfl
      have hwl := wordsL_wd v
      rw [feA_wordsL v] at hx
      obtain ⟨k38, hk38⟩ : ∃ k38, k * 38 = k38 := ⟨_, rfl⟩
      have hmul : IntKind.u64.wrap ((k : Int) * 38) = (k38 : Int) := by rw [IntKind.wrap_u64]; omega
      have hcast : (k : Int) * 38 = (k38 : Int) := by omega
      have hk0 : ¬ (k : Int) = 0 := by omega
      have Hk38 := Lib.hid hk38
      rw [hk38] at hb38
      clear hk38
      generalize wordsL v = l0 at *
      obtain ⟨wq, hwq⟩ : ∃ wq, wq = wr := ⟨_, rfl⟩
      subst hwq
      go_wp2_with fail
      go_loopw [5, 11] (fun cx ix wv => ∃ (i c : Nat) (l : List Nat), i ≤ 4 ∧ ix = .int .i64 i ∧ cx = w64 c ∧ c < 18446744073709551616 ∧ l.length = 4 ∧ Wd l ∧ Hid (valK l + 18446744073709551616 ^ i * c = v + k38) ∧ Lies wv W.heap.size 66 (l.map w64).toArray ∧ Lies wv (W.heap.size + 1) 66 fe0A ∧ Below W.heap.size W wv) (fun _ ix _ => 4 - (intOf ix).toNat)
      case atStart => exact ⟨0, k38, l0, by omega, rfl, rfl, hb38, hll, hwl, Lib.hid (by rw [HVv.out]; simp), hx, hr, hB⟩
      case round =>
        clear hx hr hB hb38 hmul hcast hll hwl
        obtain ⟨i, c, l, hi, rfl, rfl, hc, hl, hw, HS, hx, hr, hB⟩ := hrel
        by_cases hlt : i < 4
        · have cx := (hx.cell i).trans (listA_at l i (by omega))
          have fx := hx.frozen i
          have bx := hw.at i
          have HP := Lib.hid (fun x => listA_set l i x)
          have HW := Lib.hid hw
          have HSt := Lib.hid (fun (s q x : Nat) (hx : l.getD i 0 = x) => @set_sum l i s x 0 c q _ (by omega) hx HS.out)
          clear hw
          generalize hlx : l.getD i 0 = x at *
          have hadd : ∀ w, (callFunc 126 #[.int .u64 (x : Int), .int .u64 (c : Int), .int .u64 0]).run Tryz.prog w = .ok (.value (.tuple #[w64 ((x + c) % 18446744073709551616), w64 ((x + c) / 18446744073709551616)])) w := fun w => add64_run x c 0 (by decide) w
          have hsq : (x + c) % 18446744073709551616 + 18446744073709551616 * ((x + c) / 18446744073709551616) = x + 0 + c := by omega
          obtain ⟨s, hs⟩ : ∃ s, (x + c) % 18446744073709551616 = s := ⟨_, rfl⟩
          obtain ⟨q, hq⟩ : ∃ q, (x + c) / 18446744073709551616 = q := ⟨_, rfl⟩
          have hsK : s < 18446744073709551616 := by omega
          have hq1 : q < 18446744073709551616 := by omega
          rw [hs, hq] at hadd hsq
          have HT := Lib.hid (HSt.out s q x rfl hsq)
          clear hs hq bx hsq HSt hlx
          have hi4 : (i : Int) < 4 := by omega
          go_wp2_with fail
          go_roundw
          case rel => exact ⟨i + 1, q, l.set i s, by omega, by go_num, rfl, hq1, by rw [List.length_set]; exact hl, HW.out.set i hsK, Lib.hid (by have h := HT.out; rwa [Nat.mul_zero, Nat.add_zero] at h), by rw [← HP.out]; exact hx.put i _, hr.far (by simp only; omega) _, below_put hB (by omega) _ _⟩
          case measure => simp [intOf]; omega
        · obtain rfl : i = 4 := by omega
          rw [show ((4 : Nat) : Int) = 4 from rfl]
          obtain ⟨hwe, hwK⟩ := words_feA l hl hw
          rw [hwe] at hx
          have hv4 := HS.out
          rw [show (18446744073709551616 : Nat) ^ 4 = K256 by decide] at hv4
          have hk38 := Hk38.out
          have hqs : c < 1000 := by
            unfold K256 at *
            omega
          have hmeas : c * K256 + valK l < k * K256 + v := by
            unfold K256 at *
            omega
          have HR : Hid ((valK l + c * K256) % p25 = (z + h * K256) % p25) := Lib.hid (by
            rw [← HV.out, show v + k * K256 = (valK l + c * K256) + p25 * (2 * k) by unfold K256 p25 at *; omega, Nat.add_mul_mod_self_left])
          have HM := Lib.hid hmeas
          clear hv4 hk38 hmeas HS HV Hk38 hw
          generalize valK l = V at *
          go_wp2_with fail
          go_roundw
          case rel => exact ⟨V, c, rfl, hqs, hwK, HR, hx, hr, hB⟩
          case measure =>
            rw [hnb.out, hx.numB hwK]
            simp only [intOf, Int.toNat_natCast]
            exact HM.out

set_option maxRecDepth 100000 in
set_option maxHeartbeats 800000 in
theorem add_any (m n : Nat) (W : World) (hm : m < K256) (hn : n < K256) (hT : Tab W) :
    Calls Tryz.prog 97 #[fe m, fe n] W fun e w' => e = .returned (fe ((m + n) % p25)) ∧ Below W.heap.size W w' := by
  have HP := Lib.hid (fun w => plus_words m n w hm hn)
  obtain ⟨y, hy⟩ : ∃ y, (m + n) % K256 = y := ⟨_, rfl⟩
  obtain ⟨q, hq⟩ : ∃ q, (m + n) / K256 = q := ⟨_, rfl⟩
  have hyK : y < K256 := by rw [← hy]; exact Nat.mod_lt _ (by decide)
  have hyq : y + q * K256 = m + n := by rw [← hy, ← hq]; exact Nat.mod_add_div' _ _
  have hq1 : q < 1000 := by
    unfold K256 at *
    omega
  have HF := Lib.hid (fun w hT => reduced_any y q w hyK hq1 hT)
  rw [hyq] at HF
  rw [hy, hq] at HP
  clear hy hq hyq
  have hT0 := Lib.hid hT
  clear hT
  obtain ⟨r, hr⟩ : ∃ r, (m + n) % p25 = r := ⟨_, rfl⟩
  rw [hr] at HF ⊢
  clear hr
  go_enter Tryz.func97, Tryz.ntmps97
  have hx := ((Lies.new W 66 (feA m)).alloc (.cells (feA n) 66)).alloc (.cells fe0A 66)
  have hy : Lies ((W.alloc (.cells (feA m) 66)).alloc (.cells (feA n) 66)) (W.heap.size + 1) 66 (feA n) := heap_alloc2_new W _ _
  replace hy := hy.alloc (.cells fe0A 66)
  have hr := lies3 W (.cells (feA m) 66) (.cells (feA n) 66) 66 fe0A
  have hB := (((Below.refl W.heap.size W).alloc (Nat.le_refl _) (.cells (feA m) 66)).alloc (by simp) (.cells (feA n) 66)).alloc (by simp; omega) (.cells fe0A 66)
  go_upto_region 1 with fail
  generalize World.alloc (World.alloc (World.alloc W _) _) _ = w0 at *
  go_upto_region 2 with (first
    | ((with_reducible refine wpL_load W.heap.size 66 (feA m) 4 rowFe (feA_size _) hx ?_ ?_); rfl)
    | ((with_reducible refine wpL_load (W.heap.size + 1) 66 (feA n) 4 rowFe (feA_size _) hy ?_ ?_); rfl)
    | (go_at_call 132; refine (HP.out _).mono ?_; rintro e w1 ⟨rfl, hb⟩; replace hr := hr.on hb; replace hB := below_on hB hb; clear hb)
    | ((with_reducible refine wpL_store w1.heap.size 66 _ (feA y) 4 rowFe ?_ (feA_size _) (feA_one _) (Lies.new w1 _ _) ?_ ?_ ?_); rfl; rfl; rfl))
  have hz := newly_lies w1 66 fe0A (feA y)
  have hnw := newly w1 (.cells fe0A 66) (feA y)
  replace hr := hr.on hnw
  replace hB := below_on hB hnw
  have hT := hT0.out.on hB
  clear hnw HP
  generalize World.setRow _ _ _ = w2 at *
  generalize w1.heap.size = gz at *
  go_wp2_with (first
    | ((with_reducible refine wpL_load gz 66 (feA y) 4 rowFe (feA_size _) hz ?_ ?_); rfl)
    | (go_at_call 131; refine (HF.out _ hT).mono ?_; rintro e w3 ⟨rfl, hb⟩; replace hr := hr.on hb; replace hB := below_on hB hb; clear hb)
    | ((with_reducible refine wpL_store (W.heap.size + 1 + 1) 66 _ (feA r) 4 rowFe rfl (feA_size _) (feA_one _) hr ?_ ?_ ?_); rfl; rfl))
  exact bodyPost_ret (results_row Tryz.results97 rowFe (feA_size _) (hr.row _) rfl) rfl ⟨rfl, below_rowSet hB (by omega) _⟩
end Go.Proofs.YtdjglghecekeoaaGreatDoor.F

/- The contract of the program's Mul. -/
namespace Go.Proofs.YtdjglghecekeoaaGreatDoor.F
set_option maxRecDepth 100000
open Go.RowKit Go.Sort
attribute [local irreducible] feA
abbrev z8A : Array Value := #[.int .u64 0, .int .u64 0, .int .u64 0, .int .u64 0, .int .u64 0, .int .u64 0, .int .u64 0, .int .u64 0]
/-- some words, zeros behind them -/
def padA (ws : List Nat) (n : Nat) : Array Value := ((ws ++ List.replicate (n - ws.length) 0).map w64).toArray
theorem padA_at (ws : List Nat) (n i : Nat) (hi : i < n) : (padA ws n)[i]? = some (w64 ((ws ++ List.replicate (n - ws.length) 0).getD i 0)) := by
  unfold padA
  rw [List.getElem?_toArray, List.getElem?_map, List.getElem?_eq_getElem (by simp; omega), List.getD_eq_getElem?_getD, List.getElem?_eq_getElem (by simp; omega)]
  rfl
theorem padA_set (ws : List Nat) (n i x : Nat) (hl : ws.length = i) (hi : i < n) : (padA ws n).setIfInBounds i (w64 x) = padA (ws ++ [x]) n := by
  unfold padA
  rw [List.setIfInBounds_toArray, ← List.map_set, hl, pre_set ws n i x hl hi, List.length_append, hl]
  rfl
theorem padA_full (ws : List Nat) (n : Nat) (h : ws.length = n) : padA ws n = (ws.map w64).toArray := by
  unfold padA
  rw [h, Nat.sub_self, List.replicate_zero, List.append_nil]

set_option maxRecDepth 100000 in
set_option maxHeartbeats 3200000 in
theorem mul_any (m n : Nat) (W : World) (hm : m < K256) (hn : n < K256) (hT : Tab W) :
    Calls Tryz.prog 94 #[fe m, fe n] W fun e w' => e = .returned (fe (m * n % p25)) ∧ Below W.heap.size W w' := by
  have hT0 := Lib.hid hT
  have hmv := Lib.hid (wordsL_val hm)
  have hnv := Lib.hid (wordsL_val hn)
  have wm := wordsL_wd m
  have wn := wordsL_wd n
  rw [fe, fe, feA_wordsL m, feA_wordsL n]
  have hma := wordsL_at m
  have hna := wordsL_at n
  have hml : (wordsL m).length = 4 := rfl
  have hnl : (wordsL n).length = 4 := rfl
  obtain ⟨X, hX⟩ : ∃ X, ((wordsL m).map w64).toArray = X := ⟨_, rfl⟩
  obtain ⟨Y, hY⟩ : ∃ Y, ((wordsL n).map w64).toArray = Y := ⟨_, rfl⟩
  rw [hX] at hma ⊢
  rw [hY] at hna ⊢
  clear hX hY hT
  generalize hxs : wordsL m = xs at *
  generalize hys : wordsL n = ys at *
  clear hxs hys hm hn
  go_enter Tryz.func94, Tryz.ntmps94
  have hx := ((Lies.new W 66 X).alloc (.cells Y 66)).alloc (.cells fe0A 66)
  have hy : Lies ((W.alloc (.cells X 66)).alloc (.cells Y 66)) (W.heap.size + 1) 66 Y := heap_alloc2_new W _ _
  replace hy := hy.alloc (.cells fe0A 66)
  have hr := lies3 W (.cells X 66) (.cells Y 66) 66 fe0A
  have hB := (((Below.refl W.heap.size W).alloc (Nat.le_refl _) (.cells X 66)).alloc (by simp) (.cells Y 66)).alloc (by simp; omega) (.cells fe0A 66)
  go_upto_region 1 with fail
  generalize World.alloc (World.alloc (World.alloc W _) _) _ = w0 at *
  have ha : Lies (w0.alloc (.cells z8A 95)) w0.heap.size 95 (((List.replicate 8 0).map w64).toArray) := Lies.new w0 95 z8A
  replace hx := hx.alloc (.cells z8A 95)
  replace hy := hy.alloc (.cells z8A 95)
  have hrlt := hr.lt
  replace hr := hr.alloc (.cells z8A 95)
  have hBz := hB.size
  replace hB := hB.alloc hBz (.cells z8A 95)
  go_upto_region 2 with fail
  generalize World.alloc w0 _ = w1 at *
  generalize w0.heap.size = ga at *
  go_wp2_with fail
  go_loopw [12] (fun ix wr => ∃ (i : Nat) (al : List Nat), i ≤ 4 ∧ ix = .int .i64 i ∧ al.length = 8 ∧ Wd al ∧ (∀ j, i + 4 ≤ j → al.getD j 0 = 0) ∧ Hid (valK al = valK (xs.take i) * n) ∧ Lies wr ga 95 ((al.map w64).toArray) ∧ Lies wr W.heap.size 66 X ∧ Lies wr (W.heap.size + 1) 66 Y ∧ Lies wr (W.heap.size + 2) 66 fe0A ∧ Below W.heap.size W wr) (fun ix _ => 4 - (intOf ix).toNat)
  case atStart => exact ⟨0, List.replicate 8 0, by omega, rfl, rfl, (fun d hd => by rw [List.mem_replicate] at hd; omega), (fun j _ => by rw [List.getD_eq_getElem?_getD, List.getElem?_replicate]; split <;> rfl), Lib.hid (by rw [valK_zeros, List.take_zero]; simp [valK]), ha, hx, hy, hr, hB⟩
  case round =>
    clear ha hx hy hr hB
    obtain ⟨i, al, hi, rfl, hl8, hw, hz, HV, ha, hx, hy, hr, hB⟩ := hrel
    by_cases hlt : i < 4
    · have HZ := Lib.hid hz
      have hxi := hma i hlt
      have bx := wm.at i
      have HX := Lib.hid (valK_take_succ xs i)
      generalize xs.getD i 0 = x at *
      clear hz
      obtain ⟨wq, hwq⟩ : ∃ wq, wq = wr := ⟨_, rfl⟩
      subst hwq
      go_wp2_with fail
      go_loopw [7, 15] (fun cx kx wv => ∃ (k c : Nat) (al : List Nat), k ≤ 4 ∧ kx = .int .i64 k ∧ cx = w64 c ∧ c < 18446744073709551616 ∧ al.length = 8 ∧ Wd al ∧ Hid (∀ j, i + 4 ≤ j → al.getD j 0 = 0) ∧ Hid (valK al + 18446744073709551616 ^ (i + k) * c = valK (xs.take i) * n + 18446744073709551616 ^ i * (x * valK (ys.take k))) ∧ Lies wv ga 95 ((al.map w64).toArray) ∧ Lies wv W.heap.size 66 X ∧ Lies wv (W.heap.size + 1) 66 Y ∧ Lies wv (W.heap.size + 2) 66 fe0A ∧ Below W.heap.size W wv) (fun _ kx _ => 4 - (intOf kx).toNat)
      case atStart => exact ⟨0, 0, al, by omega, rfl, rfl, by decide, hl8, hw, HZ, Lib.hid (by rw [HV.out]; simp [valK]), ha, hx, hy, hr, hB⟩
      case round =>
        clear ha hx hy hr hB HV HZ hw hl8
        obtain ⟨k, c, al, hk, rfl, rfl, hc, hl8, hw, HZ, HV, ha, hx, hy, hr, hB⟩ := hrel
        by_cases hltk : k < 4
        · have cx := cell_regrown ((hx.cell i).trans hxi)
          have cy := cell_regrown ((hy.cell k).trans (hna k hltk))
          obtain ⟨j, hj⟩ : ∃ j, i + k = j := ⟨_, rfl⟩
          have hj8 : j < 8 := by omega
          have ca := cell_regrown ((ha.cell j).trans (listA_at al j (by omega)))
          have b_y := wn.at k
          have bo := hw.at j
          have HY := Lib.hid (valK_take_succ ys k)
          have HSt := Lib.hid (fun (o nw q y : Nat) (ho : al.getD (i + k) 0 = o) => @inner_step al (valK (xs.take i) * n) (valK (ys.take k)) x y c o nw q i k (by omega) ho HV.out)
          rw [hj] at HSt
          generalize ys.getD k 0 = y at *
          generalize hao : al.getD j 0 = o at *
          clear hao
          obtain ⟨q, nw, b5, b6, hsum, HM⟩ := wordTimes_any x y o c bx b_y bo hc
          have hsum' : nw + 18446744073709551616 * q = x * y + c + o := by rw [hsum]; omega
          have HSum := Lib.hid hsum'
          have cM := reg (W := wr) (fun w _ => HM w)
          have HW := Lib.hid hw
          have HBs := Lib.hid (And.intro b5 b6)
          clear hw hsum hsum' HM b_y bo
          have hji : IntKind.i64.wrap ((i : Int) + (k : Int)) = (j : Int) := by rw [IntWalk.i64_in _ (by omega)]; omega
          have hjc : (i : Int) + (k : Int) = (j : Int) := by omega
          have hj8i : (j : Int) < 8 := by omega
          go_upto_region 9 with fail
          refine wp_region_below_tail 21 (by kernel_rfl) (by kernel_rfl) ?_
          simp only [List.take_succ_cons, List.take_zero, List.drop_succ_cons, List.drop_zero]
          repeat (go_big_quiet_step (with_reducible exact cM _ _))
          refine wpQuiet_nil ?_
          intro w3 hw3
          have hb : Below wr.heap.size wr w3 := by obtain ⟨⟨dq, osq⟩, rfl⟩ := hw3; exact below_regrown wr dq osq
          clear hw3 cx cy ca cM
          replace hx := hx.on hb
          replace hy := hy.on hb
          replace hr := hr.on hb
          replace ha := ha.on hb
          replace hB := below_on hB hb
          clear hb
          have ca := (ha.cell j).trans (listA_at al j (by omega))
          have fa := ha.frozen j
          generalize al.getD j 0 = o2 at ca
          go_wp2_with fail
          go_roundw
          case rel => exact ⟨k + 1, q, al.set j nw, by omega, by go_num, rfl, HBs.out.1, by rw [List.length_set]; exact hl8, HW.out.set j HBs.out.2, Lib.hid (fun t ht => by rw [set_getD _ _ _ _ (by omega)]; exact HZ.out t ht), Lib.hid (by rw [HY.out]; exact HSt.out o nw q y rfl HSum.out), by rw [← listA_set]; exact ha.put j _, hx.far (by simp only; omega) _, hy.far (by simp only; omega) _, hr.far (by simp only; omega) _, below_put hB (by omega) _ _⟩
          case measure => simp [intOf]; omega
        · obtain rfl : k = 4 := by omega
          have hi4 : i + 4 < al.length := by omega
          have ca := (ha.cell (i + 4)).trans (listA_at al (i + 4) hi4)
          have fa := ha.frozen (i + 4)
          have HR := Lib.hid (row_step hi4 (HZ.out (i + 4) (Nat.le_refl _)) (by
            have h := HV.out
            rw [List.take_of_length_le (show ys.length ≤ 4 by omega), hnv.out] at h
            exact h))
          have hji : IntKind.i64.wrap ((i : Int) + 4) = (i : Int) + 4 := by rw [IntWalk.i64_in _ (by omega)]
          generalize al.getD (i + 4) 0 = o at ca
          clear HV
          go_wp2_with fail
          go_roundw
          case rel => exact ⟨i + 1, al.set (i + 4) c, by omega, by go_num, by rw [List.length_set]; exact hl8, hw.set _ hc, (fun t ht => by rw [set_getD _ _ _ _ (by omega)]; exact HZ.out t (by omega)), Lib.hid (by rw [HX.out]; exact HR.out), by rw [← listA_set]; exact ha.put (i + 4) _, hx.far (by simp only; omega) _, hy.far (by simp only; omega) _, hr.far (by simp only; omega) _, below_put hB (by omega) _ _⟩
          case measure => simp [intOf]; omega
    · obtain rfl : i = 4 := by omega
      rw [show ((4 : Nat) : Int) = 4 from rfl]
      have hmn : valK al = m * n := by
        have h := HV.out
        rwa [List.take_of_length_le (by omega), hmv.out] at h
      have HMN := Lib.hid hmn
      have HW := Lib.hid hw
      have hnw := (Below.refl wr.heap.size wr).alloc (Nat.le_refl _) (.cells fe0A 66)
      have hzz := Lies.new wr 66 fe0A
      have halt := ha.lt
      have hrlt2 := hr.lt
      replace ha := ha.on hnw
      replace hr := hr.on hnw
      replace hB := below_on hB hnw
      clear hw hz HV hx hy hmn hnw hma hna wm wn hml hnl hmv hnv
      go_upto_region 14 with fail
      generalize World.alloc wr _ = w2 at *
      generalize wr.heap.size = gz at *
      go_wp2_with fail
      go_loopw [10, 44] (fun cx ix wr => ∃ (i c : Nat) (ws : List Nat), i ≤ 4 ∧ ix = .int .i64 i ∧ cx = w64 c ∧ c < 18446744073709551616 ∧ ws.length = i ∧ Wd ws ∧ Hid (valK ws + 18446744073709551616 ^ i * c = valK (al.take i) + 38 * valK ((al.drop 4).take i)) ∧ Lies wr gz 66 (padA ws 4) ∧ Lies wr ga 95 ((al.map w64).toArray) ∧ Lies wr (W.heap.size + 2) 66 fe0A ∧ Below W.heap.size W wr) (fun _ ix _ => 4 - (intOf ix).toNat)
      case atStart => exact ⟨0, 0, [], by omega, rfl, rfl, by decide, rfl, (fun d hd => by cases hd), Lib.hid rfl, hzz, ha, hr, hB⟩
      case round =>
        clear hzz ha hr hB
        obtain ⟨i, c, ws, hi, rfl, rfl, hc, hl, hw, HV, hz, ha, hr, hB⟩ := hrel
        by_cases hlt2 : i < 4
        · have ca := cell_regrown ((ha.cell i).trans (listA_at al i (by omega)))
          have cb := cell_regrown ((ha.cell (i + 4)).trans (listA_at al (i + 4) (by omega)))
          have bo := HW.out.at i
          have bx := HW.out.at (i + 4)
          have HP := Lib.hid (fun x => padA_set ws 4 i x hl hlt2)
          have HA := Lib.hid (valK_take_succ al i)
          have HH : Hid (valK ((al.drop 4).take (i + 1)) = valK ((al.drop 4).take i) + 18446744073709551616 ^ i * al.getD (i + 4) 0) := Lib.hid (by
            rw [valK_take_succ, List.getD_eq_getElem?_getD, List.getElem?_drop, ← List.getD_eq_getElem?_getD, Nat.add_comm 4 i])
          have HW2 := Lib.hid hw
          clear hw
          generalize al.getD i 0 = o at *
          generalize al.getD (i + 4) 0 = x at *
          obtain ⟨q, nw, b5, b6, hsum, HM⟩ := wordTimes_any x 38 o c bx (by decide) bo hc
          have hsum' : nw + 18446744073709551616 * q = x * 38 + c + o := by rw [hsum]; omega
          have cM : ∀ d os, Calls Tryz.prog 130 #[.int .u64 (x : Int), .int .u64 38, .int .u64 (o : Int), .int .u64 (c : Int)] (grow (redrawn wr d) os) fun e w'' => e = .returned (.tuple #[.int .u64 (q : Int), .int .u64 (nw : Int)]) ∧ ∃ p : Regrown, w'' = grow (redrawn wr p.d) p.os := reg (W := wr) (fun w _ => HM w)
          have HS := Lib.hid (high_step HV.out hsum')
          have HBs := Lib.hid (And.intro b5 b6)
          have hji : IntKind.i64.wrap ((i : Int) + 4) = (i : Int) + 4 := by rw [IntWalk.i64_in _ (by omega)]
          have hii : (i : Int) < 4 := by omega
          clear hsum hsum' HM bo bx
          go_upto_region 18 with fail
          refine wp_region_below_tail 15 (by kernel_rfl) (by kernel_rfl) ?_
          simp only [List.take_succ_cons, List.take_zero, List.drop_succ_cons, List.drop_zero]
          repeat (go_big_quiet_step (with_reducible exact cM _ _))
          refine wpQuiet_nil ?_
          intro w3 hw3
          have hb : Below wr.heap.size wr w3 := by obtain ⟨⟨dq, osq⟩, rfl⟩ := hw3; exact below_regrown wr dq osq
          clear hw3 ca cb cM
          replace hr := hr.on hb
          replace ha := ha.on hb
          replace hz := hz.on hb
          replace hB := below_on hB hb
          clear hb
          have cz := (hz.cell i).trans (padA_at ws 4 i hlt2)
          have fz := hz.frozen i
          generalize (ws ++ List.replicate (4 - ws.length) 0).getD i 0 = z at cz
          go_wp2_with fail
          go_roundw
          case rel => exact ⟨i + 1, q, ws ++ [nw], by omega, by go_num, rfl, HBs.out.1, by rw [List.length_append, hl]; rfl, HW2.out.snoc HBs.out.2, Lib.hid (by rw [valK_snoc, hl, HA.out, HH.out]; exact HS.out), by rw [← HP.out]; exact hz.put i _, ha.far (by simp only; omega) _, hr.far (by simp only; omega) _, below_put hB (by omega) _ _⟩
          case measure => simp [intOf]; omega
        · obtain rfl : i = 4 := by omega
          obtain ⟨hwe, hwK⟩ := words_feA ws hl hw
          rw [padA_full ws 4 hl, hwe] at hz
          have hv := HV.out
          have hd4 : (al.drop 4).length = 4 := by rw [List.length_drop, hl8]
          rw [List.take_of_length_le (show (al.drop 4).length ≤ 4 by omega), show (18446744073709551616 : Nat) ^ 4 = K256 by decide] at hv
          have hsp := valK_append (al.take 4) (al.drop 4)
          rw [List.take_append_drop, HMN.out, List.length_take, hl8, show min 4 8 = 4 by decide, show (18446744073709551616 : Nat) ^ 4 = K256 by decide] at hsp
          have hLb := valK_lt (l := al.take 4) (fun d hd => HW.out d (List.mem_of_mem_take hd))
          have hHb := valK_lt (l := al.drop 4) (fun d hd => HW.out d (List.mem_of_mem_drop hd))
          rw [List.length_take, hl8, show min 4 8 = 4 by decide, show (18446744073709551616 : Nat) ^ 4 = K256 by decide] at hLb
          rw [hd4, show (18446744073709551616 : Nat) ^ 4 = K256 by decide] at hHb
          generalize valK (al.take 4) = Lo at hv hsp hLb
          generalize valK (al.drop 4) = Hi at hv hsp hHb
          have hc1000 : c < 1000 := by
            unfold K256 at *
            omega
          have hmod : (valK ws + c * K256) % p25 = m * n % p25 := by
            rw [Nat.mul_comm c, hv, hsp, show Lo + K256 * Hi = Lo + 38 * Hi + p25 * (2 * Hi) by unfold K256 p25; omega, Nat.add_mul_mod_self_left]
          have HF := Lib.hid (fun w hT => reduced_any (valK ws) c w hwK hc1000 hT)
          rw [hmod] at HF
          have hT := hT0.out.on hB
          obtain ⟨r, hrr⟩ : ∃ r, m * n % p25 = r := ⟨_, rfl⟩
          rw [hrr] at HF
          have HRR := Lib.hid hrr
          clear hv hsp hLb hHb hmod hwe hwK HV HMN HW hw hrr
          generalize valK ws = V at *
          go_wp2_with (first
            | ((with_reducible refine wpL_load gz 66 (feA V) 4 rowFe (feA_size _) hz ?_ ?_); rfl)
            | (go_at_call 131; refine (HF.out _ hT).mono ?_; rintro e w3 ⟨rfl, hb⟩; replace hr := hr.on hb; replace hB := below_on hB hb; clear hb)
            | ((with_reducible refine wpL_store (W.heap.size + 1 + 1) 66 _ (feA r) 4 rowFe rfl (feA_size _) (feA_one _) hr ?_ ?_ ?_); rfl; rfl))
          exact bodyPost_ret (results_row Tryz.results94 rowFe (feA_size _) (hr.row _) rfl) rfl ⟨by rw [HRR.out], below_rowSet hB (by omega) _⟩
end Go.Proofs.YtdjglghecekeoaaGreatDoor.F

/- The contract of the program's Sub. -/
namespace Go.Proofs.YtdjglghecekeoaaGreatDoor.F
set_option maxRecDepth 100000
open Go.RowKit Go.Sort
attribute [local irreducible] feA
/-- what is lacking while 2^256 is lent -/
def lentN (b : Bool) : Nat := if b = true then p25 - 38 else 0
theorem sub_start (m n : Nat) (hm : m < K256) (hn : n < K256) : ((m + K256 - n) % K256 + lentN (decide (m < n))) % p25 = (m + (p25 - n % p25)) % p25 ∧ (m + K256 - n) % K256 < K256 := by
  refine ⟨?_, Nat.mod_lt _ (by decide)⟩
  have h1 : n = p25 * (n / p25) + n % p25 := (Nat.div_add_mod n p25).symm
  have h2 : n % p25 < p25 := Nat.mod_lt _ p25_pos
  have h3 : n / p25 ≤ 2 := by
    unfold K256 p25 at *
    omega
  obtain ⟨q, hq⟩ : ∃ q, n / p25 = q := ⟨_, rfl⟩
  obtain ⟨r, hr⟩ : ∃ r, n % p25 = r := ⟨_, rfl⟩
  rw [hq, hr] at h1
  rw [hq] at h3
  rw [hr] at h2 ⊢
  by_cases hlt : m < n
  · rw [decide_eq_true hlt]
    have e1 : (m + K256 - n) % K256 = m + K256 - n := Nat.mod_eq_of_lt (by omega)
    rw [e1, lentN, if_pos rfl]
    have e2 : m + K256 - n + (p25 - 38) = (m + (p25 - r)) + p25 * (2 - q) := by
      have hq3 : q = 0 ∨ q = 1 ∨ q = 2 := by omega
      unfold K256 p25 at *
      rcases hq3 with rfl | rfl | rfl <;> omega
    rw [e2, Nat.add_mul_mod_self_left]
  · rw [decide_eq_false hlt]
    have e1 : (m + K256 - n) % K256 = m - n := by
      rw [show m + K256 - n = m - n + K256 by omega, Nat.add_mod_right, Nat.mod_eq_of_lt (by omega)]
    rw [e1, lentN, if_neg (by decide), Nat.add_zero]
    have e2 : m + (p25 - r) = (m - n) + p25 * (q + 1) := by
      have hq3 : q = 0 ∨ q = 1 ∨ q = 2 := by omega
      unfold K256 p25 at *
      rcases hq3 with rfl | rfl | rfl <;> omega
    rw [e2, Nat.add_mul_mod_self_left]
theorem sub_step (v : Nat) (hv : v < K256) : ((v + K256 - 38) % K256 + lentN (decide (v < 38))) % p25 = (v + lentN true) % p25 ∧ (v + K256 - 38) % K256 < K256 ∧ (v < 38 → ¬ (v + K256 - 38) % K256 < 38) := by
  have hl : lentN true = p25 - 38 := by unfold lentN; rw [if_pos rfl]
  refine ⟨?_, Nat.mod_lt _ (by decide), ?_⟩
  · rw [hl]
    by_cases h : v < 38
    · rw [decide_eq_true h, hl]
      have e1 : (v + K256 - 38) % K256 = v + K256 - 38 := Nat.mod_eq_of_lt (by omega)
      rw [e1, show v + K256 - 38 + (p25 - 38) = (v + (p25 - 38)) + p25 * 2 by unfold K256 p25; omega, Nat.add_mul_mod_self_left]
    · rw [decide_eq_false h]
      have e1 : (v + K256 - 38) % K256 = v - 38 := by
        rw [show v + K256 - 38 = v - 38 + K256 by omega, Nat.add_mod_right, Nat.mod_eq_of_lt (by omega)]
      rw [e1, lentN, if_neg (by decide), Nat.add_zero, show v + (p25 - 38) = (v - 38) + p25 by unfold p25; omega, Nat.add_mod_right]
  · intro h
    have e1 : (v + K256 - 38) % K256 = v + K256 - 38 := Nat.mod_eq_of_lt (by omega)
    rw [e1]
    unfold K256
    omega
attribute [irreducible] lentN
/-- how often it is still gone through -/
def subM (g : Nat) (b : Value) (w : World) : Nat := match b with | .bool true => if numB w g < 38 then 2 else 1 | _ => 0
theorem subM_step {g v u : Nat} {w w' : World} (hv : numB w g = v) (hu : numB w' g = u) (h : v < 38 → ¬ u < 38) : subM g (.bool (decide (v < 38))) w' < subM g (.bool true) w := by
  by_cases h1 : v < 38
  · rw [decide_eq_true h1]
    show (if numB w' g < 38 then 2 else 1) < (if numB w g < 38 then 2 else 1)
    rw [hv, hu, if_pos h1, if_neg (h h1)]
    decide
  · rw [decide_eq_false h1]
    show 0 < (if numB w g < 38 then 2 else 1)
    rw [hv, if_neg h1]
    decide

set_option maxRecDepth 100000 in
set_option maxHeartbeats 800000 in
theorem sub_any (m n : Nat) (W : World) (hm : m < K256) (hn : n < K256) (hT : Tab W) :
    Calls Tryz.prog 95 #[fe m, fe n] W fun e w' => e = .returned (fe ((m + (p25 - n % p25)) % p25)) ∧ Below W.heap.size W w' := by
  have HP := Lib.hid (fun w => minus_words m n w hm hn)
  have HS0 := Lib.hid (sub_start m n hm hn)
  obtain ⟨T, hTT⟩ : ∃ T, (m + (p25 - n % p25)) % p25 = T := ⟨_, rfl⟩
  obtain ⟨y, hy⟩ : ∃ y, (m + K256 - n) % K256 = y := ⟨_, rfl⟩
  obtain ⟨b0, hb0⟩ : ∃ b0, decide (m < n) = b0 := ⟨_, rfl⟩
  have HTp : Hid (T < p25) := Lib.hid (by rw [← hTT]; exact Nat.mod_lt _ p25_pos)
  rw [hTT] at HS0 ⊢
  rw [hy, hb0] at HS0 HP
  clear hTT hy hb0
  have hT0 := Lib.hid hT
  clear hT
  go_enter Tryz.func95, Tryz.ntmps95
  have hx := ((Lies.new W 66 (feA m)).alloc (.cells (feA n) 66)).alloc (.cells fe0A 66)
  have hy : Lies ((W.alloc (.cells (feA m) 66)).alloc (.cells (feA n) 66)) (W.heap.size + 1) 66 (feA n) := heap_alloc2_new W _ _
  replace hy := hy.alloc (.cells fe0A 66)
  have hr := lies3 W (.cells (feA m) 66) (.cells (feA n) 66) 66 fe0A
  have hB := (((Below.refl W.heap.size W).alloc (Nat.le_refl _) (.cells (feA m) 66)).alloc (by simp) (.cells (feA n) 66)).alloc (by simp; omega) (.cells fe0A 66)
  go_upto_region 1 with fail
  generalize World.alloc (World.alloc (World.alloc W _) _) _ = w0 at *
  go_upto_region 2 with (first
    | ((with_reducible refine wpL_load W.heap.size 66 (feA m) 4 rowFe (feA_size _) hx ?_ ?_); rfl)
    | ((with_reducible refine wpL_load (W.heap.size + 1) 66 (feA n) 4 rowFe (feA_size _) hy ?_ ?_); rfl)
    | (go_at_call 129; refine (HP.out _).mono ?_; rintro e w1 ⟨rfl, hb⟩; replace hr := hr.on hb; replace hB := below_on hB hb; clear hb)
    | ((with_reducible refine wpL_store w1.heap.size 66 _ (feA y) 4 rowFe ?_ (feA_size _) (feA_one _) (Lies.new w1 _ _) ?_ ?_ ?_); rfl; rfl; rfl))
  have hz := newly_lies w1 66 fe0A (feA y)
  have hnw := newly w1 (.cells fe0A 66) (feA y)
  have hgz : W.heap.size + 2 < w1.heap.size := hr.lt
  replace hr := hr.on hnw
  replace hB := below_on hB hnw
  clear hnw HP
  generalize World.setRow _ _ _ = w2 at *
  generalize w1.heap.size = gz at *
  clear hx hy hm hn
  go_loopw [6] (fun bx wr => ∃ (v : Nat) (b : Bool), bx = .bool b ∧ v < K256 ∧ Hid ((v + lentN b) % p25 = T) ∧ Lies wr gz 66 (feA v) ∧ Lies wr (W.heap.size + 2) 66 fe0A ∧ Below W.heap.size W wr) (fun bx wr => subM gz bx wr)
  case atStart => exact ⟨y, b0, rfl, HS0.out.2, Lib.hid HS0.out.1, hz, hr, hB⟩
  case round =>
    clear hz hr hB
    obtain ⟨v, b, rfl, hv, HV, hz, hr, hB⟩ := hrel
    cases b
    · have HL := Lib.hid (fun w hT => least_any v w hv hT)
      have hvT : v % p25 = T := by
        have h := HV.out
        rw [show lentN false = 0 by unfold lentN; rfl, Nat.add_zero] at h
        exact h
      rw [hvT] at HL
      clear HV hvT
      have hT := hT0.out.on hB
      go_wp2_with (first
        | ((with_reducible refine wpL_load gz 66 (feA v) 4 rowFe (feA_size _) hz ?_ ?_); rfl)
        | (go_at_call 93; refine (HL.out _ hT).mono ?_; rintro e w3 ⟨rfl, hb⟩; replace hr := hr.on hb; replace hB := below_on hB hb; clear hb)
        | ((with_reducible refine wpL_store (W.heap.size + 1 + 1) 66 _ (feA T) 4 rowFe rfl (feA_size _) (feA_one _) hr ?_ ?_ ?_); rfl; rfl))
      exact bodyPost_ret (results_row Tryz.results95 rowFe (feA_size _) (hr.row _) rfl) rfl ⟨rfl, below_rowSet hB (by omega) _⟩
    · have hnb := hz.numB hv
      have HSt := Lib.hid (sub_step v hv)
      have HM := Lib.hid (fun w => minus_words v 38 w hv (by decide))
      obtain ⟨u, hu⟩ : ∃ u, (v + K256 - 38) % K256 = u := ⟨_, rfl⟩
      obtain ⟨c, hc⟩ : ∃ c, decide (v < 38) = c := ⟨_, rfl⟩
      rw [hu] at HSt HM
      rw [hc] at HM
      have hR : (u + lentN c) % p25 = T := by rw [← hc, HSt.out.1]; exact HV.out
      have HR := Lib.hid hR
      have HO : ∀ w, Calls Tryz.prog 96 #[.int .u64 38] w fun e w' => e = .returned (fe 38) ∧ Below w.heap.size w w' := fun w => of_any 38 w (by decide)
      have HMs : Hid (∀ w', numB w' gz = u → subM gz (.bool c) w' < subM gz (.bool true) wr) := Lib.hid (fun w' h => by rw [← hc]; exact subM_step hnb h HSt.out.2.2)
      have HuK := Lib.hid HSt.out.2.1
      obtain ⟨a0, a1, a2, a3, ha⟩ := fe_four v
      have e1 : fe v = .agg #[w64 a0, w64 a1, w64 a2, w64 a3] := by rw [fe, ha]
      have hz' := hz
      rw [ha] at hz'
      rw [e1] at HM
      clear hu hc hR HV HSt e1 ha
      obtain ⟨z0, z1, z2, z3⟩ := hz'.four
      have hwlt := hz.lt
      replace hz := hz.drew
      replace hr := hr.drew
      replace hB := hB.drew
      go_upto_region 3 with fail
      go_region_with (first
        | (go_at_call 96; refine (HO _).mono ?_; rintro e w3 ⟨rfl, hb⟩; replace hz := hz.on hb; replace hz' := (hz'.drew).on hb; replace hr := hr.on hb; replace hB := below_on hB hb; clear hb z0 z1 z2 z3; obtain ⟨z0, z1, z2, z3⟩ := hz'.four)
        | (go_at_call 129; refine (HM.out _).mono ?_; rintro e w4 ⟨rfl, hb⟩; replace hz := hz.on hb; replace hr := hr.on hb; replace hB := below_on hB hb; clear hb; have hst := hz.storeFe u (feA_size _); have hsz := feA_size u))
      all_goals
        simp only [List.getElem_toArray, List.getElem_cons_succ, List.getElem_cons_zero, Act.put, List.setIfInBounds_toArray, List.set_cons_succ, List.set_cons_zero]
        go_wp2_with fail
        go_roundw
        case rel => exact ⟨u, c, rfl, HuK.out, HR, hz.row _, hr.rowFar (by omega) _, below_rowSet hB (by omega) _⟩
        case measure =>
          exact HMs.out _ ((hz.row (feA u)).numB HuK.out)
end Go.Proofs.YtdjglghecekeoaaGreatDoor.F

/- The contracts of the program's squared, ones, power, Inv and even. -/
namespace Go.Proofs.YtdjglghecekeoaaGreatDoor.F
set_option maxRecDepth 100000
open Go.RowKit Go.Sort
attribute [local irreducible] feA
/-- a number is read in the head of a region that draws its order -/
theorem wpQB_fe {w0 : World} {Q : Act → Prop} {a : Act} {rest : List Oper} {t' : TypeId} {pos : String} {after : Array Edge} {d : Option Tmp} {x : Operand} (g n : Nat) (hz : Lies w0 g 66 (feA n)) (hx : a.eval x = .pointer (some ⟨g, 0, none⟩))
    (h : wpQB Tryz.prog w0 Q rest (a.put d (fe n))) : wpQB Tryz.prog w0 Q (⟨d, .load 66 x, t', pos, after, none⟩ :: rest) a :=
  wpQB_load g 66 (feA n) _ Tryz.underlying66 rfl (by rw [feA_size]; exact rowFe.2) hz hx h

set_option maxRecDepth 100000 in
set_option maxHeartbeats 800000 in
theorem squared_any (x t : Nat) (W : World) (hx : x < K256) (ht : t ≤ 1000) (hT : Tab W) :
    Calls Tryz.prog 134 #[fe x, .int .i64 (t : Int)] W fun e w' => e = .returned (fe (sqL x t)) ∧ Below W.heap.size W w' := by
  have hT0 := Lib.hid hT
  clear hT
  go_enter Tryz.func134, Tryz.ntmps134
  have hz := (Lies.new W 66 (feA x)).alloc (.cells fe0A 66)
  have hr : Lies ((W.alloc (.cells (feA x) 66)).alloc (.cells fe0A 66)) (W.heap.size + 1) 66 fe0A := heap_alloc2_new W _ _
  have hB := ((Below.refl W.heap.size W).alloc (Nat.le_refl _) (.cells (feA x) 66)).alloc (by simp) (.cells fe0A 66)
  go_upto_region 1 with fail
  generalize World.alloc (World.alloc W _) _ = w0 at *
  go_wp2_with fail
  go_loopw [6] (fun ix wr => ∃ i : Nat, i ≤ t ∧ ix = .int .i64 (i : Int) ∧ Lies wr W.heap.size 66 (feA (sqL x i)) ∧ Lies wr (W.heap.size + 1) 66 fe0A ∧ Below W.heap.size W wr) (fun ix _ => t - (intOf ix).toNat)
  case atStart => exact ⟨0, Nat.zero_le _, rfl, hz, hr, hB⟩
  case round =>
    clear hz hr hB
    obtain ⟨i, hi, rfl, hz, hr, hB⟩ := hrel
    have hT := hT0.out.on hB
    by_cases hlt : i < t
    · have hv := sqL_lt x i hx
      have HM := Lib.hid (fun w hT => mul_any (sqL x i) (sqL x i) w hv hv hT)
      rw [sqL_step] at HM
      generalize sqL x i = v at *
      obtain ⟨u, hu⟩ : ∃ u, sqL x (i + 1) = u := ⟨_, rfl⟩
      rw [hu] at HM
      have HU := Lib.hid hu
      have hii : (i : Int) < (t : Int) := by omega
      clear hu hv
      go_wp2_with (first
        | ((with_reducible refine wpL_load W.heap.size 66 (feA v) 4 rowFe (feA_size _) hz ?_ ?_); rfl)
        | (go_at_call 94; refine (HM.out _ hT).mono ?_; rintro e w1 ⟨rfl, hb⟩; replace hz := hz.on hb; replace hr := hr.on hb; replace hB := below_on hB hb; clear hb)
        | ((with_reducible refine wpL_store W.heap.size 66 _ (feA u) 4 rowFe (feA_size _) (feA_size _) (feA_one _) hz ?_ ?_ ?_); rfl; rfl))
      go_roundw
      case rel => exact ⟨i + 1, by omega, by go_num, by rw [HU.out]; exact hz.row _, hr.rowFar (by omega) _, below_rowSet hB (Nat.le_refl _) _⟩
      case measure => simp [intOf]; omega
    · obtain rfl : i = t := by omega
      have hii : ¬ (i : Int) < (i : Int) := by omega
      obtain ⟨u, hu⟩ : ∃ u, sqL x i = u := ⟨_, rfl⟩
      rw [hu] at hz
      have HU := Lib.hid hu
      clear hu
      go_wp2_with (first
        | ((with_reducible refine wpL_load W.heap.size 66 (feA u) 4 rowFe (feA_size _) hz ?_ ?_); rfl)
        | ((with_reducible refine wpL_store (W.heap.size + 1) 66 _ (feA u) 4 rowFe rfl (feA_size _) (feA_one _) hr ?_ ?_ ?_); rfl; rfl))
      exact bodyPost_ret (results_row Tryz.results134 rowFe (feA_size _) (hr.row _) rfl) rfl ⟨by rw [HU.out], below_rowSet hB (Nat.le_succ _) _⟩

set_option maxRecDepth 100000 in
set_option maxHeartbeats 800000 in
theorem even_any (r : Nat) (W : World) (hr : r < p25) (hT : Tab W) :
    Calls Tryz.prog 135 #[fe r] W fun e w' => e = .returned (fe (evN r)) ∧ Below W.heap.size W w' := by
  have hT0 := Lib.hid hT
  have hrK := below_K hr
  have HS := Lib.hid (fun w hT => sub_any 0 r w (by decide) hrK hT)
  have HO : ∀ w, Calls Tryz.prog 96 #[.int .u64 0] w fun e w' => e = .returned (fe 0) ∧ Below w.heap.size w w' := fun w => of_any 0 w (by decide)
  obtain ⟨u, hu⟩ : ∃ u, (0 + (p25 - r % p25)) % p25 = u := ⟨_, rfl⟩
  obtain ⟨v, hv⟩ : ∃ v, evN r = v := ⟨_, rfl⟩
  have hcase : (r % 2 = 1 ∧ v = u) ∨ (r % 2 = 0 ∧ v = r) := by
    rw [← hv, ← hu]
    unfold evN
    split
    · exact .inl ⟨by assumption, rfl⟩
    · exact .inr ⟨by omega, rfl⟩
  rw [hu] at HS
  rw [hv]
  clear hu hv hT hrK hr
  go_enter Tryz.func135, Tryz.ntmps135
  have hz := (Lies.new W 66 (feA r)).alloc (.cells fe0A 66)
  have hr : Lies ((W.alloc (.cells (feA r) 66)).alloc (.cells fe0A 66)) (W.heap.size + 1) 66 fe0A := heap_alloc2_new W _ _
  have hB := ((Below.refl W.heap.size W).alloc (Nat.le_refl _) (.cells (feA r) 66)).alloc (by simp) (.cells fe0A 66)
  go_upto_region 1 with fail
  generalize World.alloc (World.alloc W _) _ = w0 at *
  obtain ⟨a, b, c, d, ha, ha2, haK⟩ := word_low r
  have hz' := hz
  rw [ha] at hz'
  have c0 := hz'.cell 0
  clear hz'
  rcases hcase with ⟨h1, rfl⟩ | ⟨h1, rfl⟩
  · have ha1 : (a : Int) % 2 = 1 := by omega
    have cS := fun w (h : Below w0.heap.size w0 w) => HS.out w ((hT0.out.on hB).on h)
    clear HS h1 ha2 ha hT0
    go_upto_region 2 with fail
    refine wp_region_plain 3 (by kernel_rfl) (by kernel_rfl) ?_
    simp only [List.take_succ_cons, List.take_zero, List.drop_succ_cons, List.drop_zero]
    refine wpQB_call 96 #[.int .u64 0] (fe 0) rfl rfl (fun _ => by kernel_rfl) (fun w _ => HO w) ?_
    refine wpQB_fe W.heap.size r hz rfl ?_
    refine wpQB_call 95 #[fe 0, fe r] (fe v) rfl rfl (fun _ => by kernel_rfl) (fun w h => cS w h) ?_
    refine wpQB_nil ?_
    intro w1 hb
    replace hr := hr.on hb
    replace hB := below_on hB hb
    clear hb
    go_wp2_with ((with_reducible refine wpL_store (W.heap.size + 1) 66 _ (feA v) 4 rowFe rfl (feA_size _) (feA_one _) hr ?_ ?_ ?_); rfl; rfl)
    exact bodyPost_ret (results_row Tryz.results135 rowFe (feA_size _) (hr.row _) rfl) rfl ⟨rfl, below_rowSet hB (Nat.le_succ _) _⟩
  · have ha1 : (a : Int) % 2 = 0 := by omega
    clear HS h1 ha2 ha hT0 HO
    go_wp2_with (first
      | ((with_reducible refine wpL_load W.heap.size 66 (feA v) 4 rowFe (feA_size _) hz ?_ ?_); rfl)
      | ((with_reducible refine wpL_store (W.heap.size + 1) 66 _ (feA v) 4 rowFe rfl (feA_size _) (feA_one _) hr ?_ ?_ ?_); rfl; rfl))
    exact bodyPost_ret (results_row Tryz.results135 rowFe (feA_size _) (hr.row _) rfl) rfl ⟨rfl, below_rowSet hB (Nat.le_succ _) _⟩
end Go.Proofs.YtdjglghecekeoaaGreatDoor.F

/- The contract of the program's ones. -/
namespace Go.Proofs.YtdjglghecekeoaaGreatDoor.F
set_option maxRecDepth 100000
open Go.RowKit Go.Sort
attribute [local irreducible] feA
theorem alloc_fe {o : Oper} (h : o.op = .alloc 66) (a : Act) (w : World) : (execOp a.eval o).run Tryz.prog w = .ok (.value (.pointer (some ⟨w.heap.size, 0, none⟩))) (w.alloc (.cells fe0A 66)) := by
  unfold execOp
  rw [h]
  kernel_rfl
theorem half_i64 (n : Nat) : Int.tdiv (n : Int) 2 = ((n / 2 : Nat) : Int) := by
  rw [Int.tdiv_eq_ediv_of_nonneg (by omega)]
  omega

set_option maxRecDepth 100000 in
set_option maxHeartbeats 1600000 in
theorem ones_any (n : Nat) : ∀ (x : Nat) (W : World), 1 ≤ n → n ≤ 1000 → x < K256 → Tab W →
    Calls Tryz.prog 155 #[fe x, .int .i64 (n : Int)] W fun e w' => e = .returned (fe (onesN x n)) ∧ Below W.heap.size W w' := by
  induction n using Nat.strongRecOn with
  | _ n ih =>
    intro x W h1 hn hx hT
    have hT0 := Lib.hid hT
    clear hT
    by_cases hone : n = 1
    · subst hone
      clear ih
      go_enter Tryz.func155, Tryz.ntmps155
      have hz := (Lies.new W 66 (feA x)).alloc (.cells fe0A 66)
      have hr : Lies ((W.alloc (.cells (feA x) 66)).alloc (.cells fe0A 66)) (W.heap.size + 1) 66 fe0A := heap_alloc2_new W _ _
      have hB := ((Below.refl W.heap.size W).alloc (Nat.le_refl _) (.cells (feA x) 66)).alloc (by simp) (.cells fe0A 66)
      go_upto_region 1 with fail
      generalize World.alloc (World.alloc W _) _ = w0 at *
      go_wp2_with (first
        | ((with_reducible refine wpL_load W.heap.size 66 (feA x) 4 rowFe (feA_size _) hz ?_ ?_); rfl)
        | ((with_reducible refine wpL_store (W.heap.size + 1) 66 _ (feA x) 4 rowFe rfl (feA_size _) (feA_one _) hr ?_ ?_ ?_); rfl; rfl))
      exact bodyPost_ret (results_row Tryz.results155 rowFe (feA_size _) (hr.row _) rfl) rfl ⟨rfl, below_rowSet hB (Nat.le_succ _) _⟩
    · obtain ⟨h, hh⟩ : ∃ h, n / 2 = h := ⟨_, rfl⟩
      have hq := half_i64 n
      have hq2 : (n : Int) / 2 = (h : Int) := by omega
      rw [hh] at hq
      have hq3 : IntKind.i64.wrap (h : Int) = (h : Int) := by rw [IntWalk.i64_in _ (by omega)]
      have hh1 : 1 ≤ h := by omega
      have hH := onesN_lt x h hx
      have HO := Lib.hid (fun w hT => ih h (by omega) x w hh1 (by omega) hx hT)
      have HS := Lib.hid (fun w hT => squared_any (onesN x h) h w hH (by omega) hT)
      have hS := sqL_lt (onesN x h) h hH
      have HM := Lib.hid (fun w hT => mul_any (sqL (onesN x h) h) (onesN x h) w hS hH hT)
      rw [onesN_even x h hh1] at HM
      have hE := onesN_lt x (2 * h) hx
      have HSt := Lib.hid (fun w hT => squared_any (onesN x (2 * h)) 1 w hE (by decide) hT)
      have hQ := sqL_lt (onesN x (2 * h)) 1 hE
      have HMo := Lib.hid (fun w hT => mul_any (sqL (onesN x (2 * h)) 1) x w hQ hx hT)
      rw [onesN_odd x h hh1] at HMo
      have hpar : (n % 2 = 1 ∧ n = 2 * h + 1) ∨ (n % 2 = 0 ∧ n = 2 * h) := by omega
      have HP : Hid ((n % 2 = 1 ∧ onesN x n = onesN x (2 * h + 1)) ∨ (n % 2 = 0 ∧ onesN x n = onesN x (2 * h))) := Lib.hid (by
        rcases hpar with ⟨a, b⟩ | ⟨a, b⟩
        · exact .inl ⟨a, by rw [← b]⟩
        · exact .inr ⟨a, by rw [← b]⟩)
      clear ih hpar hS hH hE hQ hh
      generalize onesN x (2 * h + 1) = vo at *
      generalize sqL (onesN x (2 * h)) 1 = q at *
      generalize onesN x (2 * h) = ve at *
      generalize sqL (onesN x h) h = s at *
      generalize onesN x h = vh at *
      generalize onesN x n = vn at *
      have hone' : ¬ (n : Int) = 1 := by omega
      go_enter Tryz.func155, Tryz.ntmps155
      have hz := (Lies.new W 66 (feA x)).alloc (.cells fe0A 66)
      have hr : Lies ((W.alloc (.cells (feA x) 66)).alloc (.cells fe0A 66)) (W.heap.size + 1) 66 fe0A := heap_alloc2_new W _ _
      have hB := ((Below.refl W.heap.size W).alloc (Nat.le_refl _) (.cells (feA x) 66)).alloc (by simp) (.cells fe0A 66)
      go_upto_region 1 with fail
      generalize World.alloc (World.alloc W _) _ = w0 at *
      have hT := hT0.out.on hB
      go_upto_region 4 with (first
        | ((with_reducible refine wpL_load W.heap.size 66 (feA x) 4 rowFe (feA_size _) hz ?_ ?_); rfl)
        | (go_at_call 155; refine (HO.out _ hT).mono ?_; rintro e w1 ⟨rfl, hb⟩; replace hz := hz.on hb; replace hr := hr.on hb; replace hT := hT.on hb; replace hB := below_on hB hb; clear hb)
        | ((with_reducible refine wpL_store w1.heap.size 66 _ (feA vh) 4 rowFe ?_ (feA_size _) (feA_one _) (Lies.new w1 _ _) ?_ ?_ ?_); rfl; rfl; rfl))
      have hy := newly_lies w1 66 fe0A (feA vh)
      have hnw := newly w1 (.cells fe0A 66) (feA vh)
      replace hz := hz.on hnw
      replace hr := hr.on hnw
      replace hT := hT.on hnw
      replace hB := below_on hB hnw
      clear hnw HO
      generalize World.setRow _ _ _ = w2 at *
      generalize w1.heap.size = gh at *
      refine wp_region_made 6 6 _ 66 fe0A rfl rfl (by kernel_rfl) (by kernel_rfl) (alloc_fe rfl) ?_
      simp only [List.take_succ_cons, List.take_zero, List.drop_succ_cons, List.drop_zero]
      refine wpQB_fe gh vh hy rfl ?_
      simp only [Act.put, List.setIfInBounds_toArray, List.set_cons_succ, List.set_cons_zero]
      refine wpQB_move ?_
      simp only [Act.put, List.setIfInBounds_toArray, List.set_cons_succ, List.set_cons_zero]
      refine wpQB_run (.int .i64 (h : Int)) rfl (fun w _ => ?_) ?_
      · simp [go_sem, hq, hq3]
      simp only [Act.put, List.setIfInBounds_toArray, List.set_cons_succ, List.set_cons_zero]
      refine wpQB_call 134 #[fe vh, .int .i64 (h : Int)] (fe s) rfl rfl (fun _ => by kernel_rfl) (fun w hb => HS.out w (hT.on hb)) ?_
      simp only [Act.put, List.setIfInBounds_toArray, List.set_cons_succ, List.set_cons_zero]
      refine wpQB_fe gh vh hy rfl ?_
      simp only [Act.put, List.setIfInBounds_toArray, List.set_cons_succ, List.set_cons_zero]
      refine wpQB_call 94 #[fe s, fe vh] (fe ve) rfl rfl (fun _ => by kernel_rfl) (fun w hb => HM.out w (hT.on hb)) ?_
      simp only [Act.put, List.setIfInBounds_toArray, List.set_cons_succ, List.set_cons_zero]
      refine wpQB_nil ?_
      intro k w3 hb hk hy3
      simp only [List.setIfInBounds_toArray, List.set_cons_succ, List.set_cons_zero]
      replace hy3 : Lies w3 k 66 fe0A := hy3
      have hzl := hz.lt
      have hrl := hr.lt
      replace hz := (hz.on hb).rowFar (show W.heap.size ≠ k by omega) (feA ve)
      replace hr := (hr.on hb).rowFar (show W.heap.size + 1 ≠ k by omega) (feA ve)
      replace hB := below_rowSet (below_on hB hb) (show W.heap.size ≤ k by omega) (feA ve)
      replace hT := hT0.out.on hB
      have hv := hy3.row (feA ve)
      clear hb HS HM hy
      go_upto_region 5 with ((with_reducible refine wpL_store k 66 _ (feA ve) 4 rowFe rfl (feA_size _) (feA_one _) hy3 ?_ ?_ ?_); rfl; rfl)
      clear hy3
      generalize World.setRow _ _ _ = w4 at *
      rcases HP.out with ⟨hodd, rfl⟩ | ⟨heven, rfl⟩
      · have ho2 : (n : Int) % 2 = 1 := by omega
        go_upto_region 6 with fail
        refine wp_region_plain 4 (by kernel_rfl) (by kernel_rfl) ?_
        simp only [List.take_succ_cons, List.take_zero, List.drop_succ_cons, List.drop_zero]
        refine wpQB_fe k ve hv rfl ?_
        simp only [Act.put, List.setIfInBounds_toArray, List.set_cons_succ, List.set_cons_zero]
        refine wpQB_call 134 #[fe ve, .int .i64 1] (fe q) rfl rfl (fun _ => by kernel_rfl) (fun w hb => HSt.out w (hT.on hb)) ?_
        simp only [Act.put, List.setIfInBounds_toArray, List.set_cons_succ, List.set_cons_zero]
        refine wpQB_fe W.heap.size x hz rfl ?_
        simp only [Act.put, List.setIfInBounds_toArray, List.set_cons_succ, List.set_cons_zero]
        refine wpQB_call 94 #[fe q, fe x] (fe vn) rfl rfl (fun _ => by kernel_rfl) (fun w hb => HMo.out w (hT.on hb)) ?_
        simp only [Act.put, List.setIfInBounds_toArray, List.set_cons_succ, List.set_cons_zero]
        refine wpQB_nil ?_
        intro w5 hb
        replace hv := hv.on hb
        replace hr := hr.on hb
        replace hB := below_on hB hb
        clear hb
        go_upto_region 7 with ((with_reducible refine wpL_store k 66 _ (feA vn) 4 rowFe (feA_size _) (feA_size _) (feA_one _) hv ?_ ?_ ?_); rfl; rfl)
        replace hv := hv.row (feA vn)
        replace hr := hr.rowFar (show W.heap.size + 1 ≠ k by omega) (feA vn)
        replace hB := below_rowSet hB (show W.heap.size ≤ k by omega) (feA vn)
        generalize World.setRow _ _ _ = w6 at *
        go_wp2_with (first
          | ((with_reducible refine wpL_load k 66 (feA vn) 4 rowFe (feA_size _) hv ?_ ?_); rfl)
          | ((with_reducible refine wpL_store (W.heap.size + 1) 66 _ (feA vn) 4 rowFe rfl (feA_size _) (feA_one _) hr ?_ ?_ ?_); rfl; rfl))
        exact bodyPost_ret (results_row Tryz.results155 rowFe (feA_size _) (hr.row _) rfl) rfl ⟨rfl, below_rowSet hB (Nat.le_succ _) _⟩
      · have ho2 : (n : Int) % 2 = 0 := by omega
        go_wp2_with (first
          | ((with_reducible refine wpL_load k 66 (feA vn) 4 rowFe (feA_size _) hv ?_ ?_); rfl)
          | ((with_reducible refine wpL_store (W.heap.size + 1) 66 _ (feA vn) 4 rowFe rfl (feA_size _) (feA_one _) hr ?_ ?_ ?_); rfl; rfl))
        exact bodyPost_ret (results_row Tryz.results155 rowFe (feA_size _) (hr.row _) rfl) rfl ⟨rfl, below_rowSet hB (Nat.le_succ _) _⟩

end Go.Proofs.YtdjglghecekeoaaGreatDoor.F

/- The contracts of the program's power and Inv. -/
namespace Go.Proofs.YtdjglghecekeoaaGreatDoor.F
set_option maxRecDepth 100000
open Go.RowKit Go.Sort
attribute [local irreducible] feA
set_option maxRecDepth 100000 in
set_option maxHeartbeats 800000 in
theorem power_any (x : Nat) (W : World) (hx : x < K256) (hT : Tab W) :
    Calls Tryz.prog 133 #[fe x] W fun e w' => e = .returned (fe (powN x eP)) ∧ Below W.heap.size W w' := by
  have HO : Hid (∀ w, Tab w → Calls Tryz.prog 155 #[fe x, .int .i64 250] w fun e w' => e = .returned (fe (onesN x 250)) ∧ Below w.heap.size w w') := Lib.hid (fun w hT => ones_any 250 x w (by decide) (by decide) hx hT)
  have hH := onesN_lt x 250 hx
  have HS : Hid (∀ w, Tab w → Calls Tryz.prog 134 #[fe (onesN x 250), .int .i64 2] w fun e w' => e = .returned (fe (sqL (onesN x 250) 2)) ∧ Below w.heap.size w w') := Lib.hid (fun w hT => squared_any (onesN x 250) 2 w hH (by decide) hT)
  have HM := Lib.hid (fun w hT => mul_any (sqL (onesN x 250) 2) x w (sqL_lt _ 2 hH) hx hT)
  rw [power_eq] at HM
  generalize powN x eP = v at *
  generalize sqL (onesN x 250) 2 = s at *
  generalize onesN x 250 = u at *
  go_enter Tryz.func133, Tryz.ntmps133
  have hz := (Lies.new W 66 (feA x)).alloc (.cells fe0A 66)
  have hr : Lies ((W.alloc (.cells (feA x) 66)).alloc (.cells fe0A 66)) (W.heap.size + 1) 66 fe0A := heap_alloc2_new W _ _
  have hB := ((Below.refl W.heap.size W).alloc (Nat.le_refl _) (.cells (feA x) 66)).alloc (by simp) (.cells fe0A 66)
  go_upto_region 1 with fail
  generalize World.alloc (World.alloc W _) _ = w0 at *
  replace hT := hT.on hB
  refine wp_region_plain 5 (by kernel_rfl) (by kernel_rfl) ?_
  simp only [List.take_succ_cons, List.take_zero, List.drop_succ_cons, List.drop_zero]
  refine wpQB_fe W.heap.size x hz rfl ?_
  simp only [Act.put, List.setIfInBounds_toArray, List.set_cons_succ, List.set_cons_zero]
  refine wpQB_call 155 #[fe x, .int .i64 250] (fe u) rfl rfl (fun _ => by kernel_rfl) (fun w hb => HO.out w (hT.on hb)) ?_
  simp only [Act.put, List.setIfInBounds_toArray, List.set_cons_succ, List.set_cons_zero]
  refine wpQB_call 134 #[fe u, .int .i64 2] (fe s) rfl rfl (fun _ => by kernel_rfl) (fun w hb => HS.out w (hT.on hb)) ?_
  simp only [Act.put, List.setIfInBounds_toArray, List.set_cons_succ, List.set_cons_zero]
  refine wpQB_fe W.heap.size x hz rfl ?_
  simp only [Act.put, List.setIfInBounds_toArray, List.set_cons_succ, List.set_cons_zero]
  refine wpQB_call 94 #[fe s, fe x] (fe v) rfl rfl (fun _ => by kernel_rfl) (fun w hb => HM.out w (hT.on hb)) ?_
  simp only [Act.put, List.setIfInBounds_toArray, List.set_cons_succ, List.set_cons_zero]
  refine wpQB_nil ?_
  intro w1 hb
  replace hr := hr.on hb
  replace hB := below_on hB hb
  clear hb hT
  go_wp2_with ((with_reducible refine wpL_store (W.heap.size + 1) 66 _ (feA v) 4 rowFe rfl (feA_size _) (feA_one _) hr ?_ ?_ ?_); rfl; rfl)
  exact bodyPost_ret (results_row Tryz.results133 rowFe (feA_size _) (hr.row _) rfl) rfl ⟨rfl, below_rowSet hB (Nat.le_succ _) _⟩

set_option maxRecDepth 100000 in
set_option maxHeartbeats 800000 in
theorem inv_any (x : Nat) (W : World) (hx : x < K256) (hT : Tab W) :
    Calls Tryz.prog 99 #[fe x] W fun e w' => e = .returned (fe (invN x)) ∧ Below W.heap.size W w' := by
  have HP := Lib.hid (fun w hT => power_any x w hx hT)
  have hP := below_K (powN_lt x eP)
  have HS3 : Hid (∀ w, Tab w → Calls Tryz.prog 134 #[fe (powN x eP), .int .i64 3] w fun e w' => e = .returned (fe (sqL (powN x eP) 3)) ∧ Below w.heap.size w w') := Lib.hid (fun w hT => squared_any (powN x eP) 3 w hP (by decide) hT)
  have HS1 : Hid (∀ w, Tab w → Calls Tryz.prog 134 #[fe x, .int .i64 1] w fun e w' => e = .returned (fe (sqL x 1)) ∧ Below w.heap.size w w') := Lib.hid (fun w hT => squared_any x 1 w hx (by decide) hT)
  have HM1 := Lib.hid (fun w hT => mul_any x (sqL x 1) w hx (sqL_lt x 1 hx) hT)
  have HM2 := Lib.hid (fun w hT => mul_any (sqL (powN x eP) 3) (x * sqL x 1 % p25) w (sqL_lt _ 3 hP) (mod_K _) hT)
  rw [inv_eq] at HM2
  generalize invN x = v at *
  generalize x * sqL x 1 % p25 = m at *
  generalize sqL (powN x eP) 3 = s3 at *
  generalize sqL x 1 = s1 at *
  generalize powN x eP = p at *
  go_enter Tryz.func99, Tryz.ntmps99
  have hz := (Lies.new W 66 (feA x)).alloc (.cells fe0A 66)
  have hr : Lies ((W.alloc (.cells (feA x) 66)).alloc (.cells fe0A 66)) (W.heap.size + 1) 66 fe0A := heap_alloc2_new W _ _
  have hB := ((Below.refl W.heap.size W).alloc (Nat.le_refl _) (.cells (feA x) 66)).alloc (by simp) (.cells fe0A 66)
  go_upto_region 1 with fail
  generalize World.alloc (World.alloc W _) _ = w0 at *
  replace hT := hT.on hB
  refine wp_region_plain 8 (by kernel_rfl) (by kernel_rfl) ?_
  simp only [List.take_succ_cons, List.take_zero, List.drop_succ_cons, List.drop_zero]
  refine wpQB_fe W.heap.size x hz rfl ?_
  simp only [Act.put, List.setIfInBounds_toArray, List.set_cons_succ, List.set_cons_zero]
  refine wpQB_call 133 #[fe x] (fe p) rfl rfl (fun _ => by kernel_rfl) (fun w hb => HP.out w (hT.on hb)) ?_
  simp only [Act.put, List.setIfInBounds_toArray, List.set_cons_succ, List.set_cons_zero]
  refine wpQB_call 134 #[fe p, .int .i64 3] (fe s3) rfl rfl (fun _ => by kernel_rfl) (fun w hb => HS3.out w (hT.on hb)) ?_
  simp only [Act.put, List.setIfInBounds_toArray, List.set_cons_succ, List.set_cons_zero]
  refine wpQB_fe W.heap.size x hz rfl ?_
  simp only [Act.put, List.setIfInBounds_toArray, List.set_cons_succ, List.set_cons_zero]
  refine wpQB_fe W.heap.size x hz rfl ?_
  simp only [Act.put, List.setIfInBounds_toArray, List.set_cons_succ, List.set_cons_zero]
  refine wpQB_call 134 #[fe x, .int .i64 1] (fe s1) rfl rfl (fun _ => by kernel_rfl) (fun w hb => HS1.out w (hT.on hb)) ?_
  simp only [Act.put, List.setIfInBounds_toArray, List.set_cons_succ, List.set_cons_zero]
  refine wpQB_call 94 #[fe x, fe s1] (fe m) rfl rfl (fun _ => by kernel_rfl) (fun w hb => HM1.out w (hT.on hb)) ?_
  simp only [Act.put, List.setIfInBounds_toArray, List.set_cons_succ, List.set_cons_zero]
  refine wpQB_call 94 #[fe s3, fe m] (fe v) rfl rfl (fun _ => by kernel_rfl) (fun w hb => HM2.out w (hT.on hb)) ?_
  simp only [Act.put, List.setIfInBounds_toArray, List.set_cons_succ, List.set_cons_zero]
  refine wpQB_nil ?_
  intro w1 hb
  replace hr := hr.on hb
  replace hB := below_on hB hb
  clear hb hT
  go_wp2_with ((with_reducible refine wpL_store (W.heap.size + 1) 66 _ (feA v) 4 rowFe rfl (feA_size _) (feA_one _) hr ?_ ?_ ?_); rfl; rfl)
  exact bodyPost_ret (results_row Tryz.results99 rowFe (feA_size _) (hr.row _) rfl) rfl ⟨rfl, below_rowSet hB (Nat.le_succ _) _⟩
end Go.Proofs.YtdjglghecekeoaaGreatDoor.F

/- The contract of the program's Sqrt. -/
namespace Go.Proofs.YtdjglghecekeoaaGreatDoor.F
set_option maxRecDepth 100000
open Go.RowKit Go.Sort
attribute [local irreducible] feA
theorem fe0A_one : Ones fe0A := by unfold Ones; simp [Value.oneCell']
/-- two numbers are compared, as an operation -/
theorem neq_exec {o : Oper} {a : Act} {x y : Operand} {r : TypeId} (ho : o.op = .binOp .neq 66 x y r) (m n : Nat) (hm : m < K256) (hn : n < K256) (hx : a.eval x = fe m) (hy : a.eval y = fe n) (w : World) :
    (execOp a.eval o).run Tryz.prog w = .ok (.value (.bool (!decide (m = n)))) w := by
  unfold execOp
  simp only [ho, hx, hy, Sem.run_bind, run_eqGuard_agg (hm := Tryz.eqGuardType66), Result.andThen_ok, neq_fe m n hm hn, Sem.run_pure]
theorem sqrt_cases (x : Nat) :
    (rootC x * rootC x % p25 = x % p25 ∧ sqrtR x = evN (rootC x) ∧ sqrtB x = true) ∨
    (rootC x * rootC x % p25 ≠ x % p25 ∧ rootD x * rootD x % p25 = x % p25 ∧ sqrtR x = evN (rootD x) ∧ sqrtB x = true) ∨
    (rootC x * rootC x % p25 ≠ x % p25 ∧ rootD x * rootD x % p25 ≠ x % p25 ∧ sqrtR x = 0 ∧ sqrtB x = false) := by
  unfold sqrtR sqrtB
  by_cases h1 : rootC x * rootC x % p25 = x % p25
  · left
    rw [if_pos h1, decide_eq_true h1]
    exact ⟨h1, rfl, rfl⟩
  · by_cases h2 : rootD x * rootD x % p25 = x % p25
    · right; left
      rw [if_neg h1, if_pos h2, decide_eq_true h2, Bool.or_true]
      exact ⟨h1, h2, rfl, rfl⟩
    · right; right
      rw [if_neg h1, if_neg h2, decide_eq_false h1, decide_eq_false h2]
      exact ⟨h1, h2, rfl, rfl⟩

set_option maxRecDepth 100000 in
set_option maxHeartbeats 1600000 in
theorem sqrt_any (x : Nat) (W : World) (hx : x < K256) (hT : Tab2 W) :
    Calls Tryz.prog 98 #[fe x] W fun e w' => e = .returned (.tuple #[fe (sqrtR x), .bool (sqrtB x)]) ∧ Below W.heap.size W w' := by
  have hT0 := Lib.hid hT
  have HP := Lib.hid (fun w hT => power_any x w hx hT)
  have HMC : Hid (∀ w, Tab w → Calls Tryz.prog 94 #[fe x, fe (powN x eP)] w fun e w' => e = .returned (fe (rootC x)) ∧ Below w.heap.size w w') := Lib.hid (fun w hT => mul_any x (powN x eP) w hx (below_K (powN_lt _ _)) hT)
  have HSC : Hid (∀ w, Tab w → Calls Tryz.prog 134 #[fe (rootC x), .int .i64 1] w fun e w' => e = .returned (fe (rootC x * rootC x % p25)) ∧ Below w.heap.size w w') := Lib.hid (fun w hT => by rw [← sqL_one]; exact squared_any (rootC x) 1 w (below_K (rootC_lt x)) (by decide) hT)
  have HL := Lib.hid (fun w hT => least_any x w hx hT)
  have HMD : Hid (∀ w, Tab w → Calls Tryz.prog 94 #[fe (rootC x), fe i25] w fun e w' => e = .returned (fe (rootD x)) ∧ Below w.heap.size w w') := Lib.hid (fun w hT => mul_any (rootC x) i25 w (below_K (rootC_lt x)) (by decide) hT)
  have HSD : Hid (∀ w, Tab w → Calls Tryz.prog 134 #[fe (rootD x), .int .i64 1] w fun e w' => e = .returned (fe (rootD x * rootD x % p25)) ∧ Below w.heap.size w w') := Lib.hid (fun w hT => by rw [← sqL_one]; exact squared_any (rootD x) 1 w (below_K (rootD_lt x)) (by decide) hT)
  have HEC := Lib.hid (fun w hT => even_any (rootC x) w (rootC_lt x) hT)
  have HED := Lib.hid (fun w hT => even_any (rootD x) w (rootD_lt x) hT)
  have hcase := sqrt_cases x
  have hCC := mod_K (rootC x * rootC x)
  have hDD := mod_K (rootD x * rootD x)
  have hE := mod_K x
  obtain ⟨vi, hvi⟩ : ∃ vi, i25 = vi := ⟨_, rfl⟩
  have hTR : Hid (∀ w, Tab2 w → w.rangeAt 6 0 (feA vi).toList) := Lib.hid (fun w h => by rw [← hvi]; exact h.2.root)
  rw [hvi] at HMD
  clear hvi hT hx
  generalize sqrtR x = R at *
  generalize sqrtB x = B at *
  generalize rootD x * rootD x % p25 = DD at *
  generalize rootC x * rootC x % p25 = CC at *
  generalize evN (rootC x) = eC at *
  generalize evN (rootD x) = eD at *
  generalize x % p25 = E at *
  generalize powN x eP = p at *
  generalize rootC x = C at *
  generalize rootD x = D at *
  go_enter Tryz.func98, Tryz.ntmps98
  have hz := (Lies.new W 66 (feA x)).alloc (.cells fe0A 66)
  have hr : Lies ((W.alloc (.cells (feA x) 66)).alloc (.cells fe0A 66)) (W.heap.size + 1) 66 fe0A := heap_alloc2_new W _ _
  have hB := ((Below.refl W.heap.size W).alloc (Nat.le_refl _) (.cells (feA x) 66)).alloc (by simp) (.cells fe0A 66)
  go_upto_region 1 with fail
  generalize World.alloc (World.alloc W _) _ = w0 at *
  have hT := (hT0.out.on hB).1
  refine wp_region_made 4 4 _ 66 fe0A rfl rfl (by kernel_rfl) (by kernel_rfl) (alloc_fe rfl) ?_
  simp only [List.take_succ_cons, List.take_zero, List.drop_succ_cons, List.drop_zero]
  refine wpQB_fe W.heap.size x hz rfl ?_
  simp only [Act.put, List.setIfInBounds_toArray, List.set_cons_succ, List.set_cons_zero]
  refine wpQB_fe W.heap.size x hz rfl ?_
  simp only [Act.put, List.setIfInBounds_toArray, List.set_cons_succ, List.set_cons_zero]
  refine wpQB_call 133 #[fe x] (fe p) rfl rfl (fun _ => by kernel_rfl) (fun w hb => HP.out w (hT.on hb)) ?_
  simp only [Act.put, List.setIfInBounds_toArray, List.set_cons_succ, List.set_cons_zero]
  refine wpQB_call 94 #[fe x, fe p] (fe C) rfl rfl (fun _ => by kernel_rfl) (fun w hb => HMC.out w (hT.on hb)) ?_
  simp only [Act.put, List.setIfInBounds_toArray, List.set_cons_succ, List.set_cons_zero]
  refine wpQB_nil ?_
  intro k w3 hb hk hy3
  simp only [List.setIfInBounds_toArray, List.set_cons_succ, List.set_cons_zero]
  replace hy3 : Lies w3 k 66 fe0A := hy3
  have hzl := hz.lt
  have hrl := hr.lt
  replace hz := (hz.on hb).rowFar (show W.heap.size ≠ k by omega) (feA C)
  replace hr := (hr.on hb).rowFar (show W.heap.size + 1 ≠ k by omega) (feA C)
  replace hB := below_rowSet (below_on hB hb) (show W.heap.size ≤ k by omega) (feA C)
  have hv := hy3.row (feA C)
  clear hb HP HMC hT
  go_upto_region 2 with ((with_reducible refine wpL_store k 66 _ (feA C) 4 rowFe rfl (feA_size _) (feA_one _) hy3 ?_ ?_ ?_); rfl; rfl)
  clear hy3
  generalize World.setRow _ _ _ = w4 at *
  have hT := (hT0.out.on hB).1
  refine wp_region_all (by kernel_rfl) (by kernel_rfl) ?_
  refine wpQB_fe k C hv rfl ?_
  simp only [Act.put, List.setIfInBounds_toArray, List.set_cons_succ, List.set_cons_zero]
  refine wpQB_call 134 #[fe C, .int .i64 1] (fe CC) rfl rfl (fun _ => by kernel_rfl) (fun w hb => HSC.out w (hT.on hb)) ?_
  simp only [Act.put, List.setIfInBounds_toArray, List.set_cons_succ, List.set_cons_zero]
  refine wpQB_fe W.heap.size x hz rfl ?_
  simp only [Act.put, List.setIfInBounds_toArray, List.set_cons_succ, List.set_cons_zero]
  refine wpQB_call 93 #[fe x] (fe E) rfl rfl (fun _ => by kernel_rfl) (fun w hb => HL.out w (hT.on hb)) ?_
  simp only [Act.put, List.setIfInBounds_toArray, List.set_cons_succ, List.set_cons_zero]
  refine wpQB_run (.bool (!decide (CC = E))) rfl (fun w _ => neq_exec rfl CC E hCC hE rfl rfl w) ?_
  simp only [Act.put, List.setIfInBounds_toArray, List.set_cons_succ, List.set_cons_zero]
  refine wpQB_nil ?_
  intro w5 hb
  replace hv := hv.on hb
  replace hz := hz.on hb
  replace hr := hr.on hb
  replace hB := below_on hB hb
  clear hb hT
  rcases hcase with ⟨hC, rfl, rfl⟩ | hcase
  · rw [decide_eq_true hC]
    subst hC
    have hT := (hT0.out.on hB).1
    go_upto_region 4 with fail
    refine wp_region_all (by kernel_rfl) (by kernel_rfl) ?_
    refine wpQB_fe k C hv rfl ?_
    simp only [Act.put, List.setIfInBounds_toArray, List.set_cons_succ, List.set_cons_zero]
    refine wpQB_call 134 #[fe C, .int .i64 1] (fe CC) rfl rfl (fun _ => by kernel_rfl) (fun w hb => HSC.out w (hT.on hb)) ?_
    simp only [Act.put, List.setIfInBounds_toArray, List.set_cons_succ, List.set_cons_zero]
    refine wpQB_fe W.heap.size x hz rfl ?_
    simp only [Act.put, List.setIfInBounds_toArray, List.set_cons_succ, List.set_cons_zero]
    refine wpQB_call 93 #[fe x] (fe CC) rfl rfl (fun _ => by kernel_rfl) (fun w hb => HL.out w (hT.on hb)) ?_
    simp only [Act.put, List.setIfInBounds_toArray, List.set_cons_succ, List.set_cons_zero]
    refine wpQB_run (.bool false) rfl (fun w _ => (neq_exec rfl CC CC hCC hCC rfl rfl w).trans (by rw [decide_eq_true rfl]; rfl)) ?_
    simp only [Act.put, List.setIfInBounds_toArray, List.set_cons_succ, List.set_cons_zero]
    refine wpQB_nil ?_
    intro w6 hb
    replace hv := hv.on hb
    replace hr := hr.on hb
    replace hT := hT.on hb
    replace hB := below_on hB hb
    clear hb
    go_wp2_with (first
      | ((with_reducible refine wpL_load k 66 (feA C) 4 rowFe (feA_size _) hv ?_ ?_); rfl)
      | (go_at_call 135; refine (HEC.out _ hT).mono ?_; rintro e w7 ⟨rfl, hb⟩; replace hr := hr.on hb; replace hB := below_on hB hb; clear hb)
      | ((with_reducible refine wpL_store (W.heap.size + 1) 66 _ (feA R) 4 rowFe rfl (feA_size _) (feA_one _) hr ?_ ?_ ?_); rfl; rfl))
    exact bodyPost_ret (results_row_tmp Tryz.results98 rowFe (feA_size _) (hr.row _) rfl rfl) rfl ⟨rfl, below_rowSet hB (Nat.le_succ _) _⟩
  · have hC : CC ≠ E := by rcases hcase with h | h <;> exact h.1
    have HCase : Hid ((DD = E ∧ R = eD ∧ B = true) ∨ (DD ≠ E ∧ R = 0 ∧ B = false)) := Lib.hid (by rcases hcase with h | h; exact .inl h.2; exact .inr h.2)
    rw [decide_eq_false hC]
    clear hcase hC HSC HEC
    have hT := (hT0.out.on hB).1
    have hG := hTR.out _ (hT0.out.on hB)
    go_upto_region 4 with (first
      | ((with_reducible refine wpL_load k 66 (feA C) 4 rowFe (feA_size _) hv ?_ ?_); rfl)
      | ((with_reducible refine wpL_loadGlobal 6 0 (feA vi).toList 4 rowFe (by rw [Array.length_toList]; exact feA_size _) hG ?_ ?_); rfl; rw [Array.toArray_toList])
      | (go_at_call 94; refine (HMD.out _ hT).mono ?_; rintro e w6 ⟨rfl, hb⟩; replace hv := hv.on hb; replace hz := hz.on hb; replace hr := hr.on hb; replace hB := below_on hB hb; clear hb)
      | ((with_reducible refine wpL_store k 66 _ (feA D) 4 rowFe (feA_size _) (feA_size _) (feA_one _) hv ?_ ?_ ?_); rfl; rfl))
    clear hT hG
    replace hv := hv.row (feA D)
    replace hz := hz.rowFar (show W.heap.size ≠ k by omega) (feA D)
    replace hr := hr.rowFar (show W.heap.size + 1 ≠ k by omega) (feA D)
    replace hB := below_rowSet hB (show W.heap.size ≤ k by omega) (feA D)
    generalize World.setRow _ _ _ = w7 at *
    have hT := (hT0.out.on hB).1
    refine wp_region_all (by kernel_rfl) (by kernel_rfl) ?_
    refine wpQB_fe k D hv rfl ?_
    simp only [Act.put, List.setIfInBounds_toArray, List.set_cons_succ, List.set_cons_zero]
    refine wpQB_call 134 #[fe D, .int .i64 1] (fe DD) rfl rfl (fun _ => by kernel_rfl) (fun w hb => HSD.out w (hT.on hb)) ?_
    simp only [Act.put, List.setIfInBounds_toArray, List.set_cons_succ, List.set_cons_zero]
    refine wpQB_fe W.heap.size x hz rfl ?_
    simp only [Act.put, List.setIfInBounds_toArray, List.set_cons_succ, List.set_cons_zero]
    refine wpQB_call 93 #[fe x] (fe E) rfl rfl (fun _ => by kernel_rfl) (fun w hb => HL.out w (hT.on hb)) ?_
    simp only [Act.put, List.setIfInBounds_toArray, List.set_cons_succ, List.set_cons_zero]
    refine wpQB_run (.bool (!decide (DD = E))) rfl (fun w _ => neq_exec rfl DD E hDD hE rfl rfl w) ?_
    simp only [Act.put, List.setIfInBounds_toArray, List.set_cons_succ, List.set_cons_zero]
    refine wpQB_nil ?_
    intro w8 hb
    replace hv := hv.on hb
    replace hr := hr.on hb
    replace hT := hT.on hb
    replace hB := below_on hB hb
    clear hb
    rcases HCase.out with ⟨hD, rfl, rfl⟩ | ⟨hD, rfl, rfl⟩
    · rw [decide_eq_true hD]
      clear hD
      go_wp2_with (first
        | ((with_reducible refine wpL_load k 66 (feA D) 4 rowFe (feA_size _) hv ?_ ?_); rfl)
        | (go_at_call 135; refine (HED.out _ hT).mono ?_; rintro e w9 ⟨rfl, hb⟩; replace hr := hr.on hb; replace hB := below_on hB hb; clear hb)
        | ((with_reducible refine wpL_store (W.heap.size + 1) 66 _ (feA R) 4 rowFe rfl (feA_size _) (feA_one _) hr ?_ ?_ ?_); rfl; rfl))
      exact bodyPost_ret (results_row_tmp Tryz.results98 rowFe (feA_size _) (hr.row _) rfl rfl) rfl ⟨rfl, below_rowSet hB (Nat.le_succ _) _⟩
    · rw [decide_eq_false hD]
      clear hD
      go_wp2_with ((with_reducible refine wpL_store (W.heap.size + 1) 66 _ fe0A 4 rowFe rfl rfl fe0A_one hr ?_ ?_ ?_); rfl; rfl)
      exact bodyPost_ret (results_row_tmp Tryz.results98 rowFe rfl (hr.row fe0A) rfl rfl) rfl ⟨by rw [fe_word 0 (by decide)]; rfl, below_rowSet hB (Nat.le_succ _) _⟩
end Go.Proofs.YtdjglghecekeoaaGreatDoor.F

/- Points as values: four numbers, or two, one behind the other; their fields read in a region that draws its order; the contract of the reference's D. -/
namespace Go.Proofs.YtdjglghecekeoaaGreatDoor.C
open Go.RowKit Go.Sort Go.Proofs.YtdjglghecekeoaaGreatDoor.F
set_option maxRecDepth 100000

def ptA (u : N4) : Array Value := feA u.X ++ feA u.Y ++ feA u.Z ++ feA u.T
abbrev pt (u : N4) : Value := .agg (ptA u)
theorem ptA_size (u : N4) : (ptA u).size = 16 := rfl
theorem ones_append {a b : Array Value} (ha : Ones a) (hb : Ones b) : Ones (a ++ b) := by
  unfold Ones at *
  rw [Array.all_append, ha, hb]
  rfl
theorem ptA_one (u : N4) : Ones (ptA u) := ones_append (ones_append (ones_append (feA_one _) (feA_one _)) (feA_one _)) (feA_one _)
theorem rowPt : RowT Tryz.prog 68 16 := ⟨⟨_, Tryz.underlying68, rfl⟩, by kernel_rfl⟩
attribute [local irreducible] feA
theorem range_app {w : World} {g t o : Nat} {a b c : Array Value} (ho : a.size = o) (h : Lies w g t (a ++ b ++ c)) : w.rangeAt g o b.toList := fun j v hv => by
  subst ho
  have hj : j < b.size := by have := (List.getElem?_eq_some_iff.1 hv).1; rwa [Array.length_toList] at this
  rw [h.cell, Array.getElem?_append_left (by rw [Array.size_append]; omega), Array.getElem?_append_right (by omega), show a.size + j - a.size = j by omega]
  rwa [Array.getElem?_toList] at hv
section
variable {w : World} {g t : Nat}
theorem pt_X {u : N4} (h : Lies w g t (ptA u)) : w.rangeAt g 0 (feA u.X).toList :=
  range_app (a := #[]) (c := feA u.Y ++ feA u.Z ++ feA u.T) rfl (by unfold ptA at h; rw [Array.empty_append, ← Array.append_assoc, ← Array.append_assoc]; exact h)
theorem pt_Y {u : N4} (h : Lies w g t (ptA u)) : w.rangeAt g 4 (feA u.Y).toList :=
  range_app (a := feA u.X) (c := feA u.Z ++ feA u.T) (feA_size _) (by unfold ptA at h; rw [← Array.append_assoc]; exact h)
theorem pt_Z {u : N4} (h : Lies w g t (ptA u)) : w.rangeAt g 8 (feA u.Z).toList :=
  range_app (a := feA u.X ++ feA u.Y) (c := feA u.T) (by simp [feA_size]) h
theorem pt_T {u : N4} (h : Lies w g t (ptA u)) : w.rangeAt g 12 (feA u.T).toList :=
  range_app (a := feA u.X ++ feA u.Y ++ feA u.Z) (c := #[]) (by simp [feA_size]) (by rw [Array.append_empty]; exact h)
end

section
variable {w0 : World} {Q : Act → Prop} {a : Act} {rest : List Oper} {t' : TypeId} {pos : String} {after : Array Edge} {d : Option Tmp} {x : Operand}
/-- a number that is a field is read -/
theorem wpQB_mid (g o n : Nat) (hr : w0.rangeAt g o (feA n).toList) (hx : a.eval x = .pointer (some ⟨g, o, none⟩)) (h : wpQB Tryz.prog w0 Q rest (a.put d (fe n))) : wpQB Tryz.prog w0 Q (⟨d, .load 66 x, t', pos, after, none⟩ :: rest) a :=
  wpQB_run (fe n) rfl (fun w hw => by
    have hr' : w.rangeAt g o (feA n).toList := fun j v hv => by
      have h1 := hr j v hv
      exact (hw.cell (p := ⟨g, o + j, none⟩) (World.block_lt_of_cell? w0 _ h1)).trans h1
    unfold execOp
    simp only [hx, Instr.loadAt, Instr.sureAddr, Sem.run_bind, Sem.run_pure, Result.andThen_ok, run_loadVar_mid w g o 66 (feA n).toList _ hr' Tryz.underlying66 rfl (by rw [Array.length_toList, feA_size]; exact rowFe.2), Array.toArray_toList]) h
end

/-! ### the reference's Power and Inv -/
end Go.Proofs.YtdjglghecekeoaaGreatDoor.C

/- What the program's own variables hold while the points' functions are called. -/
namespace Go.Proofs.YtdjglghecekeoaaGreatDoor.C
open Go.RowKit Go.Proofs.YtdjglghecekeoaaGreatDoor.F

/-- a variable that holds a number -/
def VarN (g n : Nat) (w : World) : Prop := ∀ i, i < 4 → w.cell? ⟨g, i, none⟩ = some (w64 (wordN n i))
theorem VarN.on {g n : Nat} {w w' : World} (h : VarN g n w) (hb : Below w.heap.size w w') : VarN g n w' := fun i hi => by
  have h1 := h i hi
  exact (hb.cell (p := ⟨g, i, none⟩) (World.block_lt_of_cell? w _ h1)).trans h1
theorem VarN.root {g n : Nat} {w : World} (h : VarN g n w) : w.rangeAt g 0 (feA n).toList := fun j v hv => by
  rw [Nat.zero_add]
  rw [feA_words] at hv
  match j, hv with
  | 0, hv | 1, hv | 2, hv | 3, hv => exact (h _ (by decide)).trans hv
/-- the field's variable, and the points' own -/
def PtTab (w : World) : Prop := Tab w ∧ VarN 0 dN w ∧ VarN 3 bxN w ∧ VarN 4 byN w
theorem PtTab.on {w w' : World} (h : PtTab w) (hb : Below w.heap.size w w') : PtTab w' := ⟨h.1.on hb, h.2.1.on hb, h.2.2.1.on hb, h.2.2.2.on hb⟩
theorem PtTab.f {w : World} (h : PtTab w) : Tab w := h.1
/-- .. and the one that holds a root of -1 -/
def PtTab2 (w : World) : Prop := PtTab w ∧ TabR w
theorem PtTab2.on {w w' : World} (h : PtTab2 w) (hb : Below w.heap.size w w') : PtTab2 w' := ⟨h.1.on hb, h.2.on hb⟩
theorem PtTab2.f2 {w : World} (h : PtTab2 w) : Tab2 w := ⟨h.1.1, h.2⟩
end Go.Proofs.YtdjglghecekeoaaGreatDoor.C

/- What the points' functions keep, put together: the statements' walks take it. -/
namespace Go.Proofs.YtdjglghecekeoaaGreatDoor.C
open Go.RowKit Go.Sort Go.Proofs.YtdjglghecekeoaaGreatDoor.F
set_option maxRecDepth 100000

/-! ### numbers of a point -/
structure N4.Lt (u : N4) : Prop where
  X : u.X < K256
  Y : u.Y < K256
  Z : u.Z < K256
  T : u.T < K256
theorem p_K : p25 < K256 := by decide
theorem Pn.lt {u : N4} {P : Pt} (h : Pn u P) : u.Lt := ⟨Nat.lt_trans h.lX p_K, Nat.lt_trans h.lY p_K, Nat.lt_trans h.lZ p_K, Nat.lt_trans h.lT p_K⟩
/-- x and y by a division -/
def N4.of (u : N4) : Pt := ⟨z (u.X * invN u.Z % p25), z (u.Y * invN u.Z % p25)⟩
theorem Pn.of {u : N4} {P : Pt} (h : Pn u P) : u.of = P := by
  obtain ⟨a, b⟩ := h.affine
  unfold N4.of
  rw [a, b, z_back, z_back]
theorem Pn.right {u : N4} {P : Pt} (h : Pn u P) : u.right = true := (right_iff u).2 ⟨P, h⟩
def ptEq (P Q : Pt) : Bool := decide (P.x = Q.x) && decide (P.y = Q.y)
def N4.same (u v : N4) : Bool := u.right && v.right && ptEq u.of v.of
/-! ### zero, the base point, none -/
def zeroN : N4 := ⟨0, 1, 1, 0⟩
def baseN : N4 := ⟨bxN, byN, 1, bxN * byN % p25⟩
def noneN : N4 := ⟨0, 0, 0, 0⟩
theorem zero_pn : Pn zeroN Pt.zero := ⟨by decide, by decide, by decide, by decide, by rw [show z zeroN.X = 0 from z_zero, show z zeroN.Y = 1 from z_one, show z zeroN.Z = 1 from z_one]; exact Rep.zero, by
  rw [show z zeroN.X = 0 from z_zero, show z zeroN.Y = 1 from z_one, show z zeroN.Z = 1 from z_one, show z zeroN.T = 0 from z_zero]; grind, Pt.zero_on⟩
theorem one_pn {x y : Nat} (hx : x < p25) (hy : y < p25) (h : On (z x) (z y)) : Pn ⟨x, y, 1, x * y % p25⟩ ⟨z x, z y⟩ := ⟨hx, hy, (show 1 < p25 by decide), Nat.mod_lt _ p25_pos, by
  show Rep (z x) (z y) (z 1) ⟨z x, z y⟩
  rw [z_one]
  exact Rep.one ⟨z x, z y⟩, by
  show z x * z y = z 1 * z (x * y % p25)
  rw [z_mod, z_mul, z_one]
  grind, h⟩
theorem base_pn : Pn baseN Bp := one_pn (by decide) (by decide) Bp_on

/-! ### bytes -/
abbrev two255 : Nat := 57896044618658097711785492504343953926634992332820282019728792003956564819968
/-- a point's bytes: y's, the highest bit from x -/
def textN (P : Pt) : ByteArray := ⟨(leL (P.y.val + two255 * (P.x.val % 2)) 32).toArray⟩
/-- do these numbers tell a point? -/
def parseB (y : Nat) (odd : Bool) : Bool := decide (y < p25) && xB y && !(odd && decide (xE y = 0))
def parseN (y : Nat) (odd : Bool) : N4 := ⟨xOf y odd, y, 1, xOf y odd * y % p25⟩
section
variable {w0 : World} {ops : Array Oper} {Q : Act → Prop} {a : Act} {rest : List Oper} {t' : TypeId} {pos : String} {after : Array Edge} {gd : Option (Nat × Bool)} {d : Option Tmp} {x : Operand}
end

/-! ### what the points' functions keep -/
structure PointOk : Prop where
  zero : ∀ (w : World), PtTab w → Calls Tryz.prog 137 #[] w fun e w' => e = .returned (pt zeroN) ∧ Below w.heap.size w w'
  base : ∀ (w : World), PtTab w → Calls Tryz.prog 89 #[] w fun e w' => e = .returned (pt baseN) ∧ Below w.heap.size w w'
  add : ∃ f : N4 → N4 → N4, (∀ u v P Q, Pn u P → Pn v Q → Pn (f u v) (P.add Q)) ∧ ∀ (u v : N4) (w : World), u.Lt → v.Lt → PtTab w → Calls Tryz.prog 68 #[pt u, pt v] w fun e w' =>
    e = .returned (if (u.right && v.right) = true then .tuple #[pt (f u v), .int .i64 0] else .tuple #[pt noneN, .int .i64 1]) ∧ Below w.heap.size w w'
  neg : ∃ f : N4 → N4, (∀ u P, Pn u P → Pn (f u) P.neg) ∧ ∀ (u : N4) (w : World), u.Lt → PtTab w → Calls Tryz.prog 67 #[pt u] w fun e w' =>
    e = .returned (if u.right = true then .tuple #[pt (f u), .int .i64 0] else .tuple #[pt noneN, .int .i64 1]) ∧ Below w.heap.size w w'
  mul : ∃ f : Nat → N4 → N4, (∀ n u P, n < K256 → Pn u P → Pn (f n u) (P.smul n)) ∧ ∀ (n : Nat) (u : N4) (w : World), n < K256 → u.Lt → PtTab w → Calls Tryz.prog 66 #[fe n, pt u] w fun e w' =>
    e = .returned (if u.right = true then .tuple #[pt (f n u), .int .i64 0] else .tuple #[pt noneN, .int .i64 1]) ∧ Below w.heap.size w w'
  bytes : ∀ (u : N4) (w : World), u.Lt → PtTab w → Calls Tryz.prog 88 #[pt u] w fun e w' =>
    e = .returned (if u.right = true then .tuple #[.string (textN u.of), .int .i64 0] else .tuple #[.string ByteArray.empty, .int .i64 1]) ∧ Below w.heap.size w w'
  parse : ∀ (s : ByteArray) (w : World), s.size ≤ 140737488355328 → PtTab2 w → Calls Tryz.prog 40 #[.string s] w fun e w' =>
    e = .returned (if s.size = 32 then if parseB (numLE s.data.toList % two255) (decide (two255 ≤ numLE s.data.toList)) = true then .tuple #[pt (parseN (numLE s.data.toList % two255) (decide (two255 ≤ numLE s.data.toList))), .int .i64 0] else .tuple #[pt noneN, .int .i64 10] else .tuple #[pt noneN, .int .i64 1]) ∧ Below w.heap.size w w'
end Go.Proofs.YtdjglghecekeoaaGreatDoor.C

/- The scalars' own type of numbers, L, and the variable that holds it, beside the field's texts. -/
namespace Go.Proofs.YtdjglghecekeoaaGreatDoor.G
open Go.Proofs.YtdjglghecekeoaaGreatDoor.F
open Go.RowKit

theorem rowFe : RowT Tryz.prog 61 4 := ⟨⟨_, Tryz.underlying61, rfl⟩, by kernel_rfl⟩
/-- L, the order of the base point -/
def l25 : Nat := 7237005577332262213973186563042994240857116359379907606001950938285454250989
theorem l25_pos : 0 < l25 := by decide
theorem modL_K (n : Nat) : n % l25 < K256 := Nat.lt_trans (Nat.mod_lt _ l25_pos) (by decide)
/-- the variable that holds L does -/
def Tab (w : World) : Prop := ∀ i, i < 4 → w.cell? ⟨9, i, none⟩ = some (w64 (wordN l25 i))
theorem Tab.on {w w' : World} (h : Tab w) (hb : Below w.heap.size w w') : Tab w' := fun i hi => by
  have h1 := h i hi
  exact (hb.cell (p := ⟨9, i, none⟩) (World.block_lt_of_cell? w _ h1)).trans h1
end Go.Proofs.YtdjglghecekeoaaGreatDoor.G

/- The contracts of the reference's Power and Inv. -/
namespace Go.Proofs.YtdjglghecekeoaaGreatDoor.F
open Go.RowKit Go.Sort
set_option maxRecDepth 100000
attribute [local irreducible] feA
theorem pow_zero (x : Nat) : powN x 0 = 1 := by rw [powN_eq, Nat.pow_zero]; decide
theorem Dig.rowFar {w : World} {g o gy : Nat} {l : List Nat} (h : Dig w g o l) (hne : g ≠ gy) (cs : Array Value) : Dig (w.setRow gy cs) g o l := fun i hi => by
  have h1 := h i hi
  unfold World.cell? at *
  rw [setRow_other _ _ _ _ hne]
  exact h1

end Go.Proofs.YtdjglghecekeoaaGreatDoor.F

