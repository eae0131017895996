/- Texts that stand on one another, put together: Base, FMem, FFe, FTrim, FPlus, FWords, FTab, FRef, FLE, FOk, FPow, CSem, FLimbs, FMulMath. -/
import Derived.Test.YtmekmlgpkbfjpaaGreatDoorK1
import Derived.BigQuiet
import Derived.BigRegion
import Derived.Deep.AppendLies
import Derived.Deep.CutRange
import Derived.Deep.MidRow
import Derived.Deep.QuietTactic
import Derived.Deep.RegionWith
import Derived.Deep.WholeRow
import Derived.Laws.StructEq
import Derived.Lib.Hide
import Derived.Lib.QuietBelow
import Derived.Lib.Strings
import Derived.Test.YtmekmlgpkbfjpaaGreatDoorProg
import Derived.WalkKit
import Derived.WalkLawsBesides
import Derived.WalkSpells
/- Small facts that every walk wants: the byte type's row of the table; a slice of bytes that the call owns, turned into a string. -/
namespace Go.Proofs.YtmekmlgpkbfjpaaGreatDoor
open Go.RowKit

theorem val_int {k : IntKind} {a b : Int} (h : a = b) : Value.int k a = Value.int k b := by rw [h]
theorem val_str {a b : List UInt8} (h : a = b) : Value.string ⟨a.toArray⟩ = Value.string ⟨b.toArray⟩ := by rw [h]
theorem ret1_of {a b : Value} (h : a = b) : Ending.returned a = .returned b := by rw [h]
/-- one call more -/
theorem below_on {W w1 w2 : World} (hb : Below W.heap.size W w1) (h2 : Below w1.heap.size w1 w2) : Below W.heap.size W w2 := hb.trans (h2.mono hb.size)

theorem info5 : (Tryz.prog.info? 5).map (fun i => (i.zero, i.size, i.bytes)) = some (some (.int .u8 0), 1, 1) := by kernel_rfl

/-- 'string(b)', b a slice of bytes that the call owns -/
theorem str_own {w : World} {B : Nat} {v : Value} {n : Nat} {l : List UInt8} (hown : w.ownsRow B 5 1 v n (Lib.byteCells l)) :
    (convert 71 9 v).run Tryz.prog w = .ok (.string ⟨l.toArray⟩) w := by
  have hl : l.length = n := by have := hown.1; simpa [Lib.byteCells] using this
  rcases hown.2 with ⟨rfl, h0⟩ | ⟨g, cap, cur, rfl, _⟩
  · have : l = [] := List.eq_nil_of_length_eq_zero (by omega)
    subst this
    rw [run_convert_bytes_string w 71 9 5 none 0 0 Tryz.underlying71 Tryz.underlying5 Tryz.underlying9]
    rfl
  · subst hl
    exact run_convert_bytes_back w 71 9 5 ⟨g, 0, none⟩ cap l Tryz.underlying71 Tryz.underlying5 Tryz.underlying9 (by
      intro j hj
      exact hown.cells (g := g) rfl j _ (by simp [Lib.byteCells, List.getElem?_eq_getElem hj]))

/-- 'string([]byte{x})' -/
theorem str_one (w : World) (x : Int) (h0 : 0 ≤ x) (hx : x < 256) :
    (convert 71 9 (.slice (some ⟨w.heap.size, 0, none⟩) 1 1)).run Tryz.prog (w.alloc (.cells #[.int .u8 x] 5)) = .ok (.string ⟨#[x.toNat.toUInt8]⟩) (w.alloc (.cells #[.int .u8 x] 5)) := by
  have h := run_convert_bytes_back (P := Tryz.prog) (w.alloc (.cells #[.int .u8 x] 5)) 71 9 5 ⟨w.heap.size, 0, none⟩ 1 [x.toNat.toUInt8] Tryz.underlying71 Tryz.underlying5 Tryz.underlying9 (by
    intro j hj
    obtain rfl : j = 0 := by simp at hj; omega
    rw [show ((⟨w.heap.size, 0, none⟩ : Addr).add 0) = ⟨w.heap.size, 0, none⟩ by simp [Addr.add]]
    rw [World.cell?_alloc_mark]
    simp
    omega)
  exact h
end Go.Proofs.YtmekmlgpkbfjpaaGreatDoor

/- Blocks of memory that are known whole, rows that a call owns, and numbers of four words as values. -/
namespace Go.Proofs.YtmekmlgpkbfjpaaGreatDoor.F
set_option maxRecDepth 100000
open Go.RowKit

abbrev w64 (x : Nat) : Value := Value.int .u64 (x : Int)
abbrev i64 (x : Nat) : Value := Value.int .i64 (x : Int)
/-- block g is just these cells, none of them frozen -/
def Lies (w : World) (g : Nat) (t : TypeId) (cs : Array Value) : Prop := w.heap[g]? = some (.cells cs t (0, 0))

section
variable {w w' : World} {g : Nat} {t : TypeId} {cs : Array Value}
theorem Lies.lt (h : Lies w g t cs) : g < w.heap.size := by
  rcases Nat.lt_or_ge g w.heap.size with hlt | hge
  · exact hlt
  · unfold Lies at h; rw [Array.getElem?_eq_none hge] at h; cases h
theorem Lies.cell (h : Lies w g t cs) (i : Nat) : w.cell? ⟨g, i, none⟩ = cs[i]? := cell_of_row w g i cs t (0, 0) h
theorem Lies.frozen (h : Lies w g t cs) (i : Nat) : w.frozen? ⟨g, i, none⟩ = false := frozen_of_row w g i cs t h
theorem Lies.drew (h : Lies w g t cs) : Lies w.drew g t cs := h
theorem Lies.alloc (h : Lies w g t cs) (o : Obj) : Lies (w.alloc o) g t cs := (Below.heap_alloc w o g h.lt).trans h
theorem Lies.new (w : World) (t : TypeId) (cs : Array Value) : Lies (w.alloc (.cells cs t)) w.heap.size t cs := heap_alloc_new w _
theorem Lies.put (h : Lies w g t cs) (i : Nat) (v : Value) : Lies (w.setCell ⟨g, i, none⟩ v) g t (cs.setIfInBounds i v) := heap_setCell_same w g i cs t v h
theorem Lies.far (h : Lies w g t cs) {p : Addr} (hp : g ≠ p.block) (v : Value) : Lies (w.setCell p v) g t cs := (heap_setCell_other w p g v hp).trans h
theorem Lies.below {B : Nat} (h : Lies w g t cs) (hb : Below B w w') (hg : g < B) : Lies w' g t cs := (hb.block g hg).trans h
theorem Lies.on (h : Lies w g t cs) (hb : Below w.heap.size w w') : Lies w' g t cs := h.below hb h.lt
theorem Lies.row (h : Lies w g t cs) (old : Array Value) : Lies (w.setRow g old) g t old := setRow_heap w g cs old t (0, 0) h
theorem Lies.rowFar {g' : Nat} (h : Lies w g t cs) (hg : g ≠ g') (old : Array Value) : Lies (w.setRow g' old) g t cs := (setRow_other w g' g old hg).trans h
end
theorem below_rowSet {B : Nat} {a w : World} (h : Below B a w) {g : Nat} (hg : B ≤ g) (cs : Array Value) : Below B a (w.setRow g cs) :=
  h.trans ⟨rfl, rfl, rfl, by simp, fun k hk => setRow_other _ _ _ _ (by omega)⟩

/-! ### only block g, and what is new, has turned -/
section
variable {a w w' : World} {g : Nat}
end

/-- a type of rows or structs, of so many cells -/
def RowT (P : Program) (ty : TypeId) (n : Nat) : Prop := (∃ d, P.underlying ty = some d ∧ d.isRow = true) ∧ (P.info? ty).map (·.size) = some n
/-- cells of one value each -/
def Ones (cs : Array Value) : Prop := cs.all (·.oneCell') = true
theorem ones_of {cs : List Value} (h : ∀ v ∈ cs, v.oneCell' = true) : Ones cs.toArray := all_oneCell_toArray h

section
variable {P : Program} {ops : Array Oper} {rest : List Oper} {a : Act} {w : World} {Q : Exit → Act → World → Prop} {t' : TypeId} {pos : String} {after : Array Edge}
/-- a variable that is a whole block is read -/
theorem wpL_load {d : Option Tmp} {x : Tmp} {ty : TypeId} (g : Nat) (t : TypeId) (cs : Array Value) (n : Nat) (hT : RowT P ty n) (hn : cs.size = n) (hg : Lies w g t cs)
    (hx : a.eval (.tmp x) = .pointer (some ⟨g, 0, none⟩)) (h : wpList P ops Q rest (a.put d (.agg cs)) w) : wpList P ops Q (⟨d, .load ty (.tmp x), t', pos, after, none⟩ :: rest) a w := by
  obtain ⟨⟨ds, hu, hd⟩, hi⟩ := hT
  exact wpList_load_row (o := ⟨d, .load ty (.tmp x), t', pos, after, none⟩) rfl ty (.tmp x) rfl g hx t cs (0, 0) ds hg hu (by cases ds <;> first | rfl | simp [TypeDesc.isRow] at hd) (by rw [hi, hn]) h
/-- .. and written -/
theorem wpL_store {x y : Tmp} {ty : TypeId} (g : Nat) (t : TypeId) (old cs : Array Value) (n : Nat) (hT : RowT P ty n) (ho : old.size = n) (hn : cs.size = n) (h1 : Ones cs) (hg : Lies w g t old)
    (hx : a.eval (.tmp x) = .pointer (some ⟨g, 0, none⟩)) (hy : a.eval (.tmp y) = .agg cs) (h : wpList P ops Q rest (a.put none undef) (w.setRow g cs)) : wpList P ops Q (⟨none, .store ty (.tmp x) (.tmp y), t', pos, after, none⟩ :: rest) a w :=
  wpList_store_row (o := ⟨none, .store ty (.tmp x) (.tmp y), t', pos, after, none⟩) rfl ty (.tmp x) (.tmp y) rfl g cs hx hy t old hg (by rw [hT.2, hn]) (by rw [ho, hn]) h1 h
/-- some cells in the middle of a block are read -/
theorem wpL_loadMid {d : Option Tmp} {x : Tmp} {ty : TypeId} (g o : Nat) (cs : List Value) (n : Nat) (hT : RowT P ty n) (hn : cs.length = n) (hg : w.rangeAt g o cs)
    (hx : a.eval (.tmp x) = .pointer (some ⟨g, o, none⟩)) (h : wpList P ops Q rest (a.put d (.agg cs.toArray)) w) : wpList P ops Q (⟨d, .load ty (.tmp x), t', pos, after, none⟩ :: rest) a w := by
  obtain ⟨⟨ds, hu, hd⟩, hi⟩ := hT
  exact wpList_load_mid (op := ⟨d, .load ty (.tmp x), t', pos, after, none⟩) rfl ty (.tmp x) rfl g o hx cs ds hg hu hd (by rw [hi, hn]) h
end
/-- what a function hands back that lies in a variable -/
theorem results_row {P : Program} {fn : Func} {p : Tmp} {ty : TypeId} {n : Nat} {w : World} {g : Nat} {t : TypeId} {cs : Array Value} {tmps : Array Value} (h : fn.results = #[.cell p ty]) (hT : RowT P ty n) (hn : cs.size = n) (hg : Lies w g t cs) (hp : tmps.getD p undef = .pointer (some ⟨g, 0, none⟩)) :
    (results fn tmps).run P w = .ok (.agg cs) w := by
  obtain ⟨⟨ds, hu, hd⟩, hi⟩ := hT
  exact results_cell_row h tmps w g t cs (0, 0) ds hp hg hu (by cases ds <;> first | rfl | simp [TypeDesc.isRow] at hd) (by rw [hi, hn])

theorem results_row_tmp {P : Program} {fn : Func} {p u : Tmp} {ty : TypeId} {n : Nat} {w : World} {g : Nat} {t : TypeId} {cs : Array Value} {tmps : Array Value} {x : Value} (h : fn.results = #[.cell p ty, .tmp u]) (hT : RowT P ty n) (hn : cs.size = n) (hg : Lies w g t cs) (hp : tmps.getD p undef = .pointer (some ⟨g, 0, none⟩)) (hx : tmps.getD u undef = x) :
    (results fn tmps).run P w = .ok (.tuple #[.agg cs, x]) w := by
  obtain ⟨⟨d, hu, hd⟩, hi⟩ := hT
  have hl := run_loadVar_row (P := P) w g t ty cs (0, 0) d hg hu (by cases d <;> first | rfl | simp [TypeDesc.isRow] at hd) (by rw [hi, hn])
  have hp' : tmps[p]?.getD undef = .pointer (some ⟨g, 0, none⟩) := by simpa using hp
  have hx' : tmps[u]?.getD undef = x := by simpa using hx
  simp [results, h, hp', hx', asAddr, hl]

/-! ### digits that lie in memory -/
/-- digits lie there -/
def Dig (w : World) (g o : Nat) (l : List Nat) : Prop := ∀ i, i < l.length → w.cell? ⟨g, o + i, none⟩ = some (i64 (l.getD i 0))
theorem Dig.take {w : World} {g o : Nat} {l : List Nat} (h : Dig w g o l) (n : Nat) : Dig w g o (l.take n) := fun i hi => by
  rw [List.length_take] at hi
  have h1 := h i (by omega)
  rw [h1, List.getD_eq_getElem?_getD, List.getD_eq_getElem?_getD, List.getElem?_take_of_lt (by omega)]
theorem Dig.drop {w : World} {g o : Nat} {l : List Nat} (h : Dig w g o l) (n : Nat) : Dig w g (o + n) (l.drop n) := fun i hi => by
  rw [List.length_drop] at hi
  have h1 := h (n + i) (by omega)
  rw [Nat.add_assoc, h1, List.getD_eq_getElem?_getD, List.getD_eq_getElem?_getD, List.getElem?_drop]
/-! ### numbers of four words -/
def feA (n : Nat) : Array Value := #[w64 (n % 18446744073709551616), w64 (n / 18446744073709551616 % 18446744073709551616), w64 (n / 340282366920938463463374607431768211456 % 18446744073709551616), w64 (n / 6277101735386680763835789423207666416102355444464034512896 % 18446744073709551616)]
abbrev fe (n : Nat) : Value := .agg (feA n)
abbrev K256 : Nat := 115792089237316195423570985008687907853269984665640564039457584007913129639936
theorem fe_of (a b c d : Nat) (ha : a < 18446744073709551616) (hb : b < 18446744073709551616) (hc : c < 18446744073709551616) (hd : d < 18446744073709551616) :
    ∃ n, n < K256 ∧ Value.agg #[w64 a, w64 b, w64 c, w64 d] = fe n ∧ n = a + 18446744073709551616 * b + 340282366920938463463374607431768211456 * c + 6277101735386680763835789423207666416102355444464034512896 * d := by
  obtain ⟨n, hn⟩ : ∃ n, a + 18446744073709551616 * b + 340282366920938463463374607431768211456 * c + 6277101735386680763835789423207666416102355444464034512896 * d = n := ⟨_, rfl⟩
  have e0 : n % 18446744073709551616 = a := by omega
  have e1 : n / 18446744073709551616 % 18446744073709551616 = b := by omega
  have e2 : n / 340282366920938463463374607431768211456 % 18446744073709551616 = c := by omega
  have e3 : n / 6277101735386680763835789423207666416102355444464034512896 % 18446744073709551616 = d := by omega
  refine ⟨n, by unfold K256; omega, ?_, hn.symm⟩
  unfold fe feA
  rw [e0, e1, e2, e3]
theorem feA_one (n : Nat) : Ones (feA n) := by unfold Ones feA; simp [Value.oneCell']
theorem feA_size (n : Nat) : (feA n).size = 4 := rfl
theorem Lies.storeFe {w : World} {g t : Nat} {cs : Array Value} (h : Lies w g t cs) (n : Nat) (hn : cs.size = 4 := by rfl) : (storeCells ⟨g, 0, none⟩ (feA n).toList).run Tryz.prog w = .ok () (w.setRow g (feA n)) := by
  have h2 := run_storeCells_from (P := Tryz.prog) g t (feA n).toList 0 cs w h (by rw [hn]; rfl) (fun v hv => (Array.all_eq_true_iff_forall_mem.1 (feA_one n)) v (by simpa using hv))
  rw [List.take_zero, List.nil_append, Array.toArray_toList] at h2
  exact h2
end Go.Proofs.YtmekmlgpkbfjpaaGreatDoor.F

/- The field's own type of numbers, of four words. -/
namespace Go.Proofs.YtmekmlgpkbfjpaaGreatDoor.F
set_option maxRecDepth 100000
open Go.RowKit

theorem rowFe : RowT Tryz.prog 72 4 := ⟨⟨_, Tryz.underlying72, rfl⟩, by kernel_rfl⟩
end Go.Proofs.YtmekmlgpkbfjpaaGreatDoor.F

/- The contracts of the reference's trim and carry: digits without zeros at the end. -/
namespace Go.Proofs.YtmekmlgpkbfjpaaGreatDoor.F
set_option maxRecDepth 100000
open Go.RowKit

theorem pre_set (p : List Nat) (n i x : Nat) (hp : p.length = i) (h : i < n) : (p ++ List.replicate (n - i) 0).set i x = (p ++ [x]) ++ List.replicate (n - (i + 1)) 0 := by
  rw [List.set_append_right _ _ (by omega), hp, Nat.sub_self, show n - i = (n - (i + 1)) + 1 by omega, List.replicate_succ, List.set_cons_zero, List.append_assoc]
  rfl
end Go.Proofs.YtmekmlgpkbfjpaaGreatDoor.F

/- The contracts of the reference's Plus and Times. -/
namespace Go.Proofs.YtmekmlgpkbfjpaaGreatDoor.F
set_option maxRecDepth 100000
open Go.RowKit

theorem below_put {B : Nat} {a w : World} (h : Below B a w) {g : Nat} (hg : B ≤ g) (i : Nat) (v : Value) : Below B a (w.setCell ⟨g, i, none⟩ v) := h.setCell (p := ⟨g, i, none⟩) hg v
end Go.Proofs.YtmekmlgpkbfjpaaGreatDoor.F

/- The contracts of the reference's Digits and Words: four words as digits, and back. -/
namespace Go.Proofs.YtmekmlgpkbfjpaaGreatDoor.F
set_option maxRecDepth 100000
open Go.RowKit

/-- a number of 64-bit words, word by word -/
def wordN (n j : Nat) : Nat := n / 18446744073709551616 ^ j % 18446744073709551616
theorem wordN_lt (n j : Nat) : wordN n j < 18446744073709551616 := Nat.mod_lt _ (by decide)
theorem feA_words (n : Nat) : feA n = #[w64 (wordN n 0), w64 (wordN n 1), w64 (wordN n 2), w64 (wordN n 3)] := by
  unfold feA wordN
  rw [Nat.pow_zero, Nat.div_one]
/-! ### digits of a number -/
/-! ### digits as words -/
/-- what a word is when the digits from n on are there -/
def wrd (d : List Nat) (n j : Nat) : Nat := val ((d.drop (max n (4 * j))).take (4 * j + 4 - max n (4 * j)))
end Go.Proofs.YtmekmlgpkbfjpaaGreatDoor.F

/- What the program's own variables hold while the field's functions are called. -/
namespace Go.Proofs.YtmekmlgpkbfjpaaGreatDoor.F
open Go.RowKit

/-- the variable that holds p does -/
def Tab (w : World) : Prop := ∀ i, i < 4 → w.cell? ⟨6, i, none⟩ = some (w64 (wordN p25 i))
theorem Tab.on {w w' : World} (h : Tab w) (hb : Below w.heap.size w w') : Tab w' := fun i hi => by
  have h1 := h i hi
  exact (hb.cell (p := ⟨6, i, none⟩) (World.block_lt_of_cell? w _ h1)).trans h1
/-- .. and the one that holds a root of -1 -/
def TabR (w : World) : Prop := ∀ i, i < 4 → w.cell? ⟨7, i, none⟩ = some (w64 (wordN i25 i))
theorem TabR.on {w w' : World} (h : TabR w) (hb : Below w.heap.size w w') : TabR w' := fun i hi => by
  have h1 := h i hi
  exact (hb.cell (p := ⟨7, i, none⟩) (World.block_lt_of_cell? w _ h1)).trans h1
def Tab2 (w : World) : Prop := Tab w ∧ TabR w
theorem Tab2.on {w w' : World} (h : Tab2 w) (hb : Below w.heap.size w w') : Tab2 w' := ⟨h.1.on hb, h.2.on hb⟩
end Go.Proofs.YtmekmlgpkbfjpaaGreatDoor.F

/- The contracts of the reference's Least, Add, Sub and Mul. -/
namespace Go.Proofs.YtmekmlgpkbfjpaaGreatDoor.F
set_option maxRecDepth 100000
open Go.RowKit

theorem lies3 (w : World) (a b : Obj) (t : TypeId) (cs : Array Value) : Lies (((w.alloc a).alloc b).alloc (.cells cs t)) (w.heap.size + 2) t cs := by
  have h := Lies.new ((w.alloc a).alloc b) t cs
  have e : ((w.alloc a).alloc b).heap.size = w.heap.size + 2 := by simp
  rwa [e] at h
abbrev fe0A : Array Value := #[.int .u64 0, .int .u64 0, .int .u64 0, .int .u64 0]
theorem Lies.four {w : World} {g t : Nat} {x0 x1 x2 x3 : Value} (h : Lies w g t #[x0, x1, x2, x3]) : w.cell? ⟨g, 0, none⟩ = some x0 ∧ w.cell? ⟨g, 1, none⟩ = some x1 ∧ w.cell? ⟨g, 2, none⟩ = some x2 ∧ w.cell? ⟨g, 3, none⟩ = some x3 := ⟨h.cell 0, h.cell 1, h.cell 2, h.cell 3⟩
theorem fe_four (n : Nat) : ∃ a b c d : Nat, feA n = #[w64 a, w64 b, w64 c, w64 d] := ⟨_, _, _, _, rfl⟩

end Go.Proofs.YtmekmlgpkbfjpaaGreatDoor.F

/- Bytes as a number, the lowest first, and back. Nothing of the program is named here. -/
namespace Go.Proofs.YtmekmlgpkbfjpaaGreatDoor.F

/-- the first k bytes of a number, the lowest first -/
def leL (n : Nat) : Nat → List UInt8
  | 0 => []
  | k + 1 => leL n k ++ [(n / 256 ^ k % 256).toUInt8]
theorem leL_length (n k : Nat) : (leL n k).length = k := by
  induction k with
  | zero => rfl
  | succ k ih => rw [leL, List.length_append, ih]; rfl
/-- the number of bytes, the lowest first -/
def numLE : List UInt8 → Nat
  | [] => 0
  | b :: r => b.toNat + 256 * numLE r
theorem numLE_append (a b : List UInt8) : numLE (a ++ b) = numLE a + 256 ^ a.length * numLE b := by
  induction a with
  | nil => simp [numLE]
  | cons x a ih =>
    rw [List.cons_append, numLE, ih, numLE, List.length_cons, Nat.pow_succ, Nat.mul_add, Nat.mul_comm (256 ^ a.length) 256, Nat.mul_assoc]
    omega
theorem numLE_lt (l : List UInt8) : numLE l < 256 ^ l.length := by
  induction l with
  | nil => simp [numLE]
  | cons x l ih =>
    have h1 := u8_lt x
    rw [numLE, List.length_cons, Nat.pow_succ]
    omega
theorem numLE_leL (n k : Nat) : numLE (leL n k) = n % 256 ^ k := by
  induction k with
  | zero => simp [leL, numLE, Nat.mod_one]
  | succ k ih =>
    rw [leL, numLE_append, ih, leL_length, Nat.pow_succ, Nat.mod_mul]
    simp only [numLE, Nat.mul_zero, Nat.add_zero]
    rw [toNat_mod]
theorem take_getD (l : List UInt8) (k : Nat) (h : k < l.length) : l.take (k + 1) = l.take k ++ [l.getD k 0] := by
  rw [List.take_succ_eq_append_getElem h, List.getD_eq_getElem?_getD, List.getElem?_eq_getElem h]
  rfl
end Go.Proofs.YtmekmlgpkbfjpaaGreatDoor.F

/- What the field's functions keep, put together; two numbers compared; the statements' own call. -/
namespace Go.Proofs.YtmekmlgpkbfjpaaGreatDoor.F
set_option maxRecDepth 100000
open Go.RowKit Go.Sort

/-! ### two numbers are compared -/
theorem eq_four (d : Nat) (w : World) (a0 a1 a2 a3 b0 b1 b2 b3 : Int) :
    (Op.equalIn (d + 2) 72 (.agg #[.int .u64 a0, .int .u64 a1, .int .u64 a2, .int .u64 a3]) (.agg #[.int .u64 b0, .int .u64 b1, .int .u64 b2, .int .u64 b3])).run Tryz.prog w = .ok (a0 == b0 && a1 == b1 && a2 == b2 && a3 == b3) w := by
  have h1 : ∀ w, (sizeOf 65).run Tryz.prog w = .ok 1 w := fun _ => by kernel_rfl
  have h2 : ∀ w, (isAgg 65).run Tryz.prog w = .ok false w := fun _ => by kernel_rfl
  have h3 : ∀ (a b : Int) w, (Op.equalIn (d + 1) 65 (.int .u64 a) (.int .u64 b)).run Tryz.prog w = .ok (a == b) w := fun a b w => run_equalIn_int w d 65 .u64 .u64 a b Tryz.underlying65
  rw [Op.equalIn]
  simp only [Sem.run_bind, run_underlying Tryz.underlying72, Result.andThen_ok, h1, Std.Legacy.Range.forIn_eq_forIn_range', Std.Legacy.Range.size]
  simp only [Nat.sub_zero, Nat.reduceAdd, Nat.reduceSub, Nat.div_one, List.range', List.forIn_cons, List.forIn_nil]
  simp [part, h2, h3]
  (repeat' split) <;> simp [*]
theorem eql_four (w : World) (a0 a1 a2 a3 b0 b1 b2 b3 : Int) :
    (binOp .eql 72 (.agg #[.int .u64 a0, .int .u64 a1, .int .u64 a2, .int .u64 a3]) (.agg #[.int .u64 b0, .int .u64 b1, .int .u64 b2, .int .u64 b3])).run Tryz.prog w = .ok (.bool (a0 == b0 && a1 == b1 && a2 == b2 && a3 == b3)) w := by
  rw [run_eql_struct, eq_four 9998]
  rfl
theorem neq_four (w : World) (a0 a1 a2 a3 b0 b1 b2 b3 : Int) :
    (binOp .neq 72 (.agg #[.int .u64 a0, .int .u64 a1, .int .u64 a2, .int .u64 a3]) (.agg #[.int .u64 b0, .int .u64 b1, .int .u64 b2, .int .u64 b3])).run Tryz.prog w = .ok (.bool (!(a0 == b0 && a1 == b1 && a2 == b2 && a3 == b3))) w := by
  rw [run_neq_struct, eq_four 9998]
  rfl
theorem fe_word (n : Nat) (h : n < 18446744073709551616) : fe n = .agg #[.int .u64 (n : Int), .int .u64 0, .int .u64 0, .int .u64 0] := by
  unfold fe feA
  rw [Nat.mod_eq_of_lt h, show n / 18446744073709551616 = 0 by omega, show n / 340282366920938463463374607431768211456 = 0 by omega, show n / 6277101735386680763835789423207666416102355444464034512896 = 0 by omega]
  rfl
theorem fe_same (m n : Nat) (hm : m < K256) (hn : n < K256) : (((m % 18446744073709551616 : Nat) : Int) == ((n % 18446744073709551616 : Nat) : Int) && ((m / 18446744073709551616 % 18446744073709551616 : Nat) : Int) == ((n / 18446744073709551616 % 18446744073709551616 : Nat) : Int) && ((m / 340282366920938463463374607431768211456 % 18446744073709551616 : Nat) : Int) == ((n / 340282366920938463463374607431768211456 % 18446744073709551616 : Nat) : Int) && ((m / 6277101735386680763835789423207666416102355444464034512896 % 18446744073709551616 : Nat) : Int) == ((n / 6277101735386680763835789423207666416102355444464034512896 % 18446744073709551616 : Nat) : Int)) = decide (m = n) := by
  unfold K256 at hm hn
  rw [Bool.eq_iff_iff]
  simp only [Bool.and_eq_true, beq_iff_eq, decide_eq_true_eq]
  omega
theorem eql_fe (m n : Nat) (hm : m < K256) (hn : n < K256) (w : World) : (binOp .eql 72 (fe m) (fe n)).run Tryz.prog w = .ok (.bool (decide (m = n))) w := by
  unfold fe feA
  rw [eql_four, fe_same m n hm hn]
theorem neq_fe (m n : Nat) (hm : m < K256) (hn : n < K256) (w : World) : (binOp .neq 72 (fe m) (fe n)).run Tryz.prog w = .ok (.bool (!decide (m = n))) w := by
  unfold fe feA
  rw [neq_four, fe_same m n hm hn]
/-- a new variable, and what goes into it -/
theorem newly (w : World) (o : Obj) (cs : Array Value) : Below w.heap.size w ((w.alloc o).setRow w.heap.size cs) := below_rowSet ((Below.refl _ w).alloc (Nat.le_refl _) o) (Nat.le_refl _) cs
theorem newly_lies (w : World) (t : TypeId) (cs cs' : Array Value) : Lies ((w.alloc (.cells cs t)).setRow w.heap.size cs') w.heap.size t cs' := (Lies.new w t cs).row _

theorem word_low (n : Nat) : ∃ a b c d : Nat, feA n = #[w64 a, w64 b, w64 c, w64 d] ∧ a % 2 = n % 2 ∧ a < 18446744073709551616 := by
  refine ⟨_, _, _, _, by unfold feA; rfl, ?_, Nat.mod_lt _ (by decide)⟩
  omega

/-! ### what the field's functions keep -/
/-- the inverse, as a power -/
def invN (n : Nat) : Nat := n ^ (p25 - 2) % p25
theorem invN_eq (n : Nat) : invN n = n ^ (p25 - 2) % p25 := rfl
attribute [irreducible] invN
theorem mod_K (n : Nat) : n % p25 < K256 := Nat.lt_trans (Nat.mod_lt _ p25_pos) (by decide)
theorem invN_lt (n : Nat) : invN n < p25 := by rw [invN_eq]; exact Nat.mod_lt _ p25_pos

structure FieldOk : Prop where
  of : ∀ (n : Nat) (w : World), n < 18446744073709551616 → Tab w → Calls Tryz.prog 96 #[.int .u64 (n : Int)] w fun e w' => e = .returned (fe n) ∧ Below w.heap.size w w'
  least : ∀ (n : Nat) (w : World), n < K256 → Tab w → Calls Tryz.prog 93 #[fe n] w fun e w' => e = .returned (fe (n % p25)) ∧ Below w.heap.size w w'
  add : ∀ (m n : Nat) (w : World), m < K256 → n < K256 → Tab w → Calls Tryz.prog 97 #[fe m, fe n] w fun e w' => e = .returned (fe ((m + n) % p25)) ∧ Below w.heap.size w w'
  sub : ∀ (m n : Nat) (w : World), m < K256 → n < K256 → Tab w → Calls Tryz.prog 95 #[fe m, fe n] w fun e w' => e = .returned (fe ((m + (p25 - n % p25)) % p25)) ∧ Below w.heap.size w w'
  mul : ∀ (m n : Nat) (w : World), m < K256 → n < K256 → Tab w → Calls Tryz.prog 94 #[fe m, fe n] w fun e w' => e = .returned (fe (m * n % p25)) ∧ Below w.heap.size w w'
  inv : ∀ (n : Nat) (w : World), n < K256 → Tab w → Calls Tryz.prog 99 #[fe n] w fun e w' => e = .returned (fe (invN n)) ∧ Below w.heap.size w w'
  sqrt : ∃ (R : Nat → Nat) (B : Nat → Bool), (∀ (n : Nat) (w : World), n < K256 → Tab2 w → Calls Tryz.prog 98 #[fe n] w fun e w' => e = .returned (.tuple #[fe (R n), .bool (B n)]) ∧ Below w.heap.size w w') ∧
    ∀ n, n < K256 → R n < p25 ∧ R n % 2 = 0 ∧ (B n = true → R n * R n % p25 = n % p25) ∧ (B n = false → R n = 0) ∧ (B n = true ↔ Sq n)
  bytes : ∀ (n : Nat) (w : World), n < K256 → Tab w → Calls Tryz.prog 131 #[fe n] w fun e w' => e = .returned (.string ⟨(leL (n % p25) 32).toArray⟩) ∧ Below w.heap.size w w'
  parse : ∀ (s : ByteArray) (w : World), s.size ≤ 140737488355328 → Tab w → Calls Tryz.prog 60 #[.string s] w fun e w' =>
    e = .returned (if s.size = 32 then if numLE s.data.toList < p25 then .tuple #[fe (numLE s.data.toList), .int .i64 0] else .tuple #[fe 0, .int .i64 2] else .tuple #[fe 0, .int .i64 1]) ∧ Below w.heap.size w w'

/-! ### calls in a region that draws its order -/
theorem reg {f : FuncId} {args : Array Value} {W : World} {v : Value} (h : ∀ w, Below W.heap.size W w → Calls Tryz.prog f args w fun e w' => e = .returned v ∧ Below w.heap.size w w') :
    ∀ d os, Calls Tryz.prog f args (grow (redrawn W d) os) fun e w'' => e = .returned v ∧ ∃ p : Regrown, w'' = grow (redrawn W p.d) p.os := fun d os => Calls.regrown_of (h _ (below_regrown W d os))

end Go.Proofs.YtmekmlgpkbfjpaaGreatDoor.F

/- Powers modulo p, as squares and products make them; a root, as the program looks for it. Nothing of the program is named here. -/
namespace Go.Proofs.YtmekmlgpkbfjpaaGreatDoor.F

/-- x to a power, modulo p -/
def powN (x e : Nat) : Nat := x ^ e % p25
theorem powN_eq (x e : Nat) : powN x e = x ^ e % p25 := rfl
attribute [irreducible] powN
theorem powN_lt (x e : Nat) : powN x e < p25 := by rw [powN_eq]; exact Nat.mod_lt _ p25_pos
theorem below_K {n : Nat} (h : n < p25) : n < K256 := Nat.lt_trans h (by decide)
/-- v counts as x to the power e -/
def Pw (x e v : Nat) : Prop := v % p25 = powN x e
theorem Pw.one (x : Nat) : Pw x 1 x := by unfold Pw; rw [powN_eq, Nat.pow_one]
theorem Pw.mul {x a b u v : Nat} (h : Pw x a u) (k : Pw x b v) : Pw x (a + b) (u * v % p25) := by
  simp only [Pw, powN_eq] at *
  rw [Nat.mod_mod, Nat.mul_mod, h, k, ← Nat.mul_mod, ← Nat.pow_add]
theorem Pw.pow {x a u : Nat} (h : Pw x a u) (b : Nat) : Pw x (a * b) (powN u b) := by
  simp only [Pw, powN_eq] at *
  rw [Nat.mod_mod, Nat.pow_mod, h, ← Nat.pow_mod, ← Nat.pow_mul]
theorem Pw.is {x e v : Nat} (h : Pw x e v) (hv : v < p25) : v = powN x e := by
  unfold Pw at h
  rw [← h, Nat.mod_eq_of_lt hv]

/-! ### squared so many times -/
def sqL (x i : Nat) : Nat := if i = 0 then x else powN x (2 ^ i)
theorem sqL_pw (x i : Nat) : Pw x (2 ^ i) (sqL x i) := by
  unfold sqL
  split
  · rename_i h
    rw [h]
    exact Pw.one x
  · unfold Pw
    exact Nat.mod_eq_of_lt (powN_lt _ _)
theorem sqL_step (x i : Nat) : sqL x i * sqL x i % p25 = sqL x (i + 1) := by
  have h := ((sqL_pw x i).mul (sqL_pw x i)).is (Nat.mod_lt _ p25_pos)
  rw [h, show 2 ^ i + 2 ^ i = 2 ^ (i + 1) by rw [Nat.pow_succ]; omega]
  unfold sqL
  rw [if_neg (by omega)]
theorem sqL_lt (x i : Nat) (h : x < K256) : sqL x i < K256 := by
  unfold sqL
  split
  · exact h
  · exact below_K (powN_lt _ _)
theorem sqL_pos (x i : Nat) (h : 0 < i) : sqL x i = powN x (2 ^ i) := by unfold sqL; rw [if_neg (by omega)]
theorem sqL_one (x : Nat) : sqL x 1 = x * x % p25 := (sqL_step x 0).symm
/-! ### so many ones -/
def onesN (x n : Nat) : Nat := if n ≤ 1 then x else powN x (2 ^ n - 1)
theorem onesN_pw (x n : Nat) (h : 1 ≤ n) : Pw x (2 ^ n - 1) (onesN x n) := by
  unfold onesN
  split
  · obtain rfl : n = 1 := by omega
    exact Pw.one x
  · unfold Pw
    exact Nat.mod_eq_of_lt (powN_lt _ _)
theorem onesN_lt (x n : Nat) (h : x < K256) : onesN x n < K256 := by
  unfold onesN
  split
  · exact h
  · exact below_K (powN_lt _ _)
theorem onesN_even (x h : Nat) (h1 : 1 ≤ h) : sqL (onesN x h) h * onesN x h % p25 = onesN x (2 * h) := by
  have e := (((onesN_pw x h h1).pow (2 ^ h)).mul (onesN_pw x h h1)).is (Nat.mod_lt _ p25_pos)
  rw [sqL_pos _ _ h1, e]
  unfold onesN
  rw [if_neg (by omega)]
  congr 1
  have h2 : 0 < 2 ^ h := Nat.pow_pos (by decide)
  obtain ⟨m, hm⟩ : ∃ m, 2 ^ h = m + 1 := ⟨2 ^ h - 1, by omega⟩
  rw [Nat.two_mul, Nat.pow_add, hm, Nat.add_sub_cancel, Nat.succ_mul m (m + 1)]
  have h3 : m * (m + 1) = m * m + m := Nat.mul_succ m m
  omega
theorem onesN_odd (x h : Nat) (h1 : 1 ≤ h) : sqL (onesN x (2 * h)) 1 * x % p25 = onesN x (2 * h + 1) := by
  have e := (((onesN_pw x (2 * h) (by omega)).pow (2 ^ 1)).mul (Pw.one x)).is (Nat.mod_lt _ p25_pos)
  rw [sqL_pos _ _ (by decide), e]
  unfold onesN
  rw [if_neg (by omega)]
  congr 1
  have h2 : 0 < 2 ^ (2 * h) := Nat.pow_pos (by decide)
  rw [Nat.pow_succ 2 (2 * h)]
  omega

/-! ### the power that inverses and roots are made of -/
def eP : Nat := 7237005577332262213973186563042994240829374041602535252466099000494570602493
theorem power_eq (x : Nat) : sqL (onesN x 250) 2 * x % p25 = powN x eP := by
  have e := (((onesN_pw x 250 (by decide)).pow (2 ^ 2)).mul (Pw.one x)).is (Nat.mod_lt _ p25_pos)
  rw [sqL_pos _ _ (by decide), e]
  exact congrArg (powN x) (by decide)
theorem inv_eq (x : Nat) : sqL (powN x eP) 3 * (x * sqL x 1 % p25) % p25 = invN x := by
  have h1 : Pw x eP (powN x eP) := by unfold Pw; exact Nat.mod_eq_of_lt (powN_lt _ _)
  have e := ((h1.pow (2 ^ 3)).mul ((Pw.one x).mul (sqL_pw x 1))).is (Nat.mod_lt _ p25_pos)
  rw [sqL_pos _ 3 (by decide), e, invN_eq, ← powN_eq]
  exact congrArg (powN x) (by decide)

/-! ### roots -/
def rootC (x : Nat) : Nat := x * powN x eP % p25
def rootD (x : Nat) : Nat := rootC x * i25 % p25
theorem rootC_lt (x : Nat) : rootC x < p25 := Nat.mod_lt _ p25_pos
theorem rootD_lt (x : Nat) : rootD x < p25 := Nat.mod_lt _ p25_pos
theorem rootC_eq (x : Nat) : rootC x = c25 x % p25 := by
  have h1 : Pw x eP (powN x eP) := by unfold Pw; exact Nat.mod_eq_of_lt (powN_lt _ _)
  have e := ((Pw.one x).mul h1).is (Nat.mod_lt _ p25_pos)
  unfold rootC
  rw [e, show 1 + eP = d25 by decide, powN_eq]
  rfl
/-- the even one of a number below p and its contrary -/
def evN (r : Nat) : Nat := if r % 2 = 1 then (0 + (p25 - r % p25)) % p25 else r
theorem evN_lt (r : Nat) (h : r < p25) : evN r < p25 := by
  unfold evN
  split
  · exact Nat.mod_lt _ p25_pos
  · exact h
theorem evN_odd (r : Nat) (h : r < p25) (h1 : r % 2 = 1) : evN r = p25 - r := by
  unfold evN
  rw [if_pos h1, Nat.zero_add, Nat.mod_eq_of_lt h, Nat.mod_eq_of_lt (by omega)]
theorem evN_even (r : Nat) (h : r < p25) : evN r % 2 = 0 := by
  by_cases h1 : r % 2 = 1
  · rw [evN_odd r h h1]
    have := contrary_odd r h
    omega
  · unfold evN
    rw [if_neg h1]
    omega
theorem contrary_sq (r : Nat) (h : r < p25) : (p25 - r) * (p25 - r) % p25 = r * r % p25 := by
  obtain ⟨s, hs⟩ : ∃ s, p25 - r = s := ⟨_, rfl⟩
  have e : p25 = r + s := by omega
  rw [hs]
  have h1 : s * s + p25 * r = r * r + p25 * s := by
    rw [e, Nat.add_mul, Nat.add_mul, Nat.mul_comm s r]
    omega
  have h2 := congrArg (· % p25) h1
  simp only [Nat.add_mul_mod_self_left] at h2
  exact h2
theorem evN_sq (r : Nat) (h : r < p25) : evN r * evN r % p25 = r * r % p25 := by
  by_cases h1 : r % 2 = 1
  · rw [evN_odd r h h1, contrary_sq r h]
  · unfold evN
    rw [if_neg h1]
def sqrtR (x : Nat) : Nat := if rootC x * rootC x % p25 = x % p25 then evN (rootC x) else if rootD x * rootD x % p25 = x % p25 then evN (rootD x) else 0
def sqrtB (x : Nat) : Bool := decide (rootC x * rootC x % p25 = x % p25) || decide (rootD x * rootD x % p25 = x % p25)
theorem sq_of_square {r x : Nat} (h : r * r % p25 = x % p25) : Sq x := ⟨r, h⟩
theorem sqrt_finds (x : Nat) (h : Sq x) : rootC x * rootC x % p25 = x % p25 ∨ rootD x * rootD x % p25 = x % p25 := by
  by_cases hd : p25 ∣ x
  · left
    have h0 : x % p25 = 0 := Nat.mod_eq_zero_of_dvd hd
    have h1 : rootC x = 0 := by
      unfold rootC
      rw [Nat.mul_mod, h0, Nat.zero_mul, Nat.zero_mod]
    rw [h1, h0]
    rfl
  · rcases cand x (sq_power x hd h) with h1 | h1
    · left
      rw [rootC_eq, ← Nat.mul_mod]
      exact h1
    · right
      have e : rootD x = c25 x * i25 % p25 := by
        unfold rootD
        rw [rootC_eq, Nat.mod_mul_mod]
      rw [e, ← Nat.mul_mod]
      exact h1
theorem sqrt_spec (n : Nat) : sqrtR n < p25 ∧ sqrtR n % 2 = 0 ∧ (sqrtB n = true → sqrtR n * sqrtR n % p25 = n % p25) ∧ (sqrtB n = false → sqrtR n = 0) ∧ (sqrtB n = true ↔ Sq n) := by
  by_cases h1 : rootC n * rootC n % p25 = n % p25
  · have eR : sqrtR n = evN (rootC n) := by unfold sqrtR; rw [if_pos h1]
    have eB : sqrtB n = true := by unfold sqrtB; rw [decide_eq_true h1]; rfl
    rw [eR, eB]
    exact ⟨evN_lt _ (rootC_lt n), evN_even _ (rootC_lt n), fun _ => by rw [evN_sq _ (rootC_lt n), h1], (fun h => by cases h), fun _ => sq_of_square h1, fun _ => rfl⟩
  · by_cases h2 : rootD n * rootD n % p25 = n % p25
    · have eR : sqrtR n = evN (rootD n) := by unfold sqrtR; rw [if_neg h1, if_pos h2]
      have eB : sqrtB n = true := by unfold sqrtB; rw [decide_eq_true h2, Bool.or_true]
      rw [eR, eB]
      exact ⟨evN_lt _ (rootD_lt n), evN_even _ (rootD_lt n), fun _ => by rw [evN_sq _ (rootD_lt n), h2], (fun h => by cases h), fun _ => sq_of_square h2, fun _ => rfl⟩
    · have eR : sqrtR n = 0 := by unfold sqrtR; rw [if_neg h1, if_neg h2]
      have eB : sqrtB n = false := by unfold sqrtB; rw [decide_eq_false h1, decide_eq_false h2]; rfl
      rw [eR, eB]
      refine ⟨p25_pos, rfl, (fun h => by cases h), fun _ => rfl, (fun h => by cases h), fun h => ?_⟩
      rcases sqrt_finds n h with h3 | h3
      · exact absurd h3 h1
      · exact absurd h3 h2
end Go.Proofs.YtmekmlgpkbfjpaaGreatDoor.F

/- Points as four numbers below p, which of them may be, and the points of a y. Nothing of the program's point is named here. -/
namespace Go.Proofs.YtmekmlgpkbfjpaaGreatDoor.C
open Go.Proofs.YtmekmlgpkbfjpaaGreatDoor.F

theorem z_pow (n e : Nat) : z ((n % p25) ^ e) = z (n ^ e) := z_iff.2 (by rw [← Nat.pow_mod])
theorem z_inv (n : Nat) : z (invN n) = zinv (z n) := by
  have h : zinv (z n) = z ((n % p25) ^ (p25 - 2)) := by unfold zinv; rw [show (z n).val = n % p25 by unfold z; rfl]
  rw [h, z_pow, invN_eq, z_mod]
theorem val_z {n : Nat} (h : n < p25) : (z n).val = n := by unfold z; exact Nat.mod_eq_of_lt h
theorem z_ne {n : Nat} (h : n < p25) (h0 : n ≠ 0) : z n ≠ 0 := fun e => h0 (by rw [z_is_zero, Nat.mod_eq_of_lt h] at e; exact e)
theorem val_mod (n : Nat) : (z n).val = n % p25 := by unfold z; rfl

/-! ### four numbers -/
structure N4 where
  X : Nat
  Y : Nat
  Z : Nat
  T : Nat
/-- they are this point's -/
structure Pn (u : N4) (P : Pt) : Prop where
  lX : u.X < p25
  lY : u.Y < p25
  lZ : u.Z < p25
  lT : u.T < p25
  rep : Rep (z u.X) (z u.Y) (z u.Z) P
  t : z u.X * z u.Y = z u.Z * z u.T
  on : P.On
theorem Pn.same {u : N4} {P Q : Pt} (h : Pn u P) (k : Pn u Q) : P = Q := h.rep.same k.rep
/-- x and y by a division -/
theorem Pn.affine {u : N4} {P : Pt} (h : Pn u P) : u.X * invN u.Z % p25 = P.x.val ∧ u.Y * invN u.Z % p25 = P.y.val := by
  obtain ⟨n, a, b⟩ := h.rep
  have hi := zinv_mul n
  constructor
  · rw [← val_mod, z_mul, z_inv, a, show P.x * z u.Z * zinv (z u.Z) = P.x * (z u.Z * zinv (z u.Z)) by grind, hi]
    congr 1
    grind
  · rw [← val_mod, z_mul, z_inv, b, show P.y * z u.Z * zinv (z u.Z) = P.y * (z u.Z * zinv (z u.Z)) by grind, hi]
    congr 1
    grind
/-- is it one of the curve, by x and y? -/
def onB (x y : Nat) : Bool := decide ((y * y % p25 + (p25 - x * x % p25 % p25)) % p25 = (1 + dN * (x * x % p25 * (y * y % p25) % p25) % p25) % p25)
theorem z_dN : z dN = dd := by unfold dd; rfl
theorem onB_iff (x y : Nat) : onB x y = true ↔ On (z x) (z y) := by
  unfold onB
  rw [decide_eq_true_iff, ← z_iff]
  simp only [z_mod, z_mul, z_add, z_neg, z_one, z_dN]
  unfold On
  constructor
  · intro h; grind
  · intro h; grind
def N4.right (u : N4) : Bool := decide (u.X < p25) && decide (u.Y < p25) && decide (u.Z < p25) && decide (u.T < p25) && decide (u.Z ≠ 0) && decide (u.X * u.Y % p25 = u.Z * u.T % p25) && onB (u.X * invN u.Z % p25) (u.Y * invN u.Z % p25)
theorem right_iff (u : N4) : u.right = true ↔ ∃ P, Pn u P := by
  unfold N4.right
  simp only [Bool.and_eq_true, decide_eq_true_eq]
  constructor
  · rintro ⟨⟨⟨⟨⟨⟨h1, h2⟩, h3⟩, h4⟩, h5⟩, h6⟩, h7⟩
    have hz := z_ne h3 h5
    have hi := zinv_mul hz
    refine ⟨⟨z (u.X * invN u.Z % p25), z (u.Y * invN u.Z % p25)⟩, h1, h2, h3, h4, ⟨hz, ?_, ?_⟩, ?_, (onB_iff _ _).1 h7⟩
    · show z u.X = z (u.X * invN u.Z % p25) * z u.Z
      rw [z_mod, z_mul, z_inv]
      grind
    · show z u.Y = z (u.Y * invN u.Z % p25) * z u.Z
      rw [z_mod, z_mul, z_inv]
      grind
    · rw [← z_mul, ← z_mul]
      exact z_iff.2 h6
  · rintro ⟨P, h⟩
    obtain ⟨a, b⟩ := h.affine
    refine ⟨⟨⟨⟨⟨⟨h.lX, h.lY⟩, h.lZ⟩, h.lT⟩, fun e => h.rep.ne (by rw [e, z_zero])⟩, ?_⟩, ?_⟩
    · have := h.t
      rw [← z_mul, ← z_mul] at this
      exact z_iff.1 this
    · rw [a, b, onB_iff, z_back, z_back]
      exact h.on
/-! ### the points of a y -/
theorem den_ne (y : Z) : dd * (y * y) + 1 ≠ 0 := fun h => by
  have hi := zi_two
  by_cases hy : y = 0
  · rw [hy] at h
    rw [Fin.mul_zero, Fin.mul_zero] at h
    exact absurd h (by decide)
  · exact d_no_quot (u := zi) hy (by grind)
/-- what x times x must be -/
def wN (y : Nat) : Nat := (y * y % p25 + (p25 - 1 % p25)) % p25 * invN ((dN * (y * y % p25) % p25 + 1) % p25) % p25
theorem wN_lt (y : Nat) : wN y < p25 := Nat.mod_lt _ p25_pos
theorem wN_is (y : Nat) : z (wN y) * (dd * (z y * z y) + 1) = z y * z y - 1 := by
  have hi := zinv_mul (den_ne (z y))
  unfold wN
  simp only [z_mod, z_mul, z_add, z_neg, z_one, z_inv, z_dN]
  grind
theorem on_w (x : Z) (y : Nat) : On x (z y) ↔ x * x = z (wN y) := by
  have hw := wN_is y
  have hd := den_ne (z y)
  unfold On
  constructor
  · intro h
    refine zcancel hd ?_
    grind
  · intro h
    grind
/-- the even x of a y, if there is one -/
def xE (y : Nat) : Nat := sqrtR (wN y)
def xB (y : Nat) : Bool := sqrtB (wN y)
theorem xE_lt (y : Nat) : xE y < p25 := (sqrt_spec (wN y)).1
theorem xE_even (y : Nat) : xE y % 2 = 0 := (sqrt_spec (wN y)).2.1
theorem xE_on {y : Nat} (h : xB y = true) : On (z (xE y)) (z y) := by
  have hs := (sqrt_spec (wN y)).2.2.1 h
  rw [on_w, ← z_mul, z_iff]
  exact hs
theorem xB_iff (y : Nat) : xB y = true ↔ ∃ x, On x (z y) := by
  refine ⟨fun h => ⟨_, xE_on h⟩, fun ⟨x, hx⟩ => ?_⟩
  refine (sqrt_spec (wN y)).2.2.2.2.2 ⟨x.val, ?_⟩
  rw [on_w] at hx
  have h1 : z (x.val * x.val) = z (wN y) := by rw [z_mul, z_back]; exact hx
  exact z_iff.1 h1
/-- the x of a y and a parity -/
def xOf (y : Nat) (odd : Bool) : Nat := if odd = true then (0 + (p25 - xE y % p25)) % p25 else xE y
theorem z_xOf (y : Nat) (odd : Bool) : z (xOf y odd) = if odd = true then - z (xE y) else z (xE y) := by
  unfold xOf
  split
  · rw [Nat.zero_add, z_mod, z_neg]
  · rfl
theorem xOf_on {y : Nat} (h : xB y = true) (odd : Bool) : On (z (xOf y odd)) (z y) := by
  have hx := xE_on h
  rw [z_xOf]
  split
  · unfold On at *; grind
  · exact hx
theorem xOf_lt (y : Nat) (odd : Bool) : xOf y odd < p25 := by
  unfold xOf
  split
  · exact Nat.mod_lt _ p25_pos
  · exact xE_lt y
theorem xOf_odd (y : Nat) (odd : Bool) (h : xE y ≠ 0 ∨ odd = false) : xOf y odd % 2 = if odd = true then 1 else 0 := by
  unfold xOf
  have h1 := xE_lt y
  have h2 := xE_even y
  cases odd with
  | false => simpa using h2
  | true =>
    have h3 : xE y ≠ 0 := by rcases h with h | h; exact h; cases h
    have h4 := contrary_odd (xE y) h1
    have h5 : p25 - xE y < p25 := by omega
    rw [if_pos rfl, if_pos rfl, Nat.zero_add, Nat.mod_eq_of_lt h1, Nat.mod_eq_of_lt h5]
    omega
/-- any x of a y is that of its parity -/
theorem xOf_is {x : Z} {y : Nat} (h : On x (z y)) : x.val = xOf y (decide (x.val % 2 = 1)) := by
  have hb : xB y = true := (xB_iff y).2 ⟨x, h⟩
  have hx := xE_on hb
  rw [on_w] at h hx
  have h1 := xE_lt y
  have h2 := xE_even y
  have hs : (x - z (xE y)) * (x + z (xE y)) = 0 := by grind
  have hxl := x.isLt
  rcases zmul_zero hs with h3 | h3
  · have e : x.val = xE y := by
      have : x = z (xE y) := by grind
      rw [this, val_z h1]
    rw [e, decide_eq_false (by omega)]
    unfold xOf
    rw [if_neg (by decide)]
  · have e : x = -z (xE y) := by grind
    by_cases h0 : xE y = 0
    · have ex : x.val = 0 := by
        rw [e, h0, z_zero]
        decide
      rw [ex, decide_eq_false (by decide)]
      unfold xOf
      rw [if_neg (by decide), h0]
    · have h5 : p25 - xE y < p25 := by omega
      have ex : x.val = p25 - xE y := by
        rw [e, ← z_neg, val_mod, Nat.mod_eq_of_lt h1, Nat.mod_eq_of_lt h5]
      have h4 := contrary_odd (xE y) h1
      rw [ex, decide_eq_true (by omega)]
      unfold xOf
      rw [if_pos rfl, Nat.zero_add, Nat.mod_eq_of_lt h1, Nat.mod_eq_of_lt h5]
end Go.Proofs.YtmekmlgpkbfjpaaGreatDoor.C

/- Numbers as words of 64 bits, the lowest one first. Nothing of the program is named here. -/
namespace Go.Proofs.YtmekmlgpkbfjpaaGreatDoor.F

def valK : List Nat → Nat
  | [] => 0
  | d :: r => d + 18446744073709551616 * valK r
theorem valK_append (a b : List Nat) : valK (a ++ b) = valK a + 18446744073709551616 ^ a.length * valK b := by
  induction a with
  | nil => simp [valK]
  | cons x a ih =>
    rw [List.cons_append, valK, ih, valK, List.length_cons, Nat.pow_succ, Nat.mul_add, Nat.mul_comm (18446744073709551616 ^ a.length) 18446744073709551616, Nat.mul_assoc]
    omega
theorem valK_snoc (l : List Nat) (x : Nat) : valK (l ++ [x]) = valK l + 18446744073709551616 ^ l.length * x := by rw [valK_append]; simp [valK]
theorem valK_zeros (n : Nat) : valK (List.replicate n 0) = 0 := by
  induction n with
  | zero => rfl
  | succ n ih => rw [List.replicate_succ, valK, ih]
theorem valK_take_succ (l : List Nat) (i : Nat) : valK (l.take (i + 1)) = valK (l.take i) + 18446744073709551616 ^ i * l.getD i 0 := by
  by_cases h : i < l.length
  · rw [List.take_succ_eq_append_getElem h, valK_snoc, List.length_take, Nat.min_eq_left (by omega), List.getD_eq_getElem?_getD, List.getElem?_eq_getElem h]
    rfl
  · rw [getD_past h, List.take_of_length_le (by omega), List.take_of_length_le (by omega)]
    omega
theorem valK_set (l : List Nat) (i x : Nat) (h : i < l.length) : valK (l.set i x) + 18446744073709551616 ^ i * l.getD i 0 = valK l + 18446744073709551616 ^ i * x := by
  induction l generalizing i with
  | nil => simp at h
  | cons a l ih =>
    cases i with
    | zero => simp [valK]; omega
    | succ i =>
      have := ih i (by simpa using h)
      rw [List.set_cons_succ, valK, valK, List.getD_cons_succ, Nat.pow_succ, Nat.mul_comm (18446744073709551616 ^ i) 18446744073709551616, Nat.mul_assoc, Nat.mul_assoc]
      omega
/-- all are words -/
def Wd (l : List Nat) : Prop := ∀ d ∈ l, d < 18446744073709551616
theorem Wd.at {l : List Nat} (h : Wd l) (i : Nat) : l.getD i 0 < 18446744073709551616 := by
  rw [List.getD_eq_getElem?_getD]
  rcases e : l[i]? with _ | x
  · simp
  · exact h x (List.mem_of_getElem? e)
theorem Wd.snoc {l : List Nat} (h : Wd l) {x : Nat} (hx : x < 18446744073709551616) : Wd (l ++ [x]) := fun d hd => by
  rw [List.mem_append, List.mem_singleton] at hd
  rcases hd with hd | rfl
  · exact h d hd
  · exact hx
theorem Wd.set {l : List Nat} (h : Wd l) (i : Nat) {x : Nat} (hx : x < 18446744073709551616) : Wd (l.set i x) := fun d hd => by
  rcases List.mem_or_eq_of_mem_set hd with hd | rfl
  · exact h d hd
  · exact hx
theorem valK_lt {l : List Nat} (h : Wd l) : valK l < 18446744073709551616 ^ l.length := by
  induction l with
  | nil => simp [valK]
  | cons x l ih =>
    have h1 := h x (List.mem_cons_self ..)
    have h2 := ih fun d hd => h d (List.mem_cons_of_mem _ hd)
    rw [valK, List.length_cons, Nat.pow_succ]
    omega

/-! ### a number's four words -/
def wordsL (n : Nat) : List Nat := [wordN n 0, wordN n 1, wordN n 2, wordN n 3]
theorem wordsL_val {n : Nat} (h : n < K256) : valK (wordsL n) = n := by
  unfold wordsL valK valK valK valK valK wordN
  unfold K256 at h
  rw [Nat.pow_zero, Nat.pow_one, Nat.div_one]
  omega
theorem wordsL_wd (n : Nat) : Wd (wordsL n) := fun d hd => by
  simp only [wordsL, List.mem_cons, List.not_mem_nil, or_false] at hd
  rcases hd with rfl | rfl | rfl | rfl <;> exact wordN_lt _ _
theorem feA_wordsL (n : Nat) : feA n = ((wordsL n).map w64).toArray := by rw [feA_words]; rfl
/-- four words are those of their number -/
theorem words_feA (l : List Nat) (hl : l.length = 4) (hw : Wd l) : (l.map w64).toArray = feA (valK l) ∧ valK l < K256 := by
  match l, hl with
  | [a, b, c, d], _ =>
    have ha := hw a (by simp)
    have hb := hw b (by simp)
    have hc := hw c (by simp)
    have hd := hw d (by simp)
    obtain ⟨n, hn, he, hv⟩ := fe_of a b c d ha hb hc hd
    have e : valK [a, b, c, d] = n := by
      rw [hv]
      unfold valK valK valK valK valK
      omega
    rw [e]
    injection he with he
    exact ⟨he, hn⟩

/-! ### sums and differences, word by word -/
end Go.Proofs.YtmekmlgpkbfjpaaGreatDoor.F

/- A product of words, word by word. Nothing of the program is named here. -/
namespace Go.Proofs.YtmekmlgpkbfjpaaGreatDoor.F

/-- one product, what is carried, and what stood there -/
theorem mul_step {x y c o : Nat} (hx : x < 18446744073709551616) (hy : y < 18446744073709551616) (hc : c < 18446744073709551616) (ho : o < 18446744073709551616) :
    ∃ h l l2 m1 nw m2 : Nat, x * y / 18446744073709551616 = h ∧ x * y % 18446744073709551616 = l ∧ (l + c + 0) % 18446744073709551616 = l2 ∧ (l + c + 0) / 18446744073709551616 = m1 ∧ (o + l2 + 0) % 18446744073709551616 = nw ∧ (o + l2 + 0) / 18446744073709551616 = m2 ∧
      h < 18446744073709551616 ∧ l < 18446744073709551616 ∧ l2 < 18446744073709551616 ∧ h + m1 < 18446744073709551616 ∧ h + m1 + m2 < 18446744073709551616 ∧ nw < 18446744073709551616 ∧ nw + 18446744073709551616 * (h + m1 + m2) = x * y + c + o := by
  have h1 := Nat.mul_le_mul (show x ≤ 18446744073709551615 by omega) (show y ≤ 18446744073709551615 by omega)
  have h2 := Nat.le_trans h1 (show 18446744073709551615 * 18446744073709551615 ≤ 340282366920938463426481119284349108225 by decide)
  clear h1
  generalize x * y = p at h2
  exact ⟨_, _, _, _, _, _, rfl, rfl, rfl, rfl, rfl, rfl, by omega, by omega, by omega, by omega, by omega, by omega, by omega⟩
theorem listA_at (l : List Nat) (j : Nat) (h : j < l.length) : ((l.map w64).toArray)[j]? = some (w64 (l.getD j 0)) := by
  rw [List.getElem?_toArray, List.getElem?_map, List.getElem?_eq_getElem h, List.getD_eq_getElem?_getD, List.getElem?_eq_getElem h]
  rfl
theorem listA_set (l : List Nat) (j x : Nat) : ((l.map w64).toArray).setIfInBounds j (w64 x) = ((l.set j x).map w64).toArray := by
  rw [List.setIfInBounds_toArray, List.map_set]
theorem set_getD (l : List Nat) (i j x : Nat) (h : i ≠ j) : (l.set i x).getD j 0 = l.getD j 0 := by
  rw [List.getD_eq_getElem?_getD, List.getD_eq_getElem?_getD, List.getElem?_set_ne h]
/-- the inner step -/
theorem inner_step {al : List Nat} {V A x y c o nw q i k : Nat} (hl : i + k < al.length) (ho : al.getD (i + k) 0 = o) (h : valK al + 18446744073709551616 ^ (i + k) * c = V + 18446744073709551616 ^ i * (x * A)) (hs : nw + 18446744073709551616 * q = x * y + c + o) :
    valK (al.set (i + k) nw) + 18446744073709551616 ^ (i + (k + 1)) * q = V + 18446744073709551616 ^ i * (x * (A + 18446744073709551616 ^ k * y)) := by
  have h1 := valK_set al (i + k) nw hl
  rw [ho] at h1
  have h2 : 18446744073709551616 ^ (i + k) * nw + 18446744073709551616 ^ (i + (k + 1)) * q = 18446744073709551616 ^ (i + k) * (x * y) + 18446744073709551616 ^ (i + k) * c + 18446744073709551616 ^ (i + k) * o := by
    rw [← Nat.add_assoc, Nat.pow_succ, Nat.mul_assoc, ← Nat.mul_add, hs, Nat.mul_add, Nat.mul_add]
  have h3 : 18446744073709551616 ^ i * (x * (A + 18446744073709551616 ^ k * y)) = 18446744073709551616 ^ i * (x * A) + 18446744073709551616 ^ (i + k) * (x * y) := by
    rw [Nat.mul_add, Nat.mul_add, Nat.pow_add, Nat.mul_left_comm x, Nat.mul_assoc]
  rw [h3]
  omega
/-- a row's end -/
theorem row_step {al : List Nat} {V x n c i : Nat} (hl : i + 4 < al.length) (ho : al.getD (i + 4) 0 = 0) (h : valK al + 18446744073709551616 ^ (i + 4) * c = V * n + 18446744073709551616 ^ i * (x * n)) :
    valK (al.set (i + 4) c) = (V + 18446744073709551616 ^ i * x) * n := by
  have h1 := valK_set al (i + 4) c hl
  rw [ho, Nat.mul_zero, Nat.add_zero] at h1
  rw [Nat.add_mul, Nat.mul_assoc, h1, h]
/-- what stands above four words counts 38 times -/
theorem high_step {V L H c x o nw q i : Nat} (h : V + 18446744073709551616 ^ i * c = L + 38 * H) (hs : nw + 18446744073709551616 * q = x * 38 + c + o) :
    (V + 18446744073709551616 ^ i * nw) + 18446744073709551616 ^ (i + 1) * q = (L + 18446744073709551616 ^ i * o) + 38 * (H + 18446744073709551616 ^ i * x) := by
  have h2 : 18446744073709551616 ^ i * nw + 18446744073709551616 ^ (i + 1) * q = 18446744073709551616 ^ i * (x * 38) + 18446744073709551616 ^ i * c + 18446744073709551616 ^ i * o := by
    rw [Nat.pow_succ, Nat.mul_assoc, ← Nat.mul_add, hs, Nat.mul_add, Nat.mul_add]
  have h3 : 38 * (H + 18446744073709551616 ^ i * x) = 38 * H + 18446744073709551616 ^ i * (x * 38) := by
    rw [Nat.mul_add, Nat.mul_left_comm, Nat.mul_comm 38 x]
  rw [h3]
  omega
end Go.Proofs.YtmekmlgpkbfjpaaGreatDoor.F

