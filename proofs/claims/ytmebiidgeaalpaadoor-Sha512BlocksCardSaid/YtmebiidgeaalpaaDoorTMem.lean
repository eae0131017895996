/- Blocks of memory that are known whole, and words as values. -/
import Derived.Test.YtmebiidgeaalpaaDoorTMath
import Derived.Test.YtmebiidgeaalpaaDoorBase
import Derived.Deep.QuietTactic
import Derived.BigQuiet
import Derived.Deep.MidRow
namespace Go.Proofs.YtmebiidgeaalpaaDoor.T
open Go.RowKit

abbrev w64 (x : Nat) : Value := Value.int .u64 (x : Int)
/-- block g is just these cells, none of them frozen -/
def Lies (w : World) (g : Nat) (t : TypeId) (cs : Array Value) : Prop := w.heap[g]? = some (.cells cs t (0, 0))

section
variable {w w' : World} {g : Nat} {t : TypeId} {cs : Array Value}
theorem Lies.lt (h : Lies w g t cs) : g < w.heap.size := by
  rcases Nat.lt_or_ge g w.heap.size with hlt | hge
  · exact hlt
  · unfold Lies at h; rw [Array.getElem?_eq_none hge] at h; cases h
theorem Lies.cell (h : Lies w g t cs) (i : Nat) : w.cell? ⟨g, i, none⟩ = cs[i]? := cell_of_row w g i cs t (0, 0) h
theorem Lies.frozen (h : Lies w g t cs) (i : Nat) : w.frozen? ⟨g, i, none⟩ = false := frozen_of_row w g i cs t h
theorem Lies.drewN (h : Lies w g t cs) (n : Nat) : Lies (w.drewN n) g t cs := h
theorem Lies.drew (h : Lies w g t cs) : Lies w.drew g t cs := h
theorem Lies.alloc (h : Lies w g t cs) (o : Obj) : Lies (w.alloc o) g t cs := (Below.heap_alloc w o g h.lt).trans h
theorem Lies.new (w : World) (t : TypeId) (cs : Array Value) : Lies (w.alloc (.cells cs t)) w.heap.size t cs := heap_alloc_new w _
theorem Lies.put (h : Lies w g t cs) (i : Nat) (v : Value) : Lies (w.setCell ⟨g, i, none⟩ v) g t (cs.setIfInBounds i v) := heap_setCell_same w g i cs t v h
theorem Lies.far (h : Lies w g t cs) {p : Addr} (hp : g ≠ p.block) (v : Value) : Lies (w.setCell p v) g t cs := (heap_setCell_other w p g v hp).trans h
theorem Lies.below {B : Nat} (h : Lies w g t cs) (hb : Below B w w') (hg : g < B) : Lies w' g t cs := (hb.block g hg).trans h
theorem Lies.on (h : Lies w g t cs) (hb : Below w.heap.size w w') : Lies w' g t cs := h.below hb h.lt
theorem Lies.only {row : Option Nat} (h : Lies w g t cs) (hb : w.grownBy w' row) (hg : some g ≠ row) : Lies w' g t cs := (hb.block g h.lt hg).trans h
theorem Lies.row (h : Lies w g t cs) (old : Array Value) : Lies (w.setRow g old) g t old := setRow_heap w g cs old t (0, 0) h
theorem Lies.rowFar {g' : Nat} (h : Lies w g t cs) (hg : g ≠ g') (old : Array Value) : Lies (w.setRow g' old) g t cs := (setRow_other w g' g old hg).trans h
end
theorem below_drawn {B : Nat} {a w : World} (h : Below B a w) (n : Nat) : Below B a (w.drewN n) := ⟨h.os, h.tape, h.output, h.size, h.block⟩

theorem below_rowSet {B : Nat} {a w : World} (h : Below B a w) {g : Nat} (hg : B ≤ g) (cs : Array Value) : Below B a (w.setRow g cs) :=
  h.trans ⟨rfl, rfl, rfl, by simp, fun k hk => setRow_other _ _ _ _ (by omega)⟩

/-! ### only block g, and what is new, has turned -/
abbrev Only (g : Nat) (a w : World) : Prop := a.grownBy w (some g)
section
variable {a w w' : World} {g : Nat}
theorem Only.refl (a : World) (g : Nat) : Only g a a := World.grownBy.refl a (some g)
theorem Only.trans (h : Only g a w) (k : Only g w w') : Only g a w' :=
  ⟨k.os.trans h.os, k.tape.trans h.tape, k.output.trans h.output, Nat.le_trans h.size k.size, fun i hi hne => (k.block i (Nat.lt_of_lt_of_le hi h.size) hne).trans (h.block i hi hne)⟩
theorem Only.drewN (h : Only g a w) (n : Nat) : Only g a (w.drewN n) := ⟨h.os, h.tape, h.output, h.size, h.block⟩
theorem Only.drew (h : Only g a w) : Only g a w.drew := ⟨h.os, h.tape, h.output, h.size, h.block⟩
theorem Only.alloc (h : Only g a w) (o : Obj) : Only g a (w.alloc o) :=
  ⟨h.os, h.tape, h.output, Nat.le_trans h.size (by simp), fun i hi hne => (Below.heap_alloc w o i (Nat.lt_of_lt_of_le hi h.size)).trans (h.block i hi hne)⟩
theorem Only.put (h : Only g a w) {p : Addr} (hp : p.block = g ∨ a.heap.size ≤ p.block) (u : Value) : Only g a (w.setCell p u) :=
  ⟨h.os, h.tape, h.output, by simpa [World.setCell] using h.size, fun i hi hne => (Below.heap_setCell w p u i (by
    rintro rfl
    rcases hp with hp | hp
    · exact hne (by rw [hp])
    · omega)).trans (h.block i hi hne)⟩
theorem Only.row (h : Only g a w) {k : Nat} (hk : k = g ∨ a.heap.size ≤ k) (cs : Array Value) : Only g a (w.setRow k cs) :=
  ⟨h.os, h.tape, h.output, by simpa using h.size, fun i hi hne => (setRow_other w k i cs (by
    rintro rfl
    rcases hk with hk | hk
    · exact hne (by rw [hk])
    · omega)).trans (h.block i hi hne)⟩
theorem Only.of_below (h : Below a.heap.size a w) (g : Nat) : Only g a w := ⟨h.os, h.tape, h.output, h.size, fun i hi _ => h.block i hi⟩
theorem Only.on (h : Only g a w) (k : Below w.heap.size w w') : Only g a w' := h.trans (Only.of_below k g)
/-- .. and g itself is new -/
theorem Only.below {B : Nat} {b : World} (h : Only g a w) (hb : Below B b a) (hB : B ≤ a.heap.size) (hg : B ≤ g) : Below B b w :=
  hb.grown h hB (fun k hk => by cases hk; exact hg)
end

/-! ### the program's two tables, and a sum that works -/
/-- the two tables hold their constants -/
def Tab (w : World) : Prop := (∀ i, i < 8 → w.cell? ⟨0, i, none⟩ = some (w64 (h0.at i))) ∧ (∀ t, t < 80 → w.cell? ⟨1, t, none⟩ = some (w64 (kAt t)))
theorem Tab.two {w : World} (h : Tab w) : 2 ≤ w.heap.size := by
  have h1 := block_lt_of_cell (h.1 0 (by decide))
  have h2 := block_lt_of_cell (h.2 0 (by decide))
  simp only at h1 h2
  omega
theorem Tab.below {w w' : World} (h : Tab w) (hb : Below w.heap.size w w') : Tab w' := by
  have h2 := h.two
  exact ⟨fun i hi => (hb.cell (p := ⟨_, i, none⟩) (by simp only; omega)).trans (h.1 i hi), fun t ht => (hb.cell (p := ⟨_, t, none⟩) (by simp only; omega)).trans (h.2 t ht)⟩
theorem Tab.only {w w' : World} {g : Nat} (h : Tab w) (hb : Only g w w') (hg : 2 ≤ g) : Tab w' := by
  have h2 := h.two
  exact ⟨fun i hi => (World.cell?_of_block (hb.block 0 (by omega) (by intro e; injection e; omega))).trans (h.1 i hi),
    fun t ht => (World.cell?_of_block (hb.block 1 (by omega) (by intro e; injection e; omega))).trans (h.2 t ht)⟩

/-- the cells of a sum that goes on -/
def sumA (s : H8) (buf : ByteArray) (n : Nat) : Array Value := #[w64 s.a, w64 s.b, w64 s.c, w64 s.d, w64 s.e, w64 s.f, w64 s.g, w64 s.h, .string buf, .int .u64 (n : Int)]

/-- a type of rows or structs, of so many cells -/
def RowT (P : Program) (ty : TypeId) (n : Nat) : Prop := (∃ d, P.underlying ty = some d ∧ d.isRow = true) ∧ (P.info? ty).map (·.size) = some n
/-- cells of one value each -/
def Ones (cs : Array Value) : Prop := cs.all (·.oneCell') = true
theorem ones_of {cs : List Value} (h : ∀ v ∈ cs, v.oneCell' = true) : Ones cs.toArray := all_oneCell_toArray h

section
variable {P : Program} {ops : Array Oper} {rest : List Oper} {a : Act} {w : World} {Q : Exit → Act → World → Prop} {t' : TypeId} {pos : String} {after : Array Edge}
/-- a variable that is a whole block is read -/
theorem wpL_load {d : Option Tmp} {x : Tmp} {ty : TypeId} (g : Nat) (t : TypeId) (cs : Array Value) (n : Nat) (hT : RowT P ty n) (hn : cs.size = n) (hg : Lies w g t cs)
    (hx : a.eval (.tmp x) = .pointer (some ⟨g, 0, none⟩)) (h : wpList P ops Q rest (a.put d (.agg cs)) w) : wpList P ops Q (⟨d, .load ty (.tmp x), t', pos, after, none⟩ :: rest) a w := by
  obtain ⟨⟨ds, hu, hd⟩, hi⟩ := hT
  exact wpList_load_row (o := ⟨d, .load ty (.tmp x), t', pos, after, none⟩) rfl ty (.tmp x) rfl g hx t cs (0, 0) ds hg hu (by cases ds <;> first | rfl | simp [TypeDesc.isRow] at hd) (by rw [hi, hn]) h
/-- .. and written -/
theorem wpL_store {x y : Tmp} {ty : TypeId} (g : Nat) (t : TypeId) (old cs : Array Value) (n : Nat) (hT : RowT P ty n) (ho : old.size = n) (hn : cs.size = n) (h1 : Ones cs) (hg : Lies w g t old)
    (hx : a.eval (.tmp x) = .pointer (some ⟨g, 0, none⟩)) (hy : a.eval (.tmp y) = .agg cs) (h : wpList P ops Q rest (a.put none undef) (w.setRow g cs)) : wpList P ops Q (⟨none, .store ty (.tmp x) (.tmp y), t', pos, after, none⟩ :: rest) a w :=
  wpList_store_row (o := ⟨none, .store ty (.tmp x) (.tmp y), t', pos, after, none⟩) rfl ty (.tmp x) (.tmp y) rfl g cs hx hy t old hg (by rw [hT.2, hn]) (by rw [ho, hn]) h1 h
/-- some cells in the middle of a block are read -/
theorem wpL_loadMid {d : Option Tmp} {x : Tmp} {ty : TypeId} (g o : Nat) (cs : List Value) (n : Nat) (hT : RowT P ty n) (hn : cs.length = n) (hg : w.rangeAt g o cs)
    (hx : a.eval (.tmp x) = .pointer (some ⟨g, o, none⟩)) (h : wpList P ops Q rest (a.put d (.agg cs.toArray)) w) : wpList P ops Q (⟨d, .load ty (.tmp x), t', pos, after, none⟩ :: rest) a w := by
  obtain ⟨⟨ds, hu, hd⟩, hi⟩ := hT
  exact wpList_load_mid (op := ⟨d, .load ty (.tmp x), t', pos, after, none⟩) rfl ty (.tmp x) rfl g o hx cs ds hg hu hd (by rw [hi, hn]) h
end
/-- what a function hands back that lies in a variable -/
theorem results_row {P : Program} {fn : Func} {p : Tmp} {ty : TypeId} {n : Nat} {w : World} {g : Nat} {t : TypeId} {cs : Array Value} {tmps : Array Value} (h : fn.results = #[.cell p ty]) (hT : RowT P ty n) (hn : cs.size = n) (hg : Lies w g t cs) (hp : tmps.getD p undef = .pointer (some ⟨g, 0, none⟩)) :
    (results fn tmps).run P w = .ok (.agg cs) w := by
  obtain ⟨⟨ds, hu, hd⟩, hi⟩ := hT
  exact results_cell_row h tmps w g t cs (0, 0) ds hp hg hu (by cases ds <;> first | rfl | simp [TypeDesc.isRow] at hd) (by rw [hi, hn])

/-- the eight words alone -/
def wordsL (s : H8) : List Value := [w64 s.a, w64 s.b, w64 s.c, w64 s.d, w64 s.e, w64 s.f, w64 s.g, w64 s.h]
theorem Lies.words {w : World} {g : Nat} {t : TypeId} {s : H8} {buf : ByteArray} {n : Nat} (h : Lies w g t (sumA s buf n)) : w.rangeAt g 0 (wordsL s) := fun j v hv => by
  rw [Nat.zero_add, h.cell j]
  match j, hv with
  | 0, hv | 1, hv | 2, hv | 3, hv | 4, hv | 5, hv | 6, hv | 7, hv => exact hv
theorem sumA_one (s : H8) (buf : ByteArray) (n : Nat) : Ones (sumA s buf n) := by unfold Ones sumA; simp [Value.oneCell']
theorem row29 : RowT Tryd.prog 28 10 := ⟨⟨_, Tryd.underlying28, rfl⟩, by kernel_rfl⟩
theorem row26 : RowT Tryd.prog 26 8 := ⟨⟨_, Tryd.underlying26, rfl⟩, by kernel_rfl⟩
theorem row80 : RowT Tryd.prog 63 80 := ⟨⟨_, Tryd.underlying63, rfl⟩, by kernel_rfl⟩

end Go.Proofs.YtmebiidgeaalpaaDoor.T
