/- Texts that stand on one another, put together: Base, FMem, FFe, FTrim, FSums, FPlus, FWords, FTab, FTimes, FReck, FPrimeC, FFold. -/
import Derived.Test.YtgefhfcmiefocaaDoorLot1
import Derived.BigQuiet
import Derived.BigRegion
import Derived.Deep.AppendLies
import Derived.Deep.CutRange
import Derived.Deep.MidRow
import Derived.Deep.QuietTactic
import Derived.Lib.Hide
import Derived.Lib.Strings
import Derived.Test.YtgefhfcmiefocaaDoorProg
import Derived.WalkKit
import Derived.WalkLawsBesides
import Derived.WalkSpells
/- Small facts that every walk wants: the byte type's row of the table; a slice of bytes that the call owns, turned into a string. -/
namespace Go.Proofs.YtgefhfcmiefocaaDoor
open Go.RowKit

theorem val_int {k : IntKind} {a b : Int} (h : a = b) : Value.int k a = Value.int k b := by rw [h]
theorem val_str {a b : List UInt8} (h : a = b) : Value.string ⟨a.toArray⟩ = Value.string ⟨b.toArray⟩ := by rw [h]
theorem ret1_of {a b : Value} (h : a = b) : Ending.returned a = .returned b := by rw [h]
theorem ret2_of {a b c d : Value} (h : a = b) (k : c = d) : Ending.returned (.tuple #[a, c]) = .returned (.tuple #[b, d]) := by rw [h, k]

/-- one call more -/
theorem below_on {W w1 w2 : World} (hb : Below W.heap.size W w1) (h2 : Below w1.heap.size w1 w2) : Below W.heap.size W w2 := hb.trans (h2.mono hb.size)

theorem info5 : (Tryd.prog.info? 5).map (fun i => (i.zero, i.size, i.bytes)) = some (some (.int .u8 0), 1, 1) := by kernel_rfl

theorem bytes_one (l : List UInt8) : ∀ u ∈ Lib.byteCells l, u.oneCell' = true := by
  intro u hu
  simp only [Lib.byteCells, List.mem_map] at hu
  obtain ⟨b, _, rfl⟩ := hu
  rfl

/-- 'string(b)', b a slice of bytes that the call owns -/
theorem str_own {w : World} {B : Nat} {v : Value} {n : Nat} {l : List UInt8} (hown : w.ownsRow B 5 1 v n (Lib.byteCells l)) :
    (convert 29 9 v).run Tryd.prog w = .ok (.string ⟨l.toArray⟩) w := by
  have hl : l.length = n := by have := hown.1; simpa [Lib.byteCells] using this
  rcases hown.2 with ⟨rfl, h0⟩ | ⟨g, cap, cur, rfl, _⟩
  · have : l = [] := List.eq_nil_of_length_eq_zero (by omega)
    subst this
    rw [run_convert_bytes_string w 29 9 5 none 0 0 Tryd.underlying29 Tryd.underlying5 Tryd.underlying9]
    rfl
  · subst hl
    exact run_convert_bytes_back w 29 9 5 ⟨g, 0, none⟩ cap l Tryd.underlying29 Tryd.underlying5 Tryd.underlying9 (by
      intro j hj
      exact hown.cells (g := g) rfl j _ (by simp [Lib.byteCells, List.getElem?_eq_getElem hj]))

/-- 'string([]byte{x})' -/
theorem str_one (w : World) (x : Int) (h0 : 0 ≤ x) (hx : x < 256) :
    (convert 29 9 (.slice (some ⟨w.heap.size, 0, none⟩) 1 1)).run Tryd.prog (w.alloc (.cells #[.int .u8 x] 5)) = .ok (.string ⟨#[x.toNat.toUInt8]⟩) (w.alloc (.cells #[.int .u8 x] 5)) := by
  have h := run_convert_bytes_back (P := Tryd.prog) (w.alloc (.cells #[.int .u8 x] 5)) 29 9 5 ⟨w.heap.size, 0, none⟩ 1 [x.toNat.toUInt8] Tryd.underlying29 Tryd.underlying5 Tryd.underlying9 (by
    intro j hj
    obtain rfl : j = 0 := by simp at hj; omega
    rw [show ((⟨w.heap.size, 0, none⟩ : Addr).add 0) = ⟨w.heap.size, 0, none⟩ by simp [Addr.add]]
    rw [World.cell?_alloc_mark]
    simp
    omega)
  exact h
end Go.Proofs.YtgefhfcmiefocaaDoor

/- Blocks of memory that are known whole, rows that a call owns, and numbers of four words as values. -/
namespace Go.Proofs.YtgefhfcmiefocaaDoor.F
set_option maxRecDepth 100000
open Go.RowKit

abbrev w64 (x : Nat) : Value := Value.int .u64 (x : Int)
abbrev i64 (x : Nat) : Value := Value.int .i64 (x : Int)
/-- block g is just these cells, none of them frozen -/
def Lies (w : World) (g : Nat) (t : TypeId) (cs : Array Value) : Prop := w.heap[g]? = some (.cells cs t (0, 0))

section
variable {w w' : World} {g : Nat} {t : TypeId} {cs : Array Value}
theorem Lies.lt (h : Lies w g t cs) : g < w.heap.size := by
  rcases Nat.lt_or_ge g w.heap.size with hlt | hge
  · exact hlt
  · unfold Lies at h; rw [Array.getElem?_eq_none hge] at h; cases h
theorem Lies.cell (h : Lies w g t cs) (i : Nat) : w.cell? ⟨g, i, none⟩ = cs[i]? := cell_of_row w g i cs t (0, 0) h
theorem Lies.frozen (h : Lies w g t cs) (i : Nat) : w.frozen? ⟨g, i, none⟩ = false := frozen_of_row w g i cs t h
theorem Lies.drewN (h : Lies w g t cs) (n : Nat) : Lies (w.drewN n) g t cs := h
theorem Lies.drew (h : Lies w g t cs) : Lies w.drew g t cs := h
theorem Lies.alloc (h : Lies w g t cs) (o : Obj) : Lies (w.alloc o) g t cs := (Below.heap_alloc w o g h.lt).trans h
theorem Lies.new (w : World) (t : TypeId) (cs : Array Value) : Lies (w.alloc (.cells cs t)) w.heap.size t cs := heap_alloc_new w _
theorem Lies.put (h : Lies w g t cs) (i : Nat) (v : Value) : Lies (w.setCell ⟨g, i, none⟩ v) g t (cs.setIfInBounds i v) := heap_setCell_same w g i cs t v h
theorem Lies.far (h : Lies w g t cs) {p : Addr} (hp : g ≠ p.block) (v : Value) : Lies (w.setCell p v) g t cs := (heap_setCell_other w p g v hp).trans h
theorem Lies.below {B : Nat} (h : Lies w g t cs) (hb : Below B w w') (hg : g < B) : Lies w' g t cs := (hb.block g hg).trans h
theorem Lies.on (h : Lies w g t cs) (hb : Below w.heap.size w w') : Lies w' g t cs := h.below hb h.lt
theorem Lies.only {row : Option Nat} (h : Lies w g t cs) (hb : w.grownBy w' row) (hg : some g ≠ row) : Lies w' g t cs := (hb.block g h.lt hg).trans h
theorem Lies.row (h : Lies w g t cs) (old : Array Value) : Lies (w.setRow g old) g t old := setRow_heap w g cs old t (0, 0) h
theorem Lies.rowFar {g' : Nat} (h : Lies w g t cs) (hg : g ≠ g') (old : Array Value) : Lies (w.setRow g' old) g t cs := (setRow_other w g' g old hg).trans h
end
theorem below_drawn {B : Nat} {a w : World} (h : Below B a w) (n : Nat) : Below B a (w.drewN n) := ⟨h.os, h.tape, h.output, h.size, h.block⟩

theorem below_rowSet {B : Nat} {a w : World} (h : Below B a w) {g : Nat} (hg : B ≤ g) (cs : Array Value) : Below B a (w.setRow g cs) :=
  h.trans ⟨rfl, rfl, rfl, by simp, fun k hk => setRow_other _ _ _ _ (by omega)⟩

/-! ### only block g, and what is new, has turned -/
abbrev Only (g : Nat) (a w : World) : Prop := a.grownBy w (some g)
section
variable {a w w' : World} {g : Nat}
theorem Only.refl (a : World) (g : Nat) : Only g a a := World.grownBy.refl a (some g)
theorem Only.trans (h : Only g a w) (k : Only g w w') : Only g a w' :=
  ⟨k.os.trans h.os, k.tape.trans h.tape, k.output.trans h.output, Nat.le_trans h.size k.size, fun i hi hne => (k.block i (Nat.lt_of_lt_of_le hi h.size) hne).trans (h.block i hi hne)⟩
theorem Only.drewN (h : Only g a w) (n : Nat) : Only g a (w.drewN n) := ⟨h.os, h.tape, h.output, h.size, h.block⟩
theorem Only.drew (h : Only g a w) : Only g a w.drew := ⟨h.os, h.tape, h.output, h.size, h.block⟩
theorem Only.alloc (h : Only g a w) (o : Obj) : Only g a (w.alloc o) :=
  ⟨h.os, h.tape, h.output, Nat.le_trans h.size (by simp), fun i hi hne => (Below.heap_alloc w o i (Nat.lt_of_lt_of_le hi h.size)).trans (h.block i hi hne)⟩
theorem Only.put (h : Only g a w) {p : Addr} (hp : p.block = g ∨ a.heap.size ≤ p.block) (u : Value) : Only g a (w.setCell p u) :=
  ⟨h.os, h.tape, h.output, by simpa [World.setCell] using h.size, fun i hi hne => (Below.heap_setCell w p u i (by
    rintro rfl
    rcases hp with hp | hp
    · exact hne (by rw [hp])
    · omega)).trans (h.block i hi hne)⟩
theorem Only.row (h : Only g a w) {k : Nat} (hk : k = g ∨ a.heap.size ≤ k) (cs : Array Value) : Only g a (w.setRow k cs) :=
  ⟨h.os, h.tape, h.output, by simpa using h.size, fun i hi hne => (setRow_other w k i cs (by
    rintro rfl
    rcases hk with hk | hk
    · exact hne (by rw [hk])
    · omega)).trans (h.block i hi hne)⟩
theorem Only.of_below (h : Below a.heap.size a w) (g : Nat) : Only g a w := ⟨h.os, h.tape, h.output, h.size, fun i hi _ => h.block i hi⟩
theorem Only.on (h : Only g a w) (k : Below w.heap.size w w') : Only g a w' := h.trans (Only.of_below k g)
/-- .. and g itself is new -/
theorem Only.below {B : Nat} {b : World} (h : Only g a w) (hb : Below B b a) (hB : B ≤ a.heap.size) (hg : B ≤ g) : Below B b w :=
  hb.grown h hB (fun k hk => by cases hk; exact hg)
end

/-- a type of rows or structs, of so many cells -/
def RowT (P : Program) (ty : TypeId) (n : Nat) : Prop := (∃ d, P.underlying ty = some d ∧ d.isRow = true) ∧ (P.info? ty).map (·.size) = some n
/-- cells of one value each -/
def Ones (cs : Array Value) : Prop := cs.all (·.oneCell') = true
theorem ones_of {cs : List Value} (h : ∀ v ∈ cs, v.oneCell' = true) : Ones cs.toArray := all_oneCell_toArray h

section
variable {P : Program} {ops : Array Oper} {rest : List Oper} {a : Act} {w : World} {Q : Exit → Act → World → Prop} {t' : TypeId} {pos : String} {after : Array Edge}
/-- a variable that is a whole block is read -/
theorem wpL_load {d : Option Tmp} {x : Tmp} {ty : TypeId} (g : Nat) (t : TypeId) (cs : Array Value) (n : Nat) (hT : RowT P ty n) (hn : cs.size = n) (hg : Lies w g t cs)
    (hx : a.eval (.tmp x) = .pointer (some ⟨g, 0, none⟩)) (h : wpList P ops Q rest (a.put d (.agg cs)) w) : wpList P ops Q (⟨d, .load ty (.tmp x), t', pos, after, none⟩ :: rest) a w := by
  obtain ⟨⟨ds, hu, hd⟩, hi⟩ := hT
  exact wpList_load_row (o := ⟨d, .load ty (.tmp x), t', pos, after, none⟩) rfl ty (.tmp x) rfl g hx t cs (0, 0) ds hg hu (by cases ds <;> first | rfl | simp [TypeDesc.isRow] at hd) (by rw [hi, hn]) h
/-- .. and written -/
theorem wpL_store {x y : Tmp} {ty : TypeId} (g : Nat) (t : TypeId) (old cs : Array Value) (n : Nat) (hT : RowT P ty n) (ho : old.size = n) (hn : cs.size = n) (h1 : Ones cs) (hg : Lies w g t old)
    (hx : a.eval (.tmp x) = .pointer (some ⟨g, 0, none⟩)) (hy : a.eval (.tmp y) = .agg cs) (h : wpList P ops Q rest (a.put none undef) (w.setRow g cs)) : wpList P ops Q (⟨none, .store ty (.tmp x) (.tmp y), t', pos, after, none⟩ :: rest) a w :=
  wpList_store_row (o := ⟨none, .store ty (.tmp x) (.tmp y), t', pos, after, none⟩) rfl ty (.tmp x) (.tmp y) rfl g cs hx hy t old hg (by rw [hT.2, hn]) (by rw [ho, hn]) h1 h
/-- some cells in the middle of a block are read -/
theorem wpL_loadMid {d : Option Tmp} {x : Tmp} {ty : TypeId} (g o : Nat) (cs : List Value) (n : Nat) (hT : RowT P ty n) (hn : cs.length = n) (hg : w.rangeAt g o cs)
    (hx : a.eval (.tmp x) = .pointer (some ⟨g, o, none⟩)) (h : wpList P ops Q rest (a.put d (.agg cs.toArray)) w) : wpList P ops Q (⟨d, .load ty (.tmp x), t', pos, after, none⟩ :: rest) a w := by
  obtain ⟨⟨ds, hu, hd⟩, hi⟩ := hT
  exact wpList_load_mid (op := ⟨d, .load ty (.tmp x), t', pos, after, none⟩) rfl ty (.tmp x) rfl g o hx cs ds hg hu hd (by rw [hi, hn]) h
end
/-- what a function hands back that lies in a variable -/
theorem results_row {P : Program} {fn : Func} {p : Tmp} {ty : TypeId} {n : Nat} {w : World} {g : Nat} {t : TypeId} {cs : Array Value} {tmps : Array Value} (h : fn.results = #[.cell p ty]) (hT : RowT P ty n) (hn : cs.size = n) (hg : Lies w g t cs) (hp : tmps.getD p undef = .pointer (some ⟨g, 0, none⟩)) :
    (results fn tmps).run P w = .ok (.agg cs) w := by
  obtain ⟨⟨ds, hu, hd⟩, hi⟩ := hT
  exact results_cell_row h tmps w g t cs (0, 0) ds hp hg hu (by cases ds <;> first | rfl | simp [TypeDesc.isRow] at hd) (by rw [hi, hn])

theorem results_row_tmp {P : Program} {fn : Func} {p u : Tmp} {ty : TypeId} {n : Nat} {w : World} {g : Nat} {t : TypeId} {cs : Array Value} {tmps : Array Value} {x : Value} (h : fn.results = #[.cell p ty, .tmp u]) (hT : RowT P ty n) (hn : cs.size = n) (hg : Lies w g t cs) (hp : tmps.getD p undef = .pointer (some ⟨g, 0, none⟩)) (hx : tmps.getD u undef = x) :
    (results fn tmps).run P w = .ok (.tuple #[.agg cs, x]) w := by
  obtain ⟨⟨d, hu, hd⟩, hi⟩ := hT
  have hl := run_loadVar_row (P := P) w g t ty cs (0, 0) d hg hu (by cases d <;> first | rfl | simp [TypeDesc.isRow] at hd) (by rw [hi, hn])
  have hp' : tmps[p]?.getD undef = .pointer (some ⟨g, 0, none⟩) := by simpa using hp
  have hx' : tmps[u]?.getD undef = x := by simpa using hx
  simp [results, h, hp', hx', asAddr, hl]

theorem own_on {wr w1 : World} {B : Nat} {e : TypeId} {v : Value} {n : Nat} {xs : List Value} (h : wr.ownsRow B e 1 v n xs) (hb : Below wr.heap.size wr w1) : w1.ownsRow B e 1 v n xs := by
  obtain ⟨hl, h⟩ := h
  refine ⟨hl, ?_⟩
  rcases h with h | ⟨g, cap, cur, hv, hg, hh, hr⟩
  · exact Or.inl h
  · exact Or.inr ⟨g, cap, cur, hv, hg, Lies.on (t := e) hh hb, hr⟩

theorem own_apart {w : World} {B e e' n n' : Nat} {v v' : Value} {xs xs' : List Value} (h : w.ownsRow B e 1 v n xs) (h' : w.ownsRow B e' 1 v' n' xs') (hne : e ≠ e') (g : Nat) (hv : v.ownBlock = some g) : v'.ownBlock ≠ some g := by
  rcases h.2 with ⟨rfl, _⟩ | ⟨g1, cap, cur, rfl, _, hh, _⟩
  · cases hv
  · rcases h'.2 with ⟨rfl, _⟩ | ⟨g2, cap2, cur2, rfl, _, hh2, _⟩
    · intro e; cases e
    · intro e2
      simp only [Value.ownBlock, Option.some.injEq] at hv e2
      subst hv
      subst e2
      rw [hh] at hh2
      injection hh2 with hh2
      injection hh2 with _ ht
      exact hne ht
theorem own_far {w : World} {B e n g t : Nat} {v : Value} {xs : List Value} {cs : Array Value} (h : w.ownsRow B e 1 v n xs) (hl : Lies w g t cs) (hne : e ≠ t) : v.ownBlock ≠ some g := by
  rcases h.2 with ⟨rfl, _⟩ | ⟨g1, cap, cur, rfl, _, hh, _⟩
  · intro e; cases e
  · intro e2
    simp only [Value.ownBlock, Option.some.injEq] at e2
    subst e2
    unfold Lies at hl
    rw [hh] at hl
    injection hl with hl
    injection hl with _ ht
    exact hne ht
theorem own_grown {w w' : World} {B e n : Nat} {v : Value} {xs : List Value} {row : Option Nat} (h : w.ownsRow B e 1 v n xs) (hg : w.grownBy w' row) (hne : ∀ g, v.ownBlock = some g → row ≠ some g) : w'.ownsRow B e 1 v n xs := by
  obtain ⟨hl, h⟩ := h
  refine ⟨hl, ?_⟩
  rcases h with h | ⟨g, cap, cur, hv, hB, hh, hr⟩
  · exact Or.inl h
  · refine Or.inr ⟨g, cap, cur, hv, hB, ?_, hr⟩
    have hlt := Lies.lt (t := e) hh
    exact (hg.block g hlt (fun e => hne g (by rw [hv]; rfl) e.symm)).trans hh

theorem own_less {w : World} {B B' e n : Nat} {v : Value} {xs : List Value} (h : w.ownsRow B e 1 v n xs) (hB : B' ≤ B) : w.ownsRow B' e 1 v n xs := by
  obtain ⟨hl, h⟩ := h
  refine ⟨hl, ?_⟩
  rcases h with h | ⟨g, cap, cur, hv, hg, hh, hr⟩
  · exact Or.inl h
  · exact Or.inr ⟨g, cap, cur, hv, Nat.le_trans hB hg, hh, hr⟩
/-- a row of nothing that was just laid -/
theorem own_empty {w : World} {B g : Nat} {e : TypeId} (hl : Lies w g e #[]) (hB : B ≤ g) : w.ownsRow B e 1 (.slice (some ⟨g, 0, none⟩) 0 0) 0 [] :=
  ⟨rfl, .inr ⟨g, 0, #[], rfl, hB, hl, Nat.le_refl _, Nat.zero_le _, rfl, rfl⟩⟩
/-- one value goes behind a row that the call owns -/
theorem wpL_append {P : Program} {ops : Array Oper} {rest : List Oper} {a : Act} {w : World} {Q : Exit → Act → World → Prop} {t' : TypeId} {pos : String} {after : Array Edge} {d : Option Tmp} {x y : Tmp} {ty : TypeId}
    (B : Nat) (e : TypeId) (i : TypeInfo) (z : Value) (bytes : Nat) (ht : P.underlying ty = some (.slice e)) (hi : P.info? e = some i) (hz : i.zero = some z) (hsize : i.size = 1) (hby : i.bytes = bytes) (hzs : z.cells.size = 1)
    (v : Value) (n : Nat) (xs : List Value) (hown : w.ownsRow B e 1 v n xs) (b : Nat) (u : Value) (hl : Lies w b e #[u]) (hu : u.oneCell' = true) (h63 : n + 1 ≤ maxLen) (hbytes : (n + 1) * bytes ≤ 140737488355328) (hbase : B ≤ w.heap.size)
    (hs : a.eval (.tmp x) = v) (hx : a.eval (.tmp y) = .slice (some ⟨b, 0, none⟩) 1 1)
    (h : ∀ g cap w', w'.ownsRow B e 1 (.slice (some ⟨g, 0, none⟩) (n + 1) cap) (n + 1) (xs ++ [u]) → w.grownBy w' v.ownBlock → wpList P ops Q rest (a.put d (.slice (some ⟨g, 0, none⟩) (n + 1) cap)) w') :
    wpList P ops Q (⟨d, .call { callee := .builtin .append, args := #[.tmp x, .tmp y], argTypes := #[ty, ty] }, t', pos, after, none⟩ :: rest) a w :=
  wpList_append_lies (o := ⟨d, .call { callee := .builtin .append, args := #[.tmp x, .tmp y], argTypes := #[ty, ty] }, t', pos, after, none⟩) w rfl _ _ ty rfl B e i z 1 bytes ht hi hz hsize hby hzs (by decide) v n xs hs hown ⟨b, 0, none⟩ 1 1 [u] hx rfl (World.news_of_block hl) (by simpa using hu) (by decide) h63 hbytes hbase w.heap.size rfl (fun g cap w' h2 h3 _ _ => h g cap w' h2 h3)


/-! ### digits that lie in memory -/
/-- digits lie there -/
def Dig (w : World) (g o : Nat) (l : List Nat) : Prop := ∀ i, i < l.length → w.cell? ⟨g, o + i, none⟩ = some (i64 (l.getD i 0))
theorem Dig.on {w w' : World} {g o : Nat} {l : List Nat} (h : Dig w g o l) (hb : Below w.heap.size w w') : Dig w' g o l := fun i hi => by
  have h1 := h i hi
  exact (hb.cell (p := ⟨g, o + i, none⟩) (World.block_lt_of_cell? w _ h1)).trans h1
theorem Dig.take {w : World} {g o : Nat} {l : List Nat} (h : Dig w g o l) (n : Nat) : Dig w g o (l.take n) := fun i hi => by
  rw [List.length_take] at hi
  have h1 := h i (by omega)
  rw [h1, List.getD_eq_getElem?_getD, List.getD_eq_getElem?_getD, List.getElem?_take_of_lt (by omega)]
theorem Dig.drop {w : World} {g o : Nat} {l : List Nat} (h : Dig w g o l) (n : Nat) : Dig w g (o + n) (l.drop n) := fun i hi => by
  rw [List.length_drop] at hi
  have h1 := h (n + i) (by omega)
  rw [Nat.add_assoc, h1, List.getD_eq_getElem?_getD, List.getD_eq_getElem?_getD, List.getElem?_drop]
theorem own_dig {w : World} {B g n cap : Nat} {e : TypeId} {l : List Nat} (h : w.ownsRow B e 1 (.slice (some ⟨g, 0, none⟩) n cap) n (l.map i64)) : Dig w g 0 l := fun i hi => by
  have hn : l.length = n := by simpa using h.1
  rw [Nat.zero_add, h.cellAt i (by omega), List.getElem?_map, List.getElem?_eq_getElem hi, List.getD_eq_getElem?_getD, List.getElem?_eq_getElem hi]
  rfl
theorem own_cap {w : World} {B g n cap : Nat} {e : TypeId} {xs : List Value} (h : w.ownsRow B e 1 (.slice (some ⟨g, 0, none⟩) n cap) n xs) : n ≤ cap := by
  rcases h.2 with ⟨hv, _⟩ | ⟨g', cap', cur, hv, _, _, h1, _⟩
  · cases hv
  · injection hv with _ _ hc
    omega
theorem own_at {w : World} {B g n cap : Nat} {e : TypeId} {l : List Nat} (h : w.ownsRow B e 1 (.slice (some ⟨g, 0, none⟩) n cap) n (l.map i64)) (i : Nat) (hi : i < n) : w.cell? ⟨g, i, none⟩ = some (i64 (l.getD i 0)) := by
  have hn : l.length = n := by simpa using h.1
  have := own_dig h i (by omega)
  rw [Nat.zero_add] at this
  exact this
theorem own_putv {w : World} {B g n cap : Nat} {e : TypeId} {l : List Nat} (h : w.ownsRow B e 1 (.slice (some ⟨g, 0, none⟩) n cap) n (l.map i64)) (j x : Nat) (v : Value) (hv : v = i64 x) :
    (w.setCell ⟨g, j, none⟩ v).ownsRow B e 1 (.slice (some ⟨g, 0, none⟩) n cap) n ((l.set j x).map i64) := by
  rw [hv, List.map_set]
  exact (h.stored j _).1
theorem made_zeros (n : Nat) : (madeCells #[Value.int .i64 0] n).toList = (List.replicate n 0).map i64 := by
  rw [List.map_replicate, toList_madeCells_one]
  rfl
/-- the number of the digits of a slice -/
def readV (v : Value) (w : World) : Nat := match v with
  | .slice (some ⟨g, o, none⟩) n _ => val ((List.range n).map fun i => match w.cell? ⟨g, o + i, none⟩ with | some (.int _ x) => x.toNat | _ => 0)
  | _ => 0
theorem readV_dig {w : World} {g o cap : Nat} {l : List Nat} (h : Dig w g o l) : readV (.slice (some ⟨g, o, none⟩) l.length cap) w = val l := by
  show val _ = val l
  congr 1
  apply List.ext_getElem (by simp)
  intro i h1 h2
  simp only [List.getElem_map, List.getElem_range]
  rw [h i h2, List.getD_eq_getElem?_getD, List.getElem?_eq_getElem h2]
  rfl

/-! ### numbers of four words -/
def feA (n : Nat) : Array Value := #[w64 (n % 18446744073709551616), w64 (n / 18446744073709551616 % 18446744073709551616), w64 (n / 340282366920938463463374607431768211456 % 18446744073709551616), w64 (n / 6277101735386680763835789423207666416102355444464034512896 % 18446744073709551616)]
abbrev fe (n : Nat) : Value := .agg (feA n)
abbrev K256 : Nat := 115792089237316195423570985008687907853269984665640564039457584007913129639936
theorem fe_of (a b c d : Nat) (ha : a < 18446744073709551616) (hb : b < 18446744073709551616) (hc : c < 18446744073709551616) (hd : d < 18446744073709551616) :
    ∃ n, n < K256 ∧ Value.agg #[w64 a, w64 b, w64 c, w64 d] = fe n ∧ n = a + 18446744073709551616 * b + 340282366920938463463374607431768211456 * c + 6277101735386680763835789423207666416102355444464034512896 * d := by
  obtain ⟨n, hn⟩ : ∃ n, a + 18446744073709551616 * b + 340282366920938463463374607431768211456 * c + 6277101735386680763835789423207666416102355444464034512896 * d = n := ⟨_, rfl⟩
  have e0 : n % 18446744073709551616 = a := by omega
  have e1 : n / 18446744073709551616 % 18446744073709551616 = b := by omega
  have e2 : n / 340282366920938463463374607431768211456 % 18446744073709551616 = c := by omega
  have e3 : n / 6277101735386680763835789423207666416102355444464034512896 % 18446744073709551616 = d := by omega
  refine ⟨n, by unfold K256; omega, ?_, hn.symm⟩
  unfold fe feA
  rw [e0, e1, e2, e3]
theorem fe_inj {m n : Nat} (hm : m < K256) (hn : n < K256) (h : fe m = fe n) : m = n := by
  unfold fe feA at h
  unfold K256 at hm hn
  simp only [Value.agg.injEq, Array.mk.injEq, List.cons.injEq, Value.int.injEq, true_and, and_true] at h
  omega
theorem feA_one (n : Nat) : Ones (feA n) := by unfold Ones feA; simp [Value.oneCell']
theorem feA_size (n : Nat) : (feA n).size = 4 := rfl
theorem Lies.loadFe {w : World} {g t n : Nat} (h : Lies w g t (feA n)) : (loadCells ⟨g, 0, none⟩ 4).run Tryd.prog w = .ok (feA n) w :=
  run_loadCells_list (P := Tryd.prog) w ⟨g, 0, none⟩ (feA n).toList (fun j v hv => by
    have hadd : (⟨g, 0, none⟩ : Addr).add j = ⟨g, j, none⟩ := by unfold Addr.add; split <;> simp_all
    rw [hadd, h.cell j]
    simpa using hv)
theorem Lies.storeFe {w : World} {g t : Nat} {cs : Array Value} (h : Lies w g t cs) (n : Nat) (hn : cs.size = 4 := by rfl) : (storeCells ⟨g, 0, none⟩ (feA n).toList).run Tryd.prog w = .ok () (w.setRow g (feA n)) := by
  have h2 := run_storeCells_from (P := Tryd.prog) g t (feA n).toList 0 cs w h (by rw [hn]; rfl) (fun v hv => (Array.all_eq_true_iff_forall_mem.1 (feA_one n)) v (by simpa using hv))
  rw [List.take_zero, List.nil_append, Array.toArray_toList] at h2
  exact h2
theorem row4 : RowT Tryd.prog 35 4 := ⟨⟨_, Tryd.underlying35, rfl⟩, by kernel_rfl⟩
end Go.Proofs.YtgefhfcmiefocaaDoor.F

/- The field's own type of numbers, of four words. -/
namespace Go.Proofs.YtgefhfcmiefocaaDoor.F
set_option maxRecDepth 100000
open Go.RowKit

theorem rowFe : RowT Tryd.prog 40 4 := ⟨⟨_, Tryd.underlying40, rfl⟩, by kernel_rfl⟩
end Go.Proofs.YtgefhfcmiefocaaDoor.F

/- The contracts of the reference's trim and carry: digits without zeros at the end. -/
namespace Go.Proofs.YtgefhfcmiefocaaDoor.F
set_option maxRecDepth 100000
open Go.RowKit

theorem info3 : (Tryd.prog.info? 3).map (fun i => (i.zero, i.size, i.bytes)) = some (some (.int .i64 0), 1, 8) := by kernel_rfl

theorem pre_set (p : List Nat) (n i x : Nat) (hp : p.length = i) (h : i < n) : (p ++ List.replicate (n - i) 0).set i x = (p ++ [x]) ++ List.replicate (n - (i + 1)) 0 := by
  rw [List.set_append_right _ _ (by omega), hp, Nat.sub_self, show n - i = (n - (i + 1)) + 1 by omega, List.replicate_succ, List.set_cons_zero, List.append_assoc]
  rfl
theorem carry_step (C X : Nat) (hC : C ≤ 1152921504606846976) (hX : X ≤ 1152921504606846976) : IntKind.i64.wrap ((C : Int) + (X : Int)) = ((C + X : Nat) : Int) := by
  rw [IntWalk.i64_in _ (by omega)]
  omega

end Go.Proofs.YtgefhfcmiefocaaDoor.F

/- Sums and products of digits, place by place; p's digits. Nothing of the program is named here. -/
namespace Go.Proofs.YtgefhfcmiefocaaDoor.F

theorem getD_set (l : List Nat) (i j x : Nat) (h : i < l.length) : (l.set i x).getD j 0 = if j = i then x else l.getD j 0 := by
  rw [List.getD_eq_getElem?_getD, List.getD_eq_getElem?_getD, List.getElem?_set]
  by_cases e : i = j
  · subst e
    simp [h]
  · rw [if_neg e, if_neg (fun h => e h.symm)]
theorem bd_of {M : Nat} {l : List Nat} (h : ∀ j, l.getD j 0 ≤ M) : Bd M l := fun d hd => by
  obtain ⟨j, hj, rfl⟩ := List.getElem_of_mem hd
  have := h j
  rw [List.getD_eq_getElem?_getD, List.getElem?_eq_getElem hj] at this
  exact this

/-! ### a sum -/
def plusS (s b : List Nat) : Nat → List Nat
  | 0 => s
  | k + 1 => (plusS s b k).set k ((plusS s b k).getD k 0 + b.getD k 0)
theorem plusS_length (s b : List Nat) (k : Nat) : (plusS s b k).length = s.length := by
  induction k with
  | zero => rfl
  | succ k ih => rw [plusS, List.length_set, ih]
theorem plusS_at (s b : List Nat) (k j : Nat) (hk : k ≤ s.length) : (plusS s b k).getD j 0 = if j < k then s.getD j 0 + b.getD j 0 else s.getD j 0 := by
  induction k with
  | zero => simp [plusS]
  | succ k ih =>
    have ih := ih (by omega)
    rw [plusS, getD_set _ _ _ _ (by rw [plusS_length]; omega)]
    by_cases e : j = k
    · subst e
      rw [if_pos rfl, ih, if_neg (by omega), if_pos (by omega)]
    · rw [if_neg e, ih]
      by_cases h : j < k
      · rw [if_pos h, if_pos (by omega)]
      · rw [if_neg h, if_neg (by omega)]
theorem plusS_val (s b : List Nat) (k : Nat) (hk : k ≤ s.length) : val (plusS s b k) = val s + val (b.take k) := by
  induction k with
  | zero => simp [plusS, val]
  | succ k ih =>
    have h1 := val_set (plusS s b k) k ((plusS s b k).getD k 0 + b.getD k 0) (by rw [plusS_length]; omega)
    have h2 := val_take_any b k
    have ih := ih (by omega)
    rw [Nat.mul_add] at h1
    rw [plusS]
    omega
theorem plusS_bd {s b : List Nat} (hs : Dg s) (hb : Dg b) (k : Nat) (hk : k ≤ s.length) : Bd 131072 (plusS s b k) := bd_of fun j => by
  have h1 := hs.at j
  have h2 := hb.at j
  rw [plusS_at _ _ _ _ hk]
  split <;> omega
theorem dg_zeros {a : List Nat} (ha : Dg a) (n : Nat) : Dg (a ++ List.replicate n 0) := fun d hd => by
  rw [List.mem_append, List.mem_replicate] at hd
  rcases hd with hd | ⟨_, rfl⟩
  · exact ha d hd
  · decide
theorem val_pad (a : List Nat) (n : Nat) : val (a ++ List.replicate n 0) = val a := by rw [val_append, val_zeros, Nat.mul_zero, Nat.add_zero]

/-! ### a product -/
def innS (a b : List Nat) (i : Nat) (s : List Nat) : Nat → List Nat
  | 0 => s
  | k + 1 => (innS a b i s k).set (i + k) ((innS a b i s k).getD (i + k) 0 + a.getD i 0 * b.getD k 0)
def outS (a b : List Nat) : Nat → List Nat
  | 0 => List.replicate (a.length + b.length) 0
  | i + 1 => innS a b i (outS a b i) b.length
theorem innS_length (a b : List Nat) (i : Nat) (s : List Nat) (k : Nat) : (innS a b i s k).length = s.length := by
  induction k with
  | zero => rfl
  | succ k ih => rw [innS, List.length_set, ih]
theorem outS_length (a b : List Nat) (i : Nat) : (outS a b i).length = a.length + b.length := by
  induction i with
  | zero => simp [outS]
  | succ i ih => rw [outS, innS_length, ih]
theorem innS_at (a b : List Nat) (i : Nat) (s : List Nat) (k j : Nat) (hk : i + k ≤ s.length) : (innS a b i s k).getD j 0 = if i ≤ j ∧ j < i + k then s.getD j 0 + a.getD i 0 * b.getD (j - i) 0 else s.getD j 0 := by
  induction k with
  | zero => rw [innS, if_neg (by omega)]
  | succ k ih =>
    have ih := ih (by omega)
    rw [innS, getD_set _ _ _ _ (by rw [innS_length]; omega)]
    by_cases e : j = i + k
    · subst e
      rw [if_pos rfl, ih, if_neg (by omega), if_pos (by omega), Nat.add_sub_cancel_left]
    · rw [if_neg e, ih]
      by_cases h : i ≤ j ∧ j < i + k
      · rw [if_pos h, if_pos (by omega)]
      · rw [if_neg h, if_neg (by omega)]
theorem innS_val (a b : List Nat) (i : Nat) (s : List Nat) (k : Nat) (hk : i + k ≤ s.length) : val (innS a b i s k) = val s + 65536 ^ i * (a.getD i 0 * val (b.take k)) := by
  induction k with
  | zero => simp [innS, val]
  | succ k ih =>
    have h1 := val_set (innS a b i s k) (i + k) ((innS a b i s k).getD (i + k) 0 + a.getD i 0 * b.getD k 0) (by rw [innS_length]; omega)
    have ih := ih (by omega)
    rw [Nat.mul_add] at h1
    rw [innS, val_take_any b k, Nat.mul_add, Nat.mul_add]
    have h3 : 65536 ^ (i + k) * (a.getD i 0 * b.getD k 0) = 65536 ^ i * (a.getD i 0 * (65536 ^ k * b.getD k 0)) := by
      rw [Nat.pow_add, Nat.mul_assoc, Nat.mul_left_comm (65536 ^ k)]
    omega
theorem outS_val (a b : List Nat) (i : Nat) (hi : i ≤ a.length) : val (outS a b i) = val (a.take i) * val b := by
  induction i with
  | zero => simp [outS, val, val_zeros]
  | succ i ih =>
    rw [outS, innS_val _ _ _ _ _ (by rw [outS_length]; omega), ih (by omega), List.take_of_length_le (Nat.le_refl b.length), val_take_any a i, Nat.add_mul, Nat.mul_assoc]
theorem outS_bd {a b : List Nat} (ha : Dg a) (hb : Dg b) (i : Nat) (hi : i ≤ a.length) (j : Nat) : (outS a b i).getD j 0 ≤ i * 4294836225 := by
  induction i with
  | zero =>
    rw [outS, List.getD_eq_getElem?_getD, List.getElem?_replicate]
    split <;> simp
  | succ i ih =>
    have ih := ih (by omega)
    have h1 := ha.at i
    have h2 := hb.at (j - i)
    have h3 := Nat.mul_le_mul (show a.getD i 0 ≤ 65535 by omega) (show b.getD (j - i) 0 ≤ 65535 by omega)
    have h4 := Nat.le_trans h3 (show 65535 * 65535 ≤ 4294836225 by decide)
    clear h3
    rw [outS, innS_at _ _ _ _ _ _ (by rw [outS_length]; omega), Nat.succ_mul]
    by_cases h : i ≤ j ∧ j < i + b.length
    · rw [if_pos h]
      exact Nat.add_le_add ih h4
    · rw [if_neg h]
      exact Nat.le_trans ih (Nat.le_add_right _ _)
theorem innS_bd {a b : List Nat} (ha : Dg a) (hb : Dg b) (i k : Nat) (hi : i ≤ a.length) (hk : k ≤ b.length) (hik : i < a.length) (j : Nat) : (innS a b i (outS a b i) k).getD j 0 ≤ (i + 1) * 4294836225 := by
  have ih := outS_bd ha hb i hi j
  have h1 := ha.at i
  have h2 := hb.at (j - i)
  have h3 := Nat.mul_le_mul (show a.getD i 0 ≤ 65535 by omega) (show b.getD (j - i) 0 ≤ 65535 by omega)
  have h4 := Nat.le_trans h3 (show 65535 * 65535 ≤ 4294836225 by decide)
  clear h3
  rw [innS_at _ _ _ _ _ _ (by rw [outS_length]; omega), Nat.succ_mul]
  by_cases h : i ≤ j ∧ j < i + k
  · rw [if_pos h]
    exact Nat.add_le_add ih h4
  · rw [if_neg h]
    exact Nat.le_trans ih (Nat.le_add_right _ _)

/-! ### p -/
def primeL : List Nat := [65517, 65535, 65535, 65535, 65535, 65535, 65535, 65535, 65535, 65535, 65535, 65535, 65535, 65535, 65535, 32767]
theorem prime_val : val primeL = p25 := by decide +kernel
theorem prime_dg : Dg primeL := by unfold Dg primeL; decide
theorem prime_tr : Tr primeL := fun n hn => by
  obtain rfl : n = 15 := by simp [primeL] at hn; omega
  decide
end Go.Proofs.YtgefhfcmiefocaaDoor.F

/- The contracts of the reference's Plus and Times. -/
namespace Go.Proofs.YtgefhfcmiefocaaDoor.F
set_option maxRecDepth 100000
open Go.RowKit

theorem below_put {B : Nat} {a w : World} (h : Below B a w) {g : Nat} (hg : B ≤ g) (i : Nat) (v : Value) : Below B a (w.setCell ⟨g, i, none⟩ v) := h.setCell (p := ⟨g, i, none⟩) hg v
theorem i64_sum (A B : Nat) (hA : A ≤ 1152921504606846976) (hB : B ≤ 1152921504606846976) : IntKind.i64.wrap ((A : Int) + (B : Int)) = ((A + B : Nat) : Int) := by
  rw [IntWalk.i64_in _ (by omega)]
  omega

end Go.Proofs.YtgefhfcmiefocaaDoor.F

/- The contracts of the reference's Digits and Words: four words as digits, and back. -/
namespace Go.Proofs.YtgefhfcmiefocaaDoor.F
set_option maxRecDepth 100000
open Go.RowKit

/-- a number of 64-bit words, word by word -/
def wordN (n j : Nat) : Nat := n / 18446744073709551616 ^ j % 18446744073709551616
theorem wordN_lt (n j : Nat) : wordN n j < 18446744073709551616 := Nat.mod_lt _ (by decide)
theorem feA_words (n : Nat) : feA n = #[w64 (wordN n 0), w64 (wordN n 1), w64 (wordN n 2), w64 (wordN n 3)] := by
  unfold feA wordN
  rw [Nat.pow_zero, Nat.div_one]
theorem index_four (a b c d : Nat) (i : Nat) (h : i < 4) (W : World) : (Instr.index 35 (.agg #[w64 a, w64 b, w64 c, w64 d]) (.int .i64 (i : Int))).run Tryd.prog W = .ok (w64 ([a, b, c, d].getD i 0)) W := by
  match i, h with
  | 0, _ | 1, _ | 2, _ | 3, _ => (show _ = _; kernel_rfl)
theorem index_word (n i : Nat) (h : i < 4) (W : World) : (Instr.index 35 (.agg #[w64 (wordN n 0), w64 (wordN n 1), w64 (wordN n 2), w64 (wordN n 3)]) (.int .i64 (i : Int))).run Tryd.prog W = .ok (w64 (wordN n i)) W := by
  rw [index_four _ _ _ _ i h]
  match i, h with
  | 0, _ | 1, _ | 2, _ | 3, _ => rfl

/-! ### digits of a number -/
def digN (n k : Nat) : Nat := n / 65536 ^ k % 65536
def dgL (n : Nat) : Nat → List Nat
  | 0 => []
  | k + 1 => dgL n k ++ [digN n k]
theorem dgL_length (n k : Nat) : (dgL n k).length = k := by
  induction k with
  | zero => rfl
  | succ k ih => rw [dgL, List.length_append, ih]; rfl
theorem dgL_dg (n k : Nat) : Dg (dgL n k) := by
  induction k with
  | zero => intro d hd; cases hd
  | succ k ih =>
    intro d hd
    rw [dgL, List.mem_append, List.mem_singleton] at hd
    rcases hd with hd | rfl
    · exact ih d hd
    · exact Nat.mod_lt _ (by decide)
theorem dgL_at (n k i : Nat) (h : i < k) : (dgL n k).getD i 0 = digN n i := by
  induction k with
  | zero => omega
  | succ k ih =>
    rw [dgL, List.getD_eq_getElem?_getD]
    by_cases e : i < k
    · rw [List.getElem?_append_left (by rw [dgL_length]; exact e), ← List.getD_eq_getElem?_getD, ih e]
    · obtain rfl : i = k := by omega
      rw [List.getElem?_append_right (by rw [dgL_length]; exact Nat.le_refl _), dgL_length, Nat.sub_self]
      rfl
theorem dgL_val (n k : Nat) : val (dgL n k) = n % 65536 ^ k := by
  induction k with
  | zero => simp [dgL, val, Nat.mod_one]
  | succ k ih => rw [dgL, val_snoc, ih, dgL_length, digN, Nat.pow_succ, Nat.mod_mul]
theorem dgL_full {n : Nat} (h : n < K256) : val (dgL n 16) = n := by
  rw [dgL_val, Nat.mod_eq_of_lt]
  exact h
/-- what is left of a word behind i digits -/
theorem word_digit (n j i : Nat) (hi : i < 4) : wordN n j / 65536 ^ i % 65536 = digN n (4 * j + i) := by
  unfold wordN digN
  have e1 : (18446744073709551616 : Nat) = 65536 ^ i * 65536 ^ (4 - i) := by rw [← Nat.pow_add, show i + (4 - i) = 4 by omega]
  have e2 : (65536 : Nat) ^ (4 * j + i) = 18446744073709551616 ^ j * 65536 ^ i := by rw [Nat.pow_add, Nat.pow_mul]
  have e3 : (65536 : Nat) ^ (4 - i) = 65536 * 65536 ^ (3 - i) := by rw [show 4 - i = (3 - i) + 1 by omega, Nat.pow_succ, Nat.mul_comm]
  rw [e2, ← Nat.div_div_eq_div_mul]
  generalize n / 18446744073709551616 ^ j = m
  rw [e1, Nat.mod_mul_right_div_self, e3, Nat.mod_mul_right_mod]
theorem left_next (x i : Nat) : x / 65536 ^ i / 65536 = x / 65536 ^ (i + 1) := by rw [Nat.div_div_eq_div_mul, Nat.pow_succ]

/-! ### digits as words -/
/-- what a word is when the digits from n on are there -/
def wrd (d : List Nat) (n j : Nat) : Nat := val ((d.drop (max n (4 * j))).take (4 * j + 4 - max n (4 * j)))
def wrdA (d : List Nat) (n : Nat) : Array Value := #[w64 (wrd d n 0), w64 (wrd d n 1), w64 (wrd d n 2), w64 (wrd d n 3)]
theorem wrd_start (d : List Nat) (j : Nat) : wrd d d.length j = 0 := by
  unfold wrd
  rw [List.drop_of_length_le (Nat.le_max_left _ _)]
  simp [val]
theorem wrd_other (d : List Nat) (n j : Nat) (h : j ≠ n / 4) : wrd d n j = wrd d (n + 1) j := by
  unfold wrd
  by_cases h1 : n < 4 * j
  · rw [Nat.max_eq_right (by omega), Nat.max_eq_right (by omega)]
  · rw [show 4 * j + 4 - max n (4 * j) = 0 by omega, show 4 * j + 4 - max (n + 1) (4 * j) = 0 by omega]
    rfl
theorem wrd_step (d : List Nat) (n : Nat) (h : n < d.length) : wrd d n (n / 4) = 65536 * wrd d (n + 1) (n / 4) + d.getD n 0 := by
  unfold wrd
  rw [Nat.max_eq_left (by omega), Nat.max_eq_left (by omega), show 4 * (n / 4) + 4 - n = (4 * (n / 4) + 4 - (n + 1)) + 1 by omega, List.drop_eq_getElem_cons h, List.take_succ_cons, val, List.getD_eq_getElem?_getD, List.getElem?_eq_getElem h]
  exact Nat.add_comm _ _
theorem wrd_lt {d : List Nat} (hd : Dg d) (n : Nat) : wrd d (n + 1) (n / 4) < 281474976710656 := by
  unfold wrd
  have h1 := val_lt ((hd.drop (max (n + 1) (4 * (n / 4)))).take (4 * (n / 4) + 4 - max (n + 1) (4 * (n / 4))))
  have h2 : 65536 ^ ((d.drop (max (n + 1) (4 * (n / 4)))).take (4 * (n / 4) + 4 - max (n + 1) (4 * (n / 4)))).length ≤ 65536 ^ 3 := Nat.pow_le_pow_right (by decide) (by rw [List.length_take]; omega)
  exact Nat.lt_of_lt_of_le h1 h2
theorem wrd_full {d : List Nat} (hd : Dg d) (j : Nat) : wrd d 0 j < 18446744073709551616 := by
  unfold wrd
  have h1 := val_lt ((hd.drop (max 0 (4 * j))).take (4 * j + 4 - max 0 (4 * j)))
  have h2 : 65536 ^ ((d.drop (max 0 (4 * j))).take (4 * j + 4 - max 0 (4 * j))).length ≤ 65536 ^ 4 := Nat.pow_le_pow_right (by decide) (by rw [List.length_take]; omega)
  exact Nat.lt_of_lt_of_le h1 h2
theorem val_four (l : List Nat) (n : Nat) : val l = val (l.take n) + 65536 ^ n * val (l.drop n) := by
  by_cases h : n ≤ l.length
  · exact val_split l n h
  · rw [List.take_of_length_le (by omega), List.drop_of_length_le (by omega)]
    simp [val]
theorem wrd_val {d : List Nat} (hl : d.length ≤ 16) : val d = wrd d 0 0 + 18446744073709551616 * wrd d 0 1 + 340282366920938463463374607431768211456 * wrd d 0 2 + 6277101735386680763835789423207666416102355444464034512896 * wrd d 0 3 := by
  have h0 := val_four d 4
  have h1 := val_four (d.drop 4) 4
  have h2 := val_four (d.drop 8) 4
  have h3 : (d.drop 12).take 4 = d.drop 12 := List.take_of_length_le (by rw [List.length_drop]; omega)
  rw [List.drop_drop] at h1 h2
  have e0 : wrd d 0 0 = val (d.take 4) := rfl
  have e1 : wrd d 0 1 = val ((d.drop 4).take 4) := rfl
  have e2 : wrd d 0 2 = val ((d.drop 8).take 4) := rfl
  have e3 : wrd d 0 3 = val ((d.drop 12).take 4) := rfl
  rw [h3] at e3
  have p4 : (65536 : Nat) ^ 4 = 18446744073709551616 := by decide
  rw [p4] at h0 h1 h2
  rw [e0, e1, e2, e3]
  have f1 : val (d.drop (4 + 4)) = val (d.drop 8) := rfl
  have f2 : val (d.drop (8 + 4)) = val (d.drop 12) := rfl
  omega
theorem wrdA_fe {d : List Nat} (hd : Dg d) (hl : d.length ≤ 16) : wrdA d 0 = feA (val d) := by
  obtain ⟨n, _, h, hn⟩ := fe_of _ _ _ _ (wrd_full hd 0) (wrd_full hd 1) (wrd_full hd 2) (wrd_full hd 3)
  rw [← wrd_val hl] at hn
  subst hn
  injection h
theorem wrdA_at (d : List Nat) (n j : Nat) (h : j < 4) : (wrdA d n)[j]? = some (w64 (wrd d n j)) := by
  match j, h with
  | 0, _ | 1, _ | 2, _ | 3, _ => rfl
theorem wrdA_set (d : List Nat) (n : Nat) (h : n < d.length) (h4 : n / 4 < 4) : (wrdA d (n + 1)).setIfInBounds (n / 4) (w64 (65536 * wrd d (n + 1) (n / 4) + d.getD n 0)) = wrdA d n := by
  rw [← wrd_step d n h]
  obtain ⟨q, hq⟩ : ∃ q, n / 4 = q := ⟨_, rfl⟩
  have ho := wrd_other d n
  rw [hq] at h4 ho ⊢
  unfold wrdA
  match q, h4, ho with
  | 0, _, ho => rw [← ho 1 (by decide), ← ho 2 (by decide), ← ho 3 (by decide)]; rfl
  | 1, _, ho => rw [← ho 0 (by decide), ← ho 2 (by decide), ← ho 3 (by decide)]; rfl
  | 2, _, ho => rw [← ho 0 (by decide), ← ho 1 (by decide), ← ho 3 (by decide)]; rfl
  | 3, _, ho => rw [← ho 0 (by decide), ← ho 1 (by decide), ← ho 2 (by decide)]; rfl
theorem wrdA_one (d : List Nat) (n : Nat) : Ones (wrdA d n) := by unfold Ones wrdA; simp [Value.oneCell']

end Go.Proofs.YtgefhfcmiefocaaDoor.F

/- What the program's own variables hold while the field's functions are called. -/
namespace Go.Proofs.YtgefhfcmiefocaaDoor.F
open Go.RowKit

/-- the variable that holds p does -/
def Tab (w : World) : Prop := ∀ i, i < 4 → w.cell? ⟨4, i, none⟩ = some (w64 (wordN p25 i))
theorem Tab.on {w w' : World} (h : Tab w) (hb : Below w.heap.size w w') : Tab w' := fun i hi => by
  have h1 := h i hi
  exact (hb.cell (p := ⟨4, i, none⟩) (World.block_lt_of_cell? w _ h1)).trans h1
/-- .. and the one that holds a root of -1 -/
def TabR (w : World) : Prop := ∀ i, i < 4 → w.cell? ⟨5, i, none⟩ = some (w64 (wordN i25 i))
theorem TabR.on {w w' : World} (h : TabR w) (hb : Below w.heap.size w w') : TabR w' := fun i hi => by
  have h1 := h i hi
  exact (hb.cell (p := ⟨5, i, none⟩) (World.block_lt_of_cell? w _ h1)).trans h1
def Tab2 (w : World) : Prop := Tab w ∧ TabR w
theorem Tab2.on {w w' : World} (h : Tab2 w) (hb : Below w.heap.size w w') : Tab2 w' := ⟨h.1.on hb, h.2.on hb⟩
end Go.Proofs.YtgefhfcmiefocaaDoor.F

/- The contract of the reference's Times. -/
namespace Go.Proofs.YtgefhfcmiefocaaDoor.F
set_option maxRecDepth 100000
open Go.RowKit

end Go.Proofs.YtgefhfcmiefocaaDoor.F

/- The contracts of the reference's Less and Minus. -/
namespace Go.Proofs.YtgefhfcmiefocaaDoor.F
set_option maxRecDepth 100000
open Go.RowKit

/-- a fresh row of n zeros -/
theorem bor_pos {A B L : Nat} (h : ¬ A < L + B) : (A : Int) - L - B = ((A - L - B : Nat) : Int) := by omega
theorem bor_neg {A B L : Nat} (hA : A < 65536) (hB : B < 65536) (hL : L ≤ 1) : (A : Int) - L - B + 65536 = ((A + 65536 - L - B : Nat) : Int) := by omega

end Go.Proofs.YtgefhfcmiefocaaDoor.F

/- The contract of the reference's Prime. -/
namespace Go.Proofs.YtgefhfcmiefocaaDoor.F
set_option maxRecDepth 100000
open Go.RowKit

end Go.Proofs.YtgefhfcmiefocaaDoor.F

/- The contract of the reference's fold: what digits leave, divided by p. -/
namespace Go.Proofs.YtgefhfcmiefocaaDoor.F
set_option maxRecDepth 100000
open Go.RowKit

theorem fold_step (l : List Nat) (r : List Nat) (h16 : 16 < l.length) (ht : Tr l) (hr : val r = val (l.take 16) + val (l.drop 16) * 38) : val r % p25 = val l % p25 ∧ val r < val l := by
  have h1 := val_split l 16 (by omega)
  obtain ⟨n, hn⟩ : ∃ n, l.length = n + 1 := ⟨l.length - 1, by omega⟩
  have h2 : Tr (l.drop 16) := fun k hk => by
    rw [List.length_drop] at hk
    rw [List.getD_eq_getElem?_getD, List.getElem?_drop, ← List.getD_eq_getElem?_getD]
    exact ht (16 + k) (by omega)
  have h3 := h2.ge (n - 16) (by rw [List.length_drop]; omega)
  have h4 : 1 ≤ 65536 ^ (n - 16) := Nat.pow_pos (by decide)
  have e : (65536 : Nat) ^ 16 = 38 + 2 * p25 := by decide +kernel
  rw [e, Nat.add_mul] at h1
  generalize val (l.drop 16) = H at *
  generalize val (l.take 16) = L at *
  have hp : 1 ≤ p25 := by decide
  have h5 : 2 * p25 * H = p25 * (2 * H) := by rw [Nat.mul_comm 2 p25, Nat.mul_assoc]
  rw [h5] at h1
  refine ⟨?_, ?_⟩
  · rw [hr, h1, show L + (38 * H + p25 * (2 * H)) = (L + H * 38) + p25 * (2 * H) by rw [Nat.mul_comm 38 H]; omega, Nat.add_mul_mod_self_left]
  · have h6 : p25 * 1 ≤ p25 * (2 * H) := Nat.mul_le_mul_left _ (by omega)
    omega

end Go.Proofs.YtgefhfcmiefocaaDoor.F

