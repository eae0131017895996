/- The text builder's WriteString: what it leaves as it was, boxes of the callers' own among it. -/
import Derived.Test.YtaliafeekadecaaDoorBuild
import Derived.Test.YtaliafeekadecaaDoorVLies
import Derived.Test.YtaliafeekadecaaDoorVMem
namespace Go.Proofs.YtaliafeekadecaaDoor.V
open Go.RowKit
set_option maxRecDepth 100000

/-- all that lay there lies there as it was, but for the builder's block and rows of bytes -/
def Calm (b : Nat) (w w' : World) : Prop := w.heap.size ≤ w'.heap.size ∧ ∀ (k : Nat) (cs : Array Value) (t : TypeId) (fr : Nat × Nat), k ≠ b → t ≠ 5 → w.heap[k]? = some (.cells cs t fr) → w'.heap[k]? = some (.cells cs t fr)
theorem Calm.refl (b : Nat) (w : World) : Calm b w w := ⟨Nat.le_refl _, fun _ _ _ _ _ _ h => h⟩
theorem Calm.trans {b : Nat} {w w1 w2 : World} (h : Calm b w w1) (k : Calm b w1 w2) : Calm b w w2 := ⟨Nat.le_trans h.1 k.1, fun j cs t fr hj ht hc => k.2 j cs t fr hj ht (h.2 j cs t fr hj ht hc)⟩
theorem Calm.below {b : Nat} {w w' : World} (h : Below w.heap.size w w') : Calm b w w' := ⟨h.size, fun j cs t fr _ _ hc => (h.block j (by
  rcases Nat.lt_or_ge j w.heap.size with h1 | h1
  · exact h1
  · rw [Array.getElem?_eq_none h1] at hc; cases hc)).trans hc⟩
theorem Calm.lies {b g : Nat} {t : TypeId} {cs : Array Value} {w w' : World} (h : Calm b w w') (hg : g ≠ b) (ht : t ≠ 5) (hl : Lies w g t cs) : Lies w' g t cs := h.2 g cs t (0, 0) hg ht hl
theorem Calm.set {b : Nat} (w : World) (i : Nat) (v : Value) : Calm b w (w.setCell ⟨b, i, none⟩ v) := ⟨by simp [World.setCell], fun j cs t fr hj _ hc => (Below.heap_setCell _ _ _ _ hj).trans hc⟩
theorem Calm.grown {b B n : Nat} {v : Value} {ys : List Value} {w w' : World} (ho : w.ownsRow B 5 1 v n ys) (h : w.grownBy w' v.ownBlock) : Calm b w w' := by
  refine ⟨h.size, fun j cs t fr _ ht hc => ?_⟩
  have hj : j < w.heap.size := by
    rcases Nat.lt_or_ge j w.heap.size with h1 | h1
    · exact h1
    · rw [Array.getElem?_eq_none h1] at hc; cases hc
  refine (h.block j hj ?_).trans hc
  rcases ho.2 with ⟨rfl, _⟩ | ⟨g, cap, cur, rfl, _, hg, _⟩
  · simp [Value.ownBlock]
  · intro e
    simp only [Value.ownBlock, Option.some.injEq] at e
    subst e
    rw [hg] at hc
    simp only [Option.some.injEq, Obj.cells.injEq] at hc
    exact ht hc.2.1.symm
theorem check_calm (B b : Nat) (bs : List Value) (w : World) (h : Lib.IsBuilder 47 5 B b bs w) :
    Calls Tryd.prog 47 #[home b] w fun e w' => e = .returned (.tuple #[]) ∧ Lib.BuilderAt 47 5 B b (home b) bs w' ∧ Below B w w' ∧ Calm b w w' := by
  cases h with
  | inl new => exact (check_first b w new.cell0 new.shape new.frozen0).mono fun e w' ⟨he, hw⟩ => ⟨he, hw ▸ new.used (home b), hw ▸ (Below.refl B w).setCell (p := ⟨b, 0, none⟩) new.1 _, hw ▸ Calm.set w 0 _⟩
  | inr old => exact (check_again b w old.cell0).mono fun e w' ⟨he, hw⟩ => ⟨he, hw ▸ old, hw ▸ Below.refl B w, hw ▸ Calm.refl b w⟩
set_option maxHeartbeats 2000000 in
theorem write_calm (B b : Nat) (bs : List Value) (s : ByteArray) (w : World) (h : Lib.IsBuilder 47 5 B b bs w) (hlen : bs.length + s.size ≤ 200000000) (hBw : B ≤ w.heap.size) :
    Calls Tryd.prog 32 #[home b, .string s] w fun e w' => e = .returned (.tuple #[.int .i64 s.size, .nilIface]) ∧ Lib.BuilderAt 47 5 B b (home b) (bs ++ Lib.strCells s) w' ∧ Below B w w' ∧ Calm b w w' := by
  obtain ⟨i0, hi, hz0, hz1, hz2⟩ := info_parts info5
  go_enter Tryd.func32, Tryd.ntmps32
  go_wp2_with (go_at_call 47; refine (check_calm B b bs _ h).mono ?_)
  rintro e w1 ⟨rfl, ⟨hB, v, hbk, hown, hne⟩, hb1, hc1⟩
  have held := Lib.cell_of_heap hbk 0
  have kept := Lib.cell_of_heap hbk 1
  have room := hb1.size
  go_wp2_with (at_builtin; refine Lib.wpList_append_own_string _ rfl _ _ 45 9 rfl B 5 i0 Tryd.underlying45 Tryd.underlying9 hi hz0 hz1 hz2 _ _ _ rfl hown s rfl ?many ?bytes ?base ?_)
  case many => unfold maxLen; omega
  case bytes => omega
  case base => omega
  intro v' w2 hown' hgrow _
  obtain ⟨g0, g1, gf, made⟩ := grown_in hB hbk hne hgrow hown'
  have hb2 := (hb1.grown hgrow (by omega) (fun k hk => (hown.lt k hk).1)).setCell (p := ⟨b, 1, none⟩) hB v'
  have hc2 : Calm b w (w2.setCell ⟨b, 1, none⟩ v') := (hc1.trans (Calm.grown hown hgrow)).trans (Calm.set w2 1 v')
  have form : ∃ ao n' cap, v' = .slice ao n' cap := by
    rcases hown'.2 with ⟨hv, _⟩ | ⟨g, cap, cur, hv, _⟩ <;> exact ⟨_, _, _, hv⟩
  clear held kept hown hbk hown' hgrow
  obtain ⟨ao, n', cap, rfl⟩ := form
  go_wp2
  go_ret2
  exact ⟨rfl, made, hb2, hc2⟩
theorem own_on {k : Nat} {w w1 : World} {B : Nat} {e : TypeId} {v : Value} {n : Nat} {xs : List Value} (h : w.ownsRow B e k v n xs) (hb : Below w.heap.size w w1) : w1.ownsRow B e k v n xs := by
  obtain ⟨hl, h⟩ := h
  refine ⟨hl, ?_⟩
  rcases h with h | ⟨g, cap, cur, hv, hg, hh, hr⟩
  · exact Or.inl h
  · have hlt : g < w.heap.size := by
      rcases Nat.lt_or_ge g w.heap.size with h' | h'
      · exact h'
      · rw [Array.getElem?_eq_none h'] at hh; cases hh
    exact Or.inr ⟨g, cap, cur, hv, hg, (hb.block g hlt).trans hh, hr⟩
/-- the builder at work, its bytes as a list -/
def IsB (B b : Nat) (l : List UInt8) (w : World) : Prop := Lib.IsBuilder 47 5 B b (Lib.byteCells l) w
theorem strCells_list (s : ByteArray) : Lib.strCells s = Lib.byteCells s.data.toList := by
  unfold Lib.strCells Lib.byteCells
  rfl
theorem IsB.below {B b : Nat} {l : List UInt8} {w w1 : World} (h : IsB B b l w) (hb : Below w.heap.size w w1) : IsB B b l w1 := by
  have one : ∀ p, Lib.BuilderAt 47 5 B b p (Lib.byteCells l) w → Lib.BuilderAt 47 5 B b p (Lib.byteCells l) w1 := by
    intro p hp
    have hlt := hp.lt
    obtain ⟨hB, v, hh, ho, hne⟩ := hp
    refine ⟨hB, v, (hb.block b hlt).trans hh, own_on ho hb, hne⟩
  exact Or.imp (one _) (one _) h
theorem write_s (B b : Nat) (l x : List UInt8) (s : ByteArray) (w : World) (hx : s.data.toList = x) (h : IsB B b l w) (hlen : l.length + x.length ≤ 200000000) (hBw : B ≤ w.heap.size) :
    Calls Tryd.prog 32 #[.pointer (some ⟨b, 0, none⟩), .string s] w fun e w' => e = .returned (.tuple #[.int .i64 s.size, .nilIface]) ∧ (IsB B b (l ++ x) w' ∧ Below B w w' ∧ Calm b w w') := by
  subst hx
  have hsz : s.data.toList.length = s.size := Array.length_toList
  refine (write_calm B b (Lib.byteCells l) s w h (by rw [Lib.byteCells_length]; omega) hBw).mono fun e w' ⟨he, hat, hb, hc⟩ => ⟨he, Or.inr ?_, hb, hc⟩
  rw [Lib.byteCells_append, ← strCells_list]
  exact hat
theorem builder_new (w : World) : IsB w.heap.size w.heap.size [] (w.alloc (.cells #[.pointer none, .slice none 0 0] 47)) :=
  Or.inl ⟨Nat.le_refl _, _, heap_alloc_new w _, World.ownsRow_nil _ _ _ _, by simp [Value.ownBlock]⟩
theorem string_b (B b : Nat) (l : List UInt8) (w : World) (h : IsB B b l w) (hBw : B ≤ w.heap.size) :
    Calls Tryd.prog 34 #[.pointer (some ⟨b, 0, none⟩)] w fun e w' => e = .returned (.string ⟨l.toArray⟩) ∧ Below B w w' := Tryd.Builder_String_any B b l w h hBw
end Go.Proofs.YtaliafeekadecaaDoor.V
