/- Rows of texts in memory: what a slice of strings reads as. -/
import Derived.Test.YtaliafeekadecaaDoorBase
import Derived.Test.YtaliafeekadecaaDoorRowsMath
import Derived.Deep.QuietTactic
import Derived.BigQuiet
namespace Go.Proofs.YtaliafeekadecaaDoor
open Go.RowKit

def str (x : List UInt8) : Value := .string ⟨x.toArray⟩
/-- the slice value v reads as the texts l -/
def Strs (w : World) (v : Value) (l : List (List UInt8)) : Prop :=
  ∃ a c, v = .slice a l.length c ∧ l.length ≤ c ∧ c ≤ maxLen ∧ (a = none → c = 0) ∧ (l ≠ [] → ∃ b off, a = some ⟨b, off, none⟩ ∧ ∀ i x, l[i]? = some x → w.cell? ⟨b, off + i, none⟩ = some (str x))

theorem Strs.nil (w : World) : Strs w (.slice none 0 0) [] := ⟨none, 0, rfl, Nat.le_refl _, Nat.zero_le _, fun _ => rfl, fun h => absurd rfl h⟩
theorem Strs.below {w w' : World} {v : Value} {l : List (List UInt8)} (h : Strs w v l) (hb : Below w.heap.size w w') : Strs w' v l := by
  obtain ⟨a, c, hv, hc, hm, hn, hl⟩ := h
  refine ⟨a, c, hv, hc, hm, hn, fun hne => ?_⟩
  obtain ⟨b, off, ha, hx⟩ := hl hne
  refine ⟨b, off, ha, fun i x hi => ?_⟩
  have h1 := hx i x hi
  rw [hb.cell (p := ⟨b, off + i, none⟩) (World.block_lt_of_cell? w _ h1)]
  exact h1
theorem Strs.owned {w : World} {B n : Nat} {v : Value} {l : List (List UInt8)} (h : w.ownsRow B 9 1 v n (l.map str)) : Strs w v l := by
  have hn : l.length = n := by have := h.1; simpa using this
  subst hn
  have h0 := h
  rcases h.2 with ⟨rfl, e⟩ | ⟨g, cap, cur, rfl, _, _, hcap, hmax, _⟩
  · have : l = [] := List.eq_nil_of_length_eq_zero (by omega)
    subst this
    exact Strs.nil w
  · refine ⟨some ⟨g, 0, none⟩, cap, rfl, hcap, hmax, (fun e => by cases e), fun _ => ⟨g, 0, rfl, fun i x hi => ?_⟩⟩
    rw [Nat.zero_add, h0.cellAt i (by have := (List.getElem?_eq_some_iff.1 hi).1; omega)]
    simp [hi]

theorem str_size (x : List UInt8) : ({ data := x.toArray } : ByteArray).size = x.length := by simp [ByteArray.size]

end Go.Proofs.YtaliafeekadecaaDoor
