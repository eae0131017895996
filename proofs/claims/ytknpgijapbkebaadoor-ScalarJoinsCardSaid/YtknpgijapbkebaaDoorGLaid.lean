/- What the listed variable gives: L; and a start that meets it. -/
import Derived.Test.YtknpgijapbkebaaDoorGTab
import Derived.Test.YtknpgijapbkebaaDoorGOpen
namespace Go.Proofs.YtknpgijapbkebaaDoor.F
open Go.ChangeShapes Go.WideShapes Go.ChangeAt Go.RowKit

/-- the list that every row lists -/
abbrev laidL : List (String × DataW Unit) := [("imprimatur/scalar.order", Rows.laid_imprimatur_scalar_order)]

theorem arr_cells {W : World} {name : String} {g t n fuel : Nat} {cs : Array Value} {p : List MemPlace} (L : List Nat) (hg : Tryd.prog.globalNamed name = some g) (ht : Tryd.prog.underlying t = some (.array n 22)) (hv : W.var? Tryd.prog name = some cs)
    (hd : DataW.trod (fun _ => ()) Tryd.prog W 0 (fun _ => true) false fuel t cs.toList = some (.agg (L.map fun x : Nat => .lit (.int .u64 (x : Int))), p)) (hn : L.length = n) :
    ∀ i, i < n → W.cell? ⟨g, i, none⟩ = some (w64 (L.getD i 0)) := by
  intro i hi
  obtain ⟨xs, m, rfl, hx, _, hxn, hel⟩ := DataW.trod_array ht hd
  have h1 := hel i hi
  simp only [Prod.mk.injEq, DataW.agg.injEq] at hx
  have hxi : xs[i]? = some (xs[i]'(by omega)) := List.getElem?_eq_getElem (by omega)
  rw [hxi, cellsU64, Nat.mul_one] at h1
  obtain ⟨k, e1, e2, _⟩ := DataW.trod_int Tryd.underlying22 h1
  have h2 : (xs.map (·.1))[i]? = some (.lit (.int .u64 k)) := by rw [List.getElem?_map, hxi, e2]; rfl
  rw [← hx.1, List.getElem?_map] at h2
  have hLi : L[i]? = some (L[i]'(by omega)) := List.getElem?_eq_getElem (by omega)
  rw [hLi] at h2
  simp only [Option.map_some, Option.some.injEq, DataW.lit.injEq, Lit.int.injEq, true_and] at h2
  rw [World.var?_cell hg hv i, ← Array.getElem?_toList]
  have h3 : ((cs.toList.drop i).take 1)[0]? = some (.int .u64 k) := by rw [e1]; rfl
  rw [List.getElem?_take, if_pos (by decide), List.getElem?_drop, Nat.add_zero] at h3
  rw [h3, ← h2, List.getD_eq_getElem?_getD, hLi]
  rfl

theorem gPr : Tryd.prog.globalNamed "imprimatur/scalar.order" = some 0 := by kernel_rfl
theorem tPr : (Tryd.prog.globals[0]?).map (·.type) = some 24 := by kernel_rfl
def prW : List Nat := [6346243789798364141, 1503914060200516822, 0, 1152921504606846976]
theorem prW_at (i : Nat) (h : i < 4) : prW.getD i 0 = wordN l25 i := by
  match i, h with
  | 0, _ | 1, _ | 2, _ | 3, _ => decide

theorem tab_of_laid {W : World} (h : laidMetH Tryd.prog laidL W) : Tab W := by
  rw [MakeChecks.laidMetH_plain _ _ _ (by kernel_rfl)] at h
  obtain ⟨ps, ⟨g0, t0, cs0, f0, p0, q0, hg0, ht0, hv0, hd0, _, _⟩, _, _⟩ := h
  obtain rfl := Option.some.inj (gPr.symm.trans hg0)
  obtain rfl := Option.some.inj (tPr.symm.trans ht0)
  have c0 := arr_cells prW gPr Tryd.underlying24 hv0 hd0 rfl
  exact fun i hi => by rw [← prW_at i hi]; exact c0 i hi

/-- the door's own heap meets the condition -/
theorem door_met (os : Os) (args : Array Value) : laidMetH Tryd.prog laidL ((World.doorLaid Tryd.prog 400 os).forCall (fun _ _ => 0) ⟨#[], args, []⟩).memory :=
  laidMetH_of_parts3 (fuel := 8) (laidMet_of_run' 8 (by kernel_rfl) (by kernel_rfl)) (by kernel_rfl) (by kernel_rfl)
end Go.Proofs.YtknpgijapbkebaaDoor.F
