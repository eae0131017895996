/- What the listed variables give: the two tables hold their constants; and a start that meets it. -/
import Derived.Test.YtmebiidgeaalpaaDoorRows
import Derived.Test.YtmebiidgeaalpaaDoorTMem
import Derived.ProofKit
import Derived.OpenShut
import Derived.ShutString
import Derived.ChangeOld
import Derived.LaidMore
import Derived.Stop.Joined
namespace Go.Proofs.YtmebiidgeaalpaaDoor.T
open Go.ChangeShapes Go.WideShapes Go.ChangeAt Go.RowKit

theorem rowOwn : ownKnob Tryd.prog.godebug = none := by kernel_rfl
theorem rowLaid : laidOutB Tryd.prog = true := by kernel_rfl

/-- the list that every row lists -/
abbrev laidL : List (String × DataW Unit) := [("imprimatur/sha512.squareRoots", Rows.laid_imprimatur_sha512_squareRoots), ("imprimatur/sha512.cubeRoots", Rows.laid_imprimatur_sha512_cubeRoots)]

theorem cells25 : Tryd.prog.cellsOf 25 = 1 := by kernel_rfl
theorem arr_cells {W : World} {name : String} {g t n fuel : Nat} {cs : Array Value} {p : List MemPlace} (L : List Nat) (hg : Tryd.prog.globalNamed name = some g) (ht : Tryd.prog.underlying t = some (.array n 25)) (hv : W.var? Tryd.prog name = some cs)
    (hd : DataW.trod (fun _ => ()) Tryd.prog W 0 (fun _ => true) false fuel t cs.toList = some (.agg (L.map fun x : Nat => .lit (.int .u64 (x : Int))), p)) (hn : L.length = n) :
    ∀ i, i < n → W.cell? ⟨g, i, none⟩ = some (w64 (L.getD i 0)) := by
  intro i hi
  obtain ⟨xs, m, rfl, hx, _, hxn, hel⟩ := DataW.trod_array ht hd
  have h1 := hel i hi
  simp only [Prod.mk.injEq, DataW.agg.injEq] at hx
  have hxi : xs[i]? = some (xs[i]'(by omega)) := List.getElem?_eq_getElem (by omega)
  rw [hxi, cells25, Nat.mul_one] at h1
  obtain ⟨k, e1, e2, _⟩ := DataW.trod_int Tryd.underlying25 h1
  have h2 : (xs.map (·.1))[i]? = some (.lit (.int .u64 k)) := by rw [List.getElem?_map, hxi, e2]; rfl
  rw [← hx.1, List.getElem?_map] at h2
  have hLi : L[i]? = some (L[i]'(by omega)) := List.getElem?_eq_getElem (by omega)
  rw [hLi] at h2
  simp only [Option.map_some, Option.some.injEq, DataW.lit.injEq, Lit.int.injEq, true_and] at h2
  rw [World.var?_cell hg hv i, ← Array.getElem?_toList]
  have h3 : ((cs.toList.drop i).take 1)[0]? = some (.int .u64 k) := by rw [e1]; rfl
  rw [List.getElem?_take, if_pos (by decide), List.getElem?_drop, Nat.add_zero] at h3
  rw [h3, ← h2, List.getD_eq_getElem?_getD, hLi]
  rfl

theorem gSq : Tryd.prog.globalNamed "imprimatur/sha512.squareRoots" = some 0 := by kernel_rfl
theorem gCu : Tryd.prog.globalNamed "imprimatur/sha512.cubeRoots" = some 1 := by kernel_rfl
theorem tSq : (Tryd.prog.globals[0]?).map (·.type) = some 26 := by kernel_rfl
theorem tCu : (Tryd.prog.globals[1]?).map (·.type) = some 63 := by kernel_rfl
def sq : List Nat := [h0.a, h0.b, h0.c, h0.d, h0.e, h0.f, h0.g, h0.h]
theorem sq_at (i : Nat) (h : i < 8) : sq.getD i 0 = h0.at i := by
  match i, h with
  | 0, _ | 1, _ | 2, _ | 3, _ | 4, _ | 5, _ | 6, _ | 7, _ => rfl

theorem tab_of_laid {W : World} (h : laidMetH Tryd.prog laidL W) : Tab W := by
  rw [MakeChecks.laidMetH_plain _ _ _ (by kernel_rfl)] at h
  obtain ⟨ps, ⟨g0, t0, cs0, f0, p0, q0, hg0, ht0, hv0, hd0, ⟨g1, t1, cs1, f1, p1, q1, hg1, ht1, hv1, hd1, _, _⟩, _⟩, _, _⟩ := h
  obtain rfl := Option.some.inj (gSq.symm.trans hg0)
  obtain rfl := Option.some.inj (gCu.symm.trans hg1)
  obtain rfl := Option.some.inj (tSq.symm.trans ht0)
  obtain rfl := Option.some.inj (tCu.symm.trans ht1)
  have c0 := arr_cells sq gSq Tryd.underlying26 hv0 hd0 rfl
  have c1 := arr_cells ks gCu Tryd.underlying63 hv1 hd1 rfl
  exact ⟨fun i hi => by rw [← sq_at i hi]; exact c0 i hi, c1⟩

/-- the door's own heap meets the condition -/
theorem door_met (os : Os) (args : Array Value) : laidMetH Tryd.prog laidL ((World.doorLaid Tryd.prog 400 os).forCall (fun _ _ => 0) ⟨#[], args, []⟩).memory :=
  laidMetH_of_parts3 (fuel := 8) (laidMet_of_run' 8 (by kernel_rfl) (by kernel_rfl)) (by kernel_rfl) (by kernel_rfl)
end Go.Proofs.YtmebiidgeaalpaaDoor.T
