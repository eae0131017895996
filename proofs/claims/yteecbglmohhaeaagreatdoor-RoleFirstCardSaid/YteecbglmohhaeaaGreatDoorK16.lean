/- Texts that stand on one another, put together: COpen, CLaid, TLaid, ULaid, OLaid. -/
import Derived.Test.YteecbglmohhaeaaGreatDoorK15
import Derived.ChangeOld
import Derived.Deep.Strs
import Derived.LaidMore
import Derived.OpenShut
import Derived.ProofKit
import Derived.ShutString
import Derived.Stop.Joined
import Derived.Test.YteecbglmohhaeaaGreatDoorRows
/- A number that comes in as an argument is one of four words. -/
namespace Go.Proofs.YteecbglmohhaeaaGreatDoor.C
open Go.Proofs.YteecbglmohhaeaaGreatDoor.F
set_option maxRecDepth 100000
open Go.ChangeShapes Go.WideShapes Go.ChangeAt Go.RowKit

theorem rowOwn : ownKnob Tryz.prog.godebug = none := by kernel_rfl
theorem cellsU64 : Tryz.prog.cellsOf 65 = 1 := by kernel_rfl
end Go.Proofs.YteecbglmohhaeaaGreatDoor.C

/- What the listed variables give; and a start that meets it. -/
namespace Go.Proofs.YteecbglmohhaeaaGreatDoor.C
open Go.Proofs.YteecbglmohhaeaaGreatDoor.F
set_option maxRecDepth 100000
open Go.ChangeShapes Go.WideShapes Go.ChangeAt Go.RowKit

theorem arr_cells {W : World} {name : String} {g t n fuel : Nat} {cs : Array Value} {p : List MemPlace} (L : List Nat) (hg : Tryz.prog.globalNamed name = some g) (ht : Tryz.prog.underlying t = some (.array n 65)) (hv : W.var? Tryz.prog name = some cs)
    (hd : DataW.trod (fun _ => ()) Tryz.prog W 0 (fun _ => true) false fuel t cs.toList = some (.agg (L.map fun x : Nat => .lit (.int .u64 (x : Int))), p)) (hn : L.length = n) :
    ∀ i, i < n → W.cell? ⟨g, i, none⟩ = some (w64 (L.getD i 0)) := by
  intro i hi
  obtain ⟨xs, m, rfl, hx, _, hxn, hel⟩ := DataW.trod_array ht hd
  have h1 := hel i hi
  simp only [Prod.mk.injEq, DataW.agg.injEq] at hx
  have hxi : xs[i]? = some (xs[i]'(by omega)) := List.getElem?_eq_getElem (by omega)
  rw [hxi, cellsU64, Nat.mul_one] at h1
  obtain ⟨k, e1, e2, _⟩ := DataW.trod_int Tryz.underlying65 h1
  have h2 : (xs.map (·.1))[i]? = some (.lit (.int .u64 k)) := by rw [List.getElem?_map, hxi, e2]; rfl
  rw [← hx.1, List.getElem?_map] at h2
  have hLi : L[i]? = some (L[i]'(by omega)) := List.getElem?_eq_getElem (by omega)
  rw [hLi] at h2
  simp only [Option.map_some, Option.some.injEq, DataW.lit.injEq, Lit.int.injEq, true_and] at h2
  rw [World.var?_cell hg hv i, ← Array.getElem?_toList]
  have h3 : ((cs.toList.drop i).take 1)[0]? = some (.int .u64 k) := by rw [e1]; rfl
  rw [List.getElem?_take, if_pos (by decide), List.getElem?_drop, Nat.add_zero] at h3
  rw [h3, ← h2, List.getD_eq_getElem?_getD, hLi]
  rfl

theorem g_pr : Tryz.prog.globalNamed "imprimatur/field.prime" = some 6 := by kernel_rfl
theorem t_pr : (Tryz.prog.globals[6]?).map (·.type) = some 72 := by kernel_rfl
def w_pr : List Nat := [18446744073709551597, 18446744073709551615, 18446744073709551615, 9223372036854775807]
theorem a_pr (i : Nat) (h : i < 4) : w_pr.getD i 0 = wordN p25 i := by
  match i, h with
  | 0, _ | 1, _ | 2, _ | 3, _ => decide
theorem g_ro : Tryz.prog.globalNamed "imprimatur/field.rootOfMinusOne" = some 7 := by kernel_rfl
theorem t_ro : (Tryz.prog.globals[7]?).map (·.type) = some 72 := by kernel_rfl
def w_ro : List Nat := [14190309331451158704, 3405592160176694392, 3120150775007532967, 3135389899092516619]
theorem a_ro (i : Nat) (h : i < 4) : w_ro.getD i 0 = wordN i25 i := by
  match i, h with
  | 0, _ | 1, _ | 2, _ | 3, _ => decide
theorem g_dd : Tryz.prog.globalNamed "imprimatur/point.d" = some 1 := by kernel_rfl
theorem t_dd : (Tryz.prog.globals[1]?).map (·.type) = some 72 := by kernel_rfl
def w_dd : List Nat := [8496970652267935907, 31536524315187371, 10144147576115030168, 5909686906226998899]
theorem a_dd (i : Nat) (h : i < 4) : w_dd.getD i 0 = wordN dN i := by
  match i, h with
  | 0, _ | 1, _ | 2, _ | 3, _ => decide
theorem g_bx : Tryz.prog.globalNamed "imprimatur/point.baseX" = some 4 := by kernel_rfl
theorem t_bx : (Tryz.prog.globals[4]?).map (·.type) = some 72 := by kernel_rfl
def w_bx : List Nat := [14507833142362363162, 7578651490590762930, 13881468655802702940, 2407515759118799870]
theorem a_bx (i : Nat) (h : i < 4) : w_bx.getD i 0 = wordN bxN i := by
  match i, h with
  | 0, _ | 1, _ | 2, _ | 3, _ => decide
theorem g_by : Tryz.prog.globalNamed "imprimatur/point.baseY" = some 5 := by kernel_rfl
theorem t_by : (Tryz.prog.globals[5]?).map (·.type) = some 72 := by kernel_rfl
def w_by : List Nat := [7378697629483820632, 7378697629483820646, 7378697629483820646, 7378697629483820646]
theorem a_by (i : Nat) (h : i < 4) : w_by.getD i 0 = wordN byN i := by
  match i, h with
  | 0, _ | 1, _ | 2, _ | 3, _ => decide
theorem g_or : Tryz.prog.globalNamed "imprimatur/scalar.order" = some 9 := by kernel_rfl
theorem t_or : (Tryz.prog.globals[9]?).map (·.type) = some 67 := by kernel_rfl
def w_or : List Nat := [6346243789798364141, 1503914060200516822, 0, 1152921504606846976]
theorem a_or (i : Nat) (h : i < 4) : w_or.getD i 0 = wordN G.l25 i := by
  match i, h with
  | 0, _ | 1, _ | 2, _ | 3, _ => decide
abbrev laidO : List (String × DataW Unit) := [("imprimatur/field.prime", Rows.laid_imprimatur_field_prime), ("imprimatur/point.d", Rows.laid_imprimatur_point_d), ("imprimatur/point.baseX", Rows.laid_imprimatur_point_baseX), ("imprimatur/point.baseY", Rows.laid_imprimatur_point_baseY), ("imprimatur/scalar.order", Rows.laid_imprimatur_scalar_order)]
theorem tabO_of_laid {W : World} (h : laidMetH Tryz.prog laidO W) : PtTab W ∧ G.Tab W := by
  rw [MakeChecks.laidMetH_plain _ _ _ (by kernel_rfl)] at h
  obtain ⟨ps, ⟨g0, t0, cs0, f0, p0, q0, hg0, ht0, hv0, hd0, ⟨g1, t1, cs1, f1, p1, q1, hg1, ht1, hv1, hd1, ⟨g2, t2, cs2, f2, p2, q2, hg2, ht2, hv2, hd2, ⟨g3, t3, cs3, f3, p3, q3, hg3, ht3, hv3, hd3, ⟨g4, t4, cs4, f4, p4, q4, hg4, ht4, hv4, hd4, _, _⟩, _⟩, _⟩, _⟩, _⟩, _, _⟩ := h
  obtain rfl := Option.some.inj (g_pr.symm.trans hg0)
  obtain rfl := Option.some.inj (g_dd.symm.trans hg1)
  obtain rfl := Option.some.inj (g_bx.symm.trans hg2)
  obtain rfl := Option.some.inj (g_by.symm.trans hg3)
  obtain rfl := Option.some.inj (g_or.symm.trans hg4)
  obtain rfl := Option.some.inj (t_pr.symm.trans ht0)
  obtain rfl := Option.some.inj (t_dd.symm.trans ht1)
  obtain rfl := Option.some.inj (t_bx.symm.trans ht2)
  obtain rfl := Option.some.inj (t_by.symm.trans ht3)
  obtain rfl := Option.some.inj (t_or.symm.trans ht4)
  have c_pr : VarN 6 p25 W := fun i hi => by rw [← a_pr i hi]; exact arr_cells w_pr g_pr Tryz.underlying72 hv0 hd0 rfl i hi
  have c_dd : VarN 1 dN W := fun i hi => by rw [← a_dd i hi]; exact arr_cells w_dd g_dd Tryz.underlying72 hv1 hd1 rfl i hi
  have c_bx : VarN 4 bxN W := fun i hi => by rw [← a_bx i hi]; exact arr_cells w_bx g_bx Tryz.underlying72 hv2 hd2 rfl i hi
  have c_by : VarN 5 byN W := fun i hi => by rw [← a_by i hi]; exact arr_cells w_by g_by Tryz.underlying72 hv3 hd3 rfl i hi
  have c_or : VarN 9 G.l25 W := fun i hi => by rw [← a_or i hi]; exact arr_cells w_or g_or Tryz.underlying67 hv4 hd4 rfl i hi
  exact ⟨⟨c_pr, c_dd, c_bx, c_by⟩, c_or⟩
theorem door_metO (os : Os) (args : Array Value) : laidMetH Tryz.prog laidO ((World.doorLaid Tryz.prog 400 os).forCall (fun _ _ => 0) ⟨#[], args, []⟩).memory :=
  laidMetH_of_parts3 (fuel := 8) (laidMet_of_run' 8 (by kernel_rfl) (by kernel_rfl)) (by kernel_rfl) (by kernel_rfl)
end Go.Proofs.YteecbglmohhaeaaGreatDoor.C

/- What the listed variables give: the two tables hold their constants; and a start that meets it. -/
namespace Go.Proofs.YteecbglmohhaeaaGreatDoor.T
open Go.ChangeShapes Go.WideShapes Go.ChangeAt Go.RowKit

theorem rowOwn : ownKnob Tryz.prog.godebug = none := by kernel_rfl
theorem cells25 : Tryz.prog.cellsOf 65 = 1 := by kernel_rfl
theorem arr_cells {W : World} {name : String} {g t n fuel : Nat} {cs : Array Value} {p : List MemPlace} (L : List Nat) (hg : Tryz.prog.globalNamed name = some g) (ht : Tryz.prog.underlying t = some (.array n 65)) (hv : W.var? Tryz.prog name = some cs)
    (hd : DataW.trod (fun _ => ()) Tryz.prog W 0 (fun _ => true) false fuel t cs.toList = some (.agg (L.map fun x : Nat => .lit (.int .u64 (x : Int))), p)) (hn : L.length = n) :
    ∀ i, i < n → W.cell? ⟨g, i, none⟩ = some (w64 (L.getD i 0)) := by
  intro i hi
  obtain ⟨xs, m, rfl, hx, _, hxn, hel⟩ := DataW.trod_array ht hd
  have h1 := hel i hi
  simp only [Prod.mk.injEq, DataW.agg.injEq] at hx
  have hxi : xs[i]? = some (xs[i]'(by omega)) := List.getElem?_eq_getElem (by omega)
  rw [hxi, cells25, Nat.mul_one] at h1
  obtain ⟨k, e1, e2, _⟩ := DataW.trod_int Tryz.underlying65 h1
  have h2 : (xs.map (·.1))[i]? = some (.lit (.int .u64 k)) := by rw [List.getElem?_map, hxi, e2]; rfl
  rw [← hx.1, List.getElem?_map] at h2
  have hLi : L[i]? = some (L[i]'(by omega)) := List.getElem?_eq_getElem (by omega)
  rw [hLi] at h2
  simp only [Option.map_some, Option.some.injEq, DataW.lit.injEq, Lit.int.injEq, true_and] at h2
  rw [World.var?_cell hg hv i, ← Array.getElem?_toList]
  have h3 : ((cs.toList.drop i).take 1)[0]? = some (.int .u64 k) := by rw [e1]; rfl
  rw [List.getElem?_take, if_pos (by decide), List.getElem?_drop, Nat.add_zero] at h3
  rw [h3, ← h2, List.getD_eq_getElem?_getD, hLi]
  rfl

theorem gSq : Tryz.prog.globalNamed "imprimatur/sha512.squareRoots" = some 3 := by kernel_rfl
theorem gCu : Tryz.prog.globalNamed "imprimatur/sha512.cubeRoots" = some 8 := by kernel_rfl
theorem tSq : (Tryz.prog.globals[3]?).map (·.type) = some 106 := by kernel_rfl
theorem tCu : (Tryz.prog.globals[8]?).map (·.type) = some 198 := by kernel_rfl
def sq : List Nat := [h0.a, h0.b, h0.c, h0.d, h0.e, h0.f, h0.g, h0.h]
theorem sq_at (i : Nat) (h : i < 8) : sq.getD i 0 = h0.at i := by
  match i, h with
  | 0, _ | 1, _ | 2, _ | 3, _ | 4, _ | 5, _ | 6, _ | 7, _ => rfl

end Go.Proofs.YteecbglmohhaeaaGreatDoor.T

/- What the listed variables give: the two tables hold their constants; and a start that meets it. -/
namespace Go.Proofs.YteecbglmohhaeaaGreatDoor.U
open Go.ChangeShapes Go.WideShapes Go.ChangeAt Go.RowKit

theorem rowOwn : ownKnob Tryz.prog.godebug = none := by kernel_rfl
theorem cells25 : Tryz.prog.cellsOf 88 = 1 := by kernel_rfl
theorem arr_cells {W : World} {name : String} {g t n fuel : Nat} {cs : Array Value} {p : List MemPlace} (L : List Nat) (hg : Tryz.prog.globalNamed name = some g) (ht : Tryz.prog.underlying t = some (.array n 88)) (hv : W.var? Tryz.prog name = some cs)
    (hd : DataW.trod (fun _ => ()) Tryz.prog W 0 (fun _ => true) false fuel t cs.toList = some (.agg (L.map fun x : Nat => .lit (.int .u32 (x : Int))), p)) (hn : L.length = n) :
    ∀ i, i < n → W.cell? ⟨g, i, none⟩ = some (u32 (L.getD i 0)) := by
  intro i hi
  obtain ⟨xs, m, rfl, hx, _, hxn, hel⟩ := DataW.trod_array ht hd
  have h1 := hel i hi
  simp only [Prod.mk.injEq, DataW.agg.injEq] at hx
  have hxi : xs[i]? = some (xs[i]'(by omega)) := List.getElem?_eq_getElem (by omega)
  rw [hxi, cells25, Nat.mul_one] at h1
  obtain ⟨k, e1, e2, _⟩ := DataW.trod_int Tryz.underlying88 h1
  have h2 : (xs.map (·.1))[i]? = some (.lit (.int .u32 k)) := by rw [List.getElem?_map, hxi, e2]; rfl
  rw [← hx.1, List.getElem?_map] at h2
  have hLi : L[i]? = some (L[i]'(by omega)) := List.getElem?_eq_getElem (by omega)
  rw [hLi] at h2
  simp only [Option.map_some, Option.some.injEq, DataW.lit.injEq, Lit.int.injEq, true_and] at h2
  rw [World.var?_cell hg hv i, ← Array.getElem?_toList]
  have h3 : ((cs.toList.drop i).take 1)[0]? = some (.int .u32 k) := by rw [e1]; rfl
  rw [List.getElem?_take, if_pos (by decide), List.getElem?_drop, Nat.add_zero] at h3
  rw [h3, ← h2, List.getD_eq_getElem?_getD, hLi]
  rfl

theorem gSq : Tryz.prog.globalNamed "imprimatur/sha256.squareRoots" = some 0 := by kernel_rfl
theorem gCu : Tryz.prog.globalNamed "imprimatur/sha256.cubeRoots" = some 2 := by kernel_rfl
theorem tSq : (Tryz.prog.globals[0]?).map (·.type) = some 89 := by kernel_rfl
theorem tCu : (Tryz.prog.globals[2]?).map (·.type) = some 156 := by kernel_rfl
def sq : List Nat := [h0.a, h0.b, h0.c, h0.d, h0.e, h0.f, h0.g, h0.h]
theorem sq_at (i : Nat) (h : i < 8) : sq.getD i 0 = h0.at i := by
  match i, h with
  | 0, _ | 1, _ | 2, _ | 3, _ | 4, _ | 5, _ | 6, _ | 7, _ => rfl

end Go.Proofs.YteecbglmohhaeaaGreatDoor.U

/- What the listed variables give: the tables and numbers hold their constants; and starts that meet it. -/
namespace Go.Proofs.YteecbglmohhaeaaGreatDoor.O
open Go.ChangeShapes Go.WideShapes Go.ChangeAt Go.RowKit Go.Proofs.YteecbglmohhaeaaGreatDoor.F Go.Proofs.YteecbglmohhaeaaGreatDoor.C
set_option maxRecDepth 100000
abbrev laidO : List (String × DataW Unit) := [("imprimatur/field.rootOfMinusOne", Rows.laid_imprimatur_field_rootOfMinusOne), ("imprimatur/field.prime", Rows.laid_imprimatur_field_prime), ("imprimatur/point.d", Rows.laid_imprimatur_point_d), ("imprimatur/point.baseX", Rows.laid_imprimatur_point_baseX), ("imprimatur/point.baseY", Rows.laid_imprimatur_point_baseY), ("imprimatur/scalar.order", Rows.laid_imprimatur_scalar_order), ("imprimatur/sha256.squareRoots", Rows.laid_imprimatur_sha256_squareRoots), ("imprimatur/sha256.cubeRoots", Rows.laid_imprimatur_sha256_cubeRoots), ("imprimatur/sha512.squareRoots", Rows.laid_imprimatur_sha512_squareRoots), ("imprimatur/sha512.cubeRoots", Rows.laid_imprimatur_sha512_cubeRoots)]
theorem tabO_of_laid {W : World} (h : laidMetH Tryz.prog laidO W) : U.Tab W ∧ E.EdTab2 W := by
  rw [MakeChecks.laidMetH_plain _ _ _ (by kernel_rfl)] at h
  obtain ⟨ps, ⟨g0, t0, cs0, f0, p0, q0, hg0, ht0, hv0, hd0, ⟨g1, t1, cs1, f1, p1, q1, hg1, ht1, hv1, hd1, ⟨g2, t2, cs2, f2, p2, q2, hg2, ht2, hv2, hd2, ⟨g3, t3, cs3, f3, p3, q3, hg3, ht3, hv3, hd3, ⟨g4, t4, cs4, f4, p4, q4, hg4, ht4, hv4, hd4, ⟨g5, t5, cs5, f5, p5, q5, hg5, ht5, hv5, hd5, ⟨g6, t6, cs6, f6, p6, q6, hg6, ht6, hv6, hd6, ⟨g7, t7, cs7, f7, p7, q7, hg7, ht7, hv7, hd7, ⟨g8, t8, cs8, f8, p8, q8, hg8, ht8, hv8, hd8, ⟨g9, t9, cs9, f9, p9, q9, hg9, ht9, hv9, hd9, _, _⟩, _⟩, _⟩, _⟩, _⟩, _⟩, _⟩, _⟩, _⟩, _⟩, _⟩ := h
  obtain rfl := Option.some.inj (C.g_ro.symm.trans hg0)
  obtain rfl := Option.some.inj (C.g_pr.symm.trans hg1)
  obtain rfl := Option.some.inj (C.g_dd.symm.trans hg2)
  obtain rfl := Option.some.inj (C.g_bx.symm.trans hg3)
  obtain rfl := Option.some.inj (C.g_by.symm.trans hg4)
  obtain rfl := Option.some.inj (C.g_or.symm.trans hg5)
  obtain rfl := Option.some.inj (U.gSq.symm.trans hg6)
  obtain rfl := Option.some.inj (U.gCu.symm.trans hg7)
  obtain rfl := Option.some.inj (T.gSq.symm.trans hg8)
  obtain rfl := Option.some.inj (T.gCu.symm.trans hg9)
  obtain rfl := Option.some.inj (C.t_ro.symm.trans ht0)
  obtain rfl := Option.some.inj (C.t_pr.symm.trans ht1)
  obtain rfl := Option.some.inj (C.t_dd.symm.trans ht2)
  obtain rfl := Option.some.inj (C.t_bx.symm.trans ht3)
  obtain rfl := Option.some.inj (C.t_by.symm.trans ht4)
  obtain rfl := Option.some.inj (C.t_or.symm.trans ht5)
  obtain rfl := Option.some.inj (U.tSq.symm.trans ht6)
  obtain rfl := Option.some.inj (U.tCu.symm.trans ht7)
  obtain rfl := Option.some.inj (T.tSq.symm.trans ht8)
  obtain rfl := Option.some.inj (T.tCu.symm.trans ht9)
  have c_ro : VarN 7 i25 W := fun i hi => by rw [← C.a_ro i hi]; exact C.arr_cells C.w_ro C.g_ro Tryz.underlying72 hv0 hd0 rfl i hi
  have c_pr : VarN 6 p25 W := fun i hi => by rw [← C.a_pr i hi]; exact C.arr_cells C.w_pr C.g_pr Tryz.underlying72 hv1 hd1 rfl i hi
  have c_dd : VarN 1 dN W := fun i hi => by rw [← C.a_dd i hi]; exact C.arr_cells C.w_dd C.g_dd Tryz.underlying72 hv2 hd2 rfl i hi
  have c_bx : VarN 4 bxN W := fun i hi => by rw [← C.a_bx i hi]; exact C.arr_cells C.w_bx C.g_bx Tryz.underlying72 hv3 hd3 rfl i hi
  have c_by : VarN 5 byN W := fun i hi => by rw [← C.a_by i hi]; exact C.arr_cells C.w_by C.g_by Tryz.underlying72 hv4 hd4 rfl i hi
  have c_or : VarN 9 G.l25 W := fun i hi => by rw [← C.a_or i hi]; exact C.arr_cells C.w_or C.g_or Tryz.underlying67 hv5 hd5 rfl i hi
  have c_sq2 := U.arr_cells U.sq U.gSq Tryz.underlying89 hv6 hd6 rfl
  have c_cu2 := U.arr_cells U.ks U.gCu Tryz.underlying156 hv7 hd7 rfl
  have c_sq5 := T.arr_cells T.sq T.gSq Tryz.underlying106 hv8 hd8 rfl
  have c_cu5 := T.arr_cells T.ks T.gCu Tryz.underlying198 hv9 hd9 rfl
  have h1 : U.Tab W := ⟨fun i hi => by rw [← U.sq_at i hi]; exact c_sq2 i hi, c_cu2⟩
  have h2 : E.EdTab W := ⟨⟨fun i hi => by rw [← T.sq_at i hi]; exact c_sq5 i hi, c_cu5⟩, c_or, ⟨c_pr, c_dd, c_bx, c_by⟩⟩
  exact ⟨h1, h2, c_ro⟩
theorem door_metO (os : Os) (args : Array Value) : laidMetH Tryz.prog laidO ((World.doorLaid Tryz.prog 400 os).forCall (fun _ _ => 0) ⟨#[], args, []⟩).memory :=
  laidMetH_of_parts3 (fuel := 8) (laidMet_of_run' 8 (by kernel_rfl) (by kernel_rfl)) (by kernel_rfl) (by kernel_rfl)
end Go.Proofs.YteecbglmohhaeaaGreatDoor.O

