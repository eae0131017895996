/- Texts that stand on one another, put together: COpen, CLaid, TLaid, ULaid, JLaid, Frame, JOpen, QAns, JParse, JRefP, JEq. -/
import Derived.Test.YtdjglghecekeoaaGreatDoorK11
import Derived.ChangeOld
import Derived.ChangeSame
import Derived.Deep.Strs
import Derived.LaidMore
import Derived.Lib.SmallJoins
import Derived.OpenShut
import Derived.ProofKit
import Derived.ShutString
import Derived.SliceStrings
import Derived.StillTailTactics
import Derived.Stop.Joined
import Derived.Test.YtdjglghecekeoaaGreatDoorRows
/- A number that comes in as an argument is one of four words. -/
namespace Go.Proofs.YtdjglghecekeoaaGreatDoor.C
open Go.Proofs.YtdjglghecekeoaaGreatDoor.F
set_option maxRecDepth 100000
open Go.ChangeShapes Go.WideShapes Go.ChangeAt Go.RowKit

theorem rowOwn : ownKnob Tryz.prog.godebug = none := by kernel_rfl
theorem rowLaid : laidOutB Tryz.prog = true := by kernel_rfl
theorem cellsU64 : Tryz.prog.cellsOf 54 = 1 := by kernel_rfl
end Go.Proofs.YtdjglghecekeoaaGreatDoor.C

/- What the listed variables give; and a start that meets it. -/
namespace Go.Proofs.YtdjglghecekeoaaGreatDoor.C
open Go.Proofs.YtdjglghecekeoaaGreatDoor.F
set_option maxRecDepth 100000
open Go.ChangeShapes Go.WideShapes Go.ChangeAt Go.RowKit

theorem arr_cells {W : World} {name : String} {g t n fuel : Nat} {cs : Array Value} {p : List MemPlace} (L : List Nat) (hg : Tryz.prog.globalNamed name = some g) (ht : Tryz.prog.underlying t = some (.array n 54)) (hv : W.var? Tryz.prog name = some cs)
    (hd : DataW.trod (fun _ => ()) Tryz.prog W 0 (fun _ => true) false fuel t cs.toList = some (.agg (L.map fun x : Nat => .lit (.int .u64 (x : Int))), p)) (hn : L.length = n) :
    ∀ i, i < n → W.cell? ⟨g, i, none⟩ = some (w64 (L.getD i 0)) := by
  intro i hi
  obtain ⟨xs, m, rfl, hx, _, hxn, hel⟩ := DataW.trod_array ht hd
  have h1 := hel i hi
  simp only [Prod.mk.injEq, DataW.agg.injEq] at hx
  have hxi : xs[i]? = some (xs[i]'(by omega)) := List.getElem?_eq_getElem (by omega)
  rw [hxi, cellsU64, Nat.mul_one] at h1
  obtain ⟨k, e1, e2, _⟩ := DataW.trod_int Tryz.underlying54 h1
  have h2 : (xs.map (·.1))[i]? = some (.lit (.int .u64 k)) := by rw [List.getElem?_map, hxi, e2]; rfl
  rw [← hx.1, List.getElem?_map] at h2
  have hLi : L[i]? = some (L[i]'(by omega)) := List.getElem?_eq_getElem (by omega)
  rw [hLi] at h2
  simp only [Option.map_some, Option.some.injEq, DataW.lit.injEq, Lit.int.injEq, true_and] at h2
  rw [World.var?_cell hg hv i, ← Array.getElem?_toList]
  have h3 : ((cs.toList.drop i).take 1)[0]? = some (.int .u64 k) := by rw [e1]; rfl
  rw [List.getElem?_take, if_pos (by decide), List.getElem?_drop, Nat.add_zero] at h3
  rw [h3, ← h2, List.getD_eq_getElem?_getD, hLi]
  rfl

theorem g_pr : Tryz.prog.globalNamed "imprimatur/field.prime" = some 5 := by kernel_rfl
theorem t_pr : (Tryz.prog.globals[5]?).map (·.type) = some 66 := by kernel_rfl
def w_pr : List Nat := [18446744073709551597, 18446744073709551615, 18446744073709551615, 9223372036854775807]
theorem a_pr (i : Nat) (h : i < 4) : w_pr.getD i 0 = wordN p25 i := by
  match i, h with
  | 0, _ | 1, _ | 2, _ | 3, _ => decide
theorem g_ro : Tryz.prog.globalNamed "imprimatur/field.rootOfMinusOne" = some 6 := by kernel_rfl
theorem t_ro : (Tryz.prog.globals[6]?).map (·.type) = some 66 := by kernel_rfl
def w_ro : List Nat := [14190309331451158704, 3405592160176694392, 3120150775007532967, 3135389899092516619]
theorem a_ro (i : Nat) (h : i < 4) : w_ro.getD i 0 = wordN i25 i := by
  match i, h with
  | 0, _ | 1, _ | 2, _ | 3, _ => decide
theorem g_dd : Tryz.prog.globalNamed "imprimatur/point.d" = some 0 := by kernel_rfl
theorem t_dd : (Tryz.prog.globals[0]?).map (·.type) = some 66 := by kernel_rfl
def w_dd : List Nat := [8496970652267935907, 31536524315187371, 10144147576115030168, 5909686906226998899]
theorem a_dd (i : Nat) (h : i < 4) : w_dd.getD i 0 = wordN dN i := by
  match i, h with
  | 0, _ | 1, _ | 2, _ | 3, _ => decide
theorem g_bx : Tryz.prog.globalNamed "imprimatur/point.baseX" = some 3 := by kernel_rfl
theorem t_bx : (Tryz.prog.globals[3]?).map (·.type) = some 66 := by kernel_rfl
def w_bx : List Nat := [14507833142362363162, 7578651490590762930, 13881468655802702940, 2407515759118799870]
theorem a_bx (i : Nat) (h : i < 4) : w_bx.getD i 0 = wordN bxN i := by
  match i, h with
  | 0, _ | 1, _ | 2, _ | 3, _ => decide
theorem g_by : Tryz.prog.globalNamed "imprimatur/point.baseY" = some 4 := by kernel_rfl
theorem t_by : (Tryz.prog.globals[4]?).map (·.type) = some 66 := by kernel_rfl
def w_by : List Nat := [7378697629483820632, 7378697629483820646, 7378697629483820646, 7378697629483820646]
theorem a_by (i : Nat) (h : i < 4) : w_by.getD i 0 = wordN byN i := by
  match i, h with
  | 0, _ | 1, _ | 2, _ | 3, _ => decide
theorem g_or : Tryz.prog.globalNamed "imprimatur/scalar.order" = some 9 := by kernel_rfl
theorem t_or : (Tryz.prog.globals[9]?).map (·.type) = some 61 := by kernel_rfl
def w_or : List Nat := [6346243789798364141, 1503914060200516822, 0, 1152921504606846976]
theorem a_or (i : Nat) (h : i < 4) : w_or.getD i 0 = wordN G.l25 i := by
  match i, h with
  | 0, _ | 1, _ | 2, _ | 3, _ => decide
end Go.Proofs.YtdjglghecekeoaaGreatDoor.C

/- What the listed variables give: the two tables hold their constants; and a start that meets it. -/
namespace Go.Proofs.YtdjglghecekeoaaGreatDoor.T
open Go.ChangeShapes Go.WideShapes Go.ChangeAt Go.RowKit

theorem rowOwn : ownKnob Tryz.prog.godebug = none := by kernel_rfl
theorem rowLaid : laidOutB Tryz.prog = true := by kernel_rfl

theorem cells25 : Tryz.prog.cellsOf 54 = 1 := by kernel_rfl
theorem arr_cells {W : World} {name : String} {g t n fuel : Nat} {cs : Array Value} {p : List MemPlace} (L : List Nat) (hg : Tryz.prog.globalNamed name = some g) (ht : Tryz.prog.underlying t = some (.array n 54)) (hv : W.var? Tryz.prog name = some cs)
    (hd : DataW.trod (fun _ => ()) Tryz.prog W 0 (fun _ => true) false fuel t cs.toList = some (.agg (L.map fun x : Nat => .lit (.int .u64 (x : Int))), p)) (hn : L.length = n) :
    ∀ i, i < n → W.cell? ⟨g, i, none⟩ = some (w64 (L.getD i 0)) := by
  intro i hi
  obtain ⟨xs, m, rfl, hx, _, hxn, hel⟩ := DataW.trod_array ht hd
  have h1 := hel i hi
  simp only [Prod.mk.injEq, DataW.agg.injEq] at hx
  have hxi : xs[i]? = some (xs[i]'(by omega)) := List.getElem?_eq_getElem (by omega)
  rw [hxi, cells25, Nat.mul_one] at h1
  obtain ⟨k, e1, e2, _⟩ := DataW.trod_int Tryz.underlying54 h1
  have h2 : (xs.map (·.1))[i]? = some (.lit (.int .u64 k)) := by rw [List.getElem?_map, hxi, e2]; rfl
  rw [← hx.1, List.getElem?_map] at h2
  have hLi : L[i]? = some (L[i]'(by omega)) := List.getElem?_eq_getElem (by omega)
  rw [hLi] at h2
  simp only [Option.map_some, Option.some.injEq, DataW.lit.injEq, Lit.int.injEq, true_and] at h2
  rw [World.var?_cell hg hv i, ← Array.getElem?_toList]
  have h3 : ((cs.toList.drop i).take 1)[0]? = some (.int .u64 k) := by rw [e1]; rfl
  rw [List.getElem?_take, if_pos (by decide), List.getElem?_drop, Nat.add_zero] at h3
  rw [h3, ← h2, List.getD_eq_getElem?_getD, hLi]
  rfl

theorem gSq : Tryz.prog.globalNamed "imprimatur/sha512.squareRoots" = some 2 := by kernel_rfl
theorem gCu : Tryz.prog.globalNamed "imprimatur/sha512.cubeRoots" = some 8 := by kernel_rfl
theorem tSq : (Tryz.prog.globals[2]?).map (·.type) = some 95 := by kernel_rfl
theorem tCu : (Tryz.prog.globals[8]?).map (·.type) = some 192 := by kernel_rfl
def sq : List Nat := [h0.a, h0.b, h0.c, h0.d, h0.e, h0.f, h0.g, h0.h]
theorem sq_at (i : Nat) (h : i < 8) : sq.getD i 0 = h0.at i := by
  match i, h with
  | 0, _ | 1, _ | 2, _ | 3, _ | 4, _ | 5, _ | 6, _ | 7, _ => rfl

end Go.Proofs.YtdjglghecekeoaaGreatDoor.T

/- What the listed variables give: the two tables hold their constants; and a start that meets it. -/
namespace Go.Proofs.YtdjglghecekeoaaGreatDoor.U
open Go.ChangeShapes Go.WideShapes Go.ChangeAt Go.RowKit

theorem rowOwn : ownKnob Tryz.prog.godebug = none := by kernel_rfl
theorem rowLaid : laidOutB Tryz.prog = true := by kernel_rfl

theorem cells25 : Tryz.prog.cellsOf 106 = 1 := by kernel_rfl
theorem arr_cells {W : World} {name : String} {g t n fuel : Nat} {cs : Array Value} {p : List MemPlace} (L : List Nat) (hg : Tryz.prog.globalNamed name = some g) (ht : Tryz.prog.underlying t = some (.array n 106)) (hv : W.var? Tryz.prog name = some cs)
    (hd : DataW.trod (fun _ => ()) Tryz.prog W 0 (fun _ => true) false fuel t cs.toList = some (.agg (L.map fun x : Nat => .lit (.int .u32 (x : Int))), p)) (hn : L.length = n) :
    ∀ i, i < n → W.cell? ⟨g, i, none⟩ = some (u32 (L.getD i 0)) := by
  intro i hi
  obtain ⟨xs, m, rfl, hx, _, hxn, hel⟩ := DataW.trod_array ht hd
  have h1 := hel i hi
  simp only [Prod.mk.injEq, DataW.agg.injEq] at hx
  have hxi : xs[i]? = some (xs[i]'(by omega)) := List.getElem?_eq_getElem (by omega)
  rw [hxi, cells25, Nat.mul_one] at h1
  obtain ⟨k, e1, e2, _⟩ := DataW.trod_int Tryz.underlying106 h1
  have h2 : (xs.map (·.1))[i]? = some (.lit (.int .u32 k)) := by rw [List.getElem?_map, hxi, e2]; rfl
  rw [← hx.1, List.getElem?_map] at h2
  have hLi : L[i]? = some (L[i]'(by omega)) := List.getElem?_eq_getElem (by omega)
  rw [hLi] at h2
  simp only [Option.map_some, Option.some.injEq, DataW.lit.injEq, Lit.int.injEq, true_and] at h2
  rw [World.var?_cell hg hv i, ← Array.getElem?_toList]
  have h3 : ((cs.toList.drop i).take 1)[0]? = some (.int .u32 k) := by rw [e1]; rfl
  rw [List.getElem?_take, if_pos (by decide), List.getElem?_drop, Nat.add_zero] at h3
  rw [h3, ← h2, List.getD_eq_getElem?_getD, hLi]
  rfl

theorem gSq : Tryz.prog.globalNamed "imprimatur/sha256.squareRoots" = some 1 := by kernel_rfl
theorem gCu : Tryz.prog.globalNamed "imprimatur/sha256.cubeRoots" = some 7 := by kernel_rfl
theorem tSq : (Tryz.prog.globals[1]?).map (·.type) = some 107 := by kernel_rfl
theorem tCu : (Tryz.prog.globals[7]?).map (·.type) = some 183 := by kernel_rfl
def sq : List Nat := [h0.a, h0.b, h0.c, h0.d, h0.e, h0.f, h0.g, h0.h]
theorem sq_at (i : Nat) (h : i < 8) : sq.getD i 0 = h0.at i := by
  match i, h with
  | 0, _ | 1, _ | 2, _ | 3, _ | 4, _ | 5, _ | 6, _ | 7, _ => rfl

end Go.Proofs.YtdjglghecekeoaaGreatDoor.U

/- What the listed variables give: the tables and numbers hold their constants; and starts that meet it. -/
namespace Go.Proofs.YtdjglghecekeoaaGreatDoor.J
open Go.ChangeShapes Go.WideShapes Go.ChangeAt Go.RowKit Go.Proofs.YtdjglghecekeoaaGreatDoor.F Go.Proofs.YtdjglghecekeoaaGreatDoor.C
set_option maxRecDepth 100000
abbrev laidA : List (String × DataW Unit) := [("imprimatur/field.prime", Rows.laid_imprimatur_field_prime), ("imprimatur/point.d", Rows.laid_imprimatur_point_d), ("imprimatur/point.baseX", Rows.laid_imprimatur_point_baseX), ("imprimatur/point.baseY", Rows.laid_imprimatur_point_baseY), ("imprimatur/scalar.order", Rows.laid_imprimatur_scalar_order), ("imprimatur/sha256.squareRoots", Rows.laid_imprimatur_sha256_squareRoots), ("imprimatur/sha256.cubeRoots", Rows.laid_imprimatur_sha256_cubeRoots), ("imprimatur/sha512.squareRoots", Rows.laid_imprimatur_sha512_squareRoots), ("imprimatur/sha512.cubeRoots", Rows.laid_imprimatur_sha512_cubeRoots)]
theorem tabA_of_laid {W : World} (h : laidMetH Tryz.prog laidA W) : HTab W := by
  rw [MakeChecks.laidMetH_plain _ _ _ (by kernel_rfl)] at h
  obtain ⟨ps, ⟨g0, t0, cs0, f0, p0, q0, hg0, ht0, hv0, hd0, ⟨g1, t1, cs1, f1, p1, q1, hg1, ht1, hv1, hd1, ⟨g2, t2, cs2, f2, p2, q2, hg2, ht2, hv2, hd2, ⟨g3, t3, cs3, f3, p3, q3, hg3, ht3, hv3, hd3, ⟨g4, t4, cs4, f4, p4, q4, hg4, ht4, hv4, hd4, ⟨g5, t5, cs5, f5, p5, q5, hg5, ht5, hv5, hd5, ⟨g6, t6, cs6, f6, p6, q6, hg6, ht6, hv6, hd6, ⟨g7, t7, cs7, f7, p7, q7, hg7, ht7, hv7, hd7, ⟨g8, t8, cs8, f8, p8, q8, hg8, ht8, hv8, hd8, _, _⟩, _⟩, _⟩, _⟩, _⟩, _⟩, _⟩, _⟩, _⟩, _⟩ := h
  obtain rfl := Option.some.inj (C.g_pr.symm.trans hg0)
  obtain rfl := Option.some.inj (C.g_dd.symm.trans hg1)
  obtain rfl := Option.some.inj (C.g_bx.symm.trans hg2)
  obtain rfl := Option.some.inj (C.g_by.symm.trans hg3)
  obtain rfl := Option.some.inj (C.g_or.symm.trans hg4)
  obtain rfl := Option.some.inj (U.gSq.symm.trans hg5)
  obtain rfl := Option.some.inj (U.gCu.symm.trans hg6)
  obtain rfl := Option.some.inj (T.gSq.symm.trans hg7)
  obtain rfl := Option.some.inj (T.gCu.symm.trans hg8)
  obtain rfl := Option.some.inj (C.t_pr.symm.trans ht0)
  obtain rfl := Option.some.inj (C.t_dd.symm.trans ht1)
  obtain rfl := Option.some.inj (C.t_bx.symm.trans ht2)
  obtain rfl := Option.some.inj (C.t_by.symm.trans ht3)
  obtain rfl := Option.some.inj (C.t_or.symm.trans ht4)
  obtain rfl := Option.some.inj (U.tSq.symm.trans ht5)
  obtain rfl := Option.some.inj (U.tCu.symm.trans ht6)
  obtain rfl := Option.some.inj (T.tSq.symm.trans ht7)
  obtain rfl := Option.some.inj (T.tCu.symm.trans ht8)
  have c_pr : VarN 5 p25 W := fun i hi => by rw [← C.a_pr i hi]; exact C.arr_cells C.w_pr C.g_pr Tryz.underlying66 hv0 hd0 rfl i hi
  have c_dd : VarN 0 dN W := fun i hi => by rw [← C.a_dd i hi]; exact C.arr_cells C.w_dd C.g_dd Tryz.underlying66 hv1 hd1 rfl i hi
  have c_bx : VarN 3 bxN W := fun i hi => by rw [← C.a_bx i hi]; exact C.arr_cells C.w_bx C.g_bx Tryz.underlying66 hv2 hd2 rfl i hi
  have c_by : VarN 4 byN W := fun i hi => by rw [← C.a_by i hi]; exact C.arr_cells C.w_by C.g_by Tryz.underlying66 hv3 hd3 rfl i hi
  have c_or : VarN 9 G.l25 W := fun i hi => by rw [← C.a_or i hi]; exact C.arr_cells C.w_or C.g_or Tryz.underlying61 hv4 hd4 rfl i hi
  have c_sq2 := U.arr_cells U.sq U.gSq Tryz.underlying107 hv5 hd5 rfl
  have c_cu2 := U.arr_cells U.ks U.gCu Tryz.underlying183 hv6 hd6 rfl
  have c_sq5 := T.arr_cells T.sq T.gSq Tryz.underlying95 hv7 hd7 rfl
  have c_cu5 := T.arr_cells T.ks T.gCu Tryz.underlying192 hv8 hd8 rfl
  have hH : HTab W := ⟨⟨fun i hi => by rw [← U.sq_at i hi]; exact c_sq2 i hi, c_cu2⟩, ⟨⟨fun i hi => by rw [← T.sq_at i hi]; exact c_sq5 i hi, c_cu5⟩, c_or, ⟨c_pr, c_dd, c_bx, c_by⟩⟩⟩
  exact hH
theorem door_metA (os : Os) (args : Array Value) : laidMetH Tryz.prog laidA ((World.doorLaid Tryz.prog 400 os).forCall (fun _ _ => 0) ⟨#[], args, []⟩).memory :=
  laidMetH_of_parts3 (fuel := 8) (laidMet_of_run' 8 (by kernel_rfl) (by kernel_rfl)) (by kernel_rfl) (by kernel_rfl)
abbrev laidS : List (String × DataW Unit) := [("imprimatur/field.rootOfMinusOne", Rows.laid_imprimatur_field_rootOfMinusOne), ("imprimatur/field.prime", Rows.laid_imprimatur_field_prime), ("imprimatur/point.d", Rows.laid_imprimatur_point_d), ("imprimatur/point.baseX", Rows.laid_imprimatur_point_baseX), ("imprimatur/point.baseY", Rows.laid_imprimatur_point_baseY), ("imprimatur/scalar.order", Rows.laid_imprimatur_scalar_order), ("imprimatur/sha256.squareRoots", Rows.laid_imprimatur_sha256_squareRoots), ("imprimatur/sha256.cubeRoots", Rows.laid_imprimatur_sha256_cubeRoots), ("imprimatur/sha512.squareRoots", Rows.laid_imprimatur_sha512_squareRoots), ("imprimatur/sha512.cubeRoots", Rows.laid_imprimatur_sha512_cubeRoots)]
theorem tabS_of_laid {W : World} (h : laidMetH Tryz.prog laidS W) : HTab W ∧ E.EdTab2 W := by
  rw [MakeChecks.laidMetH_plain _ _ _ (by kernel_rfl)] at h
  obtain ⟨ps, ⟨g0, t0, cs0, f0, p0, q0, hg0, ht0, hv0, hd0, ⟨g1, t1, cs1, f1, p1, q1, hg1, ht1, hv1, hd1, ⟨g2, t2, cs2, f2, p2, q2, hg2, ht2, hv2, hd2, ⟨g3, t3, cs3, f3, p3, q3, hg3, ht3, hv3, hd3, ⟨g4, t4, cs4, f4, p4, q4, hg4, ht4, hv4, hd4, ⟨g5, t5, cs5, f5, p5, q5, hg5, ht5, hv5, hd5, ⟨g6, t6, cs6, f6, p6, q6, hg6, ht6, hv6, hd6, ⟨g7, t7, cs7, f7, p7, q7, hg7, ht7, hv7, hd7, ⟨g8, t8, cs8, f8, p8, q8, hg8, ht8, hv8, hd8, ⟨g9, t9, cs9, f9, p9, q9, hg9, ht9, hv9, hd9, _, _⟩, _⟩, _⟩, _⟩, _⟩, _⟩, _⟩, _⟩, _⟩, _⟩, _⟩ := h
  obtain rfl := Option.some.inj (C.g_ro.symm.trans hg0)
  obtain rfl := Option.some.inj (C.g_pr.symm.trans hg1)
  obtain rfl := Option.some.inj (C.g_dd.symm.trans hg2)
  obtain rfl := Option.some.inj (C.g_bx.symm.trans hg3)
  obtain rfl := Option.some.inj (C.g_by.symm.trans hg4)
  obtain rfl := Option.some.inj (C.g_or.symm.trans hg5)
  obtain rfl := Option.some.inj (U.gSq.symm.trans hg6)
  obtain rfl := Option.some.inj (U.gCu.symm.trans hg7)
  obtain rfl := Option.some.inj (T.gSq.symm.trans hg8)
  obtain rfl := Option.some.inj (T.gCu.symm.trans hg9)
  obtain rfl := Option.some.inj (C.t_ro.symm.trans ht0)
  obtain rfl := Option.some.inj (C.t_pr.symm.trans ht1)
  obtain rfl := Option.some.inj (C.t_dd.symm.trans ht2)
  obtain rfl := Option.some.inj (C.t_bx.symm.trans ht3)
  obtain rfl := Option.some.inj (C.t_by.symm.trans ht4)
  obtain rfl := Option.some.inj (C.t_or.symm.trans ht5)
  obtain rfl := Option.some.inj (U.tSq.symm.trans ht6)
  obtain rfl := Option.some.inj (U.tCu.symm.trans ht7)
  obtain rfl := Option.some.inj (T.tSq.symm.trans ht8)
  obtain rfl := Option.some.inj (T.tCu.symm.trans ht9)
  have c_ro : VarN 6 i25 W := fun i hi => by rw [← C.a_ro i hi]; exact C.arr_cells C.w_ro C.g_ro Tryz.underlying66 hv0 hd0 rfl i hi
  have c_pr : VarN 5 p25 W := fun i hi => by rw [← C.a_pr i hi]; exact C.arr_cells C.w_pr C.g_pr Tryz.underlying66 hv1 hd1 rfl i hi
  have c_dd : VarN 0 dN W := fun i hi => by rw [← C.a_dd i hi]; exact C.arr_cells C.w_dd C.g_dd Tryz.underlying66 hv2 hd2 rfl i hi
  have c_bx : VarN 3 bxN W := fun i hi => by rw [← C.a_bx i hi]; exact C.arr_cells C.w_bx C.g_bx Tryz.underlying66 hv3 hd3 rfl i hi
  have c_by : VarN 4 byN W := fun i hi => by rw [← C.a_by i hi]; exact C.arr_cells C.w_by C.g_by Tryz.underlying66 hv4 hd4 rfl i hi
  have c_or : VarN 9 G.l25 W := fun i hi => by rw [← C.a_or i hi]; exact C.arr_cells C.w_or C.g_or Tryz.underlying61 hv5 hd5 rfl i hi
  have c_sq2 := U.arr_cells U.sq U.gSq Tryz.underlying107 hv6 hd6 rfl
  have c_cu2 := U.arr_cells U.ks U.gCu Tryz.underlying183 hv7 hd7 rfl
  have c_sq5 := T.arr_cells T.sq T.gSq Tryz.underlying95 hv8 hd8 rfl
  have c_cu5 := T.arr_cells T.ks T.gCu Tryz.underlying192 hv9 hd9 rfl
  have hH : HTab W := ⟨⟨fun i hi => by rw [← U.sq_at i hi]; exact c_sq2 i hi, c_cu2⟩, ⟨⟨fun i hi => by rw [← T.sq_at i hi]; exact c_sq5 i hi, c_cu5⟩, c_or, ⟨c_pr, c_dd, c_bx, c_by⟩⟩⟩
  exact ⟨hH, hH.e, c_ro⟩
theorem door_metS (os : Os) (args : Array Value) : laidMetH Tryz.prog laidS ((World.doorLaid Tryz.prog 400 os).forCall (fun _ _ => 0) ⟨#[], args, []⟩).memory :=
  laidMetH_of_parts3 (fuel := 8) (laidMet_of_run' 8 (by kernel_rfl) (by kernel_rfl)) (by kernel_rfl) (by kernel_rfl)
end Go.Proofs.YtdjglghecekeoaaGreatDoor.J

/- How an argument that is a row of texts is opened, and two closed facts of the program that every row's proof wants. -/
namespace Go.Proofs.YtdjglghecekeoaaGreatDoor
open Go.ChangeShapes Go.WideShapes Go.ChangeAt Go.RowKit
open Go.ChangeMaps (open_string shut_string)

theorem rowOwn : ownKnob Tryz.prog.godebug = none := by kernel_rfl
theorem rowLaid : laidOutB Tryz.prog = true := by kernel_rfl
end Go.Proofs.YtdjglghecekeoaaGreatDoor

/- How a head is opened as an argument. -/
namespace Go.Proofs.YtdjglghecekeoaaGreatDoor.J
open Go.ChangeShapes Go.WideShapes Go.ChangeAt Go.RowKit Go.Joins Go.Proofs.YtdjglghecekeoaaGreatDoor.U Go.Proofs.YtdjglghecekeoaaGreatDoor.R
set_option maxRecDepth 100000

theorem cellsH : Tryz.prog.cellsOf 23 = 4 := by kernel_rfl
theorem int_range {k : Int} (hk : (Lit.int .i64 k).wf = true) : -9223372036854775808 ≤ k ∧ k ≤ 9223372036854775807 := by
  simp only [Lit.wf, IntKind.min, IntKind.max, IntKind.signed, IntKind.bits, Bool.and_eq_true, decide_eq_true_eq, if_true] at hk
  omega
theorem head_open {H : Type} {enc : TypeId × Value → H} {W : World} {r : Reach} {b0 : Nat} {v : Value} {d : DataW H} {p : List MemPlace}
    (hv : Value.okWide Tryz.prog W r b0 23 v) (h : DataW.Trod enc Tryz.prog W 0 (fun _ => true) true 23 v d p) :
    ∃ (s : Int) (r : List UInt8) (t : Int) (g : List UInt8), v = .agg (headA s r t g) ∧ (-9223372036854775808 ≤ s ∧ s ≤ 9223372036854775807) ∧ (-9223372036854775808 ≤ t ∧ t ≤ 9223372036854775807) ∧ r.length ≤ maxLen ∧ g.length ≤ maxLen := by
  obtain ⟨v0, v1, v2, v3, y0, y1, y2, y3, n, rfl, _, _, h0, h1, h2, h3⟩ := open_agg4 Tryz.underlying23 (by kernel_rfl) cellsH hv h
  obtain ⟨k, ek, _, hk⟩ := DataW.trod_int Tryz.underlying3 h0
  obtain ⟨s1, es1, _, hs1⟩ := DataW.trod_string Tryz.underlying9 h1
  obtain ⟨m, em, _, hm⟩ := DataW.trod_int Tryz.underlying3 h2
  obtain ⟨s3, es3, _, hs3⟩ := DataW.trod_string Tryz.underlying9 h3
  injection ek with ek
  injection es1 with es1
  injection em with em
  injection es3 with es3
  subst ek es1 em es3
  obtain ⟨x, rfl⟩ := bytesOf_all s1
  obtain ⟨y, rfl⟩ := bytesOf_all s3
  exact ⟨k, x, m, y, rfl, int_range hk, int_range hm, by rw [← bytes_size]; exact hs1, by rw [← bytes_size]; exact hs3⟩
end Go.Proofs.YtdjglghecekeoaaGreatDoor.J

/- What is answered, as the chapter says: what the walks of the statements of stage 9 share. -/
namespace Go.Proofs.YtdjglghecekeoaaGreatDoor.Q
open Go.RowKit Go.Sort Go.Proofs.YtdjglghecekeoaaGreatDoor.U Go.Proofs.YtdjglghecekeoaaGreatDoor.R
set_option maxRecDepth 100000

theorem toList_ne {s t : List UInt8} (h : s ≠ t) : ((bytesOf s).toList == (bytesOf t).toList) = false := by
  rw [toList_of, toList_of]
  simp [h]
end Go.Proofs.YtdjglghecekeoaaGreatDoor.Q

/- The contracts of the developers' Parse: of a head's text that head, of any other text none. -/
namespace Go.Proofs.YtdjglghecekeoaaGreatDoor.J
open Go.RowKit Go.Sort Go.Proofs.YtdjglghecekeoaaGreatDoor.U Go.Proofs.YtdjglghecekeoaaGreatDoor.R Go.Proofs.YtdjglghecekeoaaGreatDoor.Q
set_option maxRecDepth 100000

set_option maxHeartbeats 1600000 in
theorem parse_head (x : List UInt8) (s : Int) (r : List UInt8) (t : Int) (g : List UInt8) (h : IsHead x s r t g) (W : World) :
    Calls Tryz.prog 11 #[.string (bytesOf x)] W fun e w' => e = .returned (.tuple #[.agg (headA s r t g), .int .i64 0]) ∧ Below W.heap.size W w' := by
  have HU := Lib.hid (fun w => read_any x w)
  have HH := Lib.hid h
  have hR : Lies (W.alloc (.cells head0 23)) W.heap.size 23 head0 := Lies.new W _ _
  have hB := (Below.refl W.heap.size W).alloc (Nat.le_refl _) (.cells head0 23)
  have HR := Lib.hid (fun w => rightH_any s r t g w)
  have HT := Lib.hid (fun w => textOf_any s r t g w h.1)
  rw [h.1] at HR
  rw [h.2] at HT
  clear h
  go_enter Tryz.func11, Tryz.ntmps11
  go_upto_region 1 with fail
  generalize hgw : World.alloc _ _ = w0
  replace hR : Lies w0 W.heap.size 23 (head0) := by rw [← hgw]; exact hR
  replace hB : Below W.heap.size W w0 := by rw [← hgw]; exact hB
  clear hgw
  go_upto_region 2 with (first
    | (go_at_call 31; (with_reducible refine (HU.out _).mono ?_); rintro e w1 ⟨s', r', t', g', b', rfl, hb, hX⟩; obtain ⟨rfl, rfl, rfl, rfl, rfl⟩ := hX _ _ _ _ HH.out; replace hR := hR.on hb; replace hB := below_on hB hb; clear hb)
    | ((with_reducible refine wpL_store w1.heap.size 23 _ (headA s r t g) 4 rowHead ?_ rfl (headA_one _ _ _ _) (Lies.new w1 _ _) ?_ ?_ ?_); rfl; rfl; rfl))
  generalize hgw : World.setRow _ _ _ = w2
  have hl : Lies w2 w1.heap.size 23 (headA s r t g) := by rw [← hgw]; exact newH_lies w1 _ _ _
  replace hR : Lies w2 W.heap.size 23 (head0) := by rw [← hgw]; exact hR.on (newH w1 _ _)
  replace hB : Below W.heap.size W w2 := by rw [← hgw]; exact below_on hB (newH w1 _ _)
  clear hgw
  generalize w1.heap.size = bk at *
  clear HU HH
  go_wp2_with (first
    | ((with_reducible refine wpL_load bk 23 (headA s r t g) 4 rowHead rfl hl ?_ ?_); rfl)
    | ((with_reducible refine wpL_load_gH bk 23 (headA s r t g) 4 rowHead rfl hl ?_ ?_ ?_); rfl; rfl)
    | (go_at_call 12; (with_reducible refine (HR.out _).mono ?_); rintro e w3 ⟨rfl, hb⟩; replace hl := hl.on hb; replace hR := hR.on hb; replace hB := below_on hB hb; clear hb)
    | (go_at_call 30; (with_reducible refine (HT.out _).mono ?_); rintro e w4 ⟨rfl, hb⟩; replace hl := hl.on hb; replace hR := hR.on hb; replace hB := below_on hB hb; clear hb)
    | ((with_reducible refine wpL_store W.heap.size 23 (head0) (headA s r t g) 4 rowHead rfl rfl (headA_one _ _ _ _) hR ?_ ?_ ?_); rfl; rfl))
  exact bodyPost_ret (results_row_tmp Tryz.results11 rowHead rfl (hR.row _) rfl rfl) rfl ⟨rfl, below_rowSet hB (Nat.le_refl _) _⟩

set_option maxHeartbeats 1600000 in
theorem parse_none (x : List UInt8) (h : ∀ s r t g, ¬ IsHead x s r t g) (W : World) :
    Calls Tryz.prog 11 #[.string (bytesOf x)] W fun e w' => e = .returned (.tuple #[.agg head0, .int .i64 14]) ∧ Below W.heap.size W w' := by
  have HU := Lib.hid (fun w => read_any x w)
  have HH := Lib.hid h
  have hR : Lies (W.alloc (.cells head0 23)) W.heap.size 23 head0 := Lies.new W _ _
  have hB := (Below.refl W.heap.size W).alloc (Nat.le_refl _) (.cells head0 23)
  clear h
  go_enter Tryz.func11, Tryz.ntmps11
  go_upto_region 1 with fail
  generalize hgw : World.alloc _ _ = w0
  replace hR : Lies w0 W.heap.size 23 (head0) := by rw [← hgw]; exact hR
  replace hB : Below W.heap.size W w0 := by rw [← hgw]; exact hB
  clear hgw
  go_upto_region 2 with (first
    | (go_at_call 31; (with_reducible refine (HU.out _).mono ?_); rintro e w1 ⟨s, r, t, g, b, rfl, hb, hX⟩; clear hX; replace hR := hR.on hb; replace hB := below_on hB hb; clear hb)
    | ((with_reducible refine wpL_store w1.heap.size 23 _ (headA s r t g) 4 rowHead ?_ rfl (headA_one _ _ _ _) (Lies.new w1 _ _) ?_ ?_ ?_); rfl; rfl; rfl))
  generalize hgw : World.setRow _ _ _ = w2
  have hl : Lies w2 w1.heap.size 23 (headA s r t g) := by rw [← hgw]; exact newH_lies w1 _ _ _
  replace hR : Lies w2 W.heap.size 23 (head0) := by rw [← hgw]; exact hR.on (newH w1 _ _)
  replace hB : Below W.heap.size W w2 := by rw [← hgw]; exact below_on hB (newH w1 _ _)
  clear hgw
  generalize w1.heap.size = bk at *
  have HR := Lib.hid (fun w => rightH_any s r t g w)
  clear HU
  cases b with
  | false =>
    clear HR HH
    go_wp2_with (first
      | ((with_reducible refine wpL_load bk 23 (headA s r t g) 4 rowHead rfl hl ?_ ?_); rfl)
      | ((with_reducible refine wpL_load_gH bk 23 (headA s r t g) 4 rowHead rfl hl ?_ ?_ ?_); rfl; rfl)
      | ((with_reducible refine wpL_store W.heap.size 23 (head0) (head0) 4 rowHead rfl rfl (headA_one _ _ _ _) hR ?_ ?_ ?_); rfl; rfl))
    exact bodyPost_ret (results_row_tmp Tryz.results11 rowHead rfl (hR.row _) rfl rfl) rfl ⟨rfl, below_rowSet hB (Nat.le_refl _) _⟩
  | true =>
    cases hr : rightH s r t g with
    | false =>
      rw [hr] at HR
      clear hr HH
      go_wp2_with (first
        | ((with_reducible refine wpL_load bk 23 (headA s r t g) 4 rowHead rfl hl ?_ ?_); rfl)
        | ((with_reducible refine wpL_load_gH bk 23 (headA s r t g) 4 rowHead rfl hl ?_ ?_ ?_); rfl; rfl)
        | (go_at_call 12; (with_reducible refine (HR.out _).mono ?_); rintro e w3 ⟨rfl, hb⟩; replace hl := hl.on hb; replace hR := hR.on hb; replace hB := below_on hB hb; clear hb)
        | ((with_reducible refine wpL_store W.heap.size 23 (head0) (head0) 4 rowHead rfl rfl (headA_one _ _ _ _) hR ?_ ?_ ?_); rfl; rfl))
      exact bodyPost_ret (results_row_tmp Tryz.results11 rowHead rfl (hR.row _) rfl rfl) rfl ⟨rfl, below_rowSet hB (Nat.le_refl _) _⟩
    | true =>
      have HT := Lib.hid (fun w => textOf_any s r t g w hr)
      have hne := toList_ne (no_head HH.out s r t g hr)
      rw [hr] at HR
      clear hr HH
      generalize textT s r t g = X at *
      go_wp2_with (first
        | ((with_reducible refine wpL_load bk 23 (headA s r t g) 4 rowHead rfl hl ?_ ?_); rfl)
        | ((with_reducible refine wpL_load_gH bk 23 (headA s r t g) 4 rowHead rfl hl ?_ ?_ ?_); rfl; rfl)
        | (go_at_call 12; (with_reducible refine (HR.out _).mono ?_); rintro e w3 ⟨rfl, hb⟩; replace hl := hl.on hb; replace hR := hR.on hb; replace hB := below_on hB hb; clear hb)
        | (go_at_call 30; (with_reducible refine (HT.out _).mono ?_); rintro e w4 ⟨rfl, hb⟩; replace hl := hl.on hb; replace hR := hR.on hb; replace hB := below_on hB hb; clear hb)
        | ((with_reducible refine wpL_store W.heap.size 23 (head0) (head0) 4 rowHead rfl rfl (headA_one _ _ _ _) hR ?_ ?_ ?_); rfl; rfl))
      exact bodyPost_ret (results_row_tmp Tryz.results11 rowHead rfl (hR.row _) rfl rfl) rfl ⟨rfl, below_rowSet hB (Nat.le_refl _) _⟩
end Go.Proofs.YtdjglghecekeoaaGreatDoor.J

/- The contract of the reference's Parse: what is told of a text, and whether it is that of a head. -/
namespace Go.Proofs.YtdjglghecekeoaaGreatDoor.J
open Go.RowKit Go.Sort Go.Proofs.YtdjglghecekeoaaGreatDoor.U Go.Proofs.YtdjglghecekeoaaGreatDoor.R Go.Proofs.YtdjglghecekeoaaGreatDoor.Q
set_option maxRecDepth 100000

theorem ext_mid (x : List UInt8) (a b : Nat) : (bytesOf x).extract a b = bytesOf ((x.drop a).take (b - a)) := by
  rw [show bytesOf x = ⟨x.toArray⟩ from rfl, Lib.extract_eq]
  rfl
theorem ext_tail (x : List UInt8) (a : Nat) : (bytesOf x).extract a (bytesOf x).size = bytesOf (x.drop a) := by
  rw [ext_mid, bytes_size, List.take_of_length_le (by rw [List.length_drop]; exact Nat.le_refl _)]
/-- what is told of a text, and whether it is a head's -/
def TellsB (x : List UInt8) (s : Int) (r : List UInt8) (t : Int) (g : List UInt8) (b : Bool) : Prop := (b = true → IsHead x s r t g) ∧ (b = false → ∀ s r t g, ¬ IsHead x s r t g)
theorem tells_none {x : List UInt8} (h : ∀ s r t g, ¬ IsHead x s r t g) (s : Int) (r : List UInt8) (t : Int) (g : List UInt8) : TellsB x s r t g false := ⟨(fun h => by cases h), fun _ => h⟩
theorem none_long {x : List UInt8} (h : x.length ≠ 140) : ∀ s r t g, ¬ IsHead x s r t g := fun _ _ _ _ k => h (head_cut k).1
theorem none_size {x : List UInt8} {n : Nat} (hn : numL ((x.drop 16).take 8) = n) (h : 4096 < n) : ∀ s r t g, ¬ IsHead x s r t g := fun s r t g k => by
  have h1 := (head_cut k).2.1
  have h2 := (mayH_of (rightH_of k.1).1).2.1
  rw [hn] at h1
  omega
theorem none_time {x : List UInt8} {n : Nat} (hn : numL ((x.drop 28).take 8) = n) (h : 1099511627776 < n) : ∀ s r t g, ¬ IsHead x s r t g := fun s r t g k => by
  have h1 := (head_cut k).2.2.1
  have h2 := (mayH_of (rightH_of k.1).1).2.2.2.1
  rw [hn] at h1
  omega
theorem tells_right {x : List UInt8} {n m : Nat} (hn : numL ((x.drop 16).take 8) = n) (hm : numL ((x.drop 28).take 8) = m) (h : rightH (n : Int) ((x.drop 40).take 32) (m : Int) (x.drop 76) = false) : TellsB x (n : Int) ((x.drop 40).take 32) (m : Int) (x.drop 76) false :=
  tells_none (fun s r t g k => by
    obtain ⟨_, h1, h2, h3, h4⟩ := head_cut k
    have h5 := k.1
    rw [← h1, ← h2, ← h3, ← h4, hn, hm, h] at h5
    cases h5) _ _ _ _
theorem tells_text {x : List UInt8} {n m : Nat} (hn : numL ((x.drop 16).take 8) = n) (hm : numL ((x.drop 28).take 8) = m) (h : rightH (n : Int) ((x.drop 40).take 32) (m : Int) (x.drop 76) = true) : TellsB x (n : Int) ((x.drop 40).take 32) (m : Int) (x.drop 76) (decide (textT (n : Int) ((x.drop 40).take 32) (m : Int) (x.drop 76) = x)) := by
  by_cases e : textT (n : Int) ((x.drop 40).take 32) (m : Int) (x.drop 76) = x
  · rw [decide_eq_true e]
    exact ⟨fun _ => ⟨h, e⟩, (fun h => by cases h)⟩
  · rw [decide_eq_false e]
    exact tells_none (fun s r t g k => by
      obtain ⟨_, h1, h2, h3, h4⟩ := head_cut k
      have h5 := k.2
      rw [← h1, ← h2, ← h3, ← h4, hn, hm] at h5
      exact e h5) _ _ _ _

/-- what the reference's Parse comes to -/
def RefPost (x : List UInt8) (W : World) (e : Ending) (w' : World) : Prop := ∃ s r t g b, e = .returned (.tuple #[.agg (headA s r t g), .bool b]) ∧ Below W.heap.size W w' ∧ TellsB x s r t g b
theorem ref_post {x : List UInt8} {W w' : World} {s t : Int} {r g : List UInt8} {b : Bool} (hB : Below W.heap.size W w') (h : TellsB x s r t g b) : RefPost x W (.returned (.tuple #[.agg (headA s r t g), .bool b])) w' := ⟨s, r, t, g, b, rfl, hB, h⟩
set_option maxHeartbeats 3200000 in
theorem refParse_any (x : List UInt8) (W : World) :
    Calls Tryz.prog 16 #[.string (bytesOf x)] W fun e w' => RefPost x W e w' := by
  have hR : Lies (W.alloc (.cells head0 23)) W.heap.size 23 head0 := Lies.new W _ _
  have hB := (Below.refl W.heap.size W).alloc (Nat.le_refl _) (.cells head0 23)
  have hz0 : ((bytesOf x).size : Int) = (x.length : Int) := bytes_int x
  by_cases h140 : x.length = 140
  case neg =>
    have HX := Lib.hid (tells_none (none_long h140) 0 [] 0 [])
    have hi : ((x.length : Int) != 140) = true := by simp; omega
    clear h140
    go_enter Tryz.func16, Tryz.ntmps16
    go_upto_region 1 with fail
    generalize hgw : World.alloc _ _ = w0
    replace hR : Lies w0 W.heap.size 23 (head0) := by rw [← hgw]; exact hR
    replace hB : Below W.heap.size W w0 := by rw [← hgw]; exact hB
    clear hgw
    go_wp2_with (first
      | ((with_reducible refine wpL_store W.heap.size 23 (head0) (head0) 4 rowHead rfl rfl (headA_one _ _ _ _) hR ?_ ?_ ?_); rfl; rfl))
    exact bodyPost_ret (results_row_tmp Tryz.results16 rowHead rfl (hR.row _) rfl rfl) rfl (ref_post (below_rowSet hB (Nat.le_refl _) _) (HX.out))
  have hz : ((bytesOf x).size : Int) = 140 := by omega
  clear hz0
  obtain ⟨n, hn⟩ : ∃ n, numL ((x.drop 16).take 8) = n := ⟨_, rfl⟩
  obtain ⟨m, hm⟩ : ∃ m, numL ((x.drop 28).take 8) = m := ⟨_, rfl⟩
  have HN1 := Lib.hid (fun w => refNum_any (bytesOf ((x.drop 16).take 8)) w (by rw [bytes_size, List.length_take]; exact Nat.min_le_left _ _))
  have HN2 := Lib.hid (fun w => refNum_any (bytesOf ((x.drop 28).take 8)) w (by rw [bytes_size, List.length_take]; exact Nat.min_le_left _ _))
  rw [bytesOf_toList, hn, ← ext_mid x 16 24] at HN1
  rw [bytesOf_toList, hm, ← ext_mid x 28 36] at HN2
  have HY := Lib.hid (fun k => none_size hn k)
  have HZ := Lib.hid (fun k => none_time hm k)
  have HRt := Lib.hid (fun k => tells_right hn hm k)
  have HTx := Lib.hid (fun k => tells_text hn hm k)
  have HE1 := Lib.hid (ext_mid x 40 72)
  have HE2 := Lib.hid (ext_tail x 76)
  rw [show 72 - 40 = 32 from rfl] at HE1
  clear hn hm h140
  go_enter Tryz.func16, Tryz.ntmps16
  go_upto_region 3 with fail
  generalize hgw : World.alloc _ _ = w0
  replace hR : Lies w0 W.heap.size 23 (head0) := by rw [← hgw]; exact hR
  replace hB : Below W.heap.size W w0 := by rw [← hgw]; exact hB
  clear hgw
  go_region
  simp only [Exit.then]
  rw [HE1.out, HE2.out]
  generalize (x.drop 40).take 32 = r at *
  generalize x.drop 76 = g at *
  generalize hgw : World.drew _ = w1
  have hl : Lies w1 w0.heap.size 23 (headA 0 r 0 g) := by rw [← hgw]; exact (Lies.new w0 _ _).drew
  replace hB : Below W.heap.size W w1 := by rw [← hgw]; exact (hB.alloc hB.size _).drew
  have hne : W.heap.size ≠ w0.heap.size := Nat.ne_of_lt hR.lt
  have hle : W.heap.size ≤ w0.heap.size := Nat.le_of_lt hR.lt
  replace hR : Lies w1 W.heap.size 23 (head0) := by rw [← hgw]; exact (hR.alloc _).drew
  clear hgw HE1 HE2
  generalize w0.heap.size = bk at *
  go_upto_region 6 with (first
    | (go_at_call 35; (with_reducible refine (HN1.out _).mono ?_); rintro e w2 ⟨rfl, rfl⟩)
    | (go_at_call 35; (with_reducible refine (HN2.out _).mono ?_); rintro e w3 ⟨rfl, rfl⟩))
  clear HN1 HN2
  by_cases c1 : 4096 < n
  case pos =>
    have HX := Lib.hid (tells_none (HY.out c1) 0 [] 0 [])
    clear HY HZ HRt HTx
    go_wp2_with (first
      | ((with_reducible refine wpL_store W.heap.size 23 (head0) (head0) 4 rowHead rfl rfl (headA_one _ _ _ _) hR ?_ ?_ ?_); rfl; rfl))
    exact bodyPost_ret (results_row_tmp Tryz.results16 rowHead rfl (hR.row _) rfl rfl) rfl (ref_post (below_rowSet hB (Nat.le_refl _) _) (HX.out))
  by_cases c2 : 1099511627776 < m
  case pos =>
    have HX := Lib.hid (tells_none (HZ.out c2) 0 [] 0 [])
    clear HY HZ HRt HTx
    go_wp2_with (first
      | ((with_reducible refine wpL_store W.heap.size 23 (head0) (head0) 4 rowHead rfl rfl (headA_one _ _ _ _) hR ?_ ?_ ?_); rfl; rfl))
    exact bodyPost_ret (results_row_tmp Tryz.results16 rowHead rfl (hR.row _) rfl rfl) rfl (ref_post (below_rowSet hB (Nat.le_refl _) _) (HX.out))
  clear HY HZ
  have w1n : IntKind.i64.wrap (n : Int) = (n : Int) := by rw [IntKind.wrap_i64]; omega
  have w2n : IntKind.i64.wrap (m : Int) = (m : Int) := by rw [IntKind.wrap_i64]; omega
  have k0 := hd_s hl
  have f0 := hl.frozen 0
  go_upto_region 9 with fail
  clear k0 f0
  generalize hgw : World.setCell _ _ _ = w4
  replace hl : Lies w4 bk 23 (headA (n : Int) r 0 g) := by rw [← hgw]; exact hl.put 0 _
  replace hR : Lies w4 W.heap.size 23 (head0) := by rw [← hgw]; exact hR.far (p := ⟨bk, 0, none⟩) hne _
  replace hB : Below W.heap.size W w4 := by rw [← hgw]; exact hB.setCell (p := ⟨bk, 0, none⟩) hle _
  clear hgw
  have k0 := hd_t hl
  have f0 := hl.frozen 2
  go_upto_region 10 with fail
  clear k0 f0 w1n w2n
  generalize hgw : World.setCell _ _ _ = w5
  replace hl : Lies w5 bk 23 (headA (n : Int) r (m : Int) g) := by rw [← hgw]; exact hl.put 2 _
  replace hR : Lies w5 W.heap.size 23 (head0) := by rw [← hgw]; exact hR.far (p := ⟨bk, 2, none⟩) hne _
  replace hB : Below W.heap.size W w5 := by rw [← hgw]; exact hB.setCell (p := ⟨bk, 2, none⟩) hle _
  clear hgw
  have HRi := Lib.hid (fun w => refRightH_any (n : Int) r (m : Int) g w)
  refine wp_held_any (S := fun w' => Lies w' bk 23 (headA (n : Int) r (m : Int) g)) 11 rfl (by kernel_rfl) ?_
  have hdr : Below w5.heap.size w5 { w5 with drawn := w5.drawn + 1 } := (Below.refl _ _).drew
  replace hl := hl.on hdr
  replace hR := hR.on hdr
  replace hB := below_on hB hdr
  clear hdr
  generalize ({ w5 with drawn := w5.drawn + 1 } : World) = wd at *
  refine held_put 0 35 (.agg (headA (n : Int) r (m : Int) g)) rfl rfl (by kernel_rfl) (by kernel_rfl) (by kernel_rfl) (by kernel_rfl) (fun w hS => run_ldH bk _ (n : Int) (m : Int) r g hS rfl) hl ?_
  simp only [List.setIfInBounds_toArray, List.set_cons_succ, List.set_cons_zero]
  refine held_put 1 36 (.agg (headA (n : Int) r (m : Int) g)) rfl rfl (by kernel_rfl) (by kernel_rfl) (by kernel_rfl) (by kernel_rfl) (fun w hS => run_ldH bk _ (n : Int) (m : Int) r g hS rfl) hl ?_
  simp only [List.setIfInBounds_toArray, List.set_cons_succ, List.set_cons_zero]
  cases hr : rightH (n : Int) r (m : Int) g with
  | false =>
    rw [hr] at HRi
    have HX := Lib.hid (HRt.out hr)
    clear hr HRt HTx
    refine held_one 2 (by kernel_rfl) (wpOp_call 37 rfl rfl (by kernel_rfl) (by kernel_rfl) ((HRi.out wd).mono ?_))
    rintro e wa ⟨rfl, hbn⟩
    replace hl := hl.on hbn
    replace hR := hR.on hbn
    replace hB := below_on hB hbn
    clear hbn
    refine ⟨_, rfl, hl, ?_⟩
    simp only [List.setIfInBounds_toArray, List.set_cons_succ, List.set_cons_zero]
    refine held_put 3 38 (.bool false) rfl rfl (by kernel_rfl) (by kernel_rfl) (by kernel_rfl) (by kernel_rfl) (fun w hS => rfl) hl ?_
    simp only [List.setIfInBounds_toArray, List.set_cons_succ, List.set_cons_zero]
    refine held_skip 4 39 rfl rfl (by kernel_rfl) (by kernel_rfl) (by kernel_rfl) (by kernel_rfl) hl ?_
    simp only [List.setIfInBounds_toArray, List.set_cons_succ, List.set_cons_zero]
    refine held_skip 5 40 rfl rfl (by kernel_rfl) (by kernel_rfl) (by kernel_rfl) (by kernel_rfl) hl ?_
    simp only [List.setIfInBounds_toArray, List.set_cons_succ, List.set_cons_zero]
    refine held_skip 6 41 rfl rfl (by kernel_rfl) (by kernel_rfl) (by kernel_rfl) (by kernel_rfl) hl ?_
    simp only [List.setIfInBounds_toArray, List.set_cons_succ, List.set_cons_zero]
    refine held_skip 7 42 rfl rfl (by kernel_rfl) (by kernel_rfl) (by kernel_rfl) (by kernel_rfl) hl ?_
    simp only [List.setIfInBounds_toArray, List.set_cons_succ, List.set_cons_zero]
    refine held_put 8 43 (.bool false) rfl rfl (by kernel_rfl) (by kernel_rfl) (by kernel_rfl) (by kernel_rfl) (fun w hS => by kernel_rfl) hl ?_
    simp only [List.setIfInBounds_toArray, List.set_cons_succ, List.set_cons_zero]
    refine held_one 9 (by kernel_rfl) (wpOp_law rfl (by kernel_rfl) (wpL_store W.heap.size 23 head0 (headA (n : Int) r (m : Int) g) 4 rowHead rfl rfl (headA_one _ _ _ _) hR rfl rfl ?_))
    refine ⟨hl.rowFar (fun h => hne h.symm) _, ?_⟩
    replace hR := hR.row (headA (n : Int) r (m : Int) g)
    replace hl := hl.rowFar (fun h => hne h.symm) (headA (n : Int) r (m : Int) g)
    replace hB := below_rowSet hB (Nat.le_refl _) (headA (n : Int) r (m : Int) g)
    simp only [Act.put]
    refine held_put 10 3 (.bool false) rfl rfl (by kernel_rfl) (by kernel_rfl) (by kernel_rfl) (by kernel_rfl) (fun w hS => by kernel_rfl) hl ?_
    simp only [List.setIfInBounds_toArray, List.set_cons_succ, List.set_cons_zero]
    refine held_done (by kernel_rfl) ?_
    simp only [Exit.then]
    clear hl
    generalize World.setRow _ _ _ = wz at *
    go_wp2_with fail
    exact bodyPost_ret (results_row_tmp Tryz.results16 rowHead rfl hR rfl rfl) rfl (ref_post hB HX.out)
  | true =>
    rw [hr] at HRi
    have HT := Lib.hid (fun w => refText_any (n : Int) r (m : Int) g w hr)
    have HX := Lib.hid (HTx.out hr)
    generalize textT (n : Int) r (m : Int) g = X at *
    clear hr HRt HTx
    refine held_one 2 (by kernel_rfl) (wpOp_call 37 rfl rfl (by kernel_rfl) (by kernel_rfl) ((HRi.out wd).mono ?_))
    rintro e wa ⟨rfl, hbn⟩
    replace hl := hl.on hbn
    replace hR := hR.on hbn
    replace hB := below_on hB hbn
    clear hbn
    refine ⟨_, rfl, hl, ?_⟩
    simp only [List.setIfInBounds_toArray, List.set_cons_succ, List.set_cons_zero]
    refine held_put 3 38 (.bool true) rfl rfl (by kernel_rfl) (by kernel_rfl) (by kernel_rfl) (by kernel_rfl) (fun w hS => rfl) hl ?_
    simp only [List.setIfInBounds_toArray, List.set_cons_succ, List.set_cons_zero]
    refine held_put 4 39 (.agg (headA (n : Int) r (m : Int) g)) rfl rfl (by kernel_rfl) (by kernel_rfl) (by kernel_rfl) (by kernel_rfl) (fun w hS => run_ldH bk _ (n : Int) (m : Int) r g hS rfl) hl ?_
    simp only [List.setIfInBounds_toArray, List.set_cons_succ, List.set_cons_zero]
    refine held_put 6 41 (.string (bytesOf x)) rfl rfl (by kernel_rfl) (by kernel_rfl) (by kernel_rfl) (by kernel_rfl) (fun w hS => rfl) hl ?_
    simp only [List.setIfInBounds_toArray, List.set_cons_succ, List.set_cons_zero]
    refine held_one 5 (by kernel_rfl) (wpOp_call 40 rfl rfl (by kernel_rfl) (by kernel_rfl) ((HT.out wa).mono ?_))
    rintro e wb ⟨rfl, hbn⟩
    replace hl := hl.on hbn
    replace hR := hR.on hbn
    replace hB := below_on hB hbn
    clear hbn
    refine ⟨_, rfl, hl, ?_⟩
    simp only [List.setIfInBounds_toArray, List.set_cons_succ, List.set_cons_zero]
    refine held_put 7 42 (.bool (decide (X = x))) rfl rfl (by kernel_rfl) (by kernel_rfl) (by kernel_rfl) (by kernel_rfl) (fun w hS => run_eqlS X x rfl rfl w) hl ?_
    simp only [List.setIfInBounds_toArray, List.set_cons_succ, List.set_cons_zero]
    refine held_put 8 43 (.bool (decide (X = x))) rfl rfl (by kernel_rfl) (by kernel_rfl) (by kernel_rfl) (by kernel_rfl) (fun w hS => by kernel_rfl) hl ?_
    simp only [List.setIfInBounds_toArray, List.set_cons_succ, List.set_cons_zero]
    refine held_one 9 (by kernel_rfl) (wpOp_law rfl (by kernel_rfl) (wpL_store W.heap.size 23 head0 (headA (n : Int) r (m : Int) g) 4 rowHead rfl rfl (headA_one _ _ _ _) hR rfl rfl ?_))
    refine ⟨hl.rowFar (fun h => hne h.symm) _, ?_⟩
    replace hR := hR.row (headA (n : Int) r (m : Int) g)
    replace hl := hl.rowFar (fun h => hne h.symm) (headA (n : Int) r (m : Int) g)
    replace hB := below_rowSet hB (Nat.le_refl _) (headA (n : Int) r (m : Int) g)
    simp only [Act.put]
    refine held_put 10 3 (.bool (decide (X = x))) rfl rfl (by kernel_rfl) (by kernel_rfl) (by kernel_rfl) (by kernel_rfl) (fun w hS => by kernel_rfl) hl ?_
    simp only [List.setIfInBounds_toArray, List.set_cons_succ, List.set_cons_zero]
    refine held_done (by kernel_rfl) ?_
    simp only [Exit.then]
    clear hl
    generalize World.setRow _ _ _ = wz at *
    go_wp2_with fail
    exact bodyPost_ret (results_row_tmp Tryz.results16 rowHead rfl hR rfl rfl) rfl (ref_post hB HX.out)
end Go.Proofs.YtdjglghecekeoaaGreatDoor.J

/- Two heads are compared. -/
namespace Go.Proofs.YtdjglghecekeoaaGreatDoor.J
open Go.RowKit Go.Sort Go.Proofs.YtdjglghecekeoaaGreatDoor.U Go.Proofs.YtdjglghecekeoaaGreatDoor.R Go.Proofs.YtdjglghecekeoaaGreatDoor.Q
set_option maxRecDepth 100000

theorem eq_head (w : World) (s t : Int) (r g : List UInt8) : (Op.equalIn 10000 23 (.agg (headA s r t g)) (.agg (headA s r t g))).run Tryz.prog w = .ok true w := by
  unfold headA
  rw [run_equalIn_agg (P := Tryz.prog) w 9999 23 _ _ (by kernel_rfl) (by kernel_rfl)]
  simp only [Program.fieldsOf, Tryz.underlying23]
  simp [go_sem]
theorem eql_head (w : World) (s t : Int) (r g : List UInt8) : (binOp .eql 23 (.agg (headA s r t g)) (.agg (headA s r t g))).run Tryz.prog w = .ok (.bool true) w := by
  rw [run_eql_struct]
  exact (congrArg (fun r => Result.andThen r _) (eq_head w s t r g)).trans rfl
theorem neq_head (w : World) (s t : Int) (r g : List UInt8) : (binOp .neq 23 (.agg (headA s r t g)) (.agg (headA s r t g))).run Tryz.prog w = .ok (.bool false) w := by
  rw [run_neq_struct]
  exact (congrArg (fun r => Result.andThen r _) (eq_head w s t r g)).trans rfl
section
variable {P : Program} {ops : Array Oper} {rest : List Oper} {a : Act} {w : World} {Q : Exit → Act → World → Prop} {t' rr : TypeId} {pos : String} {after : Array Edge} {gd : Option (Nat × Bool)} {d : Option Tmp} {x y : Operand}
/-- the same head twice: they are equal -/
theorem wpL_eqlH (s t : Int) (r g : List UInt8) (hw : Region.wanted ⟨d, .binOp .eql 23 x y rr, t', pos, after, gd⟩ (yielded ops a.tmps) = true) (hx : a.eval x = .agg (headA s r t g)) (hy : a.eval y = .agg (headA s r t g))
    (h : wpList Tryz.prog ops Q rest (a.put d (.bool true)) w) : wpList Tryz.prog ops Q (⟨d, .binOp .eql 23 x y rr, t', pos, after, gd⟩ :: rest) a w := by
  have hr : (execOp a.eval ⟨d, .binOp .eql 23 x y rr, t', pos, after, gd⟩).run Tryz.prog w = .ok (.value (.bool true)) w := by
    unfold execOp
    simp only [hx, hy, Sem.run_bind, run_eqGuard_agg (hm := Tryz.eqGuardType23), Result.andThen_ok, eql_head w s t r g, Sem.run_pure]
  unfold wpList
  rw [if_pos hw]
  refine .inl ?_
  unfold Oper.wp
  rw [hr]
  exact h
theorem wpL_neqH (s t : Int) (r g : List UInt8) (hw : Region.wanted ⟨d, .binOp .neq 23 x y rr, t', pos, after, gd⟩ (yielded ops a.tmps) = true) (hx : a.eval x = .agg (headA s r t g)) (hy : a.eval y = .agg (headA s r t g))
    (h : wpList Tryz.prog ops Q rest (a.put d (.bool false)) w) : wpList Tryz.prog ops Q (⟨d, .binOp .neq 23 x y rr, t', pos, after, gd⟩ :: rest) a w := by
  have hr : (execOp a.eval ⟨d, .binOp .neq 23 x y rr, t', pos, after, gd⟩).run Tryz.prog w = .ok (.value (.bool false)) w := by
    unfold execOp
    simp only [hx, hy, Sem.run_bind, run_eqGuard_agg (hm := Tryz.eqGuardType23), Result.andThen_ok, neq_head w s t r g, Sem.run_pure]
  unfold wpList
  rw [if_pos hw]
  refine .inl ?_
  unfold Oper.wp
  rw [hr]
  exact h
end
end Go.Proofs.YtdjglghecekeoaaGreatDoor.J

