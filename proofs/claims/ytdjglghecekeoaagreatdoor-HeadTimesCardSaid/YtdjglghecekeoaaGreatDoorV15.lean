/- Texts that stand on one another, put together: COpen, CLaid, TLaid, ULaid, QLaid, JLaid, Frame, JOpen, QBackM, QBackF, QBackW, JSignsW, QDevP. -/
import Derived.Test.YtdjglghecekeoaaGreatDoorV14
import Derived.ChangeOld
import Derived.ChangeSame
import Derived.Deep.CutBlock
import Derived.Deep.CutRange
import Derived.Deep.Strs
import Derived.LaidMore
import Derived.Lib.SmallJoins
import Derived.OpenShut
import Derived.ProofKit
import Derived.ShutString
import Derived.SliceStrings
import Derived.Stop.Joined
import Derived.Test.YtdjglghecekeoaaGreatDoorRows
/- A number that comes in as an argument is one of four words. -/
namespace Go.Proofs.YtdjglghecekeoaaGreatDoor.C
open Go.Proofs.YtdjglghecekeoaaGreatDoor.F
set_option maxRecDepth 100000
open Go.ChangeShapes Go.WideShapes Go.ChangeAt Go.RowKit

theorem rowOwn : ownKnob Tryz.prog.godebug = none := by kernel_rfl
theorem rowLaid : laidOutB Tryz.prog = true := by kernel_rfl
theorem cellsU64 : Tryz.prog.cellsOf 54 = 1 := by kernel_rfl
end Go.Proofs.YtdjglghecekeoaaGreatDoor.C

/- What the listed variables give; and a start that meets it. -/
namespace Go.Proofs.YtdjglghecekeoaaGreatDoor.C
open Go.Proofs.YtdjglghecekeoaaGreatDoor.F
set_option maxRecDepth 100000
open Go.ChangeShapes Go.WideShapes Go.ChangeAt Go.RowKit

theorem arr_cells {W : World} {name : String} {g t n fuel : Nat} {cs : Array Value} {p : List MemPlace} (L : List Nat) (hg : Tryz.prog.globalNamed name = some g) (ht : Tryz.prog.underlying t = some (.array n 54)) (hv : W.var? Tryz.prog name = some cs)
    (hd : DataW.trod (fun _ => ()) Tryz.prog W 0 (fun _ => true) false fuel t cs.toList = some (.agg (L.map fun x : Nat => .lit (.int .u64 (x : Int))), p)) (hn : L.length = n) :
    ∀ i, i < n → W.cell? ⟨g, i, none⟩ = some (w64 (L.getD i 0)) := by
  intro i hi
  obtain ⟨xs, m, rfl, hx, _, hxn, hel⟩ := DataW.trod_array ht hd
  have h1 := hel i hi
  simp only [Prod.mk.injEq, DataW.agg.injEq] at hx
  have hxi : xs[i]? = some (xs[i]'(by omega)) := List.getElem?_eq_getElem (by omega)
  rw [hxi, cellsU64, Nat.mul_one] at h1
  obtain ⟨k, e1, e2, _⟩ := DataW.trod_int Tryz.underlying54 h1
  have h2 : (xs.map (·.1))[i]? = some (.lit (.int .u64 k)) := by rw [List.getElem?_map, hxi, e2]; rfl
  rw [← hx.1, List.getElem?_map] at h2
  have hLi : L[i]? = some (L[i]'(by omega)) := List.getElem?_eq_getElem (by omega)
  rw [hLi] at h2
  simp only [Option.map_some, Option.some.injEq, DataW.lit.injEq, Lit.int.injEq, true_and] at h2
  rw [World.var?_cell hg hv i, ← Array.getElem?_toList]
  have h3 : ((cs.toList.drop i).take 1)[0]? = some (.int .u64 k) := by rw [e1]; rfl
  rw [List.getElem?_take, if_pos (by decide), List.getElem?_drop, Nat.add_zero] at h3
  rw [h3, ← h2, List.getD_eq_getElem?_getD, hLi]
  rfl

theorem g_pr : Tryz.prog.globalNamed "imprimatur/field.prime" = some 5 := by kernel_rfl
theorem t_pr : (Tryz.prog.globals[5]?).map (·.type) = some 66 := by kernel_rfl
def w_pr : List Nat := [18446744073709551597, 18446744073709551615, 18446744073709551615, 9223372036854775807]
theorem a_pr (i : Nat) (h : i < 4) : w_pr.getD i 0 = wordN p25 i := by
  match i, h with
  | 0, _ | 1, _ | 2, _ | 3, _ => decide
theorem g_dd : Tryz.prog.globalNamed "imprimatur/point.d" = some 0 := by kernel_rfl
theorem t_dd : (Tryz.prog.globals[0]?).map (·.type) = some 66 := by kernel_rfl
def w_dd : List Nat := [8496970652267935907, 31536524315187371, 10144147576115030168, 5909686906226998899]
theorem a_dd (i : Nat) (h : i < 4) : w_dd.getD i 0 = wordN dN i := by
  match i, h with
  | 0, _ | 1, _ | 2, _ | 3, _ => decide
theorem g_bx : Tryz.prog.globalNamed "imprimatur/point.baseX" = some 3 := by kernel_rfl
theorem t_bx : (Tryz.prog.globals[3]?).map (·.type) = some 66 := by kernel_rfl
def w_bx : List Nat := [14507833142362363162, 7578651490590762930, 13881468655802702940, 2407515759118799870]
theorem a_bx (i : Nat) (h : i < 4) : w_bx.getD i 0 = wordN bxN i := by
  match i, h with
  | 0, _ | 1, _ | 2, _ | 3, _ => decide
theorem g_by : Tryz.prog.globalNamed "imprimatur/point.baseY" = some 4 := by kernel_rfl
theorem t_by : (Tryz.prog.globals[4]?).map (·.type) = some 66 := by kernel_rfl
def w_by : List Nat := [7378697629483820632, 7378697629483820646, 7378697629483820646, 7378697629483820646]
theorem a_by (i : Nat) (h : i < 4) : w_by.getD i 0 = wordN byN i := by
  match i, h with
  | 0, _ | 1, _ | 2, _ | 3, _ => decide
theorem g_or : Tryz.prog.globalNamed "imprimatur/scalar.order" = some 9 := by kernel_rfl
theorem t_or : (Tryz.prog.globals[9]?).map (·.type) = some 61 := by kernel_rfl
def w_or : List Nat := [6346243789798364141, 1503914060200516822, 0, 1152921504606846976]
theorem a_or (i : Nat) (h : i < 4) : w_or.getD i 0 = wordN G.l25 i := by
  match i, h with
  | 0, _ | 1, _ | 2, _ | 3, _ => decide
end Go.Proofs.YtdjglghecekeoaaGreatDoor.C

/- What the listed variables give: the two tables hold their constants; and a start that meets it. -/
namespace Go.Proofs.YtdjglghecekeoaaGreatDoor.T
open Go.ChangeShapes Go.WideShapes Go.ChangeAt Go.RowKit

theorem rowOwn : ownKnob Tryz.prog.godebug = none := by kernel_rfl
theorem rowLaid : laidOutB Tryz.prog = true := by kernel_rfl

theorem cells25 : Tryz.prog.cellsOf 54 = 1 := by kernel_rfl
theorem arr_cells {W : World} {name : String} {g t n fuel : Nat} {cs : Array Value} {p : List MemPlace} (L : List Nat) (hg : Tryz.prog.globalNamed name = some g) (ht : Tryz.prog.underlying t = some (.array n 54)) (hv : W.var? Tryz.prog name = some cs)
    (hd : DataW.trod (fun _ => ()) Tryz.prog W 0 (fun _ => true) false fuel t cs.toList = some (.agg (L.map fun x : Nat => .lit (.int .u64 (x : Int))), p)) (hn : L.length = n) :
    ∀ i, i < n → W.cell? ⟨g, i, none⟩ = some (w64 (L.getD i 0)) := by
  intro i hi
  obtain ⟨xs, m, rfl, hx, _, hxn, hel⟩ := DataW.trod_array ht hd
  have h1 := hel i hi
  simp only [Prod.mk.injEq, DataW.agg.injEq] at hx
  have hxi : xs[i]? = some (xs[i]'(by omega)) := List.getElem?_eq_getElem (by omega)
  rw [hxi, cells25, Nat.mul_one] at h1
  obtain ⟨k, e1, e2, _⟩ := DataW.trod_int Tryz.underlying54 h1
  have h2 : (xs.map (·.1))[i]? = some (.lit (.int .u64 k)) := by rw [List.getElem?_map, hxi, e2]; rfl
  rw [← hx.1, List.getElem?_map] at h2
  have hLi : L[i]? = some (L[i]'(by omega)) := List.getElem?_eq_getElem (by omega)
  rw [hLi] at h2
  simp only [Option.map_some, Option.some.injEq, DataW.lit.injEq, Lit.int.injEq, true_and] at h2
  rw [World.var?_cell hg hv i, ← Array.getElem?_toList]
  have h3 : ((cs.toList.drop i).take 1)[0]? = some (.int .u64 k) := by rw [e1]; rfl
  rw [List.getElem?_take, if_pos (by decide), List.getElem?_drop, Nat.add_zero] at h3
  rw [h3, ← h2, List.getD_eq_getElem?_getD, hLi]
  rfl

theorem gSq : Tryz.prog.globalNamed "imprimatur/sha512.squareRoots" = some 2 := by kernel_rfl
theorem gCu : Tryz.prog.globalNamed "imprimatur/sha512.cubeRoots" = some 8 := by kernel_rfl
theorem tSq : (Tryz.prog.globals[2]?).map (·.type) = some 95 := by kernel_rfl
theorem tCu : (Tryz.prog.globals[8]?).map (·.type) = some 192 := by kernel_rfl
def sq : List Nat := [h0.a, h0.b, h0.c, h0.d, h0.e, h0.f, h0.g, h0.h]
theorem sq_at (i : Nat) (h : i < 8) : sq.getD i 0 = h0.at i := by
  match i, h with
  | 0, _ | 1, _ | 2, _ | 3, _ | 4, _ | 5, _ | 6, _ | 7, _ => rfl

end Go.Proofs.YtdjglghecekeoaaGreatDoor.T

/- What the listed variables give: the two tables hold their constants; and a start that meets it. -/
namespace Go.Proofs.YtdjglghecekeoaaGreatDoor.U
open Go.ChangeShapes Go.WideShapes Go.ChangeAt Go.RowKit

theorem rowOwn : ownKnob Tryz.prog.godebug = none := by kernel_rfl
theorem rowLaid : laidOutB Tryz.prog = true := by kernel_rfl

theorem cells25 : Tryz.prog.cellsOf 106 = 1 := by kernel_rfl
theorem arr_cells {W : World} {name : String} {g t n fuel : Nat} {cs : Array Value} {p : List MemPlace} (L : List Nat) (hg : Tryz.prog.globalNamed name = some g) (ht : Tryz.prog.underlying t = some (.array n 106)) (hv : W.var? Tryz.prog name = some cs)
    (hd : DataW.trod (fun _ => ()) Tryz.prog W 0 (fun _ => true) false fuel t cs.toList = some (.agg (L.map fun x : Nat => .lit (.int .u32 (x : Int))), p)) (hn : L.length = n) :
    ∀ i, i < n → W.cell? ⟨g, i, none⟩ = some (u32 (L.getD i 0)) := by
  intro i hi
  obtain ⟨xs, m, rfl, hx, _, hxn, hel⟩ := DataW.trod_array ht hd
  have h1 := hel i hi
  simp only [Prod.mk.injEq, DataW.agg.injEq] at hx
  have hxi : xs[i]? = some (xs[i]'(by omega)) := List.getElem?_eq_getElem (by omega)
  rw [hxi, cells25, Nat.mul_one] at h1
  obtain ⟨k, e1, e2, _⟩ := DataW.trod_int Tryz.underlying106 h1
  have h2 : (xs.map (·.1))[i]? = some (.lit (.int .u32 k)) := by rw [List.getElem?_map, hxi, e2]; rfl
  rw [← hx.1, List.getElem?_map] at h2
  have hLi : L[i]? = some (L[i]'(by omega)) := List.getElem?_eq_getElem (by omega)
  rw [hLi] at h2
  simp only [Option.map_some, Option.some.injEq, DataW.lit.injEq, Lit.int.injEq, true_and] at h2
  rw [World.var?_cell hg hv i, ← Array.getElem?_toList]
  have h3 : ((cs.toList.drop i).take 1)[0]? = some (.int .u32 k) := by rw [e1]; rfl
  rw [List.getElem?_take, if_pos (by decide), List.getElem?_drop, Nat.add_zero] at h3
  rw [h3, ← h2, List.getD_eq_getElem?_getD, hLi]
  rfl

theorem gSq : Tryz.prog.globalNamed "imprimatur/sha256.squareRoots" = some 1 := by kernel_rfl
theorem gCu : Tryz.prog.globalNamed "imprimatur/sha256.cubeRoots" = some 7 := by kernel_rfl
theorem tSq : (Tryz.prog.globals[1]?).map (·.type) = some 107 := by kernel_rfl
theorem tCu : (Tryz.prog.globals[7]?).map (·.type) = some 183 := by kernel_rfl
def sq : List Nat := [h0.a, h0.b, h0.c, h0.d, h0.e, h0.f, h0.g, h0.h]
theorem sq_at (i : Nat) (h : i < 8) : sq.getD i 0 = h0.at i := by
  match i, h with
  | 0, _ | 1, _ | 2, _ | 3, _ | 4, _ | 5, _ | 6, _ | 7, _ => rfl

end Go.Proofs.YtdjglghecekeoaaGreatDoor.U

/- What the four listed variables give: the two tables of roots and the library's table of low zeros hold their constants; and a start that meets it. -/
namespace Go.Proofs.YtdjglghecekeoaaGreatDoor.Q
open Go.ChangeShapes Go.WideShapes Go.ChangeAt Go.RowKit Go.Proofs.YtdjglghecekeoaaGreatDoor.U

theorem cells8 : Tryz.prog.cellsOf 5 = 1 := by kernel_rfl
theorem arr_cells8 {W : World} {name : String} {g t n fuel : Nat} {cs : Array Value} {p : List MemPlace} (L : List Nat) (hg : Tryz.prog.globalNamed name = some g) (ht : Tryz.prog.underlying t = some (.array n 5)) (hv : W.var? Tryz.prog name = some cs)
    (hd : DataW.trod (fun _ => ()) Tryz.prog W 0 (fun _ => true) false fuel t cs.toList = some (.agg (L.map fun x : Nat => .lit (.int .u8 (x : Int))), p)) (hn : L.length = n) :
    ∀ i, i < n → W.cell? ⟨g, i, none⟩ = some (.int .u8 ((L.getD i 0 : Nat) : Int)) := by
  intro i hi
  obtain ⟨xs, m, rfl, hx, _, hxn, hel⟩ := DataW.trod_array ht hd
  have h1 := hel i hi
  simp only [Prod.mk.injEq, DataW.agg.injEq] at hx
  have hxi : xs[i]? = some (xs[i]'(by omega)) := List.getElem?_eq_getElem (by omega)
  rw [hxi, cells8, Nat.mul_one] at h1
  obtain ⟨k, e1, e2, _⟩ := DataW.trod_int Tryz.underlying5 h1
  have h2 : (xs.map (·.1))[i]? = some (.lit (.int .u8 k)) := by rw [List.getElem?_map, hxi, e2]; rfl
  rw [← hx.1, List.getElem?_map] at h2
  have hLi : L[i]? = some (L[i]'(by omega)) := List.getElem?_eq_getElem (by omega)
  rw [hLi] at h2
  simp only [Option.map_some, Option.some.injEq, DataW.lit.injEq, Lit.int.injEq, true_and] at h2
  rw [World.var?_cell hg hv i, ← Array.getElem?_toList]
  have h3 : ((cs.toList.drop i).take 1)[0]? = some (.int .u8 k) := by rw [e1]; rfl
  rw [List.getElem?_take, if_pos (by decide), List.getElem?_drop, Nat.add_zero] at h3
  rw [h3, ← h2, List.getD_eq_getElem?_getD, hLi]
  rfl
theorem gTz : Tryz.prog.globalNamed "math/bits.deBruijn64tab" = some 11 := by kernel_rfl
theorem tTz : (Tryz.prog.globals[11]?).map (·.type) = some 199 := by kernel_rfl

theorem laid_tz : (Rows.laid_math_bits_deBruijn64tab : DataW Unit) = .agg (tzL.map fun x : Nat => .lit (.int .u8 (x : Int))) := by kernel_rfl
end Go.Proofs.YtdjglghecekeoaaGreatDoor.Q

/- What the listed variables give: the tables and numbers hold their constants; and starts that meet it. -/
namespace Go.Proofs.YtdjglghecekeoaaGreatDoor.J
open Go.ChangeShapes Go.WideShapes Go.ChangeAt Go.RowKit Go.Proofs.YtdjglghecekeoaaGreatDoor.F Go.Proofs.YtdjglghecekeoaaGreatDoor.C
set_option maxRecDepth 100000
abbrev laidG : List (String × DataW Unit) := [("math/bits.deBruijn32tab", Rows.laid_math_bits_deBruijn32tab), ("math/bits.deBruijn64tab", Rows.laid_math_bits_deBruijn64tab), ("imprimatur/field.prime", Rows.laid_imprimatur_field_prime), ("imprimatur/point.d", Rows.laid_imprimatur_point_d), ("imprimatur/point.baseX", Rows.laid_imprimatur_point_baseX), ("imprimatur/point.baseY", Rows.laid_imprimatur_point_baseY), ("imprimatur/scalar.order", Rows.laid_imprimatur_scalar_order), ("imprimatur/sha256.squareRoots", Rows.laid_imprimatur_sha256_squareRoots), ("imprimatur/sha256.cubeRoots", Rows.laid_imprimatur_sha256_cubeRoots), ("imprimatur/sha512.squareRoots", Rows.laid_imprimatur_sha512_squareRoots), ("imprimatur/sha512.cubeRoots", Rows.laid_imprimatur_sha512_cubeRoots)]
theorem tabG_of_laid {W : World} (h : laidMetH Tryz.prog laidG W) : HTab W ∧ Q.Tz W := by
  rw [MakeChecks.laidMetH_plain _ _ _ (by kernel_rfl)] at h
  obtain ⟨ps, ⟨g0, t0, cs0, f0, p0, q0, hg0, ht0, hv0, hd0, ⟨g1, t1, cs1, f1, p1, q1, hg1, ht1, hv1, hd1, ⟨g2, t2, cs2, f2, p2, q2, hg2, ht2, hv2, hd2, ⟨g3, t3, cs3, f3, p3, q3, hg3, ht3, hv3, hd3, ⟨g4, t4, cs4, f4, p4, q4, hg4, ht4, hv4, hd4, ⟨g5, t5, cs5, f5, p5, q5, hg5, ht5, hv5, hd5, ⟨g6, t6, cs6, f6, p6, q6, hg6, ht6, hv6, hd6, ⟨g7, t7, cs7, f7, p7, q7, hg7, ht7, hv7, hd7, ⟨g8, t8, cs8, f8, p8, q8, hg8, ht8, hv8, hd8, ⟨g9, t9, cs9, f9, p9, q9, hg9, ht9, hv9, hd9, ⟨g10, t10, cs10, f10, p10, q10, hg10, ht10, hv10, hd10, _, _⟩, _⟩, _⟩, _⟩, _⟩, _⟩, _⟩, _⟩, _⟩, _⟩, _⟩, _⟩ := h
  obtain rfl := Option.some.inj (Q.gTz.symm.trans hg1)
  obtain rfl := Option.some.inj (C.g_pr.symm.trans hg2)
  obtain rfl := Option.some.inj (C.g_dd.symm.trans hg3)
  obtain rfl := Option.some.inj (C.g_bx.symm.trans hg4)
  obtain rfl := Option.some.inj (C.g_by.symm.trans hg5)
  obtain rfl := Option.some.inj (C.g_or.symm.trans hg6)
  obtain rfl := Option.some.inj (U.gSq.symm.trans hg7)
  obtain rfl := Option.some.inj (U.gCu.symm.trans hg8)
  obtain rfl := Option.some.inj (T.gSq.symm.trans hg9)
  obtain rfl := Option.some.inj (T.gCu.symm.trans hg10)
  obtain rfl := Option.some.inj (Q.tTz.symm.trans ht1)
  obtain rfl := Option.some.inj (C.t_pr.symm.trans ht2)
  obtain rfl := Option.some.inj (C.t_dd.symm.trans ht3)
  obtain rfl := Option.some.inj (C.t_bx.symm.trans ht4)
  obtain rfl := Option.some.inj (C.t_by.symm.trans ht5)
  obtain rfl := Option.some.inj (C.t_or.symm.trans ht6)
  obtain rfl := Option.some.inj (U.tSq.symm.trans ht7)
  obtain rfl := Option.some.inj (U.tCu.symm.trans ht8)
  obtain rfl := Option.some.inj (T.tSq.symm.trans ht9)
  obtain rfl := Option.some.inj (T.tCu.symm.trans ht10)
  rw [Q.laid_tz] at hd1
  have c_tz := Q.arr_cells8 Q.tzL Q.gTz Tryz.underlying199 hv1 hd1 Q.tzL_length
  have c_pr : VarN 5 p25 W := fun i hi => by rw [← C.a_pr i hi]; exact C.arr_cells C.w_pr C.g_pr Tryz.underlying66 hv2 hd2 rfl i hi
  have c_dd : VarN 0 dN W := fun i hi => by rw [← C.a_dd i hi]; exact C.arr_cells C.w_dd C.g_dd Tryz.underlying66 hv3 hd3 rfl i hi
  have c_bx : VarN 3 bxN W := fun i hi => by rw [← C.a_bx i hi]; exact C.arr_cells C.w_bx C.g_bx Tryz.underlying66 hv4 hd4 rfl i hi
  have c_by : VarN 4 byN W := fun i hi => by rw [← C.a_by i hi]; exact C.arr_cells C.w_by C.g_by Tryz.underlying66 hv5 hd5 rfl i hi
  have c_or : VarN 9 G.l25 W := fun i hi => by rw [← C.a_or i hi]; exact C.arr_cells C.w_or C.g_or Tryz.underlying61 hv6 hd6 rfl i hi
  have c_sq2 := U.arr_cells U.sq U.gSq Tryz.underlying107 hv7 hd7 rfl
  have c_cu2 := U.arr_cells U.ks U.gCu Tryz.underlying183 hv8 hd8 rfl
  have c_sq5 := T.arr_cells T.sq T.gSq Tryz.underlying95 hv9 hd9 rfl
  have c_cu5 := T.arr_cells T.ks T.gCu Tryz.underlying192 hv10 hd10 rfl
  have hH : HTab W := ⟨⟨fun i hi => by rw [← U.sq_at i hi]; exact c_sq2 i hi, c_cu2⟩, ⟨⟨fun i hi => by rw [← T.sq_at i hi]; exact c_sq5 i hi, c_cu5⟩, c_or, ⟨c_pr, c_dd, c_bx, c_by⟩⟩⟩
  exact ⟨hH, c_tz⟩
theorem door_metG (os : Os) (args : Array Value) : laidMetH Tryz.prog laidG ((World.doorLaid Tryz.prog 400 os).forCall (fun _ _ => 0) ⟨#[], args, []⟩).memory :=
  laidMetH_of_parts3 (fuel := 8) (laidMet_of_run' 8 (by kernel_rfl) (by kernel_rfl)) (by kernel_rfl) (by kernel_rfl)
end Go.Proofs.YtdjglghecekeoaaGreatDoor.J

/- How an argument that is a row of texts is opened, and two closed facts of the program that every row's proof wants. -/
namespace Go.Proofs.YtdjglghecekeoaaGreatDoor
open Go.ChangeShapes Go.WideShapes Go.ChangeAt Go.RowKit
open Go.ChangeMaps (open_string shut_string)

theorem rowOwn : ownKnob Tryz.prog.godebug = none := by kernel_rfl
theorem rowLaid : laidOutB Tryz.prog = true := by kernel_rfl
theorem cells9 : Tryz.prog.cellsOf 9 = 1 := by kernel_rfl
/-- a row of texts that came in -/
theorem arg_strs {H : Type} {enc : TypeId × Value → H} {W : World} {a0 : Option Addr} {len0 cap0 : Nat} {d : DataW H} {p : List MemPlace}
    (h : DataW.Trod enc Tryz.prog W 0 (fun _ => true) true 43 (.slice a0 len0 cap0) d p) :
    ∃ l, Strs W (.slice a0 len0 cap0) l ∧ ∀ x ∈ l, x.length ≤ maxLen := by
  obtain ⟨fuel, hf⟩ := h
  rcases open_strings Tryz.underlying43 Tryz.underlying9 cells9 hf with ⟨hcs, _⟩ | ⟨a, len, cap, ss, hcs, _, hl, hm, hz, _, hcell, hwz⟩
  · simp [Value.cells] at hcs
    obtain ⟨rfl, rfl, rfl⟩ := hcs
    exact ⟨[], Strs.nil W, fun x hx => by cases hx⟩
  · simp [Value.cells] at hcs
    obtain ⟨rfl, rfl, rfl⟩ := hcs
    have hz' : ss.length = cap0 := by simpa using hz
    have hlen : ((ss.take len0).map (fun s => s.data.toList)).length = len0 := by simp; omega
    refine ⟨(ss.take len0).map (fun s => s.data.toList), ⟨some a, cap0, by rw [hlen], by rw [hlen]; exact hl, hm, (fun e => by cases e), fun hne => ?_⟩, ?_⟩
    · have hpos : 0 < len0 := by
        rcases Nat.eq_zero_or_pos len0 with h0 | h0
        · exfalso; apply hne; rw [h0]; rfl
        · exact h0
      have h0 := hcell 0 (by omega)
      have hspot : a.spot = none := by
        have := World.cell?_spot h0
        unfold Addr.add at this
        split at this <;> simp_all
      obtain ⟨b, off, spot⟩ := a
      simp only at hspot
      subst hspot
      refine ⟨b, off, rfl, fun i x hi => ?_⟩
      have hlt := (List.getElem?_eq_some_iff.1 hi).1
      rw [hlen] at hlt
      have hc := hcell i (by omega)
      have hadd : ((⟨b, off, none⟩ : Addr).add i) = ⟨b, off + i, none⟩ := by unfold Addr.add; split <;> simp_all
      rw [hadd] at hc
      rw [hc]
      have hx : (ss.getD i ByteArray.empty).data.toList = x := by
        rw [List.getElem?_map, List.getElem?_take, if_pos hlt] at hi
        rw [List.getD_eq_getElem?_getD]
        rcases hs : ss[i]? with _ | s
        · rw [hs] at hi; cases hi
        · rw [hs] at hi; simpa using hi
      unfold str
      rw [← hx, Lib.mk_data]
    · intro x hx
      obtain ⟨s, hs, rfl⟩ := List.mem_map.1 hx
      have := hwz s (List.mem_of_mem_take hs)
      rw [← Lib.size_eq]; exact this
end Go.Proofs.YtdjglghecekeoaaGreatDoor

/- How a head is opened as an argument. -/
namespace Go.Proofs.YtdjglghecekeoaaGreatDoor.J
open Go.ChangeShapes Go.WideShapes Go.ChangeAt Go.RowKit Go.Joins Go.Proofs.YtdjglghecekeoaaGreatDoor.U Go.Proofs.YtdjglghecekeoaaGreatDoor.R
set_option maxRecDepth 100000

theorem cellsH : Tryz.prog.cellsOf 23 = 4 := by kernel_rfl
theorem int_range {k : Int} (hk : (Lit.int .i64 k).wf = true) : -9223372036854775808 ≤ k ∧ k ≤ 9223372036854775807 := by
  simp only [Lit.wf, IntKind.min, IntKind.max, IntKind.signed, IntKind.bits, Bool.and_eq_true, decide_eq_true_eq, if_true] at hk
  omega
theorem head_open {H : Type} {enc : TypeId × Value → H} {W : World} {r : Reach} {b0 : Nat} {v : Value} {d : DataW H} {p : List MemPlace}
    (hv : Value.okWide Tryz.prog W r b0 23 v) (h : DataW.Trod enc Tryz.prog W 0 (fun _ => true) true 23 v d p) :
    ∃ (s : Int) (r : List UInt8) (t : Int) (g : List UInt8), v = .agg (headA s r t g) ∧ (-9223372036854775808 ≤ s ∧ s ≤ 9223372036854775807) ∧ (-9223372036854775808 ≤ t ∧ t ≤ 9223372036854775807) ∧ r.length ≤ maxLen ∧ g.length ≤ maxLen := by
  obtain ⟨v0, v1, v2, v3, y0, y1, y2, y3, n, rfl, _, _, h0, h1, h2, h3⟩ := open_agg4 Tryz.underlying23 (by kernel_rfl) cellsH hv h
  obtain ⟨k, ek, _, hk⟩ := DataW.trod_int Tryz.underlying3 h0
  obtain ⟨s1, es1, _, hs1⟩ := DataW.trod_string Tryz.underlying9 h1
  obtain ⟨m, em, _, hm⟩ := DataW.trod_int Tryz.underlying3 h2
  obtain ⟨s3, es3, _, hs3⟩ := DataW.trod_string Tryz.underlying9 h3
  injection ek with ek
  injection es1 with es1
  injection em with em
  injection es3 with es3
  subst ek es1 em es3
  obtain ⟨x, rfl⟩ := bytesOf_all s1
  obtain ⟨y, rfl⟩ := bytesOf_all s3
  exact ⟨k, x, m, y, rfl, int_range hk, int_range hm, by rw [← bytes_size]; exact hs1, by rw [← bytes_size]; exact hs3⟩
end Go.Proofs.YtdjglghecekeoaaGreatDoor.J

/- Paths hold and steps follow; shorter and longer ones do not: as answers. -/
namespace Go.Proofs.YtdjglghecekeoaaGreatDoor.Q
open Go.RowKit Go.Sort Go.Proofs.YtdjglghecekeoaaGreatDoor.U Go.Proofs.YtdjglghecekeoaaGreatDoor.R
set_option maxRecDepth 100000

theorem rt_32 {l : List (List UInt8)} (h : ∀ x ∈ l, x.length = 32) : (rt l).length = 32 := rt_length l h
theorem stepT_32 : ∀ (f : Nat) (l : List (List UInt8)) (m : Nat) (b : Bool), l.length ≤ f → 1 ≤ m → m ≤ l.length → (∀ x ∈ l, x.length = 32) → ∀ y ∈ stepT nd e0 l m b, y.length = 32 := by
  intro f
  induction f with
  | zero => intro l m b h h1 h2; omega
  | succ f ih =>
    intro l m b h h1 h2 hx y hy
    by_cases hm : m = l.length
    · subst hm
      rw [stepT_all nd e0 h1] at hy
      cases b with
      | true => cases hy
      | false => rw [if_neg (by decide), List.mem_singleton] at hy; rw [hy]; exact rt_32 hx
    · have hs := spl_lt (n := l.length) (by omega)
      have hp := spl_pos l.length
      have k1 : ∀ x ∈ l.take (spl l.length), x.length = 32 := fun x h => hx x (List.mem_of_mem_take h)
      have k2 : ∀ x ∈ l.drop (spl l.length), x.length = 32 := fun x h => hx x (List.mem_of_mem_drop h)
      rw [stepT_less nd e0 h1 (by omega)] at hy
      by_cases hk : m ≤ spl l.length
      · rw [if_pos hk] at hy
        rcases List.mem_cons.1 hy with rfl | hy
        · exact rt_32 k2
        · exact ih _ m b (by rw [List.length_take]; omega) h1 (by rw [List.length_take]; omega) k1 y hy
      · rw [if_neg hk] at hy
        rcases List.mem_cons.1 hy with rfl | hy
        · exact rt_32 k1
        · exact ih _ (m - spl l.length) false (by rw [List.length_drop]; omega) (by omega) (by rw [List.length_drop]; omega) k2 y hy

theorem followsE_other {L : List (List UInt8)} {m : Nat} {root : List UInt8} {ps : List (List UInt8)} (hL : ∀ x ∈ L, x.length = 32) (hn : L.length ≤ 4096) (h1 : 1 ≤ m) (hm : m ≤ L.length) (hr : root.length = 32) (hp : ∀ y ∈ ps, y.length = 32) (hl : ps.length ≠ (stepT nd e0 L m true).length) : followsE (m : Int) (L.length : Int) (rt (L.take m)) root ps = 13 := by
  rw [followsE_yes h1 hm hn (rt_32 (fun x h => hL x (List.mem_of_mem_take h))) hr (allB_of hp)]
  have h2 := (step_makes nd e0 L.length L m true (rt (L.take m)) (Nat.le_refl _) h1 hm (fun _ => rfl)).1
  cases ho : oldS nd (rt (L.take m)) ps.reverse m L.length true with
  | none => rw [if_neg (by simp)]
  | some s =>
    have h3 := oldS_length nd ps.reverse (stepT nd e0 L m true) m L.length true (rt (L.take m)) (rt (L.take m)) (by rw [ho]; rfl) (by rw [h2]; rfl)
    rw [List.length_reverse] at h3
    exact absurd h3 hl
theorem followsE_step {L : List (List UInt8)} {m : Nat} (hL : ∀ x ∈ L, x.length = 32) (hn : L.length ≤ 4096) (h1 : 1 ≤ m) (hm : m ≤ L.length) : followsE (m : Int) (L.length : Int) (rt (L.take m)) (rt L) (stepT nd e0 L m true).reverse = 0 := by
  have h2 := step_makes nd e0 L.length L m true (rt (L.take m)) (Nat.le_refl _) h1 hm (fun _ => rfl)
  rw [followsE_yes h1 hm hn (rt_32 (fun x h => hL x (List.mem_of_mem_take h))) (rt_32 hL) (allB_of (fun y hy => stepT_32 _ L m true (Nat.le_refl _) h1 hm hL y (List.mem_reverse.1 hy))), List.reverse_reverse, if_pos h2]
theorem followsE_none {L : List (List UInt8)} (hL : ∀ x ∈ L, x.length = 32) (hn : L.length ≤ 4096) : followsE ((0 : Nat) : Int) (L.length : Int) (rt (L.take 0)) (rt L) [] = 0 := by
  have e : rt (L.take 0) = e0 := rootL_nil nd e0
  rw [e, followsE_zero hn e0_length (rt_32 hL) rfl, if_pos ⟨rfl, rfl⟩]
end Go.Proofs.YtdjglghecekeoaaGreatDoor.Q

/- Paths hold and steps follow, shorter and longer ones do not: all that the walk of that statement asks of lists, in one place. -/
namespace Go.Proofs.YtdjglghecekeoaaGreatDoor.Q
open Go.RowKit Go.Sort Go.Proofs.YtdjglghecekeoaaGreatDoor.U Go.Proofs.YtdjglghecekeoaaGreatDoor.R
set_option maxRecDepth 100000

theorem drop_one_ne {l : List (List UInt8)} (h : l ≠ []) : (l.drop 1).length ≠ l.length := by have := List.length_pos_iff.2 h; rw [List.length_drop]; omega
theorem back_step {L : List (List UInt8)} {q : Nat} (h32 : ∀ x ∈ L, x.length = 32) (hn : L.length ≤ 50) (hq : q ≤ L.length) :
    ∃ SA, stepA L (q : Int) = SA ∧ stepE L (q : Int) = 0 ∧ (∀ y ∈ SA, y.length = 32) ∧ SA.length ≤ 50 ∧ followsE (q : Int) (L.length : Int) (rt (L.take q)) (rt L) SA = 0 ∧ (SA ≠ [] → followsE (q : Int) (L.length : Int) (rt (L.take q)) (rt L) (SA.drop 1) = 13) ∧ (0 < q → followsE (q : Int) (L.length : Int) (rt (L.take q)) (rt L) (SA ++ [rt L]) = 13) := by
  have hrow := row_of (show L.length ≤ 4096 by omega) h32
  have hR := rt_32 h32
  rcases Nat.eq_zero_or_pos q with h0 | h0
  · subst h0
    obtain ⟨e1, e2⟩ := stepA_zero hrow
    exact ⟨[], e1, e2, (fun y hy => by cases hy), Nat.zero_le _, followsE_none h32 (by omega), fun h => absurd rfl h, fun h => by omega⟩
  · obtain ⟨e1, e2⟩ := stepA_yes hrow h0 hq
    have hS : ∀ y ∈ (stepT nd e0 L q true).reverse, y.length = 32 := fun y hy => stepT_32 _ L q true (Nat.le_refl _) h0 hq h32 y (List.mem_reverse.1 hy)
    have hl := stepT_le nd e0 _ L q true (Nat.le_refl _) h0 hq
    refine ⟨_, e1, e2, hS, by rw [List.length_reverse]; omega, followsE_step h32 (by omega) h0 hq, fun hne => followsE_other h32 (by omega) h0 hq hR (fun y hy => hS y (List.mem_of_mem_drop hy)) ?_, fun _ => followsE_other h32 (by omega) h0 hq hR (fun y hy => ?_) ?_⟩
    · have := drop_one_ne hne
      rwa [List.length_reverse] at this
    · rcases List.mem_append.1 hy with h | h
      · exact hS y h
      · rw [List.mem_singleton.1 h]; exact hR
    · rw [List.length_append, List.length_reverse]; simp
end Go.Proofs.YtdjglghecekeoaaGreatDoor.Q

/- The walk of the statement of paths and steps of leaves: whatever data and numbers, it answers true. -/
namespace Go.Proofs.YtdjglghecekeoaaGreatDoor.Q
open Go.RowKit Go.Sort Go.Proofs.YtdjglghecekeoaaGreatDoor.U Go.Proofs.YtdjglghecekeoaaGreatDoor.R
set_option maxRecDepth 100000

section
variable {a : Act} {d : Option Tmp} {x y : Operand} {t' : TypeId} {pos : String} {after : Array Edge} {gd : Option (Nat × Bool)} {r : TypeId}
end
/-- 'append(x, v...)', where the call owns x: nothing but its block is written -/
theorem wpL_joinG {ops : Array Oper} {rest : List Oper} {a : Act} {w : World} {Q : Exit → Act → World → Prop} {t' : TypeId} {pos : String} {after : Array Edge} {d : Option Tmp} {x y : Tmp}
    (B g0 : Nat) (hown0 : w.ownsRow B 9 1 (.slice (some ⟨g0, 0, none⟩) 0 0) 0 []) (hB : B ≤ w.heap.size)
    (a' : Option Addr) (c' : Nat) (ps : List (List UInt8)) (hv : Strs w (.slice a' ps.length c') ps) (hps : ps.length ≤ 100000)
    (hs : a.eval (.tmp x) = .slice (some ⟨g0, 0, none⟩) 0 0) (hx : a.eval (.tmp y) = .slice a' ps.length c')
    (h : ∀ g2 c2 w', Own w' B (.slice (some ⟨g2, 0, none⟩) ps.length c2) ps → w.grownBy w' (some g0) → Below B w w' → wpList Tryz.prog ops Q rest (a.put d (.slice (some ⟨g2, 0, none⟩) ps.length c2)) w') :
    wpList Tryz.prog ops Q (⟨d, .call { callee := .builtin .append, args := #[.tmp x, .tmp y], argTypes := #[43, 43] }, t', pos, after, none⟩ :: rest) a w := by
  obtain ⟨i0, hi, hz0, hz1, hz2⟩ := info_parts infoStr
  have hv2 := hv
  obtain ⟨a1, c1, hvv, hc, hm, hna, hcl⟩ := hv2
  injection hvv with e1 e2 e3
  subst e1 e3
  by_cases h0 : ps = []
  · subst h0
    have hK0 := h g0 0 w (.inr ⟨g0, 0, rfl, hown0⟩) (World.grownBy.refl w _) (Below.refl _ _)
    have hr : (Builtin.append_ #[43, 43] t' #[.slice (some ⟨g0, 0, none⟩) 0 0, .slice a' 0 c']).run Tryz.prog w = .ok (.slice (some ⟨g0, 0, none⟩) 0 0) w := by
      cases a' with
      | none =>
        have hf : (Builtin.firstCells i0.size 0 (.slice none 0 c')).run Tryz.prog w = .ok #[] w := by simp [Builtin.firstCells]
        simp [Builtin.append_, run_underlying Tryz.underlying43, sizeOf, typeInfo, hi, Builtin.lenOf, hf, storeCells]
      | some b =>
        have hf : (Builtin.firstCells i0.size 0 (.slice (some b) 0 c')).run Tryz.prog w = .ok #[] w := by rw [run_firstCells_some (P := Tryz.prog) w i0.size 0 b 0 c' [] (by simp) (fun j u hj => by cases hj)]
        simp [Builtin.append_, run_underlying Tryz.underlying43, sizeOf, typeInfo, hi, Builtin.lenOf, hf, storeCells]
    have hx0 : a.eval (.tmp y) = .slice a' 0 c' := hx
    refine wpList_plain rfl fun K hK' => ?_
    have hK := hK' _ _ hK0
    generalize Operand.tmp x = X at hs
    generalize Operand.tmp y = Y at hx0
    unfold Oper.wp
    simp only [execOp, resolve, invoke, builtin]
    simp [hs, hx0, hr, Result.andThen]
    exact hK
  · obtain ⟨b, off, rfl, hcell⟩ := hcl h0
    have hpos := List.length_pos_iff.2 h0
    refine wpList_append_own _ rfl _ _ 43 (by rfl) B 9 i0 _ 1 16 Tryz.underlying43 hi hz0 hz1 hz2 rfl (by omega) _ 0 [] hs hown0 ⟨b, off, none⟩ ps.length c' (ps.map str) hx (by simp) (by
      intro j u hj
      rw [List.getElem?_map] at hj
      obtain ⟨z, hzj, rfl⟩ := Option.map_eq_some_iff.1 hj
      rw [Addr.add_mid]
      exact hcell j z hzj) (by intro u hu; obtain ⟨z, _, rfl⟩ := List.mem_map.1 hu; rfl) (by unfold maxLen; omega) (by omega) hB ?_
    intro v' w1 hown1 hgrow1 hnil1
    rw [Nat.zero_add, List.nil_append] at hown1
    have hbel : Below B w w1 := (Below.refl _ _).mono hB |>.grown hgrow1 hB (fun j hj => (hown0.lt j hj).1)
    rcases hown1.2 with ⟨rfl, e⟩ | ⟨g, cap, cur, rfl, _⟩
    · omega
    · exact h g cap w1 (.inr ⟨g, cap, rfl, hown1⟩) hgrow1 hbel
end Go.Proofs.YtdjglghecekeoaaGreatDoor.Q

/- The walk of the statement of heads that are signed and checked: whatever key, size, root and time, it answers true. -/
namespace Go.Proofs.YtdjglghecekeoaaGreatDoor.J
open Go.RowKit Go.Sort Go.Proofs.YtdjglghecekeoaaGreatDoor.U Go.Proofs.YtdjglghecekeoaaGreatDoor.R Go.Proofs.YtdjglghecekeoaaGreatDoor.Q
set_option maxRecDepth 100000

/-- 64 bytes that are 0 -/
def z64 : List UInt8 := List.replicate 64 0
theorem z64_length : z64.length = 64 := by decide
theorem z64_cells : Lib.byteCells z64 = List.replicate 64 (Value.int .u8 0) := by rfl
end Go.Proofs.YtdjglghecekeoaaGreatDoor.J

/- The contracts of the developers' Path and Step. -/
namespace Go.Proofs.YtdjglghecekeoaaGreatDoor.Q
open Go.RowKit Go.Sort Go.Proofs.YtdjglghecekeoaaGreatDoor.U Go.Proofs.YtdjglghecekeoaaGreatDoor.R
set_option maxRecDepth 100000

theorem step_no {l : List (List UInt8)} {i : Int} (h : stepOkB l i = false) : stepA l i = [] ∧ stepE l i = 1 := by
  unfold stepA stepE
  rw [h]
  exact ⟨rfl, rfl⟩
theorem strs_none (w : World) : Strs w (.slice none 0 0) [] := ⟨none, 0, rfl, Nat.le_refl _, by unfold maxLen; omega, fun _ => rfl, fun h => absurd rfl h⟩

theorem step_bad (w : World) (v : Value) (l : List (List UInt8)) (m : Int) (h1 : -9223372036854775808 ≤ m) (h2 : m ≤ 9223372036854775807) (hs : Strs w v l) (hx : ∀ x ∈ l, x.length ≤ 100) (hB : stepOkB l m = false) :
    Calls Tryz.prog 27 #[v, .int .i64 m] w fun e w' => ∃ a c, e = .returned (.tuple #[.slice a (stepA l m).length c, .int .i64 (stepE l m)]) ∧ Strs w' (.slice a (stepA l m).length c) (stepA l m) ∧ Below w.heap.size w w' := by
  rw [(step_no hB).1, (step_no hB).2]
  have HR := Lib.hid (right_any w v l hs (fun x h => Nat.le_trans (hx x h) (by unfold maxLen; omega)))
  have hN := strs_none w
  have HN := Lib.hid hN
  unfold stepOkB at hB
  obtain ⟨va, vc, rfl, hv1, hv2, hv3, hv4⟩ := hs
  clear hx hv3 hv4 hN
  cases hr : rowB l with
  | false =>
    rw [hr] at HR
    clear hB hr
    go_enter Tryz.func27, Tryz.ntmps27
    go_wp2_with (go_at_call 50; refine HR.out.mono ?_; rintro e w1 ⟨rfl, rfl⟩)
    go_ret2
    exact ⟨none, 0, rfl, HN.out, Below.refl _ _⟩
  | true =>
    rw [hr, Bool.true_and] at hB
    rw [hr] at HR
    clear hr
    by_cases h0 : m < 0
    · clear hB
      go_enter Tryz.func27, Tryz.ntmps27
      go_wp2_with (go_at_call 50; refine HR.out.mono ?_; rintro e w1 ⟨rfl, rfl⟩)
      go_ret2
      exact ⟨none, 0, rfl, HN.out, Below.refl _ _⟩
    · have h3 : (l.length : Int) < m := by
        simp only [Bool.and_eq_false_iff, decide_eq_false_iff_not] at hB
        omega
      clear hB
      go_enter Tryz.func27, Tryz.ntmps27
      go_wp2_with (go_at_call 50; refine HR.out.mono ?_; rintro e w1 ⟨rfl, rfl⟩)
      go_ret2
      exact ⟨none, 0, rfl, HN.out, Below.refl _ _⟩

set_option maxHeartbeats 1600000 in
theorem step_any (w : World) (v : Value) (l : List (List UInt8)) (m : Int) (h1 : -9223372036854775808 ≤ m) (h2 : m ≤ 9223372036854775807) (hs : Strs w v l) (hl : l.length ≤ 100) (hx : ∀ x ∈ l, x.length ≤ 100) (hT : Tab w) (hZ : Tz w) :
    Calls Tryz.prog 27 #[v, .int .i64 m] w fun e w' => ∃ a c, e = .returned (.tuple #[.slice a (stepA l m).length c, .int .i64 (stepE l m)]) ∧ Strs w' (.slice a (stepA l m).length c) (stepA l m) ∧ Below w.heap.size w w' := by
  cases hB : stepOkB l m with
  | false => exact step_bad w v l m h1 h2 hs hx hB
  | true =>
    obtain ⟨hr, hi0, hi1⟩ : rowB l = true ∧ 0 ≤ m ∧ m ≤ (l.length : Int) := by
      have h := hB
      unfold stepOkB at h
      simp only [Bool.and_eq_true, decide_eq_true_eq] at h
      exact ⟨h.1.1, h.1.2, h.2⟩
    obtain ⟨k, rfl⟩ : ∃ k : Nat, m = (k : Int) := ⟨m.toNat, by omega⟩
    have h32 := (rowB_of hr).2
    have eE : stepE l (k : Int) = 0 := by unfold stepE; rw [if_pos hB]
    rw [eE]
    have HR := Lib.hid (right_any w v l hs (fun x h => Nat.le_trans (hx x h) (by unfold maxLen; omega)))
    rw [hr] at HR
    have HN := Lib.hid (strs_none w)
    by_cases hk0 : k = 0
    · have eA : stepA l (k : Int) = [] := by unfold stepA; rw [if_neg (by omega)]
      rw [eA]
      subst hk0
      obtain ⟨va, vc, rfl, hv1, hv2, hv3, hv4⟩ := hs
      clear hx hv3 hv4 hB hr h32 eA eE hT hZ
      go_enter Tryz.func27, Tryz.ntmps27
      go_wp2_with (go_at_call 50; refine HR.out.mono ?_; rintro e w1 ⟨rfl, rfl⟩)
      go_ret2
      exact ⟨none, 0, rfl, HN.out, Below.refl _ _⟩
    · have eA : stepA l (k : Int) = (stepT nd e0 l k true).reverse := by unfold stepA; rw [if_pos ⟨hB, by omega⟩, Int.toNat_natCast]
      rw [eA]
      have hne0 : ((k : Int) == 0) = false := by simp; omega
      by_cases hkn : k = l.length
      · have eT : (stepT nd e0 l k true).reverse = [] := by subst hkn; rw [stepT_all nd e0 (by omega)]; rfl
        rw [eT]
        have hn0 : ((k : Int) == (l.length : Int)) = true := by simp; omega
        subst hkn
        have h5 : decide ((l.length : Int) < 0) = false := by rw [decide_eq_false_iff_not]; omega
        obtain ⟨va, vc, rfl, hv1, hv2, hv3, hv4⟩ := hs
        clear hx hv3 hv4 hB hr h32 eA eE eT hT hZ
        go_enter Tryz.func27, Tryz.ntmps27
        go_wp2_with (go_at_call 50; refine HR.out.mono ?_; rintro e w1 ⟨rfl, rfl⟩)
        go_ret2
        exact ⟨none, 0, rfl, HN.out, Below.refl _ _⟩
      · have hn0 : ((k : Int) == (l.length : Int)) = false := by simp; omega
        have HS := Lib.hid (stepFrom_any l k w v (by omega) h32 (by omega) (by omega) hs hT hZ)
        generalize (stepT nd e0 l k true).reverse = RS at *
        obtain ⟨va, vc, rfl, hv1, hv2, hv3, hv4⟩ := hs
        clear hx hv3 hv4 hB hr h32 eA eE hT hZ
        go_enter Tryz.func27, Tryz.ntmps27
        go_wp2_with (first
          | (go_at_call 50; refine HR.out.mono ?_; rintro e w1 ⟨rfl, rfl⟩)
          | (go_at_call 51; refine HS.out.mono ?_; rintro e w2 ⟨a2, c2, rfl, hs2, hb2⟩))
        go_ret2
        exact ⟨a2, c2, rfl, hs2, hb2⟩
end Go.Proofs.YtdjglghecekeoaaGreatDoor.Q

