/- Texts that stand on one another, put together: COpen, CLaid, TLaid, ELaid, ERVerify. -/
import Derived.Test.YtgefhfcmiefocaaGreatDoorLot14
import Derived.ChangeOld
import Derived.Deep.Strs
import Derived.LaidMore
import Derived.OpenShut
import Derived.ProofKit
import Derived.ShutString
import Derived.Stop.Joined
import Derived.Test.YtgefhfcmiefocaaGreatDoorRows
/- A number that comes in as an argument is one of four words. -/
namespace Go.Proofs.YtgefhfcmiefocaaGreatDoor.C
open Go.Proofs.YtgefhfcmiefocaaGreatDoor.F
set_option maxRecDepth 100000
open Go.ChangeShapes Go.WideShapes Go.ChangeAt Go.RowKit

theorem rowOwn : ownKnob Tryz.prog.godebug = none := by kernel_rfl
theorem rowLaid : laidOutB Tryz.prog = true := by kernel_rfl
theorem cellsU64 : Tryz.prog.cellsOf 29 = 1 := by kernel_rfl
theorem cellsFe : Tryz.prog.cellsOf 31 = 4 := by kernel_rfl
theorem array4 {α : Type} {cs : Array α} (h : cs.size = 4) : ∃ c0 c1 c2 c3, cs = #[c0, c1, c2, c3] := by
  obtain ⟨l⟩ := cs
  match l, h with
  | [c0, c1, c2, c3], _ => exact ⟨c0, c1, c2, c3, rfl⟩
theorem nat_of_u64 {k : Int} (h : (Lit.int .u64 k).wf = true) : ∃ x : Nat, k = (x : Int) ∧ x < 18446744073709551616 := by
  have := bounds_u64 h
  exact ⟨k.toNat, by omega, by omega⟩
theorem okWide_array {w : World} {r : Reach} {base : Nat} {t e n : Nat} {v : Value} (ht : Tryz.prog.underlying t = some (.array n e)) (h : Value.okWide Tryz.prog w r base t v) : ∃ cs, v = .agg cs ∧ cs.size = Tryz.prog.cellsOf t := by
  simp only [Value.okWide, ht] at h
  obtain ⟨cs, h1, h2, _⟩ := h
  exact ⟨cs, h1, h2⟩
theorem words_open {H : Type} {enc : TypeId × Value → H} {W : World} {fuel : Nat} {l : List Value} {x : DataW H × List MemPlace}
    (h : DataW.trod enc Tryz.prog W 0 (fun _ => true) true fuel 31 l = some x) : ∀ i, i < 4 → ∃ k : Nat, l[i]? = some (w64 k) ∧ k < 18446744073709551616 := by
  intro i hi
  obtain ⟨xs, m, rfl, hx, _, hxn, hel⟩ := DataW.trod_array Tryz.underlying31 h
  have h1 := hel i hi
  have hxi : xs[i]? = some (xs[i]'(by omega)) := List.getElem?_eq_getElem (by omega)
  rw [hxi, cellsU64, Nat.mul_one] at h1
  obtain ⟨k, e1, _, hw⟩ := DataW.trod_int Tryz.underlying29 h1
  obtain ⟨k, rfl, hk⟩ := nat_of_u64 hw
  have h3 : ((l.drop i).take 1)[0]? = some (.int .u64 (k : Int)) := by rw [e1]; rfl
  rw [List.getElem?_take, if_pos (by decide), List.getElem?_drop, Nat.add_zero] at h3
  exact ⟨k, h3, hk⟩
theorem fe_open {H : Type} {enc : TypeId × Value → H} {W : World} {r : Reach} {b0 : Nat} {v : Value} {d : DataW H} {p : List MemPlace}
    (hv : Value.okWide Tryz.prog W r b0 31 v) (h : DataW.Trod enc Tryz.prog W 0 (fun _ => true) true 31 v d p) : ∃ n, n < K256 ∧ v = fe n := by
  obtain ⟨cs, rfl, hsz⟩ := okWide_array Tryz.underlying31 hv
  obtain ⟨c0, c1, c2, c3, rfl⟩ := array4 (hsz.trans cellsFe)
  obtain ⟨fuel, hf⟩ := h
  have hw := words_open hf
  obtain ⟨k0, e0, l0⟩ := hw 0 (by decide)
  obtain ⟨k1, e1, l1⟩ := hw 1 (by decide)
  obtain ⟨k2, e2, l2⟩ := hw 2 (by decide)
  obtain ⟨k3, e3, l3⟩ := hw 3 (by decide)
  injection e0 with e0
  injection e1 with e1
  injection e2 with e2
  injection e3 with e3
  subst e0 e1 e2 e3
  obtain ⟨n, hn, he, _⟩ := fe_of k0 k1 k2 k3 l0 l1 l2 l3
  exact ⟨n, hn, he⟩
end Go.Proofs.YtgefhfcmiefocaaGreatDoor.C

/- What the listed variables give; and a start that meets it. -/
namespace Go.Proofs.YtgefhfcmiefocaaGreatDoor.C
open Go.Proofs.YtgefhfcmiefocaaGreatDoor.F
set_option maxRecDepth 100000
open Go.ChangeShapes Go.WideShapes Go.ChangeAt Go.RowKit

theorem arr_cells {W : World} {name : String} {g t n fuel : Nat} {cs : Array Value} {p : List MemPlace} (L : List Nat) (hg : Tryz.prog.globalNamed name = some g) (ht : Tryz.prog.underlying t = some (.array n 29)) (hv : W.var? Tryz.prog name = some cs)
    (hd : DataW.trod (fun _ => ()) Tryz.prog W 0 (fun _ => true) false fuel t cs.toList = some (.agg (L.map fun x : Nat => .lit (.int .u64 (x : Int))), p)) (hn : L.length = n) :
    ∀ i, i < n → W.cell? ⟨g, i, none⟩ = some (w64 (L.getD i 0)) := by
  intro i hi
  obtain ⟨xs, m, rfl, hx, _, hxn, hel⟩ := DataW.trod_array ht hd
  have h1 := hel i hi
  simp only [Prod.mk.injEq, DataW.agg.injEq] at hx
  have hxi : xs[i]? = some (xs[i]'(by omega)) := List.getElem?_eq_getElem (by omega)
  rw [hxi, cellsU64, Nat.mul_one] at h1
  obtain ⟨k, e1, e2, _⟩ := DataW.trod_int Tryz.underlying29 h1
  have h2 : (xs.map (·.1))[i]? = some (.lit (.int .u64 k)) := by rw [List.getElem?_map, hxi, e2]; rfl
  rw [← hx.1, List.getElem?_map] at h2
  have hLi : L[i]? = some (L[i]'(by omega)) := List.getElem?_eq_getElem (by omega)
  rw [hLi] at h2
  simp only [Option.map_some, Option.some.injEq, DataW.lit.injEq, Lit.int.injEq, true_and] at h2
  rw [World.var?_cell hg hv i, ← Array.getElem?_toList]
  have h3 : ((cs.toList.drop i).take 1)[0]? = some (.int .u64 k) := by rw [e1]; rfl
  rw [List.getElem?_take, if_pos (by decide), List.getElem?_drop, Nat.add_zero] at h3
  rw [h3, ← h2, List.getD_eq_getElem?_getD, hLi]
  rfl

theorem g_pr : Tryz.prog.globalNamed "imprimatur/field.prime" = some 4 := by kernel_rfl
theorem t_pr : (Tryz.prog.globals[4]?).map (·.type) = some 42 := by kernel_rfl
def w_pr : List Nat := [18446744073709551597, 18446744073709551615, 18446744073709551615, 9223372036854775807]
theorem a_pr (i : Nat) (h : i < 4) : w_pr.getD i 0 = wordN p25 i := by
  match i, h with
  | 0, _ | 1, _ | 2, _ | 3, _ => decide
theorem g_ro : Tryz.prog.globalNamed "imprimatur/field.rootOfMinusOne" = some 5 := by kernel_rfl
theorem t_ro : (Tryz.prog.globals[5]?).map (·.type) = some 42 := by kernel_rfl
def w_ro : List Nat := [14190309331451158704, 3405592160176694392, 3120150775007532967, 3135389899092516619]
theorem a_ro (i : Nat) (h : i < 4) : w_ro.getD i 0 = wordN i25 i := by
  match i, h with
  | 0, _ | 1, _ | 2, _ | 3, _ => decide
theorem g_dd : Tryz.prog.globalNamed "imprimatur/point.d" = some 0 := by kernel_rfl
theorem t_dd : (Tryz.prog.globals[0]?).map (·.type) = some 42 := by kernel_rfl
def w_dd : List Nat := [8496970652267935907, 31536524315187371, 10144147576115030168, 5909686906226998899]
theorem a_dd (i : Nat) (h : i < 4) : w_dd.getD i 0 = wordN dN i := by
  match i, h with
  | 0, _ | 1, _ | 2, _ | 3, _ => decide
theorem g_bx : Tryz.prog.globalNamed "imprimatur/point.baseX" = some 2 := by kernel_rfl
theorem t_bx : (Tryz.prog.globals[2]?).map (·.type) = some 42 := by kernel_rfl
def w_bx : List Nat := [14507833142362363162, 7578651490590762930, 13881468655802702940, 2407515759118799870]
theorem a_bx (i : Nat) (h : i < 4) : w_bx.getD i 0 = wordN bxN i := by
  match i, h with
  | 0, _ | 1, _ | 2, _ | 3, _ => decide
theorem g_by : Tryz.prog.globalNamed "imprimatur/point.baseY" = some 3 := by kernel_rfl
theorem t_by : (Tryz.prog.globals[3]?).map (·.type) = some 42 := by kernel_rfl
def w_by : List Nat := [7378697629483820632, 7378697629483820646, 7378697629483820646, 7378697629483820646]
theorem a_by (i : Nat) (h : i < 4) : w_by.getD i 0 = wordN byN i := by
  match i, h with
  | 0, _ | 1, _ | 2, _ | 3, _ => decide
theorem g_or : Tryz.prog.globalNamed "imprimatur/scalar.order" = some 7 := by kernel_rfl
theorem t_or : (Tryz.prog.globals[7]?).map (·.type) = some 31 := by kernel_rfl
def w_or : List Nat := [6346243789798364141, 1503914060200516822, 0, 1152921504606846976]
theorem a_or (i : Nat) (h : i < 4) : w_or.getD i 0 = wordN G.l25 i := by
  match i, h with
  | 0, _ | 1, _ | 2, _ | 3, _ => decide
abbrev laidP : List (String × DataW Unit) := [("imprimatur/field.prime", Rows.laid_imprimatur_field_prime), ("imprimatur/point.d", Rows.laid_imprimatur_point_d), ("imprimatur/point.baseX", Rows.laid_imprimatur_point_baseX), ("imprimatur/point.baseY", Rows.laid_imprimatur_point_baseY)]
theorem tabP_of_laid {W : World} (h : laidMetH Tryz.prog laidP W) : PtTab W := by
  rw [MakeChecks.laidMetH_plain _ _ _ (by kernel_rfl)] at h
  obtain ⟨ps, ⟨g0, t0, cs0, f0, p0, q0, hg0, ht0, hv0, hd0, ⟨g1, t1, cs1, f1, p1, q1, hg1, ht1, hv1, hd1, ⟨g2, t2, cs2, f2, p2, q2, hg2, ht2, hv2, hd2, ⟨g3, t3, cs3, f3, p3, q3, hg3, ht3, hv3, hd3, _, _⟩, _⟩, _⟩, _⟩, _, _⟩ := h
  obtain rfl := Option.some.inj (g_pr.symm.trans hg0)
  obtain rfl := Option.some.inj (g_dd.symm.trans hg1)
  obtain rfl := Option.some.inj (g_bx.symm.trans hg2)
  obtain rfl := Option.some.inj (g_by.symm.trans hg3)
  obtain rfl := Option.some.inj (t_pr.symm.trans ht0)
  obtain rfl := Option.some.inj (t_dd.symm.trans ht1)
  obtain rfl := Option.some.inj (t_bx.symm.trans ht2)
  obtain rfl := Option.some.inj (t_by.symm.trans ht3)
  have c_pr : VarN 4 p25 W := fun i hi => by rw [← a_pr i hi]; exact arr_cells w_pr g_pr Tryz.underlying42 hv0 hd0 rfl i hi
  have c_dd : VarN 0 dN W := fun i hi => by rw [← a_dd i hi]; exact arr_cells w_dd g_dd Tryz.underlying42 hv1 hd1 rfl i hi
  have c_bx : VarN 2 bxN W := fun i hi => by rw [← a_bx i hi]; exact arr_cells w_bx g_bx Tryz.underlying42 hv2 hd2 rfl i hi
  have c_by : VarN 3 byN W := fun i hi => by rw [← a_by i hi]; exact arr_cells w_by g_by Tryz.underlying42 hv3 hd3 rfl i hi
  exact ⟨c_pr, c_dd, c_bx, c_by⟩
theorem door_metP (os : Os) (args : Array Value) : laidMetH Tryz.prog laidP ((World.doorLaid Tryz.prog 400 os).forCall (fun _ _ => 0) ⟨#[], args, []⟩).memory :=
  laidMetH_of_parts3 (fuel := 8) (laidMet_of_run' 8 (by kernel_rfl) (by kernel_rfl)) (by kernel_rfl) (by kernel_rfl)
abbrev laidR : List (String × DataW Unit) := [("imprimatur/field.rootOfMinusOne", Rows.laid_imprimatur_field_rootOfMinusOne), ("imprimatur/field.prime", Rows.laid_imprimatur_field_prime), ("imprimatur/point.d", Rows.laid_imprimatur_point_d), ("imprimatur/point.baseX", Rows.laid_imprimatur_point_baseX), ("imprimatur/point.baseY", Rows.laid_imprimatur_point_baseY)]
theorem tabR_of_laid {W : World} (h : laidMetH Tryz.prog laidR W) : PtTab2 W := by
  rw [MakeChecks.laidMetH_plain _ _ _ (by kernel_rfl)] at h
  obtain ⟨ps, ⟨g0, t0, cs0, f0, p0, q0, hg0, ht0, hv0, hd0, ⟨g1, t1, cs1, f1, p1, q1, hg1, ht1, hv1, hd1, ⟨g2, t2, cs2, f2, p2, q2, hg2, ht2, hv2, hd2, ⟨g3, t3, cs3, f3, p3, q3, hg3, ht3, hv3, hd3, ⟨g4, t4, cs4, f4, p4, q4, hg4, ht4, hv4, hd4, _, _⟩, _⟩, _⟩, _⟩, _⟩, _, _⟩ := h
  obtain rfl := Option.some.inj (g_ro.symm.trans hg0)
  obtain rfl := Option.some.inj (g_pr.symm.trans hg1)
  obtain rfl := Option.some.inj (g_dd.symm.trans hg2)
  obtain rfl := Option.some.inj (g_bx.symm.trans hg3)
  obtain rfl := Option.some.inj (g_by.symm.trans hg4)
  obtain rfl := Option.some.inj (t_ro.symm.trans ht0)
  obtain rfl := Option.some.inj (t_pr.symm.trans ht1)
  obtain rfl := Option.some.inj (t_dd.symm.trans ht2)
  obtain rfl := Option.some.inj (t_bx.symm.trans ht3)
  obtain rfl := Option.some.inj (t_by.symm.trans ht4)
  have c_ro : VarN 5 i25 W := fun i hi => by rw [← a_ro i hi]; exact arr_cells w_ro g_ro Tryz.underlying42 hv0 hd0 rfl i hi
  have c_pr : VarN 4 p25 W := fun i hi => by rw [← a_pr i hi]; exact arr_cells w_pr g_pr Tryz.underlying42 hv1 hd1 rfl i hi
  have c_dd : VarN 0 dN W := fun i hi => by rw [← a_dd i hi]; exact arr_cells w_dd g_dd Tryz.underlying42 hv2 hd2 rfl i hi
  have c_bx : VarN 2 bxN W := fun i hi => by rw [← a_bx i hi]; exact arr_cells w_bx g_bx Tryz.underlying42 hv3 hd3 rfl i hi
  have c_by : VarN 3 byN W := fun i hi => by rw [← a_by i hi]; exact arr_cells w_by g_by Tryz.underlying42 hv4 hd4 rfl i hi
  exact ⟨⟨c_pr, c_dd, c_bx, c_by⟩, c_ro⟩
theorem door_metR (os : Os) (args : Array Value) : laidMetH Tryz.prog laidR ((World.doorLaid Tryz.prog 400 os).forCall (fun _ _ => 0) ⟨#[], args, []⟩).memory :=
  laidMetH_of_parts3 (fuel := 8) (laidMet_of_run' 8 (by kernel_rfl) (by kernel_rfl)) (by kernel_rfl) (by kernel_rfl)
abbrev laidO : List (String × DataW Unit) := [("imprimatur/field.prime", Rows.laid_imprimatur_field_prime), ("imprimatur/point.d", Rows.laid_imprimatur_point_d), ("imprimatur/point.baseX", Rows.laid_imprimatur_point_baseX), ("imprimatur/point.baseY", Rows.laid_imprimatur_point_baseY), ("imprimatur/scalar.order", Rows.laid_imprimatur_scalar_order)]
theorem tabO_of_laid {W : World} (h : laidMetH Tryz.prog laidO W) : PtTab W ∧ G.Tab W := by
  rw [MakeChecks.laidMetH_plain _ _ _ (by kernel_rfl)] at h
  obtain ⟨ps, ⟨g0, t0, cs0, f0, p0, q0, hg0, ht0, hv0, hd0, ⟨g1, t1, cs1, f1, p1, q1, hg1, ht1, hv1, hd1, ⟨g2, t2, cs2, f2, p2, q2, hg2, ht2, hv2, hd2, ⟨g3, t3, cs3, f3, p3, q3, hg3, ht3, hv3, hd3, ⟨g4, t4, cs4, f4, p4, q4, hg4, ht4, hv4, hd4, _, _⟩, _⟩, _⟩, _⟩, _⟩, _, _⟩ := h
  obtain rfl := Option.some.inj (g_pr.symm.trans hg0)
  obtain rfl := Option.some.inj (g_dd.symm.trans hg1)
  obtain rfl := Option.some.inj (g_bx.symm.trans hg2)
  obtain rfl := Option.some.inj (g_by.symm.trans hg3)
  obtain rfl := Option.some.inj (g_or.symm.trans hg4)
  obtain rfl := Option.some.inj (t_pr.symm.trans ht0)
  obtain rfl := Option.some.inj (t_dd.symm.trans ht1)
  obtain rfl := Option.some.inj (t_bx.symm.trans ht2)
  obtain rfl := Option.some.inj (t_by.symm.trans ht3)
  obtain rfl := Option.some.inj (t_or.symm.trans ht4)
  have c_pr : VarN 4 p25 W := fun i hi => by rw [← a_pr i hi]; exact arr_cells w_pr g_pr Tryz.underlying42 hv0 hd0 rfl i hi
  have c_dd : VarN 0 dN W := fun i hi => by rw [← a_dd i hi]; exact arr_cells w_dd g_dd Tryz.underlying42 hv1 hd1 rfl i hi
  have c_bx : VarN 2 bxN W := fun i hi => by rw [← a_bx i hi]; exact arr_cells w_bx g_bx Tryz.underlying42 hv2 hd2 rfl i hi
  have c_by : VarN 3 byN W := fun i hi => by rw [← a_by i hi]; exact arr_cells w_by g_by Tryz.underlying42 hv3 hd3 rfl i hi
  have c_or : VarN 7 G.l25 W := fun i hi => by rw [← a_or i hi]; exact arr_cells w_or g_or Tryz.underlying31 hv4 hd4 rfl i hi
  exact ⟨⟨c_pr, c_dd, c_bx, c_by⟩, c_or⟩
theorem door_metO (os : Os) (args : Array Value) : laidMetH Tryz.prog laidO ((World.doorLaid Tryz.prog 400 os).forCall (fun _ _ => 0) ⟨#[], args, []⟩).memory :=
  laidMetH_of_parts3 (fuel := 8) (laidMet_of_run' 8 (by kernel_rfl) (by kernel_rfl)) (by kernel_rfl) (by kernel_rfl)
end Go.Proofs.YtgefhfcmiefocaaGreatDoor.C

/- What the listed variables give: the two tables hold their constants; and a start that meets it. -/
namespace Go.Proofs.YtgefhfcmiefocaaGreatDoor.T
open Go.ChangeShapes Go.WideShapes Go.ChangeAt Go.RowKit

theorem rowOwn : ownKnob Tryz.prog.godebug = none := by kernel_rfl
theorem rowLaid : laidOutB Tryz.prog = true := by kernel_rfl

/-- the list that every row lists -/
abbrev laidL : List (String × DataW Unit) := [("imprimatur/sha512.squareRoots", Rows.laid_imprimatur_sha512_squareRoots), ("imprimatur/sha512.cubeRoots", Rows.laid_imprimatur_sha512_cubeRoots)]

theorem cells25 : Tryz.prog.cellsOf 29 = 1 := by kernel_rfl
theorem arr_cells {W : World} {name : String} {g t n fuel : Nat} {cs : Array Value} {p : List MemPlace} (L : List Nat) (hg : Tryz.prog.globalNamed name = some g) (ht : Tryz.prog.underlying t = some (.array n 29)) (hv : W.var? Tryz.prog name = some cs)
    (hd : DataW.trod (fun _ => ()) Tryz.prog W 0 (fun _ => true) false fuel t cs.toList = some (.agg (L.map fun x : Nat => .lit (.int .u64 (x : Int))), p)) (hn : L.length = n) :
    ∀ i, i < n → W.cell? ⟨g, i, none⟩ = some (w64 (L.getD i 0)) := by
  intro i hi
  obtain ⟨xs, m, rfl, hx, _, hxn, hel⟩ := DataW.trod_array ht hd
  have h1 := hel i hi
  simp only [Prod.mk.injEq, DataW.agg.injEq] at hx
  have hxi : xs[i]? = some (xs[i]'(by omega)) := List.getElem?_eq_getElem (by omega)
  rw [hxi, cells25, Nat.mul_one] at h1
  obtain ⟨k, e1, e2, _⟩ := DataW.trod_int Tryz.underlying29 h1
  have h2 : (xs.map (·.1))[i]? = some (.lit (.int .u64 k)) := by rw [List.getElem?_map, hxi, e2]; rfl
  rw [← hx.1, List.getElem?_map] at h2
  have hLi : L[i]? = some (L[i]'(by omega)) := List.getElem?_eq_getElem (by omega)
  rw [hLi] at h2
  simp only [Option.map_some, Option.some.injEq, DataW.lit.injEq, Lit.int.injEq, true_and] at h2
  rw [World.var?_cell hg hv i, ← Array.getElem?_toList]
  have h3 : ((cs.toList.drop i).take 1)[0]? = some (.int .u64 k) := by rw [e1]; rfl
  rw [List.getElem?_take, if_pos (by decide), List.getElem?_drop, Nat.add_zero] at h3
  rw [h3, ← h2, List.getD_eq_getElem?_getD, hLi]
  rfl

theorem gSq : Tryz.prog.globalNamed "imprimatur/sha512.squareRoots" = some 1 := by kernel_rfl
theorem gCu : Tryz.prog.globalNamed "imprimatur/sha512.cubeRoots" = some 6 := by kernel_rfl
theorem tSq : (Tryz.prog.globals[1]?).map (·.type) = some 79 := by kernel_rfl
theorem tCu : (Tryz.prog.globals[6]?).map (·.type) = some 143 := by kernel_rfl
def sq : List Nat := [h0.a, h0.b, h0.c, h0.d, h0.e, h0.f, h0.g, h0.h]
theorem sq_at (i : Nat) (h : i < 8) : sq.getD i 0 = h0.at i := by
  match i, h with
  | 0, _ | 1, _ | 2, _ | 3, _ | 4, _ | 5, _ | 6, _ | 7, _ => rfl

theorem tab_of_laid {W : World} (h : laidMetH Tryz.prog laidL W) : Tab W := by
  rw [MakeChecks.laidMetH_plain _ _ _ (by kernel_rfl)] at h
  obtain ⟨ps, ⟨g0, t0, cs0, f0, p0, q0, hg0, ht0, hv0, hd0, ⟨g1, t1, cs1, f1, p1, q1, hg1, ht1, hv1, hd1, _, _⟩, _⟩, _, _⟩ := h
  obtain rfl := Option.some.inj (gSq.symm.trans hg0)
  obtain rfl := Option.some.inj (gCu.symm.trans hg1)
  obtain rfl := Option.some.inj (tSq.symm.trans ht0)
  obtain rfl := Option.some.inj (tCu.symm.trans ht1)
  have c0 := arr_cells sq gSq Tryz.underlying79 hv0 hd0 rfl
  have c1 := arr_cells ks gCu Tryz.underlying143 hv1 hd1 rfl
  exact ⟨fun i hi => by rw [← sq_at i hi]; exact c0 i hi, c1⟩

/-- the door's own heap meets the condition -/
theorem door_met (os : Os) (args : Array Value) : laidMetH Tryz.prog laidL ((World.doorLaid Tryz.prog 400 os).forCall (fun _ _ => 0) ⟨#[], args, []⟩).memory :=
  laidMetH_of_parts3 (fuel := 8) (laidMet_of_run' 8 (by kernel_rfl) (by kernel_rfl)) (by kernel_rfl) (by kernel_rfl)
end Go.Proofs.YtgefhfcmiefocaaGreatDoor.T

/- What the listed variables give; and a start that meets it. -/
namespace Go.Proofs.YtgefhfcmiefocaaGreatDoor.E
open Go.Proofs.YtgefhfcmiefocaaGreatDoor.F Go.Proofs.YtgefhfcmiefocaaGreatDoor.C
set_option maxRecDepth 100000
open Go.ChangeShapes Go.WideShapes Go.ChangeAt Go.RowKit

theorem nat_of_u8 {k : Int} (h : (Lit.int .u8 k).wf = true) : ∃ x : Nat, k = (x : Int) ∧ x < 256 := by
  have := bounds_u8 h
  exact ⟨k.toNat, by omega, by omega⟩
abbrev laidR : List (String × DataW Unit) := [("imprimatur/field.rootOfMinusOne", Rows.laid_imprimatur_field_rootOfMinusOne), ("imprimatur/field.prime", Rows.laid_imprimatur_field_prime), ("imprimatur/point.d", Rows.laid_imprimatur_point_d), ("imprimatur/point.baseX", Rows.laid_imprimatur_point_baseX), ("imprimatur/point.baseY", Rows.laid_imprimatur_point_baseY), ("imprimatur/scalar.order", Rows.laid_imprimatur_scalar_order), ("imprimatur/sha512.squareRoots", Rows.laid_imprimatur_sha512_squareRoots), ("imprimatur/sha512.cubeRoots", Rows.laid_imprimatur_sha512_cubeRoots)]
theorem tabR_of_laid {W : World} (h : laidMetH Tryz.prog laidR W) : EdTab2 W := by
  rw [MakeChecks.laidMetH_plain _ _ _ (by kernel_rfl)] at h
  obtain ⟨ps, ⟨g0, t0, cs0, f0, p0, q0, hg0, ht0, hv0, hd0, ⟨g1, t1, cs1, f1, p1, q1, hg1, ht1, hv1, hd1, ⟨g2, t2, cs2, f2, p2, q2, hg2, ht2, hv2, hd2, ⟨g3, t3, cs3, f3, p3, q3, hg3, ht3, hv3, hd3, ⟨g4, t4, cs4, f4, p4, q4, hg4, ht4, hv4, hd4, ⟨g5, t5, cs5, f5, p5, q5, hg5, ht5, hv5, hd5, ⟨g6, t6, cs6, f6, p6, q6, hg6, ht6, hv6, hd6, ⟨g7, t7, cs7, f7, p7, q7, hg7, ht7, hv7, hd7, _, _⟩, _⟩, _⟩, _⟩, _⟩, _⟩, _⟩, _⟩, _, _⟩ := h
  obtain rfl := Option.some.inj (C.g_ro.symm.trans hg0)
  obtain rfl := Option.some.inj (C.g_pr.symm.trans hg1)
  obtain rfl := Option.some.inj (C.g_dd.symm.trans hg2)
  obtain rfl := Option.some.inj (C.g_bx.symm.trans hg3)
  obtain rfl := Option.some.inj (C.g_by.symm.trans hg4)
  obtain rfl := Option.some.inj (C.g_or.symm.trans hg5)
  obtain rfl := Option.some.inj (T.gSq.symm.trans hg6)
  obtain rfl := Option.some.inj (T.gCu.symm.trans hg7)
  obtain rfl := Option.some.inj (C.t_ro.symm.trans ht0)
  obtain rfl := Option.some.inj (C.t_pr.symm.trans ht1)
  obtain rfl := Option.some.inj (C.t_dd.symm.trans ht2)
  obtain rfl := Option.some.inj (C.t_bx.symm.trans ht3)
  obtain rfl := Option.some.inj (C.t_by.symm.trans ht4)
  obtain rfl := Option.some.inj (C.t_or.symm.trans ht5)
  obtain rfl := Option.some.inj (T.tSq.symm.trans ht6)
  obtain rfl := Option.some.inj (T.tCu.symm.trans ht7)
  have c_ro : VarN 5 i25 W := fun i hi => by rw [← C.a_ro i hi]; exact C.arr_cells C.w_ro C.g_ro Tryz.underlying42 hv0 hd0 rfl i hi
  have c_pr : VarN 4 p25 W := fun i hi => by rw [← C.a_pr i hi]; exact C.arr_cells C.w_pr C.g_pr Tryz.underlying42 hv1 hd1 rfl i hi
  have c_dd : VarN 0 dN W := fun i hi => by rw [← C.a_dd i hi]; exact C.arr_cells C.w_dd C.g_dd Tryz.underlying42 hv2 hd2 rfl i hi
  have c_bx : VarN 2 bxN W := fun i hi => by rw [← C.a_bx i hi]; exact C.arr_cells C.w_bx C.g_bx Tryz.underlying42 hv3 hd3 rfl i hi
  have c_by : VarN 3 byN W := fun i hi => by rw [← C.a_by i hi]; exact C.arr_cells C.w_by C.g_by Tryz.underlying42 hv4 hd4 rfl i hi
  have c_or : VarN 7 G.l25 W := fun i hi => by rw [← C.a_or i hi]; exact C.arr_cells C.w_or C.g_or Tryz.underlying31 hv5 hd5 rfl i hi
  have c_sq := T.arr_cells T.sq T.gSq Tryz.underlying79 hv6 hd6 rfl
  have c_cu := T.arr_cells T.ks T.gCu Tryz.underlying143 hv7 hd7 rfl
  exact ⟨⟨⟨fun i hi => by rw [← T.sq_at i hi]; exact c_sq i hi, c_cu⟩, c_or, ⟨c_pr, c_dd, c_bx, c_by⟩⟩, c_ro⟩
theorem door_metR (os : Os) (args : Array Value) : laidMetH Tryz.prog laidR ((World.doorLaid Tryz.prog 400 os).forCall (fun _ _ => 0) ⟨#[], args, []⟩).memory :=
  laidMetH_of_parts3 (fuel := 8) (laidMet_of_run' 8 (by kernel_rfl) (by kernel_rfl)) (by kernel_rfl) (by kernel_rfl)
abbrev laidP : List (String × DataW Unit) := [("imprimatur/field.prime", Rows.laid_imprimatur_field_prime), ("imprimatur/point.d", Rows.laid_imprimatur_point_d), ("imprimatur/point.baseX", Rows.laid_imprimatur_point_baseX), ("imprimatur/point.baseY", Rows.laid_imprimatur_point_baseY), ("imprimatur/scalar.order", Rows.laid_imprimatur_scalar_order), ("imprimatur/sha512.squareRoots", Rows.laid_imprimatur_sha512_squareRoots), ("imprimatur/sha512.cubeRoots", Rows.laid_imprimatur_sha512_cubeRoots)]
theorem tabP_of_laid {W : World} (h : laidMetH Tryz.prog laidP W) : EdTab W := by
  rw [MakeChecks.laidMetH_plain _ _ _ (by kernel_rfl)] at h
  obtain ⟨ps, ⟨g0, t0, cs0, f0, p0, q0, hg0, ht0, hv0, hd0, ⟨g1, t1, cs1, f1, p1, q1, hg1, ht1, hv1, hd1, ⟨g2, t2, cs2, f2, p2, q2, hg2, ht2, hv2, hd2, ⟨g3, t3, cs3, f3, p3, q3, hg3, ht3, hv3, hd3, ⟨g4, t4, cs4, f4, p4, q4, hg4, ht4, hv4, hd4, ⟨g5, t5, cs5, f5, p5, q5, hg5, ht5, hv5, hd5, ⟨g6, t6, cs6, f6, p6, q6, hg6, ht6, hv6, hd6, _, _⟩, _⟩, _⟩, _⟩, _⟩, _⟩, _⟩, _, _⟩ := h
  obtain rfl := Option.some.inj (C.g_pr.symm.trans hg0)
  obtain rfl := Option.some.inj (C.g_dd.symm.trans hg1)
  obtain rfl := Option.some.inj (C.g_bx.symm.trans hg2)
  obtain rfl := Option.some.inj (C.g_by.symm.trans hg3)
  obtain rfl := Option.some.inj (C.g_or.symm.trans hg4)
  obtain rfl := Option.some.inj (T.gSq.symm.trans hg5)
  obtain rfl := Option.some.inj (T.gCu.symm.trans hg6)
  obtain rfl := Option.some.inj (C.t_pr.symm.trans ht0)
  obtain rfl := Option.some.inj (C.t_dd.symm.trans ht1)
  obtain rfl := Option.some.inj (C.t_bx.symm.trans ht2)
  obtain rfl := Option.some.inj (C.t_by.symm.trans ht3)
  obtain rfl := Option.some.inj (C.t_or.symm.trans ht4)
  obtain rfl := Option.some.inj (T.tSq.symm.trans ht5)
  obtain rfl := Option.some.inj (T.tCu.symm.trans ht6)
  have c_pr : VarN 4 p25 W := fun i hi => by rw [← C.a_pr i hi]; exact C.arr_cells C.w_pr C.g_pr Tryz.underlying42 hv0 hd0 rfl i hi
  have c_dd : VarN 0 dN W := fun i hi => by rw [← C.a_dd i hi]; exact C.arr_cells C.w_dd C.g_dd Tryz.underlying42 hv1 hd1 rfl i hi
  have c_bx : VarN 2 bxN W := fun i hi => by rw [← C.a_bx i hi]; exact C.arr_cells C.w_bx C.g_bx Tryz.underlying42 hv2 hd2 rfl i hi
  have c_by : VarN 3 byN W := fun i hi => by rw [← C.a_by i hi]; exact C.arr_cells C.w_by C.g_by Tryz.underlying42 hv3 hd3 rfl i hi
  have c_or : VarN 7 G.l25 W := fun i hi => by rw [← C.a_or i hi]; exact C.arr_cells C.w_or C.g_or Tryz.underlying31 hv4 hd4 rfl i hi
  have c_sq := T.arr_cells T.sq T.gSq Tryz.underlying79 hv5 hd5 rfl
  have c_cu := T.arr_cells T.ks T.gCu Tryz.underlying143 hv6 hd6 rfl
  exact ⟨⟨fun i hi => by rw [← T.sq_at i hi]; exact c_sq i hi, c_cu⟩, c_or, ⟨c_pr, c_dd, c_bx, c_by⟩⟩
theorem door_metP (os : Os) (args : Array Value) : laidMetH Tryz.prog laidP ((World.doorLaid Tryz.prog 400 os).forCall (fun _ _ => 0) ⟨#[], args, []⟩).memory :=
  laidMetH_of_parts3 (fuel := 8) (laidMet_of_run' 8 (by kernel_rfl) (by kernel_rfl)) (by kernel_rfl) (by kernel_rfl)
end Go.Proofs.YtgefhfcmiefocaaGreatDoor.E

/- The contract of the reference's Verify: it tells what the developers' does. -/
namespace Go.Proofs.YtgefhfcmiefocaaGreatDoor.E
open Go.RowKit Go.Sort Go.Proofs.YtgefhfcmiefocaaGreatDoor.F Go.Proofs.YtgefhfcmiefocaaGreatDoor.C
set_option maxRecDepth 100000

/-! ### a signature's first half is a point's bytes -/
theorem keyQ_text (t : ByteArray) (h32 : t.size = 32) (h : keyB t = true) : textN (keyQ t) = t := by
  have hl : t.data.toList.length = 32 := by rw [Array.length_toList]; exact h32
  have hlt := numLE_lt t.data.toList
  have hback : leL (numLE t.data.toList) 32 = t.data.toList := by rw [← hl]; exact leL_numLE _
  rw [hl] at hlt
  unfold keyB keyY keyO parseB at h
  simp only [Bool.and_eq_true, decide_eq_true_eq] at h
  obtain ⟨⟨hm, _⟩, hx⟩ := h
  have hpar := xOf_odd (numLE t.data.toList % two255) (decide (two255 ≤ numLE t.data.toList)) (by
    cases hd : decide (two255 ≤ numLE t.data.toList) with
    | false => exact .inr rfl
    | true =>
      rw [hd] at hx
      refine .inl (fun e => ?_)
      rw [e] at hx
      exact absurd hx (by decide))
  unfold textN keyQ keyY keyO
  show (⟨(leL ((z (numLE t.data.toList % two255)).val + two255 * ((z (xOf (numLE t.data.toList % two255) (decide (two255 ≤ numLE t.data.toList)))).val % 2)) 32).toArray⟩ : ByteArray) = t
  rw [val_z hm, val_z (xOf_lt _ _), hpar]
  have h2 : (256 : Nat) ^ 32 = 2 * two255 := by decide
  have hsum : numLE t.data.toList % two255 + two255 * (if decide (two255 ≤ numLE t.data.toList) = true then 1 else 0) = numLE t.data.toList := by
    rw [h2] at hlt
    unfold two255 at *
    by_cases hd : 57896044618658097711785492504343953926634992332820282019728792003956564819968 ≤ numLE t.data.toList
    · rw [if_pos (decide_eq_true hd)]
      omega
    · rw [if_neg (by simpa using hd)]
      omega
  rw [hsum, hback]
theorem key_textE {P : Pt} (h : P.On) : keyB (textN P) = true ∧ keyQ (textN P) = P := by
  have hp := text_parts P
  have e1 : keyY (textN P) = P.y.val := hp.1
  have e2 : keyO (textN P) = decide (P.x.val % 2 = 1) := hp.2
  have hb : keyB (textN P) = true := by unfold keyB; rw [e1, e2]; exact parseB_on h
  refine ⟨hb, ?_⟩
  have h1 := key_pn hb
  rw [e1, e2] at h1
  exact h1.same (parseT_pn h)
theorem keyQ_on {t : ByteArray} (h : keyB t = true) : (keyQ t).On := (key_pn h).on
theorem keyQ_af {t : ByteArray} (h : keyB t = true) : af (xOf (keyY t) (keyO t)) (keyY t) = af (keyQ t).x.val (keyQ t).y.val := by
  have hy : keyY t < p25 := by
    unfold keyB parseB at h
    simp only [Bool.and_eq_true, decide_eq_true_eq] at h
    exact h.1.1
  rw [show (keyQ t).x.val = xOf (keyY t) (keyO t) from val_z (xOf_lt _ _), show (keyQ t).y.val = keyY t from val_z hy]
theorem less_back {P R : Pt} (hP : P.On) (hR : R.On) : (P.add R.neg).add R = P := by
  rw [Pt.add_assoc hP (Pt.neg_on hR) hR, Pt.add_comm R.neg R, Pt.add_neg hR, Pt.add_zero hP]
theorem ref_eq {key m sig : ByteArray} (hk : keyB key = true) (h32 : (sig.extract 0 32).size = 32) :
    sigR key m sig = sig.extract 0 32 ↔ keyB (sig.extract 0 32) = true ∧ ((keyQ key).smul (sigK key m sig)).add (keyQ (sig.extract 0 32)) = Bp.smul (sigN sig) := by
  have hP := keyQ_on hk
  have hkP := Pt.smul_on hP (sigK key m sig)
  have hS := Pt.smul_on Bp_on (sigN sig)
  unfold sigR
  constructor
  · intro e
    have h := key_textE (Pt.add_on hS (Pt.neg_on hkP))
    rw [e] at h
    refine ⟨h.1, ?_⟩
    rw [h.2, Pt.add_comm, less_back hS hkP]
  · rintro ⟨hb, e⟩
    rw [← e, Pt.add_comm, Pt.add_comm ((keyQ key).smul _), ← Pt.add_assoc (Pt.neg_on hkP) (keyQ_on hb) hkP, Pt.add_comm ((keyQ key).smul _).neg, less_back (keyQ_on hb) hkP]
    exact keyQ_text _ h32 hb
theorem pt_eq_is (P Q : Pt) : (decide (P.x.val = Q.x.val) && decide (P.y.val = Q.y.val)) = ptEq P Q := by
  unfold ptEq
  rw [Bool.eq_iff_iff, Bool.and_eq_true, Bool.and_eq_true, decide_eq_true_iff, decide_eq_true_iff, decide_eq_true_iff, decide_eq_true_iff]
  exact ⟨fun h => ⟨Fin.ext h.1, Fin.ext h.2⟩, fun h => by rw [h.1, h.2]; exact ⟨rfl, rfl⟩⟩

/-! ### operations -/
theorem neq_af_any (w : World) (x y u v : Nat) (hx : x < K256) (hy : y < K256) (hu : u < K256) (hv : v < K256) : (binOp .neq 44 (af x y) (af u v)).run Tryz.prog w = .ok (.bool (!(decide (x = u) && decide (y = v)))) w := by
  rw [← fe_same x u hx hu, ← fe_same y v hy hv, run_neq_struct]
  exact (congrArg (fun r => Result.andThen r _) (eq_af w _ _ _ _ _ _ _ _ _ _ _ _ _ _ _ _)).trans rfl
theorem neq_af_exe {o : Oper} {a : Act} {p q : Operand} {r : TypeId} (ho : o.op = .binOp .neq 44 p q r) (x y u v : Nat) (hx : x < K256) (hy : y < K256) (hu : u < K256) (hv : v < K256) (hp : a.eval p = af x y) (hq : a.eval q = af u v) (w : World) :
    (execOp a.eval o).run Tryz.prog w = .ok (.value (.bool (!(decide (x = u) && decide (y = v))))) w := by
  unfold execOp
  simp only [ho, hp, hq, Sem.run_bind, run_eqGuard_agg (hm := Tryz.eqGuardType44), Result.andThen_ok, neq_af_any w x y u v hx hy hu hv, Sem.run_pure]
theorem alloc_af {o : Oper} (h : o.op = .alloc 44) (a : Act) (w : World) : (execOp a.eval o).run Tryz.prog w = .ok (.value (.pointer (some ⟨w.heap.size, 0, none⟩))) (w.alloc (.cells z8A 44)) := by
  unfold execOp
  rw [h]
  kernel_rfl
attribute [local irreducible] feA afA ptA
section
variable {w0 : World} {Q : Act → Prop} {a : Act} {rest : List Oper} {t' : TypeId} {pos : String} {after : Array Edge} {d : Option Tmp} {x : Operand}
/-- a point by x and y is read whole -/
theorem wpQB_af (g u v : Nat) (hz : Lies w0 g 44 (afA u v)) (hx : a.eval x = .pointer (some ⟨g, 0, none⟩))
    (h : wpQB Tryz.prog w0 Q rest (a.put d (af u v))) : wpQB Tryz.prog w0 Q (⟨d, .load 44 x, t', pos, after, none⟩ :: rest) a :=
  wpQB_load g 44 (afA u v) _ Tryz.underlying44 rfl (by rw [afA_size]; exact rowAf.2) hz hx h
end
section
variable {a : Act} {d : Option Tmp} {x y : Tmp} {t' : TypeId} {pos : String} {after : Array Edge} {gd : Option (Nat × Bool)} {r : TypeId}
theorem run_to32 (s : ByteArray) (hs : 32 ≤ s.size) (hx : a.eval (.tmp x) = .string s) (w : World) :
    (execOp a.eval ⟨d, .slice 9 (.tmp x) none (some (.const (.int .i64 32))) none, t', pos, after, gd⟩).run Tryz.prog w = .ok (.value (.string (s.extract 0 32))) w := by
  have h2 : a.eval (.const (.int .i64 32)) = .int .i64 32 := rfl
  have h3 : (32 : Int) ≤ (s.size : Int) := by omega
  unfold execOp
  simp only [hx, h2, Option.map_some, Option.map_none]
  simp [Instr.sliceAt, run_underlying Tryz.underlying9, go_sem, h3]
theorem run_cat2 (s t : ByteArray) (hs : s.size + t.size ≤ 10000) (hx : a.eval (.tmp x) = .string s) (hy : a.eval (.tmp y) = .string t) (w : World) :
    (execOp a.eval ⟨d, .binOp .add 9 (.tmp x) (.tmp y) r, t', pos, after, gd⟩).run Tryz.prog w = .ok (.value (.string (s ++ t))) w := by
  have h3 : ¬ (9223372036854775807 < s.size + t.size) := by omega
  unfold execOp
  simp only [hx, hy]
  simp [go_sem, h3]
end
theorem rkey_parse (key : ByteArray) (hk : key.size = 32) (w : World) :
    Calls Tryz.prog 33 #[.string key] w fun e w' => e = .returned (if keyB key = true then .tuple #[af (xOf (keyY key) (keyO key)) (keyY key), .bool true] else .tuple #[af 0 0, .bool false]) ∧ Below w.heap.size w w' := refParseP_any key hk w
theorem rbelow (sig : ByteArray) (hs : sig.size = 64) (w : World) :
    Calls Tryz.prog 34 #[.string (sig.extract 32 sig.size)] w fun e w' => e = .returned (.bool (decide (sigN sig < l25))) ∧ Below w.heap.size w w' := by
  have h := G.refBelow_any (sig.extract 32 sig.size) (by rw [ByteArray.size_extract]; omega) w
  rw [T.rest_list] at h
  exact h

/-! ### the ways through -/
set_option maxHeartbeats 1600000 in
theorem rverify_point (key m sig : ByteArray) (hk : key.size = 32) (hp : keyB key = false) (W : World) :
    Calls Tryz.prog 13 #[.string key, .string m, .string sig] W fun e w' => e = .returned (.int .i64 10) ∧ Below W.heap.size W w' := by
  have hB := Below.refl W.heap.size W
  have HP := Lib.hid (fun w => rkey_parse key hk w)
  rw [if_neg (by rw [hp]; decide)] at HP
  clear hk hp
  go_enter Tryz.func13, Tryz.ntmps13
  go_wp2_with (first
    | (go_at_call 33; (with_reducible refine (HP.out _).mono ?_); rintro e w1 ⟨rfl, hb⟩; replace hB := below_on hB hb; clear hb)
    | ((with_reducible refine wpL_store w1.heap.size 44 _ (afA 0 0) 8 rowAf ?_ (afA_size _ _) (afA_one _ _) (Lies.new w1 _ _) ?_ ?_ ?_); rfl; rfl; rfl))
  go_ret
  exact ⟨rfl, below_on hB (newly w1 _ _)⟩
set_option maxHeartbeats 1600000 in
theorem rverify_scalar (key m sig : ByteArray) (hk : key.size = 32) (hs : sig.size = 64) (hp : keyB key = true) (hn : ¬ sigN sig < l25) (W : World) :
    Calls Tryz.prog 13 #[.string key, .string m, .string sig] W fun e w' => e = .returned (.int .i64 11) ∧ Below W.heap.size W w' := by
  have hB := Below.refl W.heap.size W
  have HP := Lib.hid (fun w => rkey_parse key hk w)
  rw [if_pos hp] at HP
  have HBl := Lib.hid (fun w => rbelow sig hs w)
  rw [decide_eq_false hn] at HBl
  have hj : (sig.size : Int) = 64 := by omega
  generalize xOf (keyY key) (keyO key) = x at *
  generalize keyY key = y at *
  clear hk hp hs hn
  go_enter Tryz.func13, Tryz.ntmps13
  go_upto_region 2 with (first
    | (go_at_call 33; (with_reducible refine (HP.out _).mono ?_); rintro e w1 ⟨rfl, hb⟩; replace hB := below_on hB hb; clear hb)
    | ((with_reducible refine wpL_store w1.heap.size 44 _ (afA x y) 8 rowAf ?_ (afA_size _ _) (afA_one _ _) (Lies.new w1 _ _) ?_ ?_ ?_); rfl; rfl; rfl))
  replace hB := below_on hB (newly w1 (.cells z8A 44) (afA x y))
  generalize World.setRow _ _ _ = w2 at *
  go_wp2_with (go_at_call 34; (with_reducible refine (HBl.out _).mono ?_); rintro e w3 ⟨rfl, hb⟩; replace hB := below_on hB hb; clear hb)
  go_ret
  exact ⟨rfl, hB⟩
set_option maxHeartbeats 1600000 in
theorem rverify_none (key m sig : ByteArray) (hk : key.size = 32) (hs : sig.size = 64) (hp : keyB key = true) (hn : sigN sig < l25) (hf : keyB (sig.extract 0 32) = false) (W : World) :
    Calls Tryz.prog 13 #[.string key, .string m, .string sig] W fun e w' => e = .returned (.int .i64 12) ∧ Below W.heap.size W w' := by
  have hB := Below.refl W.heap.size W
  have HP := Lib.hid (fun w => rkey_parse key hk w)
  rw [if_pos hp] at HP
  have HBl := Lib.hid (fun w => rbelow sig hs w)
  rw [decide_eq_true hn] at HBl
  have HF := Lib.hid (fun w => rkey_parse (sig.extract 0 32) (by rw [ByteArray.size_extract]; omega) w)
  rw [if_neg (by rw [hf]; decide)] at HF
  have hj : (sig.size : Int) = 64 := by omega
  generalize xOf (keyY key) (keyO key) = x at *
  generalize keyY key = y at *
  clear hk hp hs hn hf
  go_enter Tryz.func13, Tryz.ntmps13
  go_upto_region 2 with (first
    | (go_at_call 33; (with_reducible refine (HP.out _).mono ?_); rintro e w1 ⟨rfl, hb⟩; replace hB := below_on hB hb; clear hb)
    | ((with_reducible refine wpL_store w1.heap.size 44 _ (afA x y) 8 rowAf ?_ (afA_size _ _) (afA_one _ _) (Lies.new w1 _ _) ?_ ?_ ?_); rfl; rfl; rfl))
  replace hB := below_on hB (newly w1 (.cells z8A 44) (afA x y))
  generalize World.setRow _ _ _ = w2 at *
  clear HP
  go_wp2_with (first
    | (go_at_call 34; (with_reducible refine (HBl.out _).mono ?_); rintro e w3 ⟨rfl, hb⟩; replace hB := below_on hB hb; clear hb)
    | (go_at_call 33; (with_reducible refine (HF.out _).mono ?_); rintro e w4 ⟨rfl, hb⟩; replace hB := below_on hB hb; clear hb)
    | ((with_reducible refine wpL_store w4.heap.size 44 _ (afA 0 0) 8 rowAf ?_ (afA_size _ _) (afA_one _ _) (Lies.new w4 _ _) ?_ ?_ ?_); rfl; rfl; rfl))
  go_ret
  exact ⟨rfl, below_on hB (newly w4 _ _)⟩

set_option maxHeartbeats 3200000 in
theorem rverify_sig (key m sig : ByteArray) (hk : key.size = 32) (hs : sig.size = 64) (hm : m.size ≤ 300) (hp : keyB key = true) (hn : sigN sig < l25) (hf : keyB (sig.extract 0 32) = true) (W : World) :
    Calls Tryz.prog 13 #[.string key, .string m, .string sig] W fun e w' => e = .returned (.int .i64 (if sigR key m sig = sig.extract 0 32 then 0 else 12)) ∧ Below W.heap.size W w' := by
  have hB := Below.refl W.heap.size W
  have HP := Lib.hid (fun w => rkey_parse key hk w)
  rw [if_pos hp, keyQ_af hp] at HP
  have HBl := Lib.hid (fun w => rbelow sig hs w)
  rw [decide_eq_true hn] at HBl
  have h32 : (sig.extract 0 32).size = 32 := by rw [ByteArray.size_extract]; omega
  have HF := Lib.hid (fun w => rkey_parse (sig.extract 0 32) h32 w)
  rw [if_pos hf, keyQ_af hf] at HF
  have hj : (sig.size : Int) = 64 := by omega
  have hall : ((sig.extract 0 32 ++ key) ++ m).size ≤ 1000 := by rw [ByteArray.size_append, ByteArray.size_append]; omega
  have HW := Lib.hid (fun w => rwide_any ((sig.extract 0 32 ++ key) ++ m) hall w)
  rw [show leftN ((sig.extract 0 32 ++ key) ++ m).data.toList = sigK key m sig by unfold sigK; rw [T.list_append, T.list_append, T.head_list, List.append_assoc]] at HW
  have hkK : sigK key m sig < K256 := G.modL_K _
  have HT := Lib.hid (fun w => refTimes_any (sigK key m sig) (keyQ key) (keyQ_on hp) w)
  rw [Nat.mod_eq_of_lt hkK] at HT
  have HSu := Lib.hid (fun w => refSum_any ((keyQ key).smul (sigK key m sig)) (keyQ (sig.extract 0 32)) w)
  have hnK : sigN sig < K256 := Nat.lt_trans hn (by decide)
  have HW5 := Lib.hid (fun w => G.refWide_any (sig.extract 32 sig.size) (by rw [ByteArray.size_extract]; omega) w)
  rw [T.rest_list, show numLE (sig.data.toList.drop 32) % G.l25 = sigN sig from Nat.mod_eq_of_lt hn] at HW5
  have HBa := Lib.hid (fun w => refBase_any w)
  have HT2 := Lib.hid (fun w => refTimes_any (sigN sig) Bp Bp_on w)
  rw [Nat.mod_eq_of_lt hnK, ← base_af] at HT2
  have heq := pt_eq_is (((keyQ key).smul (sigK key m sig)).add (keyQ (sig.extract 0 32))) (Bp.smul (sigN sig))
  have hre : (sigR key m sig = sig.extract 0 32) ↔ (((keyQ key).smul (sigK key m sig)).add (keyQ (sig.extract 0 32)) = Bp.smul (sigN sig)) := (ref_eq hp h32).trans ⟨fun h => h.2, fun h => ⟨hf, h⟩⟩
  generalize ((keyQ key).smul (sigK key m sig)).add (keyQ (sig.extract 0 32)) = P1 at *
  generalize Bp.smul (sigN sig) = P2 at *
  obtain ⟨res, hres⟩ : ∃ res : Int, (if sigR key m sig = sig.extract 0 32 then 0 else 12) = res := ⟨_, rfl⟩
  rw [hres]
  have HRe : Hid ((ptEq P1 P2 = true ∧ res = 0) ∨ (ptEq P1 P2 = false ∧ res = 12)) := Lib.hid (by
    by_cases e : ptEq P1 P2 = true
    · exact .inl ⟨e, by rw [← hres, if_pos (hre.2 ((ptEq_iff _ _).1 e))]⟩
    · exact .inr ⟨by simpa using e, by rw [← hres, if_neg (fun h => e ((ptEq_iff _ _).2 (hre.1 h)))]⟩)
  have HEq := Lib.hid heq
  clear heq hre hres
  have k1 := below_K P1.x.isLt
  have k2 := below_K P1.y.isLt
  have k3 := below_K P2.x.isLt
  have k4 := below_K P2.y.isLt
  generalize P1.x.val = x1 at *
  generalize P1.y.val = y1 at *
  generalize P2.x.val = x2 at *
  generalize P2.y.val = y2 at *
  generalize ((keyQ key).smul (sigK key m sig)).x.val = x3 at *
  generalize ((keyQ key).smul (sigK key m sig)).y.val = y3 at *
  generalize (keyQ key).x.val = xk at *
  generalize (keyQ key).y.val = yk at *
  generalize (keyQ (sig.extract 0 32)).x.val = xf at *
  generalize (keyQ (sig.extract 0 32)).y.val = yf at *
  generalize sigK key m sig = k at *
  generalize sigN sig = sn at *
  generalize bxN = bx at *
  generalize byN = b_y at *
  have HK32 := Lib.hid hk
  clear hp hn hf hkK hnK hs hk
  go_enter Tryz.func13, Tryz.ntmps13
  go_upto_region 2 with (first
    | (go_at_call 33; (with_reducible refine (HP.out _).mono ?_); rintro e w1 ⟨rfl, hb⟩; replace hB := below_on hB hb; clear hb)
    | ((with_reducible refine wpL_store w1.heap.size 44 _ (afA xk yk) 8 rowAf ?_ (afA_size _ _) (afA_one _ _) (Lies.new w1 _ _) ?_ ?_ ?_); rfl; rfl; rfl))
  have hp := newly_lies w1 44 z8A (afA xk yk)
  replace hB := below_on hB (newly w1 (.cells z8A 44) (afA xk yk))
  generalize World.setRow _ _ _ = w2 at *
  generalize w1.heap.size = gp at *
  clear HP
  obtain ⟨f, hf⟩ : ∃ f, sig.extract 0 32 = f := ⟨_, rfl⟩
  rw [hf] at HF HW hall h32
  have HFE := Lib.hid hf
  clear hf
  go_upto_region 6 with (go_at_call 34; (with_reducible refine (HBl.out _).mono ?_); rintro e w3 ⟨rfl, hb⟩; replace hp := hp.on hb; replace hB := below_on hB hb; clear hb)
  clear HBl
  go_upto_region 7 with (first
    | (go_at_call 33; rw [HFE.out]; (with_reducible refine (HF.out _).mono ?_); rintro e w4 ⟨rfl, hb⟩; replace hp := hp.on hb; replace hB := below_on hB hb; clear hb)
    | ((with_reducible refine wpL_store w4.heap.size 44 _ (afA xf yf) 8 rowAf ?_ (afA_size _ _) (afA_one _ _) (Lies.new w4 _ _) ?_ ?_ ?_); rfl; rfl; rfl))
  have hf := newly_lies w4 44 z8A (afA xf yf)
  have hnw := newly w4 (.cells z8A 44) (afA xf yf)
  replace hp := hp.on hnw
  replace hB := below_on hB hnw
  clear hnw HF
  generalize World.setRow _ _ _ = w5 at *
  generalize w4.heap.size = gf at *
  go_upto_region 9 with fail
  have hfk : f.size + key.size ≤ 10000 := by have := HK32.out; omega
  have hfm : (f ++ key).size + m.size ≤ 10000 := by have := HK32.out; rw [ByteArray.size_append]; omega
  refine wp_region_made 9 11 _ 44 z8A rfl rfl (by kernel_rfl) (by kernel_rfl) (alloc_af rfl) ?_
  simp only [List.take_succ_cons, List.take_zero, List.drop_succ_cons, List.drop_zero]
  refine wpQB_run (.string sig) rfl (fun _ _ => rfl) ?_
  simp only [Act.put, List.setIfInBounds_toArray, List.set_cons_succ, List.set_cons_zero]
  refine wpQB_run (.string f) rfl (fun w _ => by rw [← HFE.out]; exact run_to32 sig (by omega) rfl w) ?_
  simp only [Act.put, List.setIfInBounds_toArray, List.set_cons_succ, List.set_cons_zero]
  refine wpQB_run (.string key) rfl (fun _ _ => rfl) ?_
  simp only [Act.put, List.setIfInBounds_toArray, List.set_cons_succ, List.set_cons_zero]
  refine wpQB_run (.string (f ++ key)) rfl (fun w _ => run_cat2 f key hfk rfl rfl w) ?_
  simp only [Act.put, List.setIfInBounds_toArray, List.set_cons_succ, List.set_cons_zero]
  refine wpQB_run (.string m) rfl (fun _ _ => rfl) ?_
  simp only [Act.put, List.setIfInBounds_toArray, List.set_cons_succ, List.set_cons_zero]
  refine wpQB_run (.string ((f ++ key) ++ m)) rfl (fun w _ => run_cat2 (f ++ key) m hfm rfl rfl w) ?_
  simp only [Act.put, List.setIfInBounds_toArray, List.set_cons_succ, List.set_cons_zero]
  refine wpQB_call 24 #[.string ((f ++ key) ++ m)] (fe k) rfl rfl (fun _ => by kernel_rfl) (fun w _ => HW.out w) ?_
  simp only [Act.put, List.setIfInBounds_toArray, List.set_cons_succ, List.set_cons_zero]
  refine wpQB_af gp xk yk hp rfl ?_
  simp only [Act.put, List.setIfInBounds_toArray, List.set_cons_succ, List.set_cons_zero]
  refine wpQB_call 19 #[fe k, af xk yk] (af x3 y3) rfl rfl (fun _ => by kernel_rfl) (fun w _ => HT.out w) ?_
  simp only [Act.put, List.setIfInBounds_toArray, List.set_cons_succ, List.set_cons_zero]
  refine wpQB_nil ?_
  intro gq w6 hb hgq hq
  simp only [List.setIfInBounds_toArray, List.set_cons_succ, List.set_cons_zero]
  replace hq : Lies w6 gq 44 z8A := hq
  have lf := hf.lt
  have hsz := hB.size
  replace hf := (hf.on hb).rowFar (show gf ≠ gq by omega) (afA x3 y3)
  replace hB := below_rowSet (below_on hB hb) (show W.heap.size ≤ gq by omega) (afA x3 y3)
  have hn := hq.row (afA x3 y3)
  clear hb hp HW HT
  go_upto_region 10 with ((with_reducible refine wpL_store gq 44 _ (afA x3 y3) 8 rowAf rfl (afA_size _ _) (afA_one _ _) hq ?_ ?_ ?_); rfl; rfl)
  clear hq hsz lf hgq
  generalize World.setRow _ _ _ = w7 at *
  refine wp_region_all (by kernel_rfl) (by kernel_rfl) ?_
  refine wpQB_af gq x3 y3 hn rfl ?_
  simp only [Act.put, List.setIfInBounds_toArray, List.set_cons_succ, List.set_cons_zero]
  refine wpQB_af gf xf yf hf rfl ?_
  simp only [Act.put, List.setIfInBounds_toArray, List.set_cons_succ, List.set_cons_zero]
  refine wpQB_call 35 #[af x3 y3, af xf yf] (af x1 y1) rfl rfl (fun _ => by kernel_rfl) (fun w _ => HSu.out w) ?_
  simp only [Act.put, List.setIfInBounds_toArray, List.set_cons_succ, List.set_cons_zero]
  refine wpQB_run (.string sig) rfl (fun _ _ => rfl) ?_
  simp only [Act.put, List.setIfInBounds_toArray, List.set_cons_succ, List.set_cons_zero]
  refine wpQB_run (.string (sig.extract 32 sig.size)) rfl (fun w _ => run_from32 sig (by omega) rfl w) ?_
  simp only [Act.put, List.setIfInBounds_toArray, List.set_cons_succ, List.set_cons_zero]
  refine wpQB_call 36 #[.string (sig.extract 32 sig.size)] (fe sn) rfl rfl (fun _ => by kernel_rfl) (fun w _ => HW5.out w) ?_
  simp only [Act.put, List.setIfInBounds_toArray, List.set_cons_succ, List.set_cons_zero]
  refine wpQB_call 20 #[] (af bx b_y) rfl rfl (fun _ => by kernel_rfl) (fun w _ => HBa.out w) ?_
  simp only [Act.put, List.setIfInBounds_toArray, List.set_cons_succ, List.set_cons_zero]
  refine wpQB_call 19 #[fe sn, af bx b_y] (af x2 y2) rfl rfl (fun _ => by kernel_rfl) (fun w _ => HT2.out w) ?_
  simp only [Act.put, List.setIfInBounds_toArray, List.set_cons_succ, List.set_cons_zero]
  refine wpQB_run (.bool (!ptEq P1 P2)) rfl (fun w _ => by rw [← HEq.out]; exact neq_af_exe rfl x1 y1 x2 y2 k1 k2 k3 k4 rfl rfl w) ?_
  simp only [Act.put, List.setIfInBounds_toArray, List.set_cons_succ, List.set_cons_zero]
  refine wpQB_nil ?_
  intro w8 hb
  replace hB := below_on hB hb
  clear hb
  rcases HRe.out with ⟨h, rfl⟩ | ⟨h, rfl⟩
  · rw [h]
    go_wp2_with fail
    go_ret
    exact ⟨rfl, hB⟩
  · rw [h]
    go_wp2_with fail
    go_ret
    exact ⟨rfl, hB⟩
theorem rverify_any (key m sig : ByteArray) (hk : key.size = 32) (hs : sig.size = 64) (hm : m.size ≤ 300) (W : World) :
    Calls Tryz.prog 13 #[.string key, .string m, .string sig] W fun e w' => e = .returned (.int .i64 (verifyE key m sig)) ∧ Below W.heap.size W w' := by
  unfold verifyE
  rw [if_pos ⟨hk, hs⟩]
  by_cases hp : keyB key = true
  · rw [if_pos hp]
    by_cases hn : sigN sig < l25
    · rw [if_pos hn]
      by_cases hf : keyB (sig.extract 0 32) = true
      · exact rverify_sig key m sig hk hs hm hp hn hf W
      · rw [if_neg (fun h => hf ((ref_eq hp (by rw [ByteArray.size_extract]; omega)).1 h).1)]
        exact rverify_none key m sig hk hs hp hn (by simpa using hf) W
    · rw [if_neg hn]
      exact rverify_scalar key m sig hk hs hp hn W
  · rw [if_neg hp]
    exact rverify_point key m sig hk (by simpa using hp) W
end Go.Proofs.YtgefhfcmiefocaaGreatDoor.E

