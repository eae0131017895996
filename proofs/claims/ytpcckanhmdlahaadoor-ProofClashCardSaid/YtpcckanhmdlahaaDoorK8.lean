/- Texts that stand on one another, put together: ULaid, QLaid, Frame, QBackM, QBackF. -/
import Derived.Test.YtpcckanhmdlahaaDoorK7
import Derived.ChangeOld
import Derived.LaidMore
import Derived.OpenShut
import Derived.ProofKit
import Derived.ShutString
import Derived.SliceStrings
import Derived.Stop.Joined
import Derived.Test.YtpcckanhmdlahaaDoorRows
/- What the listed variables give: the two tables hold their constants; and a start that meets it. -/
namespace Go.Proofs.YtpcckanhmdlahaaDoor.U
open Go.ChangeShapes Go.WideShapes Go.ChangeAt Go.RowKit

theorem rowOwn : ownKnob Tryd.prog.godebug = none := by kernel_rfl
theorem rowLaid : laidOutB Tryd.prog = true := by kernel_rfl

/-- the list that every row lists -/
abbrev laidL : List (String × DataW Unit) := [("imprimatur/sha256.squareRoots", Rows.laid_imprimatur_sha256_squareRoots), ("imprimatur/sha256.cubeRoots", Rows.laid_imprimatur_sha256_cubeRoots)]

theorem cells25 : Tryd.prog.cellsOf 62 = 1 := by kernel_rfl
theorem arr_cells {W : World} {name : String} {g t n fuel : Nat} {cs : Array Value} {p : List MemPlace} (L : List Nat) (hg : Tryd.prog.globalNamed name = some g) (ht : Tryd.prog.underlying t = some (.array n 62)) (hv : W.var? Tryd.prog name = some cs)
    (hd : DataW.trod (fun _ => ()) Tryd.prog W 0 (fun _ => true) false fuel t cs.toList = some (.agg (L.map fun x : Nat => .lit (.int .u32 (x : Int))), p)) (hn : L.length = n) :
    ∀ i, i < n → W.cell? ⟨g, i, none⟩ = some (u32 (L.getD i 0)) := by
  intro i hi
  obtain ⟨xs, m, rfl, hx, _, hxn, hel⟩ := DataW.trod_array ht hd
  have h1 := hel i hi
  simp only [Prod.mk.injEq, DataW.agg.injEq] at hx
  have hxi : xs[i]? = some (xs[i]'(by omega)) := List.getElem?_eq_getElem (by omega)
  rw [hxi, cells25, Nat.mul_one] at h1
  obtain ⟨k, e1, e2, _⟩ := DataW.trod_int Tryd.underlying62 h1
  have h2 : (xs.map (·.1))[i]? = some (.lit (.int .u32 k)) := by rw [List.getElem?_map, hxi, e2]; rfl
  rw [← hx.1, List.getElem?_map] at h2
  have hLi : L[i]? = some (L[i]'(by omega)) := List.getElem?_eq_getElem (by omega)
  rw [hLi] at h2
  simp only [Option.map_some, Option.some.injEq, DataW.lit.injEq, Lit.int.injEq, true_and] at h2
  rw [World.var?_cell hg hv i, ← Array.getElem?_toList]
  have h3 : ((cs.toList.drop i).take 1)[0]? = some (.int .u32 k) := by rw [e1]; rfl
  rw [List.getElem?_take, if_pos (by decide), List.getElem?_drop, Nat.add_zero] at h3
  rw [h3, ← h2, List.getD_eq_getElem?_getD, hLi]
  rfl

theorem gSq : Tryd.prog.globalNamed "imprimatur/sha256.squareRoots" = some 0 := by kernel_rfl
theorem gCu : Tryd.prog.globalNamed "imprimatur/sha256.cubeRoots" = some 1 := by kernel_rfl
theorem tSq : (Tryd.prog.globals[0]?).map (·.type) = some 63 := by kernel_rfl
theorem tCu : (Tryd.prog.globals[1]?).map (·.type) = some 94 := by kernel_rfl
def sq : List Nat := [h0.a, h0.b, h0.c, h0.d, h0.e, h0.f, h0.g, h0.h]
theorem sq_at (i : Nat) (h : i < 8) : sq.getD i 0 = h0.at i := by
  match i, h with
  | 0, _ | 1, _ | 2, _ | 3, _ | 4, _ | 5, _ | 6, _ | 7, _ => rfl

theorem tab_of_laid {W : World} (h : laidMetH Tryd.prog laidL W) : Tab W := by
  rw [MakeChecks.laidMetH_plain _ _ _ (by kernel_rfl)] at h
  obtain ⟨ps, ⟨g0, t0, cs0, f0, p0, q0, hg0, ht0, hv0, hd0, ⟨g1, t1, cs1, f1, p1, q1, hg1, ht1, hv1, hd1, _, _⟩, _⟩, _, _⟩ := h
  obtain rfl := Option.some.inj (gSq.symm.trans hg0)
  obtain rfl := Option.some.inj (gCu.symm.trans hg1)
  obtain rfl := Option.some.inj (tSq.symm.trans ht0)
  obtain rfl := Option.some.inj (tCu.symm.trans ht1)
  have c0 := arr_cells sq gSq Tryd.underlying63 hv0 hd0 rfl
  have c1 := arr_cells ks gCu Tryd.underlying94 hv1 hd1 rfl
  exact ⟨fun i hi => by rw [← sq_at i hi]; exact c0 i hi, c1⟩

/-- the door's own heap meets the condition -/
theorem door_met (os : Os) (args : Array Value) : laidMetH Tryd.prog laidL ((World.doorLaid Tryd.prog 400 os).forCall (fun _ _ => 0) ⟨#[], args, []⟩).memory :=
  laidMetH_of_parts3 (fuel := 8) (laidMet_of_run' 8 (by kernel_rfl) (by kernel_rfl)) (by kernel_rfl) (by kernel_rfl)
end Go.Proofs.YtpcckanhmdlahaaDoor.U

/- What the four listed variables give: the two tables of roots and the library's table of low zeros hold their constants; and a start that meets it. -/
namespace Go.Proofs.YtpcckanhmdlahaaDoor.Q
open Go.ChangeShapes Go.WideShapes Go.ChangeAt Go.RowKit Go.Proofs.YtpcckanhmdlahaaDoor.U

/-- the list that four of the rows list -/
abbrev laidL : List (String × DataW Unit) := [("math/bits.deBruijn32tab", Rows.laid_math_bits_deBruijn32tab), ("math/bits.deBruijn64tab", Rows.laid_math_bits_deBruijn64tab), ("imprimatur/sha256.squareRoots", Rows.laid_imprimatur_sha256_squareRoots), ("imprimatur/sha256.cubeRoots", Rows.laid_imprimatur_sha256_cubeRoots)]
theorem cells8 : Tryd.prog.cellsOf 5 = 1 := by kernel_rfl
theorem arr_cells8 {W : World} {name : String} {g t n fuel : Nat} {cs : Array Value} {p : List MemPlace} (L : List Nat) (hg : Tryd.prog.globalNamed name = some g) (ht : Tryd.prog.underlying t = some (.array n 5)) (hv : W.var? Tryd.prog name = some cs)
    (hd : DataW.trod (fun _ => ()) Tryd.prog W 0 (fun _ => true) false fuel t cs.toList = some (.agg (L.map fun x : Nat => .lit (.int .u8 (x : Int))), p)) (hn : L.length = n) :
    ∀ i, i < n → W.cell? ⟨g, i, none⟩ = some (.int .u8 ((L.getD i 0 : Nat) : Int)) := by
  intro i hi
  obtain ⟨xs, m, rfl, hx, _, hxn, hel⟩ := DataW.trod_array ht hd
  have h1 := hel i hi
  simp only [Prod.mk.injEq, DataW.agg.injEq] at hx
  have hxi : xs[i]? = some (xs[i]'(by omega)) := List.getElem?_eq_getElem (by omega)
  rw [hxi, cells8, Nat.mul_one] at h1
  obtain ⟨k, e1, e2, _⟩ := DataW.trod_int Tryd.underlying5 h1
  have h2 : (xs.map (·.1))[i]? = some (.lit (.int .u8 k)) := by rw [List.getElem?_map, hxi, e2]; rfl
  rw [← hx.1, List.getElem?_map] at h2
  have hLi : L[i]? = some (L[i]'(by omega)) := List.getElem?_eq_getElem (by omega)
  rw [hLi] at h2
  simp only [Option.map_some, Option.some.injEq, DataW.lit.injEq, Lit.int.injEq, true_and] at h2
  rw [World.var?_cell hg hv i, ← Array.getElem?_toList]
  have h3 : ((cs.toList.drop i).take 1)[0]? = some (.int .u8 k) := by rw [e1]; rfl
  rw [List.getElem?_take, if_pos (by decide), List.getElem?_drop, Nat.add_zero] at h3
  rw [h3, ← h2, List.getD_eq_getElem?_getD, hLi]
  rfl
theorem gTz : Tryd.prog.globalNamed "math/bits.deBruijn64tab" = some 3 := by kernel_rfl
theorem tTz : (Tryd.prog.globals[3]?).map (·.type) = some 105 := by kernel_rfl

theorem laid_tz : (Rows.laid_math_bits_deBruijn64tab : DataW Unit) = .agg (tzL.map fun x : Nat => .lit (.int .u8 (x : Int))) := by kernel_rfl
theorem tab_of_laid {W : World} (h : laidMetH Tryd.prog laidL W) : Tab W ∧ Tz W := by
  rw [MakeChecks.laidMetH_plain _ _ _ (by kernel_rfl)] at h
  obtain ⟨ps, ⟨g0, t0, cs0, f0, p0, q0, hg0, ht0, hv0, hd0, ⟨g1, t1, cs1, f1, p1, q1, hg1, ht1, hv1, hd1, ⟨g2, t2, cs2, f2, p2, q2, hg2, ht2, hv2, hd2, ⟨g3, t3, cs3, f3, p3, q3, hg3, ht3, hv3, hd3, _, _⟩, _⟩, _⟩, _⟩, _, _⟩ := h
  obtain rfl := Option.some.inj (gTz.symm.trans hg1)
  obtain rfl := Option.some.inj (gSq.symm.trans hg2)
  obtain rfl := Option.some.inj (gCu.symm.trans hg3)
  obtain rfl := Option.some.inj (tTz.symm.trans ht1)
  obtain rfl := Option.some.inj (tSq.symm.trans ht2)
  obtain rfl := Option.some.inj (tCu.symm.trans ht3)
  rw [laid_tz] at hd1
  have c1 := arr_cells8 tzL gTz Tryd.underlying105 hv1 hd1 tzL_length
  have c2 := arr_cells sq gSq Tryd.underlying63 hv2 hd2 rfl
  have c3 := arr_cells ks gCu Tryd.underlying94 hv3 hd3 rfl
  exact ⟨⟨fun i hi => by rw [← sq_at i hi]; exact c2 i hi, c3⟩, c1⟩

/-- the door's own heap meets the condition -/
theorem door_met (os : Os) (args : Array Value) : laidMetH Tryd.prog laidL ((World.doorLaid Tryd.prog 400 os).forCall (fun _ _ => 0) ⟨#[], args, []⟩).memory :=
  laidMetH_of_parts3 (fuel := 8) (laidMet_of_run' 8 (by kernel_rfl) (by kernel_rfl)) (by kernel_rfl) (by kernel_rfl)
end Go.Proofs.YtpcckanhmdlahaaDoor.Q

/- How an argument that is a row of texts is opened, and two closed facts of the program that every row's proof wants. -/
namespace Go.Proofs.YtpcckanhmdlahaaDoor
open Go.ChangeShapes Go.WideShapes Go.ChangeAt Go.RowKit
open Go.ChangeMaps (open_string shut_string)

theorem rowOwn : ownKnob Tryd.prog.godebug = none := by kernel_rfl
theorem rowLaid : laidOutB Tryd.prog = true := by kernel_rfl
theorem cells9 : Tryd.prog.cellsOf 9 = 1 := by kernel_rfl
/-- a row of texts that came in -/
theorem arg_strs {H : Type} {enc : TypeId × Value → H} {W : World} {a0 : Option Addr} {len0 cap0 : Nat} {d : DataW H} {p : List MemPlace}
    (h : DataW.Trod enc Tryd.prog W 0 (fun _ => true) true 22 (.slice a0 len0 cap0) d p) :
    ∃ l, Strs W (.slice a0 len0 cap0) l ∧ ∀ x ∈ l, x.length ≤ maxLen := by
  obtain ⟨fuel, hf⟩ := h
  rcases open_strings Tryd.underlying22 Tryd.underlying9 cells9 hf with ⟨hcs, _⟩ | ⟨a, len, cap, ss, hcs, _, hl, hm, hz, _, hcell, hwz⟩
  · simp [Value.cells] at hcs
    obtain ⟨rfl, rfl, rfl⟩ := hcs
    exact ⟨[], Strs.nil W, fun x hx => by cases hx⟩
  · simp [Value.cells] at hcs
    obtain ⟨rfl, rfl, rfl⟩ := hcs
    have hz' : ss.length = cap0 := by simpa using hz
    have hlen : ((ss.take len0).map (fun s => s.data.toList)).length = len0 := by simp; omega
    refine ⟨(ss.take len0).map (fun s => s.data.toList), ⟨some a, cap0, by rw [hlen], by rw [hlen]; exact hl, hm, (fun e => by cases e), fun hne => ?_⟩, ?_⟩
    · have hpos : 0 < len0 := by
        rcases Nat.eq_zero_or_pos len0 with h0 | h0
        · exfalso; apply hne; rw [h0]; rfl
        · exact h0
      have h0 := hcell 0 (by omega)
      have hspot : a.spot = none := by
        have := World.cell?_spot h0
        unfold Addr.add at this
        split at this <;> simp_all
      obtain ⟨b, off, spot⟩ := a
      simp only at hspot
      subst hspot
      refine ⟨b, off, rfl, fun i x hi => ?_⟩
      have hlt := (List.getElem?_eq_some_iff.1 hi).1
      rw [hlen] at hlt
      have hc := hcell i (by omega)
      have hadd : ((⟨b, off, none⟩ : Addr).add i) = ⟨b, off + i, none⟩ := by unfold Addr.add; split <;> simp_all
      rw [hadd] at hc
      rw [hc]
      have hx : (ss.getD i ByteArray.empty).data.toList = x := by
        rw [List.getElem?_map, List.getElem?_take, if_pos hlt] at hi
        rw [List.getD_eq_getElem?_getD]
        rcases hs : ss[i]? with _ | s
        · rw [hs] at hi; cases hi
        · rw [hs] at hi; simpa using hi
      unfold str
      rw [← hx, Lib.mk_data]
    · intro x hx
      obtain ⟨s, hs, rfl⟩ := List.mem_map.1 hx
      have := hwz s (List.mem_of_mem_take hs)
      rw [← Lib.size_eq]; exact this
end Go.Proofs.YtpcckanhmdlahaaDoor

/- Paths hold and steps follow; shorter and longer ones do not: as answers. -/
namespace Go.Proofs.YtpcckanhmdlahaaDoor.Q
open Go.RowKit Go.Sort Go.Proofs.YtpcckanhmdlahaaDoor.U Go.Proofs.YtpcckanhmdlahaaDoor.R
set_option maxRecDepth 100000

theorem rt_32 {l : List (List UInt8)} (h : ∀ x ∈ l, x.length = 32) : (rt l).length = 32 := rt_length l h
theorem pathT_32 : ∀ (f : Nat) (l : List (List UInt8)) (i : Nat), l.length ≤ f → (∀ x ∈ l, x.length = 32) → ∀ y ∈ pathT nd e0 l i, y.length = 32 := by
  intro f
  induction f with
  | zero => intro l i h _ y hy; rw [pathT_one nd e0 (by omega)] at hy; cases hy
  | succ f ih =>
    intro l i h hx y hy
    by_cases h1 : l.length ≤ 1
    · rw [pathT_one nd e0 h1] at hy; cases hy
    · have hs := spl_lt (n := l.length) (by omega)
      have hp := spl_pos l.length
      have h1 : ∀ x ∈ l.take (spl l.length), x.length = 32 := fun x h => hx x (List.mem_of_mem_take h)
      have h2 : ∀ x ∈ l.drop (spl l.length), x.length = 32 := fun x h => hx x (List.mem_of_mem_drop h)
      rw [pathT_two nd e0 (by omega)] at hy
      split at hy
      · rcases List.mem_cons.1 hy with rfl | hy
        · exact rt_32 h2
        · exact ih _ _ (by rw [List.length_take]; omega) h1 y hy
      · rcases List.mem_cons.1 hy with rfl | hy
        · exact rt_32 h1
        · exact ih _ _ (by rw [List.length_drop]; omega) h2 y hy
theorem stepT_32 : ∀ (f : Nat) (l : List (List UInt8)) (m : Nat) (b : Bool), l.length ≤ f → 1 ≤ m → m ≤ l.length → (∀ x ∈ l, x.length = 32) → ∀ y ∈ stepT nd e0 l m b, y.length = 32 := by
  intro f
  induction f with
  | zero => intro l m b h h1 h2; omega
  | succ f ih =>
    intro l m b h h1 h2 hx y hy
    by_cases hm : m = l.length
    · subst hm
      rw [stepT_all nd e0 h1] at hy
      cases b with
      | true => cases hy
      | false => rw [if_neg (by decide), List.mem_singleton] at hy; rw [hy]; exact rt_32 hx
    · have hs := spl_lt (n := l.length) (by omega)
      have hp := spl_pos l.length
      have k1 : ∀ x ∈ l.take (spl l.length), x.length = 32 := fun x h => hx x (List.mem_of_mem_take h)
      have k2 : ∀ x ∈ l.drop (spl l.length), x.length = 32 := fun x h => hx x (List.mem_of_mem_drop h)
      rw [stepT_less nd e0 h1 (by omega)] at hy
      by_cases hk : m ≤ spl l.length
      · rw [if_pos hk] at hy
        rcases List.mem_cons.1 hy with rfl | hy
        · exact rt_32 k2
        · exact ih _ m b (by rw [List.length_take]; omega) h1 (by rw [List.length_take]; omega) k1 y hy
      · rw [if_neg hk] at hy
        rcases List.mem_cons.1 hy with rfl | hy
        · exact rt_32 k1
        · exact ih _ (m - spl l.length) false (by rw [List.length_drop]; omega) (by omega) (by rw [List.length_drop]; omega) k2 y hy

/-- a path of another length makes nothing -/
theorem holdsE_other {L : List (List UInt8)} {k : Nat} {x root : List UInt8} {ps : List (List UInt8)} (hn : L.length ≤ 4096) (hk : k < L.length) (hx : x.length = 32) (hr : root.length = 32) (hp : ∀ y ∈ ps, y.length = 32) (hl : ps.length ≠ (pathT nd e0 L k).length) : holdsE x (k : Int) (L.length : Int) ps root = 13 := by
  rw [holdsE_yes hk hn hx hr (allB_of hp)]
  have h1 := mkP_some nd ps.reverse x k L.length (by omega)
  rw [List.length_reverse, ← pathT_length nd e0 _ L k (Nat.le_refl _)] at h1
  cases hm : mkP nd x ps.reverse k L.length with
  | none => rw [if_neg (by simp)]
  | some s => rw [hm] at h1; exact absurd (h1.1 rfl) hl
theorem followsE_other {L : List (List UInt8)} {m : Nat} {root : List UInt8} {ps : List (List UInt8)} (hL : ∀ x ∈ L, x.length = 32) (hn : L.length ≤ 4096) (h1 : 1 ≤ m) (hm : m ≤ L.length) (hr : root.length = 32) (hp : ∀ y ∈ ps, y.length = 32) (hl : ps.length ≠ (stepT nd e0 L m true).length) : followsE (m : Int) (L.length : Int) (rt (L.take m)) root ps = 13 := by
  rw [followsE_yes h1 hm hn (rt_32 (fun x h => hL x (List.mem_of_mem_take h))) hr (allB_of hp)]
  have h2 := (step_makes nd e0 L.length L m true (rt (L.take m)) (Nat.le_refl _) h1 hm (fun _ => rfl)).1
  cases ho : oldS nd (rt (L.take m)) ps.reverse m L.length true with
  | none => rw [if_neg (by simp)]
  | some s =>
    have h3 := oldS_length nd ps.reverse (stepT nd e0 L m true) m L.length true (rt (L.take m)) (rt (L.take m)) (by rw [ho]; rfl) (by rw [h2]; rfl)
    rw [List.length_reverse] at h3
    exact absurd h3 hl
theorem holdsE_path {L : List (List UInt8)} {k : Nat} {x : List UInt8} (hL : ∀ x ∈ L, x.length = 32) (hn : L.length ≤ 4096) (hk : L[k]? = some x) : holdsE x (k : Int) (L.length : Int) (pathT nd e0 L k).reverse (rt L) = 0 := by
  have hlt := (List.getElem?_eq_some_iff.1 hk).1
  rw [holdsE_yes hlt hn (hL x (List.mem_of_getElem? hk)) (rt_32 hL) (allB_of (fun y hy => pathT_32 _ L k (Nat.le_refl _) hL y (List.mem_reverse.1 hy))), List.reverse_reverse, if_pos (mkP_path nd e0 _ L k x (Nat.le_refl _) hk)]
theorem followsE_step {L : List (List UInt8)} {m : Nat} (hL : ∀ x ∈ L, x.length = 32) (hn : L.length ≤ 4096) (h1 : 1 ≤ m) (hm : m ≤ L.length) : followsE (m : Int) (L.length : Int) (rt (L.take m)) (rt L) (stepT nd e0 L m true).reverse = 0 := by
  have h2 := step_makes nd e0 L.length L m true (rt (L.take m)) (Nat.le_refl _) h1 hm (fun _ => rfl)
  rw [followsE_yes h1 hm hn (rt_32 (fun x h => hL x (List.mem_of_mem_take h))) (rt_32 hL) (allB_of (fun y hy => stepT_32 _ L m true (Nat.le_refl _) h1 hm hL y (List.mem_reverse.1 hy))), List.reverse_reverse, if_pos h2]
theorem followsE_none {L : List (List UInt8)} (hL : ∀ x ∈ L, x.length = 32) (hn : L.length ≤ 4096) : followsE ((0 : Nat) : Int) (L.length : Int) (rt (L.take 0)) (rt L) [] = 0 := by
  have e : rt (L.take 0) = e0 := rootL_nil nd e0
  rw [e, followsE_zero hn e0_length (rt_32 hL) rfl, if_pos ⟨rfl, rfl⟩]
end Go.Proofs.YtpcckanhmdlahaaDoor.Q

/- Paths hold and steps follow, shorter and longer ones do not: all that the walk of that statement asks of lists, in one place. -/
namespace Go.Proofs.YtpcckanhmdlahaaDoor.Q
open Go.RowKit Go.Sort Go.Proofs.YtpcckanhmdlahaaDoor.U Go.Proofs.YtpcckanhmdlahaaDoor.R
set_option maxRecDepth 100000

theorem drop_one_ne {l : List (List UInt8)} (h : l ≠ []) : (l.drop 1).length ≠ l.length := by have := List.length_pos_iff.2 h; rw [List.length_drop]; omega
theorem back_path {L : List (List UInt8)} {k : Nat} {x : List UInt8} (h32 : ∀ x ∈ L, x.length = 32) (hn : L.length ≤ 50) (hk : L[k]? = some x) :
    ∃ PA, pathA L (k : Int) = PA ∧ pathE L (k : Int) = 0 ∧ (∀ y ∈ PA, y.length = 32) ∧ PA.length ≤ 50 ∧ holdsE x (k : Int) (L.length : Int) PA (rt L) = 0 ∧ (PA ≠ [] → holdsE x (k : Int) (L.length : Int) (PA.drop 1) (rt L) = 13) ∧ holdsE x (k : Int) (L.length : Int) (PA ++ [rt L]) (rt L) = 13 := by
  have hlt := (List.getElem?_eq_some_iff.1 hk).1
  have hrow := row_of (show L.length ≤ 4096 by omega) h32
  obtain ⟨e1, e2⟩ := pathA_yes hrow hlt
  have hP : ∀ y ∈ (pathT nd e0 L k).reverse, y.length = 32 := fun y hy => pathT_32 _ L k (Nat.le_refl _) h32 y (List.mem_reverse.1 hy)
  have hl := pathT_le nd e0 _ L k (Nat.le_refl _)
  have hR := rt_32 h32
  have hx := h32 x (List.mem_of_getElem? hk)
  refine ⟨_, e1, e2, hP, by rw [List.length_reverse]; omega, holdsE_path h32 (by omega) hk, fun hne => holdsE_other (by omega) hlt hx hR (fun y hy => hP y (List.mem_of_mem_drop hy)) ?_, holdsE_other (by omega) hlt hx hR (fun y hy => ?_) ?_⟩
  · have := drop_one_ne hne
    rwa [List.length_reverse] at this
  · rcases List.mem_append.1 hy with h | h
    · exact hP y h
    · rw [List.mem_singleton.1 h]; exact hR
  · rw [List.length_append, List.length_reverse]; simp
theorem back_step {L : List (List UInt8)} {q : Nat} (h32 : ∀ x ∈ L, x.length = 32) (hn : L.length ≤ 50) (hq : q ≤ L.length) :
    ∃ SA, stepA L (q : Int) = SA ∧ stepE L (q : Int) = 0 ∧ (∀ y ∈ SA, y.length = 32) ∧ SA.length ≤ 50 ∧ followsE (q : Int) (L.length : Int) (rt (L.take q)) (rt L) SA = 0 ∧ (SA ≠ [] → followsE (q : Int) (L.length : Int) (rt (L.take q)) (rt L) (SA.drop 1) = 13) ∧ (0 < q → followsE (q : Int) (L.length : Int) (rt (L.take q)) (rt L) (SA ++ [rt L]) = 13) := by
  have hrow := row_of (show L.length ≤ 4096 by omega) h32
  have hR := rt_32 h32
  rcases Nat.eq_zero_or_pos q with h0 | h0
  · subst h0
    obtain ⟨e1, e2⟩ := stepA_zero hrow
    exact ⟨[], e1, e2, (fun y hy => by cases hy), Nat.zero_le _, followsE_none h32 (by omega), fun h => absurd rfl h, fun h => by omega⟩
  · obtain ⟨e1, e2⟩ := stepA_yes hrow h0 hq
    have hS : ∀ y ∈ (stepT nd e0 L q true).reverse, y.length = 32 := fun y hy => stepT_32 _ L q true (Nat.le_refl _) h0 hq h32 y (List.mem_reverse.1 hy)
    have hl := stepT_le nd e0 _ L q true (Nat.le_refl _) h0 hq
    refine ⟨_, e1, e2, hS, by rw [List.length_reverse]; omega, followsE_step h32 (by omega) h0 hq, fun hne => followsE_other h32 (by omega) h0 hq hR (fun y hy => hS y (List.mem_of_mem_drop hy)) ?_, fun _ => followsE_other h32 (by omega) h0 hq hR (fun y hy => ?_) ?_⟩
    · have := drop_one_ne hne
      rwa [List.length_reverse] at this
    · rcases List.mem_append.1 hy with h | h
      · exact hS y h
      · rw [List.mem_singleton.1 h]; exact hR
    · rw [List.length_append, List.length_reverse]; simp
end Go.Proofs.YtpcckanhmdlahaaDoor.Q

