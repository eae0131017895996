/- Texts that stand on one another, put together: RSteps, RRootsW, RCopy, ULaid, Frame, ROpen, RGrowsA. -/
import Derived.Test.YtakmlmgffgoecaaDoorL7
import Derived.ChangeOld
import Derived.ChangeSame
import Derived.Deep.CutRange
import Derived.LaidMore
import Derived.Laws.AppendOwnNone
import Derived.Laws.DeepStrings4
import Derived.OpenShut
import Derived.ProofKit
import Derived.ShutString
import Derived.SliceStrings
import Derived.Stop.Joined
import Derived.Test.YtakmlmgffgoecaaDoorRows
/- Operations by themselves, for walks of regions that draw their order: texts, variables, leaves and trees that go on. -/
namespace Go.Proofs.YtakmlmgffgoecaaDoor.R
open Go.RowKit Go.Sort Go.Proofs.YtakmlmgffgoecaaDoor.U
set_option maxRecDepth 100000

section
variable {a : Act} {d : Option Tmp} {x y : Operand} {t' : TypeId} {pos : String} {after : Array Edge} {gd : Option (Nat × Bool)} {r : TypeId}
theorem run_ldG {w : World} (g : Nat) (t : TypeId) (n : Int) (v : Value) (hg : Lies w g t (growA n v)) (hx : a.eval x = .pointer (some ⟨g, 0, none⟩)) :
    (execOp a.eval ⟨d, .load 34 x, t', pos, after, gd⟩).run Tryd.prog w = .ok (.value (.agg (growA n v))) w := by
  unfold execOp
  simp only [hx, Instr.loadAt, Instr.sureAddr, Sem.run_bind, Sem.run_pure, Result.andThen_ok, run_loadVar_row w g t 34 (growA n v) (0, 0) _ hg Tryd.underlying34 rfl rowGrow.2]
theorem run_lenS (s : List UInt8) (hx : a.eval x = .string (bytesOf s)) (w : World) :
    (execOp a.eval ⟨d, .call { callee := .builtin .len, args := #[x], argTypes := #[9] }, t', pos, after, gd⟩).run Tryd.prog w = .ok (.value (.int .i64 (s.length : Int))) w := by
  have hz : (bytesOf s).size = s.length := bytes_size s
  have hr : (Builtin.len_ #[9] t' #[.string (bytesOf s)]).run Tryd.prog w = .ok (.int .i64 (s.length : Int)) w := by simp [go_sem, hz]
  simp [execOp, resolve, invoke, builtin, hx, hr, Result.andThen]
theorem run_minI (n : Int) (m : Int) (hx : a.eval x = .int .i64 n) (w : World) :
    (execOp a.eval ⟨d, .call { callee := .builtin .min, args := #[x, .const (.int .i64 m)], argTypes := #[3, 3] }, t', pos, after, gd⟩).run Tryd.prog w = .ok (.value (.int .i64 (min n m))) w := by
  have h2 : a.eval (.const (.int .i64 m)) = .int .i64 m := rfl
  have hr : (Builtin.min_ #[3, 3] t' #[.int .i64 n, .int .i64 m]).run Tryd.prog w = .ok (.int .i64 (min n m)) w := by simp [go_sem]
  simp [execOp, resolve, invoke, builtin, hx, h2, hr, Result.andThen]
theorem run_cutS (s : List UInt8) (m : Nat) (hx : a.eval x = .string (bytesOf s)) (hy : a.eval y = .int .i64 (min (s.length : Int) (m : Int))) (w : World) :
    (execOp a.eval ⟨d, .slice 9 x none (some y) none, t', pos, after, gd⟩).run Tryd.prog w = .ok (.value (.string (bytesOf (s.take m)))) w := by
  have hc := cut_bytes s m m rfl
  have hz : (bytesOf s).size = s.length := bytes_size s
  have h1 : 0 ≤ min (s.length : Int) (m : Int) := by omega
  have h2 : min (s.length : Int) (m : Int) ≤ (s.length : Int) := by omega
  unfold execOp
  simp only [hx, hy, Option.map_some, Option.map_none]
  generalize min (s.length : Int) (m : Int) = q at *
  simp [Instr.sliceAt, run_underlying Tryd.underlying9, go_sem, hz, h1, h2]
  exact hc
end

/-! ### what is said -/
/-- Add's answer -/
abbrev sayAdd (n : Int) (M : List (List UInt8)) : Said := fun v w => ∃ a c, v = .tuple #[.agg (growA n (.slice a M.length c)), .int .i64 0] ∧ Strs w (.slice a M.length c) M
theorem sayAdd_mono (n : Int) (M : List (List UInt8)) : ∀ v w w', sayAdd n M v w → Below w.heap.size w w' → sayAdd n M v w' := fun _ _ _ ⟨a, c, hv, hs⟩ hb => ⟨a, c, hv, hs.below hb⟩
/-- a tree that goes on -/
abbrev sayGrow (n : Int) (M : List (List UInt8)) : Said := fun v w => ∃ a c, v = .agg (growA n (.slice a M.length c)) ∧ Strs w (.slice a M.length c) M
theorem sayGrow_mono (n : Int) (M : List (List UInt8)) : ∀ v w w', sayGrow n M v w → Below w.heap.size w w' → sayGrow n M v w' := fun _ _ _ ⟨a, c, hv, hs⟩ hb => ⟨a, c, hv, hs.below hb⟩
/-- a new variable of no tree -/
abbrev sayNewG (B : Nat) : Said := fun v w => ∃ g, v = .pointer (some ⟨g, 0, none⟩) ∧ B ≤ g ∧ Lies w g 34 noA
theorem sayNewG_mono (B : Nat) : ∀ v w w', sayNewG B v w → Below w.heap.size w w' → sayNewG B v w' := fun _ _ _ ⟨g, hv, hg, hl⟩ hb => ⟨g, hv, hg, hl.on hb⟩
/-- a row of one text -/
abbrev sayOneS (x : List UInt8) : Said := fun v w => ∃ g, v = .slice (some ⟨g, 0, none⟩) 1 1 ∧ Lies w g 9 #[.string (bytesOf x)]
theorem sayOneS_mono (x : List UInt8) : ∀ v w w', sayOneS x v w → Below w.heap.size w w' → sayOneS x v w' := fun _ _ _ ⟨g, hv, hl⟩ hb => ⟨g, hv, hl.on hb⟩
theorem oneS_strs {w : World} {g : Nat} {x : List UInt8} (h : Lies w g 9 #[.string (bytesOf x)]) : Strs w (.slice (some ⟨g, 0, none⟩) 1 1) [x] := by
  refine ⟨some ⟨g, 0, none⟩, 1, rfl, Nat.le_refl _, by unfold maxLen; omega, (fun h => by cases h), fun _ => ⟨g, 0, rfl, fun i y hi => ?_⟩⟩
  match i, hi with
  | 0, hi =>
    have : x = y := by simpa using hi
    subst this
    exact h.cell 0

/-- Add's contract, where what comes may be -/
theorem add_say (n : Nat) (v lv : Value) (ps l : List (List UInt8)) (w : World) (hs : Strs w v ps) (hls : Strs w lv l) (hm : mayB n ps = true) (hr : rowB l = true) (h : n + l.length ≤ 4096) (hT : Tab w) :
    Calls Tryd.prog 20 #[.agg (growA n v), lv] w fun e w' => ∃ u, e = .returned u ∧ Below w.heap.size w w' ∧ sayAdd ((n + l.length : Nat) : Int) (addL n ps l) u w' :=
  (gadd_yes n v lv ps l w hs hls hm hr h hT).mono fun _ _ ⟨a2, c2, he, hs2, hb⟩ => ⟨_, he, hb, a2, c2, rfl, hs2⟩
end Go.Proofs.YtakmlmgffgoecaaDoor.R

/- The walk of the statement of roots: whatever row and data, it answers true. -/
namespace Go.Proofs.YtakmlmgffgoecaaDoor.R
open Go.RowKit Go.Sort Go.Proofs.YtakmlmgffgoecaaDoor.U
set_option maxRecDepth 100000

theorem fewL_max (l : List (List UInt8)) : ∀ x ∈ fewL l, x.length ≤ maxLen := fun x hx => by have := fewL_part hx; unfold maxLen; omega
theorem rootA_yes {l : List (List UInt8)} (h : rowB l = true) : rootA l = #[.string (bytesOf (rt l)), .int .i64 0] := by unfold rootA; rw [if_pos h]
end Go.Proofs.YtakmlmgffgoecaaDoor.R

/- A row of texts, copied behind an empty one. -/
namespace Go.Proofs.YtakmlmgffgoecaaDoor.R
open Go.RowKit Go.Sort Go.Proofs.YtakmlmgffgoecaaDoor.U
set_option maxRecDepth 100000

/-- 'append([]string{}, v...)' -/
theorem wpL_copyS {ops : Array Oper} {rest : List Oper} {a : Act} {w : World} {Q : Exit → Act → World → Prop} {t' : TypeId} {pos : String} {after : Array Edge} {d : Option Tmp} {x y : Tmp}
    (a0 : Addr) (v : Value) (ps : List (List UInt8)) (hv : Strs w v ps) (hps : ps.length ≤ 100000)
    (hs : a.eval (.tmp x) = .slice (some a0) 0 0) (hx : a.eval (.tmp y) = v)
    (h : ∀ a2 c2 w', Strs w' (.slice a2 ps.length c2) ps → Below w.heap.size w w' → wpList Tryd.prog ops Q rest (a.put d (.slice a2 ps.length c2)) w') :
    wpList Tryd.prog ops Q (⟨d, .call { callee := .builtin .append, args := #[.tmp x, .tmp y], argTypes := #[22, 22] }, t', pos, after, none⟩ :: rest) a w := by
  obtain ⟨i0, hi, hz0, hz1, hz2⟩ := info_parts infoStr
  have hv2 := hv
  obtain ⟨a', c', rfl, hc, hm, hna, hcl⟩ := hv2
  by_cases h0 : ps = []
  · subst h0
    have hr : (Builtin.append_ #[22, 22] t' #[.slice (some a0) 0 0, .slice a' 0 c']).run Tryd.prog w = .ok (.slice (some a0) 0 0) w := by
      cases a' with
      | none =>
        have hf : (Builtin.firstCells i0.size 0 (.slice none 0 c')).run Tryd.prog w = .ok #[] w := by simp [Builtin.firstCells]
        simp [Builtin.append_, run_underlying Tryd.underlying22, sizeOf, typeInfo, hi, Builtin.lenOf, hf, storeCells]
      | some b =>
        have hf : (Builtin.firstCells i0.size 0 (.slice (some b) 0 c')).run Tryd.prog w = .ok #[] w := by rw [run_firstCells_some (P := Tryd.prog) w i0.size 0 b 0 c' [] (by simp) (fun j u hj => by cases hj)]
        simp [Builtin.append_, run_underlying Tryd.underlying22, sizeOf, typeInfo, hi, Builtin.lenOf, hf, storeCells]
    have hx0 : a.eval (.tmp y) = .slice a' 0 c' := hx
    refine wpList_plain rfl fun K hK' => ?_
    have hK := hK' _ _ (h (some a0) 0 w ⟨some a0, 0, rfl, Nat.le_refl _, Nat.zero_le _, (fun h => by cases h), fun h => absurd rfl h⟩ (Below.refl _ _))
    generalize Operand.tmp x = X at hs
    generalize Operand.tmp y = Y at hx0
    unfold Oper.wp
    simp only [execOp, resolve, invoke, builtin]
    simp [hs, hx0, hr, Result.andThen]
    exact hK
  · obtain ⟨b, off, rfl, hcell⟩ := hcl h0
    refine wpList_append_grows w rfl _ _ 22 rfl 9 i0 _ 1 16 Tryd.underlying22 hi hz0 hz1 hz2 rfl (by decide) (some a0) 0 0 [] hs (fun h => by cases h) rfl (fun _ _ j u hj => by cases hj) ⟨b, off, none⟩ ps.length c' (ps.map str) hx (by simp) (fun j u hj => by
      rw [List.getElem?_map] at hj
      obtain ⟨x, hxj, rfl⟩ := Option.map_eq_some_iff.1 hj
      rw [Addr.add_mid]
      exact hcell j x hxj) (by intro u hu; obtain ⟨x, _, rfl⟩ := List.mem_map.1 hu; rfl) (by have := List.length_pos_iff.2 h0; omega) (by unfold maxLen; omega) (by omega) ?_
    intro v' w' ho hg
    rw [List.nil_append, Nat.zero_add] at ho
    obtain ⟨g2, c2, rfl, _⟩ := ho.form (List.length_pos_iff.2 h0)
    exact h _ _ w' (Strs.owned ho) ⟨hg.os, hg.tape, hg.output, hg.size, fun k hk => hg.block k hk (by simp)⟩
end Go.Proofs.YtakmlmgffgoecaaDoor.R

/- What the listed variables give: the two tables hold their constants; and a start that meets it. -/
namespace Go.Proofs.YtakmlmgffgoecaaDoor.U
open Go.ChangeShapes Go.WideShapes Go.ChangeAt Go.RowKit

theorem rowOwn : ownKnob Tryd.prog.godebug = none := by kernel_rfl
theorem rowLaid : laidOutB Tryd.prog = true := by kernel_rfl

/-- the list that every row lists -/
abbrev laidL : List (String × DataW Unit) := [("imprimatur/sha256.squareRoots", Rows.laid_imprimatur_sha256_squareRoots), ("imprimatur/sha256.cubeRoots", Rows.laid_imprimatur_sha256_cubeRoots)]

theorem cells25 : Tryd.prog.cellsOf 58 = 1 := by kernel_rfl
theorem arr_cells {W : World} {name : String} {g t n fuel : Nat} {cs : Array Value} {p : List MemPlace} (L : List Nat) (hg : Tryd.prog.globalNamed name = some g) (ht : Tryd.prog.underlying t = some (.array n 58)) (hv : W.var? Tryd.prog name = some cs)
    (hd : DataW.trod (fun _ => ()) Tryd.prog W 0 (fun _ => true) false fuel t cs.toList = some (.agg (L.map fun x : Nat => .lit (.int .u32 (x : Int))), p)) (hn : L.length = n) :
    ∀ i, i < n → W.cell? ⟨g, i, none⟩ = some (u32 (L.getD i 0)) := by
  intro i hi
  obtain ⟨xs, m, rfl, hx, _, hxn, hel⟩ := DataW.trod_array ht hd
  have h1 := hel i hi
  simp only [Prod.mk.injEq, DataW.agg.injEq] at hx
  have hxi : xs[i]? = some (xs[i]'(by omega)) := List.getElem?_eq_getElem (by omega)
  rw [hxi, cells25, Nat.mul_one] at h1
  obtain ⟨k, e1, e2, _⟩ := DataW.trod_int Tryd.underlying58 h1
  have h2 : (xs.map (·.1))[i]? = some (.lit (.int .u32 k)) := by rw [List.getElem?_map, hxi, e2]; rfl
  rw [← hx.1, List.getElem?_map] at h2
  have hLi : L[i]? = some (L[i]'(by omega)) := List.getElem?_eq_getElem (by omega)
  rw [hLi] at h2
  simp only [Option.map_some, Option.some.injEq, DataW.lit.injEq, Lit.int.injEq, true_and] at h2
  rw [World.var?_cell hg hv i, ← Array.getElem?_toList]
  have h3 : ((cs.toList.drop i).take 1)[0]? = some (.int .u32 k) := by rw [e1]; rfl
  rw [List.getElem?_take, if_pos (by decide), List.getElem?_drop, Nat.add_zero] at h3
  rw [h3, ← h2, List.getD_eq_getElem?_getD, hLi]
  rfl

theorem gSq : Tryd.prog.globalNamed "imprimatur/sha256.squareRoots" = some 0 := by kernel_rfl
theorem gCu : Tryd.prog.globalNamed "imprimatur/sha256.cubeRoots" = some 1 := by kernel_rfl
theorem tSq : (Tryd.prog.globals[0]?).map (·.type) = some 59 := by kernel_rfl
theorem tCu : (Tryd.prog.globals[1]?).map (·.type) = some 80 := by kernel_rfl
def sq : List Nat := [h0.a, h0.b, h0.c, h0.d, h0.e, h0.f, h0.g, h0.h]
theorem sq_at (i : Nat) (h : i < 8) : sq.getD i 0 = h0.at i := by
  match i, h with
  | 0, _ | 1, _ | 2, _ | 3, _ | 4, _ | 5, _ | 6, _ | 7, _ => rfl

theorem tab_of_laid {W : World} (h : laidMetH Tryd.prog laidL W) : Tab W := by
  rw [MakeChecks.laidMetH_plain _ _ _ (by kernel_rfl)] at h
  obtain ⟨ps, ⟨g0, t0, cs0, f0, p0, q0, hg0, ht0, hv0, hd0, ⟨g1, t1, cs1, f1, p1, q1, hg1, ht1, hv1, hd1, _, _⟩, _⟩, _, _⟩ := h
  obtain rfl := Option.some.inj (gSq.symm.trans hg0)
  obtain rfl := Option.some.inj (gCu.symm.trans hg1)
  obtain rfl := Option.some.inj (tSq.symm.trans ht0)
  obtain rfl := Option.some.inj (tCu.symm.trans ht1)
  have c0 := arr_cells sq gSq Tryd.underlying59 hv0 hd0 rfl
  have c1 := arr_cells ks gCu Tryd.underlying80 hv1 hd1 rfl
  exact ⟨fun i hi => by rw [← sq_at i hi]; exact c0 i hi, c1⟩

/-- the door's own heap meets the condition -/
theorem door_met (os : Os) (args : Array Value) : laidMetH Tryd.prog laidL ((World.doorLaid Tryd.prog 400 os).forCall (fun _ _ => 0) ⟨#[], args, []⟩).memory :=
  laidMetH_of_parts3 (fuel := 8) (laidMet_of_run' 8 (by kernel_rfl) (by kernel_rfl)) (by kernel_rfl) (by kernel_rfl)
end Go.Proofs.YtakmlmgffgoecaaDoor.U

/- How an argument that is a row of texts is opened, and two closed facts of the program that every row's proof wants. -/
namespace Go.Proofs.YtakmlmgffgoecaaDoor
open Go.ChangeShapes Go.WideShapes Go.ChangeAt Go.RowKit
open Go.ChangeMaps (open_string shut_string)

theorem rowOwn : ownKnob Tryd.prog.godebug = none := by kernel_rfl
theorem rowLaid : laidOutB Tryd.prog = true := by kernel_rfl
theorem cells9 : Tryd.prog.cellsOf 9 = 1 := by kernel_rfl
/-- a row of texts that came in -/
theorem arg_strs {H : Type} {enc : TypeId × Value → H} {W : World} {a0 : Option Addr} {len0 cap0 : Nat} {d : DataW H} {p : List MemPlace}
    (h : DataW.Trod enc Tryd.prog W 0 (fun _ => true) true 22 (.slice a0 len0 cap0) d p) :
    ∃ l, Strs W (.slice a0 len0 cap0) l ∧ ∀ x ∈ l, x.length ≤ maxLen := by
  obtain ⟨fuel, hf⟩ := h
  rcases open_strings Tryd.underlying22 Tryd.underlying9 cells9 hf with ⟨hcs, _⟩ | ⟨a, len, cap, ss, hcs, _, hl, hm, hz, _, hcell, hwz⟩
  · simp [Value.cells] at hcs
    obtain ⟨rfl, rfl, rfl⟩ := hcs
    exact ⟨[], Strs.nil W, fun x hx => by cases hx⟩
  · simp [Value.cells] at hcs
    obtain ⟨rfl, rfl, rfl⟩ := hcs
    have hz' : ss.length = cap0 := by simpa using hz
    have hlen : ((ss.take len0).map (fun s => s.data.toList)).length = len0 := by simp; omega
    refine ⟨(ss.take len0).map (fun s => s.data.toList), ⟨some a, cap0, by rw [hlen], by rw [hlen]; exact hl, hm, (fun e => by cases e), fun hne => ?_⟩, ?_⟩
    · have hpos : 0 < len0 := by
        rcases Nat.eq_zero_or_pos len0 with h0 | h0
        · exfalso; apply hne; rw [h0]; rfl
        · exact h0
      have h0 := hcell 0 (by omega)
      have hspot : a.spot = none := by
        have := World.cell?_spot h0
        unfold Addr.add at this
        split at this <;> simp_all
      obtain ⟨b, off, spot⟩ := a
      simp only at hspot
      subst hspot
      refine ⟨b, off, rfl, fun i x hi => ?_⟩
      have hlt := (List.getElem?_eq_some_iff.1 hi).1
      rw [hlen] at hlt
      have hc := hcell i (by omega)
      have hadd : ((⟨b, off, none⟩ : Addr).add i) = ⟨b, off + i, none⟩ := by unfold Addr.add; split <;> simp_all
      rw [hadd] at hc
      rw [hc]
      have hx : (ss.getD i ByteArray.empty).data.toList = x := by
        rw [List.getElem?_map, List.getElem?_take, if_pos hlt] at hi
        rw [List.getD_eq_getElem?_getD]
        rcases hs : ss[i]? with _ | s
        · rw [hs] at hi; cases hi
        · rw [hs] at hi; simpa using hi
      unfold str
      rw [← hx, Lib.mk_data]
    · intro x hx
      obtain ⟨s, hs, rfl⟩ := List.mem_map.1 hx
      have := hwz s (List.mem_of_mem_take hs)
      rw [← Lib.size_eq]; exact this
end Go.Proofs.YtakmlmgffgoecaaDoor

/- How arguments are opened: a tree that goes on; a row of ints. -/
namespace Go.Proofs.YtakmlmgffgoecaaDoor.R
open Go.ChangeShapes Go.WideShapes Go.ChangeAt Go.RowKit

theorem cellsG : Tryd.prog.cellsOf 34 = 2 := by kernel_rfl
theorem cellsI : Tryd.prog.cellsOf 3 = 1 := by kernel_rfl
theorem cellsR : Tryd.prog.cellsOf 22 = 1 := by kernel_rfl
theorem array2 {α : Type} {cs : Array α} (h : cs.size = 2) : ∃ c0 c1, cs = #[c0, c1] := by
  obtain ⟨l⟩ := cs
  match l, h with
  | [c0, c1], _ => exact ⟨c0, c1, rfl⟩
theorem grow_open {H : Type} {enc : TypeId × Value → H} {W : World} {r : Reach} {b0 : Nat} {v : Value} {d : DataW H} {p : List MemPlace}
    (hv : Value.okWide Tryd.prog W r b0 34 v) (h : DataW.Trod enc Tryd.prog W 0 (fun _ => true) true 34 v d p) :
    ∃ (n : Int) (a : Option Addr) (len c : Nat), v = .agg (growA n (.slice a len c)) ∧ -9223372036854775808 ≤ n ∧ n ≤ 9223372036854775807 ∧ ∃ ps, Strs W (.slice a len c) ps ∧ ∀ x ∈ ps, x.length ≤ maxLen := by
  obtain ⟨cs, rfl, hsz⟩ := okWide_struct Tryd.underlying34 hv
  obtain ⟨c0, c1, rfl⟩ := array2 (hsz.trans cellsG)
  obtain ⟨fuel, hf⟩ := h
  obtain ⟨y0, y1, n, hx, _, h0, h1⟩ := trod_struct2 Tryd.underlying34 hf
  simp [Value.cells, cellsI, cellsR] at h0 h1
  obtain ⟨k, ek, _, hk⟩ := DataW.trod_int Tryd.underlying3 h0
  injection ek with ek
  subst ek
  have hform : ∃ a len c, c1 = .slice a len c := by
    rcases open_strings Tryd.underlying22 Tryd.underlying9 cells9 h1 with ⟨hcs, _⟩ | ⟨a, len, cap, ss, hcs, _⟩
    · simp at hcs
      exact ⟨_, _, _, hcs⟩
    · simp at hcs
      exact ⟨_, _, _, hcs⟩
  obtain ⟨a, len, c, rfl⟩ := hform
  obtain ⟨l, hl, hm⟩ := arg_strs (enc := enc) (d := y1.1) (p := y1.2) ⟨n, h1⟩
  refine ⟨k, a, len, c, rfl, ?_, ?_, l, hl, hm⟩
  · simp only [Lit.wf, IntKind.min, IntKind.max, IntKind.signed, IntKind.bits, Bool.and_eq_true, decide_eq_true_eq, if_true] at hk
    omega
  · simp only [Lit.wf, IntKind.min, IntKind.max, IntKind.signed, IntKind.bits, Bool.and_eq_true, decide_eq_true_eq, if_true] at hk
    omega
/-- a row of ints that came in -/
theorem arg_ints {H : Type} {enc : TypeId × Value → H} {W : World} {a0 : Option Addr} {len0 cap0 : Nat} {d : DataW H} {p : List MemPlace}
    (h : DataW.Trod enc Tryd.prog W 0 (fun _ => true) true 44 (.slice a0 len0 cap0) d p) :
    ∃ zs : List Int, zs.length = len0 ∧ len0 ≤ cap0 ∧ cap0 ≤ maxLen ∧ (0 < zs.length → ∃ b off, a0 = some ⟨b, off, none⟩ ∧ ∀ (i : Nat) z, zs[i]? = some z → W.cell? ⟨b, off + i, none⟩ = some (.int .i64 z)) := by
  obtain ⟨fuel, hf⟩ := h
  rcases open_ints Tryd.underlying44 Tryd.underlying3 cellsI hf with ⟨hcs, _⟩ | ⟨a, len, cap, zs, hcs, _, hl, hm, hz, _, hcell, _⟩
  · simp [Value.cells] at hcs
    obtain ⟨rfl, rfl, rfl⟩ := hcs
    exact ⟨[], rfl, Nat.le_refl _, Nat.zero_le _, fun h0 => absurd h0 (by decide)⟩
  · simp [Value.cells] at hcs
    obtain ⟨rfl, rfl, rfl⟩ := hcs
    have hz' : zs.length = cap0 := by simpa using hz
    refine ⟨zs.take len0, by simp; omega, hl, hm, fun hpos => ?_⟩
    have hpos2 : 0 < zs.length := by simp at hpos; omega
    have h0 := hcell 0 hpos2
    have hspot : a.spot = none := by
      have := World.cell?_spot h0
      unfold Addr.add at this
      split at this <;> simp_all
    obtain ⟨b, off, spot⟩ := a
    simp only at hspot
    subst hspot
    refine ⟨b, off, rfl, fun i z hi => ?_⟩
    have hlt := (List.getElem?_eq_some_iff.1 hi).1
    simp at hlt
    have hc := hcell i (by omega)
    rw [Addr.add_mid] at hc
    rw [hc]
    rw [List.getElem?_take, if_pos (by omega)] at hi
    rw [List.getD_eq_getElem?_getD, hi]
    rfl
end Go.Proofs.YtakmlmgffgoecaaDoor.R

/- Laws for the walk of the statement of trees that go on from none: slices that are cut, ints that are copied; leaves of texts; what goes on from the parts of the first leaves. -/
namespace Go.Proofs.YtakmlmgffgoecaaDoor.R
open Go.RowKit Go.Sort Go.Proofs.YtakmlmgffgoecaaDoor.U
set_option maxRecDepth 100000

section
variable {a : Act} {d : Option Tmp} {x y z : Operand} {t' : TypeId} {pos : String} {after : Array Edge} {gd : Option (Nat × Bool)} {r : TypeId}
theorem run_headS (ao : Option Addr) (n c j : Nat) (hj : j ≤ c) (hA : (if c = 0 then ao else ao.map (·.add 0)) = ao) (hx : a.eval x = .slice ao n c) (hy : a.eval y = .int .i64 (j : Int)) (w : World) :
    (execOp a.eval ⟨d, .slice 22 x none (some y) none, t', pos, after, gd⟩).run Tryd.prog w = .ok (.value (.slice ao j c)) w := by
  have h : (execOp a.eval ⟨d, .slice 22 x none (some y) none, t', pos, after, gd⟩).run Tryd.prog w = .ok (.value (.slice (if c = 0 then ao else ao.map (·.add 0)) j c)) w := by
    unfold execOp
    simp only [hx, hy, Option.map_some, Option.map_none]
    simp [Instr.sliceAt, run_underlying Tryd.underlying22, go_sem]
    omega
  rw [hA] at h
  exact h
theorem run_headI (ao : Option Addr) (n c j : Nat) (hj : j ≤ c) (hx : a.eval x = .slice ao n c) (hy : a.eval y = .int .i64 (j : Int)) (w : World) :
    (execOp a.eval ⟨d, .slice 44 x none (some y) none, t', pos, after, gd⟩).run Tryd.prog w = .ok (.value (.slice (if c = 0 then ao else ao.map (·.add 0)) j c)) w := by
  unfold execOp
  simp only [hx, hy, Option.map_some, Option.map_none]
  simp [Instr.sliceAt, run_underlying Tryd.underlying44, go_sem]
  omega
theorem run_cutS2 (ao : Option Addr) (n c i j : Nat) (hij : i ≤ j) (hj : j ≤ c) (hx : a.eval x = .slice ao n c) (hy : a.eval y = .int .i64 (i : Int)) (hz : a.eval z = .int .i64 (j : Int)) (w : World) :
    (execOp a.eval ⟨d, .slice 22 x (some y) (some z) none, t', pos, after, gd⟩).run Tryd.prog w = .ok (.value (.slice (if c = i then ao else ao.map (·.add i)) (j - i) (c - i))) w := by
  unfold execOp
  simp only [hx, hy, hz, Option.map_some, Option.map_none]
  simp [Instr.sliceAt, run_underlying Tryd.underlying22, go_sem, hij, hj]
theorem run_neqS (s : ByteArray) (hx : a.eval x = .string s) (hy : a.eval y = .string s) (w : World) :
    (execOp a.eval ⟨d, .binOp .neq 9 x y r, t', pos, after, gd⟩).run Tryd.prog w = .ok (.value (.bool false)) w := by
  unfold execOp
  simp only [hx, hy]
  simp [go_sem]
theorem run_neqI (n : Int) (hx : a.eval x = .int .i64 n) (hy : a.eval y = .int .i64 n) (w : World) :
    (execOp a.eval ⟨d, .binOp .neq 3 x y r, t', pos, after, gd⟩).run Tryd.prog w = .ok (.value (.bool false)) w := by
  unfold execOp
  simp only [hx, hy]
  simp [go_sem]
theorem run_ldN (p : Addr) (v : Value) (w : World) (hc : w.cell? p = some v) (hx : a.eval x = .pointer (some p)) :
    (execOp a.eval ⟨d, .load 3 x, t', pos, after, gd⟩).run Tryd.prog w = .ok (.value v) w := by
  unfold execOp
  simp only [hx]
  simp [Instr.loadAt, go_sem, hc]
theorem run_ldR (p : Addr) (v : Value) (w : World) (hc : w.cell? p = some v) (hx : a.eval x = .pointer (some p)) :
    (execOp a.eval ⟨d, .load 22 x, t', pos, after, gd⟩).run Tryd.prog w = .ok (.value v) w := by
  unfold execOp
  simp only [hx]
  simp [Instr.loadAt, go_sem, hc]
end

/-- one operation whose run is known -/
theorem wpL_val {P : Program} {ops : Array Oper} {rest : List Oper} {a : Act} {w : World} {Q : Exit → Act → World → Prop} {o : Oper} {v : Value} (hg : o.guard = none) (hr : (execOp a.eval o).run P w = .ok (.value v) w) (h : wpList P ops Q rest (a.put o.dst v) w) : wpList P ops Q (o :: rest) a w := by
  refine wpList_plain hg fun K hK' => ?_
  have hK := hK' _ _ h
  unfold Oper.wp
  rw [hr]
  exact hK
theorem wpL_headS {ops : Array Oper} {rest : List Oper} {a : Act} {w : World} {Q : Exit → Act → World → Prop} {t' : TypeId} {pos : String} {after : Array Edge} {d : Option Tmp} {x y : Operand}
    (ao : Option Addr) (n c j : Nat) (hj : j ≤ c) (hA : (if c = 0 then ao else ao.map (·.add 0)) = ao) (hx : a.eval x = .slice ao n c) (hy : a.eval y = .int .i64 (j : Int)) (h : wpList Tryd.prog ops Q rest (a.put d (.slice ao j c)) w) :
    wpList Tryd.prog ops Q (⟨d, .slice 22 x none (some y) none, t', pos, after, none⟩ :: rest) a w := wpL_val rfl (run_headS ao n c j hj hA hx hy w) h
theorem wpL_headI {ops : Array Oper} {rest : List Oper} {a : Act} {w : World} {Q : Exit → Act → World → Prop} {t' : TypeId} {pos : String} {after : Array Edge} {d : Option Tmp} {x y : Operand}
    (ao : Option Addr) (n c j : Nat) (hj : j ≤ c) (hx : a.eval x = .slice ao n c) (hy : a.eval y = .int .i64 (j : Int)) (h : wpList Tryd.prog ops Q rest (a.put d (.slice (if c = 0 then ao else ao.map (·.add 0)) j c)) w) :
    wpList Tryd.prog ops Q (⟨d, .slice 44 x none (some y) none, t', pos, after, none⟩ :: rest) a w := wpL_val rfl (run_headI ao n c j hj hx hy w) h

def iv (z : Int) : Value := .int .i64 z
/-- 'append([]int{}, v...)' -/
theorem wpL_copyI {ops : Array Oper} {rest : List Oper} {a : Act} {w : World} {Q : Exit → Act → World → Prop} {t' : TypeId} {pos : String} {after : Array Edge} {d : Option Tmp} {x y : Tmp}
    (B : Nat) (v0 : Value) (hown0 : w.ownsRow B 3 1 v0 0 []) (hB : B ≤ w.heap.size) (ao : Option Addr) (zs : List Int) (c : Nat) (hzs : zs.length ≤ 1000)
    (hcl : 0 < zs.length → ∃ b off, ao = some ⟨b, off, none⟩ ∧ ∀ (i : Nat) z, zs[i]? = some z → w.cell? ⟨b, off + i, none⟩ = some (.int .i64 z))
    (hs : a.eval (.tmp x) = v0) (hx : a.eval (.tmp y) = .slice ao zs.length c)
    (h : ∀ a2 c2 w', w'.ownsRow B 3 1 (.slice a2 zs.length c2) zs.length (zs.map iv) → Below B w w' → wpList Tryd.prog ops Q rest (a.put d (.slice a2 zs.length c2)) w') :
    wpList Tryd.prog ops Q (⟨d, .call { callee := .builtin .append, args := #[.tmp x, .tmp y], argTypes := #[44, 44] }, t', pos, after, none⟩ :: rest) a w := by
  obtain ⟨i0, hi, hz0, hz1, hz2⟩ := info_parts infoInt
  obtain ⟨a0, c0, hv0⟩ := own_form hown0
  subst hv0
  cases ao with
  | none =>
    have h0 : zs = [] := by
      rcases Nat.eq_zero_or_pos zs.length with h0 | h0
      · exact List.eq_nil_of_length_eq_zero h0
      · obtain ⟨b, off, hb, _⟩ := hcl h0
        cases hb
    subst h0
    have hK0 := h _ _ _ hown0 (Below.refl _ _)
    by_cases hc : c = 0
    · subst hc
      exact wpList_append_own_none rfl _ _ 44 (by rfl) B 3 i0 1 Tryd.underlying44 hi _ 0 [] hs hown0 hx hK0
    · have hf : (Builtin.firstCells i0.size 0 (.slice none 0 c)).run Tryd.prog w = .ok #[] w := by simp [Builtin.firstCells]
      have hr : (Builtin.append_ #[44, 44] t' #[.slice a0 0 c0, .slice none 0 c]).run Tryd.prog w = .ok (.slice a0 0 c0) w := by
        simp [Builtin.append_, run_underlying Tryd.underlying44, sizeOf, typeInfo, hi, Builtin.lenOf, hf, storeCells]
        cases a0 <;> rfl
      refine wpList_plain rfl fun K hK' => ?_
      have hK := hK' _ _ hK0
      have hx0 : a.eval (.tmp y) = .slice none 0 c := hx
      generalize Operand.tmp x = X at hs
      generalize Operand.tmp y = Y at hx0
      unfold Oper.wp
      simp only [execOp, resolve, invoke, builtin]
      simp [hs, hx0, hr, Result.andThen]
      exact hK
  | some ad =>
    refine wpList_append_own _ rfl _ _ 44 (by rfl) B 3 i0 _ 1 8 Tryd.underlying44 hi hz0 hz1 hz2 rfl (by omega) _ 0 [] hs hown0 ad zs.length c (zs.map iv) hx (by simp) (by
      intro j u hj
      rw [List.getElem?_map] at hj
      obtain ⟨z, hzj, rfl⟩ := Option.map_eq_some_iff.1 hj
      obtain ⟨b, off, hb, hcell⟩ := hcl (by have := (List.getElem?_eq_some_iff.1 hzj).1; omega)
      injection hb with hb
      subst hb
      rw [Addr.add_mid]
      exact hcell j z hzj) (by intro u hu; obtain ⟨z, _, rfl⟩ := List.mem_map.1 hu; rfl) (by unfold maxLen; omega) (by omega) hB ?_
    intro v' w1 hown1 hgrow1 hnil1
    rw [List.nil_append, Nat.zero_add] at hown1
    obtain ⟨a2, c2, rfl⟩ := own_form hown1
    exact h _ _ _ hown1 ((Below.refl _ _).mono hB |>.grown hgrow1 hB (fun j hj => (hown0.lt j hj).1))

/-! ### leaves of texts -/
def leavesD (data : List (List UInt8)) (k : Nat) : List (List UInt8) := ((data.take k).take 70).map (fun s => lf (s.take 100))
theorem leavesD_length (data : List (List UInt8)) (k : Nat) : (leavesD data k).length ≤ 70 := by simp [leavesD]; omega
theorem leavesD_32 (data : List (List UInt8)) (k : Nat) : ∀ x ∈ leavesD data k, x.length = 32 := by
  intro x hx
  obtain ⟨s, _, rfl⟩ := List.mem_map.1 hx
  exact lf_length _
theorem leavesD_next {data : List (List UInt8)} {k : Nat} {x : List UInt8} (h : data[k]? = some x) (hk : k < 70) : leavesD data (k + 1) = leavesD data k ++ [lf (x.take 100)] := by
  have e1 : data.take (k + 1) = data.take k ++ [x] := by rw [List.take_add_one, h]; rfl
  unfold leavesD
  rw [e1, List.take_of_length_le (l := data.take k) (by rw [List.length_take]; omega), List.take_of_length_le (by rw [List.length_append, List.length_take]; simp; omega)]
  simp
theorem leavesD_past (data : List (List UInt8)) {k : Nat} (hk : 70 ≤ k) : leavesD data (k + 1) = leavesD data k := by
  unfold leavesD
  rw [List.take_take, List.take_take, Nat.min_eq_left (by omega), Nat.min_eq_left (by omega)]

/-! ### the parts of the first leaves -/
theorem strs_cut {w : World} {ao : Option Addr} {n c : Nat} {l : List (List UInt8)} (h : Strs w (.slice ao n c) l) {i j : Nat} (hi : i ≤ j) (hj : j ≤ l.length) :
    Strs w (.slice (if c = i then ao else ao.map (·.add i)) (j - i) (c - i)) ((l.drop i).take (j - i)) := by
  have h2 := h
  obtain ⟨a', c', hv, hc, hm, hn, hl⟩ := h2
  injection hv with e1 e2 e3
  subst e1 e2 e3
  by_cases hl0 : l = []
  · subst hl0
    obtain rfl : j = 0 := by simpa using hj
    obtain rfl : i = 0 := by omega
    refine ⟨_, c, rfl, Nat.zero_le _, by simpa using hm, (fun e => ?_), fun e => absurd rfl e⟩
    by_cases hc0 : c = 0
    · exact hc0
    · rw [if_neg hc0] at e
      cases ao with
      | none => exact hn rfl
      | some ad => cases e
  · obtain ⟨b, off, rfl, _⟩ := hl hl0
    by_cases hc0 : c = i
    · subst hc0
      rw [if_pos rfl]
      have e : (l.drop c).take (j - c) = [] := by rw [List.drop_eq_nil_of_le (by omega), List.take_nil]
      rw [e]
      exact ⟨_, _, by rw [show j - c = 0 by omega]; rfl, Nat.zero_le _, by omega, (fun h => by cases h), fun h => absurd rfl h⟩
    · rw [if_neg hc0]
      have e : (some (⟨b, off, none⟩ : Addr)).map (·.add i) = some ⟨b, off + i, none⟩ := by
        show some (Addr.add ⟨b, off, none⟩ i) = _
        rw [Addr.add_mid]
      rw [e]
      exact strs_part h hi hj
theorem strs_first {w : World} {ao : Option Addr} {n c : Nat} {l : List (List UInt8)} (h : Strs w (.slice ao n c) l) {j : Nat} (hj : j ≤ l.length) : Strs w (.slice ao j c) (l.take j) := by
  by_cases hl0 : l = []
  · subst hl0
    obtain rfl : j = 0 := by simpa using hj
    obtain ⟨a', c', hv, hc, hm, hn, hl⟩ := h
    injection hv with e1 e2 e3
    subst e1 e2 e3
    exact ⟨_, _, rfl, Nat.zero_le _, hm, hn, fun e => absurd rfl e⟩
  · have h2 := h
    obtain ⟨a', c', hv, hc, hm, hn, hl⟩ := h2
    injection hv with e1 e2 e3
    subst e1 e2 e3
    obtain ⟨b, off, rfl, _⟩ := hl hl0
    exact strs_head h hj
theorem row_of {l : List (List UInt8)} (h1 : l.length ≤ 4096) (h2 : ∀ x ∈ l, x.length = 32) : rowB l = true := by
  unfold rowB
  rw [allB_of h2, decide_eq_true h1]
  rfl
theorem may_of {n : Nat} {ps : List (List UInt8)} (hn : n ≤ 4096) (h1 : ps.length = ones n) (h2 : ∀ x ∈ ps, x.length = 32) : mayB (n : Int) ps = true := by
  have h3 := ones_le n hn
  unfold mayB
  rw [Int.toNat_natCast, row_of (by omega) h2, decide_eq_true h1, decide_eq_true (show (0 : Int) ≤ (n : Int) by omega), decide_eq_true (show (n : Int) ≤ 4096 by omega)]
  rfl

/-- what goes on from none by the leaves L, in whatever pieces: G t are the parts of the first t leaves, R t their root -/
theorem grows_facts (L : List (List UInt8)) (h70 : L.length ≤ 70) (h32 : ∀ x ∈ L, x.length = 32) :
    ∃ (G : Nat → List (List UInt8)) (R : Nat → List UInt8), G 0 = [] ∧
      (∀ t m : Nat, t ≤ m → m ≤ L.length → ∀ (w : World) (v lv : Value), Tab w → Strs w v (G t) → Strs w lv ((L.drop t).take (m - t)) → Calls Tryd.prog 20 #[.agg (growA (t : Int) v), lv] w fun e w' => ∃ u, e = .returned u ∧ Below w.heap.size w w' ∧ sayAdd (m : Int) (G m) u w') ∧
      (∀ m : Nat, m ≤ L.length → ∀ (w : World) (v : Value), Tab w → Strs w v (G m) → Calls Tryd.prog 21 #[.agg (growA (m : Int) v)] w fun e w' => e = .returned (.tuple #[.string (bytesOf (R m)), .int .i64 0]) ∧ Below w.heap.size w w') ∧
      (∀ m : Nat, m ≤ L.length → ∀ (w : World) (v : Value), Tab w → Strs w v (L.take m) → Calls Tryd.prog 10 #[v] w fun e w' => e = .returned (.tuple #[.string (bytesOf (R m)), .int .i64 0]) ∧ Below w.heap.size w w') ∧
      (∀ m : Nat, m ≤ L.length → ∀ (w : World) (v : Value), Strs w v (L.take m) → Calls Tryd.prog 26 #[v] w fun e w' => ∃ v', e = .returned v' ∧ Below w.heap.size w w' ∧ Strs w' v' (G m)) := by
  have hok : ∀ t, t ≤ L.length → (addL 0 [] (L.take t)).length = ones t ∧ ∀ x ∈ addL 0 [] (L.take t), x.length = 32 := fun t ht => by
    have h := addL_ok (L.take t) 0 [] rfl (fun y hy => by cases hy) (fun y hy => h32 y (List.mem_of_mem_take hy))
    rw [List.length_take, Nat.min_eq_left ht, Nat.zero_add] at h
    exact h
  have hpt : ∀ t, addL 0 [] (L.take t) = partsL nd e0 (L.take t) := fun t => addL_parts _ _ rfl
  have hrow : ∀ t, rowB (L.take t) = true := fun t => row_of (by rw [List.length_take]; omega) (fun y hy => h32 y (List.mem_of_mem_take hy))
  refine ⟨fun t => addL 0 [] (L.take t), fun t => rt (L.take t), rfl, ?_, ?_, ?_, ?_⟩
  · intro t m h1 h2 w v lv hT hv hlv
    have hl : ((L.drop t).take (m - t)).length = m - t := by rw [List.length_take, List.length_drop]; omega
    have hrl : rowB ((L.drop t).take (m - t)) = true := row_of (by omega) (fun y hy => h32 y (List.mem_of_mem_drop (List.mem_of_mem_take hy)))
    have h := add_say t v lv _ _ w hv hlv (may_of (by omega) (hok t (by omega)).1 (hok t (by omega)).2) hrl (by omega) hT
    have e : addL t (addL 0 [] (L.take t)) ((L.drop t).take (m - t)) = addL 0 [] (L.take m) := by
      have e1 := addL_append (L.take t) ((L.drop t).take (m - t)) 0 []
      rw [List.length_take, Nat.min_eq_left (by omega), Nat.zero_add, ← List.take_add, show t + (m - t) = m by omega] at e1
      exact e1.symm
    rw [e, hl, show t + (m - t) = m by omega] at h
    exact h
  · intro m h2 w v hT hv
    have h := gsum_any (m : Int) v (addL 0 [] (L.take m)) w (by omega) (by omega) hv (fun x hx => by rw [(hok m h2).2 x hx]; decide) hT
    unfold sumG at h
    rw [if_pos (may_of (by omega) (hok m h2).1 (hok m h2).2), hpt m, sum_parts nd e0 _ _ (Nat.le_refl _)] at h
    exact h
  · intro m h2 w v hT hv
    have h := root_any (L.take m) w v (fun x hx => by rw [h32 x (List.mem_of_mem_take hx)]; decide) hv hT
    rw [rootA_yes (hrow m)] at h
    exact h
  · intro m h2 w v hv
    refine (refParts_any (L.take m) w v (hrow m) hv).mono ?_
    rintro e w' ⟨v', he, hs, hb⟩
    refine ⟨v', he, hb, ?_⟩
    show Strs w' v' (addL 0 [] (L.take m))
    rw [hpt m]
    exact hs
end Go.Proofs.YtakmlmgffgoecaaDoor.R

