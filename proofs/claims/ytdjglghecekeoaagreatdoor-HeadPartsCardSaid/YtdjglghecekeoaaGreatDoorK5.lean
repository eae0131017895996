/- Texts that stand on one another, put together: RFew, RAlive, RAddMath, Held, RSteps, RGrowsA, QSides, QParts, HeldB, QDBase, JBase, Shelf, Build, Num, First, Unpack, Fit, Big, Pack, JSigned, JRight, FPrime, CRing, CGroup, CTimes, FDigits, FMem, FFe, FTrim. -/
import Derived.Test.YtdjglghecekeoaaGreatDoorK4
import Derived.BigQuiet
import Derived.Deep.AppendLies
import Derived.Deep.CutBlock
import Derived.Deep.CutRange
import Derived.Deep.MidRow
import Derived.Deep.QuietTactic
import Derived.Laws.AppendOwnNone
import Derived.Laws.DeepStrings4
import Derived.Laws.Externs
import Derived.Lib.AppendStr
import Derived.Lib.Builder
import Derived.Lib.Hide
import Derived.Lib.Strings
import Derived.Shelf.Bits.Mul64
import Derived.Shelf.Strings.Builder1
import Derived.Shelf.Strings.BuilderF
import Derived.Shelf.Strings.BuilderK
import Derived.Test.YtdjglghecekeoaaGreatDoorProg
import Derived.WalkKit
import Derived.WalkLawsBesides
import Derived.WalkSpells
/- The contract of the statements' own call that takes few and short parts of a row. -/
namespace Go.Proofs.YtdjglghecekeoaaGreatDoor.R
open Go.RowKit Go.Sort Go.Proofs.YtdjglghecekeoaaGreatDoor.U

theorem own_form {w : World} {B : Nat} {e : TypeId} {v : Value} {n : Nat} {xs : List Value} (h : w.ownsRow B e 1 v n xs) : ∃ ao cap, v = .slice ao n cap := by
  rcases h.2 with ⟨rfl, h0⟩ | ⟨g, cap, cur, rfl, _⟩
  · exact ⟨none, 0, by rw [h0]⟩
  · exact ⟨some ⟨g, 0, none⟩, cap, rfl⟩
theorem cut_bytes (x : List UInt8) (m : Nat) (mi : Int) (h : mi = (m : Int)) : (⟨x.toArray⟩ : ByteArray).extract 0 (min (x.length : Int) mi).toNat = ⟨(x.take m).toArray⟩ := by
  subst h
  rw [Lib.extract_eq]
  by_cases h : x.length ≤ m
  · rw [show (min (x.length : Int) (m : Int)).toNat = x.length by omega]
    simp [List.take_of_length_le h]
  · rw [show (min (x.length : Int) (m : Int)).toNat = m by omega]
    simp
end Go.Proofs.YtdjglghecekeoaaGreatDoor.R

/- The contracts of the statements' own calls: three leaves' root; a tree with few and short parts. -/
namespace Go.Proofs.YtdjglghecekeoaaGreatDoor.R
open Go.RowKit Go.Sort Go.Proofs.YtdjglghecekeoaaGreatDoor.U
set_option maxRecDepth 100000

theorem toList_of (s : List UInt8) : (bytesOf s).toList = s := by rw [ByteArray.toList_eq]; rfl
end Go.Proofs.YtdjglghecekeoaaGreatDoor.R

/- The reference's Add: how many leaves each part is of, as lists; rows that are cut with their capacity, and go on in new memory. -/
namespace Go.Proofs.YtdjglghecekeoaaGreatDoor.R
open Go.RowKit Go.Sort Go.Proofs.YtdjglghecekeoaaGreatDoor.U
set_option maxRecDepth 100000

section
variable {a : Act} {d : Option Tmp} {x y z : Tmp} {t' : TypeId} {pos : String} {after : Array Edge} {gd : Option (Nat × Bool)} {r : TypeId}
theorem run_ldI (p : Addr) (v : Value) (w : World) (hc : w.cell? p = some v) (hx : a.eval (.tmp x) = .pointer (some p)) :
    (execOp a.eval ⟨d, .load 3 (.tmp x), t', pos, after, gd⟩).run Tryz.prog w = .ok (.value v) w := by
  unfold execOp
  simp only [hx, Instr.loadAt, Instr.sureAddr]
  simp [go_sem, hc]
end
end Go.Proofs.YtdjglghecekeoaaGreatDoor.R

/- Operations of a region that draws its order, taken one by one: what reads or reckons first, whatever comes. Nothing of the program is named here. -/
namespace Go.Proofs.YtdjglghecekeoaaGreatDoor
open Go.Sort Go.RowKit
/-! ### operations of a region that draws its order, taken one by one -/
section
variable {P : Program} {md : Region.Mode} {ops : Array Oper} {Q : Exit → Act → World → Prop} {S : World → Prop} {a : Act} {w w' : World}
theorem wpOp_val {i : Nat} {o : Oper} {v : Value} {K : Act → World → Prop} (hi : ops[i]? = some o) (hw : Region.wanted o (yielded ops a.tmps) = true) (hr : (execOp a.eval o).run P w = .ok (.value v) w') (h : K (a.put o.dst v) w') : wpOp P ops Q i K a w := by
  unfold Go.wpOp
  simp only [hi]
  simp only [hw, if_true, Oper.wp, hr, Oper.upon]
  exact .inl h
theorem wpOp_skp {i : Nat} {o : Oper} {K : Act → World → Prop} (hi : ops[i]? = some o) (hw : Region.wanted o (yielded ops a.tmps) = true) (hr : (execOp a.eval o).run P w = .ok .skip w') (h : K (a.put o.dst undef) w') : wpOp P ops Q i K a w := by
  unfold Go.wpOp
  simp only [hi]
  simp only [hw, if_true, Oper.wp, hr, Oper.upon]
  exact .inl h
theorem wp_held_calm {id : Nat} {K : Act → World → Prop} {Q : Exit → Act → World → Prop} (n : Nat) (hn : ops.size = n) (hm : P.follows .mixedOrders = true)
    (h : wpAnyH P .any ops (Exit.then K (Calm Q)) S n (Array.replicate n false) a { w with drawn := w.drawn + 1 }) : (Code.region id ops true).wp P (Exit.then K Q) a w := by
  subst hn
  exact Code.wp_mono (Q := Exit.then K (Calm Q)) calm_then (wp_region_held hm h)
theorem held_done {K : Act → World → Prop} {Q : Exit → Act → World → Prop} {listed : Array Bool} {fuel : Nat} (hr : Region.ready md ops listed = []) (h : Exit.then K Q .normal a w) : wpAnyH P md ops (Exit.then K (Calm Q)) S fuel listed a w := wpAnyH_done hr (show Exit.then K (Calm Q) .normal a w from h) fuel
theorem held_take {K : Act → World → Prop} {Q : Exit → Act → World → Prop} {fuel : Nat} {listed : Array Bool} (i : Nat) (v : Value) {oi : Oper} (hi : ops[i]? = some oi) (hs : Region.noSelect ops = true) (hf : Region.free md ops listed i = true) (hr : (Region.ready md ops listed).contains i = true)
    (hw : Region.wanted oi (yielded ops a.tmps) = true) (hy : ∀ w, S w → (execOp a.eval oi).run P w = .ok (.value v) w) (hS : S w) (h : wpAnyH P md ops (Exit.then K (Calm Q)) S fuel (listed.setIfInBounds i true) (a.put oi.dst v) w) : wpAnyH P md ops (Exit.then K (Calm Q)) S (fuel + 1) listed a w :=
  wpAnyH_take hi hs hf hr (fun c a w h => calm_panic c _ _ a w h) (.inl ⟨hw, hy⟩) hS h
/-- .. with the slot said -/
theorem held_put {K : Act → World → Prop} {Q : Exit → Act → World → Prop} {fuel : Nat} {listed : Array Bool} (i : Nat) (d : Tmp) (v : Value) {oi : Oper} (hi : ops[i]? = some oi) (hd : oi.dst = some d) (hs : Region.noSelect ops = true) (hf : Region.free md ops listed i = true) (hr : (Region.ready md ops listed).contains i = true)
    (hw : Region.wanted oi (yielded ops a.tmps) = true) (hy : ∀ w, S w → (execOp a.eval oi).run P w = .ok (.value v) w) (hS : S w) (h : wpAnyH P md ops (Exit.then K (Calm Q)) S fuel (listed.setIfInBounds i true) ⟨a.tmps.setIfInBounds d v, a.defers⟩ w) : wpAnyH P md ops (Exit.then K (Calm Q)) S (fuel + 1) listed a w :=
  held_take i v hi hs hf hr hw hy hS (by rw [hd]; exact h)
theorem wpOp_put {i : Nat} {o : Oper} (d : Tmp) {v : Value} {K : Act → World → Prop} (hi : ops[i]? = some o) (hd : o.dst = some d) (hw : Region.wanted o (yielded ops a.tmps) = true) (hr : (execOp a.eval o).run P w = .ok (.value v) w') (h : K ⟨a.tmps.setIfInBounds d v, a.defers⟩ w') : wpOp P ops Q i K a w :=
  wpOp_val hi hw hr (by rw [hd]; exact h)
theorem held_one {fuel : Nat} {listed : Array Bool} (i : Nat) (hr : Region.ready md ops listed = [i]) (h : wpOp P ops Q i (fun a' w' => S w' ∧ wpAnyH P md ops Q S fuel (listed.setIfInBounds i true) a' w') a w) : wpAnyH P md ops Q S (fuel + 1) listed a w :=
  wpAnyH_all hr (by simp) (fun j hj => by rw [List.mem_singleton.1 hj]; exact h)
theorem held_two {fuel : Nat} {listed : Array Bool} (i j : Nat) (hr : Region.ready md ops listed = [i, j]) (h : wpOp P ops Q i (fun a' w' => S w' ∧ wpAnyH P md ops Q S fuel (listed.setIfInBounds i true) a' w') a w) (k : wpOp P ops Q j (fun a' w' => S w' ∧ wpAnyH P md ops Q S fuel (listed.setIfInBounds j true) a' w') a w) : wpAnyH P md ops Q S (fuel + 1) listed a w :=
  wpAnyH_all hr (by simp) (fun l hl => by
    simp only [List.mem_cons, List.not_mem_nil, or_false] at hl
    rcases hl with rfl | rfl
    · exact h
    · exact k)
theorem wpOp_call {i : Nat} {o : Oper} (d : Tmp) {f : FuncId} {args : Array Value} {K : Act → World → Prop} (hi : ops[i]? = some o) (hd : o.dst = some d) (hw : Region.wanted o (yielded ops a.tmps) = true) (hr : (execOp a.eval o).run P w = .ok (.enter f args) w) (h : Calls P f args w fun e w'' => ∃ v, e = .returned v ∧ K ⟨a.tmps.setIfInBounds d v, a.defers⟩ w'') : wpOp P ops Q i K a w := by
  unfold Go.wpOp
  simp only [hi]
  simp only [hw, if_true, Oper.wp, hr, Oper.upon]
  refine .inl (h.mono ?_)
  rintro e w'' ⟨v, rfl, hk⟩
  rw [hd]
  exact hk
end
end Go.Proofs.YtdjglghecekeoaaGreatDoor

/- Operations by themselves, for walks of regions that draw their order: texts, variables, leaves and trees that go on. -/
namespace Go.Proofs.YtdjglghecekeoaaGreatDoor.R
open Go.RowKit Go.Sort Go.Proofs.YtdjglghecekeoaaGreatDoor.U
set_option maxRecDepth 100000

section
variable {a : Act} {d : Option Tmp} {x y : Operand} {t' : TypeId} {pos : String} {after : Array Edge} {gd : Option (Nat × Bool)} {r : TypeId}
theorem run_lenS (s : List UInt8) (hx : a.eval x = .string (bytesOf s)) (w : World) :
    (execOp a.eval ⟨d, .call { callee := .builtin .len, args := #[x], argTypes := #[9] }, t', pos, after, gd⟩).run Tryz.prog w = .ok (.value (.int .i64 (s.length : Int))) w := by
  have hz : (bytesOf s).size = s.length := bytes_size s
  have hr : (Builtin.len_ #[9] t' #[.string (bytesOf s)]).run Tryz.prog w = .ok (.int .i64 (s.length : Int)) w := by simp [go_sem, hz]
  simp [execOp, resolve, invoke, builtin, hx, hr, Result.andThen]
theorem run_minI (n : Int) (m : Int) (hx : a.eval x = .int .i64 n) (w : World) :
    (execOp a.eval ⟨d, .call { callee := .builtin .min, args := #[x, .const (.int .i64 m)], argTypes := #[3, 3] }, t', pos, after, gd⟩).run Tryz.prog w = .ok (.value (.int .i64 (min n m))) w := by
  have h2 : a.eval (.const (.int .i64 m)) = .int .i64 m := rfl
  have hr : (Builtin.min_ #[3, 3] t' #[.int .i64 n, .int .i64 m]).run Tryz.prog w = .ok (.int .i64 (min n m)) w := by simp [go_sem]
  simp [execOp, resolve, invoke, builtin, hx, h2, hr, Result.andThen]
theorem run_cutS (s : List UInt8) (m : Nat) (hx : a.eval x = .string (bytesOf s)) (hy : a.eval y = .int .i64 (min (s.length : Int) (m : Int))) (w : World) :
    (execOp a.eval ⟨d, .slice 9 x none (some y) none, t', pos, after, gd⟩).run Tryz.prog w = .ok (.value (.string (bytesOf (s.take m)))) w := by
  have hc := cut_bytes s m m rfl
  have hz : (bytesOf s).size = s.length := bytes_size s
  have h1 : 0 ≤ min (s.length : Int) (m : Int) := by omega
  have h2 : min (s.length : Int) (m : Int) ≤ (s.length : Int) := by omega
  unfold execOp
  simp only [hx, hy, Option.map_some, Option.map_none]
  generalize min (s.length : Int) (m : Int) = q at *
  simp [Instr.sliceAt, run_underlying Tryz.underlying9, go_sem, hz, h1, h2]
  exact hc
theorem run_cat (s t : List UInt8) (hs : s.length + t.length ≤ 10000) (hx : a.eval x = .string (bytesOf s)) (hy : a.eval y = .string (bytesOf t)) (w : World) :
    (execOp a.eval ⟨d, .binOp .add 9 x y r, t', pos, after, gd⟩).run Tryz.prog w = .ok (.value (.string (bytesOf (s ++ t)))) w := by
  have hz1 : (bytesOf s).size = s.length := bytes_size s
  have hz2 : (bytesOf t).size = t.length := bytes_size t
  have h3 : ¬ (9223372036854775807 < s.length + t.length) := by omega
  unfold execOp
  simp only [hx, hy]
  simp [go_sem, hz1, hz2, h3]
  rw [← Lib.mk_data (bytesOf s ++ bytesOf t), list_append]
  rfl
end

/-! ### what is said -/
/-- a row of texts -/
abbrev sayStrs (M : List (List UInt8)) : Said := fun v w => Strs w v M
theorem sayStrs_mono (M : List (List UInt8)) : ∀ v w w', sayStrs M v w → Below w.heap.size w w' → sayStrs M v w' := fun _ _ _ h hb => h.below hb
end Go.Proofs.YtdjglghecekeoaaGreatDoor.R

/- Laws for the walk of the statement of trees that go on from none: slices that are cut, ints that are copied; leaves of texts; what goes on from the parts of the first leaves. -/
namespace Go.Proofs.YtdjglghecekeoaaGreatDoor.R
open Go.RowKit Go.Sort Go.Proofs.YtdjglghecekeoaaGreatDoor.U
set_option maxRecDepth 100000

section
variable {a : Act} {d : Option Tmp} {x y z : Operand} {t' : TypeId} {pos : String} {after : Array Edge} {gd : Option (Nat × Bool)} {r : TypeId}
end

/-- one operation whose run is known -/
theorem wpL_val {P : Program} {ops : Array Oper} {rest : List Oper} {a : Act} {w : World} {Q : Exit → Act → World → Prop} {o : Oper} {v : Value} (hg : o.guard = none) (hr : (execOp a.eval o).run P w = .ok (.value v) w) (h : wpList P ops Q rest (a.put o.dst v) w) : wpList P ops Q (o :: rest) a w := by
  refine wpList_plain hg fun K hK' => ?_
  have hK := hK' _ _ h
  unfold Oper.wp
  rw [hr]
  exact hK
/-! ### leaves of texts -/
/-! ### the parts of the first leaves -/
end Go.Proofs.YtdjglghecekeoaaGreatDoor.R

/- On which side each sum of a path stands, from the top down and by bits from the leaf up. Nothing of the program is named here. -/
namespace Go.Proofs.YtdjglghecekeoaaGreatDoor.Q
open Go.Proofs.YtdjglghecekeoaaGreatDoor.R

/-! ### by bits, the lowest first; s is the last place -/
def bitF : Nat → Nat → Nat → List Bool
  | 0, _, _ => []
  | f + 1, i, s => if s = 0 then [] else if i % 2 = 1 then true :: bitF f (i / 2) (s / 2) else if i < s then false :: bitF f (i / 2) (s / 2) else bitF f (i / 2) (s / 2)
def bits (i s : Nat) : List Bool := bitF s i s
section
variable {α : Type} (nd : α → α → α)
end
end Go.Proofs.YtdjglghecekeoaaGreatDoor.Q

/- Which parts stand beside the way up from a part with a place in it, from the lowest one up: of paths and of steps. Nothing of the program is named here. -/
namespace Go.Proofs.YtdjglghecekeoaaGreatDoor.Q
open Go.Proofs.YtdjglghecekeoaaGreatDoor.R

/-- on the left side?, from which leaf, to ahead of which -/
abbrev Part := Bool × Nat × Nat
/-- from so many leaves on -/
def shift (k : Nat) (p : Part) : Part := (p.1, p.2.1 + k, p.2.2 + k)
/-! ### roots of parts -/
section
variable {α : Type} (nd : α → α → α) (e : α)
end

/-! ### where steps begin -/
section
variable {α : Type} (nd : α → α → α) (e : α)
end

/-! ### the texts of what a path goes through -/
section
variable {α : Type} (nd : α → α → α)
end
end Go.Proofs.YtdjglghecekeoaaGreatDoor.Q

/- More operations of a region that draws its order, taken one by one: those that are not wanted, and those that have a law of lists. Nothing of the program is named here. -/
namespace Go.Proofs.YtdjglghecekeoaaGreatDoor
open Go.Sort Go.RowKit
section
variable {P : Program} {md : Region.Mode} {ops : Array Oper} {Q : Exit → Act → World → Prop} {S : World → Prop} {a : Act} {w : World}
/-- a guard that does not want it -/
theorem held_skip {K : Act → World → Prop} {Q : Exit → Act → World → Prop} {fuel : Nat} {listed : Array Bool} (i : Nat) (d : Tmp) {oi : Oper} (hi : ops[i]? = some oi) (hd : oi.dst = some d) (hs : Region.noSelect ops = true) (hf : Region.free md ops listed i = true) (hr : (Region.ready md ops listed).contains i = true)
    (hw : Region.wanted oi (yielded ops a.tmps) = false) (hS : S w) (h : wpAnyH P md ops (Exit.then K (Calm Q)) S fuel (listed.setIfInBounds i true) ⟨a.tmps.setIfInBounds d undef, a.defers⟩ w) : wpAnyH P md ops (Exit.then K (Calm Q)) S (fuel + 1) listed a w :=
  wpAnyH_take hi hs hf hr (fun c a w h => calm_panic c _ _ a w h) (.inr ⟨hw, rfl⟩) hS (by rw [hd]; exact h)
/-- an operation by a law of lists; its guard, if any, wants it -/
theorem wpOp_law {i : Nat} {o : Oper} {K : Act → World → Prop} (hi : ops[i]? = some o) (hw : Region.wanted o (yielded ops a.tmps) = true) (h : wpList P ops (Exit.then K Q) [⟨o.dst, o.op, o.type, o.pos, o.after, none⟩] a w) : wpOp P ops Q i K a w := by
  unfold Go.wpOp
  simp only [hi]
  simp only [hw, if_true]
  unfold wpList at h
  simp only [Region.wanted, if_true] at h
  rcases h with h | h
  · refine .inl ?_
    unfold Oper.wp at *
    have he : (execOp a.eval ⟨o.dst, o.op, o.type, o.pos, o.after, none⟩).run P w = (execOp a.eval o).run P w := rfl
    rw [he] at h
    generalize (execOp a.eval o).run P w = r at *
    cases r with
    | ok n w' =>
      cases n <;> simp only [Oper.upon] at h ⊢
      case value u => exact h
      case skip => exact h
      case defer d => exact h
      case enter f args =>
        refine Calls.mono h fun e w'' he => ?_
        cases e with
        | returned u => exact he
        | panicked c => exact he
        | outgrown => exact he
      case row row args => exact Rows.mono h fun u w'' he => he
    | halt x w' =>
      cases x <;> simp only [Oper.upon] at h ⊢
      case panic u => exact h
  · exact .inr h
end
end Go.Proofs.YtdjglghecekeoaaGreatDoor

/- The developers' package proof: parts as values and rows of them; small calls' contracts. -/
namespace Go.Proofs.YtdjglghecekeoaaGreatDoor.Q
open Go.RowKit Go.Sort Go.Proofs.YtdjglghecekeoaaGreatDoor.U Go.Proofs.YtdjglghecekeoaaGreatDoor.R
set_option maxRecDepth 100000

def partA (p : Part) : Array Value := #[.bool p.1, .int .i64 (p.2.1 : Int), .int .i64 (p.2.2 : Int)]
def partC (p : Part) : List Value := [.bool p.1, .int .i64 (p.2.1 : Int), .int .i64 (p.2.2 : Int)]
/-- a row of parts -/
def Prts (w : World) (v : Value) (ps : List Part) : Prop := ∃ a c, v = .slice a ps.length c ∧ ps.length ≤ c ∧ c ≤ maxLen ∧ (ps ≠ [] → ∃ b, a = some ⟨b, 0, none⟩ ∧ b < w.heap.size ∧ ∀ (k : Nat) p, ps[k]? = some p → w.rangeAt b (k * 3) (partC p))
theorem Prts.below {w w' : World} {v : Value} {ps : List Part} (h : Prts w v ps) (hb : Below w.heap.size w w') : Prts w' v ps := by
  obtain ⟨a, c, hv, h1, h2, h3⟩ := h
  refine ⟨a, c, hv, h1, h2, fun hne => ?_⟩
  obtain ⟨b, ha, hlt, hc⟩ := h3 hne
  have hsz := hb.size
  exact ⟨b, ha, by omega, fun k p hk j u hj => (hb.cell (p := ⟨b, k * 3 + j, none⟩) hlt).trans (hc k p hk j u hj)⟩

/-- whatever comes behind: no panic, the normal way -/
theorem wp_held_any {P : Program} {ops : Array Oper} {S : World → Prop} {a : Act} {w : World} {id : Nat} {Q : Exit → Act → World → Prop} (n : Nat) (hn : ops.size = n) (hm : P.follows .mixedOrders = true)
    (h : wpAnyH P .any ops (Exit.then (fun a w => Q .normal a w) (Calm fun _ _ _ => False)) S n (Array.replicate n false) a { w with drawn := w.drawn + 1 }) : (Code.region id ops true).wp P Q a w := by
  subst hn
  refine Code.wp_mono (Q := Exit.then (fun a w => Q .normal a w) (Calm fun _ _ _ => False)) (fun e a w h => ?_) (wp_region_held hm h)
  cases e <;> first | exact h | exact (h : False).elim

/-! ### operations -/
section
variable {a : Act} {d : Option Tmp} {x y : Operand} {t' : TypeId} {pos : String} {after : Array Edge} {gd : Option (Nat × Bool)} {r : TypeId}
theorem run_idxS (b off n c k : Nat) (hk : k < n) (hx : a.eval x = .slice (some ⟨b, off, none⟩) n c) (hy : a.eval y = .int .i64 (k : Int)) (w : World) :
    (execOp a.eval ⟨d, .indexAddr 43 x y, t', pos, after, gd⟩).run Tryz.prog w = .ok (.value (.pointer (some ⟨b, off + k, none⟩))) w := by
  unfold execOp
  simp only [hx, hy]
  simp [Instr.indexAt, run_underlying Tryz.underlying43, go_sem]
  omega
theorem run_ldT (p : Addr) (v : Value) (w : World) (hc : w.cell? p = some v) (hx : a.eval x = .pointer (some p)) :
    (execOp a.eval ⟨d, .load 9 x, t', pos, after, gd⟩).run Tryz.prog w = .ok (.value v) w := by
  unfold execOp
  simp only [hx]
  simp [Instr.loadAt, go_sem, hc]
end
end Go.Proofs.YtdjglghecekeoaaGreatDoor.Q

/- Heads as values; operations on them by themselves; the contracts of which heads may be. -/
namespace Go.Proofs.YtdjglghecekeoaaGreatDoor.J
open Go.RowKit Go.Sort Go.Proofs.YtdjglghecekeoaaGreatDoor.U Go.Proofs.YtdjglghecekeoaaGreatDoor.R Go.Proofs.YtdjglghecekeoaaGreatDoor.Q
set_option maxRecDepth 100000

/-- the cells of a head -/
def headA (s : Int) (r : List UInt8) (t : Int) (g : List UInt8) : Array Value := #[.int .i64 s, .string (bytesOf r), .int .i64 t, .string (bytesOf g)]
abbrev head0 : Array Value := headA 0 [] 0 []
theorem headA_one (s : Int) (r : List UInt8) (t : Int) (g : List UInt8) : Ones (headA s r t g) := by unfold Ones headA; simp [Value.oneCell']
theorem rowHead : RowT Tryz.prog 23 4 := ⟨⟨_, Tryz.underlying23, rfl⟩, by kernel_rfl⟩
theorem bytes_int (x : List UInt8) : ((bytesOf x).size : Int) = (x.length : Int) := by rw [bytes_size]
section
variable {w : World} {b n : Nat} {s t : Int} {r g : List UInt8} (h : Lies w b n (headA s r t g))
include h
theorem hd_s : w.cell? ⟨b, 0, none⟩ = some (.int .i64 s) := h.cell 0
theorem hd_r : w.cell? ⟨b, 1, none⟩ = some (.string (bytesOf r)) := h.cell 1
theorem hd_t : w.cell? ⟨b, 2, none⟩ = some (.int .i64 t) := h.cell 2
theorem hd_g : w.cell? ⟨b, 3, none⟩ = some (.string (bytesOf g)) := h.cell 3
end

/-- a new variable, and what is stored into it -/
theorem newH (w : World) (o : Obj) (cs : Array Value) : Below w.heap.size w ((w.alloc o).setRow w.heap.size cs) := below_rowSet ((Below.refl _ w).alloc (Nat.le_refl _) o) (Nat.le_refl _) cs
theorem newH_lies (w : World) (t : TypeId) (cs cs' : Array Value) : Lies ((w.alloc (.cells cs t)).setRow w.heap.size cs') w.heap.size t cs' := (Lies.new w t cs).row _

/-- a variable that is a whole block is read, under a guard that wants it -/
theorem wpL_load_gH {P : Program} {ops : Array Oper} {rest : List Oper} {a : Act} {w : World} {Q : Exit → Act → World → Prop} {t' : TypeId} {pos : String} {after : Array Edge} {gd : Option (Nat × Bool)} {d : Option Tmp} {x : Tmp} {ty : TypeId} (g : Nat) (t : TypeId) (cs : Array Value) (n : Nat) (hT : RowT P ty n) (hn : cs.size = n) (hg : Lies w g t cs)
    (hw : Region.wanted ⟨d, .load ty (.tmp x), t', pos, after, gd⟩ (yielded ops a.tmps) = true) (hx : a.eval (.tmp x) = .pointer (some ⟨g, 0, none⟩)) (h : wpList P ops Q rest (a.put d (.agg cs)) w) : wpList P ops Q (⟨d, .load ty (.tmp x), t', pos, after, gd⟩ :: rest) a w := by
  obtain ⟨⟨ds, hu, hd⟩, hi⟩ := hT
  unfold wpList
  rw [if_pos hw]
  exact .inl (wp_load_row ty (.tmp x) rfl g hx t cs (0, 0) ds hg hu (by cases ds <;> first | rfl | simp [TypeDesc.isRow] at hd) (by rw [hi, hn]) h)

/-! ### operations -/
section
variable {a : Act} {d : Option Tmp} {x y : Operand} {t' : TypeId} {pos : String} {after : Array Edge} {gd : Option (Nat × Bool)} {r : TypeId}
theorem run_fld0 (g : Nat) (hx : a.eval x = .pointer (some ⟨g, 0, none⟩)) (w : World) :
    (execOp a.eval ⟨d, .fieldAddr 23 x 0, t', pos, after, gd⟩).run Tryz.prog w = .ok (.value (.pointer (some ⟨g, 0, none⟩))) w := by
  unfold execOp
  simp only [hx]
  exact rfl
theorem run_fld1 (g : Nat) (hx : a.eval x = .pointer (some ⟨g, 0, none⟩)) (w : World) :
    (execOp a.eval ⟨d, .fieldAddr 23 x 1, t', pos, after, gd⟩).run Tryz.prog w = .ok (.value (.pointer (some ⟨g, 1, none⟩))) w := by
  unfold execOp
  simp only [hx]
  exact rfl
theorem run_fld2 (g : Nat) (hx : a.eval x = .pointer (some ⟨g, 0, none⟩)) (w : World) :
    (execOp a.eval ⟨d, .fieldAddr 23 x 2, t', pos, after, gd⟩).run Tryz.prog w = .ok (.value (.pointer (some ⟨g, 2, none⟩))) w := by
  unfold execOp
  simp only [hx]
  exact rfl
theorem run_fld3 (g : Nat) (hx : a.eval x = .pointer (some ⟨g, 0, none⟩)) (w : World) :
    (execOp a.eval ⟨d, .fieldAddr 23 x 3, t', pos, after, gd⟩).run Tryz.prog w = .ok (.value (.pointer (some ⟨g, 3, none⟩))) w := by
  unfold execOp
  simp only [hx]
  exact rfl
theorem run_ldI (p : Addr) (v : Value) (w : World) (hc : w.cell? p = some v) (hx : a.eval x = .pointer (some p)) :
    (execOp a.eval ⟨d, .load 3 x, t', pos, after, gd⟩).run Tryz.prog w = .ok (.value v) w := by
  unfold execOp
  simp only [hx]
  simp [Instr.loadAt, go_sem, hc]
theorem run_ldH {w : World} (b n : Nat) (s t : Int) (r g : List UInt8) (hg : Lies w b n (headA s r t g)) (hx : a.eval x = .pointer (some ⟨b, 0, none⟩)) :
    (execOp a.eval ⟨d, .load 23 x, t', pos, after, gd⟩).run Tryz.prog w = .ok (.value (.agg (headA s r t g))) w := by
  unfold execOp
  simp only [hx, Instr.loadAt, Instr.sureAddr, Sem.run_bind, Sem.run_pure, Result.andThen_ok, run_loadVar_row w b n 23 (headA s r t g) (0, 0) _ hg Tryz.underlying23 rfl rowHead.2]
end

/-! ### which may be -/
set_option maxHeartbeats 1600000 in
theorem mayH_any (s : Int) (r : List UInt8) (t : Int) (g : List UInt8) (w : World) :
    Calls Tryz.prog 32 #[.agg (headA s r t g)] w fun e w' => e = .returned (.bool (mayH s r t)) ∧ Below w.heap.size w w' := by
  have hz := bytes_int r
  have hb := (Below.refl w.heap.size w).alloc (Nat.le_refl _) (.cells (headA s r t g) 23)
  obtain ⟨E, hE⟩ : ∃ E, mayH s r t = E := ⟨_, rfl⟩
  have HN := Lib.hid (fun h => hE.symm.trans (mayH_no (s := s) (r := r) (t := t) h))
  have HY := Lib.hid (fun h1 h2 h3 h4 h5 => hE.symm.trans (mayH_yes (s := s) (r := r) (t := t) h1 h2 h3 h4 h5))
  rw [hE]
  clear hE
  unfold headA at hb ⊢
  by_cases c1 : 0 ≤ s
  case neg =>
    obtain rfl := HN.out (fun h => c1 h.1)
    clear HN HY
    go_enter Tryz.func32, Tryz.ntmps32
    go_wp2
    go_ret
    exact ⟨rfl, hb⟩
  by_cases c2 : s ≤ 4096
  case neg =>
    obtain rfl := HN.out (fun h => c2 h.2.1)
    clear HN HY
    go_enter Tryz.func32, Tryz.ntmps32
    go_wp2
    go_ret
    exact ⟨rfl, hb⟩
  by_cases c3 : 0 ≤ t
  case neg =>
    obtain rfl := HN.out (fun h => c3 h.2.2.1)
    clear HN HY
    go_enter Tryz.func32, Tryz.ntmps32
    go_wp2
    go_ret
    exact ⟨rfl, hb⟩
  by_cases c4 : t ≤ 1099511627776
  case neg =>
    obtain rfl := HN.out (fun h => c4 h.2.2.2.1)
    clear HN HY
    go_enter Tryz.func32, Tryz.ntmps32
    go_wp2
    go_ret
    exact ⟨rfl, hb⟩
  by_cases c5 : r.length = 32
  case neg =>
    obtain rfl := HN.out (fun h => c5 h.2.2.2.2)
    have c6 : ((r.length : Int) == 32) = false := by simp; omega
    clear HN HY c5
    go_enter Tryz.func32, Tryz.ntmps32
    go_wp2
    go_ret
    exact ⟨rfl, hb⟩
  obtain rfl := HY.out c1 c2 c3 c4 c5
  have c6 : ((r.length : Int) == 32) = true := by simp; omega
  clear HN HY c5
  go_enter Tryz.func32, Tryz.ntmps32
  go_wp2
  go_ret
  exact ⟨rfl, hb⟩
end Go.Proofs.YtdjglghecekeoaaGreatDoor.J

/- The library's own contracts laid at this program: one application each. -/
namespace Go.Proofs
open Go.Shelf
def Tryz.lays169_ren : Go.Shelf.Ren := ⟨fun | 169 => 120 | n => n, fun | 70 => 159 | 9 => 9 | 0 => 0 | 72 => 161 | 37 => 37 | 127 => 190 | 3 => 3 | 5 => 5 | n => n, fun | n => n⟩
theorem Tryz.lays169 : Go.Proofs.Lays.n169 Tryz.prog Tryz.lays169_ren := {
  mixed := by kernel_rfl
  f169 := Tryz.func120.trans (congrArg some (by kernel_rfl))
  t0 := Tryz.underlying0
  a0 := Tryz.isAgg0
  z0 := Tryz.sizeOf0
  v0 := Tryz.zeroValue0
  t3 := Tryz.underlying3
  a3 := Tryz.isAgg3
  z3 := Tryz.sizeOf3
  v3 := Tryz.zeroValue3
  t9 := Tryz.underlying9
  a9 := Tryz.isAgg9
  z9 := Tryz.sizeOf9
  v9 := Tryz.zeroValue9
  t37 := Tryz.underlying37
  a37 := Tryz.isAgg37
  z37 := Tryz.sizeOf37
  v37 := Tryz.zeroValue37
  t70 := Tryz.underlying159
  a70 := Tryz.isAgg159
  z70 := Tryz.sizeOf159
  v70 := Tryz.zeroValue159
  t72 := Tryz.underlying161
  a72 := Tryz.isAgg161
  z72 := Tryz.sizeOf161
  v72 := Tryz.zeroValue161
  t127 := Tryz.underlying190
  a127 := Tryz.isAgg190
  z127 := Tryz.sizeOf190
  v127 := Tryz.zeroValue190 }
theorem Tryz.Builder_Extra_169 : Builder.Extra Tryz.prog Tryz.lays169_ren := {
  sizeBuilder := by kernel_rfl
  liesBuilder := by kernel_rfl
  t5 := Tryz.underlying5
  a5 := Tryz.isAgg5
  z5 := Tryz.sizeOf5
  v5 := Tryz.zeroValue5
  infoByte := by kernel_rfl
  cellsByte := by kernel_rfl
  sizeByte := by kernel_rfl
  neB5 := by decide }
open Go.RowKit in
theorem Tryz.Builder_String_any (B b : Nat) (l : List UInt8) (w : World) (h : Lib.IsBuilder 161 5 B b (Lib.byteCells l) w) (hBw : B ≤ w.heap.size) :
    Calls Tryz.prog 120 #[.pointer (some ⟨b, 0, none⟩)] w fun e w' => e = .returned (.string ⟨l.toArray⟩) ∧ Below B w w' := Any.Builder_String_any Tryz.lays169 Tryz.Builder_Extra_169 B b l w h hBw
def Tryz.lays264_ren : Go.Shelf.Ren := ⟨fun | 264 => 128 | n => n, fun | 53 => 54 | 46 => 84 | n => n, fun | n => n⟩
theorem Tryz.lays264 : Go.Proofs.Lays.n264 Tryz.prog Tryz.lays264_ren := {
  mixed := by kernel_rfl
  f264 := Tryz.func128.trans (congrArg some (by kernel_rfl))
  t46 := Tryz.underlying84
  a46 := Tryz.isAgg84
  z46 := Tryz.sizeOf84
  v46 := Tryz.zeroValue84
  t53 := Tryz.underlying54
  a53 := Tryz.isAgg54
  z53 := Tryz.sizeOf54
  v53 := Tryz.zeroValue54 }
open Go.RowKit Go.Lib in
theorem Tryz.bits_Mul64 (x y : Nat) (hx : x < 18446744073709551616) (hy : y < 18446744073709551616) (w : World) :
    Calls Tryz.prog 128 #[.int .u64 x, .int .u64 y] w fun e w' => e = .returned (.tuple #[.int .u64 ((x * y / 18446744073709551616 : Nat) : Int), .int .u64 ((x * y % 18446744073709551616 : Nat) : Int)]) ∧ w' = w := Any.bits_Mul64 Tryz.lays264 x y hx hy w
end Go.Proofs

/- The contracts of the text builder's calls that this program makes: what each writes, at a builder of the call's own. -/
namespace Go.Proofs.YtdjglghecekeoaaGreatDoor
open Go.RowKit

/-! ### 'copyCheck': the builder's first cell holds its own address -/
abbrev home (b : Nat) : Value := .pointer (some ⟨b, 0, none⟩)
theorem sizeB : (Tryz.prog.info? 161).map (·.size) = some 2 := by kernel_rfl
theorem liesB : liesAt Tryz.prog Tryz.prog.depth 161 (2 / Tryz.prog.cellsOf 161) 0 161 1 = true := by kernel_rfl
theorem escape (x : Value) (w : World) : (callFunc 160 #[x]).run Tryz.prog w = .ok (.value x) w := by
  rw [run_callFunc_extern Tryz.func160 (by kernel_rfl) (by kernel_rfl) (by kernel_rfl) (e := Extern.AbiNoEscape.same) (by kernel_rfl), Lib.run_noEscape]
  rfl

set_option maxHeartbeats 1000000 in
theorem check_again (b : Nat) (w : World) (held : w.cell? ⟨b, 0, none⟩ = some (home b)) : Calls Tryz.prog 147 #[home b] w fun e w' => e = .returned (.tuple #[]) ∧ w = w' := by
  obtain ⟨j, hj, _⟩ := Option.map_eq_some_iff.1 sizeB
  have own_eq := Lib.run_neq_ptr_same (P := Tryz.prog) w ⟨b, 0, none⟩ Tryz.underlying159 hj
  go_enter Tryz.func147, Tryz.ntmps147
  go_wp2
  go_end0
  exact ⟨rfl, rfl⟩

set_option maxHeartbeats 1000000 in
theorem check_first (b : Nat) (w : World) (held : w.cell? ⟨b, 0, none⟩ = some (.pointer none)) (hsh : w.shape? b = some (161, 2)) (hfz : w.frozen? ⟨b, 0, none⟩ = false) :
    Calls Tryz.prog 147 #[home b] w fun e w' => e = .returned (.tuple #[]) ∧ w.setCell ⟨b, 0, none⟩ (home b) = w' := by
  obtain ⟨j, hj, hjs⟩ := Option.map_eq_some_iff.1 sizeB
  have there := Lib.run_to_unsafe (P := Tryz.prog) w ⟨b, 0, none⟩ Tryz.underlying159 Tryz.underlying200 hj (by omega) hsh (by show 0 < 2; omega)
  have across := escape (home b) w
  have back := Lib.run_from_unsafe (P := Tryz.prog) w ⟨b, 0, none⟩ Tryz.underlying200 Tryz.underlying159 hj hsh liesB
  clear hjs
  go_enter Tryz.func147, Tryz.ntmps147
  go_wp2
  go_end0
  exact ⟨rfl, rfl⟩

/-- whichever way: behind it the builder is in use -/
theorem check_any (B b : Nat) (bs : List Value) (w : World) (h : Lib.IsBuilder 161 5 B b bs w) :
    Calls Tryz.prog 147 #[home b] w fun e w' => e = .returned (.tuple #[]) ∧ Lib.BuilderAt 161 5 B b (home b) bs w' ∧ Below B w w' := by
  cases h with
  | inl new => exact (check_first b w new.cell0 new.shape new.frozen0).mono fun e w' ⟨he, hw⟩ => ⟨he, hw ▸ new.used (home b), hw ▸ (Below.refl B w).setCell (p := ⟨b, 0, none⟩) new.1 _⟩
  | inr old => exact (check_again b w old.cell0).mono fun e w' ⟨he, hw⟩ => ⟨he, hw ▸ old, hw ▸ Below.refl B w⟩

/-! ### 'WriteString' -/
/-- what stands in the builder's block behind an append to its buffer, and what a store of the new buffer makes of it -/
theorem grown_in {B b n : Nat} {v v' : Value} {ys : List Value} {w1 w2 : World} (hB : B ≤ b) (hbk : w1.heap[b]? = some (.cells #[home b, v] 161 (0, 0))) (hne : v.ownBlock ≠ some b)
    (hgrow : w1.grownBy w2 v.ownBlock) (hown : w2.ownsRow B 5 1 v' n ys) :
    w2.cell? ⟨b, 0, none⟩ = some (home b) ∧ w2.cell? ⟨b, 1, none⟩ = some v ∧ w2.frozen? ⟨b, 1, none⟩ = false ∧ Lib.BuilderAt 161 5 B b (home b) ys (w2.setCell ⟨b, 1, none⟩ v') := by
  have hlt : b < w1.heap.size := (Array.getElem?_eq_some_iff.1 hbk).1
  have hk : w2.heap[b]? = some (.cells #[home b, v] 161 (0, 0)) := (hgrow.block b hlt (Ne.symm hne)).trans hbk
  have hn : ys.length = n := by simpa using hown.1
  subst hn
  exact ⟨Lib.cell_of_heap hk 0, Lib.cell_of_heap hk 1, Lib.frozen_of_heap hk 1, Lib.BuilderAt.put hB hk hown (by decide)⟩

set_option maxHeartbeats 2000000 in
set_option maxRecDepth 100000 in
theorem write_any (B b : Nat) (bs : List Value) (s : ByteArray) (w : World) (h : Lib.IsBuilder 161 5 B b bs w) (hlen : bs.length + s.size ≤ 2000000) (hBw : B ≤ w.heap.size) :
    Calls Tryz.prog 119 #[home b, .string s] w fun e w' => e = .returned (.tuple #[.int .i64 s.size, .nilIface]) ∧ Lib.BuilderAt 161 5 B b (home b) (bs ++ Lib.strCells s) w' ∧ Below B w w' := by
  obtain ⟨i0, hi, hz0, hz1, hz2⟩ := info_parts info5
  go_enter Tryz.func119, Tryz.ntmps119
  go_wp2_with (go_at_call 147; refine (check_any B b bs _ h).mono ?_)
  rintro e w1 ⟨rfl, ⟨hB, v, hbk, hown, hne⟩, hb1⟩
  have held := Lib.cell_of_heap hbk 0
  have kept := Lib.cell_of_heap hbk 1
  have room := hb1.size
  go_wp2_with (at_builtin; refine Lib.wpList_append_own_string _ rfl _ _ 37 9 rfl B 5 i0 Tryz.underlying37 Tryz.underlying9 hi hz0 hz1 hz2 _ _ _ rfl hown s rfl ?many ?bytes ?base ?_)
  case many => unfold maxLen; omega
  case bytes => omega
  case base => omega
  intro v' w2 hown' hgrow _
  obtain ⟨g0, g1, gf, made⟩ := grown_in hB hbk hne hgrow hown'
  have hb2 := (hb1.grown hgrow (by omega) (fun k hk => (hown.lt k hk).1)).setCell (p := ⟨b, 1, none⟩) hB v'
  have form : ∃ ao n' cap, v' = .slice ao n' cap := by
    rcases hown'.2 with ⟨hv, _⟩ | ⟨g, cap, cur, hv, _⟩ <;> exact ⟨_, _, _, hv⟩
  clear held kept hown hbk hown' hgrow
  obtain ⟨ao, n', cap, rfl⟩ := form
  go_wp2
  go_ret2
  exact ⟨rfl, made, hb2⟩
end Go.Proofs.YtdjglghecekeoaaGreatDoor

/- The contracts of the calls that turn numbers into bytes and back: octet's Number; what is left of a number behind divisions. -/
namespace Go.Proofs.YtdjglghecekeoaaGreatDoor
open Go.RowKit
set_option maxRecDepth 100000

set_option maxHeartbeats 400000 in
theorem num_any (s : ByteArray) (w : World) (hs : s.size ≤ 8) :
    Calls Tryz.prog 29 #[.string s] w fun e w' => e = .returned (.tuple #[.int .u64 (numL s.data.toList), .int .i64 0]) ∧ w = w' := by
  go_enter Tryz.func29, Tryz.ntmps29
  go_wp2
  go_loop [4, 11] (fun n i => ∃ k : Nat, k ≤ s.size ∧ i = .int .i64 k ∧ n = .int .u64 (numL (s.data.toList.take k))) (fun _ i => s.size - (intOf i).toNat)
  case atStart => exact ⟨0, Nat.zero_le _, rfl, rfl⟩
  case round =>
    obtain ⟨k, hk, rfl, rfl⟩ := hrel
    by_cases hlt : k < s.size
    · have hb : numL (s.data.toList.take k) < 256 ^ 7 := by
        have h1 := numL_lt (s.data.toList.take k)
        rw [List.length_take] at h1
        have h2 : min k s.data.toList.length ≤ 7 := by omega
        have h3 : 256 ^ min k s.data.toList.length ≤ 256 ^ 7 := Nat.pow_le_pow_right (by decide) h2
        omega
      have HS := Lib.hid ((numL_step _ s[k] hb).trans (by rw [← numL_snoc, ← take_snoc s k hlt]))
      clear hb
      go_wp2
      go_round
      case rel => exact ⟨k + 1, by omega, by go_num, val_int HS.out⟩
      case measure => simp [intOf]; omega
    · have HS := Lib.hid (show numL (s.data.toList.take k) = numL s.data.toList by rw [List.take_of_length_le (by simp; omega)])
      go_wp2
      go_ret2
      exact ⟨ret2_of (val_int (by rw [HS.out])) rfl, rfl⟩

set_option maxHeartbeats 400000 in
theorem num_long (s : ByteArray) (w : World) (hs : 8 < s.size) :
    Calls Tryz.prog 29 #[.string s] w fun e w' => e = .returned (.tuple #[.int .u64 0, .int .i64 1]) ∧ w = w' := by
  go_enter Tryz.func29, Tryz.ntmps29
  go_wp2
  go_ret2
  exact ⟨rfl, rfl⟩

/-- what is left of a number behind k divisions by 256 -/
def left (n k : Nat) : Nat := n / 256 ^ k
theorem left_zero (n : Nat) : left n 0 = n := by simp [left]
theorem left_succ (n k : Nat) : left n (k + 1) = left n k / 256 := by simp [left, Nat.pow_succ, Nat.div_div_eq_div_mul]
theorem left_le (n k : Nat) : left n k ≤ n := Nat.div_le_self _ _
theorem bigL_left (n k : Nat) : bigL n (k + 1) = (left n k % 256).toUInt8 :: bigL n k := bigL_head n k

theorem cat_two (a b : Array UInt8) : ({ data := a } : ByteArray) ++ { data := b } = { data := a ++ b } := by
  apply ByteArray.ext
  simp
end Go.Proofs.YtdjglghecekeoaaGreatDoor

/- The contract of the call that parts the first part of a text from what stands behind it. -/
namespace Go.Proofs.YtdjglghecekeoaaGreatDoor
open Go.RowKit
set_option maxRecDepth 100000

theorem val_string {a b : ByteArray} (h : a = b) : Value.string a = Value.string b := by rw [h]
theorem ret3_of {a b c d x y : Value} (h : a = b) (k : c = d) (m : x = y) : Ending.returned (.tuple #[a, c, x]) = .returned (.tuple #[b, d, y]) := by rw [h, k, m]
theorem ext_end (s : ByteArray) (a : Nat) : (s.extract a s.size).data.toList = s.data.toList.drop a := by
  rw [Lib.extract_data, List.take_of_length_le (by simp)]
theorem num_take (s : ByteArray) (W : World) (h : 4 ≤ s.size) :
    Calls Tryz.prog 29 #[.string (s.extract 0 4)] W fun e W' => e = .returned (.tuple #[.int .u64 (numL (s.data.toList.take 4)), .int .i64 0]) ∧ W = W' := by
  have h1 := num_any (s.extract 0 4) W (by simp [ByteArray.size_extract]; omega)
  rw [Lib.extract_data] at h1
  exact h1

set_option maxHeartbeats 800000 in
theorem first_short (s : ByteArray) (W : World) (h : s.size < 4) :
    Calls Tryz.prog 52 #[.string s] W fun e W' => e = .returned (.tuple #[.string ByteArray.empty, .string ByteArray.empty, .int .i64 3]) ∧ Below W.heap.size W W' := by
  go_enter Tryz.func52, Tryz.ntmps52
  go_wp2
  go_ret3
  exact ⟨rfl, Below.refl _ _⟩

theorem len_lt (l : List UInt8) (h : l.length ≤ 4) : numL l < 2 ^ 32 :=
  Nat.lt_of_lt_of_le (numL_lt l) (Nat.le_trans (Nat.pow_le_pow_right (n := 256) (by decide) h) (by decide))

set_option maxHeartbeats 800000 in
theorem first_far (s : ByteArray) (W : World) (h : 4 ≤ s.size) (hs : s.size ≤ 65536) (hc : s.size - 4 < numL (s.data.toList.take 4)) :
    Calls Tryz.prog 52 #[.string s] W fun e W' => e = .returned (.tuple #[.string ByteArray.empty, .string ByteArray.empty, .int .i64 3]) ∧ Below W.heap.size W W' := by
  have hnum := Lib.hid (fun W => num_take s W h)
  have hk32 := len_lt (s.data.toList.take 4) (by simp; omega)
  generalize numL (s.data.toList.take 4) = k at hc hnum hk32
  go_enter Tryz.func52, Tryz.ntmps52
  go_wp2_with (go_at_call 29; refine (hnum.out _).mono ?_; rintro e w1 ⟨rfl, rfl⟩)
  go_ret3
  exact ⟨rfl, Below.refl _ _⟩

set_option maxHeartbeats 800000 in
theorem first_ok (s : ByteArray) (W : World) (h : 4 ≤ s.size) (hs : s.size ≤ 65536) (k : Nat) (hk : numL (s.data.toList.take 4) = k) (hc : k ≤ s.size - 4) :
    Calls Tryz.prog 52 #[.string s] W fun e W' => e = .returned (.tuple #[.string ⟨((s.data.toList.drop 4).take k).toArray⟩, .string ⟨(s.data.toList.drop (4 + k)).toArray⟩, .int .i64 0]) ∧ Below W.heap.size W W' := by
  have hnum := Lib.hid (show ∀ W, Calls Tryz.prog 29 #[.string (s.extract 0 4)] W fun e W' => e = .returned (.tuple #[.int .u64 k, .int .i64 0]) ∧ W = W' by intro W; rw [← hk]; exact num_take s W h)
  clear hk
  have hc' : ¬ s.size - 4 < k := by omega
  go_enter Tryz.func52, Tryz.ntmps52
  go_wp2_with (go_at_call 29; refine (hnum.out _).mono ?_; rintro e w1 ⟨rfl, rfl⟩)
  go_quiet (fail)
  go_wp2
  go_ret3
  refine ⟨ret3_of ?_ ?_ rfl, below_drewN (Below.refl _ _) _⟩
  · exact val_string (by rw [Lib.extract_eq, ext_end]; simp)
  · exact val_string (by rw [Lib.extract_eq, ext_end, List.drop_drop, List.take_of_length_le (by simp; omega)])
end Go.Proofs.YtdjglghecekeoaaGreatDoor

/- The contract of octet's Unpack: the parts of a text, or its error. -/
namespace Go.Proofs.YtdjglghecekeoaaGreatDoor
open Go.RowKit

def strLen : Value → Nat | .string b => b.size | _ => 0
theorem info9 : (Tryz.prog.info? 9).map (fun i => (i.zero, i.size, i.bytes)) = some (some (.string ByteArray.empty), 1, 16) := by kernel_rfl

theorem unpack_long (s : ByteArray) (W : World) (hs : 65536 < s.size) :
    Calls Tryz.prog 28 #[.string s] W fun e W' => e = .returned (.tuple #[.slice none 0 0, .int .i64 2]) ∧ Below W.heap.size W W' := by
  go_enter Tryz.func28, Tryz.ntmps28
  go_wp2
  go_ret2
  exact ⟨rfl, Below.refl _ _⟩

theorem own_form {w : World} {B : Nat} {e : TypeId} {v : Value} {n : Nat} {xs : List Value} (h : w.ownsRow B e 1 v n xs) : ∃ ao cap, v = .slice ao n cap := by
  rcases h.2 with ⟨rfl, rfl⟩ | ⟨g, cap, cur, rfl, _⟩
  · exact ⟨none, 0, rfl⟩
  · exact ⟨_, cap, rfl⟩
theorem own_below {wr w1 : World} {B : Nat} {e : TypeId} {v : Value} {n : Nat} {xs : List Value} (h : wr.ownsRow B e 1 v n xs) (hb : Below wr.heap.size wr w1) : w1.ownsRow B e 1 v n xs := by
  obtain ⟨hl, h⟩ := h
  refine ⟨hl, ?_⟩
  rcases h with h | ⟨g, cap, cur, hv, hg, hh, hr⟩
  · exact Or.inl h
  · have hlt : g < wr.heap.size := by
      rcases Nat.lt_or_ge g wr.heap.size with h' | h'
      · exact h'
      · rw [Array.getElem?_eq_none h'] at hh; cases hh
    exact Or.inr ⟨g, cap, cur, hv, hg, (hb.block g hlt).trans hh, hr⟩
theorem first_no (r : List UInt8) (W : World) (hr : r.length ≤ 65536) (h4 : r.length < 4 ∨ r.length - 4 < numL (r.take 4)) :
    Calls Tryz.prog 52 #[.string ⟨r.toArray⟩] W fun e W' => e = .returned (.tuple #[.string ByteArray.empty, .string ByteArray.empty, .int .i64 3]) ∧ Below W.heap.size W W' := by
  by_cases h : r.length < 4
  · exact first_short ⟨r.toArray⟩ W (by rw [str_size]; exact h)
  · exact first_far ⟨r.toArray⟩ W (by rw [str_size]; omega) (by rw [str_size]; exact hr) (by rw [str_size]; exact h4.resolve_left h)
theorem first_yes (r : List UInt8) (W : World) (hr : r.length ≤ 65536) (h4 : 4 ≤ r.length) (k : Nat) (hk : numL (r.take 4) = k) (hc : k ≤ r.length - 4) :
    Calls Tryz.prog 52 #[.string ⟨r.toArray⟩] W fun e W' => e = .returned (.tuple #[.string ⟨((r.drop 4).take k).toArray⟩, .string ⟨(r.drop (4 + k)).toArray⟩, .int .i64 0]) ∧ Below W.heap.size W W' :=
  first_ok ⟨r.toArray⟩ W (by rw [str_size]; exact h4) (by rw [str_size]; exact hr) k hk (by rw [str_size]; exact hc)

set_option maxRecDepth 100000 in
set_option maxHeartbeats 1600000 in
theorem unpack_in (s : ByteArray) (W : World) (hs : s.size ≤ 65536) :
    Calls Tryz.prog 28 #[.string s] W fun e W' => ∃ v, e = .returned (.tuple #[v, .int .i64 (tell 0 s.data.toList).1]) ∧ Strs W' v (tell 0 s.data.toList).2 ∧ Below W.heap.size W W' := by
  obtain ⟨i0, hi, hz0, hz1, hz2⟩ := info_parts info9
  go_enter Tryz.func28, Tryz.ntmps28
  go_wp2_with fail
  go_loopw [4, 5] (fun p v wr => ∃ (acc : List (List UInt8)) (r : List UInt8), v = .string ⟨r.toArray⟩ ∧ r.length ≤ 65536 ∧ acc.length ≤ 64 ∧ wr.ownsRow W.heap.size 9 1 p acc.length (acc.map str) ∧ Goes s.data.toList acc r ∧ Below W.heap.size W wr) (fun _ v _ => strLen v)
  case atStart => exact ⟨[], s.data.toList, by rw [Lib.mk_data], by rw [← Lib.size_eq]; exact hs, Nat.zero_le _, World.ownsRow_nil _ _ _ _, goes_start _, Below.refl _ _⟩
  case round =>
    obtain ⟨acc, r, rfl, hr, ha, ho, hg, hb⟩ := hrel
    obtain ⟨ao, cap, rfl⟩ := own_form ho
    by_cases h0 : r = []
    · subst h0
      have HT := Lib.hid (goes_end hg)
      clear hg
      go_wp2_with fail
      go_ret2
      exact ⟨_, ret2_of rfl (val_int (by rw [HT.out])), by rw [HT.out]; exact Strs.owned ho, hb⟩
    · have hne : r.isEmpty = false := by simpa using h0
      by_cases hn : acc.length = 64
      · have hq : ((acc.length : Int) == 64) = true := by simp; omega
        have HT := Lib.hid (goes_err hg (by rw [hn]; exact tell_many r h0) (by decide))
        clear hg h0 hn
        go_wp2_with fail
        go_ret2
        exact ⟨_, ret2_of rfl (val_int (by rw [HT.out])), by rw [HT.out]; exact Strs.nil _, hb⟩
      · have hq : ((acc.length : Int) == 64) = false := by simp; omega
        have hB := hb.size
        by_cases h4 : r.length < 4 ∨ r.length - 4 < numL (r.take 4)
        · have HT := Lib.hid (goes_err hg (tell_short _ r h0 hn h4) (by decide))
          have hcall := Lib.hid (first_no r wr hr h4)
          clear hg h0 hn h4
          go_wp2_with (go_at_call 52; refine hcall.out.mono ?_; rintro e w1 ⟨rfl, hb1⟩)
          go_ret2
          exact ⟨_, ret2_of rfl (val_int (by rw [HT.out])), by rw [HT.out]; exact Strs.nil _, below_on hb hb1⟩
        · have hg2 := goes_step hg hn (by omega) (by omega)
          have hcall := Lib.hid (first_yes r wr hr (by omega) _ rfl (by omega))
          have hl1 : ((r.drop 4).take (numL (r.take 4))).length ≤ r.length := by simp; omega
          have hl2 : (r.drop (4 + numL (r.take 4))).length < r.length := by simp; omega
          clear hg h0 hn h4
          generalize (r.drop 4).take (numL (r.take 4)) = x at hg2 hcall hl1
          generalize r.drop (4 + numL (r.take 4)) = r2 at hg2 hcall hl2
          go_wp2_with (first | (go_at_call 52; refine hcall.out.mono ?_; rintro e w1 ⟨rfl, hb1⟩; have ho1 := own_below ho hb1; have hb2 := below_on hb hb1; have hB2 := hb2.size; clear ho hb hb1) | (at_builtin; refine wpList_append_lies _ rfl _ _ 43 (by rfl) W.heap.size 9 i0 _ 1 16 Tryz.underlying43 hi hz0 hz1 hz2 rfl (by omega) _ acc.length _ (by rfl) (ho1.alloc _) ⟨w1.heap.size, 0, none⟩ 1 1 _ (by rfl) (by rfl) (World.news_of_block (t := 9) (fr := (0, 0)) (heap_alloc_new w1 _)) (by simp [Value.oneCell']) (by omega) (by unfold maxLen; omega) (by omega) (by simp; omega) (w1.heap.size + 1) (by simp) ?_; intro g cap w2 hown2 hgrow2 hat2 hlt2))
          go_roundw
          case rel => exact ⟨acc ++ [x], r2, rfl, by omega, by simp; simp at hq; omega, by simpa [str] using hown2, hg2, (hb2.alloc hB2 _).grown hgrow2 (by simp; omega) (fun j hj => (ho1.lt j hj).1)⟩
          case measure => simp [strLen, str_size]; omega

/-- Unpack: the parts, or an error -/
theorem unpack_any (s : ByteArray) (W : World) :
    Calls Tryz.prog 28 #[.string s] W fun e W' => ∃ v, e = .returned (.tuple #[v, .int .i64 (unpackT s.data.toList).1]) ∧ Strs W' v (unpackT s.data.toList).2 ∧ Below W.heap.size W W' := by
  by_cases h : 65536 < s.size
  · have e : unpackT s.data.toList = (2, []) := by unfold unpackT; rw [if_pos (by rw [← Lib.size_eq]; exact h)]
    rw [e]
    exact (unpack_long s W h).mono fun e W' ⟨he, hb⟩ => ⟨_, he, Strs.nil _, hb⟩
  · have e : unpackT s.data.toList = tell 0 s.data.toList := by unfold unpackT; rw [if_neg (by rw [← Lib.size_eq]; exact h)]
    rw [e]
    exact unpack_in s W (by omega)
end Go.Proofs.YtdjglghecekeoaaGreatDoor

/- The contract of octet's fit: is there room for all of the parts? -/
namespace Go.Proofs.YtdjglghecekeoaaGreatDoor
open Go.RowKit
set_option maxRecDepth 100000

set_option maxHeartbeats 800000 in
/-- is there room? -/
theorem fit_any (w : World) (v : Value) (l : List (List UInt8)) (hl : Strs w v l) (hx : ∀ x ∈ l, x.length ≤ 1000000) :
    Calls Tryz.prog 118 #[v] w fun e w' => e = .returned (.bool (fitR 65536 l)) ∧ w = w' := by
  obtain ⟨a, c, rfl, hc, hm, hn, hl⟩ := hl
  unfold maxLen at hm
  go_enter Tryz.func118, Tryz.ntmps118
  go_wp2
  go_loop [3, 8] (fun r i => ∃ (k : Nat) (room : Int), k ≤ l.length ∧ i = .int .i64 k ∧ r = .int .i64 room ∧ 0 ≤ room ∧ room ≤ 65536 ∧ Hid (fitR 65536 l = fitR room (l.drop k))) (fun _ i => l.length - (intOf i).toNat)
  case atStart => exact ⟨0, 65536, Nat.zero_le _, rfl, rfl, by omega, by omega, rfl⟩
  case round =>
    obtain ⟨k, room, hk, rfl, rfl, h0, h1, HF⟩ := hrel
    by_cases hlt : k < l.length
    · obtain ⟨b, off, rfl, hcell⟩ := hl (by intro h; subst h; simp at hlt)
      obtain ⟨x, hxk⟩ : ∃ x, l[k]? = some x := ⟨l[k], List.getElem?_eq_getElem hlt⟩
      have hc1 := hcell k x hxk
      have hxl := hx x (List.mem_of_getElem? hxk)
      have hdr : l.drop k = x :: l.drop (k + 1) := by rw [List.drop_eq_getElem_cons hlt]; congr 1; exact (List.getElem?_eq_some_iff.1 hxk).2
      have HD := Lib.hid hdr
      clear hdr hxk hcell
      unfold str at hc1
      by_cases hr : room - 4 < (x.length : Int)
      · go_wp2
        go_ret
        exact ⟨ret1_of (by rw [HF.out, HD.out, fitR, if_pos hr]; rfl), rfl⟩
      · go_wp2
        go_round
        case rel => exact ⟨k + 1, _, by omega, by go_num, rfl, by omega, by omega, Lib.hid (HF.out.trans (by rw [HD.out, fitR, if_neg hr]))⟩
        case measure => simp [intOf]; omega
    · go_wp2
      go_ret
      exact ⟨ret1_of (by rw [HF.out, List.drop_of_length_le (by omega)]; rfl), rfl⟩

end Go.Proofs.YtdjglghecekeoaaGreatDoor

/- The contract of octet's Big: so many bytes of a number, the highest first, or ErrArg. -/
namespace Go.Proofs.YtdjglghecekeoaaGreatDoor
open Go.RowKit
set_option maxRecDepth 100000

/-- what lies in the row when k of w bytes are written -/
def fill (n w k : Nat) : List Value := List.replicate (w - k) (Value.int .u8 0) ++ Lib.byteCells (bigL n k)

theorem fill_at (n w k : Nat) (h : k < w) : (fill n w k)[w - 1 - k]? = some (Value.int .u8 0) := by
  unfold fill
  rw [List.getElem?_append_left (by simp; omega), List.getElem?_replicate, if_pos (by omega)]
theorem byte_of (n k : Nat) : (n : Int) / 2 ^ (8 * k) % 256 = (((left n k % 256).toUInt8).toNat : Int) := by
  have e : (2 : Int) ^ (8 * k) = ((256 ^ k : Nat) : Int) := by rw [Int.pow_mul]; simp
  rw [toNat_mod, left, e]
  omega
theorem fill_step (n w k : Nat) (h : k < w) : (fill n w k).set (w - 1 - k) (Value.int .u8 ((n : Int) / 2 ^ (8 * k) % 256)) = fill n w (k + 1) := by
  obtain ⟨m, rfl⟩ : ∃ m, w = m + 1 + k := ⟨w - 1 - k, by omega⟩
  unfold fill
  rw [show m + 1 + k - 1 - k = m by omega, show m + 1 + k - k = m + 1 by omega, show m + 1 + k - (k + 1) = m by omega, byte_of, bigL_left, List.replicate_succ', List.append_assoc, List.set_append]
  simp [Lib.byteCells]

set_option maxHeartbeats 400000 in
theorem big_yes (n w : Nat) (W : World) (hw : w ≤ 8) (hf : ((n : Int) / 2 ^ (8 * w) != 0) = false) :
    Calls Tryz.prog 83 #[.int .u64 n, .int .i64 w] W fun e W' => e = .returned (.tuple #[.string ⟨(bigL n w).toArray⟩, .int .i64 0]) ∧ Below W.heap.size W W' := by
  obtain ⟨i0, hi, hz0, hz1, hz2⟩ := info_parts info5
  go_enter Tryz.func83, Tryz.ntmps83
  go_wp2_with (at_make; refine wpList_make_full _ rfl _ _ 37 rfl W.heap.size 5 i0 (.int .u8 0) 1 Tryz.underlying37 hi hz0 hz1 _ _ _ _ w rfl rfl rfl rfl ?b2 ?b3 (Nat.le_refl _) ?_)
  case b2 => rw [hz2]; omega
  case b3 => unfold maxLen; omega
  intro w1 hown hgrow
  have hb1 := (Below.refl W.heap.size W).grown hgrow (Nat.le_refl _) (fun k hk => by cases hk)
  clear hgrow
  go_wp2_with fail
  go_loopw [24] (fun i wr => ∃ k : Nat, k ≤ w ∧ i = .int .i64 k ∧ wr.ownsRow W.heap.size 5 1 (.slice (some ⟨W.heap.size, 0, none⟩) w w) w (fill n w k) ∧ Below W.heap.size W wr) (fun i _ => w - (intOf i).toNat)
  case atStart => exact ⟨0, Nat.zero_le _, rfl, by simpa [fill, bigL, Lib.byteCells, toList_madeCells_one] using hown, hb1⟩
  case round =>
    obtain ⟨k, hk, rfl, ho, hb⟩ := hrel
    by_cases hlt : k < w
    · have hc : wr.cell? ⟨W.heap.size, w - 1 - k, none⟩ = some (.int .u8 0) := (ho.cellAt (w - 1 - k) (by omega)).trans (fill_at n w k hlt)
      have hz := ho.frozenAt (w - 1 - k)
      go_wp2
      go_roundw
      case rel => exact ⟨k + 1, by omega, by go_num, by rw [← fill_step n w k hlt]; exact (ho.stored _ _).1, hb.setCell (p := ⟨W.heap.size, w - 1 - k, none⟩) (Nat.le_refl _) _⟩
      case measure => simp [intOf]; omega
    · obtain rfl : k = w := by omega
      have hcv := str_own (l := bigL n k) (by simpa [fill] using ho)
      go_wp2
      go_ret2
      exact ⟨rfl, hb⟩
end Go.Proofs.YtdjglghecekeoaaGreatDoor

/- The contract of octet's Pack: the parts put together, or its error. -/
namespace Go.Proofs.YtdjglghecekeoaaGreatDoor
open Go.RowKit

theorem builder_below {T e : TypeId} {B b : Nat} {bs : List Value} {w w1 : World} (h : Lib.IsBuilder T e B b bs w) (hb : Below w.heap.size w w1) : Lib.IsBuilder T e B b bs w1 := by
  have one : ∀ p, Lib.BuilderAt T e B b p bs w → Lib.BuilderAt T e B b p bs w1 := by
    intro p hp
    have hlt := hp.lt
    obtain ⟨hB, v, hh, ho, hne⟩ := hp
    exact ⟨hB, v, (hb.block b hlt).trans hh, own_below ho hb, hne⟩
  exact h.imp (one _) (one _)
theorem write_list (B b : Nat) (l x : List UInt8) (w : World) (h : Lib.IsBuilder 161 5 B b (Lib.byteCells l) w) (hlen : l.length + x.length ≤ 1000000) (hBw : B ≤ w.heap.size) :
    Calls Tryz.prog 119 #[.pointer (some ⟨b, 0, none⟩), .string ⟨x.toArray⟩] w fun e w' => e = .returned (.tuple #[.int .i64 x.length, .nilIface]) ∧ (Lib.IsBuilder 161 5 B b (Lib.byteCells (l ++ x)) w' ∧ Below B w w') := by
  have h1 := write_any B b (Lib.byteCells l) ⟨x.toArray⟩ w h (by rw [Lib.byteCells_length, str_size]; omega) hBw
  rw [str_size] at h1
  refine h1.mono fun e w' ⟨he, hat, hb⟩ => ⟨he, Or.inr ?_, hb⟩
  rw [Lib.byteCells_append]
  exact hat
theorem builder_new (w : World) : Lib.IsBuilder 161 5 w.heap.size w.heap.size (Lib.byteCells []) (w.alloc (.cells #[.pointer none, .slice none 0 0] 161)) :=
  Or.inl ⟨Nat.le_refl _, _, heap_alloc_new w _, World.ownsRow_nil _ _ _ _, by simp [Value.ownBlock]⟩

theorem fits_four (n : Nat) (h : n < 4294967296) : ((n : Int) / 2 ^ (8 * 4) != 0) = false := by
  have : (n : Int) / 2 ^ (8 * 4) = 0 := by omega
  rw [this]
  decide
theorem take_frames {l : List (List UInt8)} {k : Nat} {x : List UInt8} (h : l[k]? = some x) : packL (l.take (k + 1)) = packL (l.take k) ++ bigL x.length 4 ++ x := by
  rw [List.take_add_one, h, Option.toList_some, packL_snoc, frameL, List.append_assoc]
theorem take_packed (l : List (List UInt8)) (k : Nat) : (packL (l.take k)).length ≤ (packL l).length := by
  have e : packL l = packL (l.take k) ++ packL (l.drop k) := by rw [← packL_append, List.take_append_drop]
  rw [e, List.length_append]; omega

theorem pack_many (w : World) (v : Value) (l : List (List UInt8)) (hl : Strs w v l) (h : 64 < l.length) :
    Calls Tryz.prog 82 #[v] w fun e w' => e = .returned (.tuple #[.string ByteArray.empty, .int .i64 22]) ∧ Below w.heap.size w w' := by
  obtain ⟨a, c, rfl, hc, hm, hn, hl⟩ := hl
  unfold maxLen at hm
  go_enter Tryz.func82, Tryz.ntmps82
  go_wp2
  go_ret2
  exact ⟨rfl, Below.refl _ _⟩

theorem pack_long (w : World) (v : Value) (l : List (List UInt8)) (hl : Strs w v l) (hx : ∀ x ∈ l, x.length ≤ 1000000) (h : l.length ≤ 64) (hf : fitR 65536 l = false) :
    Calls Tryz.prog 82 #[v] w fun e w' => e = .returned (.tuple #[.string ByteArray.empty, .int .i64 2]) ∧ Below w.heap.size w w' := by
  have hfit := fit_any w v l hl hx
  rw [hf] at hfit
  have HF := Lib.hid hfit
  clear hfit hf hx
  obtain ⟨a, c, rfl, hc, hm, hn, hl⟩ := hl
  unfold maxLen at hm
  go_enter Tryz.func82, Tryz.ntmps82
  go_wp2_with (go_at_call 118; refine HF.out.mono ?_; rintro e w1 ⟨rfl, rfl⟩)
  go_ret2
  exact ⟨rfl, Below.refl _ _⟩

set_option maxRecDepth 100000 in
set_option maxHeartbeats 1600000 in
theorem pack_in (w : World) (v : Value) (l : List (List UInt8)) (hl : Strs w v l) (h : l.length ≤ 64) (hf : fitR 65536 l = true) :
    Calls Tryz.prog 82 #[v] w fun e w' => e = .returned (.tuple #[.string ⟨(packL l).toArray⟩, .int .i64 0]) ∧ Below w.heap.size w w' := by
  have hp : (packL l).length ≤ 65536 := by have := (fitR_iff l 65536 (by omega)).1 hf; omega
  have hfit := fit_any w v l hl (fun x hx => by have := part_lt hx; omega)
  rw [hf] at hfit
  have HF := Lib.hid hfit
  clear hfit hf
  obtain ⟨a, c, rfl, hc, hm, hn, hl⟩ := hl
  unfold maxLen at hm
  go_enter Tryz.func82, Tryz.ntmps82
  go_wp2_with (go_at_call 118; refine HF.out.mono ?_; rintro e w1 ⟨rfl, rfl⟩)
  go_loopw [17] (fun i wr => ∃ k : Nat, k ≤ l.length ∧ i = .int .i64 k ∧ Lib.IsBuilder 161 5 w.heap.size w.heap.size (Lib.byteCells (packL (l.take k))) wr ∧ Below w.heap.size w wr) (fun i _ => l.length - (intOf i).toNat)
  case atStart => exact ⟨0, Nat.zero_le _, rfl, builder_new w, (Below.refl _ w).alloc (Nat.le_refl _) _⟩
  case round =>
    obtain ⟨k, hk, rfl, hbu, hb⟩ := hrel
    have hB := hb.size
    by_cases hlt : k < l.length
    · obtain ⟨b, off, rfl, hcell⟩ := hl (by intro h; subst h; simp at hlt)
      obtain ⟨x, hxk⟩ : ∃ x, l[k]? = some x := ⟨l[k], List.getElem?_eq_getElem hlt⟩
      have g1 := hcell k x hxk
      have hc1 : wr.cell? ⟨b, off + k, none⟩ = some (.string ⟨x.toArray⟩) := (hb.cell (p := ⟨b, off + k, none⟩) (World.block_lt_of_cell? w _ g1)).trans g1
      have HT := Lib.hid (take_frames hxk)
      have hlen : (packL (l.take k)).length + 4 + x.length ≤ 65536 := by
        have h1 := take_packed l (k + 1)
        rw [HT.out, List.length_append, List.length_append, bigL_length] at h1
        omega
      have f1 := fits_four x.length (by omega)
      clear hxk hcell g1 hl
      go_wp2_with (first | (go_at_call 83; refine (big_yes _ _ _ (by decide) f1).mono ?_; rintro e w1 ⟨rfl, hb1⟩; replace hbu := builder_below hbu hb1; replace hb := below_on hb hb1; clear hb1; replace hB := hb.size) | (go_at_call 119; refine (write_list _ _ _ _ _ hbu (by simp only [List.length_append, bigL_length]; omega) hB).mono ?_; rintro e w1 ⟨rfl, hbu1, hb1⟩; replace hbu := hbu1; replace hb := hb.trans hb1; clear hbu1 hb1; replace hB := hb.size))
      go_roundw
      case rel => exact ⟨k + 1, by omega, by go_num, by rw [HT.out]; exact hbu, hb⟩
      case measure => simp [intOf]; omega
    · have HT := Lib.hid (show l.take k = l from List.take_of_length_le (by omega))
      go_wp2_with (go_at_call 120; refine (Tryz.Builder_String_any _ _ _ _ hbu hB).mono ?_; rintro e w1 ⟨rfl, hb1⟩)
      go_ret2
      exact ⟨ret2_of (val_str (by rw [HT.out])) rfl, hb.trans hb1⟩

/-- Pack: the text, or an error -/
theorem pack_any (w : World) (v : Value) (l : List (List UInt8)) (hl : Strs w v l) (hx : ∀ x ∈ l, x.length ≤ 1000000) :
    Calls Tryz.prog 82 #[v] w fun e w' => e = .returned (.tuple #[.string (packS l), .int .i64 (packE l)]) ∧ Below w.heap.size w w' := by
  by_cases h : 64 < l.length
  · rw [packS_no (by rw [packE_many h]; decide), packE_many h]
    exact pack_many w v l hl h
  · cases hf : fitR 65536 l
    · rw [packS_no (by rw [packE_long (by omega) hf]; decide), packE_long (by omega) hf]
      exact pack_long w v l hl hx (by omega) hf
    · have h0 : packE l = 0 := by unfold packE; rw [if_neg h, hf]; rfl
      rw [packS_ok h0, h0]
      exact pack_in w v l hl (by omega) hf
end Go.Proofs.YtdjglghecekeoaaGreatDoor

/- The contracts of the developers' calls that put together what is signed of a head, and its text. -/
namespace Go.Proofs.YtdjglghecekeoaaGreatDoor.J
open Go.RowKit Go.Sort Go.Proofs.YtdjglghecekeoaaGreatDoor.U Go.Proofs.YtdjglghecekeoaaGreatDoor.R Go.Proofs.YtdjglghecekeoaaGreatDoor.Q
set_option maxRecDepth 100000

theorem parts_short {s t : Int} {r : List UInt8} (hr : r.length ≤ 64) : ∀ x ∈ partsS s r t, x.length ≤ 1000000 := by
  intro x hx
  unfold partsS at hx
  simp only [List.mem_cons, List.not_mem_nil, or_false] at hx
  rcases hx with rfl | rfl | rfl | rfl
  · decide
  · rw [bigL_length]; decide
  · rw [bigL_length]; decide
  · omega
theorem text_short {s t : Int} {r g : List UInt8} (hr : r.length ≤ 64) (hg : g.length ≤ 100) : ∀ x ∈ [signedT s r t, g], x.length ≤ 1000000 := by
  intro x hx
  simp only [List.mem_cons, List.not_mem_nil, or_false] at hx
  rcases hx with rfl | rfl
  · rw [signed_length]; omega
  · omega
theorem wrap_big (n : Nat) (h : n ≤ 1099511627776) : IntKind.u64.wrap (n : Int) = (n : Int) := by
  rw [IntKind.wrap_u64]
  omega
theorem inBytes_any (n : Nat) (w : World) (hn : n ≤ 1099511627776) :
    Calls Tryz.prog 54 #[.int .i64 ((n : Nat) : Int)] w fun e w' => e = .returned (.string (bytesOf (bigL n 8))) ∧ Below w.heap.size w w' := by
  have hf : ((n : Int) / 2 ^ (8 * 8) != 0) = false := by
    have : (n : Int) / 2 ^ (8 * 8) = 0 := Int.ediv_eq_zero_of_lt (by omega) (by omega)
    rw [this]
    rfl
  have H : Hid (∀ w, Calls Tryz.prog 83 #[.int .u64 (IntKind.u64.wrap (n : Int)), .int .i64 8] w fun e w' => e = .returned (.tuple #[.string ⟨(bigL n 8).toArray⟩, .int .i64 0]) ∧ Below w.heap.size w w') := Lib.hid (fun w => by
    rw [wrap_big n hn]
    exact big_yes n 8 w (by decide) hf)
  clear hf hn
  go_enter Tryz.func54, Tryz.ntmps54
  go_wp2_with (go_at_call 83; refine (H.out _).mono ?_; rintro e w1 ⟨rfl, hb1⟩)
  go_ret
  exact ⟨rfl, hb1⟩
theorem packed_any (w : World) (v : Value) (l : List (List UInt8)) (hl : Strs w v l) (hx : ∀ x ∈ l, x.length ≤ 1000000) :
    Calls Tryz.prog 53 #[v] w fun e w' => e = .returned (.string (packS l)) ∧ Below w.heap.size w w' := by
  have H := Lib.hid (pack_any w v l hl hx)
  generalize packS l = S at *
  generalize packE l = E at *
  obtain ⟨a, c, rfl, _⟩ := hl
  clear hx
  go_enter Tryz.func53, Tryz.ntmps53
  go_wp2_with (go_at_call 82; refine H.out.mono ?_; rintro e w1 ⟨rfl, hb1⟩)
  go_ret
  exact ⟨rfl, hb1⟩

set_option maxHeartbeats 1600000 in
theorem signedOf_any (s : Int) (r : List UInt8) (t : Int) (g : List UInt8) (w : World) (h : mayH s r t = true) :
    Calls Tryz.prog 36 #[.agg (headA s r t g)] w fun e w' => e = .returned (.string (bytesOf (signedT s r t))) ∧ Below w.heap.size w w' := by
  obtain ⟨h1, h2, h3, h4, h5⟩ := mayH_of h
  obtain ⟨n, rfl⟩ : ∃ n : Nat, s = (n : Int) := ⟨s.toNat, (Int.toNat_of_nonneg h1).symm⟩
  obtain ⟨m, rfl⟩ : ∃ m : Nat, t = (m : Int) := ⟨t.toNat, (Int.toNat_of_nonneg h3).symm⟩
  have hB := (Below.refl w.heap.size w).alloc (Nat.le_refl _) (.cells (headA (n : Int) r (m : Int) g) 23)
  have hl : Lies (w.alloc (.cells (headA (n : Int) r (m : Int) g) 23)) w.heap.size 23 (headA (n : Int) r (m : Int) g) := Lies.new w _ _
  have HN1 := Lib.hid (fun w => inBytes_any n w (by omega))
  have HN2 := Lib.hid (fun w => inBytes_any m w (by omega))
  have HP := Lib.hid (fun w v (hs : Strs w v (partsS (n : Int) r (m : Int))) => packed_any w v (partsS (n : Int) r (m : Int)) hs (parts_short (by omega)))
  rw [signed_packS (by omega)] at HP
  clear h h1 h2 h3 h4 h5
  unfold headA at hB hl ⊢
  go_enter Tryz.func36, Tryz.ntmps36
  go_upto_region 1 with fail
  generalize World.alloc w _ = w0 at *
  refine wp_region_rel 10 _ [sayFix (.pointer (some ⟨w.heap.size, 0, none⟩)), sayFix (.int .i64 ((n : Nat) : Int)), sayFix (.string (bytesOf (bigL n 8))), sayFix (.pointer (some ⟨w.heap.size, 2, none⟩)), sayFix (.int .i64 ((m : Nat) : Int)), sayFix (.string (bytesOf (bigL m 8))), sayFix (.pointer (some ⟨w.heap.size, 1, none⟩)), sayFix (.string (bytesOf r)), sayStrs (partsS (n : Int) r (m : Int)), sayFix (.string (bytesOf (signedT (n : Int) r (m : Int))))] rfl rfl (by kernel_rfl) (by kernel_rfl) (fun r hr => by
    simp only [List.mem_cons, List.not_mem_nil, or_false] at hr
    rcases hr with rfl | rfl | rfl | rfl | rfl | rfl | rfl | rfl | rfl | rfl <;> first | exact sayFix_mono _ | exact sayStrs_mono _) ?_
  simp only [List.take_succ_cons, List.take_zero, List.drop_succ_cons, List.drop_zero, List.zip_cons_cons, List.zip_nil_right]
  refine wpRel_step (fun wr hb1 hG => ?_) (fun v0 => ?_)
  · exact does_run (.pointer (some ⟨w.heap.size, 0, none⟩)) (run_fld0 w.heap.size rfl wr) rfl
  simp only [Act.put, List.setIfInBounds_toArray, List.set_cons_succ, List.set_cons_zero, Option.getD_some]
  refine wpRel_step (fun wr hb1 hG => ?_) (fun v1 => ?_)
  · obtain rfl := laid_at 0 hG rfl (by decide)
    exact does_run (.int .i64 ((n : Nat) : Int)) (run_ldI ⟨w.heap.size, 0, none⟩ _ wr (hd_s (hl.on hb1)) rfl) rfl
  simp only [Act.put, List.setIfInBounds_toArray, List.set_cons_succ, List.set_cons_zero, Option.getD_some]
  refine wpRel_step (fun wr hb1 hG => ?_) (fun v2 => ?_)
  · obtain rfl := laid_at 0 hG rfl (by decide)
    refine does_call 54 #[(.int .i64 ((n : Nat) : Int))] (by kernel_rfl) ((HN1.out wr).mono ?_)
    rintro e w' ⟨rfl, h6⟩
    exact ⟨_, rfl, h6, rfl⟩
  simp only [Act.put, List.setIfInBounds_toArray, List.set_cons_succ, List.set_cons_zero, Option.getD_some]
  refine wpRel_step (fun wr hb1 hG => ?_) (fun v3 => ?_)
  · exact does_run (.pointer (some ⟨w.heap.size, 2, none⟩)) (run_fld2 w.heap.size rfl wr) rfl
  simp only [Act.put, List.setIfInBounds_toArray, List.set_cons_succ, List.set_cons_zero, Option.getD_some]
  refine wpRel_step (fun wr hb1 hG => ?_) (fun v4 => ?_)
  · obtain rfl := laid_at 0 hG rfl (by decide)
    exact does_run (.int .i64 ((m : Nat) : Int)) (run_ldI ⟨w.heap.size, 2, none⟩ _ wr (hd_t (hl.on hb1)) rfl) rfl
  simp only [Act.put, List.setIfInBounds_toArray, List.set_cons_succ, List.set_cons_zero, Option.getD_some]
  refine wpRel_step (fun wr hb1 hG => ?_) (fun v5 => ?_)
  · obtain rfl := laid_at 0 hG rfl (by decide)
    refine does_call 54 #[(.int .i64 ((m : Nat) : Int))] (by kernel_rfl) ((HN2.out wr).mono ?_)
    rintro e w' ⟨rfl, h6⟩
    exact ⟨_, rfl, h6, rfl⟩
  simp only [Act.put, List.setIfInBounds_toArray, List.set_cons_succ, List.set_cons_zero, Option.getD_some]
  refine wpRel_step (fun wr hb1 hG => ?_) (fun v6 => ?_)
  · exact does_run (.pointer (some ⟨w.heap.size, 1, none⟩)) (run_fld1 w.heap.size rfl wr) rfl
  simp only [Act.put, List.setIfInBounds_toArray, List.set_cons_succ, List.set_cons_zero, Option.getD_some]
  refine wpRel_step (fun wr hb1 hG => ?_) (fun v7 => ?_)
  · obtain rfl := laid_at 0 hG rfl (by decide)
    exact does_run (.string (bytesOf r)) (run_ldT ⟨w.heap.size, 1, none⟩ _ wr (hd_r (hl.on hb1)) rfl) rfl
  simp only [Act.put, List.setIfInBounds_toArray, List.set_cons_succ, List.set_cons_zero, Option.getD_some]
  refine wpRel_step (fun wr hb1 hG => ?_) (fun v8 => ?_)
  · obtain rfl := laid_at 5 hG rfl (by decide)
    obtain rfl := laid_at 2 hG rfl (by decide)
    obtain rfl := laid_at 0 hG rfl (by decide)
    exact does_made (.slice (some ⟨wr.heap.size, 0, none⟩) 4 4) (w' := wr.alloc (.cells #[.string (bytesOf markL), .string (bytesOf (bigL n 8)), .string (bytesOf (bigL m 8)), .string (bytesOf r)] 9)) (by kernel_rfl) ((Below.refl wr.heap.size wr).alloc (Nat.le_refl _) _) (strs_new wr [markL, bigL n 8, bigL m 8, r] (show 4 ≤ 1000 by decide))
  simp only [Act.put, List.setIfInBounds_toArray, List.set_cons_succ, List.set_cons_zero, Option.getD_some]
  refine wpRel_step (fun wr hb1 hG => ?_) (fun v9 => ?_)
  · obtain hs := laid_at 0 hG rfl (by decide)
    refine does_call 53 #[v8] (by kernel_rfl) ((HP.out wr _ hs).mono ?_)
    rintro e w' ⟨rfl, h6⟩
    exact ⟨_, rfl, h6, rfl⟩
  simp only [Act.put, List.setIfInBounds_toArray, List.set_cons_succ, List.set_cons_zero, Option.getD_some]
  refine wpRel_nil (fun w5 hb hG => ?_)
  obtain rfl := hG _ (List.mem_of_getElem? (i := 0) rfl)
  clear hG
  replace hB := below_on hB hb
  clear hb hl HN1 HN2 HP
  go_wp2_with fail
  go_ret
  exact ⟨rfl, hB⟩

set_option maxHeartbeats 1600000 in
theorem textOf_any (s : Int) (r : List UInt8) (t : Int) (g : List UInt8) (w : World) (h : rightH s r t g = true) :
    Calls Tryz.prog 30 #[.agg (headA s r t g)] w fun e w' => e = .returned (.string (bytesOf (textT s r t g))) ∧ Below w.heap.size w w' := by
  obtain ⟨h1, h2⟩ := rightH_of h
  have h5 := (mayH_of h1).2.2.2.2
  have hB := (Below.refl w.heap.size w).alloc (Nat.le_refl _) (.cells (headA s r t g) 23)
  have hl : Lies (w.alloc (.cells (headA s r t g) 23)) w.heap.size 23 (headA s r t g) := Lies.new w _ _
  have HS := Lib.hid (fun w => signedOf_any s r t g w h1)
  have HP := Lib.hid (fun w v (hs : Strs w v [signedT s r t, g]) => packed_any w v [signedT s r t, g] hs (text_short (by omega) (by omega)))
  rw [text_packS (by omega) (by omega)] at HP
  clear h h1 h2 h5
  have hl0 := hl
  unfold headA at hB hl0 ⊢
  clear hl0
  go_enter Tryz.func30, Tryz.ntmps30
  go_upto_region 1 with fail
  have hl2 : Lies (World.alloc w (.cells #[.int .i64 s, .string (bytesOf r), .int .i64 t, .string (bytesOf g)] 23)) w.heap.size 23 (headA s r t g) := hl
  clear hl
  generalize World.alloc w _ = w0 at *
  have hl := hl2
  clear hl2
  refine wp_region_rel 6 _ [sayFix (.agg (headA s r t g)), sayFix (.string (bytesOf (signedT s r t))), sayFix (.pointer (some ⟨w.heap.size, 3, none⟩)), sayFix (.string (bytesOf g)), sayStrs [signedT s r t, g], sayFix (.string (bytesOf (textT s r t g)))] rfl rfl (by kernel_rfl) (by kernel_rfl) (fun r hr => by
    simp only [List.mem_cons, List.not_mem_nil, or_false] at hr
    rcases hr with rfl | rfl | rfl | rfl | rfl | rfl <;> first | exact sayFix_mono _ | exact sayStrs_mono _) ?_
  simp only [List.take_succ_cons, List.take_zero, List.drop_succ_cons, List.drop_zero, List.zip_cons_cons, List.zip_nil_right]
  refine wpRel_step (fun wr hb1 hG => ?_) (fun v0 => ?_)
  · exact does_run (.agg (headA s r t g)) (run_ldH w.heap.size _ s t r g (hl.on hb1) rfl) rfl
  simp only [Act.put, List.setIfInBounds_toArray, List.set_cons_succ, List.set_cons_zero, Option.getD_some]
  refine wpRel_step (fun wr hb1 hG => ?_) (fun v1 => ?_)
  · obtain rfl := laid_at 0 hG rfl (by decide)
    refine does_call 36 #[.agg (headA s r t g)] (by kernel_rfl) ((HS.out wr).mono ?_)
    rintro e w' ⟨rfl, h6⟩
    exact ⟨_, rfl, h6, rfl⟩
  simp only [Act.put, List.setIfInBounds_toArray, List.set_cons_succ, List.set_cons_zero, Option.getD_some]
  refine wpRel_step (fun wr hb1 hG => ?_) (fun v2 => ?_)
  · exact does_run (.pointer (some ⟨w.heap.size, 3, none⟩)) (run_fld3 w.heap.size rfl wr) rfl
  simp only [Act.put, List.setIfInBounds_toArray, List.set_cons_succ, List.set_cons_zero, Option.getD_some]
  refine wpRel_step (fun wr hb1 hG => ?_) (fun v3 => ?_)
  · obtain rfl := laid_at 0 hG rfl (by decide)
    exact does_run (.string (bytesOf g)) (run_ldT ⟨w.heap.size, 3, none⟩ _ wr (hd_g (hl.on hb1)) rfl) rfl
  simp only [Act.put, List.setIfInBounds_toArray, List.set_cons_succ, List.set_cons_zero, Option.getD_some]
  refine wpRel_step (fun wr hb1 hG => ?_) (fun v4 => ?_)
  · obtain rfl := laid_at 2 hG rfl (by decide)
    obtain rfl := laid_at 0 hG rfl (by decide)
    exact does_made (.slice (some ⟨wr.heap.size, 0, none⟩) 2 2) (w' := wr.alloc (.cells #[.string (bytesOf (signedT s r t)), .string (bytesOf g)] 9)) (by kernel_rfl) ((Below.refl wr.heap.size wr).alloc (Nat.le_refl _) _) (strs_new wr [signedT s r t, g] (show 2 ≤ 1000 by decide))
  simp only [Act.put, List.setIfInBounds_toArray, List.set_cons_succ, List.set_cons_zero, Option.getD_some]
  refine wpRel_step (fun wr hb1 hG => ?_) (fun v5 => ?_)
  · obtain hs := laid_at 0 hG rfl (by decide)
    refine does_call 53 #[v4] (by kernel_rfl) ((HP.out wr _ hs).mono ?_)
    rintro e w' ⟨rfl, h6⟩
    exact ⟨_, rfl, h6, rfl⟩
  simp only [Act.put, List.setIfInBounds_toArray, List.set_cons_succ, List.set_cons_zero, Option.getD_some]
  refine wpRel_nil (fun w5 hb hG => ?_)
  obtain rfl := hG _ (List.mem_of_getElem? (i := 0) rfl)
  clear hG
  replace hB := below_on hB hb
  clear hb hl HS HP
  go_wp2_with fail
  go_ret
  exact ⟨rfl, hB⟩
end Go.Proofs.YtdjglghecekeoaaGreatDoor.J

/- The contracts of the calls that tell which heads may be. -/
namespace Go.Proofs.YtdjglghecekeoaaGreatDoor.J
open Go.RowKit Go.Sort Go.Proofs.YtdjglghecekeoaaGreatDoor.U Go.Proofs.YtdjglghecekeoaaGreatDoor.R Go.Proofs.YtdjglghecekeoaaGreatDoor.Q
set_option maxRecDepth 100000

set_option maxHeartbeats 1600000 in
theorem rightH_any (s : Int) (r : List UInt8) (t : Int) (g : List UInt8) (w : World) :
    Calls Tryz.prog 12 #[.agg (headA s r t g)] w fun e w' => e = .returned (.bool (rightH s r t g)) ∧ Below w.heap.size w w' := by
  have HM := Lib.hid (fun w => mayH_any s r t g w)
  have hz := bytes_int g
  have HY := Lib.hid (fun h hg => rightH_yes (s := s) (r := r) (t := t) (g := g) h hg)
  have HN := Lib.hid (fun h => rightH_no (s := s) (r := r) (t := t) (g := g) h)
  have hB := (Below.refl w.heap.size w).alloc (Nat.le_refl _) (.cells (headA s r t g) 23)
  have hl : Lies (w.alloc (.cells (headA s r t g) 23)) w.heap.size 23 (headA s r t g) := Lies.new w _ _
  obtain ⟨M, hM⟩ : ∃ M, mayH s r t = M := ⟨_, rfl⟩
  obtain ⟨E, hE⟩ : ∃ E, rightH s r t g = E := ⟨_, rfl⟩
  rw [hM] at HM HY HN
  rw [hE] at HY HN ⊢
  clear hM hE
  cases M with
  | false =>
    obtain rfl := HN.out (fun h => by cases h.1)
    clear HY HN
    unfold headA at hB hl ⊢
    go_enter Tryz.func12, Tryz.ntmps12
    go_upto_region 1 with fail
    generalize hw0 : World.alloc w _ = w0 at *
    have hl0 : Lies w0 w.heap.size 23 (headA s r t g) := hl
    clear hl hw0
    go_wp2_with (first
      | ((with_reducible refine wpL_load w.heap.size 23 (headA s r t g) 4 rowHead rfl hl0 ?_ ?_); rfl)
      | (go_at_call 32; (with_reducible refine (HM.out _).mono ?_); rintro e w1 ⟨rfl, hb1⟩; replace hB := below_on hB hb1))
    go_ret
    exact ⟨rfl, hB⟩
  | true =>
    by_cases c : g.length = 64
    · obtain rfl := HY.out rfl c
      have c6 : ((g.length : Int) == 64) = true := by simp; omega
      clear HY HN c
      unfold headA at hB hl ⊢
      go_enter Tryz.func12, Tryz.ntmps12
      go_upto_region 1 with fail
      generalize hw0 : World.alloc w _ = w0 at *
      have hl0 : Lies w0 w.heap.size 23 (headA s r t g) := hl
      clear hl hw0
      go_wp2_with (first
        | ((with_reducible refine wpL_load w.heap.size 23 (headA s r t g) 4 rowHead rfl hl0 ?_ ?_); rfl)
        | (go_at_call 32; (with_reducible refine (HM.out _).mono ?_); rintro e w1 ⟨rfl, hb1⟩; have hg1 := hd_g (hl0.on hb1); replace hB := below_on hB hb1))
      go_ret
      exact ⟨rfl, hB⟩
    · obtain rfl := HN.out (fun h => c h.2)
      have c6 : ((g.length : Int) == 64) = false := by simp; omega
      clear HY HN c
      unfold headA at hB hl ⊢
      go_enter Tryz.func12, Tryz.ntmps12
      go_upto_region 1 with fail
      generalize hw0 : World.alloc w _ = w0 at *
      have hl0 : Lies w0 w.heap.size 23 (headA s r t g) := hl
      clear hl hw0
      go_wp2_with (first
        | ((with_reducible refine wpL_load w.heap.size 23 (headA s r t g) 4 rowHead rfl hl0 ?_ ?_); rfl)
        | (go_at_call 32; (with_reducible refine (HM.out _).mono ?_); rintro e w1 ⟨rfl, hb1⟩; have hg1 := hd_g (hl0.on hb1); replace hB := below_on hB hb1))
      go_ret
      exact ⟨rfl, hB⟩

set_option maxHeartbeats 1600000 in
theorem refRightH_any (s : Int) (r : List UInt8) (t : Int) (g : List UInt8) (w : World) :
    Calls Tryz.prog 13 #[.agg (headA s r t g)] w fun e w' => e = .returned (.bool (rightH s r t g)) ∧ Below w.heap.size w w' := by
  have hz := bytes_int r
  have hy := bytes_int g
  have hB := (Below.refl w.heap.size w).alloc (Nat.le_refl _) (.cells (headA s r t g) 23)
  obtain ⟨E, hE⟩ : ∃ E, rightH s r t g = E := ⟨_, rfl⟩
  have HN := Lib.hid (fun (h : (0 ≤ s ∧ s ≤ 4096 ∧ 0 ≤ t ∧ t ≤ 1099511627776 ∧ r.length = 32) → g.length = 64 → False) => hE.symm.trans (rightH_no (s := s) (r := r) (t := t) (g := g) (fun k => h (mayH_of k.1) k.2)))
  have HY := Lib.hid (fun h1 h2 h3 h4 h5 h6 => hE.symm.trans (rightH_yes (s := s) (r := r) (t := t) (g := g) (mayH_yes h1 h2 h3 h4 h5) h6))
  rw [hE]
  clear hE
  unfold headA at hB ⊢
  by_cases c433 : s < 0
  case pos =>
    obtain rfl := HN.out (fun h _ => by omega)
    clear HN HY
    go_enter Tryz.func13, Tryz.ntmps13
    go_wp2
    go_ret
    exact ⟨rfl, hB⟩
  by_cases c683 : 4096 < s
  case pos =>
    obtain rfl := HN.out (fun h _ => by omega)
    clear HN HY
    go_enter Tryz.func13, Tryz.ntmps13
    go_wp2
    go_ret
    exact ⟨rfl, hB⟩
  by_cases c936 : t < 0
  case pos =>
    obtain rfl := HN.out (fun h _ => by omega)
    clear HN HY
    go_enter Tryz.func13, Tryz.ntmps13
    go_wp2
    go_ret
    exact ⟨rfl, hB⟩
  by_cases c186 : 1099511627776 < t
  case pos =>
    obtain rfl := HN.out (fun h _ => by omega)
    clear HN HY
    go_enter Tryz.func13, Tryz.ntmps13
    go_wp2
    go_ret
    exact ⟨rfl, hB⟩
  by_cases d1 : r.length = 32
  case neg =>
    obtain rfl := HN.out (fun h _ => by omega)
    have d2 : ((r.length : Int) == 32) = false := by simp; omega
    clear d1
    clear HN HY
    go_enter Tryz.func13, Tryz.ntmps13
    go_wp2
    go_ret
    exact ⟨rfl, hB⟩
  have d2 : ((r.length : Int) == 32) = true := by simp; omega
  by_cases d3 : g.length = 64
  case neg =>
    obtain rfl := HN.out (fun _ h => d3 h)
    have d4 : ((g.length : Int) == 64) = false := by simp; omega
    clear d1 d3
    clear HN HY
    go_enter Tryz.func13, Tryz.ntmps13
    go_wp2
    go_ret
    exact ⟨rfl, hB⟩
  have d4 : ((g.length : Int) == 64) = true := by simp; omega
  obtain rfl := HY.out (by omega) (by omega) (by omega) (by omega) d1 d3
  clear d1 d3
  clear HN HY
  go_enter Tryz.func13, Tryz.ntmps13
  go_wp2
  go_ret
  exact ⟨rfl, hB⟩
end Go.Proofs.YtdjglghecekeoaaGreatDoor.J

/- Plain facts of number theory: primes, Fermat's theorem, certificates by which a number is prime, p = 2^255 - 19 among them, and which numbers have a root modulo p. Nothing of the program is named here. -/
namespace Go.Proofs.YtdjglghecekeoaaGreatDoor.F

/-! ### primes -/
def Pr (p : Nat) : Prop := 2 ≤ p ∧ ∀ d, d ∣ p → d = 1 ∨ d = p
theorem Pr.coprime {p a : Nat} (hp : Pr p) (h : ¬ p ∣ a) : Nat.Coprime p a := by
  rcases hp.2 (Nat.gcd p a) (Nat.gcd_dvd_left p a) with h1 | h1
  · exact h1
  · exact absurd (h1 ▸ Nat.gcd_dvd_right p a) h
theorem Pr.split {p a b : Nat} (hp : Pr p) (h : p ∣ a * b) : p ∣ a ∨ p ∣ b := by
  by_cases ha : p ∣ a
  · exact .inl ha
  · exact .inr ((hp.coprime ha).dvd_of_dvd_mul_left h)
theorem Pr.pow {p a : Nat} (hp : Pr p) (n : Nat) (h : p ∣ a ^ n) : p ∣ a := by
  induction n with
  | zero =>
    rw [Nat.pow_zero] at h
    have h1 := Nat.le_of_dvd (by decide) h
    have := hp.1
    omega
  | succ n ih =>
    rw [Nat.pow_succ] at h
    rcases hp.split h with h | h
    · exact ih h
    · exact h
theorem prime_divisor : ∀ n, 2 ≤ n → ∃ r, Pr r ∧ r ∣ n := by
  intro n
  induction n using Nat.strongRecOn with
  | ind n ih =>
    intro h2
    by_cases hp : ∀ d, d ∣ n → d = 1 ∨ d = n
    · exact ⟨n, ⟨h2, hp⟩, Nat.dvd_refl n⟩
    · obtain ⟨d, hd⟩ := Classical.not_forall.1 hp
      have hdn : d ∣ n := Classical.byContradiction fun h => hd fun h' => absurd h' h
      have hd1 : d ≠ 1 := fun h => hd fun _ => .inl h
      have hdn2 : d ≠ n := fun h => hd fun _ => .inr h
      have hle := Nat.le_of_dvd (by omega) hdn
      have hpos : 0 < d := Nat.pos_of_dvd_of_pos hdn (by omega)
      obtain ⟨r, hr, hrd⟩ := ih d (by omega) (by omega)
      exact ⟨r, hr, Nat.dvd_trans hrd hdn⟩

/-! ### binomials -/
def ch : Nat → Nat → Nat
  | _, 0 => 1
  | 0, _ + 1 => 0
  | n + 1, k + 1 => ch n k + ch n (k + 1)
theorem ch_zero (n : Nat) : ch n 0 = 1 := by cases n <;> rfl
theorem ch_past (n k : Nat) (h : n < k) : ch n k = 0 := by
  induction n generalizing k with
  | zero => match k, h with | k + 1, _ => rfl
  | succ n ih =>
    match k, h with
    | k + 1, h => rw [ch, ih k (by omega), ih (k + 1) (by omega)]
theorem ch_self (n : Nat) : ch n n = 1 := by
  induction n with
  | zero => rfl
  | succ n ih => rw [ch, ih, ch_past n (n + 1) (by omega)]
theorem ch_mul (n k : Nat) : (k + 1) * ch (n + 1) (k + 1) = (n + 1) * ch n k := by
  induction n generalizing k with
  | zero =>
    cases k with
    | zero => rfl
    | succ k => simp [ch]
  | succ n ih =>
    rw [ch, Nat.mul_add, ih k]
    cases k with
    | zero => simp [ch_zero]; omega
    | succ k =>
      have h := ih (k + 1)
      have h2 := ih k
      rw [show ch (n + 1) (k + 1) = ch n k + ch n (k + 1) from rfl] at *
      rw [show (k + 1 + 1) * (ch n k + ch n (k + 1)) = (k + 1) * (ch n k + ch n (k + 1)) + (ch n k + ch n (k + 1)) by rw [Nat.succ_mul], h2]
      simp only [Nat.mul_add, Nat.add_mul, Nat.one_mul]
      omega
def sumTo (f : Nat → Nat) : Nat → Nat
  | 0 => 0
  | n + 1 => sumTo f n + f n
theorem binom_step (a n m : Nat) : sumTo (fun k => ch (n + 1) k * a ^ k) (m + 1) = sumTo (fun k => ch n k * a ^ k) (m + 1) + a * sumTo (fun k => ch n k * a ^ k) m := by
  induction m with
  | zero => simp [sumTo, ch_zero]
  | succ m ih =>
    rw [sumTo, ih, sumTo.eq_2 _ (m + 1), sumTo.eq_2 (fun k => ch n k * a ^ k) m]
    rw [show ch (n + 1) (m + 1) = ch n m + ch n (m + 1) from rfl, Nat.add_mul, Nat.mul_add, Nat.pow_succ]
    rw [show ch n m * (a ^ m * a) = a * (ch n m * a ^ m) by rw [Nat.mul_comm (a ^ m) a, Nat.mul_left_comm]]
    omega
theorem binom (a n : Nat) : (a + 1) ^ n = sumTo (fun k => ch n k * a ^ k) (n + 1) := by
  induction n with
  | zero => simp [sumTo, ch]
  | succ n ih =>
    rw [binom_step, sumTo, ch_past n (n + 1) (by omega), Nat.zero_mul, Nat.add_zero, ← ih, Nat.pow_succ, Nat.mul_add, Nat.mul_one, Nat.mul_comm]
    omega
theorem sum_first (f : Nat → Nat) (p : Nat) : ∀ n, (∀ k, 0 < k → k < n + 1 → p ∣ f k) → ∃ c, sumTo f (n + 1) = f 0 + p * c := by
  intro n
  induction n with
  | zero => intro _; exact ⟨0, by simp [sumTo]⟩
  | succ n ih =>
    intro h
    obtain ⟨c, hc⟩ := ih fun k h1 h2 => h k h1 (by omega)
    obtain ⟨d, hd⟩ := h (n + 1) (by omega) (by omega)
    exact ⟨c + d, by rw [sumTo, hc, hd, Nat.mul_add]; omega⟩

/-! ### Fermat -/
theorem fermat_step {p : Nat} (hp : Pr p) (a : Nat) : (a + 1) ^ p % p = (a ^ p + 1) % p := by
  obtain ⟨q, rfl⟩ : ∃ q, p = q + 1 := ⟨p - 1, by have := hp.1; omega⟩
  have hd : ∀ k, 0 < k → k < q + 1 → (q + 1) ∣ ch (q + 1) k * a ^ k := by
    intro k h1 h2
    obtain ⟨j, rfl⟩ : ∃ j, k = j + 1 := ⟨k - 1, by omega⟩
    have hm := ch_mul q j
    have h3 : (q + 1) ∣ (j + 1) * ch (q + 1) (j + 1) := ⟨_, hm⟩
    rcases hp.split h3 with h | h
    · have := Nat.le_of_dvd (by omega) h
      omega
    · exact Nat.dvd_trans h ⟨_, rfl⟩
  obtain ⟨c, hc⟩ := sum_first (fun k => ch (q + 1) k * a ^ k) (q + 1) q hd
  rw [binom, sumTo, hc, ch_self]
  simp only [ch_zero, Nat.pow_zero, Nat.one_mul]
  rw [show 1 + (q + 1) * c + a ^ (q + 1) = a ^ (q + 1) + 1 + (q + 1) * c by omega, Nat.add_mul_mod_self_left]
theorem fermat {p : Nat} (hp : Pr p) (a : Nat) : a ^ p % p = a % p := by
  induction a with
  | zero => rw [Nat.zero_pow (by have := hp.1; omega)]
  | succ a ih => rw [fermat_step hp, Nat.add_mod, ih, ← Nat.add_mod]
theorem fermat_one {p : Nat} (hp : Pr p) (a : Nat) (h : ¬ p ∣ a) : a ^ (p - 1) % p = 1 := by
  have h1 := fermat hp a
  have h2 := hp.1
  have ha : 0 < a := Nat.pos_of_ne_zero fun e => h (e ▸ Nat.dvd_zero p)
  obtain ⟨q, hq⟩ : ∃ q, p = q + 1 := ⟨p - 1, by omega⟩
  have e : a ^ p = a ^ (p - 1) * a := by rw [← Nat.pow_succ, show (p - 1).succ = p by omega]
  have hpos : 0 < a ^ (p - 1) := Nat.pow_pos ha
  have h3 : p ∣ a * (a ^ (p - 1) - 1) := by
    rw [Nat.mul_sub, Nat.mul_one, Nat.mul_comm, ← e]
    exact Nat.dvd_of_mod_eq_zero (Nat.sub_mod_eq_zero_of_mod_eq h1)
  rcases hp.split h3 with h4 | h4
  · exact absurd h4 h
  · obtain ⟨c, hc⟩ := h4
    rw [show a ^ (p - 1) = 1 + p * c by omega, Nat.add_mul_mod_self_left, Nat.mod_eq_of_lt (by omega)]

/-! ### powers, quickly -/
def pm (n : Nat) : Nat → Nat → Nat → Nat
  | 0, _, _ => 1 % n
  | f + 1, a, e => if e = 0 then 1 % n else if e % 2 = 1 then a * pm n f (a * a % n) (e / 2) % n else pm n f (a * a % n) (e / 2)
theorem pm_eq (n f a e : Nat) (h : e < 2 ^ f) : pm n f a e = a ^ e % n := by
  induction f generalizing a e with
  | zero =>
    have : e = 0 := by simpa using h
    subst this
    rfl
  | succ f ih =>
    rw [pm]
    by_cases he : e = 0
    · subst he; rfl
    · have h2 : e / 2 < 2 ^ f := by rw [Nat.pow_succ] at h; omega
      have e1 : a ^ (2 * (e / 2)) % n = (a * a % n) ^ (e / 2) % n := by rw [Nat.pow_mul, ← Nat.pow_mod, Nat.pow_two]
      rw [if_neg he, ih _ _ h2, ← e1]
      split
      · rename_i ho
        rw [show a ^ e = a * a ^ (2 * (e / 2)) by rw [Nat.mul_comm, ← Nat.pow_succ]; congr 1; omega, Nat.mul_mod_mod]
      · congr 2
        omega

/-! ### certificates -/
theorem pow_gcd {r a : Nat} (hr : 2 ≤ r) (m k : Nat) : a ^ m % r = 1 → a ^ k % r = 1 → a ^ Nat.gcd m k % r = 1 := by
  induction m, k using Nat.gcd.induction with
  | H0 k => intro _ h; rwa [Nat.gcd_zero_left]
  | H1 m k hm ih =>
    intro h1 h2
    rw [Nat.gcd_rec]
    refine ih ?_ h1
    have e : a ^ k = (a ^ m) ^ (k / m) * a ^ (k % m) := by rw [← Nat.pow_mul, ← Nat.pow_add, Nat.div_add_mod]
    rw [e, Nat.mul_mod, Nat.pow_mod, h1, Nat.one_pow, Nat.mod_eq_of_lt (show 1 < r by omega), Nat.one_mul, Nat.mod_mod] at h2
    exact h2
theorem pock_q {n a q h r : Nat} (h2 : 2 ≤ n) (hn : n - 1 = q * h) (hq : Pr q) (ha : a ^ (n - 1) % n = 1) (hg : Nat.gcd (a ^ h % n + (n - 1)) n = 1) (hr : Pr r) (hrn : r ∣ n) : q ∣ r - 1 := by
  have hr2 := hr.1
  have h1 : a ^ (n - 1) % r = 1 := by
    have := congrArg (· % r) ha
    simp only [Nat.mod_mod_of_dvd _ hrn] at this
    rw [this, Nat.mod_eq_of_lt (by omega)]
  have hra : ¬ r ∣ a := by
    intro hd
    have h3 : r ∣ a ^ (n - 1) := Nat.dvd_trans hd ⟨a ^ (n - 2), by rw [← Nat.pow_succ']; congr 1; omega⟩
    rw [Nat.mod_eq_zero_of_dvd h3] at h1
    omega
  have h4 := pow_gcd (by omega) (n - 1) (r - 1) h1 (fermat_one hr a hra)
  apply Classical.byContradiction
  intro hnd
  have h5 : Nat.gcd (n - 1) (r - 1) ∣ h := by
    have h6 : Nat.gcd (n - 1) (r - 1) ∣ q * h := hn ▸ Nat.gcd_dvd_left _ _
    have h7 : Nat.Coprime q (Nat.gcd (n - 1) (r - 1)) := hq.coprime fun hd => hnd (Nat.dvd_trans hd (Nat.gcd_dvd_right _ _))
    exact h7.symm.dvd_of_dvd_mul_left h6
  obtain ⟨c, hc⟩ := h5
  have h8 : a ^ h % r = 1 := by rw [hc, Nat.pow_mul, Nat.pow_mod, h4, Nat.one_pow, Nat.mod_eq_of_lt (by omega)]
  have h9 : a ^ h % n % r = 1 := by rw [Nat.mod_mod_of_dvd _ hrn, h8]
  obtain ⟨d, hd⟩ := hrn
  have h10 : r ∣ a ^ h % n + (n - 1) := by
    have := Nat.div_add_mod (a ^ h % n) r
    rw [h9] at this
    exact ⟨a ^ h % n / r + d, by rw [Nat.mul_add, ← hd]; omega⟩
  have h11 : r ∣ Nat.gcd (a ^ h % n + (n - 1)) n := Nat.dvd_gcd h10 ⟨d, hd⟩
  rw [hg] at h11
  have := Nat.le_of_dvd (by decide) h11
  omega
theorem pock {n Q : Nat} (h2 : 2 ≤ n) (hQ : n < Q * Q) (h : ∀ r, Pr r → r ∣ n → Q ∣ r - 1) : Pr n := by
  refine ⟨h2, fun d hd => ?_⟩
  apply Classical.byContradiction
  intro hne
  obtain ⟨e, he⟩ := hd
  have hd1 : d ≠ 1 := fun x => hne (.inl x)
  have hdn : d ≠ n := fun x => hne (.inr x)
  have hd0 : d ≠ 0 := by rintro rfl; rw [Nat.zero_mul] at he; omega
  have he0 : e ≠ 0 := by rintro rfl; rw [Nat.mul_zero] at he; omega
  have he1 : e ≠ 1 := by rintro rfl; rw [Nat.mul_one] at he; omega
  have key : ∀ u v, n = u * v → 2 ≤ u → u ≤ v → False := by
    intro u v huv hu hle
    obtain ⟨r, hr, hru⟩ := prime_divisor u hu
    obtain ⟨c, hc⟩ := h r hr (Nat.dvd_trans hru ⟨v, huv⟩)
    have hr2 := hr.1
    have hle2 := Nat.le_of_dvd (by omega) hru
    have hQr : Q ≤ r - 1 := by
      cases c with
      | zero => omega
      | succ c => rw [Nat.mul_succ] at hc; omega
    have h3 : Q * Q ≤ u * u := Nat.mul_le_mul (by omega) (by omega)
    have h4 : u * u ≤ u * v := Nat.mul_le_mul_left u hle
    omega
  rcases Nat.le_total d e with hle | hle
  · exact key d e he (by omega) hle
  · exact key e d (by rw [Nat.mul_comm]; exact he) (by omega) hle
theorem cert1 (n a q h f : Nat) (hq : Pr q) (hc : (decide (2 ≤ n) && decide (n - 1 = q * h) && decide (n < 2 ^ f) && decide (pm n f a (n - 1) = 1) && decide (Nat.gcd (pm n f a h + (n - 1)) n = 1) && decide (n < q * q)) = true) : Pr n := by
  simp only [Bool.and_eq_true, decide_eq_true_eq] at hc
  obtain ⟨⟨⟨⟨⟨c1, c2⟩, c3⟩, c4⟩, c5⟩, c6⟩ := hc
  have hq2 := hq.1
  have hh : h ≤ n - 1 := by rw [c2]; exact Nat.le_mul_of_pos_left h (by omega)
  rw [pm_eq _ _ _ _ (by omega)] at c4 c5
  exact pock c1 c6 fun r hr hrn => pock_q c1 c2 hq c4 c5 hr hrn
theorem cert2 (n a q h q' h' f : Nat) (hq : Pr q) (hq' : Pr q') (hc : (decide (2 ≤ n) && decide (n - 1 = q * h) && decide (n - 1 = q' * h') && decide (n < 2 ^ f) && decide (pm n f a (n - 1) = 1) && decide (Nat.gcd (pm n f a h + (n - 1)) n = 1) && decide (Nat.gcd (pm n f a h' + (n - 1)) n = 1) && decide (n < q * q' * (q * q')) && decide (q < q')) = true) : Pr n := by
  simp only [Bool.and_eq_true, decide_eq_true_eq] at hc
  obtain ⟨⟨⟨⟨⟨⟨⟨⟨c1, c2⟩, c2'⟩, c3⟩, c4⟩, c5⟩, c5'⟩, c6⟩, c7⟩ := hc
  have hq2 := hq.1
  have hq2' := hq'.1
  have hh : h ≤ n - 1 := by rw [c2]; exact Nat.le_mul_of_pos_left h (by omega)
  have hh' : h' ≤ n - 1 := by rw [c2']; exact Nat.le_mul_of_pos_left h' (by omega)
  rw [pm_eq _ _ _ _ (by omega)] at c4 c5 c5'
  refine pock c1 c6 fun r hr hrn => ?_
  have hco : Nat.Coprime q q' := hq.coprime fun hd => by
    rcases hq'.2 q hd with h | h <;> omega
  exact hco.mul_dvd_of_dvd_of_dvd (pock_q c1 c2 hq c4 c5 hr hrn) (pock_q c1 c2' hq' c4 c5' hr hrn)
/-- no divisor from 2 up to k + 1 -/
def free (n : Nat) : Nat → Bool
  | 0 => true
  | k + 1 => decide (n % (k + 2) ≠ 0) && free n k
theorem free_all (n k : Nat) (h : free n k = true) : ∀ d, 2 ≤ d → d ≤ k + 1 → ¬ d ∣ n := by
  induction k with
  | zero => intro d h1 h2; omega
  | succ k ih =>
    intro d h1 h2 hd
    rw [free, Bool.and_eq_true, decide_eq_true_eq] at h
    by_cases e : d = k + 2
    · subst e
      exact h.1 (Nat.mod_eq_zero_of_dvd hd)
    · exact ih h.2 d h1 (by omega) hd
theorem small (n k : Nat) (hc : (decide (2 ≤ n) && free n k && decide (n < (k + 2) * (k + 2))) = true) : Pr n := by
  simp only [Bool.and_eq_true, decide_eq_true_eq] at hc
  obtain ⟨⟨c1, c2⟩, c3⟩ := hc
  refine ⟨c1, fun d hd => ?_⟩
  apply Classical.byContradiction
  intro hne
  obtain ⟨e, he⟩ := hd
  have hd1 : d ≠ 1 := fun x => hne (.inl x)
  have hd0 : d ≠ 0 := by rintro rfl; rw [Nat.zero_mul] at he; omega
  have he0 : e ≠ 0 := by rintro rfl; rw [Nat.mul_zero] at he; omega
  have he1 : e ≠ 1 := by rintro rfl; rw [Nat.mul_one] at he; exact hne (.inr he.symm)
  have hfd : k + 2 ≤ d := by
    apply Classical.byContradiction
    intro h
    exact free_all n k c2 d (by omega) (by omega) ⟨e, he⟩
  have hfe : k + 2 ≤ e := by
    apply Classical.byContradiction
    intro h
    exact free_all n k c2 e (by omega) (by omega) ⟨d, by rw [Nat.mul_comm]; exact he⟩
  have := Nat.mul_le_mul hfd hfe
  omega

set_option maxRecDepth 100000
theorem pr127 : Pr 127 := small 127 10 (by decide +kernel)
theorem pr4153 : Pr 4153 := small 4153 63 (by decide +kernel)
theorem pr430751 : Pr 430751 := small 430751 655 (by decide +kernel)
theorem pr569003 : Pr 569003 := small 569003 753 (by decide +kernel)
theorem pr8574133 : Pr 8574133 := small 8574133 2927 (by decide +kernel)
theorem pr2773320623 : Pr 2773320623 := cert1 2773320623 2 569003 4874 32 pr569003 (by decide +kernel)
theorem pr72106336199 : Pr 72106336199 := cert1 72106336199 2 2773320623 26 37 pr2773320623 (by decide +kernel)
theorem pr1919519569386763 : Pr 1919519569386763 := cert2 1919519569386763 2 127 15114327318006 8574133 223873314 51 pr127 pr8574133 (by decide +kernel)
theorem pr31757755568855353 : Pr 31757755568855353 := cert2 31757755568855353 2 4153 7646943310584 430751 73726481352 55 pr4153 pr430751 (by decide +kernel)
theorem pr543864801 : Pr 75445702479781427272750846543864801 := cert2 75445702479781427272750846543864801 2 72106336199 1046311689884858398375200 1919519569386763 39304471641247389600 116 pr72106336199 pr1919519569386763 (by decide +kernel)
theorem prQ : Pr 74058212732561358302231226437062788676166966415465897661863160754340907 := cert2 74058212732561358302231226437062788676166966415465897661863160754340907 2 31757755568855353 2331972502653487852620185443007392165117953542933313402 75445702479781427272750846543864801 981609426360740691344999861639072106 236 pr31757755568855353 pr543864801 (by decide +kernel)
theorem prP : Pr 57896044618658097711785492504343953926634992332820282019728792003956564819949 := cert1 57896044618658097711785492504343953926634992332820282019728792003956564819949 2 74058212732561358302231226437062788676166966415465897661863160754340907 781764 255 prQ (by decide +kernel)

/-! ### numbers modulo a prime -/
theorem mod_of_dvd_sub {p a b : Nat} (h : b ≤ a) (hd : p ∣ a - b) : a % p = b % p := by
  obtain ⟨c, hc⟩ := hd
  rw [show a = b + p * c by omega, Nat.add_mul_mod_self_left]
theorem inv_mul {p : Nat} (hp : Pr p) (x : Nat) (h : ¬ p ∣ x) : x * x ^ (p - 2) % p = 1 := by
  have h2 := hp.1
  rw [← Nat.pow_succ', show (p - 2).succ = p - 1 by omega]
  exact fermat_one hp x h
/-- two numbers of one square are alike, or each other's contraries -/
theorem two_roots {p : Nat} (hp : Pr p) (x y : Nat) (h : x * x % p = y * y % p) : x % p = y % p ∨ (x + y) % p = 0 := by
  have key : ∀ a b : Nat, b ≤ a → a * a % p = b * b % p → a % p = b % p ∨ (a + b) % p = 0 := by
    intro a b hle h
    have h1 : p ∣ a * a - b * b := Nat.dvd_of_mod_eq_zero (Nat.sub_mod_eq_zero_of_mod_eq h)
    rw [Nat.mul_self_sub_mul_self_eq] at h1
    rcases hp.split h1 with h2 | h2
    · exact .inr (Nat.mod_eq_zero_of_dvd h2)
    · exact .inl (mod_of_dvd_sub hle h2)
  rcases Nat.le_total x y with hle | hle
  · rcases key y x hle h.symm with h1 | h1
    · exact .inl h1.symm
    · exact .inr (by rw [Nat.add_comm]; exact h1)
  · exact key x y hle h

/-! ### p = 2^255 - 19 -/
def p25 : Nat := 57896044618658097711785492504343953926634992332820282019728792003956564819949
theorem p25_prime : Pr p25 := prP
theorem p25_pos : 0 < p25 := by decide
/-- half of p - 1 -/
def e25 : Nat := 28948022309329048855892746252171976963317496166410141009864396001978282409974
/-- what has a root -/
def Sq (x : Nat) : Prop := ∃ y, y * y % p25 = x % p25
theorem sq_power (x : Nat) (h : ¬ p25 ∣ x) (hs : Sq x) : x ^ e25 % p25 = 1 := by
  obtain ⟨y, hy⟩ := hs
  have hny : ¬ p25 ∣ y := by
    intro hd
    apply h
    have h1 : y * y % p25 = 0 := Nat.mod_eq_zero_of_dvd (Nat.dvd_trans hd ⟨y, rfl⟩)
    rw [h1] at hy
    exact Nat.dvd_of_mod_eq_zero hy.symm
  rw [Nat.pow_mod, ← hy, ← Nat.pow_mod, ← Nat.pow_two, ← Nat.pow_mul, show 2 * e25 = p25 - 1 by decide]
  exact fermat_one p25_prime y hny
/-- a quarter of p - 1, and an eighth of p + 3 -/
def q25 : Nat := 14474011154664524427946373126085988481658748083205070504932198000989141204987
def d25 : Nat := 7237005577332262213973186563042994240829374041602535252466099000494570602494
theorem q25_two : q25 + q25 = e25 := by decide
theorem d25_two : d25 + d25 = q25 + 1 := by decide
/-- a root's candidate -/
def c25 (x : Nat) : Nat := x ^ d25
/-- a root of -1 -/
def i25 : Nat := 19681161376707505956807079304988542015446066515923890162744021073123829784752
theorem i25_two : i25 * i25 % p25 = p25 - 1 := by decide
theorem minus_one (x y z : Nat) (hx : x % p25 = p25 - 1) (hy : y % p25 = p25 - 1) : x * (y * z) % p25 = z % p25 := by
  rw [← Nat.mul_assoc, Nat.mul_mod, Nat.mul_mod x y, hx, hy, show (p25 - 1) * (p25 - 1) % p25 = 1 by decide, Nat.one_mul, Nat.mod_mod]
theorem cand (x : Nat) (hp : x ^ e25 % p25 = 1) : c25 x * c25 x % p25 = x % p25 ∨ (c25 x * i25) * (c25 x * i25) % p25 = x % p25 := by
  have h1 : c25 x * c25 x = x * x ^ q25 := by
    unfold c25
    rw [← Nat.pow_add, d25_two, Nat.pow_succ']
  have h2 : x ^ q25 * x ^ q25 % p25 = 1 * 1 % p25 := by
    rw [← Nat.pow_add, q25_two, hp]
    decide
  rcases two_roots p25_prime _ _ h2 with h3 | h3
  · left
    rw [h1, Nat.mul_mod, h3, ← Nat.mul_mod, Nat.mul_one]
  · right
    have h4 : x ^ q25 % p25 = p25 - 1 := by
      have h5 := Nat.mod_lt (x ^ q25) p25_pos
      rw [Nat.add_mod] at h3
      generalize x ^ q25 % p25 = y at *
      rw [show 1 % p25 = 1 by decide] at h3
      by_cases h6 : y + 1 < p25
      · rw [Nat.mod_eq_of_lt h6] at h3
        omega
      · omega
    rw [show c25 x * i25 * (c25 x * i25) = (c25 x * c25 x) * (i25 * i25) by simp only [Nat.mul_assoc, Nat.mul_left_comm], h1, Nat.mul_comm, show i25 * i25 * (x * x ^ q25) = i25 * i25 * (x ^ q25 * x) by rw [Nat.mul_comm x]]
    exact minus_one _ _ _ i25_two h4
/-- a number's contrary is of the other parity, below p -/
theorem contrary_odd (r : Nat) (hr : r < p25) : (p25 - r) % 2 ≠ r % 2 := by
  have : p25 % 2 = 1 := by decide
  omega
end Go.Proofs.YtdjglghecekeoaaGreatDoor.F

/- Numbers modulo p as a ring in which what is not 0 has an inverse. Nothing of the program is named here. -/
namespace Go.Proofs.YtdjglghecekeoaaGreatDoor.C
open Go.Proofs.YtdjglghecekeoaaGreatDoor.F

instance : NeZero p25 := ⟨by decide⟩
abbrev Z := Fin p25
/-- a number modulo p -/
def z (n : Nat) : Z := Fin.ofNat p25 n
theorem z_val (n : Nat) : (z n).val = n % p25 := rfl
theorem z_iff {m n : Nat} : z m = z n ↔ m % p25 = n % p25 := ⟨fun h => congrArg Fin.val h, fun h => Fin.ext h⟩
theorem z_mod (n : Nat) : z (n % p25) = z n := z_iff.2 (Nat.mod_mod _ _)
theorem z_back (x : Z) : z x.val = x := Fin.ext (Nat.mod_eq_of_lt x.isLt)
theorem z_add (m n : Nat) : z (m + n) = z m + z n := Fin.ext (by rw [Fin.val_add, z_val, z_val, z_val, ← Nat.add_mod])
theorem z_mul (m n : Nat) : z (m * n) = z m * z n := Fin.ext (by rw [Fin.val_mul, z_val, z_val, z_val, ← Nat.mul_mod])
theorem z_zero : z 0 = 0 := rfl
theorem z_one : z 1 = 1 := rfl
theorem z_p : z p25 = 0 := Fin.ext (by rw [z_val, Nat.mod_self]; rfl)
theorem z_sub (m n : Nat) : z (m + (p25 - n % p25)) = z m - z n := by
  have h : z (p25 - n % p25) + z n = 0 := by
    rw [← z_mod n, ← z_add, Nat.sub_add_cancel (Nat.le_of_lt (Nat.mod_lt _ p25_pos)), z_p]
  rw [z_add]
  grind
theorem z_is_zero {n : Nat} : z n = 0 ↔ n % p25 = 0 := by
  rw [← z_zero, z_iff, Nat.zero_mod]
theorem zmul_zero {x y : Z} (h : x * y = 0) : x = 0 ∨ y = 0 := by
  rw [← z_back x, ← z_back y, ← z_mul, z_is_zero] at h
  rcases p25_prime.split (Nat.dvd_of_mod_eq_zero h) with h1 | h1
  · left; rw [← z_back x, z_is_zero]; exact Nat.mod_eq_zero_of_dvd h1
  · right; rw [← z_back y, z_is_zero]; exact Nat.mod_eq_zero_of_dvd h1
theorem zcancel {a x y : Z} (ha : a ≠ 0) (h : a * x = a * y) : x = y := by
  have h1 : a * (x - y) = 0 := by grind
  rcases zmul_zero h1 with h2 | h2
  · exact absurd h2 ha
  · grind
theorem zmul_ne {x y : Z} (hx : x ≠ 0) (hy : y ≠ 0) : x * y ≠ 0 := fun h => by
  rcases zmul_zero h with h | h
  · exact hx h
  · exact hy h
/-- the number whose product with x is 1 -/
def zinv (x : Z) : Z := z (x.val ^ (p25 - 2))
attribute [irreducible] zinv
theorem zinv_mul {x : Z} (h : x ≠ 0) : x * zinv x = 1 := by
  have hd : ¬ p25 ∣ x.val := fun hd => h (by rw [← z_back x, z_is_zero]; exact Nat.mod_eq_zero_of_dvd hd)
  have h1 := inv_mul p25_prime x.val hd
  have h2 : z (x.val * x.val ^ (p25 - 2)) = z 1 := z_iff.2 (by rw [h1]; decide)
  rw [z_mul, z_back] at h2
  unfold zinv
  exact h2
theorem one_ne : (1 : Z) ≠ 0 := by decide
theorem two_ne : (2 : Z) ≠ 0 := by decide

/-- a root of -1 -/
def zi : Z := z i25
theorem zi_two : zi * zi = -1 := by
  have h := i25_two
  have h1 : z (i25 * i25) = z (p25 - 1) := z_iff.2 (by rw [h]; decide)
  have h2 : z (p25 - 1) + z 1 = 0 := by
    rw [← z_add, show p25 - 1 + 1 = p25 by decide, z_p]
  rw [z_mul, z_one] at *
  show z i25 * z i25 = -1
  grind
/-- the curve's number d -/
def dN : Nat := 37095705934669439343138083508754565189542113879843219016388785533085940283555
def dd : Z := z dN
theorem dN_power : dN ^ e25 % p25 = p25 - 1 := by
  have h : pm p25 255 dN e25 = p25 - 1 := by decide +kernel
  rwa [pm_eq _ _ _ _ (by decide)] at h
theorem d_no_root (w : Z) : w * w ≠ dd := fun h => by
  have hs : Sq dN := ⟨w.val, by
    have h1 : z (w.val * w.val) = z dN := by rw [z_mul, z_back]; exact h
    exact z_iff.1 h1⟩
  have h1 := sq_power dN (fun hd => absurd (Nat.le_of_dvd (by decide) hd) (by decide)) hs
  rw [dN_power] at h1
  exact absurd h1 (by decide)
attribute [irreducible] z zi dd
theorem d_no_quot {u v : Z} (hv : v ≠ 0) : u * u ≠ dd * (v * v) := fun h => by
  have hi := zinv_mul hv
  refine d_no_root (u * zinv v) ?_
  grind
end Go.Proofs.YtdjglghecekeoaaGreatDoor.C

/- The curve's points and their sums: sums are points, and hang neither on order nor on brackets. Nothing of the program is named here. -/
namespace Go.Proofs.YtdjglghecekeoaaGreatDoor.C
open Go.Proofs.YtdjglghecekeoaaGreatDoor.F

def On (x y : Z) : Prop := y * y - x * x = 1 + dd * (x * x * (y * y))
/-- what stands in both denominators -/
def kk (x1 y1 x2 y2 : Z) : Z := dd * (x1 * x2 * (y1 * y2))

theorem complete {x1 y1 x2 y2 : Z} (h1 : On x1 y1) (h2 : On x2 y2) : kk x1 y1 x2 y2 * kk x1 y1 x2 y2 ≠ 1 := by
  intro hee
  unfold On at h1 h2
  have hi := zi_two
  obtain ⟨e, he⟩ : ∃ e, kk x1 y1 x2 y2 = e := ⟨_, rfl⟩
  rw [he] at hee
  unfold kk at he
  have hxy : x1 * y1 ≠ 0 := fun h => by
    have : e = 0 := by grind
    rw [this] at hee
    exact absurd hee (by decide)
  have k1 : (zi * x1 + e * y1) * (zi * x1 + e * y1) = dd * ((x1 * y1 * (zi * x2 + y2)) * (x1 * y1 * (zi * x2 + y2))) := by grind
  have k2 : (zi * x1 - e * y1) * (zi * x1 - e * y1) = dd * ((x1 * y1 * (zi * x2 - y2)) * (x1 * y1 * (zi * x2 - y2))) := by grind
  by_cases s : zi * x2 + y2 = 0
  · by_cases t : zi * x2 - y2 = 0
    · have h3 : 2 * y2 = 0 := by grind
      rcases zmul_zero h3 with h4 | h4
      · exact two_ne h4
      · have : e = 0 := by grind
        rw [this] at hee
        exact absurd hee (by decide)
    · exact d_no_quot (zmul_ne hxy t) k2
  · exact d_no_quot (zmul_ne hxy s) k1
theorem plus_ne {x1 y1 x2 y2 : Z} (h1 : On x1 y1) (h2 : On x2 y2) : 1 + kk x1 y1 x2 y2 ≠ 0 := fun h => complete h1 h2 (by grind)
theorem minus_ne {x1 y1 x2 y2 : Z} (h1 : On x1 y1) (h2 : On x2 y2) : 1 - kk x1 y1 x2 y2 ≠ 0 := fun h => complete h1 h2 (by grind)

/-! ### points -/
structure Pt where
  x : Z
  y : Z
theorem Pt.same {P Q : Pt} (hx : P.x = Q.x) (hy : P.y = Q.y) : P = Q := by
  cases P; cases Q; simp only at hx hy; rw [hx, hy]
def Pt.On (P : Pt) : Prop := C.On P.x P.y
def Pt.k (P Q : Pt) : Z := kk P.x P.y Q.x Q.y
def Pt.add (P Q : Pt) : Pt := ⟨(P.x * Q.y + Q.x * P.y) * zinv (1 + P.k Q), (P.y * Q.y + P.x * Q.x) * zinv (1 - P.k Q)⟩
def Pt.zero : Pt := ⟨0, 1⟩
def Pt.neg (P : Pt) : Pt := ⟨-P.x, P.y⟩
theorem Pt.zero_on : Pt.zero.On := by
  unfold Pt.On C.On Pt.zero
  grind
theorem Pt.neg_on {P : Pt} (h : P.On) : P.neg.On := by
  unfold Pt.On C.On Pt.neg at *
  grind

/-- the sum, without a division -/
theorem Pt.add_is {P Q : Pt} (h1 : P.On) (h2 : Q.On) : (P.add Q).x * (1 + P.k Q) = P.x * Q.y + Q.x * P.y ∧ (P.add Q).y * (1 - P.k Q) = P.y * Q.y + P.x * Q.x := by
  have i1 := zinv_mul (plus_ne h1 h2)
  have i2 := zinv_mul (minus_ne h1 h2)
  unfold Pt.add Pt.k at *
  constructor
  · grind
  · grind
/-- .. and nothing else is it -/
theorem Pt.add_only {P Q R : Pt} (h1 : P.On) (h2 : Q.On) (hx : R.x * (1 + P.k Q) = P.x * Q.y + Q.x * P.y) (hy : R.y * (1 - P.k Q) = P.y * Q.y + P.x * Q.x) : R = P.add Q := by
  obtain ⟨a, b⟩ := Pt.add_is h1 h2
  refine Pt.same ?_ ?_
  · exact zcancel (plus_ne h1 h2) (by rw [show (1 + kk P.x P.y Q.x Q.y) = 1 + P.k Q from rfl]; grind)
  · exact zcancel (minus_ne h1 h2) (by rw [show (1 - kk P.x P.y Q.x Q.y) = 1 - P.k Q from rfl]; grind)

theorem sum_on {x1 y1 x2 y2 x3 y3 k : Z} (h1 : y1 * y1 - x1 * x1 = 1 + dd * (x1 * x1 * (y1 * y1))) (h2 : y2 * y2 - x2 * x2 = 1 + dd * (x2 * x2 * (y2 * y2))) (hk : k = dd * (x1 * x2 * (y1 * y2)))
    (hx : x3 * (1 + k) = x1 * y2 + x2 * y1) (hy : y3 * (1 - k) = y1 * y2 + x1 * x2) : ((1 + k) * (1 - k)) * ((1 + k) * (1 - k)) * (y3 * y3 - x3 * x3) = ((1 + k) * (1 - k)) * ((1 + k) * (1 - k)) * (1 + dd * (x3 * x3 * (y3 * y3))) := by
  have e1 : ((1 + k) * (1 - k)) * ((1 + k) * (1 - k)) * (y3 * y3 - x3 * x3) = (1 + k) * (1 + k) * ((y1 * y2 + x1 * x2) * (y1 * y2 + x1 * x2)) - (1 - k) * (1 - k) * ((x1 * y2 + x2 * y1) * (x1 * y2 + x2 * y1)) := by
    rw [← hx, ← hy]; grind
  have e2 : ((1 + k) * (1 - k)) * ((1 + k) * (1 - k)) * (1 + dd * (x3 * x3 * (y3 * y3))) = (1 - k * k) * (1 - k * k) + dd * ((x1 * y2 + x2 * y1) * (x1 * y2 + x2 * y1) * ((y1 * y2 + x1 * x2) * (y1 * y2 + x1 * x2))) := by
    rw [← hx, ← hy]; grind
  rw [e1, e2, hk]
  clear e1 e2 hx hy hk
  grind
theorem Pt.add_on {P Q : Pt} (h1 : P.On) (h2 : Q.On) : (P.add Q).On := by
  obtain ⟨a, b⟩ := Pt.add_is h1 h2
  have hne : ((1 + P.k Q) * (1 - P.k Q)) * ((1 + P.k Q) * (1 - P.k Q)) ≠ 0 := zmul_ne (zmul_ne (plus_ne h1 h2) (minus_ne h1 h2)) (zmul_ne (plus_ne h1 h2) (minus_ne h1 h2))
  exact zcancel hne (sum_on h1 h2 rfl a b)

theorem Pt.add_comm (P Q : Pt) : P.add Q = Q.add P := by
  have hk : P.k Q = Q.k P := by unfold Pt.k kk; grind
  unfold Pt.add
  rw [hk, show P.x * Q.y + Q.x * P.y = Q.x * P.y + P.x * Q.y by grind, show P.y * Q.y + P.x * Q.x = Q.y * P.y + Q.x * P.x by grind]
theorem Pt.add_zero {P : Pt} (h : P.On) : P.add Pt.zero = P := by
  refine (Pt.add_only h Pt.zero_on ?_ ?_).symm
  · unfold Pt.k kk Pt.zero; grind
  · unfold Pt.k kk Pt.zero; grind
theorem Pt.zero_add {P : Pt} (h : P.On) : Pt.zero.add P = P := by rw [Pt.add_comm, Pt.add_zero h]
theorem Pt.add_neg {P : Pt} (h : P.On) : P.add P.neg = Pt.zero := by
  refine (Pt.add_only h (Pt.neg_on h) ?_ ?_).symm
  · unfold Pt.k kk Pt.zero Pt.neg; grind
  · unfold Pt.On C.On at h
    unfold Pt.k kk Pt.zero Pt.neg
    grind

set_option maxHeartbeats 4000000 in
theorem assoc_x {x1 y1 x2 y2 x3 y3 d : Z} (h1 : y1 * y1 - x1 * x1 = 1 + d * (x1 * x1 * (y1 * y1))) (h2 : y2 * y2 - x2 * x2 = 1 + d * (x2 * x2 * (y2 * y2))) (h3 : y3 * y3 - x3 * x3 = 1 + d * (x3 * x3 * (y3 * y3))) :
    ((x1*y2+x2*y1)*(1 - d*(x1*x2*(y1*y2)))*y3 + x3*(y1*y2+x1*x2)*(1 + d*(x1*x2*(y1*y2)))) * ((1 + d*(x2*x3*(y2*y3)))*(1 - d*(x2*x3*(y2*y3))) + d*(x1*y1*(x2*y3+x3*y2)*(y2*y3+x2*x3)))
      = (x1*(y2*y3+x2*x3)*(1 + d*(x2*x3*(y2*y3))) + y1*(x2*y3+x3*y2)*(1 - d*(x2*x3*(y2*y3)))) * ((1 + d*(x1*x2*(y1*y2)))*(1 - d*(x1*x2*(y1*y2))) + d*((x1*y2+x2*y1)*(y1*y2+x1*x2)*x3*y3)) := by grind (splits := 0)
set_option maxHeartbeats 4000000 in
theorem assoc_y {x1 y1 x2 y2 x3 y3 d : Z} (h1 : y1 * y1 - x1 * x1 = 1 + d * (x1 * x1 * (y1 * y1))) (h2 : y2 * y2 - x2 * x2 = 1 + d * (x2 * x2 * (y2 * y2))) (h3 : y3 * y3 - x3 * x3 = 1 + d * (x3 * x3 * (y3 * y3))) :
    ((y1*y2+x1*x2)*(1 + d*(x1*x2*(y1*y2)))*y3 + (x1*y2+x2*y1)*(1 - d*(x1*x2*(y1*y2)))*x3) * ((1 + d*(x2*x3*(y2*y3)))*(1 - d*(x2*x3*(y2*y3))) - d*(x1*y1*(x2*y3+x3*y2)*(y2*y3+x2*x3)))
      = (y1*(y2*y3+x2*x3)*(1 + d*(x2*x3*(y2*y3))) + x1*(x2*y3+x3*y2)*(1 - d*(x2*x3*(y2*y3)))) * ((1 + d*(x1*x2*(y1*y2)))*(1 - d*(x1*x2*(y1*y2))) - d*((x1*y2+x2*y1)*(y1*y2+x1*x2)*x3*y3)) := by grind (splits := 0)

theorem Pt.add_assoc {P Q R : Pt} (h1 : P.On) (h2 : Q.On) (h3 : R.On) : (P.add Q).add R = P.add (Q.add R) := by
  have hPQ := Pt.add_on h1 h2
  have hQR := Pt.add_on h2 h3
  obtain ⟨a1, b1⟩ := Pt.add_is h1 h2
  obtain ⟨a2, b2⟩ := Pt.add_is h2 h3
  obtain ⟨a3, b3⟩ := Pt.add_is hPQ h3
  obtain ⟨a4, b4⟩ := Pt.add_is h1 hQR
  have n1 := plus_ne h1 h2
  have m1 := minus_ne h1 h2
  have n2 := plus_ne h2 h3
  have m2 := minus_ne h2 h3
  have n3 := plus_ne hPQ h3
  have m3 := minus_ne hPQ h3
  have n4 := plus_ne h1 hQR
  have m4 := minus_ne h1 hQR
  have hx := assoc_x h1 h2 h3
  have hy := assoc_y h1 h2 h3
  unfold Pt.k at a1 b1 a2 b2 a3 b3 a4 b4
  unfold kk at a1 b1 a2 b2 a3 b3 a4 b4 n1 m1 n2 m2 n3 m3 n4 m4
  clear h1 h2 h3 hPQ hQR
  generalize ((P.add Q).add R) = L at *
  generalize (P.add (Q.add R)) = M at *
  generalize P.add Q = U at *
  generalize Q.add R = V at *
  obtain ⟨x1, y1⟩ := P
  obtain ⟨x2, y2⟩ := Q
  obtain ⟨x3, y3⟩ := R
  obtain ⟨u, v⟩ := U
  obtain ⟨s, t⟩ := V
  obtain ⟨p, q⟩ := L
  obtain ⟨p', q'⟩ := M
  simp only at *
  obtain ⟨k, hk⟩ : ∃ k, dd * (x1 * x2 * (y1 * y2)) = k := ⟨_, rfl⟩
  obtain ⟨l, hl⟩ : ∃ l, dd * (x2 * x3 * (y2 * y3)) = l := ⟨_, rfl⟩
  rw [hk] at a1 b1 n1 m1 hx hy
  rw [hl] at a2 b2 n2 m2 hx hy
  rw [← a1, ← b1, ← a2, ← b2] at hx hy
  have hxx : ((1 + k) * (1 - k) * (1 + dd * (u * x3 * (v * y3)))) * ((1 + l) * (1 - l) * (1 + dd * (x1 * s * (y1 * t)))) * p = ((1 + k) * (1 - k) * (1 + dd * (u * x3 * (v * y3)))) * ((1 + l) * (1 - l) * (1 + dd * (x1 * s * (y1 * t)))) * p' := by
    have e1 : p * (1 + dd * (u * x3 * (v * y3))) * ((1 + k) * (1 - k)) = (u * (1 + k)) * (1 - k) * y3 + x3 * (v * (1 - k)) * (1 + k) := by rw [a3]; clear hx hy; grind
    have e2 : p' * (1 + dd * (x1 * s * (y1 * t))) * ((1 + l) * (1 - l)) = x1 * (t * (1 - l)) * (1 + l) + y1 * (s * (1 + l)) * (1 - l) := by rw [a4]; clear hx hy; grind
    have e3 : (1 + l) * (1 - l) + dd * (x1 * y1 * (s * (1 + l)) * (t * (1 - l))) = (1 + l) * (1 - l) * (1 + dd * (x1 * s * (y1 * t))) := by clear hx hy; grind
    have e4 : (1 + k) * (1 - k) + dd * ((u * (1 + k)) * (v * (1 - k)) * x3 * y3) = (1 + k) * (1 - k) * (1 + dd * (u * x3 * (v * y3))) := by clear hx hy; grind
    rw [← e1, ← e2, e3, e4] at hx
    clear hy e1 e2 e3 e4 a1 b1 a2 b2 a3 b3 a4 b4 hk hl
    grind
  have hyy : ((1 + k) * (1 - k) * (1 - dd * (u * x3 * (v * y3)))) * ((1 + l) * (1 - l) * (1 - dd * (x1 * s * (y1 * t)))) * q = ((1 + k) * (1 - k) * (1 - dd * (u * x3 * (v * y3)))) * ((1 + l) * (1 - l) * (1 - dd * (x1 * s * (y1 * t)))) * q' := by
    have e1 : q * (1 - dd * (u * x3 * (v * y3))) * ((1 + k) * (1 - k)) = (v * (1 - k)) * (1 + k) * y3 + (u * (1 + k)) * (1 - k) * x3 := by rw [b3]; clear hx hy; grind
    have e2 : q' * (1 - dd * (x1 * s * (y1 * t))) * ((1 + l) * (1 - l)) = y1 * (t * (1 - l)) * (1 + l) + x1 * (s * (1 + l)) * (1 - l) := by rw [b4]; clear hx hy; grind
    have e3 : (1 + l) * (1 - l) - dd * (x1 * y1 * (s * (1 + l)) * (t * (1 - l))) = (1 + l) * (1 - l) * (1 - dd * (x1 * s * (y1 * t))) := by clear hx hy; grind
    have e4 : (1 + k) * (1 - k) - dd * ((u * (1 + k)) * (v * (1 - k)) * x3 * y3) = (1 + k) * (1 - k) * (1 - dd * (u * x3 * (v * y3))) := by clear hx hy; grind
    rw [← e1, ← e2, e3, e4] at hy
    clear hx e1 e2 e3 e4 a1 b1 a2 b2 a3 b3 a4 b4 hk hl
    grind
  refine Pt.same ?_ ?_
  · exact zcancel (zmul_ne (zmul_ne (zmul_ne n1 m1) n3) (zmul_ne (zmul_ne n2 m2) n4)) hxx
  · exact zcancel (zmul_ne (zmul_ne (zmul_ne n1 m1) m3) (zmul_ne (zmul_ne n2 m2) m4)) hyy
end Go.Proofs.YtdjglghecekeoaaGreatDoor.C

/- A point so many times; points by three numbers; the base point, and how often it is zero. Nothing of the program is named here. -/
namespace Go.Proofs.YtdjglghecekeoaaGreatDoor.C
open Go.Proofs.YtdjglghecekeoaaGreatDoor.F

/-! ### so many times -/
def Pt.smul (P : Pt) : Nat → Pt
  | 0 => Pt.zero
  | n + 1 => (P.smul n).add P
section
variable {P : Pt} (h : P.On)
include h
theorem Pt.smul_on (n : Nat) : (P.smul n).On := by
  induction n with
  | zero => exact Pt.zero_on
  | succ n ih => exact Pt.add_on ih h
theorem Pt.smul_one : P.smul 1 = P := Pt.zero_add h
theorem Pt.smul_add (m n : Nat) : P.smul (m + n) = (P.smul m).add (P.smul n) := by
  induction n with
  | zero => exact (Pt.add_zero (Pt.smul_on h m)).symm
  | succ n ih =>
    show (P.smul (m + n)).add P = (P.smul m).add ((P.smul n).add P)
    rw [ih, Pt.add_assoc (Pt.smul_on h m) (Pt.smul_on h n) h]
theorem Pt.smul_two (n : Nat) : P.smul (2 * n) = (P.smul n).add (P.smul n) := by rw [Nat.two_mul, Pt.smul_add h]
theorem Pt.smul_mul (m n : Nat) : P.smul (m * n) = (P.smul m).smul n := by
  induction n with
  | zero => rfl
  | succ n ih =>
    rw [Nat.mul_succ, Pt.smul_add h, ih]
    rfl
theorem Pt.smul_mod {L : Nat} (hL : P.smul L = Pt.zero) (n : Nat) : P.smul (n % L) = P.smul n := by
  have h0 : ∀ q, Pt.zero.smul q = Pt.zero := fun q => by
    induction q with
    | zero => rfl
    | succ q ih =>
      show (Pt.zero.smul q).add Pt.zero = Pt.zero
      rw [ih, Pt.add_zero Pt.zero_on]
  conv => rhs; rw [← Nat.div_add_mod n L]
  rw [Pt.smul_add h, Pt.smul_mul h, hL, h0, Pt.zero_add (Pt.smul_on h _)]
end

/-! ### points by three numbers -/
/-- x is X / Z, y is Y / Z -/
structure Rep (X Y Zc : Z) (P : Pt) : Prop where
  ne : Zc ≠ 0
  x : X = P.x * Zc
  y : Y = P.y * Zc
theorem Rep.same {X Y Zc : Z} {P Q : Pt} (h1 : Rep X Y Zc P) (h2 : Rep X Y Zc Q) : P = Q := by
  obtain ⟨n, a, b⟩ := h1
  obtain ⟨_, c, d⟩ := h2
  exact Pt.same (zcancel n (by grind)) (zcancel n (by grind))
theorem Rep.zero : Rep 0 1 1 Pt.zero := ⟨one_ne, by unfold Pt.zero; grind, by unfold Pt.zero; grind⟩
theorem Rep.one (P : Pt) : Rep P.x P.y 1 P := ⟨one_ne, by grind, by grind⟩
theorem rF (a b c e p q d : Z) : (p * q) * (p * q) - d * ((a * p) * (c * q) * ((b * p) * (e * q))) = ((p * q) * (p * q)) * (1 - d * (a * c * (b * e))) := by grind
theorem rG (a b c e p q d : Z) : (p * q) * (p * q) + d * ((a * p) * (c * q) * ((b * p) * (e * q))) = ((p * q) * (p * q)) * (1 + d * (a * c * (b * e))) := by grind
theorem rX (a b c e p q : Z) : (a * p) * (e * q) + (c * q) * (b * p) = (p * q) * (a * e + c * b) := by grind
theorem rY (a b c e p q : Z) : (b * p) * (e * q) + (a * p) * (c * q) = (p * q) * (b * e + a * c) := by grind
theorem rU (A u k : Z) : A * (A * A * (1 - k)) * (A * (u * (1 + k))) = u * (A * A * (1 - k) * (A * A * (1 + k))) := by grind
theorem rV (A v k : Z) : A * (A * A * (1 + k)) * (A * (v * (1 - k))) = v * (A * A * (1 - k) * (A * A * (1 + k))) := by grind
/-- their sum by three numbers: nothing is divided -/
theorem Rep.add {X1 Y1 Z1 X2 Y2 Z2 : Z} {P Q : Pt} (h1 : Rep X1 Y1 Z1 P) (h2 : Rep X2 Y2 Z2 Q) (hP : P.On) (hQ : Q.On) {A B C D E F G : Z} (hA : A = Z1 * Z2) (hB : B = A * A) (hC : C = X1 * X2) (hD : D = Y1 * Y2) (hE : E = dd * (C * D)) (hF : F = B - E) (hG : G = B + E) :
    Rep (A * F * (X1 * Y2 + X2 * Y1)) (A * G * (D + C)) (F * G) (P.add Q) := by
  obtain ⟨n1, a1, b1⟩ := h1
  obtain ⟨n2, a2, b2⟩ := h2
  obtain ⟨sx, sy⟩ := Pt.add_is hP hQ
  have np := plus_ne hP hQ
  have nm := minus_ne hP hQ
  rw [show kk P.x P.y Q.x Q.y = P.k Q from rfl] at np nm
  have hk : P.k Q = dd * (P.x * Q.x * (P.y * Q.y)) := rfl
  generalize P.k Q = k at *
  obtain ⟨u, hu⟩ : ∃ u, (P.add Q).x = u := ⟨_, rfl⟩
  obtain ⟨v, hv⟩ : ∃ v, (P.add Q).y = v := ⟨_, rfl⟩
  rw [hu] at sx
  rw [hv] at sy
  have eF : F = B * (1 - k) := by rw [hF, hE, hC, hD, a1, a2, b1, b2, hB, hA, hk, rF]
  have eG : G = B * (1 + k) := by rw [hG, hE, hC, hD, a1, a2, b1, b2, hB, hA, hk, rG]
  have hBne : B ≠ 0 := by
    rw [hB, hA]
    exact zmul_ne (zmul_ne n1 n2) (zmul_ne n1 n2)
  have ex : X1 * Y2 + X2 * Y1 = A * (P.x * Q.y + Q.x * P.y) := by rw [hA, a1, a2, b1, b2, rX]
  have ey : D + C = A * (P.y * Q.y + P.x * Q.x) := by rw [hC, hD, hA, a1, a2, b1, b2, rY]
  refine ⟨?_, ?_, ?_⟩
  · rw [eF, eG]
    exact zmul_ne (zmul_ne hBne nm) (zmul_ne hBne np)
  · rw [hu, ex, ← sx, eF, eG, hB, rU]
  · rw [hv, ey, ← sy, eF, eG, hB, rV]

/-! ### the base point -/
def bxN : Nat := 15112221349535400772501151409588531511454012693041857206046113283949847762202
def byN : Nat := 46316835694926478169428394003475163141307993866256225615783033603165251855960
def Bp : Pt := ⟨z bxN, z byN⟩
theorem on_nat {x y : Nat} (h : (y * y) % p25 = (1 + dN * (x * x * (y * y)) + x * x) % p25) : On (z x) (z y) := by
  have h1 := z_iff.2 h
  simp only [z_add, z_mul, z_one] at h1
  have h2 : z dN = dd := by unfold dd; rfl
  rw [h2] at h1
  unfold On
  grind
theorem Bp_on : Bp.On := on_nat (x := bxN) (y := byN) (by decide)
def l25' : Nat := 7237005577332262213973186563042994240857116359379907606001950938285454250989

/-! ### so many times, reckoned -/
/-- a number is worked out before it is handed on -/
def frc {α : Type} (n : Nat) (k : Nat → α) : α := match n with
  | 0 => k 0
  | m + 1 => k (m + 1)
theorem frc_eq {α : Type} (n : Nat) (k : Nat → α) : frc n k = k n := by cases n <;> rfl
def padd {α : Type} (X1 Y1 Z1 X2 Y2 Z2 : Nat) (k : Nat → Nat → Nat → α) : α :=
  frc (Z1 * Z2 % p25) fun A => frc (A * A % p25) fun B => frc (X1 * X2 % p25) fun C => frc (Y1 * Y2 % p25) fun D => frc (dN * (C * D) % p25) fun E =>
    frc ((B + (p25 - E % p25)) % p25) fun F => frc ((B + E) % p25) fun G => frc (A * F * (X1 * Y2 + X2 * Y1) % p25) fun X => frc (A * G * (D + C) % p25) fun Y => frc (F * G % p25) fun W => k X Y W
def lad {α : Type} (bx b : Nat) : Nat → Nat → (Nat → Nat → Nat → α) → α
  | 0, _, k => k 0 1 1
  | f + 1, n, k => lad bx b f (n / 2) fun X Y W => padd X Y W X Y W fun X Y W => if n % 2 = 1 then padd X Y W bx b 1 k else k X Y W
theorem z_neg (n : Nat) : z (p25 - n % p25) = -z n := by
  have h := z_sub 0 n
  rw [Nat.zero_add, z_zero] at h
  rw [h]
  grind
theorem z_less (a b : Z) : a - b = a + -b := by grind
theorem padd_rep {α : Type} {X1 Y1 Z1 X2 Y2 Z2 : Nat} {P Q : Pt} (h1 : Rep (z X1) (z Y1) (z Z1) P) (h2 : Rep (z X2) (z Y2) (z Z2) Q) (hP : P.On) (hQ : Q.On) (k : Nat → Nat → Nat → α) :
    ∃ X Y W, padd X1 Y1 Z1 X2 Y2 Z2 k = k X Y W ∧ Rep (z X) (z Y) (z W) (P.add Q) := by
  refine ⟨_, _, _, by unfold padd; simp only [frc_eq]; rfl, ?_⟩
  have h := Rep.add h1 h2 hP hQ rfl rfl rfl rfl rfl rfl rfl
  have hd : dd = z dN := by unfold dd; rfl
  simp only [z_mod, z_mul, z_add, z_neg]
  rw [hd, z_less] at h
  exact h
theorem lad_rep {α : Type} (x y : Nat) (hon : On (z x) (z y)) : ∀ (f n : Nat), n < 2 ^ f → ∀ k : Nat → Nat → Nat → α, ∃ X Y W, lad x y f n k = k X Y W ∧ Rep (z X) (z Y) (z W) (Pt.smul ⟨z x, z y⟩ n) := by
  intro f
  have hB : Pt.On ⟨z x, z y⟩ := hon
  induction f with
  | zero =>
    intro n hn k
    obtain rfl : n = 0 := by omega
    exact ⟨0, 1, 1, rfl, by rw [z_zero, z_one]; exact Rep.zero⟩
  | succ f ih =>
    intro n hn k
    have hn2 : n / 2 < 2 ^ f := by rw [Nat.pow_succ] at hn; omega
    obtain ⟨X, Y, W, e1, r1⟩ := ih (n / 2) hn2 (fun X Y W => padd X Y W X Y W fun X Y W => if n % 2 = 1 then padd X Y W x y 1 k else k X Y W)
    have hs := Pt.smul_on hB (n / 2)
    obtain ⟨X2, Y2, W2, e2, r2⟩ := padd_rep r1 r1 hs hs (fun X Y W => if n % 2 = 1 then padd X Y W x y 1 k else k X Y W)
    rw [← Pt.smul_two hB] at r2
    have hs2 := Pt.smul_on hB (2 * (n / 2))
    by_cases hodd : n % 2 = 1
    · obtain ⟨X3, Y3, W3, e3, r3⟩ := padd_rep r2 (show Rep (z x) (z y) (z 1) ⟨z x, z y⟩ by rw [z_one]; exact Rep.one ⟨z x, z y⟩) hs2 hB k
      refine ⟨X3, Y3, W3, ?_, ?_⟩
      · rw [lad, e1, e2, if_pos hodd, e3]
      · have h3 : Pt.smul ⟨z x, z y⟩ n = (Pt.smul ⟨z x, z y⟩ (2 * (n / 2))).add ⟨z x, z y⟩ := by
          conv => lhs; rw [show n = 2 * (n / 2) + 1 by omega]
          rfl
        rw [h3]
        exact r3
    · refine ⟨X2, Y2, W2, ?_, ?_⟩
      · rw [lad, e1, e2, if_neg hodd]
      · have h3 : Pt.smul ⟨z x, z y⟩ n = Pt.smul ⟨z x, z y⟩ (2 * (n / 2)) := by
          conv => lhs; rw [show n = 2 * (n / 2) by omega]
        rw [h3]
        exact r2
theorem lad_order : lad bxN byN 253 l25' (fun X Y W => decide (X = 0) && decide (Y = W)) = true := by decide +kernel
theorem Bp_order : Bp.smul l25' = Pt.zero := by
  obtain ⟨X, Y, W, e, r⟩ := lad_rep bxN byN Bp_on 253 l25' (by decide) (fun X Y W => decide (X = 0) && decide (Y = W))
  rw [lad_order] at e
  have e' := e.symm
  simp only [Bool.and_eq_true, decide_eq_true_eq] at e'
  obtain ⟨rfl, rfl⟩ := e'
  obtain ⟨n, a, b⟩ := r
  have hx : Bp.smul l25' = Pt.smul ⟨z bxN, z byN⟩ l25' := rfl
  rw [hx]
  refine Pt.same ?_ ?_
  · exact zcancel n (by rw [z_zero] at a; show z Y * _ = z Y * 0; grind)
  · exact zcancel n (by show z Y * _ = z Y * 1; grind)
end Go.Proofs.YtdjglghecekeoaaGreatDoor.C

/- Numbers as digits to the base 65536, the lowest one first: what reckoning with them comes to. Nothing of the program is named here. -/
namespace Go.Proofs.YtdjglghecekeoaaGreatDoor.F

/-! ### the number of digits -/
def val : List Nat → Nat
  | [] => 0
  | d :: r => d + 65536 * val r
def Dg (l : List Nat) : Prop := ∀ d ∈ l, d < 65536
theorem Dg.at {l : List Nat} (h : Dg l) (i : Nat) : l.getD i 0 < 65536 := by
  rw [List.getD_eq_getElem?_getD]
  rcases e : l[i]? with _ | x
  · simp
  · exact h x (List.mem_of_getElem? e)
theorem Dg.take {l : List Nat} (h : Dg l) (n : Nat) : Dg (l.take n) := fun d hd => h d (List.mem_of_mem_take hd)
theorem Dg.drop {l : List Nat} (h : Dg l) (n : Nat) : Dg (l.drop n) := fun d hd => h d (List.mem_of_mem_drop hd)
theorem val_append (a b : List Nat) : val (a ++ b) = val a + 65536 ^ a.length * val b := by
  induction a with
  | nil => simp [val]
  | cons x a ih =>
    rw [List.cons_append, val, ih, val, List.length_cons, Nat.pow_succ, Nat.mul_add, Nat.mul_comm (65536 ^ a.length) 65536, Nat.mul_assoc]
    omega
theorem val_snoc (l : List Nat) (x : Nat) : val (l ++ [x]) = val l + 65536 ^ l.length * x := by rw [val_append]; simp [val]
theorem val_take_succ (l : List Nat) (i : Nat) (h : i < l.length) : val (l.take (i + 1)) = val (l.take i) + 65536 ^ i * l.getD i 0 := by
  rw [List.take_succ_eq_append_getElem h, val_snoc, List.length_take, Nat.min_eq_left (by omega), List.getD_eq_getElem?_getD, List.getElem?_eq_getElem h]
  rfl
/-! ### without zeros at the end -/
/-- it does not end in a zero -/
def Tr (l : List Nat) : Prop := ∀ n, l.length = n + 1 → l.getD n 0 ≠ 0
theorem Tr.ge {l : List Nat} (h : Tr l) (n : Nat) (hn : l.length = n + 1) : 65536 ^ n ≤ val l := by
  have h1 := h n hn
  have h2 := val_take_succ l n (by omega)
  rw [List.take_of_length_le (by omega)] at h2
  have h3 : 65536 ^ n * 1 ≤ 65536 ^ n * l.getD n 0 := Nat.mul_le_mul_left _ (by omega)
  omega
/-! ### which one is less -/
/-! ### what is carried -/
theorem getD_past {l : List Nat} {i : Nat} (h : ¬ i < l.length) : l.getD i 0 = 0 := by
  rw [List.getD_eq_getElem?_getD, List.getElem?_eq_none (by omega)]
  rfl
def Bd (M : Nat) (l : List Nat) : Prop := ∀ d ∈ l, d ≤ M
theorem Bd.at {M : Nat} {l : List Nat} (h : Bd M l) (i : Nat) : l.getD i 0 ≤ M := by
  rw [List.getD_eq_getElem?_getD]
  rcases e : l[i]? with _ | x
  · exact Nat.zero_le _
  · exact h x (List.mem_of_getElem? e)
/-! ### a difference -/
end Go.Proofs.YtdjglghecekeoaaGreatDoor.F

/- Blocks of memory that are known whole, rows that a call owns, and numbers of four words as values. -/
namespace Go.Proofs.YtdjglghecekeoaaGreatDoor.F
set_option maxRecDepth 100000
open Go.RowKit

abbrev w64 (x : Nat) : Value := Value.int .u64 (x : Int)
abbrev i64 (x : Nat) : Value := Value.int .i64 (x : Int)
/-- block g is just these cells, none of them frozen -/
def Lies (w : World) (g : Nat) (t : TypeId) (cs : Array Value) : Prop := w.heap[g]? = some (.cells cs t (0, 0))

section
variable {w w' : World} {g : Nat} {t : TypeId} {cs : Array Value}
theorem Lies.lt (h : Lies w g t cs) : g < w.heap.size := by
  rcases Nat.lt_or_ge g w.heap.size with hlt | hge
  · exact hlt
  · unfold Lies at h; rw [Array.getElem?_eq_none hge] at h; cases h
theorem Lies.cell (h : Lies w g t cs) (i : Nat) : w.cell? ⟨g, i, none⟩ = cs[i]? := cell_of_row w g i cs t (0, 0) h
theorem Lies.frozen (h : Lies w g t cs) (i : Nat) : w.frozen? ⟨g, i, none⟩ = false := frozen_of_row w g i cs t h
theorem Lies.drewN (h : Lies w g t cs) (n : Nat) : Lies (w.drewN n) g t cs := h
theorem Lies.drew (h : Lies w g t cs) : Lies w.drew g t cs := h
theorem Lies.alloc (h : Lies w g t cs) (o : Obj) : Lies (w.alloc o) g t cs := (Below.heap_alloc w o g h.lt).trans h
theorem Lies.new (w : World) (t : TypeId) (cs : Array Value) : Lies (w.alloc (.cells cs t)) w.heap.size t cs := heap_alloc_new w _
theorem Lies.put (h : Lies w g t cs) (i : Nat) (v : Value) : Lies (w.setCell ⟨g, i, none⟩ v) g t (cs.setIfInBounds i v) := heap_setCell_same w g i cs t v h
theorem Lies.far (h : Lies w g t cs) {p : Addr} (hp : g ≠ p.block) (v : Value) : Lies (w.setCell p v) g t cs := (heap_setCell_other w p g v hp).trans h
theorem Lies.below {B : Nat} (h : Lies w g t cs) (hb : Below B w w') (hg : g < B) : Lies w' g t cs := (hb.block g hg).trans h
theorem Lies.on (h : Lies w g t cs) (hb : Below w.heap.size w w') : Lies w' g t cs := h.below hb h.lt
theorem Lies.only {row : Option Nat} (h : Lies w g t cs) (hb : w.grownBy w' row) (hg : some g ≠ row) : Lies w' g t cs := (hb.block g h.lt hg).trans h
theorem Lies.row (h : Lies w g t cs) (old : Array Value) : Lies (w.setRow g old) g t old := setRow_heap w g cs old t (0, 0) h
theorem Lies.rowFar {g' : Nat} (h : Lies w g t cs) (hg : g ≠ g') (old : Array Value) : Lies (w.setRow g' old) g t cs := (setRow_other w g' g old hg).trans h
end
theorem below_drawn {B : Nat} {a w : World} (h : Below B a w) (n : Nat) : Below B a (w.drewN n) := ⟨h.os, h.tape, h.output, h.size, h.block⟩

theorem below_rowSet {B : Nat} {a w : World} (h : Below B a w) {g : Nat} (hg : B ≤ g) (cs : Array Value) : Below B a (w.setRow g cs) :=
  h.trans ⟨rfl, rfl, rfl, by simp, fun k hk => setRow_other _ _ _ _ (by omega)⟩

/-! ### only block g, and what is new, has turned -/
abbrev Only (g : Nat) (a w : World) : Prop := a.grownBy w (some g)
section
variable {a w w' : World} {g : Nat}
theorem Only.refl (a : World) (g : Nat) : Only g a a := World.grownBy.refl a (some g)
theorem Only.trans (h : Only g a w) (k : Only g w w') : Only g a w' :=
  ⟨k.os.trans h.os, k.tape.trans h.tape, k.output.trans h.output, Nat.le_trans h.size k.size, fun i hi hne => (k.block i (Nat.lt_of_lt_of_le hi h.size) hne).trans (h.block i hi hne)⟩
theorem Only.drewN (h : Only g a w) (n : Nat) : Only g a (w.drewN n) := ⟨h.os, h.tape, h.output, h.size, h.block⟩
theorem Only.drew (h : Only g a w) : Only g a w.drew := ⟨h.os, h.tape, h.output, h.size, h.block⟩
theorem Only.alloc (h : Only g a w) (o : Obj) : Only g a (w.alloc o) :=
  ⟨h.os, h.tape, h.output, Nat.le_trans h.size (by simp), fun i hi hne => (Below.heap_alloc w o i (Nat.lt_of_lt_of_le hi h.size)).trans (h.block i hi hne)⟩
theorem Only.put (h : Only g a w) {p : Addr} (hp : p.block = g ∨ a.heap.size ≤ p.block) (u : Value) : Only g a (w.setCell p u) :=
  ⟨h.os, h.tape, h.output, by simpa [World.setCell] using h.size, fun i hi hne => (Below.heap_setCell w p u i (by
    rintro rfl
    rcases hp with hp | hp
    · exact hne (by rw [hp])
    · omega)).trans (h.block i hi hne)⟩
theorem Only.row (h : Only g a w) {k : Nat} (hk : k = g ∨ a.heap.size ≤ k) (cs : Array Value) : Only g a (w.setRow k cs) :=
  ⟨h.os, h.tape, h.output, by simpa using h.size, fun i hi hne => (setRow_other w k i cs (by
    rintro rfl
    rcases hk with hk | hk
    · exact hne (by rw [hk])
    · omega)).trans (h.block i hi hne)⟩
theorem Only.of_below (h : Below a.heap.size a w) (g : Nat) : Only g a w := ⟨h.os, h.tape, h.output, h.size, fun i hi _ => h.block i hi⟩
theorem Only.on (h : Only g a w) (k : Below w.heap.size w w') : Only g a w' := h.trans (Only.of_below k g)
/-- .. and g itself is new -/
theorem Only.below {B : Nat} {b : World} (h : Only g a w) (hb : Below B b a) (hB : B ≤ a.heap.size) (hg : B ≤ g) : Below B b w :=
  hb.grown h hB (fun k hk => by cases hk; exact hg)
end

/-- a type of rows or structs, of so many cells -/
def RowT (P : Program) (ty : TypeId) (n : Nat) : Prop := (∃ d, P.underlying ty = some d ∧ d.isRow = true) ∧ (P.info? ty).map (·.size) = some n
/-- cells of one value each -/
def Ones (cs : Array Value) : Prop := cs.all (·.oneCell') = true
theorem ones_of {cs : List Value} (h : ∀ v ∈ cs, v.oneCell' = true) : Ones cs.toArray := all_oneCell_toArray h

section
variable {P : Program} {ops : Array Oper} {rest : List Oper} {a : Act} {w : World} {Q : Exit → Act → World → Prop} {t' : TypeId} {pos : String} {after : Array Edge}
/-- a variable that is a whole block is read -/
theorem wpL_load {d : Option Tmp} {x : Tmp} {ty : TypeId} (g : Nat) (t : TypeId) (cs : Array Value) (n : Nat) (hT : RowT P ty n) (hn : cs.size = n) (hg : Lies w g t cs)
    (hx : a.eval (.tmp x) = .pointer (some ⟨g, 0, none⟩)) (h : wpList P ops Q rest (a.put d (.agg cs)) w) : wpList P ops Q (⟨d, .load ty (.tmp x), t', pos, after, none⟩ :: rest) a w := by
  obtain ⟨⟨ds, hu, hd⟩, hi⟩ := hT
  exact wpList_load_row (o := ⟨d, .load ty (.tmp x), t', pos, after, none⟩) rfl ty (.tmp x) rfl g hx t cs (0, 0) ds hg hu (by cases ds <;> first | rfl | simp [TypeDesc.isRow] at hd) (by rw [hi, hn]) h
/-- .. and written -/
theorem wpL_store {x y : Tmp} {ty : TypeId} (g : Nat) (t : TypeId) (old cs : Array Value) (n : Nat) (hT : RowT P ty n) (ho : old.size = n) (hn : cs.size = n) (h1 : Ones cs) (hg : Lies w g t old)
    (hx : a.eval (.tmp x) = .pointer (some ⟨g, 0, none⟩)) (hy : a.eval (.tmp y) = .agg cs) (h : wpList P ops Q rest (a.put none undef) (w.setRow g cs)) : wpList P ops Q (⟨none, .store ty (.tmp x) (.tmp y), t', pos, after, none⟩ :: rest) a w :=
  wpList_store_row (o := ⟨none, .store ty (.tmp x) (.tmp y), t', pos, after, none⟩) rfl ty (.tmp x) (.tmp y) rfl g cs hx hy t old hg (by rw [hT.2, hn]) (by rw [ho, hn]) h1 h
/-- some cells in the middle of a block are read -/
theorem wpL_loadMid {d : Option Tmp} {x : Tmp} {ty : TypeId} (g o : Nat) (cs : List Value) (n : Nat) (hT : RowT P ty n) (hn : cs.length = n) (hg : w.rangeAt g o cs)
    (hx : a.eval (.tmp x) = .pointer (some ⟨g, o, none⟩)) (h : wpList P ops Q rest (a.put d (.agg cs.toArray)) w) : wpList P ops Q (⟨d, .load ty (.tmp x), t', pos, after, none⟩ :: rest) a w := by
  obtain ⟨⟨ds, hu, hd⟩, hi⟩ := hT
  exact wpList_load_mid (op := ⟨d, .load ty (.tmp x), t', pos, after, none⟩) rfl ty (.tmp x) rfl g o hx cs ds hg hu hd (by rw [hi, hn]) h
end
/-- what a function hands back that lies in a variable -/
theorem results_row {P : Program} {fn : Func} {p : Tmp} {ty : TypeId} {n : Nat} {w : World} {g : Nat} {t : TypeId} {cs : Array Value} {tmps : Array Value} (h : fn.results = #[.cell p ty]) (hT : RowT P ty n) (hn : cs.size = n) (hg : Lies w g t cs) (hp : tmps.getD p undef = .pointer (some ⟨g, 0, none⟩)) :
    (results fn tmps).run P w = .ok (.agg cs) w := by
  obtain ⟨⟨ds, hu, hd⟩, hi⟩ := hT
  exact results_cell_row h tmps w g t cs (0, 0) ds hp hg hu (by cases ds <;> first | rfl | simp [TypeDesc.isRow] at hd) (by rw [hi, hn])

theorem results_row_tmp {P : Program} {fn : Func} {p u : Tmp} {ty : TypeId} {n : Nat} {w : World} {g : Nat} {t : TypeId} {cs : Array Value} {tmps : Array Value} {x : Value} (h : fn.results = #[.cell p ty, .tmp u]) (hT : RowT P ty n) (hn : cs.size = n) (hg : Lies w g t cs) (hp : tmps.getD p undef = .pointer (some ⟨g, 0, none⟩)) (hx : tmps.getD u undef = x) :
    (results fn tmps).run P w = .ok (.tuple #[.agg cs, x]) w := by
  obtain ⟨⟨d, hu, hd⟩, hi⟩ := hT
  have hl := run_loadVar_row (P := P) w g t ty cs (0, 0) d hg hu (by cases d <;> first | rfl | simp [TypeDesc.isRow] at hd) (by rw [hi, hn])
  have hp' : tmps[p]?.getD undef = .pointer (some ⟨g, 0, none⟩) := by simpa using hp
  have hx' : tmps[u]?.getD undef = x := by simpa using hx
  simp [results, h, hp', hx', asAddr, hl]

theorem own_on {wr w1 : World} {B : Nat} {e : TypeId} {v : Value} {n : Nat} {xs : List Value} (h : wr.ownsRow B e 1 v n xs) (hb : Below wr.heap.size wr w1) : w1.ownsRow B e 1 v n xs := by
  obtain ⟨hl, h⟩ := h
  refine ⟨hl, ?_⟩
  rcases h with h | ⟨g, cap, cur, hv, hg, hh, hr⟩
  · exact Or.inl h
  · exact Or.inr ⟨g, cap, cur, hv, hg, Lies.on (t := e) hh hb, hr⟩

theorem own_far {w : World} {B e n g t : Nat} {v : Value} {xs : List Value} {cs : Array Value} (h : w.ownsRow B e 1 v n xs) (hl : Lies w g t cs) (hne : e ≠ t) : v.ownBlock ≠ some g := by
  rcases h.2 with ⟨rfl, _⟩ | ⟨g1, cap, cur, rfl, _, hh, _⟩
  · intro e; cases e
  · intro e2
    simp only [Value.ownBlock, Option.some.injEq] at e2
    subst e2
    unfold Lies at hl
    rw [hh] at hl
    injection hl with hl
    injection hl with _ ht
    exact hne ht
theorem own_grown {w w' : World} {B e n : Nat} {v : Value} {xs : List Value} {row : Option Nat} (h : w.ownsRow B e 1 v n xs) (hg : w.grownBy w' row) (hne : ∀ g, v.ownBlock = some g → row ≠ some g) : w'.ownsRow B e 1 v n xs := by
  obtain ⟨hl, h⟩ := h
  refine ⟨hl, ?_⟩
  rcases h with h | ⟨g, cap, cur, hv, hB, hh, hr⟩
  · exact Or.inl h
  · refine Or.inr ⟨g, cap, cur, hv, hB, ?_, hr⟩
    have hlt := Lies.lt (t := e) hh
    exact (hg.block g hlt (fun e => hne g (by rw [hv]; rfl) e.symm)).trans hh

/-! ### digits that lie in memory -/
/-- digits lie there -/
def Dig (w : World) (g o : Nat) (l : List Nat) : Prop := ∀ i, i < l.length → w.cell? ⟨g, o + i, none⟩ = some (i64 (l.getD i 0))
theorem Dig.on {w w' : World} {g o : Nat} {l : List Nat} (h : Dig w g o l) (hb : Below w.heap.size w w') : Dig w' g o l := fun i hi => by
  have h1 := h i hi
  exact (hb.cell (p := ⟨g, o + i, none⟩) (World.block_lt_of_cell? w _ h1)).trans h1
theorem Dig.take {w : World} {g o : Nat} {l : List Nat} (h : Dig w g o l) (n : Nat) : Dig w g o (l.take n) := fun i hi => by
  rw [List.length_take] at hi
  have h1 := h i (by omega)
  rw [h1, List.getD_eq_getElem?_getD, List.getD_eq_getElem?_getD, List.getElem?_take_of_lt (by omega)]
theorem Dig.drop {w : World} {g o : Nat} {l : List Nat} (h : Dig w g o l) (n : Nat) : Dig w g (o + n) (l.drop n) := fun i hi => by
  rw [List.length_drop] at hi
  have h1 := h (n + i) (by omega)
  rw [Nat.add_assoc, h1, List.getD_eq_getElem?_getD, List.getD_eq_getElem?_getD, List.getElem?_drop]
/-! ### numbers of four words -/
def feA (n : Nat) : Array Value := #[w64 (n % 18446744073709551616), w64 (n / 18446744073709551616 % 18446744073709551616), w64 (n / 340282366920938463463374607431768211456 % 18446744073709551616), w64 (n / 6277101735386680763835789423207666416102355444464034512896 % 18446744073709551616)]
abbrev fe (n : Nat) : Value := .agg (feA n)
abbrev K256 : Nat := 115792089237316195423570985008687907853269984665640564039457584007913129639936
theorem fe_of (a b c d : Nat) (ha : a < 18446744073709551616) (hb : b < 18446744073709551616) (hc : c < 18446744073709551616) (hd : d < 18446744073709551616) :
    ∃ n, n < K256 ∧ Value.agg #[w64 a, w64 b, w64 c, w64 d] = fe n ∧ n = a + 18446744073709551616 * b + 340282366920938463463374607431768211456 * c + 6277101735386680763835789423207666416102355444464034512896 * d := by
  obtain ⟨n, hn⟩ : ∃ n, a + 18446744073709551616 * b + 340282366920938463463374607431768211456 * c + 6277101735386680763835789423207666416102355444464034512896 * d = n := ⟨_, rfl⟩
  have e0 : n % 18446744073709551616 = a := by omega
  have e1 : n / 18446744073709551616 % 18446744073709551616 = b := by omega
  have e2 : n / 340282366920938463463374607431768211456 % 18446744073709551616 = c := by omega
  have e3 : n / 6277101735386680763835789423207666416102355444464034512896 % 18446744073709551616 = d := by omega
  refine ⟨n, by unfold K256; omega, ?_, hn.symm⟩
  unfold fe feA
  rw [e0, e1, e2, e3]
theorem feA_one (n : Nat) : Ones (feA n) := by unfold Ones feA; simp [Value.oneCell']
theorem feA_size (n : Nat) : (feA n).size = 4 := rfl
theorem Lies.storeFe {w : World} {g t : Nat} {cs : Array Value} (h : Lies w g t cs) (n : Nat) (hn : cs.size = 4 := by rfl) : (storeCells ⟨g, 0, none⟩ (feA n).toList).run Tryz.prog w = .ok () (w.setRow g (feA n)) := by
  have h2 := run_storeCells_from (P := Tryz.prog) g t (feA n).toList 0 cs w h (by rw [hn]; rfl) (fun v hv => (Array.all_eq_true_iff_forall_mem.1 (feA_one n)) v (by simpa using hv))
  rw [List.take_zero, List.nil_append, Array.toArray_toList] at h2
  exact h2
end Go.Proofs.YtdjglghecekeoaaGreatDoor.F

/- The field's own type of numbers, of four words. -/
namespace Go.Proofs.YtdjglghecekeoaaGreatDoor.F
set_option maxRecDepth 100000
open Go.RowKit

theorem rowFe : RowT Tryz.prog 66 4 := ⟨⟨_, Tryz.underlying66, rfl⟩, by kernel_rfl⟩
end Go.Proofs.YtdjglghecekeoaaGreatDoor.F

/- The contracts of the reference's trim and carry: digits without zeros at the end. -/
namespace Go.Proofs.YtdjglghecekeoaaGreatDoor.F
set_option maxRecDepth 100000
open Go.RowKit

theorem pre_set (p : List Nat) (n i x : Nat) (hp : p.length = i) (h : i < n) : (p ++ List.replicate (n - i) 0).set i x = (p ++ [x]) ++ List.replicate (n - (i + 1)) 0 := by
  rw [List.set_append_right _ _ (by omega), hp, Nat.sub_self, show n - i = (n - (i + 1)) + 1 by omega, List.replicate_succ, List.set_cons_zero, List.append_assoc]
  rfl
end Go.Proofs.YtdjglghecekeoaaGreatDoor.F

