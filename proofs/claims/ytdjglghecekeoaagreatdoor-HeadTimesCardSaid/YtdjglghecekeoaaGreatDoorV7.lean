/- Texts that stand on one another, put together: RFew, RAlive, RAddMath, Held, RSteps, RGrowsA, QTree, QSides, QSteps, QParts, HeldB. -/
import Derived.Test.YtdjglghecekeoaaGreatDoorV6
import Derived.Laws.AppendOwnNone
import Derived.Laws.DeepStrings4
/- The contract of the statements' own call that takes few and short parts of a row. -/
namespace Go.Proofs.YtdjglghecekeoaaGreatDoor.R
open Go.RowKit Go.Sort Go.Proofs.YtdjglghecekeoaaGreatDoor.U

theorem cut_bytes (x : List UInt8) (m : Nat) (mi : Int) (h : mi = (m : Int)) : (⟨x.toArray⟩ : ByteArray).extract 0 (min (x.length : Int) mi).toNat = ⟨(x.take m).toArray⟩ := by
  subst h
  rw [Lib.extract_eq]
  by_cases h : x.length ≤ m
  · rw [show (min (x.length : Int) (m : Int)).toNat = x.length by omega]
    simp [List.take_of_length_le h]
  · rw [show (min (x.length : Int) (m : Int)).toNat = m by omega]
    simp
end Go.Proofs.YtdjglghecekeoaaGreatDoor.R

/- The contracts of the statements' own calls: three leaves' root; a tree with few and short parts. -/
namespace Go.Proofs.YtdjglghecekeoaaGreatDoor.R
open Go.RowKit Go.Sort Go.Proofs.YtdjglghecekeoaaGreatDoor.U
set_option maxRecDepth 100000

theorem toList_of (s : List UInt8) : (bytesOf s).toList = s := by rw [ByteArray.toList_eq]; rfl
end Go.Proofs.YtdjglghecekeoaaGreatDoor.R

/- The reference's Add: how many leaves each part is of, as lists; rows that are cut with their capacity, and go on in new memory. -/
namespace Go.Proofs.YtdjglghecekeoaaGreatDoor.R
open Go.RowKit Go.Sort Go.Proofs.YtdjglghecekeoaaGreatDoor.U
set_option maxRecDepth 100000

section
variable {a : Act} {d : Option Tmp} {x y z : Tmp} {t' : TypeId} {pos : String} {after : Array Edge} {gd : Option (Nat × Bool)} {r : TypeId}
theorem run_ldI (p : Addr) (v : Value) (w : World) (hc : w.cell? p = some v) (hx : a.eval (.tmp x) = .pointer (some p)) :
    (execOp a.eval ⟨d, .load 3 (.tmp x), t', pos, after, gd⟩).run Tryz.prog w = .ok (.value v) w := by
  unfold execOp
  simp only [hx, Instr.loadAt, Instr.sureAddr]
  simp [go_sem, hc]
end
end Go.Proofs.YtdjglghecekeoaaGreatDoor.R

/- Operations of a region that draws its order, taken one by one: what reads or reckons first, whatever comes. Nothing of the program is named here. -/
namespace Go.Proofs.YtdjglghecekeoaaGreatDoor
open Go.Sort Go.RowKit
/-! ### operations of a region that draws its order, taken one by one -/
section
variable {P : Program} {md : Region.Mode} {ops : Array Oper} {Q : Exit → Act → World → Prop} {S : World → Prop} {a : Act} {w w' : World}
theorem wpOp_val {i : Nat} {o : Oper} {v : Value} {K : Act → World → Prop} (hi : ops[i]? = some o) (hw : Region.wanted o (yielded ops a.tmps) = true) (hr : (execOp a.eval o).run P w = .ok (.value v) w') (h : K (a.put o.dst v) w') : wpOp P ops Q i K a w := by
  unfold Go.wpOp
  simp only [hi]
  simp only [hw, if_true, Oper.wp, hr, Oper.upon]
  exact .inl h
theorem wpOp_skp {i : Nat} {o : Oper} {K : Act → World → Prop} (hi : ops[i]? = some o) (hw : Region.wanted o (yielded ops a.tmps) = true) (hr : (execOp a.eval o).run P w = .ok .skip w') (h : K (a.put o.dst undef) w') : wpOp P ops Q i K a w := by
  unfold Go.wpOp
  simp only [hi]
  simp only [hw, if_true, Oper.wp, hr, Oper.upon]
  exact .inl h
theorem wp_held_calm {id : Nat} {K : Act → World → Prop} {Q : Exit → Act → World → Prop} (n : Nat) (hn : ops.size = n) (hm : P.follows .mixedOrders = true)
    (h : wpAnyH P .any ops (Exit.then K (Calm Q)) S n (Array.replicate n false) a { w with drawn := w.drawn + 1 }) : (Code.region id ops true).wp P (Exit.then K Q) a w := by
  subst hn
  exact Code.wp_mono (Q := Exit.then K (Calm Q)) calm_then (wp_region_held hm h)
theorem held_done {K : Act → World → Prop} {Q : Exit → Act → World → Prop} {listed : Array Bool} {fuel : Nat} (hr : Region.ready md ops listed = []) (h : Exit.then K Q .normal a w) : wpAnyH P md ops (Exit.then K (Calm Q)) S fuel listed a w := wpAnyH_done hr (show Exit.then K (Calm Q) .normal a w from h) fuel
theorem held_take {K : Act → World → Prop} {Q : Exit → Act → World → Prop} {fuel : Nat} {listed : Array Bool} (i : Nat) (v : Value) {oi : Oper} (hi : ops[i]? = some oi) (hs : Region.noSelect ops = true) (hf : Region.free md ops listed i = true) (hr : (Region.ready md ops listed).contains i = true)
    (hw : Region.wanted oi (yielded ops a.tmps) = true) (hy : ∀ w, S w → (execOp a.eval oi).run P w = .ok (.value v) w) (hS : S w) (h : wpAnyH P md ops (Exit.then K (Calm Q)) S fuel (listed.setIfInBounds i true) (a.put oi.dst v) w) : wpAnyH P md ops (Exit.then K (Calm Q)) S (fuel + 1) listed a w :=
  wpAnyH_take hi hs hf hr (fun c a w h => calm_panic c _ _ a w h) (.inl ⟨hw, hy⟩) hS h
/-- .. with the slot said -/
theorem held_put {K : Act → World → Prop} {Q : Exit → Act → World → Prop} {fuel : Nat} {listed : Array Bool} (i : Nat) (d : Tmp) (v : Value) {oi : Oper} (hi : ops[i]? = some oi) (hd : oi.dst = some d) (hs : Region.noSelect ops = true) (hf : Region.free md ops listed i = true) (hr : (Region.ready md ops listed).contains i = true)
    (hw : Region.wanted oi (yielded ops a.tmps) = true) (hy : ∀ w, S w → (execOp a.eval oi).run P w = .ok (.value v) w) (hS : S w) (h : wpAnyH P md ops (Exit.then K (Calm Q)) S fuel (listed.setIfInBounds i true) ⟨a.tmps.setIfInBounds d v, a.defers⟩ w) : wpAnyH P md ops (Exit.then K (Calm Q)) S (fuel + 1) listed a w :=
  held_take i v hi hs hf hr hw hy hS (by rw [hd]; exact h)
theorem wpOp_put {i : Nat} {o : Oper} (d : Tmp) {v : Value} {K : Act → World → Prop} (hi : ops[i]? = some o) (hd : o.dst = some d) (hw : Region.wanted o (yielded ops a.tmps) = true) (hr : (execOp a.eval o).run P w = .ok (.value v) w') (h : K ⟨a.tmps.setIfInBounds d v, a.defers⟩ w') : wpOp P ops Q i K a w :=
  wpOp_val hi hw hr (by rw [hd]; exact h)
theorem held_one {fuel : Nat} {listed : Array Bool} (i : Nat) (hr : Region.ready md ops listed = [i]) (h : wpOp P ops Q i (fun a' w' => S w' ∧ wpAnyH P md ops Q S fuel (listed.setIfInBounds i true) a' w') a w) : wpAnyH P md ops Q S (fuel + 1) listed a w :=
  wpAnyH_all hr (by simp) (fun j hj => by rw [List.mem_singleton.1 hj]; exact h)
theorem held_two {fuel : Nat} {listed : Array Bool} (i j : Nat) (hr : Region.ready md ops listed = [i, j]) (h : wpOp P ops Q i (fun a' w' => S w' ∧ wpAnyH P md ops Q S fuel (listed.setIfInBounds i true) a' w') a w) (k : wpOp P ops Q j (fun a' w' => S w' ∧ wpAnyH P md ops Q S fuel (listed.setIfInBounds j true) a' w') a w) : wpAnyH P md ops Q S (fuel + 1) listed a w :=
  wpAnyH_all hr (by simp) (fun l hl => by
    simp only [List.mem_cons, List.not_mem_nil, or_false] at hl
    rcases hl with rfl | rfl
    · exact h
    · exact k)
theorem wpOp_call {i : Nat} {o : Oper} (d : Tmp) {f : FuncId} {args : Array Value} {K : Act → World → Prop} (hi : ops[i]? = some o) (hd : o.dst = some d) (hw : Region.wanted o (yielded ops a.tmps) = true) (hr : (execOp a.eval o).run P w = .ok (.enter f args) w) (h : Calls P f args w fun e w'' => ∃ v, e = .returned v ∧ K ⟨a.tmps.setIfInBounds d v, a.defers⟩ w'') : wpOp P ops Q i K a w := by
  unfold Go.wpOp
  simp only [hi]
  simp only [hw, if_true, Oper.wp, hr, Oper.upon]
  refine .inl (h.mono ?_)
  rintro e w'' ⟨v, rfl, hk⟩
  rw [hd]
  exact hk
end
end Go.Proofs.YtdjglghecekeoaaGreatDoor

/- Operations by themselves, for walks of regions that draw their order: texts, variables, leaves and trees that go on. -/
namespace Go.Proofs.YtdjglghecekeoaaGreatDoor.R
open Go.RowKit Go.Sort Go.Proofs.YtdjglghecekeoaaGreatDoor.U
set_option maxRecDepth 100000

section
variable {a : Act} {d : Option Tmp} {x y : Operand} {t' : TypeId} {pos : String} {after : Array Edge} {gd : Option (Nat × Bool)} {r : TypeId}
theorem run_cat (s t : List UInt8) (hs : s.length + t.length ≤ 10000) (hx : a.eval x = .string (bytesOf s)) (hy : a.eval y = .string (bytesOf t)) (w : World) :
    (execOp a.eval ⟨d, .binOp .add 9 x y r, t', pos, after, gd⟩).run Tryz.prog w = .ok (.value (.string (bytesOf (s ++ t)))) w := by
  have hz1 : (bytesOf s).size = s.length := bytes_size s
  have hz2 : (bytesOf t).size = t.length := bytes_size t
  have h3 : ¬ (9223372036854775807 < s.length + t.length) := by omega
  unfold execOp
  simp only [hx, hy]
  simp [go_sem, hz1, hz2, h3]
  rw [← Lib.mk_data (bytesOf s ++ bytesOf t), list_append]
  rfl
end

/-! ### what is said -/
/-- a row of texts -/
abbrev sayStrs (M : List (List UInt8)) : Said := fun v w => Strs w v M
theorem sayStrs_mono (M : List (List UInt8)) : ∀ v w w', sayStrs M v w → Below w.heap.size w w' → sayStrs M v w' := fun _ _ _ h hb => h.below hb
end Go.Proofs.YtdjglghecekeoaaGreatDoor.R

/- Laws for the walk of the statement of trees that go on from none: slices that are cut, ints that are copied; leaves of texts; what goes on from the parts of the first leaves. -/
namespace Go.Proofs.YtdjglghecekeoaaGreatDoor.R
open Go.RowKit Go.Sort Go.Proofs.YtdjglghecekeoaaGreatDoor.U
set_option maxRecDepth 100000

section
variable {a : Act} {d : Option Tmp} {x y z : Operand} {t' : TypeId} {pos : String} {after : Array Edge} {gd : Option (Nat × Bool)} {r : TypeId}
end

/-- one operation whose run is known -/
theorem wpL_val {P : Program} {ops : Array Oper} {rest : List Oper} {a : Act} {w : World} {Q : Exit → Act → World → Prop} {o : Oper} {v : Value} (hg : o.guard = none) (hr : (execOp a.eval o).run P w = .ok (.value v) w) (h : wpList P ops Q rest (a.put o.dst v) w) : wpList P ops Q (o :: rest) a w := by
  refine wpList_plain hg fun K hK' => ?_
  have hK := hK' _ _ h
  unfold Oper.wp
  rw [hr]
  exact hK
def iv (z : Int) : Value := .int .i64 z
/-! ### leaves of texts -/
/-! ### the parts of the first leaves -/
theorem strs_cut {w : World} {ao : Option Addr} {n c : Nat} {l : List (List UInt8)} (h : Strs w (.slice ao n c) l) {i j : Nat} (hi : i ≤ j) (hj : j ≤ l.length) :
    Strs w (.slice (if c = i then ao else ao.map (·.add i)) (j - i) (c - i)) ((l.drop i).take (j - i)) := by
  have h2 := h
  obtain ⟨a', c', hv, hc, hm, hn, hl⟩ := h2
  injection hv with e1 e2 e3
  subst e1 e2 e3
  by_cases hl0 : l = []
  · subst hl0
    obtain rfl : j = 0 := by simpa using hj
    obtain rfl : i = 0 := by omega
    refine ⟨_, c, rfl, Nat.zero_le _, by simpa using hm, (fun e => ?_), fun e => absurd rfl e⟩
    by_cases hc0 : c = 0
    · exact hc0
    · rw [if_neg hc0] at e
      cases ao with
      | none => exact hn rfl
      | some ad => cases e
  · obtain ⟨b, off, rfl, _⟩ := hl hl0
    by_cases hc0 : c = i
    · subst hc0
      rw [if_pos rfl]
      have e : (l.drop c).take (j - c) = [] := by rw [List.drop_eq_nil_of_le (by omega), List.take_nil]
      rw [e]
      exact ⟨_, _, by rw [show j - c = 0 by omega]; rfl, Nat.zero_le _, by omega, (fun h => by cases h), fun h => absurd rfl h⟩
    · rw [if_neg hc0]
      have e : (some (⟨b, off, none⟩ : Addr)).map (·.add i) = some ⟨b, off + i, none⟩ := by
        show some (Addr.add ⟨b, off, none⟩ i) = _
        rw [Addr.add_mid]
      rw [e]
      exact strs_part h hi hj
theorem strs_first {w : World} {ao : Option Addr} {n c : Nat} {l : List (List UInt8)} (h : Strs w (.slice ao n c) l) {j : Nat} (hj : j ≤ l.length) : Strs w (.slice ao j c) (l.take j) := by
  by_cases hl0 : l = []
  · subst hl0
    obtain rfl : j = 0 := by simpa using hj
    obtain ⟨a', c', hv, hc, hm, hn, hl⟩ := h
    injection hv with e1 e2 e3
    subst e1 e2 e3
    exact ⟨_, _, rfl, Nat.zero_le _, hm, hn, fun e => absurd rfl e⟩
  · have h2 := h
    obtain ⟨a', c', hv, hc, hm, hn, hl⟩ := h2
    injection hv with e1 e2 e3
    subst e1 e2 e3
    obtain ⟨b, off, rfl, _⟩ := hl hl0
    exact strs_head h hj
theorem row_of {l : List (List UInt8)} (h1 : l.length ≤ 4096) (h2 : ∀ x ∈ l, x.length = 32) : rowB l = true := by
  unfold rowB
  rw [allB_of h2, decide_eq_true h1]
  rfl
end Go.Proofs.YtdjglghecekeoaaGreatDoor.R

/- Paths of leaves and steps of first leaves, as lists, from the top down; what they make; two unlike texts of one sum. Nothing of the program is named here. -/
namespace Go.Proofs.YtdjglghecekeoaaGreatDoor.Q
open Go.Proofs.YtdjglghecekeoaaGreatDoor.R

section
variable {α : Type} (nd : α → α → α) (e : α)

/-! ### paths and steps, the topmost sum first -/
def stepF : Nat → List α → Nat → Bool → List α
  | 0, _, _, _ => []
  | f + 1, l, m, b => if m = l.length then (if b then [] else [rootL nd e l]) else if m ≤ spl l.length then rootL nd e (l.drop (spl l.length)) :: stepF f (l.take (spl l.length)) m b else rootL nd e (l.take (spl l.length)) :: stepF f (l.drop (spl l.length)) (m - spl l.length) false
theorem stepF_succ (f : Nat) (l : List α) (m : Nat) (b : Bool) : stepF nd e (f + 1) l m b = if m = l.length then (if b then [] else [rootL nd e l]) else if m ≤ spl l.length then rootL nd e (l.drop (spl l.length)) :: stepF nd e f (l.take (spl l.length)) m b else rootL nd e (l.take (spl l.length)) :: stepF nd e f (l.drop (spl l.length)) (m - spl l.length) false := rfl
def stepT (l : List α) (m : Nat) (b : Bool) : List α := stepF nd e l.length l m b
theorem stepF_any : ∀ (f g : Nat) (l : List α) (m : Nat) (b : Bool), 1 ≤ m → m ≤ l.length → l.length ≤ f → l.length ≤ g → stepF nd e f l m b = stepF nd e g l m b := by
  intro f
  induction f with
  | zero =>
    intro g l m b h1 h2 hf _
    omega
  | succ f ih =>
    intro g l m b h1 h2 hf hg
    cases g with
    | zero => omega
    | succ g =>
      rw [stepF_succ, stepF_succ]
      by_cases hm : m = l.length
      · rw [if_pos hm, if_pos hm]
      · rw [if_neg hm, if_neg hm]
        have hs := spl_lt (n := l.length) (by omega)
        have hp := spl_pos l.length
        by_cases hk : m ≤ spl l.length
        · rw [if_pos hk, if_pos hk, ih g (l.take (spl l.length)) m b h1 (by rw [List.length_take]; omega) (by rw [List.length_take]; omega) (by rw [List.length_take]; omega)]
        · rw [if_neg hk, if_neg hk, ih g (l.drop (spl l.length)) _ false (by omega) (by rw [List.length_drop]; omega) (by rw [List.length_drop]; omega) (by rw [List.length_drop]; omega)]
theorem stepT_all {l : List α} (h : 1 ≤ l.length) (b : Bool) : stepT nd e l l.length b = if b then [] else [rootL nd e l] := by
  unfold stepT
  obtain ⟨f, hf⟩ : ∃ f, l.length = f + 1 := ⟨l.length - 1, by omega⟩
  rw [hf, stepF_succ, if_pos hf.symm]
theorem stepT_less {l : List α} {m : Nat} (h1 : 1 ≤ m) (h2 : m < l.length) (b : Bool) : stepT nd e l m b = if m ≤ spl l.length then rootL nd e (l.drop (spl l.length)) :: stepT nd e (l.take (spl l.length)) m b else rootL nd e (l.take (spl l.length)) :: stepT nd e (l.drop (spl l.length)) (m - spl l.length) false := by
  have hs := spl_lt (n := l.length) (by omega)
  have hp := spl_pos l.length
  unfold stepT
  rw [stepF_any nd e l.length (l.length - 1 + 1) l m b h1 (by omega) (Nat.le_refl _) (by omega), stepF_succ, if_neg (by omega)]
  by_cases hk : m ≤ spl l.length
  · rw [if_pos hk, if_pos hk, stepF_any nd e (l.length - 1) (l.take (spl l.length)).length _ m b h1 (by rw [List.length_take]; omega) (by rw [List.length_take]; omega) (Nat.le_refl _)]
  · rw [if_neg hk, if_neg hk, stepF_any nd e (l.length - 1) (l.drop (spl l.length)).length _ _ false (by omega) (by rw [List.length_drop]; omega) (by rw [List.length_drop]; omega) (Nat.le_refl _)]

/-! ### what a path makes -/
theorem stepT_le : ∀ (f : Nat) (l : List α) (m : Nat) (b : Bool), l.length ≤ f → 1 ≤ m → m ≤ l.length → (stepT nd e l m b).length ≤ l.length := by
  intro f
  induction f with
  | zero => intro l m b h h1 h2; omega
  | succ f ih =>
    intro l m b h h1 h2
    by_cases hm : m = l.length
    · subst hm
      rw [stepT_all nd e h1]
      cases b <;> simp <;> omega
    · have hs := spl_lt (n := l.length) (by omega)
      have hp := spl_pos l.length
      rw [stepT_less nd e h1 (by omega)]
      by_cases hk : m ≤ spl l.length
      · have i1 := ih (l.take (spl l.length)) m b (by rw [List.length_take]; omega) h1 (by rw [List.length_take]; omega)
        rw [List.length_take] at i1
        rw [if_pos hk, List.length_cons]
        omega
      · have i2 := ih (l.drop (spl l.length)) (m - spl l.length) false (by rw [List.length_drop]; omega) (by omega) (by rw [List.length_drop]; omega)
        rw [List.length_drop] at i2
        rw [if_neg hk, List.length_cons]
        omega
/-! ### what a step makes -/
def endS (old : α) (r : List α) (b : Bool) : Option α := match b with
  | true => match r with
    | [] => some old
    | _ :: _ => none
  | false => match r with
    | [] => none
    | y :: s => match s with
      | [] => some y
      | _ :: _ => none
def oldS (old : α) : List α → Nat → Nat → Bool → Option α
  | [], m, n, b => if m = n then endS old [] b else none
  | p :: r, m, n, b => if m = n then endS old (p :: r) b else if m ≤ spl n then oldS old r m (spl n) b else (oldS old r (m - spl n) (n - spl n) false).map (fun s => nd p s)
def newS (old : α) : List α → Nat → Nat → Bool → Option α
  | [], m, n, b => if m = n then endS old [] b else none
  | p :: r, m, n, b => if m = n then endS old (p :: r) b else if m ≤ spl n then (newS old r m (spl n) b).map (fun s => nd s p) else (newS old r (m - spl n) (n - spl n) false).map (fun s => nd p s)
theorem oldS_cons (old p : α) (r : List α) (m n : Nat) (b : Bool) : oldS nd old (p :: r) m n b = if m = n then endS old (p :: r) b else if m ≤ spl n then oldS nd old r m (spl n) b else (oldS nd old r (m - spl n) (n - spl n) false).map (fun s => nd p s) := rfl
theorem newS_cons (old p : α) (r : List α) (m n : Nat) (b : Bool) : newS nd old (p :: r) m n b = if m = n then endS old (p :: r) b else if m ≤ spl n then (newS nd old r m (spl n) b).map (fun s => nd s p) else (newS nd old r (m - spl n) (n - spl n) false).map (fun s => nd p s) := rfl
theorem oldS_all (old : α) (r : List α) (n : Nat) (b : Bool) : oldS nd old r n n b = endS old r b := by
  cases r with
  | nil => show (if n = n then _ else _) = _; rw [if_pos rfl]
  | cons p r => rw [oldS_cons, if_pos rfl]
theorem newS_all (old : α) (r : List α) (n : Nat) (b : Bool) : newS nd old r n n b = endS old r b := by
  cases r with
  | nil => show (if n = n then _ else _) = _; rw [if_pos rfl]
  | cons p r => rw [newS_cons, if_pos rfl]
/-- a step from the first ones makes their root, and that of all -/
theorem step_makes : ∀ (f : Nat) (l : List α) (m : Nat) (b : Bool) (old : α), l.length ≤ f → 1 ≤ m → m ≤ l.length → (b = true → old = rootL nd e (l.take m)) → oldS nd old (stepT nd e l m b) m l.length b = some (rootL nd e (l.take m)) ∧ newS nd old (stepT nd e l m b) m l.length b = some (rootL nd e l) := by
  intro f
  induction f with
  | zero => intro l m b old h h1 h2 _; omega
  | succ f ih =>
    intro l m b old h h1 h2 ho
    by_cases hm : m = l.length
    · subst hm
      rw [oldS_all, newS_all, stepT_all nd e h1, List.take_length]
      cases b with
      | true =>
        have := ho rfl
        rw [List.take_length] at this
        subst this
        exact ⟨rfl, rfl⟩
      | false => exact ⟨rfl, rfl⟩
    · have hs := spl_lt (n := l.length) (by omega)
      have hp := spl_pos l.length
      have hl2 := le_spl l.length
      have hlt : (l.take (spl l.length)).length = spl l.length := by rw [List.length_take]; omega
      have hld : (l.drop (spl l.length)).length = l.length - spl l.length := by rw [List.length_drop]
      rw [stepT_less nd e h1 (by omega)]
      by_cases hk : m ≤ spl l.length
      · have e1 : (l.take (spl l.length)).take m = l.take m := by rw [List.take_take, Nat.min_eq_left hk]
        obtain ⟨i1, i2⟩ := ih (l.take (spl l.length)) m b old (by omega) h1 (by omega) (by rw [e1]; exact ho)
        rw [hlt] at i1 i2
        rw [if_pos hk, oldS_cons, newS_cons, if_neg hm, if_neg hm, if_pos hk, if_pos hk, i1, i2, e1, rootL_two nd e (l := l) (by omega)]
        exact ⟨rfl, rfl⟩
      · obtain ⟨i1, i2⟩ := ih (l.drop (spl l.length)) (m - spl l.length) false old (by omega) (by omega) (by omega) (by intro h; cases h)
        rw [hld] at i1 i2
        have hsm : spl m = spl l.length := by unfold spl at *; exact spl_is (j := (l.length - 1).log2) (by omega) (by omega)
        have e1 : rootL nd e (l.take m) = nd (rootL nd e (l.take (spl l.length))) (rootL nd e ((l.drop (spl l.length)).take (m - spl l.length))) := by
          rw [rootL_two nd e (l := l.take m) (by rw [List.length_take]; omega), List.length_take, Nat.min_eq_left h2, hsm, List.take_take, Nat.min_eq_left (by omega), List.drop_take]
        rw [if_neg hk, oldS_cons, newS_cons, if_neg hm, if_neg hm, if_neg hk, if_neg hk, i1, i2, e1, rootL_two nd e (l := l) (by omega)]
        exact ⟨rfl, rfl⟩
/-- steps that make something at the same places have the same length -/
theorem oldS_length : ∀ (r r' : List α) (m n : Nat) (b : Bool) (old old' : α), (oldS nd old r m n b).isSome → (oldS nd old' r' m n b).isSome → r.length = r'.length := by
  intro r
  induction r with
  | nil =>
    intro r' m n b old old' h h'
    by_cases hm : m = n
    · subst hm
      rw [oldS_all] at h h'
      cases b with
      | true =>
        cases r' with
        | nil => rfl
        | cons p r' => cases h'
      | false => cases h
    · have : oldS nd old [] m n b = none := by show (if m = n then _ else _) = _; rw [if_neg hm]
      rw [this] at h
      cases h
  | cons p r ih =>
    intro r' m n b old old' h h'
    by_cases hm : m = n
    · subst hm
      rw [oldS_all] at h h'
      cases b with
      | true => cases h
      | false =>
        cases r with
        | cons q r => cases h
        | nil =>
          cases r' with
          | nil => cases h'
          | cons p' r' =>
            cases r' with
            | nil => rfl
            | cons q' r' => cases h'
    · cases r' with
      | nil =>
        have : oldS nd old' [] m n b = none := by show (if m = n then _ else _) = _; rw [if_neg hm]
        rw [this] at h'
        cases h'
      | cons p' r' =>
        rw [oldS_cons, if_neg hm] at h h'
        rw [List.length_cons, List.length_cons]
        by_cases hk : m ≤ spl n
        · rw [if_pos hk] at h h'
          rw [ih r' m (spl n) b old old' h h']
        · rw [if_neg hk, Option.isSome_map] at h h'
          rw [ih r' _ _ _ old old' h h']
end

/-! ### two unlike texts of one sum -/
section
variable {α : Type} (nd : α → α → α)
end

end Go.Proofs.YtdjglghecekeoaaGreatDoor.Q

/- On which side each sum of a path stands, from the top down and by bits from the leaf up. Nothing of the program is named here. -/
namespace Go.Proofs.YtdjglghecekeoaaGreatDoor.Q
open Go.Proofs.YtdjglghecekeoaaGreatDoor.R

/-! ### by bits, the lowest first; s is the last place -/
def bitF : Nat → Nat → Nat → List Bool
  | 0, _, _ => []
  | f + 1, i, s => if s = 0 then [] else if i % 2 = 1 then true :: bitF f (i / 2) (s / 2) else if i < s then false :: bitF f (i / 2) (s / 2) else bitF f (i / 2) (s / 2)
theorem bitF_succ (f i s : Nat) : bitF (f + 1) i s = if s = 0 then [] else if i % 2 = 1 then true :: bitF f (i / 2) (s / 2) else if i < s then false :: bitF f (i / 2) (s / 2) else bitF f (i / 2) (s / 2) := rfl
theorem bitF_any : ∀ (f g i s : Nat), s ≤ f → s ≤ g → bitF f i s = bitF g i s := by
  intro f
  induction f with
  | zero =>
    intro g i s hf _
    obtain rfl : s = 0 := by omega
    cases g with
    | zero => rfl
    | succ g => rw [bitF_succ, if_pos rfl]; rfl
  | succ f ih =>
    intro g i s hf hg
    cases g with
    | zero =>
      obtain rfl : s = 0 := by omega
      rw [bitF_succ, if_pos rfl]; rfl
    | succ g =>
      rw [bitF_succ, bitF_succ]
      by_cases h0 : s = 0
      · rw [if_pos h0, if_pos h0]
      · rw [if_neg h0, if_neg h0, ih g (i / 2) (s / 2) (by omega) (by omega)]
def bits (i s : Nat) : List Bool := bitF s i s
theorem bits_zero (i : Nat) : bits i 0 = [] := rfl
theorem bits_two {s : Nat} (h : 0 < s) (i : Nat) : bits i s = if i % 2 = 1 then true :: bits (i / 2) (s / 2) else if i < s then false :: bits (i / 2) (s / 2) else bits (i / 2) (s / 2) := by
  unfold bits
  rw [bitF_any s (s - 1 + 1) i s (Nat.le_refl _) (by omega), bitF_succ, if_neg (by omega), bitF_any (s - 1) (s / 2) (i / 2) (s / 2) (by omega) (Nat.le_refl _)]
theorem bits_odd {i s : Nat} (h : i % 2 = 1) (hi : i ≤ s) : bits i s = true :: bits (i / 2) (s / 2) := by rw [bits_two (by omega), if_pos h]
theorem bits_even {i s : Nat} (h : i % 2 = 0) (hi : i < s) : bits i s = false :: bits (i / 2) (s / 2) := by rw [bits_two (by omega), if_neg (by omega), if_pos hi]
theorem bits_last {i s : Nat} (h : i % 2 = 0) (hi : i = s) : bits i s = bits (i / 2) (s / 2) := by
  subst hi
  rcases Nat.eq_zero_or_pos i with h0 | h0
  · subst h0; rfl
  · rw [bits_two h0, if_neg (by omega), if_neg (by omega)]
/-- the place in the first half, the last one in the second -/
theorem bits_low : ∀ (j i s : Nat), i < 2 ^ j → 2 ^ j ≤ s → s < 2 * 2 ^ j → bits i s = bits i (2 ^ j - 1) ++ [false] := by
  intro j
  induction j with
  | zero =>
    intro i s hi h1 h2
    obtain rfl : i = 0 := by simpa using hi
    obtain rfl : s = 1 := by simp at h1 h2; omega
    rfl
  | succ j ih =>
    intro i s hi h1 h2
    rw [Nat.pow_succ] at hi h1 h2
    have hp := Nat.pow_pos (n := j) (show 0 < 2 by decide)
    have h3 := ih (i / 2) (s / 2) (by omega) (by omega) (by omega)
    have e : (2 ^ (j + 1) - 1) / 2 = 2 ^ j - 1 := by rw [Nat.pow_succ]; omega
    rcases Nat.mod_two_eq_zero_or_one i with h0 | h0
    · rw [bits_even h0 (by omega), bits_even h0 (s := 2 ^ (j + 1) - 1) (by rw [Nat.pow_succ]; omega), h3, e]
      rfl
    · rw [bits_odd h0 (by omega), bits_odd h0 (s := 2 ^ (j + 1) - 1) (by rw [Nat.pow_succ]; omega), h3, e]
      rfl
/-- both in the second half -/
theorem bits_high : ∀ (j a b : Nat), a ≤ b → b < 2 ^ j → bits (2 ^ j + a) (2 ^ j + b) = bits a b ++ [true] := by
  intro j
  induction j with
  | zero =>
    intro a b hab hb
    obtain rfl : b = 0 := by simpa using hb
    obtain rfl : a = 0 := by omega
    rfl
  | succ j ih =>
    intro a b hab hb
    rw [Nat.pow_succ] at hb ⊢
    have hp := Nat.pow_pos (n := j) (show 0 < 2 by decide)
    have h3 := ih (a / 2) (b / 2) (by omega) (by omega)
    have e1 : (2 ^ j * 2 + a) / 2 = 2 ^ j + a / 2 := by omega
    have e2 : (2 ^ j * 2 + b) / 2 = 2 ^ j + b / 2 := by omega
    rcases Nat.mod_two_eq_zero_or_one a with h0 | h0
    · by_cases hlt : a < b
      · rw [bits_even (i := 2 ^ j * 2 + a) (by omega) (by omega), bits_even h0 hlt, e1, e2, h3]
        rfl
      · rw [bits_last (i := 2 ^ j * 2 + a) (by omega) (by omega), bits_last h0 (by omega), e1, e2, h3]
    · rw [bits_odd (i := 2 ^ j * 2 + a) (by omega) (by omega), bits_odd h0 hab, e1, e2, h3]
      rfl
section
variable {α : Type} (nd : α → α → α)
/-- the node of one that was made and the next sum -/
def nodeB (b : Bool) (x p : α) : α := if b then nd p x else nd x p
/-- what sums make, the lowest first -/
def mkUp : α → List Bool → List α → Option α
  | x, [], [] => some x
  | x, b :: bs, p :: ps => mkUp (nodeB nd b x p) bs ps
  | _, _, _ => none
theorem mkUp_cons (x p : α) (b : Bool) (bs : List Bool) (ps : List α) : mkUp nd x (b :: bs) (p :: ps) = mkUp nd (nodeB nd b x p) bs ps := rfl
theorem mkUp_short (x p : α) (ps : List α) : mkUp nd x [] (p :: ps) = none := rfl
theorem mkUp_end (x p : α) (ps : List α) : mkUp nd x [] (ps ++ [p]) = none := by cases ps <;> rfl
theorem mkUp_snoc : ∀ (bs : List Bool) (ps : List α) (x p : α) (b : Bool), mkUp nd x (bs ++ [b]) (ps ++ [p]) = (mkUp nd x bs ps).map (fun s => nodeB nd b s p) := by
  intro bs
  induction bs with
  | nil =>
    intro ps x p b
    cases ps with
    | nil => rfl
    | cons q ps =>
      show mkUp nd (nodeB nd b x q) [] (ps ++ [p]) = _
      rw [mkUp_end, mkUp_short]
      rfl
  | cons c bs ih =>
    intro ps x p b
    cases ps with
    | nil =>
      show mkUp nd (nodeB nd c x p) (bs ++ [b]) [] = _
      cases bs <;> rfl
    | cons q ps => exact ih ps (nodeB nd c x q) p b
end
end Go.Proofs.YtdjglghecekeoaaGreatDoor.Q

/- What a step makes, by bits from the lowest sum up. Nothing of the program is named here. -/
namespace Go.Proofs.YtdjglghecekeoaaGreatDoor.Q
open Go.Proofs.YtdjglghecekeoaaGreatDoor.R

/-! ### the sides of a step -/
def sdF : Nat → Nat → Nat → List Bool
  | 0, _, _ => []
  | f + 1, m, n => if m = n then [] else if m ≤ spl n then false :: sdF f m (spl n) else true :: sdF f (m - spl n) (n - spl n)
theorem sdF_succ (f m n : Nat) : sdF (f + 1) m n = if m = n then [] else if m ≤ spl n then false :: sdF f m (spl n) else true :: sdF f (m - spl n) (n - spl n) := rfl
theorem sdF_any : ∀ (f g m n : Nat), 1 ≤ m → m ≤ n → n ≤ f → n ≤ g → sdF f m n = sdF g m n := by
  intro f
  induction f with
  | zero => intro g m n h1 h2 hf _; omega
  | succ f ih =>
    intro g m n h1 h2 hf hg
    cases g with
    | zero => omega
    | succ g =>
      rw [sdF_succ, sdF_succ]
      by_cases hm : m = n
      · rw [if_pos hm, if_pos hm]
      · rw [if_neg hm, if_neg hm]
        have hs := spl_lt (n := n) (by omega)
        have hp := spl_pos n
        by_cases hk : m ≤ spl n
        · rw [if_pos hk, if_pos hk, ih g m (spl n) h1 hk (by omega) (by omega)]
        · rw [if_neg hk, if_neg hk, ih g (m - spl n) (n - spl n) (by omega) (by omega) (by omega) (by omega)]
def sdT (m n : Nat) : List Bool := sdF n m n
theorem sdT_all {n : Nat} (h : 1 ≤ n) : sdT n n = [] := by
  unfold sdT
  obtain ⟨f, rfl⟩ : ∃ f, n = f + 1 := ⟨n - 1, by omega⟩
  rw [sdF_succ, if_pos rfl]
theorem sdT_less {m n : Nat} (h1 : 1 ≤ m) (h2 : m < n) : sdT m n = if m ≤ spl n then false :: sdT m (spl n) else true :: sdT (m - spl n) (n - spl n) := by
  have hs := spl_lt (n := n) (by omega)
  have hp := spl_pos n
  unfold sdT
  rw [sdF_any n (n - 1 + 1) m n h1 (by omega) (Nat.le_refl _) (by omega), sdF_succ, if_neg (by omega)]
  by_cases hk : m ≤ spl n
  · rw [if_pos hk, if_pos hk, sdF_any (n - 1) (spl n) m (spl n) h1 hk (by omega) (Nat.le_refl _)]
  · rw [if_neg hk, if_neg hk, sdF_any (n - 1) (n - spl n) _ (n - spl n) (by omega) (by omega) (by omega) (Nat.le_refl _)]

section
variable {α : Type} (nd : α → α → α)
/-- the old root: a sum on the right is no part of it -/
def nodeO (b : Bool) (x p : α) : α := if b then nd p x else x
def mkOld : α → List Bool → List α → Option α
  | x, [], [] => some x
  | x, b :: bs, p :: ps => mkOld (nodeO nd b x p) bs ps
  | _, _, _ => none
theorem mkOld_end (x p : α) (ps : List α) : mkOld nd x [] (ps ++ [p]) = none := by cases ps <;> rfl
theorem mkOld_snoc : ∀ (bs : List Bool) (ps : List α) (x p : α) (b : Bool), mkOld nd x (bs ++ [b]) (ps ++ [p]) = (mkOld nd x bs ps).map (fun s => nodeO nd b s p) := by
  intro bs
  induction bs with
  | nil =>
    intro ps x p b
    cases ps with
    | nil => rfl
    | cons q ps =>
      show mkOld nd (nodeO nd b x q) [] (ps ++ [p]) = _
      rw [mkOld_end]
      rfl
  | cons c bs ih =>
    intro ps x p b
    cases ps with
    | nil =>
      show mkOld nd (nodeO nd c x p) (bs ++ [b]) [] = _
      cases bs <;> rfl
    | cons q ps => exact ih ps (nodeO nd c x q) p b
theorem mkUp_none (x : α) (bs : List Bool) (b : Bool) : mkUp nd x (bs ++ [b]) [] = none := by cases bs <;> rfl
theorem mkOld_none (x : α) (bs : List Bool) (b : Bool) : mkOld nd x (bs ++ [b]) [] = none := by cases bs <;> rfl
/-- what goes on with the first sum -/
def fromTop (K : α → List α → Option α) : List α → Option α
  | [] => none
  | x :: ps => K x ps
theorem fromTop_snoc (K : α → List α → Option α) (ps : List α) (p : α) : fromTop K (ps ++ [p]) = match ps with
    | [] => K p []
    | x :: qs => K x (qs ++ [p]) := by cases ps <;> rfl
theorem endS_true (old : α) (r : List α) : endS old r true = mkUp nd old [] r.reverse := by
  cases r with
  | nil => rfl
  | cons p r => rw [List.reverse_cons, mkUp_end]; rfl
theorem endS_trueO (old : α) (r : List α) : endS old r true = mkOld nd old [] r.reverse := by
  cases r with
  | nil => rfl
  | cons p r => rw [List.reverse_cons, mkOld_end]; rfl
theorem endS_false (old : α) (r : List α) : endS old r false = fromTop (fun x ps => mkUp nd x [] ps) r.reverse := by
  cases r with
  | nil => rfl
  | cons p r =>
    cases r with
    | nil => rfl
    | cons q r =>
      rw [List.reverse_cons, List.reverse_cons, fromTop_snoc]
      cases hr : r.reverse with
      | nil => rfl
      | cons x qs => exact (mkUp_end nd x p (qs ++ [q])).symm
theorem endS_falseO (old : α) (r : List α) : endS old r false = fromTop (fun x ps => mkOld nd x [] ps) r.reverse := by
  cases r with
  | nil => rfl
  | cons p r =>
    cases r with
    | nil => rfl
    | cons q r =>
      rw [List.reverse_cons, List.reverse_cons, fromTop_snoc]
      cases hr : r.reverse with
      | nil => rfl
      | cons x qs => exact (mkOld_end nd x p (qs ++ [q])).symm
/-- the new root, from the lowest sum up: from the old root, if no side is a left one, else from the first sum -/
theorem newS_up : ∀ (r : List α) (old : α) (m n : Nat) (b : Bool), 1 ≤ m → m ≤ n → newS nd old r m n b = if b = true ∧ true ∉ sdT m n then mkUp nd old (sdT m n).reverse r.reverse else fromTop (fun x ps => mkUp nd x (sdT m n).reverse ps) r.reverse := by
  intro r
  induction r with
  | nil =>
    intro old m n b h1 h2
    by_cases hm : m = n
    · subst hm
      rw [newS_all, sdT_all h1]
      cases b <;> rfl
    · have e : newS nd old [] m n b = none := by show (if m = n then _ else _) = _; rw [if_neg hm]
      rw [e, sdT_less h1 (by omega)]
      by_cases hk : m ≤ spl n
      · rw [if_pos hk]
        split
        · rw [List.reverse_cons]; exact (mkUp_none nd _ _ _).symm
        · rfl
      · rw [if_neg hk]
        split
        · rw [List.reverse_cons]; exact (mkUp_none nd _ _ _).symm
        · rfl
  | cons p r ih =>
    intro old m n b h1 h2
    by_cases hm : m = n
    · subst hm
      rw [newS_all, sdT_all h1]
      cases b with
      | true => rw [if_pos ⟨rfl, by simp⟩]; exact endS_true nd old (p :: r)
      | false => rw [if_neg (fun h => by cases h.1)]; exact endS_false nd old (p :: r)
    · have hs := spl_lt (n := n) (by omega)
      have hp := spl_pos n
      rw [newS_cons, if_neg hm, sdT_less h1 (by omega)]
      by_cases hk : m ≤ spl n
      · rw [if_pos hk, if_pos hk, ih old m (spl n) b h1 hk]
        have e : (true ∉ false :: sdT m (spl n)) ↔ (true ∉ sdT m (spl n)) := by simp
        by_cases hb : b = true ∧ true ∉ sdT m (spl n)
        · rw [if_pos hb, if_pos ⟨hb.1, e.2 hb.2⟩, List.reverse_cons, List.reverse_cons, mkUp_snoc]
          rfl
        · rw [if_neg hb, if_neg (fun h => hb ⟨h.1, e.1 h.2⟩), List.reverse_cons, List.reverse_cons, fromTop_snoc]
          cases hr : r.reverse with
          | nil => exact (mkUp_none nd _ _ _).symm
          | cons x qs => show Option.map _ (mkUp nd x _ qs) = mkUp nd x (_ ++ [false]) (qs ++ [p]); rw [mkUp_snoc]; rfl
      · rw [if_neg hk, if_neg hk, ih old (m - spl n) (n - spl n) false (by omega) (by omega)]
        rw [if_neg (fun h => by cases h.1), if_neg (fun h => h.2 (by simp)), List.reverse_cons, List.reverse_cons, fromTop_snoc]
        cases hr : r.reverse with
        | nil => exact (mkUp_none nd _ _ _).symm
        | cons x qs => show Option.map _ (mkUp nd x _ qs) = mkUp nd x (_ ++ [true]) (qs ++ [p]); rw [mkUp_snoc]; rfl
theorem oldS_up : ∀ (r : List α) (old : α) (m n : Nat) (b : Bool), 1 ≤ m → m ≤ n → oldS nd old r m n b = if b = true ∧ true ∉ sdT m n then mkOld nd old (sdT m n).reverse r.reverse else fromTop (fun x ps => mkOld nd x (sdT m n).reverse ps) r.reverse := by
  intro r
  induction r with
  | nil =>
    intro old m n b h1 h2
    by_cases hm : m = n
    · subst hm
      rw [oldS_all, sdT_all h1]
      cases b <;> rfl
    · have e : oldS nd old [] m n b = none := by show (if m = n then _ else _) = _; rw [if_neg hm]
      rw [e, sdT_less h1 (by omega)]
      by_cases hk : m ≤ spl n
      · rw [if_pos hk]
        split
        · rw [List.reverse_cons]; exact (mkOld_none nd _ _ _).symm
        · rfl
      · rw [if_neg hk]
        split
        · rw [List.reverse_cons]; exact (mkOld_none nd _ _ _).symm
        · rfl
  | cons p r ih =>
    intro old m n b h1 h2
    by_cases hm : m = n
    · subst hm
      rw [oldS_all, sdT_all h1]
      cases b with
      | true => rw [if_pos ⟨rfl, by simp⟩]; exact endS_trueO nd old (p :: r)
      | false => rw [if_neg (fun h => by cases h.1)]; exact endS_falseO nd old (p :: r)
    · have hs := spl_lt (n := n) (by omega)
      have hp := spl_pos n
      rw [oldS_cons, if_neg hm, sdT_less h1 (by omega)]
      by_cases hk : m ≤ spl n
      · rw [if_pos hk, if_pos hk, ih old m (spl n) b h1 hk]
        have e : (true ∉ false :: sdT m (spl n)) ↔ (true ∉ sdT m (spl n)) := by simp
        by_cases hb : b = true ∧ true ∉ sdT m (spl n)
        · rw [if_pos hb, if_pos ⟨hb.1, e.2 hb.2⟩, List.reverse_cons, List.reverse_cons, mkOld_snoc]
          cases mkOld nd old (sdT m (spl n)).reverse r.reverse <;> rfl
        · rw [if_neg hb, if_neg (fun h => hb ⟨h.1, e.1 h.2⟩), List.reverse_cons, List.reverse_cons, fromTop_snoc]
          cases hr : r.reverse with
          | nil => exact (mkOld_none nd _ _ _).symm
          | cons x qs =>
            show mkOld nd x (sdT m (spl n)).reverse qs = mkOld nd x (_ ++ [false]) (qs ++ [p])
            rw [mkOld_snoc]
            cases mkOld nd x (sdT m (spl n)).reverse qs <;> rfl
      · rw [if_neg hk, if_neg hk, ih old (m - spl n) (n - spl n) false (by omega) (by omega)]
        rw [if_neg (fun h => by cases h.1), if_neg (fun h => h.2 (by simp)), List.reverse_cons, List.reverse_cons, fromTop_snoc]
        cases hr : r.reverse with
        | nil => exact (mkOld_none nd _ _ _).symm
        | cons x qs => show Option.map _ (mkOld nd x _ qs) = mkOld nd x (_ ++ [true]) (qs ++ [p]); rw [mkOld_snoc]; rfl
end

/-! ### by bits: i is the last one of the first leaves, s the last of all -/
def sdBF : Nat → Nat → Nat → List Bool
  | 0, i, s => bits i s
  | f + 1, i, s => if i % 2 = 1 then sdBF f (i / 2) (s / 2) else bits i s
theorem sdBF_succ (f i s : Nat) : sdBF (f + 1) i s = if i % 2 = 1 then sdBF f (i / 2) (s / 2) else bits i s := rfl
theorem sdBF_any : ∀ (f g i s : Nat), i ≤ f → i ≤ g → sdBF f i s = sdBF g i s := by
  intro f
  induction f with
  | zero =>
    intro g i s hf _
    obtain rfl : i = 0 := by omega
    cases g with
    | zero => rfl
    | succ g => rw [sdBF_succ, if_neg (by decide)]; rfl
  | succ f ih =>
    intro g i s hf hg
    cases g with
    | zero =>
      obtain rfl : i = 0 := by omega
      rw [sdBF_succ, if_neg (by decide)]; rfl
    | succ g =>
      rw [sdBF_succ, sdBF_succ]
      by_cases h : i % 2 = 1
      · rw [if_pos h, if_pos h, ih g (i / 2) (s / 2) (by omega) (by omega)]
      · rw [if_neg h, if_neg h]
def sdB (i s : Nat) : List Bool := sdBF i i s
theorem sdB_even {i : Nat} (h : i % 2 = 0) (s : Nat) : sdB i s = bits i s := by
  unfold sdB
  cases i with
  | zero => rfl
  | succ i => rw [sdBF_succ, if_neg (by omega)]
theorem sdB_odd {i : Nat} (h : i % 2 = 1) (s : Nat) : sdB i s = sdB (i / 2) (s / 2) := by
  unfold sdB
  rw [sdBF_any i (i - 1 + 1) i s (Nat.le_refl _) (by omega), sdBF_succ, if_pos h, sdBF_any (i - 1) (i / 2) _ _ (by omega) (Nat.le_refl _)]
theorem sdB_low : ∀ (j i s : Nat), i < 2 ^ j → 2 ^ j ≤ s → s < 2 * 2 ^ j → sdB i s = (if i = 2 ^ j - 1 then [] else sdB i (2 ^ j - 1)) ++ [false] := by
  intro j
  induction j with
  | zero =>
    intro i s hi h1 h2
    obtain rfl : i = 0 := by simpa using hi
    obtain rfl : s = 1 := by simp at h1 h2; omega
    rfl
  | succ j ih =>
    intro i s hi h1 h2
    have hlow := bits_low (j + 1) i s hi h1 h2
    rw [Nat.pow_succ] at hi h1 h2
    have hp := Nat.pow_pos (n := j) (show 0 < 2 by decide)
    have e : (2 ^ (j + 1) - 1) / 2 = 2 ^ j - 1 := by rw [Nat.pow_succ]; omega
    rcases Nat.mod_two_eq_zero_or_one i with h0 | h0
    · rw [sdB_even h0, sdB_even h0, hlow, if_neg (by rw [Nat.pow_succ]; omega)]
    · have h3 := ih (i / 2) (s / 2) (by omega) (by omega) (by omega)
      rw [sdB_odd h0, sdB_odd h0, h3, e]
      by_cases hi2 : i = 2 ^ (j + 1) - 1
      · rw [if_pos hi2, if_pos (by rw [hi2, e])]
      · rw [if_neg hi2, if_neg (by rw [Nat.pow_succ] at hi2; omega)]
theorem sdB_high : ∀ (j a b : Nat), a < b → b < 2 ^ j → sdB (2 ^ j + a) (2 ^ j + b) = sdB a b ++ [true] := by
  intro j
  induction j with
  | zero => intro a b hab hb; simp at hb; omega
  | succ j ih =>
    intro a b hab hb
    have hhigh := bits_high (j + 1) a b (by omega) hb
    have e1 : (2 ^ (j + 1) + a) / 2 = 2 ^ j + a / 2 := by rw [Nat.pow_succ]; omega
    have e2 : (2 ^ (j + 1) + b) / 2 = 2 ^ j + b / 2 := by rw [Nat.pow_succ]; omega
    have e3 : (2 ^ (j + 1) + a) % 2 = a % 2 := by rw [Nat.pow_succ]; omega
    rw [Nat.pow_succ] at hb
    rcases Nat.mod_two_eq_zero_or_one a with h0 | h0
    · rw [sdB_even (i := 2 ^ (j + 1) + a) (by omega), sdB_even h0, hhigh]
    · rw [sdB_odd (i := 2 ^ (j + 1) + a) (by omega), sdB_odd h0, e1, e2, ih (a / 2) (b / 2) (by omega) (by omega)]
/-- a step's sides from the top down are those by bits, behind those bits of the last place that are 1 -/
theorem sd_bits : ∀ (f m n : Nat), n ≤ f → 1 ≤ m → m < n → (sdT m n).reverse = sdB (m - 1) (n - 1) := by
  intro f
  induction f with
  | zero => intro m n h h1 h2; omega
  | succ f ih =>
    intro m n h h1 h2
    have hs := spl_lt (n := n) (by omega)
    have hp := spl_pos n
    have hl := le_spl n
    rw [sdT_less h1 h2]
    by_cases hk : m ≤ spl n
    · rw [if_pos hk, List.reverse_cons]
      have h3 := sdB_low (n - 1).log2 (m - 1) (n - 1) (by unfold spl at *; omega) (by unfold spl at *; omega) (by unfold spl at *; omega)
      rw [h3]
      by_cases hm : m = spl n
      · rw [if_pos (by unfold spl at hm; omega), ← hm, sdT_all h1]
        rfl
      · rw [if_neg (by unfold spl at hm hp; omega), ih m (spl n) (by omega) h1 (by omega)]
        rfl
    · rw [if_neg hk, List.reverse_cons, ih (m - spl n) (n - spl n) (by omega) (by omega) (by omega)]
      have h3 := sdB_high (n - 1).log2 (m - 1 - spl n) (n - 1 - spl n) (by omega) (by unfold spl at *; omega)
      rw [show 2 ^ (n - 1).log2 + (m - 1 - spl n) = m - 1 by unfold spl at *; omega, show 2 ^ (n - 1).log2 + (n - 1 - spl n) = n - 1 by unfold spl at *; omega] at h3
      rw [h3, show m - spl n - 1 = m - 1 - spl n by omega, show n - spl n - 1 = n - 1 - spl n by omega]
/-- bits of 0 are no left sides; others have one -/
theorem bits_left : ∀ (f i s : Nat), s ≤ f → i ≤ s → (true ∈ bits i s ↔ 0 < i) := by
  intro f
  induction f with
  | zero =>
    intro i s h hi
    obtain rfl : s = 0 := by omega
    obtain rfl : i = 0 := by omega
    rw [bits_zero]
    simp
  | succ f ih =>
    intro i s h hi
    rcases Nat.eq_zero_or_pos s with h0 | h0
    · subst h0
      obtain rfl : i = 0 := by omega
      rw [bits_zero]
      simp
    · have h3 := ih (i / 2) (s / 2) (by omega) (by omega)
      rcases Nat.mod_two_eq_zero_or_one i with h1 | h1
      · by_cases hlt : i < s
        · rw [bits_even h1 hlt]
          simp only [List.mem_cons, Bool.true_eq_false, false_or]
          rw [h3]
          omega
        · rw [bits_last h1 (by omega), h3]
          omega
      · rw [bits_odd h1 hi]
        simp
        omega
/-- the last place without its lowest bits that are 1 -/
def stripF : Nat → Nat → Nat
  | 0, i => i
  | f + 1, i => if i % 2 = 1 then stripF f (i / 2) else i
theorem stripF_succ (f i : Nat) : stripF (f + 1) i = if i % 2 = 1 then stripF f (i / 2) else i := rfl
theorem stripF_any : ∀ (f g i : Nat), i ≤ f → i ≤ g → stripF f i = stripF g i := by
  intro f
  induction f with
  | zero =>
    intro g i hf _
    obtain rfl : i = 0 := by omega
    cases g with
    | zero => rfl
    | succ g => rw [stripF_succ, if_neg (by decide)]; rfl
  | succ f ih =>
    intro g i hf hg
    cases g with
    | zero =>
      obtain rfl : i = 0 := by omega
      rw [stripF_succ, if_neg (by decide)]; rfl
    | succ g =>
      rw [stripF_succ, stripF_succ]
      by_cases h : i % 2 = 1
      · rw [if_pos h, if_pos h, ih g (i / 2) (by omega) (by omega)]
      · rw [if_neg h, if_neg h]
def strip (i : Nat) : Nat := stripF i i
theorem strip_even {i : Nat} (h : i % 2 = 0) : strip i = i := by
  unfold strip
  cases i with
  | zero => rfl
  | succ i => rw [stripF_succ, if_neg (by omega)]
theorem strip_odd {i : Nat} (h : i % 2 = 1) : strip i = strip (i / 2) := by
  unfold strip
  rw [stripF_any i (i - 1 + 1) i (Nat.le_refl _) (by omega), stripF_succ, if_pos h, stripF_any (i - 1) (i / 2) _ (by omega) (Nat.le_refl _)]
theorem sdB_left : ∀ (f i s : Nat), i ≤ f → i ≤ s → (true ∈ sdB i s ↔ 0 < strip i) := by
  intro f
  induction f with
  | zero =>
    intro i s h hi
    obtain rfl : i = 0 := by omega
    rw [sdB_even (by decide), strip_even (by decide), bits_left s 0 s (Nat.le_refl _) hi]
  | succ f ih =>
    intro i s h hi
    rcases Nat.mod_two_eq_zero_or_one i with h1 | h1
    · rw [sdB_even h1, strip_even h1, bits_left s i s (Nat.le_refl _) hi]
    · rw [sdB_odd h1, strip_odd h1, ih (i / 2) (s / 2) (by omega) (by omega)]
end Go.Proofs.YtdjglghecekeoaaGreatDoor.Q

/- Which parts stand beside the way up from a part with a place in it, from the lowest one up: of paths and of steps. Nothing of the program is named here. -/
namespace Go.Proofs.YtdjglghecekeoaaGreatDoor.Q
open Go.Proofs.YtdjglghecekeoaaGreatDoor.R

/-- on the left side?, from which leaf, to ahead of which -/
abbrev Part := Bool × Nat × Nat
def prtF : Nat → Nat → Nat → Nat → Nat → List Part
  | 0, _, _, _, _ => []
  | f + 1, i, s, t, n => if s = 0 then [] else if i % 2 = 1 then (true, (i - 1) * 2 ^ t, i * 2 ^ t) :: prtF f (i / 2) (s / 2) (t + 1) n else if i < s then (false, (i + 1) * 2 ^ t, min ((i + 2) * 2 ^ t) n) :: prtF f (i / 2) (s / 2) (t + 1) n else prtF f (i / 2) (s / 2) (t + 1) n
theorem prtF_succ (f i s t n : Nat) : prtF (f + 1) i s t n = if s = 0 then [] else if i % 2 = 1 then (true, (i - 1) * 2 ^ t, i * 2 ^ t) :: prtF f (i / 2) (s / 2) (t + 1) n else if i < s then (false, (i + 1) * 2 ^ t, min ((i + 2) * 2 ^ t) n) :: prtF f (i / 2) (s / 2) (t + 1) n else prtF f (i / 2) (s / 2) (t + 1) n := rfl
theorem prtF_any : ∀ (f g i s t n : Nat), s ≤ f → s ≤ g → prtF f i s t n = prtF g i s t n := by
  intro f
  induction f with
  | zero =>
    intro g i s t n hf _
    obtain rfl : s = 0 := by omega
    cases g with
    | zero => rfl
    | succ g => rw [prtF_succ, if_pos rfl]; rfl
  | succ f ih =>
    intro g i s t n hf hg
    cases g with
    | zero =>
      obtain rfl : s = 0 := by omega
      rw [prtF_succ, if_pos rfl]; rfl
    | succ g =>
      rw [prtF_succ, prtF_succ]
      by_cases h0 : s = 0
      · rw [if_pos h0, if_pos h0]
      · rw [if_neg h0, if_neg h0, ih g (i / 2) (s / 2) (t + 1) n (by omega) (by omega)]
/-- the parts: i, s are the numbers of the part with the place in it and of the last one, of 2^t leaves each; n leaves there are -/
def prt (i s t n : Nat) : List Part := prtF s i s t n
theorem prt_zero (i t n : Nat) : prt i 0 t n = [] := rfl
theorem prt_two {s : Nat} (h : 0 < s) (i t n : Nat) : prt i s t n = if i % 2 = 1 then (true, (i - 1) * 2 ^ t, i * 2 ^ t) :: prt (i / 2) (s / 2) (t + 1) n else if i < s then (false, (i + 1) * 2 ^ t, min ((i + 2) * 2 ^ t) n) :: prt (i / 2) (s / 2) (t + 1) n else prt (i / 2) (s / 2) (t + 1) n := by
  unfold prt
  rw [prtF_any s (s - 1 + 1) i s t n (Nat.le_refl _) (by omega), prtF_succ, if_neg (by omega), prtF_any (s - 1) (s / 2) (i / 2) (s / 2) (t + 1) n (by omega) (Nat.le_refl _)]
theorem prt_odd {i s : Nat} (h : i % 2 = 1) (h0 : 0 < s) (t n : Nat) : prt i s t n = (true, (i - 1) * 2 ^ t, i * 2 ^ t) :: prt (i / 2) (s / 2) (t + 1) n := by rw [prt_two h0, if_pos h]
theorem prt_even {i s : Nat} (h : i % 2 = 0) (hi : i < s) (t n : Nat) : prt i s t n = (false, (i + 1) * 2 ^ t, min ((i + 2) * 2 ^ t) n) :: prt (i / 2) (s / 2) (t + 1) n := by rw [prt_two (by omega), if_neg (by omega), if_pos hi]
theorem prt_last {i s : Nat} (h : i % 2 = 0) (hi : i = s) (t n : Nat) : prt i s t n = prt (i / 2) (s / 2) (t + 1) n := by
  subst hi
  rcases Nat.eq_zero_or_pos i with h0 | h0
  · subst h0; rfl
  · rw [prt_two h0, if_neg (by omega), if_neg (by omega)]
/-- their sides -/
theorem prt_sides : ∀ (f i s t n : Nat), s ≤ f → i ≤ s → (prt i s t n).map (·.1) = bits i s := by
  intro f
  induction f with
  | zero =>
    intro i s t n h hi
    obtain rfl : s = 0 := by omega
    rfl
  | succ f ih =>
    intro i s t n h hi
    rcases Nat.eq_zero_or_pos s with h0 | h0
    · subst h0; rfl
    · rcases Nat.mod_two_eq_zero_or_one i with h1 | h1
      · by_cases hlt : i < s
        · rw [prt_even h1 hlt, bits_even h1 hlt, List.map_cons, ih _ _ _ _ (by omega) (by omega)]
        · rw [prt_last h1 (by omega), bits_last h1 (by omega), ih _ _ _ _ (by omega) (by omega)]
      · rw [prt_odd h1 h0, bits_odd h1 hi, List.map_cons, ih _ _ _ _ (by omega) (by omega)]
theorem half_mul (s t : Nat) : s / 2 * 2 ^ (t + 1) ≤ s * 2 ^ t ∧ (s + 1) * 2 ^ t ≤ (s / 2 + 1) * 2 ^ (t + 1) := by
  have e : ∀ x, x * 2 ^ (t + 1) = (2 * x) * 2 ^ t := fun x => by rw [Nat.pow_succ, Nat.mul_comm (2 ^ t) 2, ← Nat.mul_assoc, Nat.mul_comm x 2]
  rw [e, e]
  exact ⟨Nat.mul_le_mul_right _ (by omega), Nat.mul_le_mul_right _ (by omega)⟩
theorem prt_le : ∀ (f i s t n : Nat), s ≤ f → i ≤ s → s * 2 ^ t < n → ∀ p ∈ prt i s t n, p.2.1 ≤ p.2.2 ∧ p.2.2 ≤ n := by
  intro f
  induction f with
  | zero =>
    intro i s t n h hi _ p hp
    obtain rfl : s = 0 := by omega
    cases hp
  | succ f ih =>
    intro i s t n h hi hn p hp
    rcases Nat.eq_zero_or_pos s with h0 | h0
    · subst h0; cases hp
    · have h2 := (half_mul s t).1
      have hr := ih (i / 2) (s / 2) (t + 1) n (by omega) (by omega) (by omega)
      rcases Nat.mod_two_eq_zero_or_one i with h1 | h1
      · by_cases hlt : i < s
        · rw [prt_even h1 hlt] at hp
          rcases List.mem_cons.1 hp with rfl | hp
          · have h3 : (i + 1) * 2 ^ t ≤ s * 2 ^ t := Nat.mul_le_mul_right _ (by omega)
            have h4 : (i + 1) * 2 ^ t ≤ (i + 2) * 2 ^ t := Nat.mul_le_mul_right _ (by omega)
            show (i + 1) * 2 ^ t ≤ min ((i + 2) * 2 ^ t) n ∧ min ((i + 2) * 2 ^ t) n ≤ n
            omega
          · exact hr p hp
        · rw [prt_last h1 (by omega)] at hp
          exact hr p hp
      · rw [prt_odd h1 h0] at hp
        rcases List.mem_cons.1 hp with rfl | hp
        · have h3 : i * 2 ^ t ≤ s * 2 ^ t := Nat.mul_le_mul_right _ hi
          have h4 : (i - 1) * 2 ^ t ≤ i * 2 ^ t := Nat.mul_le_mul_right _ (by omega)
          show (i - 1) * 2 ^ t ≤ i * 2 ^ t ∧ i * 2 ^ t ≤ n
          omega
        · exact hr p hp
theorem prt_length : ∀ (f i s t n : Nat), s < 2 ^ f → (prt i s t n).length ≤ f := by
  intro f
  induction f with
  | zero =>
    intro i s t n h
    obtain rfl : s = 0 := by simp at h; exact h
    exact Nat.le_refl _
  | succ f ih =>
    intro i s t n h
    rw [Nat.pow_succ] at h
    have h2 := ih (i / 2) (s / 2) (t + 1) n (by omega)
    rcases Nat.eq_zero_or_pos s with h0 | h0
    · subst h0; exact Nat.zero_le _
    · rw [prt_two h0]
      split
      · rw [List.length_cons]; omega
      · split
        · rw [List.length_cons]; omega
        · omega
/-- the place in the first half, the last one in the second -/
theorem prt_low : ∀ (j i s t n : Nat), i < 2 ^ j → 2 ^ j ≤ s → s < 2 * 2 ^ j → s * 2 ^ t < n → n ≤ (s + 1) * 2 ^ t → prt i s t n = prt i (2 ^ j - 1) t (2 ^ (j + t)) ++ [(false, 2 ^ (j + t), n)] := by
  intro j
  induction j with
  | zero =>
    intro i s t n hi h1 h2 h3 h4
    obtain rfl : i = 0 := by simpa using hi
    obtain rfl : s = 1 := by simp at h1 h2; omega
    rw [prt_even (by decide) (by decide), show 1 / 2 = 0 from rfl, prt_zero]
    have h5 : (1 + 1) * 2 ^ t = (0 + 2) * 2 ^ t := rfl
    rw [Nat.min_eq_right (by omega), Nat.zero_add, Nat.zero_add, Nat.one_mul]
    rfl
  | succ j ih =>
    intro i s t n hi h1 h2 h3 h4
    obtain ⟨k1, k2⟩ := half_mul s t
    have hJ : 2 ^ (j + 1 + t) = 2 ^ (j + 1) * 2 ^ t := Nat.pow_add _ _ _
    have hl1 : 2 ^ (j + 1) * 2 ^ t ≤ s * 2 ^ t := Nat.mul_le_mul_right _ h1
    have e0 : 2 ^ (j + 1) = 2 * 2 ^ j := by rw [Nat.pow_succ]; omega
    have hp := Nat.pow_pos (n := j) (show 0 < 2 by decide)
    have e : (2 ^ (j + 1) - 1) / 2 = 2 ^ j - 1 := by omega
    have h5 := ih (i / 2) (s / 2) (t + 1) n (by omega) (by omega) (by omega) (by omega) (by omega)
    rw [show j + (t + 1) = j + 1 + t by omega] at h5
    rcases Nat.mod_two_eq_zero_or_one i with h0 | h0
    · have h6 : (i + 2) * 2 ^ t ≤ 2 ^ (j + 1) * 2 ^ t := Nat.mul_le_mul_right _ (by omega)
      rw [prt_even h0 (by omega), prt_even h0 (s := 2 ^ (j + 1) - 1) (by omega), h5, e, Nat.min_eq_left (by omega), Nat.min_eq_left (by omega)]
      rfl
    · rw [prt_odd h0 (by omega), prt_odd h0 (s := 2 ^ (j + 1) - 1) (by omega), h5, e]
      rfl
/-- from so many leaves on -/
def shift (k : Nat) (p : Part) : Part := (p.1, p.2.1 + k, p.2.2 + k)
/-- both in the second half -/
theorem prt_high : ∀ (j a b t n : Nat), a ≤ b → b < 2 ^ j → (2 ^ j + b) * 2 ^ t < n → n ≤ (2 ^ j + b + 1) * 2 ^ t → prt (2 ^ j + a) (2 ^ j + b) t n = (prt a b t (n - 2 ^ (j + t))).map (shift (2 ^ (j + t))) ++ [(true, 0, 2 ^ (j + t))] := by
  intro j
  induction j with
  | zero =>
    intro a b t n hab hb h3 h4
    obtain rfl : b = 0 := by simpa using hb
    obtain rfl : a = 0 := by omega
    rw [prt_odd (i := 2 ^ 0 + 0) (by decide) (by decide), show (2 ^ 0 + 0) / 2 = 0 from rfl, prt_zero, prt_zero]
    rw [show 2 ^ 0 + 0 = 1 from rfl, Nat.one_mul, Nat.sub_self, Nat.zero_mul, Nat.zero_add]
    rfl
  | succ j ih =>
    intro a b t n hab hb h3 h4
    obtain ⟨k1, k2⟩ := half_mul (2 ^ (j + 1) + b) t
    have hJ : 2 ^ (j + 1 + t) = 2 ^ (j + 1) * 2 ^ t := Nat.pow_add _ _ _
    have e0 : 2 ^ (j + 1) = 2 * 2 ^ j := by rw [Nat.pow_succ]; omega
    have hp := Nat.pow_pos (n := j) (show 0 < 2 by decide)
    have e1 : (2 ^ (j + 1) + a) / 2 = 2 ^ j + a / 2 := by omega
    have e2 : (2 ^ (j + 1) + b) / 2 = 2 ^ j + b / 2 := by omega
    rw [e2] at k1 k2
    have h5 := ih (a / 2) (b / 2) (t + 1) n (by omega) (by omega) (by omega) (by omega)
    rw [show j + (t + 1) = j + 1 + t by omega] at h5
    have hK : ∀ x, (2 ^ (j + 1) + x) * 2 ^ t = x * 2 ^ t + 2 ^ (j + 1 + t) := fun x => by rw [Nat.add_mul, hJ, Nat.add_comm]
    have hKn : 2 ^ (j + 1 + t) ≤ n := by have := hK b; omega
    rcases Nat.mod_two_eq_zero_or_one a with h0 | h0
    · by_cases hlt : a < b
      · rw [prt_even (i := 2 ^ (j + 1) + a) (by omega) (by omega), prt_even h0 hlt, e1, e2, h5]
        have h6 : min ((2 ^ (j + 1) + (a + 2)) * 2 ^ t) n = min ((a + 2) * 2 ^ t) (n - 2 ^ (j + 1 + t)) + 2 ^ (j + 1 + t) := by rw [hK]; omega
        rw [show 2 ^ (j + 1) + a + 2 = 2 ^ (j + 1) + (a + 2) by omega, h6, show 2 ^ (j + 1) + a + 1 = 2 ^ (j + 1) + (a + 1) by omega, hK]
        rfl
      · rw [prt_last (i := 2 ^ (j + 1) + a) (by omega) (by omega), prt_last h0 (by omega), e1, e2, h5]
    · rw [prt_odd (i := 2 ^ (j + 1) + a) (by omega) (by omega), prt_odd h0 (by omega), e1, e2, h5]
      rw [show 2 ^ (j + 1) + a - 1 = 2 ^ (j + 1) + (a - 1) by omega, hK, hK]
      rfl

/-! ### roots of parts -/
section
variable {α : Type} (nd : α → α → α) (e : α)
def cutL (l : List α) (a b : Nat) : List α := (l.drop a).take (b - a)
def rootP (l : List α) (p : Part) : α := rootL nd e (cutL l p.2.1 p.2.2)
theorem cutL_head (l : List α) (a b k : Nat) (h : b ≤ k) : cutL (l.take k) a b = cutL l a b := by
  unfold cutL
  rw [List.drop_take, List.take_take, Nat.min_eq_left (by omega)]
theorem cutL_tail (l : List α) (a b k : Nat) : cutL (l.drop k) a b = cutL l (a + k) (b + k) := by
  unfold cutL
  rw [List.drop_drop, show b + k - (a + k) = b - a by omega, Nat.add_comm k a]
theorem rootP_head (l : List α) (p : Part) (k : Nat) (h : p.2.2 ≤ k) : rootP nd e (l.take k) p = rootP nd e l p := by
  unfold rootP
  rw [cutL_head l _ _ k h]
theorem rootP_tail (l : List α) (p : Part) (k : Nat) : rootP nd e (l.drop k) p = rootP nd e l (shift k p) := by
  unfold rootP shift
  rw [cutL_tail]
theorem rootP_all (l : List α) (a n : Nat) (b : Bool) (h : n = l.length) : rootP nd e l (b, a, n) = rootL nd e (l.drop a) := by
  show rootL nd e ((l.drop a).take (n - a)) = _
  rw [List.take_of_length_le (by rw [List.length_drop]; omega)]
theorem rootP_zero (l : List α) (k : Nat) (b : Bool) : rootP nd e l (b, 0, k) = rootL nd e (l.take k) := rfl
theorem roots_head (l : List α) (ps : List Part) (k : Nat) (h : ∀ p ∈ ps, p.2.2 ≤ k) : ps.map (rootP nd e (l.take k)) = ps.map (rootP nd e l) := List.map_congr_left fun p hp => rootP_head nd e l p k (h p hp)
theorem roots_tail (l : List α) (ps : List Part) (k : Nat) : ps.map (rootP nd e (l.drop k)) = (ps.map (shift k)).map (rootP nd e l) := by
  rw [List.map_map]
  exact List.map_congr_left fun p _ => rootP_tail nd e l p k
end

/-! ### where steps begin -/
theorem trail_mul : ∀ (f x : Nat), x ≤ f → x + 1 = (x / 2 ^ trail x + 1) * 2 ^ trail x ∧ (x / 2 ^ trail x) % 2 = 0 := by
  intro f
  induction f with
  | zero =>
    intro x h
    obtain rfl : x = 0 := by omega
    rw [trail_zero]
    decide
  | succ f ih =>
    intro x h
    rcases Nat.mod_two_eq_zero_or_one x with h1 | h1
    · rw [trail_even h1]
      simp
      exact h1
    · obtain ⟨i1, i2⟩ := ih (x / 2) (by omega)
      have e : x / 2 ^ (trail (x / 2) + 1) = x / 2 / 2 ^ trail (x / 2) := by rw [Nat.pow_succ, Nat.mul_comm, Nat.div_div_eq_div_mul]
      rw [trail_odd h1, e]
      refine ⟨?_, i2⟩
      rw [Nat.pow_succ, ← Nat.mul_assoc, ← i1]
      omega
theorem sdB_bits : ∀ (f x s : Nat), x ≤ f → sdB x s = bits (x / 2 ^ trail x) (s / 2 ^ trail x) := by
  intro f
  induction f with
  | zero =>
    intro x s h
    obtain rfl : x = 0 := by omega
    rw [sdB_even (by decide), trail_zero, Nat.pow_zero, Nat.div_one, Nat.div_one]
  | succ f ih =>
    intro x s h
    rcases Nat.mod_two_eq_zero_or_one x with h1 | h1
    · rw [sdB_even h1, trail_even h1, Nat.pow_zero, Nat.div_one, Nat.div_one]
    · have e : ∀ y, y / 2 ^ (trail (x / 2) + 1) = y / 2 / 2 ^ trail (x / 2) := fun y => by rw [Nat.pow_succ, Nat.mul_comm, Nat.div_div_eq_div_mul]
      rw [sdB_odd h1, trail_odd h1, e, e, ih (x / 2) (s / 2) (by omega)]
theorem strip_div : ∀ (f x : Nat), x ≤ f → strip x = x / 2 ^ trail x := by
  intro f
  induction f with
  | zero =>
    intro x h
    obtain rfl : x = 0 := by omega
    rfl
  | succ f ih =>
    intro x h
    rcases Nat.mod_two_eq_zero_or_one x with h1 | h1
    · rw [strip_even h1, trail_even h1, Nat.pow_zero, Nat.div_one]
    · have e : x / 2 ^ (trail (x / 2) + 1) = x / 2 / 2 ^ trail (x / 2) := by rw [Nat.pow_succ, Nat.mul_comm, Nat.div_div_eq_div_mul]
      rw [strip_odd h1, trail_odd h1, e, ih (x / 2) (by omega)]
/-- the level of the last whole part of the first m -/
def lev (m : Nat) : Nat := trail (m - 1)
/-- that is all of them -/
def whole (m : Nat) : Bool := decide (m = 2 ^ lev m)
theorem lev_mul {m : Nat} (h : 1 ≤ m) : m = ((m - 1) / 2 ^ lev m + 1) * 2 ^ lev m ∧ ((m - 1) / 2 ^ lev m) % 2 = 0 := by
  have h1 := trail_mul (m - 1) (m - 1) (Nat.le_refl _)
  rw [show m - 1 + 1 = m by omega] at h1
  exact h1
theorem lev_le {m : Nat} (h : 1 ≤ m) : 2 ^ lev m ≤ m := by
  have h1 := (lev_mul h).1
  have h2 : 1 * 2 ^ lev m ≤ ((m - 1) / 2 ^ lev m + 1) * 2 ^ lev m := Nat.mul_le_mul_right _ (Nat.le_add_left 1 _)
  omega
theorem whole_strip {m : Nat} (h : 1 ≤ m) : whole m = true ↔ strip (m - 1) = 0 := by
  have h1 := (lev_mul h).1
  have h2 := strip_div (m - 1) (m - 1) (Nat.le_refl _)
  have hp := Nat.pow_pos (n := lev m) (show 0 < 2 by decide)
  unfold whole
  rw [decide_eq_true_eq, h2]
  change m = 2 ^ lev m ↔ (m - 1) / 2 ^ lev m = 0
  constructor
  · intro h3
    rw [Nat.div_eq_of_lt (by omega)]
  · intro h3
    rw [h3, Nat.zero_add, Nat.one_mul] at h1
    exact h1
/-- a step's sides, and where it begins -/
theorem sd_parts {m n : Nat} (h1 : 1 ≤ m) (h2 : m < n) : (sdT m n).reverse = (prt ((m - 1) / 2 ^ lev m) ((n - 1) / 2 ^ lev m) (lev m) n).map (·.1) ∧ ((true ∉ sdT m n) ↔ whole m = true) := by
  have h3 := sd_bits n m n (Nat.le_refl _) h1 h2
  have h4 := sdB_bits (m - 1) (m - 1) (n - 1) (Nat.le_refl _)
  have h5 := sdB_left (m - 1) (m - 1) (n - 1) (Nat.le_refl _) (by omega)
  refine ⟨?_, ?_⟩
  · rw [prt_sides _ _ _ _ _ (Nat.le_refl _) (Nat.div_le_div_right (by omega)), h3, h4]
    rfl
  · rw [whole_strip h1, ← List.mem_reverse, h3, h5]
    omega
theorem pow_le_inv {a b : Nat} (h : 2 ^ a ≤ 2 ^ b) : a ≤ b := (Nat.pow_le_pow_iff_right (by decide)).1 h
theorem div_low {J t : Nat} (h : t ≤ J) : (2 ^ J - 1) / 2 ^ t = 2 ^ (J - t) - 1 := by
  have e : 2 ^ J = 2 ^ (J - t) * 2 ^ t := by rw [← Nat.pow_add, show J - t + t = J by omega]
  have hp := Nat.pow_pos (n := t) (show 0 < 2 by decide)
  have hq := Nat.pow_pos (n := J - t) (show 0 < 2 by decide)
  rw [e]
  generalize 2 ^ (J - t) = q at *
  generalize 2 ^ t = p at *
  obtain ⟨q, rfl⟩ : ∃ x, q = x + 1 := ⟨q - 1, by omega⟩
  rw [Nat.add_sub_cancel]
  refine Nat.div_eq_of_lt_le ?_ ?_
  · rw [Nat.add_mul]; omega
  · have : 0 < (q + 1) * p := Nat.mul_pos (by omega) hp
    show _ < (q + 1) * p
    omega

section
variable {α : Type} (nd : α → α → α) (e : α)
def headS (b : Bool) (l : List α) (m : Nat) : List α := if b = true ∧ whole m = true then [] else [rootL nd e (cutL l (m - 2 ^ lev m) m)]
theorem step_parts : ∀ (f : Nat) (l : List α) (m : Nat) (b : Bool), l.length ≤ f → 1 ≤ m → (m < l.length ∨ m = l.length ∧ ∃ j, m = 2 ^ j) → (stepT nd e l m b).reverse = headS nd e b l m ++ (prt ((m - 1) / 2 ^ lev m) ((l.length - 1) / 2 ^ lev m) (lev m) l.length).map (rootP nd e l) := by
  intro f
  induction f with
  | zero => intro l m b h h1 h2; omega
  | succ f ih =>
    intro l m b h h1 h2
    have hlp := Nat.pow_pos (n := lev m) (show 0 < 2 by decide)
    obtain ⟨hm1, hm2⟩ := lev_mul h1
    by_cases hm : m = l.length
    · obtain ⟨j, hj⟩ : ∃ j, m = 2 ^ j := by
        rcases h2 with h2 | ⟨_, h2⟩
        · omega
        · exact h2
      have hlev : lev m = j := by unfold lev; rw [hj, (trail_full j).1]
      have hw : whole m = true := by unfold whole; rw [decide_eq_true_eq, hlev, ← hj]
      have hz : (l.length - 1) / 2 ^ lev m = 0 := by rw [hlev, ← hj]; exact Nat.div_eq_of_lt (by omega)
      rw [hz, prt_zero, List.map_nil, List.append_nil]
      unfold headS
      rw [hlev, ← hj, Nat.sub_self]
      subst hm
      rw [stepT_all nd e h1]
      cases b with
      | true => rw [if_pos rfl, if_pos ⟨rfl, hw⟩]; rfl
      | false =>
        rw [if_neg (by decide), if_neg (by simp)]
        unfold cutL
        rw [List.drop_zero, Nat.sub_zero, List.take_length]
        rfl
    · have hlt : m < l.length := by rcases h2 with h2 | ⟨h2, _⟩ <;> omega
      have hs := spl_lt (n := l.length) (by omega)
      have hp := spl_pos l.length
      have hl := le_spl l.length
      obtain ⟨J, hJ⟩ : ∃ J, spl l.length = 2 ^ J := ⟨_, rfl⟩
      rw [stepT_less nd e h1 hlt]
      generalize spl l.length = k at *
      subst hJ
      by_cases hk : m ≤ 2 ^ J
      · have ht : lev m ≤ J := pow_le_inv (Nat.le_trans (lev_le h1) hk)
        have hJt : 2 ^ J = 2 ^ (J - lev m) * 2 ^ lev m := by rw [← Nat.pow_add, show J - lev m + lev m = J by omega]
        have hq := Nat.pow_pos (n := J - lev m) (show 0 < 2 by decide)
        have hlt2 : (l.take (2 ^ J)).length = 2 ^ J := by rw [List.length_take]; omega
        have d1 := Nat.div_add_mod (l.length - 1) (2 ^ lev m)
        have d2 := Nat.mod_lt (l.length - 1) hlp
        rw [Nat.mul_comm] at d1
        have h3 := ih (l.take (2 ^ J)) m b (by omega) h1 (by rw [hlt2]; rcases Nat.lt_or_eq_of_le hk with h | h; exact .inl h; exact .inr ⟨h, J, h⟩)
        rw [if_pos hk, List.reverse_cons, h3, hlt2]
        have hb : ∀ p ∈ prt ((m - 1) / 2 ^ lev m) ((2 ^ J - 1) / 2 ^ lev m) (lev m) (2 ^ J), p.2.2 ≤ 2 ^ J := fun p hp' => (prt_le _ _ _ _ _ (Nat.le_refl _) (Nat.div_le_div_right (by omega)) (by have := Nat.div_mul_le_self (2 ^ J - 1) (2 ^ lev m); omega) p hp').2
        have hlow := prt_low (J - lev m) ((m - 1) / 2 ^ lev m) ((l.length - 1) / 2 ^ lev m) (lev m) l.length (by rw [Nat.div_lt_iff_lt_mul hlp, ← hJt]; omega) (by rw [Nat.le_div_iff_mul_le hlp, ← hJt]; omega) (by rw [Nat.div_lt_iff_lt_mul hlp, Nat.mul_assoc, ← hJt]; omega) (by omega) (by rw [Nat.add_mul]; omega)
        rw [show J - lev m + lev m = J by omega, ← div_low ht] at hlow
        rw [roots_head nd e l _ _ hb, hlow, List.map_append, List.map_cons, List.map_nil, rootP_all nd e l _ _ _ rfl, ← List.append_assoc]
        congr 2
        unfold headS
        rw [cutL_head l _ _ _ hk]
      · have hld : (l.drop (2 ^ J)).length = l.length - 2 ^ J := by rw [List.length_drop]
        have htop : top (m - 1) = 2 ^ J := top_is (by omega) (by omega)
        have ht0 := trail_top (m - 1) (m - 1) (Nat.le_refl _) (by omega) (by rw [htop]; omega)
        have hlev : lev (m - 2 ^ J) = lev m := by
          unfold lev
          rw [ht0, htop, show m - 1 - 2 ^ J = m - 2 ^ J - 1 by omega]
        have hw : whole m = false := by
          cases hw : whole m with
          | false => rfl
          | true =>
            unfold whole at hw
            rw [decide_eq_true_eq] at hw
            exfalso
            have a1 : 2 ^ J < 2 ^ lev m := by omega
            have a2 : 2 ^ lev m < 2 * 2 ^ J := by omega
            have := pow_between (a := lev m) (b := J) a2 (by omega)
            rw [this] at a1
            omega
        have ht : lev m ≤ J := by
          have h5 := lev_le (m := m - 2 ^ J) (by omega)
          rw [hlev] at h5
          exact pow_le_inv (by omega)
        have hJt : 2 ^ J = 2 ^ (J - lev m) * 2 ^ lev m := by rw [← Nat.pow_add, show J - lev m + lev m = J by omega]
        have d1 := Nat.div_add_mod (l.length - 1) (2 ^ lev m)
        have d2 := Nat.mod_lt (l.length - 1) hlp
        rw [Nat.mul_comm] at d1
        have e1 : ∀ x, (2 ^ J + x) / 2 ^ lev m = 2 ^ (J - lev m) + x / 2 ^ lev m := fun x => by rw [hJt, Nat.add_comm, Nat.add_mul_div_right _ _ hlp, Nat.add_comm]
        have h3 := ih (l.drop (2 ^ J)) (m - 2 ^ J) false (by omega) (by omega) (.inl (by omega))
        rw [hlev, hld] at h3
        rw [if_neg hk, List.reverse_cons, h3, roots_tail]
        have em := e1 (m - 2 ^ J - 1)
        have en := e1 (l.length - 2 ^ J - 1)
        rw [show 2 ^ J + (m - 2 ^ J - 1) = m - 1 by omega] at em
        rw [show 2 ^ J + (l.length - 2 ^ J - 1) = l.length - 1 by omega] at en
        have hhigh := prt_high (J - lev m) ((m - 2 ^ J - 1) / 2 ^ lev m) ((l.length - 2 ^ J - 1) / 2 ^ lev m) (lev m) l.length (Nat.div_le_div_right (by omega)) (by rw [Nat.div_lt_iff_lt_mul hlp, ← hJt]; omega) (by rw [← en]; omega) (by rw [← en, Nat.add_mul]; omega)
        rw [show J - lev m + lev m = J by omega, ← em, ← en] at hhigh
        rw [hhigh, List.map_append, List.map_cons, List.map_nil, rootP_zero, ← List.append_assoc]
        congr 2
        unfold headS
        rw [hw, hlev, cutL_tail, show m - 2 ^ J + 2 ^ J = m by omega, if_neg (by simp), if_neg (by simp)]
        have h5 := lev_le (m := m - 2 ^ J) (by omega)
        rw [hlev] at h5
        rw [show m - 2 ^ J - 2 ^ lev m + 2 ^ J = m - 2 ^ lev m by omega]
end

/-! ### the texts of what a path goes through -/
section
variable {α : Type} (nd : α → α → α)
def pairB (b : Bool) (x p : α) : α × α := if b then (p, x) else (x, p)
end
end Go.Proofs.YtdjglghecekeoaaGreatDoor.Q

/- More operations of a region that draws its order, taken one by one: those that are not wanted, and those that have a law of lists. Nothing of the program is named here. -/
namespace Go.Proofs.YtdjglghecekeoaaGreatDoor
open Go.Sort Go.RowKit
section
variable {P : Program} {md : Region.Mode} {ops : Array Oper} {Q : Exit → Act → World → Prop} {S : World → Prop} {a : Act} {w : World}
/-- an operation by a law of lists; its guard, if any, wants it -/
theorem wpOp_law {i : Nat} {o : Oper} {K : Act → World → Prop} (hi : ops[i]? = some o) (hw : Region.wanted o (yielded ops a.tmps) = true) (h : wpList P ops (Exit.then K Q) [⟨o.dst, o.op, o.type, o.pos, o.after, none⟩] a w) : wpOp P ops Q i K a w := by
  unfold Go.wpOp
  simp only [hi]
  simp only [hw, if_true]
  unfold wpList at h
  simp only [Region.wanted, if_true] at h
  rcases h with h | h
  · refine .inl ?_
    unfold Oper.wp at *
    have he : (execOp a.eval ⟨o.dst, o.op, o.type, o.pos, o.after, none⟩).run P w = (execOp a.eval o).run P w := rfl
    rw [he] at h
    generalize (execOp a.eval o).run P w = r at *
    cases r with
    | ok n w' =>
      cases n <;> simp only [Oper.upon] at h ⊢
      case value u => exact h
      case skip => exact h
      case defer d => exact h
      case enter f args =>
        refine Calls.mono h fun e w'' he => ?_
        cases e with
        | returned u => exact he
        | panicked c => exact he
        | outgrown => exact he
      case row row args => exact Rows.mono h fun u w'' he => he
    | halt x w' =>
      cases x <;> simp only [Oper.upon] at h ⊢
      case panic u => exact h
  · exact .inr h
end
end Go.Proofs.YtdjglghecekeoaaGreatDoor

