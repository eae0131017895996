/- Texts that stand on one another, put together: CQuiet, Late, Rel, RApart, RSum, RAdd. -/
import Derived.Test.YtakmlmgffgoecaaDoorL5
import Derived.Deep.MidRow
import Derived.Laws.Rows
import Derived.Lib.QuietBelow
import Derived.StillTail
/- A region that draws its order and whose operations only read and call what only makes memory, guards and all: the steps of its one walk. Nothing of the program is named here. -/
namespace Go.Proofs.YtakmlmgffgoecaaDoor
open Go.Sort Go.RowKit

section
variable {P : Program} {w0 : World}
variable {ops : Array Oper} {Q : Act → Prop} {a : Act} {rest : List Oper} {t' : TypeId} {pos : String} {after : Array Edge} {gd : Option (Nat × Bool)}
/-! ### the same steps in the class of worlds that the kit's own quiet steps walk in -/
abbrev Rg (w0 : World) : World → Prop := fun w' => ∃ p : Regrown, w' = grow (redrawn w0 p.d) p.os
theorem Rg.below {w0 w : World} (h : Rg w0 w) : Below w0.heap.size w0 w := by obtain ⟨⟨d, os⟩, rfl⟩ := h; exact below_regrown w0 d os
end
end Go.Proofs.YtakmlmgffgoecaaDoor

/- Some operations may come behind a store that does not wait for them ('x, e := f(..)' into a block: the extract of e; 'return x, a && b': the pick): whatever comes of a region in which the store waits for them comes of the region as it is. Nothing of the program is named here. -/
namespace Go.Proofs.YtakmlmgffgoecaaDoor
open Go.Sort Go.RowKit

/-- operation j waits for operation i, too -/
def addEdge : List Oper → Nat → Nat → List Oper
  | [], _, _ => []
  | o :: l, 0, i => { o with after := o.after.push ⟨i, .data⟩ } :: l
  | o :: l, j + 1, i => o :: addEdge l j i
theorem addEdge_at : ∀ (l : List Oper) (j i k : Nat), (addEdge l j i)[k]? = if k = j then (l[k]?).map (fun o => { o with after := o.after.push ⟨i, .data⟩ }) else l[k]?
  | [], j, i, k => by simp [addEdge]
  | o :: l, 0, i, k => by cases k <;> simp [addEdge]
  | o :: l, j + 1, i, k => by
    cases k with
    | zero => simp [addEdge]
    | succ k => simp [addEdge, addEdge_at l j i k]
theorem addEdge_length : ∀ (l : List Oper) (j i : Nat), (addEdge l j i).length = l.length
  | [], _, _ => rfl
  | _ :: _, 0, _ => rfl
  | _ :: l, j + 1, i => by simp [addEdge, addEdge_length l j i]

/-- whoever waits for k waits for d -/
def reach (md : Region.Mode) (ops : Array Oper) : Nat → Nat → Nat → Bool
  | 0, _, _ => false
  | f + 1, k, d => match ops[k]? with
    | none => false
    | some o => o.after.any fun e => Region.binds md e && (e.on == d || reach md ops f e.on d)

/-- what does not hang on the world -/
def pureB (o : Oper) : Bool := match o.op with
  | .extract _ _ => true
  | .pick _ _ _ => true
  | _ => false

/-- operation i is such a one, and store j may wait for it -/
def lateB (md : Region.Mode) (ops : Array Oper) (i j : Nat) : Bool :=
  Region.noSelect ops && decide (i ≠ j) && decide (Region.binds md ⟨i, .data⟩ = true) && (match ops[i]? with
    | none => false
    | some oi => pureB oi && (oi.guard == none) && (oi.after.all fun e => !Region.binds md e || reach md ops ops.size j e.on) &&
      (List.range ops.size).all fun k => k == i || (oi.after.any fun e => Region.binds md e && e.on == k) || match ops[k]? with
        | none => true
        | some ok => (ok.after.any fun e => Region.binds md e && e.on == i) || oi.apart ops ok)

section
variable {P : Program} {Q : Exit → Act → World → Prop} {md : Region.Mode}

/-- what has come up has come up behind all that it waits for -/
structure Closed (md : Region.Mode) (ops : Array Oper) (listed : Array Bool) : Prop where
  size : listed.size = ops.size
  closed : ∀ k ok, ops[k]? = some ok → listed.getD k false = true → ∀ e ∈ ok.after, Region.binds md e = true → listed.getD e.on false = true
theorem Closed.set {ops : Array Oper} {listed : Array Bool} {i : Nat} (h : Closed md ops listed) (hr : i ∈ Region.ready md ops listed) : Closed md ops (listed.setIfInBounds i true) := by
  obtain ⟨hun, oi, hoi, hall⟩ := mem_ready.1 hr
  refine ⟨by simp [h.size], fun k ok hk hl e he hb => ?_⟩
  by_cases hki : k = i
  · subst hki
    obtain rfl : oi = ok := Option.some.inj (hoi.symm.trans hk)
    exact getD_set_true (hall e he hb)
  · rw [getD_set_ne false (Ne.symm hki)] at hl
    exact getD_set_true (h.closed k ok hk hl e he hb)
theorem reach_listed {ops : Array Oper} {listed : Array Bool} (h : Closed md ops listed) : ∀ (f k d : Nat) (ok : Oper), ops[k]? = some ok → (∀ e ∈ ok.after, Region.binds md e = true → listed.getD e.on false = true) → reach md ops f k d = true → listed.getD d false = true
  | 0, _, _, _, _, _, hr => by cases hr
  | f + 1, k, d, ok, hk, hall, hr => by
    unfold reach at hr
    simp only [hk] at hr
    obtain ⟨e, he, hp⟩ := Array.any_eq_true'.1 hr
    simp only [Bool.and_eq_true, Bool.or_eq_true, beq_iff_eq] at hp
    obtain ⟨hb, hp⟩ := hp
    have hl := hall e he hb
    rcases hp with hp | hp
    · rw [← hp]; exact hl
    · cases ho : ops[e.on]? with
      | none => cases f <;> simp [reach, ho] at hp
      | some oe => exact reach_listed h f e.on d oe ho (h.closed e.on oe ho hl) hp

/-- such an operation yields one value in whatever world -/
theorem pure_yields {o : Oper} {a : Act} {w : World} {K : Act → World → Prop} (hp : pureB o = true) (h : o.wp P a w K Q ∨ (o.asks P a w ∧ LetsOut Q)) :
    ∃ v, (∀ w', (execOp a.eval o).run P w' = .ok (.value v) w') ∧ K (a.put o.dst v) w := by
  obtain ⟨dst, op, type, pos, after, guard⟩ := o
  cases op <;> simp only [pureB] at hp <;> try (cases hp; done)
  case pick c x y =>
    unfold Oper.wp Oper.asks at h
    simp only [execOp] at h ⊢
    cases hc : a.eval c
    case bool b =>
      rw [hc] at h
      refine ⟨if b then a.eval x else a.eval y, fun w' => by simp [asBool], ?_⟩
      rcases h with h | ⟨h, _⟩
      · simpa [asBool, Oper.upon] using h
      · exact absurd h.1 (by first | (change ¬ noRoomEvent ∈ #[]; simp) | simp [asBool, Instr.extract, Sem.runT])
    all_goals
      rw [hc] at h
      rcases h with h | ⟨h, _⟩
      · simp [asBool, Oper.upon] at h
      · exact absurd h.1 (by first | (change ¬ noRoomEvent ∈ #[]; simp) | simp [asBool, Instr.extract, Sem.runT])
  case extract t ix =>
    unfold Oper.wp Oper.asks at h
    simp only [execOp] at h ⊢
    cases hc : a.eval t
    case tuple vs =>
      rw [hc] at h
      cases hv : vs[ix]? with
      | some v =>
        refine ⟨v, fun w' => by simp [Instr.extract, hv], ?_⟩
        rw [show (Instr.extract (.tuple vs) ix : Sem Value) = pure v by simp [Instr.extract, hv]] at h
        rcases h with h | ⟨h, _⟩
        · simpa [Instr.extract, hv, Oper.upon] using h
        · exact absurd h.1 (by first | (change ¬ noRoomEvent ∈ #[]; simp) | simp [asBool, Instr.extract, Sem.runT])
      | none =>
        rw [show (Instr.extract (.tuple vs) ix : Sem Value) = stuck "Extract: no such component" by simp [Instr.extract, hv]] at h
        rcases h with h | ⟨h, _⟩
        · simp [Oper.upon] at h
        · exact absurd h.1 (by change ¬ noRoomEvent ∈ #[]; simp)
    all_goals
      rw [hc] at h
      rcases h with h | ⟨h, _⟩
      · simp [Instr.extract, Oper.upon] at h
      · exact absurd h.1 (by first | (change ¬ noRoomEvent ∈ #[]; simp) | simp [asBool, Instr.extract, Sem.runT])

variable {l : List Oper} {i j : Nat}
theorem yielded_edge : yielded (addEdge l j i).toArray = yielded l.toArray := by
  funext tmps g
  have h : ((addEdge l j i).toArray[g]?).bind (·.dst) = (l.toArray[g]?).bind (·.dst) := by
    rw [List.getElem?_toArray, List.getElem?_toArray, addEdge_at]
    split
    · cases l[g]? <;> rfl
    · rfl
  unfold yielded
  rw [h]
/-- whatever order is picked -/
theorem wpAny_late (hB : lateB md l.toArray i j = true) (hQ : ∀ c d v (a : Act) (w : World), Q (.panic c) (a.put d v) w → Q (.panic c) a w) :
    ∀ (f : Nat) (listed : Array Bool) (a : Act) (w : World), Closed md l.toArray listed → wpAny P md (addEdge l j i).toArray Q f listed a w → wpAny P md l.toArray Q f listed a w := by
  simp only [lateB, Bool.and_eq_true, decide_eq_true_eq] at hB
  obtain ⟨⟨⟨hsel, hij⟩, _⟩, hB⟩ := hB
  obtain ⟨oi, hoi⟩ : ∃ oi, l.toArray[i]? = some oi := by
    cases h : l.toArray[i]? with
    | none => rw [h] at hB; cases hB
    | some o => exact ⟨o, rfl⟩
  rw [hoi] at hB
  simp only [Bool.and_eq_true] at hB
  obtain ⟨⟨⟨hp, hg⟩, hd⟩, hfree⟩ := hB
  have hg' : oi.guard = none := by simpa using hg
  have hat := addEdge_at l j i
  have hat' : ∀ k, (addEdge l j i).toArray[k]? = if k = j then (l.toArray[k]?).map (fun o => { o with after := o.after.push ⟨i, .data⟩ }) else l.toArray[k]? := fun k => by
    rw [List.getElem?_toArray, List.getElem?_toArray, hat]
  have hdeps : ∀ (listed : Array Bool) (oj : Oper), Closed md l.toArray listed → l.toArray[j]? = some oj → (∀ e ∈ oj.after, Region.binds md e = true → listed.getD e.on false = true) → ∀ e ∈ oi.after, Region.binds md e = true → listed.getD e.on false = true := fun listed oj hc hj hall e he hb => by
    have h1 := Array.all_eq_true_iff_forall_mem.1 hd e he
    rw [hb] at h1
    exact reach_listed hc _ j e.on oj hj hall (by simpa using h1)
  have hready : ∀ listed, Closed md l.toArray listed → i ∉ Region.ready md l.toArray listed → ∀ k, k ∈ Region.ready md l.toArray listed ↔ k ∈ Region.ready md (addEdge l j i).toArray listed := fun listed hc hni k => by
    rw [mem_ready, mem_ready]
    constructor
    · rintro ⟨hun, ok, hk, hall⟩
      refine ⟨hun, ?_⟩
      by_cases hkj : k = j
      · subst hkj
        refine ⟨{ ok with after := ok.after.push ⟨i, .data⟩ }, by rw [hat', if_pos rfl, hk]; rfl, fun e he hb => ?_⟩
        rcases Array.mem_push.1 he with he | rfl
        · exact hall e he hb
        · cases hli : listed.getD i false with
          | true => rfl
          | false =>
            have hlt : i < listed.size := by rw [hc.size]; exact (Array.getElem?_eq_some_iff.1 hoi).1
            exact absurd (mem_ready.2 ⟨getD_in hlt hli, oi, hoi, hdeps listed ok hc hk hall⟩) hni
      · exact ⟨ok, by rw [hat', if_neg hkj]; exact hk, hall⟩
    · rintro ⟨hun, ok, hk, hall⟩
      refine ⟨hun, ?_⟩
      rw [hat'] at hk
      split at hk
      · cases ho : l.toArray[k]? with
        | none => rw [ho] at hk; cases hk
        | some o =>
          rw [ho] at hk
          obtain rfl := Option.some.inj hk
          exact ⟨o, rfl, fun e he hb => hall e (Array.mem_push.2 (.inl he)) hb⟩
      · exact ⟨ok, hk, hall⟩
  have hone : ∀ k K a w, wpOp P (addEdge l j i).toArray Q k K a w → wpOp P l.toArray Q k K a w := fun k K a w h => by
    unfold wpOp at h ⊢
    rw [hat'] at h
    rw [yielded_edge] at h
    split at h
    · rename_i hn
      split at hn
      · cases ho : l.toArray[k]? with
        | none => exact h
        | some o => rw [ho] at hn; cases hn
      · rw [hn]; exact h
    · rename_i o hn
      split at hn
      · cases ho : l.toArray[k]? with
        | none => rw [ho] at hn; cases hn
        | some o2 =>
          rw [ho] at hn
          obtain rfl := Option.some.inj hn
          exact h
      · rw [hn]; exact h
  intro f
  induction f with
  | zero =>
    intro listed a w hc h
    have hni : i ∉ Region.ready md l.toArray listed := fun hr => by
      obtain ⟨hun, o, ho, hall⟩ := mem_ready.1 hr
      have : i ∈ Region.ready md (addEdge l j i).toArray listed := mem_ready.2 ⟨hun, o, by rw [hat', if_neg hij]; exact ho, hall⟩
      rw [h.1] at this
      cases this
    refine ⟨List.eq_nil_iff_forall_not_mem.2 fun k hk => ?_, h.2⟩
    have := (hready listed hc hni k).1 hk
    rw [h.1] at this
    cases this
  | succ f ih =>
    intro listed a w hc h
    by_cases hi : i ∈ Region.ready md l.toArray listed
    · have hi' : i ∈ Region.ready md (addEdge l j i).toArray listed := by
        obtain ⟨hun, o, ho, hall⟩ := mem_ready.1 hi
        exact mem_ready.2 ⟨hun, o, by rw [hat', if_neg hij]; exact ho, hall⟩
      have h1 := hone i _ a w (h.2 i hi')
      unfold wpOp at h1
      rw [hoi] at h1
      have hw : Region.wanted oi (yielded l.toArray a.tmps) = true := by unfold Region.wanted; rw [hg']
      simp only [hw, if_true] at h1
      obtain ⟨v, hv, hK⟩ := pure_yields hp h1
      refine wpAny_first hoi (Region.noSelect_spec hsel) (fun c a w h => hQ c _ _ a w h) f listed a w (fun k ok hk hki hun hno => ?_) hi (.inl ⟨hw, hv⟩) (ih _ _ _ (hc.set hi) hK)
      have h2 := List.all_eq_true.1 hfree k (List.mem_range.2 (Array.getElem?_eq_some_iff.1 hk).1)
      rw [hk] at h2
      simp only [Bool.or_eq_true, beq_iff_eq] at h2
      rcases h2 with (h2 | h2) | h2 | h2
      · exact absurd h2 hki
      · obtain ⟨e, he, hq⟩ := Array.any_eq_true'.1 h2
        simp only [Bool.and_eq_true, beq_iff_eq] at hq
        obtain ⟨_, o3, ho3, hall⟩ := mem_ready.1 hi
        rw [hoi] at ho3
        obtain rfl := Option.some.inj ho3
        have h3 := hall e he hq.1
        rw [hq.2] at h3
        have h4 := getD_both hun
        rw [h3] at h4
        cases h4
      · obtain ⟨e, he, hp⟩ := Array.any_eq_true'.1 h2
        simp only [Bool.and_eq_true, beq_iff_eq] at hp
        exact absurd hp.2 (hno e he hp.1)
      · exact h2
    · have he := hready listed hc hi
      refine ⟨fun hr => h.1 (List.eq_nil_iff_forall_not_mem.2 fun k hk => ?_), fun k hk => ?_⟩
      · have := (he k).2 hk
        rw [hr] at this
        cases this
      · exact wpOp_mono (fun a' w' h' => ih _ a' w' (hc.set hk) h') (hone k _ a w (h.2 k ((he k).1 hk)))
theorem closed_none (n : Nat) {ops : Array Oper} (h : ops.size = n) : Closed md ops (Array.replicate n false) :=
  ⟨by simp [h], fun k ok _ hl => by rw [getD_replicate_false] at hl; cases hl⟩
end

/-! ### the regions' laws -/
/-- no panic -/
def Calm (Q : Exit → Act → World → Prop) : Exit → Act → World → Prop
  | .panic _, _, _ => False
  | e, a, w => Q e a w
theorem calm_then {K : Act → World → Prop} {Q : Exit → Act → World → Prop} : ∀ (e : Exit) (a : Act) (w : World), Exit.then K (Calm Q) e a w → Exit.then K Q e a w := fun e a w h => by
  cases e <;> first | exact h | exact (h : False).elim
theorem calm_panic {K : Act → World → Prop} {Q : Exit → Act → World → Prop} : ∀ c d v (a : Act) (w : World), Exit.then K (Calm Q) (.panic c) (a.put d v) w → Exit.then K (Calm Q) (.panic c) a w := fun _ _ _ _ _ h => (h : False).elim
end Go.Proofs.YtakmlmgffgoecaaDoor

/- A region that draws its order, whose head only reads and makes memory, where what an operation hands back is known only by what is said of it (a fresh slice, a new variable): walked once. Nothing of the program is named here. -/
namespace Go.Proofs.YtakmlmgffgoecaaDoor
open Go.Sort Go.RowKit

/-- what is said of an operation's value -/
abbrev Said := Value → World → Prop
section
variable {P : Program} {ops : Array Oper} {md : Region.Mode} {w0 : World}

/-- the operation hands back such a value, and only makes memory -/
def does (P : Program) (o : Oper) (a : Act) (w : World) (r : Said) : Prop := match (execOp a.eval o).run P w with
  | .ok (.value v) w' => Below w.heap.size w w' ∧ r v w'
  | .ok (.enter f args) w' => w' = w ∧ Calls P f args w fun e w'' => ∃ v, e = .returned v ∧ Below w.heap.size w w'' ∧ r v w''
  | _ => False
/-- the walk in the text's order: a fact serves an operation that looks at its slot -/
def wpRel (P : Program) (ops : Array Oper) (w0 : World) (Q : Act → World → Prop) : List (Oper × Said) → List (Tmp × (World → Prop)) → Act → Prop
  | [], G, a => ∀ w, Below w0.heap.size w0 w → (∀ p ∈ G, p.2 w) → Q a w
  | (o, r) :: rest, G, a => (∀ w, Below w0.heap.size w0 w → (∀ p ∈ G, p.1 ∈ o.looksAt ops → p.2 w) → does P o a w r) ∧
      ∀ v, wpRel P ops w0 Q rest ((o.dst.getD 0, r v) :: G) (a.put o.dst v)

/-- what the walk asks of the region, as a Bool -/
def relB (md : Region.Mode) (ops : Array Oper) (n m : Nat) : Bool :=
  Region.noSelect ops && decide (n < ops.size) && Region.sinkB md ops n && Region.chainB md ops n &&
  (List.range n).all (fun i => match ops[i]? with
    | none => false
    | some oi => (oi.guard == none) && (oi.after.all fun e => !Region.binds md e || decide (e.on < i)) && (match oi.dst with
      | none => false
      | some d => decide (d < m) && !(oi.looksAt ops).contains d && (List.range n).all (fun j => j == i || match ops[j]? with
        | none => false
        | some oj => oj.dst != some d && (!(oj.looksAt ops).contains d || Region.waitsFor md ops j i)))) &&
  Region.seqB md ops (ops.size - n) n ((List.replicate n true ++ List.replicate (ops.size - n) false).toArray)

def cnt : Nat → Array Bool → Nat
  | 0, _ => 0
  | k + 1, b => cnt k b + (if b.getD k true = false then 1 else 0)
theorem cnt_far {b : Array Bool} {j : Nat} : ∀ k, k ≤ j → cnt k (b.setIfInBounds j true) = cnt k b
  | 0, _ => rfl
  | k + 1, h => by rw [cnt, cnt, cnt_far k (by omega), getD_set_ne true (by omega)]
theorem cnt_set {b : Array Bool} {j : Nat} (hj : b.getD j true = false) : ∀ k, j < k → cnt k b = cnt k (b.setIfInBounds j true) + 1
  | 0, h => by omega
  | k + 1, h => by
    rw [cnt, cnt]
    by_cases hk : j = k
    · subst hk
      rw [cnt_far j (Nat.le_refl _), if_pos hj, if_neg (by
        have : (b.setIfInBounds j true).getD j true = true := by
          simp [Array.getElem?_setIfInBounds_self]
          split <;> rfl
        rw [this]; decide)]
    · rw [cnt_set hj k (by omega), getD_set_ne true hk]
      omega
theorem cnt_zero {b : Array Bool} : ∀ k, cnt k b = 0 → ∀ i, i < k → b.getD i true = true
  | 0, _, i, h => by omega
  | k + 1, h, i, hi => by
    rw [cnt] at h
    have h1 : ¬ b.getD k true = false := fun e => by rw [if_pos e] at h; omega
    by_cases hik : i = k
    · subst hik; simpa using h1
    · exact cnt_zero k (by omega) i (by omega)
theorem least_un {b : Array Bool} : ∀ k, cnt k b ≠ 0 → ∃ i, i < k ∧ b.getD i true = false ∧ ∀ j, j < i → b.getD j true = true
  | 0, h => absurd rfl h
  | k + 1, h => by
    by_cases h0 : cnt k b = 0
    · rw [cnt, h0] at h
      refine ⟨k, by omega, ?_, fun j hj => cnt_zero k h0 j hj⟩
      cases e : b.getD k true with
      | false => rfl
      | true => rw [e] at h; simp at h
    · obtain ⟨i, h1, h2⟩ := least_un k h0
      exact ⟨i, by omega, h2⟩

/-- the frame of the text's order, with these values -/
def putN : (Nat → Value) → List (Oper × Said) → Nat → Act → Act
  | _, [], _, a => a
  | _, _ :: _, 0, a => a
  | V, (o, _) :: l, i + 1, a => putN (fun k => V (k + 1)) l i (a.put o.dst (V 0))
theorem put_far {a : Act} {d : Option Tmp} {v : Value} {t : Tmp} (h : d ≠ some t) : (a.put d v).eval (.tmp t) = a.eval (.tmp t) :=
  Act.eval_put fun d' hd hx => h (by injection hx with hx; rw [hd, hx])
theorem put_at {a : Act} {d : Tmp} {v : Value} (h : d < a.tmps.size) : (a.put (some d) v).eval (.tmp d) = v := by
  simp [Act.put, Act.eval, Array.getElem?_setIfInBounds_self_of_lt h]
theorem put_size {a : Act} {d : Option Tmp} {v : Value} : (a.put d v).tmps.size = a.tmps.size := by cases d <;> simp [Act.put]
theorem put_defs {a : Act} {d : Option Tmp} {v : Value} : (a.put d v).defers = a.defers := by cases d <;> rfl
theorem putN_size : ∀ (l : List (Oper × Said)) (V : Nat → Value) (i : Nat) (a : Act), (putN V l i a).tmps.size = a.tmps.size ∧ (putN V l i a).defers = a.defers
  | [], _, _, _ => ⟨rfl, rfl⟩
  | _ :: _, _, 0, _ => ⟨rfl, rfl⟩
  | (o, _) :: l, V, i + 1, a => by
    obtain ⟨h1, h2⟩ := putN_size l (fun k => V (k + 1)) i (a.put o.dst (V 0))
    exact ⟨by rw [putN, h1, put_size], by rw [putN, h2, put_defs]⟩
theorem putN_far : ∀ (l : List (Oper × Said)) (V : Nat → Value) (i : Nat) (a : Act) (t : Tmp), (∀ (k : Nat) (o : Oper) (r : Said), k < i → l[k]? = some (o, r) → o.dst ≠ some t) → (putN V l i a).eval (.tmp t) = a.eval (.tmp t)
  | [], _, _, _, _, _ => rfl
  | _ :: _, _, 0, _, _, _ => rfl
  | (o, r) :: l, V, i + 1, a, t, h => by
    rw [putN, putN_far l _ i _ t (fun k o' r' hk hl => h (k + 1) o' r' (by omega) (by simpa using hl)), put_far (h 0 o r (by omega) rfl)]
theorem putN_at : ∀ (l : List (Oper × Said)) (V : Nat → Value) (i : Nat) (a : Act) (t : Tmp) (k : Nat) (o : Oper) (r : Said), k < i → l[k]? = some (o, r) → o.dst = some t → t < a.tmps.size → (∀ (j : Nat) (o' : Oper) (r' : Said), j ≠ k → l[j]? = some (o', r') → o'.dst ≠ some t) → (putN V l i a).eval (.tmp t) = V k
  | [], _, _, _, _, k, _, _, _, hl, _, _, _ => by simp at hl
  | _ :: _, _, 0, _, _, _, _, _, hk, _, _, _, _ => by omega
  | (o1, r1) :: l, V, i + 1, a, t, 0, o, r, _, hl, hd, ht, hfar => by
    simp only [List.getElem?_cons_zero, Option.some.injEq, Prod.mk.injEq] at hl
    obtain ⟨rfl, rfl⟩ := hl
    rw [putN, putN_far l _ i _ t (fun k o' r' _ hl' => hfar (k + 1) o' r' (by omega) (by simpa using hl')), hd, put_at ht]
  | (o1, r1) :: l, V, i + 1, a, t, k + 1, o, r, hk, hl, hd, ht, hfar => by
    rw [putN]
    exact putN_at l (fun k => V (k + 1)) i _ t k o r (by omega) (by simpa using hl) hd (by rw [put_size]; exact ht) (fun j o' r' hj hl' => hfar (j + 1) o' r' (by omega) (by simpa using hl'))

/-- each operation's own part of the walk -/
theorem wpRel_ob {Q : Act → World → Prop} : ∀ (l : List (Oper × Said)) (G : List (Tmp × (World → Prop))) (a : Act), (∀ (k : Nat) (o : Oper) (r : Said), l[k]? = some (o, r) → o.dst ≠ none) → wpRel P ops w0 Q l G a → ∀ (i : Nat) (o : Oper) (r : Said), l[i]? = some (o, r) → ∀ (V : Nat → Value) (w : World), Below w0.heap.size w0 w →
    (∀ p ∈ G, p.1 ∈ o.looksAt ops → p.2 w) → (∀ (k : Nat) (ok : Oper) (rk : Said) (d : Tmp), k < i → l[k]? = some (ok, rk) → ok.dst = some d → d ∈ o.looksAt ops → rk (V k) w) → does P o (putN V l i a) w r
  | [], _, _, _, _, i, _, _, hl, _, _, _, _, _ => by simp at hl
  | (o1, r1) :: l, G, a, hd, h, 0, o, r, hl, V, w, hw, hG, _ => by
    simp only [List.getElem?_cons_zero, Option.some.injEq, Prod.mk.injEq] at hl
    obtain ⟨rfl, rfl⟩ := hl
    exact h.1 w hw hG
  | (o1, r1) :: l, G, a, hd, h, i + 1, o, r, hl, V, w, hw, hG, hV => by
    rw [putN]
    refine wpRel_ob l _ _ (fun k o r hl => hd (k + 1) o r (by simpa using hl)) (h.2 (V 0)) i o r (by simpa using hl) (fun k => V (k + 1)) w hw (fun p hp hlook => ?_) (fun k ok rk d hk hl' hdk hlk => hV (k + 1) ok rk d (by omega) (by simpa using hl') hdk hlk)
    rcases List.mem_cons.1 hp with rfl | hp
    · cases hd1 : o1.dst with
      | none => exact absurd hd1 (hd 0 o1 r1 rfl)
      | some d1 =>
        simp only [hd1, Option.getD_some] at hlook
        exact hV 0 o1 r1 d1 (by omega) rfl hd1 hlook
    · exact hG p hp hlook
theorem wpRel_end {Q : Act → World → Prop} : ∀ (l : List (Oper × Said)) (G : List (Tmp × (World → Prop))) (a : Act), wpRel P ops w0 Q l G a → ∀ (V : Nat → Value) (w : World), Below w0.heap.size w0 w →
    (∀ p ∈ G, p.2 w) → (∀ (k : Nat) (ok : Oper) (rk : Said), l[k]? = some (ok, rk) → rk (V k) w) → Q (putN V l l.length a) w
  | [], _, _, h, _, w, hw, hG, _ => h w hw hG
  | (o1, r1) :: l, G, a, h, V, w, hw, hG, hV => by
    rw [List.length_cons, putN]
    refine wpRel_end l _ _ (h.2 (V 0)) (fun k => V (k + 1)) w hw (fun p hp => ?_) (fun k ok rk hl => hV (k + 1) ok rk (by simpa using hl))
    rcases List.mem_cons.1 hp with rfl | hp
    · exact hV 0 o1 r1 rfl
    · exact hG p hp
theorem does_congr {o : Oper} {a a' : Act} {w : World} {r : Said} (hs : ∀ cs b, o.op ≠ .select cs b) (h : ∀ t, t ∈ o.looksAt ops → a.eval (.tmp t) = a'.eval (.tmp t)) (hd : does P o a w r) : does P o a' w r := by
  have e : execOp a.eval o = execOp a'.eval o := execOp_congr o hs fun x hx => by
    cases x with
    | tmp t => exact h t (List.mem_append_left _ (List.mem_filterMap.2 ⟨.tmp t, by simpa using hx, rfl⟩))
    | _ => rfl
  unfold does at *
  rwa [e] at hd
theorem act_ext {a b : Act} (h1 : a.defers = b.defers) (h2 : a.tmps.size = b.tmps.size) (h3 : ∀ t, t < a.tmps.size → a.eval (.tmp t) = b.eval (.tmp t)) : a = b := by
  cases a; cases b
  simp only at h1 h2
  subst h1
  congr 1
  apply Array.ext h2
  intro i hi hj
  have := h3 i hi
  simp only [Act.eval, Array.getD_eq_getD_getElem?, Array.getElem?_eq_getElem hi, Array.getElem?_eq_getElem hj, Option.getD_some] at this
  exact this

/-- what holds on the way -/
structure Way (ops : Array Oper) (w0 : World) (n : Nat) (rs : Nat → Said) (a0 : Act) (listed : Array Bool) (a : Act) (w : World) : Prop where
  defs : a.defers = a0.defers
  size : a.tmps.size = a0.tmps.size
  same : ∀ t, (∀ (k : Nat) (ok : Oper), k < n → ops[k]? = some ok → ok.dst ≠ some t) → a.eval (.tmp t) = a0.eval (.tmp t)
  grown : Below w0.heap.size w0 w
  said : ∀ (k : Nat) (ok : Oper) (d : Tmp), k < n → ops[k]? = some ok → ok.dst = some d → listed.getD k true = true → rs k (a.eval (.tmp d)) w

theorem wpAny_rel {Q : Exit → Act → World → Prop} {l : List Oper} {n m : Nat} (hops : ops = l.toArray) (hB : relB md ops n m = true) {rs : Nat → Said} {a0 : Act} (hm : a0.tmps.size = m) (hmono : ∀ i v w w', rs i v w → Below w.heap.size w w' → rs i v w')
    (hob : ∀ (i : Nat) (oi : Oper), i < n → ops[i]? = some oi → ∀ (a : Act) (w : World), Below w0.heap.size w0 w → (∀ t, (∀ (k : Nat) (ok : Oper), k < n → ops[k]? = some ok → ok.dst ≠ some t) → a.eval (.tmp t) = a0.eval (.tmp t)) →
      (∀ (k : Nat) (ok : Oper) (d : Tmp), k < n → ops[k]? = some ok → ok.dst = some d → d ∈ oi.looksAt ops → rs k (a.eval (.tmp d)) w) → does P oi a w (rs i))
    (hend : ∀ (a : Act) (w : World), a.defers = a0.defers → a.tmps.size = a0.tmps.size → (∀ t, (∀ (k : Nat) (ok : Oper), k < n → ops[k]? = some ok → ok.dst ≠ some t) → a.eval (.tmp t) = a0.eval (.tmp t)) → Below w0.heap.size w0 w →
      (∀ (k : Nat) (ok : Oper) (d : Tmp), k < n → ops[k]? = some ok → ok.dst = some d → rs k (a.eval (.tmp d)) w) → wpList P ops Q (l.drop n) a w) :
    ∀ (f : Nat) (listed : Array Bool) (a : Act) (w : World), HeadInv md ops n listed → cnt n listed = f → Way ops w0 n rs a0 listed a w → wpAny P md ops Q (f + (ops.size - n)) listed a w := by
  simp only [relB, Bool.and_eq_true, decide_eq_true_eq] at hB
  obtain ⟨⟨⟨⟨⟨hsel, hn⟩, hs⟩, hc⟩, hall⟩, hseq⟩ := hB
  have hat : ∀ i, i < n → ∃ oi d, ops[i]? = some oi ∧ oi.dst = some d ∧ oi.guard = none ∧ d < m ∧ d ∉ oi.looksAt ops ∧ (∀ e ∈ oi.after, Region.binds md e = true → e.on < i) ∧
      (∀ j oj, j < n → j ≠ i → ops[j]? = some oj → oj.dst ≠ some d ∧ (d ∈ oj.looksAt ops → Region.waitsFor md ops j i = true)) := fun i hi => by
    have h1 := List.all_eq_true.1 hall i (List.mem_range.2 hi)
    cases ho : ops[i]? with
    | none => rw [ho] at h1; cases h1
    | some oi =>
      rw [ho] at h1
      simp only [Bool.and_eq_true] at h1
      obtain ⟨⟨hg, haf⟩, hd⟩ := h1
      cases hdst : oi.dst with
      | none => rw [hdst] at hd; cases hd
      | some d =>
        rw [hdst] at hd
        simp only [Bool.and_eq_true, decide_eq_true_eq] at hd
        obtain ⟨⟨hdm, hown⟩, hd⟩ := hd
        refine ⟨oi, d, rfl, hdst, by simpa using hg, hdm, by simpa using hown, fun e he hb => ?_, fun j oj hj hji hoj => ?_⟩
        · have := Array.all_eq_true_iff_forall_mem.1 haf e he
          rw [hb] at this
          simpa using this
        · have h2 := List.all_eq_true.1 hd j (List.mem_range.2 hj)
          rw [hoj] at h2
          simp only [Bool.or_eq_true, beq_iff_eq, Bool.and_eq_true] at h2
          rcases h2 with h2 | ⟨h2, h3⟩
          · exact absurd h2 hji
          · refine ⟨by simpa using h2, fun hlk => ?_⟩
            rcases h3 with h3 | h3
            · simp [hlk] at h3
            · exact h3
  intro f
  induction f with
  | zero =>
    intro listed a w inv hcnt way
    rw [Nat.zero_add]
    have hz := cnt_zero n hcnt
    have hF : listed = (List.replicate n true ++ List.replicate (ops.size - n) false).toArray := by
      apply Array.ext
      · simp [inv.size]; omega
      · intro i hi hi2
        by_cases hin : i < n
        · have h1 := hz i hin
          simp only [Array.getD_eq_getD_getElem?, Array.getElem?_eq_getElem hi, Option.getD_some] at h1
          rw [h1, List.getElem_toArray, List.getElem_append_left (by simpa using hin), List.getElem_replicate]
        · have h1 := inv.tail i (by omega) (by rw [← inv.size]; exact hi)
          simp only [Array.getD_eq_getD_getElem?, Array.getElem?_eq_getElem hi, Option.getD_some] at h1
          rw [h1, List.getElem_toArray, List.getElem_append_right (by simpa using hin), List.getElem_replicate]
    have hdl : (l.drop n).length = ops.size - n := by rw [hops]; simp
    have := wpAny_of_seq (md := md) (Q' := Q) (l.drop n) n listed a w (fun j => by rw [hops]; simp [List.getElem?_drop]) (by rw [hdl, hF]; exact hseq) (hend a w way.defs way.size way.same way.grown (fun k ok d hk hok hd => way.said k ok d hk hok hd (hz k hk)))
    rwa [hdl] at this
  | succ f ih =>
    intro listed a w inv hcnt way
    obtain ⟨i0, hi0, hun0, hbef⟩ := least_un (b := listed) n (by omega)
    have hready : i0 ∈ Region.ready md ops listed := by
      obtain ⟨oi, d, hoi, _, _, _, _, haf, _⟩ := hat i0 hi0
      refine mem_ready.2 ⟨hun0, oi, hoi, fun e he hb => ?_⟩
      have h1 := haf e he hb
      have h2 := hbef e.on h1
      have hlt : e.on < listed.size := by rw [inv.size]; omega
      simpa [hlt] using h2
    rw [show f + 1 + (ops.size - n) = (f + (ops.size - n)) + 1 by omega]
    refine ⟨fun h => (by rw [h] at hready; cases hready), fun i hi => ?_⟩
    have hin : i < n := by
      rcases Nat.lt_or_ge i n with h | h
      · exact h
      · exact absurd hi (tail_waits hs hc hn inv _ i0 rfl hi0 hun0 i h)
    obtain ⟨oi, d, hoi, hdst, hg, hdm, hown, haf, hfar⟩ := hat i hin
    obtain ⟨huni, oi', hoi', hdeps⟩ := mem_ready.1 hi
    obtain rfl : oi' = oi := Option.some.inj (hoi'.symm.trans hoi)
    have hdo := hob i oi' hin hoi a w way.grown way.same (fun k ok dk hk hok hdk hlk => by
      by_cases hki : k = i
      · subst hki
        obtain rfl : ok = oi' := Option.some.inj (hok.symm.trans hoi)
        rw [hdst] at hdk
        obtain rfl := Option.some.inj hdk
        exact absurd hlk hown
      · obtain ⟨ok', dk', hok', hdk', _, _, _, _, hf⟩ := hat k hk
        obtain rfl : ok' = ok := Option.some.inj (hok'.symm.trans hok)
        rw [hdk'] at hdk
        obtain rfl := Option.some.inj hdk
        obtain ⟨oj, hoj, e, he, hb, hon⟩ := Region.waitsFor_spec ((hf i oi' hin (Ne.symm hki) hoi).2 hlk)
        obtain rfl : oj = oi' := Option.some.inj (hoj.symm.trans hoi)
        have h1 := hdeps e he hb
        rw [hon] at h1
        refine way.said k ok' dk' hk hok' hdk' ?_
        have hlt : k < listed.size := by rw [inv.size]; omega
        simpa [hlt] using h1)
    have hgo : ∀ v w', Below w.heap.size w w' → rs i v w' → wpAny P md ops Q (f + (ops.size - n)) (listed.setIfInBounds i true) (a.put oi'.dst v) w' := fun v w' hb hr => by
      refine ih _ _ _ (inv.set hi hin) (by have := cnt_set huni n hin; omega) ⟨by rw [put_defs]; exact way.defs, by rw [put_size]; exact way.size, fun t ht => ?_, way.grown.trans (hb.mono way.grown.size), fun k ok dk hk hok hdk hl => ?_⟩
      · rw [put_far (ht i oi' hin hoi)]
        exact way.same t ht
      · by_cases hki : k = i
        · subst hki
          obtain rfl : ok = oi' := Option.some.inj (hok.symm.trans hoi)
          rw [hdk, put_at (by rw [hdst] at hdk; obtain rfl := Option.some.inj hdk; rw [way.size, hm]; exact hdm)]
          exact hr
        · rw [getD_set_ne true (Ne.symm hki)] at hl
          have hne : oi'.dst ≠ some dk := by
            rw [hdst]
            intro e
            exact (hfar k ok hk hki hok).1 (by rw [hdk, e])
          rw [put_far hne]
          exact hmono _ _ _ _ (way.said k ok dk hk hok hdk hl) hb
    unfold wpOp
    rw [hoi]
    have hw : Region.wanted oi' (yielded ops a.tmps) = true := by unfold Region.wanted; rw [hg]
    simp only [hw, if_true]
    left
    unfold Oper.wp
    unfold does at hdo
    generalize (execOp a.eval oi').run P w = res at *
    cases res with
    | ok nx w' =>
      cases nx <;> simp only at hdo <;> simp only [Oper.upon]
      case value v => exact hgo v w' hdo.1 hdo.2
      case enter fn args =>
        obtain ⟨rfl, hcalls⟩ := hdo
        exact hcalls.mono fun e w'' ⟨v, he, hb, hr⟩ => by subst he; exact hgo v w'' hb hr
    | halt x w' => exact hdo.elim
theorem relB_spec {n m : Nat} (hB : relB md ops n m = true) : Region.noSelect ops = true ∧ n < ops.size ∧ ∀ i, i < n → ∃ oi d, ops[i]? = some oi ∧ oi.dst = some d ∧ oi.guard = none ∧ d < m ∧ d ∉ oi.looksAt ops ∧ (∀ e ∈ oi.after, Region.binds md e = true → e.on < i) ∧
      (∀ j oj, j < n → j ≠ i → ops[j]? = some oj → oj.dst ≠ some d ∧ (d ∈ oj.looksAt ops → Region.waitsFor md ops j i = true)) := by
  simp only [relB, Bool.and_eq_true, decide_eq_true_eq] at hB
  obtain ⟨⟨⟨⟨⟨hsel, hn⟩, hs⟩, hc⟩, hall⟩, hseq⟩ := hB
  have hat : ∀ i, i < n → ∃ oi d, ops[i]? = some oi ∧ oi.dst = some d ∧ oi.guard = none ∧ d < m ∧ d ∉ oi.looksAt ops ∧ (∀ e ∈ oi.after, Region.binds md e = true → e.on < i) ∧
      (∀ j oj, j < n → j ≠ i → ops[j]? = some oj → oj.dst ≠ some d ∧ (d ∈ oj.looksAt ops → Region.waitsFor md ops j i = true)) := fun i hi => by
    have h1 := List.all_eq_true.1 hall i (List.mem_range.2 hi)
    cases ho : ops[i]? with
    | none => rw [ho] at h1; cases h1
    | some oi =>
      rw [ho] at h1
      simp only [Bool.and_eq_true] at h1
      obtain ⟨⟨hg, haf⟩, hd⟩ := h1
      cases hdst : oi.dst with
      | none => rw [hdst] at hd; cases hd
      | some d =>
        rw [hdst] at hd
        simp only [Bool.and_eq_true, decide_eq_true_eq] at hd
        obtain ⟨⟨hdm, hown⟩, hd⟩ := hd
        refine ⟨oi, d, rfl, hdst, by simpa using hg, hdm, by simpa using hown, fun e he hb => ?_, fun j oj hj hji hoj => ?_⟩
        · have := Array.all_eq_true_iff_forall_mem.1 haf e he
          rw [hb] at this
          simpa using this
        · have h2 := List.all_eq_true.1 hd j (List.mem_range.2 hj)
          rw [hoj] at h2
          simp only [Bool.or_eq_true, beq_iff_eq, Bool.and_eq_true] at h2
          rcases h2 with h2 | ⟨h2, h3⟩
          · exact absurd h2 hji
          · refine ⟨by simpa using h2, fun hlk => ?_⟩
            rcases h3 with h3 | h3
            · simp [hlk] at h3
            · exact h3
  exact ⟨hsel, hn, hat⟩

theorem any_rel {Q : Exit → Act → World → Prop} {a0 : Act} {l : List Oper} (n m : Nat) (rs : List Said) (hlen : rs.length = n) (hsz : a0.tmps.size = m) (hB : relB .any l.toArray n m = true)
    (hmono : ∀ r ∈ rs, ∀ v w w', r v w → Below w.heap.size w w' → r v w')
    (h : wpRel P l.toArray w0 (fun a' w' => wpList P l.toArray Q (l.drop n) a' w') ((l.take n).zip rs) [] a0) : wpAny P .any l.toArray Q l.toArray.size (Array.replicate l.toArray.size false) a0 { w0 with drawn := w0.drawn + 1 } := by
  obtain ⟨hsel, hn, hat⟩ := relB_spec hB
  have hnl : n < l.length := by simpa using hn
  have hpair : ∀ (k : Nat) (ok : Oper), k < n → l.toArray[k]? = some ok → ∃ rk, ((l.take n).zip rs)[k]? = some (ok, rk) ∧ rs[k]? = some rk := fun k ok hk hok => by
    have h1 : k < rs.length := by omega
    refine ⟨rs[k], ?_, List.getElem?_eq_getElem h1⟩
    rw [List.getElem?_zip_eq_some]
    exact ⟨by rw [List.getElem?_take_of_lt hk]; simpa using hok, List.getElem?_eq_getElem h1⟩
  have hunp : ∀ (k : Nat) (ok : Oper) (rk : Said), ((l.take n).zip rs)[k]? = some (ok, rk) → k < n ∧ l.toArray[k]? = some ok ∧ rs[k]? = some rk := fun k ok rk hk => by
    rw [List.getElem?_zip_eq_some] at hk
    obtain ⟨h1, h2⟩ := hk
    have hkn : k < n := by
      have := (List.getElem?_eq_some_iff.1 h2).1
      omega
    rw [List.getElem?_take_of_lt hkn] at h1
    exact ⟨hkn, by simpa using h1, h2⟩
  have hdst : ∀ (k : Nat) (o : Oper) (r : Said), ((l.take n).zip rs)[k]? = some (o, r) → o.dst ≠ none := fun k o r hk => by
    obtain ⟨hkn, hok, _⟩ := hunp k o r hk
    obtain ⟨o', d, ho', hd, _⟩ := hat k hkn
    obtain rfl : o' = o := Option.some.inj (ho'.symm.trans hok)
    rw [hd]
    exact fun e => by cases e
  have hrs : ∀ (k : Nat) (rk : Said), rs[k]? = some rk → rs.getD k (fun _ _ => True) = rk := fun k rk hk => by rw [List.getD_eq_getElem?_getD, hk]; rfl
  -- the values of a frame
  have hval : ∀ (a : Act), ∃ V : Nat → Value, ∀ (k : Nat) (ok : Oper) (d : Tmp), k < n → l.toArray[k]? = some ok → ok.dst = some d → V k = a.eval (.tmp d) := fun a =>
    ⟨fun k => match l.toArray[k]? with | some ok => a.eval (.tmp (ok.dst.getD 0)) | none => undef, fun k ok d _ hok hd => by simp only [hok, hd, Option.getD_some]⟩
  -- what a slot holds in the frame of the text's order
  have hslot : ∀ (V : Nat → Value) (i k : Nat) (ok : Oper) (d : Tmp), k < i → k < n → l.toArray[k]? = some ok → ok.dst = some d → (putN V ((l.take n).zip rs) i a0).eval (.tmp d) = V k := fun V i k ok d hki hk hok hd => by
    obtain ⟨rk, hp, _⟩ := hpair k ok hk hok
    obtain ⟨o', d', ho', hd', _, hdm, _, _, hf⟩ := hat k hk
    obtain rfl : o' = ok := Option.some.inj (ho'.symm.trans hok)
    obtain rfl := Option.some.inj (hd'.symm.trans hd)
    refine putN_at _ V i a0 d' k o' rk hki hp hd (by rw [hsz]; exact hdm) (fun j oj rj hjk hj => ?_)
    obtain ⟨hjn, hoj, _⟩ := hunp j oj rj hj
    exact (hf j oj hjn hjk hoj).1
  have hother : ∀ (V : Nat → Value) (i : Nat) (t : Tmp), (∀ (k : Nat) (ok : Oper), k < n → l.toArray[k]? = some ok → ok.dst ≠ some t) → (putN V ((l.take n).zip rs) i a0).eval (.tmp t) = a0.eval (.tmp t) := fun V i t ht =>
    putN_far _ V i a0 t (fun k o r _ hk => ht k o (hunp k o r hk).1 (hunp k o r hk).2.1)
  have H := wpAny_rel (md := .any) (P := P) (Q := Q) (w0 := w0) (l := l) (n := n) (m := m) rfl hB (rs := fun i => rs.getD i (fun _ _ => True)) (a0 := a0) hsz (fun i v w w' hr hb => by
      rcases Nat.lt_or_ge i rs.length with hi | hi
      · rw [List.getD_eq_getElem?_getD, List.getElem?_eq_getElem hi, Option.getD_some] at hr ⊢
        exact hmono _ (List.getElem_mem hi) v w w' hr hb
      · rw [List.getD_eq_getElem?_getD, List.getElem?_eq_none hi]
        trivial)
    (fun i oi hi hoi a w hw hsame hdeps => by
      obtain ⟨V, hV⟩ := hval a
      obtain ⟨ri, hp, hri⟩ := hpair i oi hi hoi
      rw [hrs i ri hri]
      have h1 := wpRel_ob _ [] a0 hdst h i oi ri hp V w hw (fun p hp => by cases hp) (fun k ok rk d hk hl hd hlk => by
        obtain ⟨hkn, hok, hrk⟩ := hunp k ok rk hl
        have := hdeps k ok d hkn hok hd hlk
        rw [hrs k rk hrk] at this
        rwa [hV k ok d hkn hok hd])
      refine does_congr (ops := l.toArray) (fun cs b => Region.noSelect_spec hsel i oi cs b hoi) (fun t ht => ?_) h1
      by_cases hex : ∃ (k : Nat) (ok : Oper), k < n ∧ l.toArray[k]? = some ok ∧ ok.dst = some t
      · obtain ⟨k, ok, hkn, hok, hdk⟩ := hex
        obtain ⟨oi', di, hoi', hdi, _, _, hown, haf, _⟩ := hat i hi
        obtain rfl : oi' = oi := Option.some.inj (hoi'.symm.trans hoi)
        have hki : k < i := by
          by_cases hk : k = i
          · subst hk
            obtain rfl : ok = oi' := Option.some.inj (hok.symm.trans hoi)
            rw [hdi] at hdk
            obtain rfl := Option.some.inj hdk
            exact absurd ht hown
          · obtain ⟨ok', dk', hok', hdk', _, _, _, _, hf⟩ := hat k hkn
            obtain rfl : ok' = ok := Option.some.inj (hok'.symm.trans hok)
            obtain rfl := Option.some.inj (hdk'.symm.trans hdk)
            obtain ⟨oj, hoj, e, he, hb, hon⟩ := Region.waitsFor_spec ((hf i oi' hi (Ne.symm hk) hoi).2 ht)
            obtain rfl : oj = oi' := Option.some.inj (hoj.symm.trans hoi)
            have := haf e he hb
            omega
        rw [hslot V i k ok t hki hkn hok hdk, hV k ok t hkn hok hdk]
      · rw [hother V i t (fun k ok hk hok hd => hex ⟨k, ok, hk, hok, hd⟩), hsame t (fun k ok hk hok hd => hex ⟨k, ok, hk, hok, hd⟩)])
    (fun a w hdef hsize hsame hw hsaid => by
      obtain ⟨V, hV⟩ := hval a
      have hll : ((l.take n).zip rs).length = n := by simp [hlen]; omega
      have h1 := wpRel_end _ [] a0 h V w hw (fun p hp => by cases hp) (fun k ok rk hk => by
        obtain ⟨hkn, hok, hrk⟩ := hunp k ok rk hk
        obtain ⟨ok', d, hok', hd, _⟩ := hat k hkn
        obtain rfl : ok' = ok := Option.some.inj (hok'.symm.trans hok)
        have := hsaid k ok' d hkn hok hd
        rw [hrs k rk hrk] at this
        rwa [hV k ok' d hkn hok hd])
      rw [hll] at h1
      have hsz2 := putN_size ((l.take n).zip rs) V n a0
      have e : putN V ((l.take n).zip rs) n a0 = a := act_ext (by rw [hsz2.2, hdef]) (by rw [hsz2.1, hsize]) (fun t _ => by
        by_cases hex : ∃ (k : Nat) (ok : Oper), k < n ∧ l.toArray[k]? = some ok ∧ ok.dst = some t
        · obtain ⟨k, ok, hkn, hok, hdk⟩ := hex
          rw [hslot V n k ok t hkn hkn hok hdk, hV k ok t hkn hok hdk]
        · rw [hother V n t (fun k ok hk hok hd => hex ⟨k, ok, hk, hok, hd⟩), hsame t (fun k ok hk hok hd => hex ⟨k, ok, hk, hok, hd⟩)])
      rw [e] at h1
      exact h1)
    (cnt n (Array.replicate l.toArray.size false)) (Array.replicate l.toArray.size false) a0 { w0 with drawn := w0.drawn + 1 }
    ⟨by simp, fun j oj _ hl => (by rw [getD_replicate_false] at hl; cases hl), fun t _ ht => getD_in (by simpa using ht) (getD_replicate_false _ _)⟩ rfl
    ⟨rfl, rfl, fun _ _ => rfl, (Below.refl w0.heap.size w0).drew, fun k ok d hk _ _ hl => by
      have : (Array.replicate l.toArray.size false).getD k true = false := getD_in (by simp; omega) (getD_replicate_false _ _)
      rw [this] at hl
      cases hl⟩
  have hc : ∀ k, k ≤ l.toArray.size → cnt k (Array.replicate l.toArray.size false) = k := fun k => by
    induction k with
    | zero => intro _; rfl
    | succ k ih =>
      intro hk
      rw [cnt, ih (by omega), if_pos (getD_in (by rw [Array.size_replicate]; omega) (getD_replicate_false _ _))]
  rw [hc n (by omega), show n + (l.toArray.size - n) = l.toArray.size by omega] at H
  exact H
/-- **the law** -/
theorem wp_region_rel {id : Nat} {Q : Exit → Act → World → Prop} {a0 : Act} {l : List Oper} (n m : Nat) (rs : List Said) (hlen : rs.length = n) (hsz : a0.tmps.size = m) (hm : P.follows .mixedOrders = true) (hB : relB .any l.toArray n m = true)
    (hmono : ∀ r ∈ rs, ∀ v w w', r v w → Below w.heap.size w w' → r v w')
    (h : wpRel P l.toArray w0 (fun a' w' => wpList P l.toArray Q (l.drop n) a' w') ((l.take n).zip rs) [] a0) : (Code.region id l.toArray true).wp P Q a0 w0 :=
  wp_region_any hm (any_rel n m rs hlen hsz hB hmono h)
/-- .. with an extract or a pick that the store does not wait for -/
theorem wp_region_rel_late {id : Nat} {K : Act → World → Prop} {Q : Exit → Act → World → Prop} {a0 : Act} {l : List Oper} (i j n m : Nat) (rs : List Said) (hlen : rs.length = n) (hsz : a0.tmps.size = m) (hm : P.follows .mixedOrders = true) (hL : lateB .any l.toArray i j = true) (hB : relB .any (addEdge l j i).toArray n m = true)
    (hmono : ∀ r ∈ rs, ∀ v w w', r v w → Below w.heap.size w w' → r v w')
    (h : wpRel P (addEdge l j i).toArray w0 (fun a' w' => wpList P (addEdge l j i).toArray (Exit.then K (Calm Q)) ((addEdge l j i).drop n) a' w') (((addEdge l j i).take n).zip rs) [] a0) : (Code.region id l.toArray true).wp P (Exit.then K Q) a0 w0 := by
  refine Code.wp_mono (Q := Exit.then K (Calm Q)) calm_then (wp_region_any hm (wpAny_late hL calm_panic _ _ _ _ (closed_none _ rfl) ?_))
  have := any_rel n m rs hlen hsz hB hmono h
  rwa [List.size_toArray, addEdge_length] at this

/-! ### the steps -/
theorem does_run {o : Oper} {a : Act} {w : World} {r : Said} (v : Value) (hr : (execOp a.eval o).run P w = .ok (.value v) w) (h : r v w) : does P o a w r := by
  unfold does
  rw [hr]
  exact ⟨Below.refl _ _, h⟩
theorem does_made {o : Oper} {a : Act} {w w' : World} {r : Said} (v : Value) (hr : (execOp a.eval o).run P w = .ok (.value v) w') (hb : Below w.heap.size w w') (h : r v w') : does P o a w r := by
  unfold does
  rw [hr]
  exact ⟨hb, h⟩
theorem does_call {o : Oper} {a : Act} {w : World} {r : Said} (f : FuncId) (args : Array Value) (hr : (execOp a.eval o).run P w = .ok (.enter f args) w) (h : Calls P f args w fun e w'' => ∃ v, e = .returned v ∧ Below w.heap.size w w'' ∧ r v w'') : does P o a w r := by
  unfold does
  rw [hr]
  exact ⟨rfl, h⟩
/-- it is just this value -/
abbrev sayFix (c : Value) : Said := fun v _ => v = c
theorem sayFix_mono (c : Value) : ∀ v w w', sayFix c v w → Below w.heap.size w w' → sayFix c v w' := fun _ _ _ h _ => h
theorem wpRel_nil {Q : Act → World → Prop} {G : List (Tmp × (World → Prop))} {a : Act} (h : ∀ w, Below w0.heap.size w0 w → (∀ p ∈ G, p.2 w) → Q a w) : wpRel P ops w0 Q [] G a := h
theorem wpRel_step {Q : Act → World → Prop} {G : List (Tmp × (World → Prop))} {a : Act} {o : Oper} {r : Said} {rest : List (Oper × Said)}
    (h1 : ∀ w, Below w0.heap.size w0 w → (∀ p ∈ G, p.1 ∈ o.looksAt ops → p.2 w) → does P o a w r) (h2 : ∀ v, wpRel P ops w0 Q rest ((o.dst.getD 0, r v) :: G) (a.put o.dst v)) : wpRel P ops w0 Q ((o, r) :: rest) G a := ⟨h1, h2⟩
/-- a fact that the walk has laid, by its place -/
theorem laid_at {G : List (Tmp × (World → Prop))} {S : Tmp → Prop} {w : World} (k : Nat) {t : Tmp} {F : World → Prop} (hG : ∀ p ∈ G, S p.1 → p.2 w) (hk : G[k]? = some (t, F)) (hS : S t) : F w := hG (t, F) (List.mem_of_getElem? hk) hS
end
end Go.Proofs.YtakmlmgffgoecaaDoor

/- A tree that works: its parts, put into new memory. -/
namespace Go.Proofs.YtakmlmgffgoecaaDoor.R
open Go.RowKit Go.Sort Go.Proofs.YtakmlmgffgoecaaDoor.U
set_option maxRecDepth 100000

section
variable {a : Act} {d : Option Tmp} {x y : Operand} {t' : TypeId} {pos : String} {after : Array Edge} {gd : Option (Nat × Bool)}
theorem run_ld (p : Addr) (v : Value) (w : World) (hc : w.cell? p = some v) (hx : a.eval x = .pointer (some p)) :
    (execOp a.eval ⟨d, .load 22 x, t', pos, after, gd⟩).run Tryd.prog w = .ok (.value v) w := by
  unfold execOp
  simp only [hx, Instr.loadAt, Instr.sureAddr]
  simp [go_sem, hc]
theorem run_cut0 (ao : Option Addr) (n c : Nat) (hx : a.eval x = .slice ao n c) (w : World) :
    (execOp a.eval ⟨d, .slice 22 x none (some (.const (.int .i64 0))) (some (.const (.int .i64 0))), t', pos, after, gd⟩).run Tryd.prog w = .ok (.value (.slice ao 0 0)) w := by
  have h2 : a.eval (.const (.int .i64 0)) = .int .i64 0 := rfl
  unfold execOp
  simp only [hx, h2, Option.map_some, Option.map_none]
  simp [Instr.sliceAt, run_underlying Tryd.underlying22, go_sem]
/-- a row of texts goes behind one of nothing, without room -/
theorem run_apart {w0 : World} {B : Nat} {v : Value} {ps : List (List UInt8)} (ao : Option Addr) (c : Nat) (hv : v = .slice ao ps.length c) (hs : Strs w0 v ps) (hps : ps.length ≤ 100000) (w : World) (hb : Below w0.heap.size w0 w) (hB : B ≤ w0.heap.size)
    (hx : a.eval x = .slice ao 0 0) (hy : a.eval y = v) :
    does Tryd.prog ⟨d, .call { callee := .builtin .append, args := #[x, y], argTypes := #[22, 22] }, t', pos, after, gd⟩ a w (fun u w' => Own w' B u ps ∧ ∃ a2 n2 c2, u = .slice a2 n2 c2) := by
  obtain ⟨i0, hi, hz0, hz1, hz2⟩ := info_parts infoStr
  subst hv
  have hw := hs.below hb
  obtain ⟨a', c', hv, hc, hm, hna, hcl⟩ := hw
  injection hv with e1 e2 e3
  subst e1 e3
  by_cases h0 : ps = []
  · subst h0
    refine does_made (.slice ao 0 0) (w' := w) ?_ (Below.refl _ _) ⟨.inl ⟨ao, rfl, rfl⟩, _, _, _, rfl⟩
    have hy0 : a.eval y = .slice ao 0 c := hy
    have hr : (Builtin.append_ #[22, 22] t' #[.slice ao 0 0, .slice ao 0 c]).run Tryd.prog w = .ok (.slice ao 0 0) w := by
      cases ao with
      | none =>
        have hf : (Builtin.firstCells i0.size 0 (.slice none 0 c)).run Tryd.prog w = .ok #[] w := by simp [Builtin.firstCells]
        simp [Builtin.append_, run_underlying Tryd.underlying22, sizeOf, typeInfo, hi, Builtin.lenOf, hf]
      | some b =>
        have hf : (Builtin.firstCells i0.size 0 (.slice (some b) 0 c)).run Tryd.prog w = .ok #[] w := by rw [run_firstCells_some (P := Tryd.prog) w i0.size 0 b 0 c [] (by simp) (fun j u hj => by cases hj)]
        simp [Builtin.append_, run_underlying Tryd.underlying22, sizeOf, typeInfo, hi, Builtin.lenOf, hf, storeCells]
    simp [execOp, resolve, invoke, builtin, hx, hy0, hr, Result.andThen]
  · obtain ⟨b, off, rfl, hcell⟩ := hcl h0
    obtain ⟨v', w', hrun, ho, hg⟩ := run_append_arg_grows (P := Tryd.prog) w 22 t' 9 i0 _ 1 16 Tryd.underlying22 hi hz0 hz1 hz2 rfl (by decide) ⟨b, off, none⟩ 0 0 [] rfl (fun j u hj => by cases hj) ⟨b, off, none⟩ ps.length c (ps.map str) (by simp) (fun j u hj => by
      rw [List.getElem?_map] at hj
      obtain ⟨x, hxj, rfl⟩ := Option.map_eq_some_iff.1 hj
      rw [Addr.add_mid]
      exact hcell j x hxj) (by have := List.length_pos_iff.2 h0; omega) (by unfold maxLen; omega) (by omega)
    rw [List.nil_append, Nat.zero_add] at ho
    obtain ⟨g2, c2, rfl, _⟩ := ho.form (List.length_pos_iff.2 h0)
    refine does_made _ (w' := w') ?_ ⟨hg.os, hg.tape, hg.output, hg.size, fun k hk => hg.block k hk (by simp)⟩ ⟨.inr ⟨g2, c2, rfl, own_less ho (Nat.le_trans hB hb.size)⟩, _, _, _, rfl⟩
    simp [execOp, resolve, invoke, builtin, hx, hy, hrun, Result.andThen]
end
abbrev sayOwn (B : Nat) (ps : List (List UInt8)) : Said := fun u w => Own w B u ps ∧ ∃ a2 n2 c2, u = .slice a2 n2 c2
theorem sayOwn_mono (B : Nat) (ps : List (List UInt8)) : ∀ v w w', sayOwn B ps v w → Below w.heap.size w w' → sayOwn B ps v w' := fun _ _ _ h hb => ⟨h.1.on hb, h.2⟩

set_option maxHeartbeats 1600000 in
theorem wapart_any (B g : Nat) (n : Int) (v : Value) (ps : List (List UInt8)) (w0 : World) (hs : Strs w0 v ps) (hps : ps.length ≤ 100000) (hl : Lies w0 g 53 (growA n v)) (hBg : B ≤ g) :
    Calls Tryd.prog 32 #[.pointer (some ⟨g, 0, none⟩)] w0 fun e w' => e = .returned (.tuple #[]) ∧ (∃ v', Lies w' g 53 (growA n v') ∧ Own w' B v' ps) ∧ Below B w0 w' := by
  have hlt := hl.lt
  have hB : B ≤ w0.heap.size := by omega
  have hs2 := hs
  obtain ⟨ao, c, hv, _⟩ := hs2
  subst hv
  go_enter Tryd.func32, Tryd.ntmps32
  go_upto_region 0 with fail
  refine wp_region_rel 16 _ [sayFix (.pointer (some ⟨g, 0, none⟩)), sayFix (.pointer (some ⟨g, 0, none⟩)), sayFix (.pointer (some ⟨g, 0, none⟩)), sayFix (.pointer (some ⟨g, 0, none⟩)), sayFix (.pointer (some ⟨g, 1, none⟩)), sayFix (.slice ao ps.length c), sayFix (.slice ao 0 0), sayFix (.pointer (some ⟨g, 0, none⟩)), sayFix (.pointer (some ⟨g, 0, none⟩)), sayFix (.pointer (some ⟨g, 0, none⟩)), sayFix (.pointer (some ⟨g, 1, none⟩)), sayFix (.slice ao ps.length c), sayOwn B ps, sayFix (.pointer (some ⟨g, 0, none⟩)), sayFix (.pointer (some ⟨g, 0, none⟩)), sayFix (.pointer (some ⟨g, 1, none⟩))] rfl rfl (by kernel_rfl) (by kernel_rfl) (fun r hr => by
    simp only [List.mem_cons, List.not_mem_nil, or_false] at hr
    rcases hr with rfl | rfl | rfl | rfl | rfl | rfl | rfl | rfl | rfl | rfl | rfl | rfl | rfl | rfl | rfl | rfl <;> first | exact sayFix_mono _ | exact sayOwn_mono _ _) ?_
  simp only [List.take_succ_cons, List.take_zero, List.drop_succ_cons, List.drop_zero, List.zip_cons_cons, List.zip_nil_right]
  refine wpRel_step (fun w hb hG => ?_) (fun v0 => ?_)
  · exact does_run (.pointer (some ⟨g, 0, none⟩)) rfl rfl
  simp only [Act.put, List.setIfInBounds_toArray, List.set_cons_succ, List.set_cons_zero, Option.getD_some]
  refine wpRel_step (fun w hb hG => ?_) (fun v1 => ?_)
  · exact does_run (.pointer (some ⟨g, 0, none⟩)) rfl rfl
  simp only [Act.put, List.setIfInBounds_toArray, List.set_cons_succ, List.set_cons_zero, Option.getD_some]
  refine wpRel_step (fun w hb hG => ?_) (fun v2 => ?_)
  · obtain rfl := laid_at 0 hG rfl (by decide)
    exact does_run (.pointer (some ⟨g, 0, none⟩)) (by kernel_rfl) rfl
  simp only [Act.put, List.setIfInBounds_toArray, List.set_cons_succ, List.set_cons_zero, Option.getD_some]
  refine wpRel_step (fun w hb hG => ?_) (fun v3 => ?_)
  · obtain rfl := laid_at 0 hG rfl (by decide)
    exact does_run (.pointer (some ⟨g, 0, none⟩)) (by kernel_rfl) rfl
  simp only [Act.put, List.setIfInBounds_toArray, List.set_cons_succ, List.set_cons_zero, Option.getD_some]
  refine wpRel_step (fun w hb hG => ?_) (fun v4 => ?_)
  · obtain rfl := laid_at 0 hG rfl (by decide)
    exact does_run (.pointer (some ⟨g, 1, none⟩)) (by kernel_rfl) rfl
  simp only [Act.put, List.setIfInBounds_toArray, List.set_cons_succ, List.set_cons_zero, Option.getD_some]
  refine wpRel_step (fun w hb hG => ?_) (fun v5 => ?_)
  · obtain rfl := laid_at 0 hG rfl (by decide)
    exact does_run (.slice ao ps.length c) (run_ld ⟨g, 1, none⟩ _ w ((hl.on hb).cell 1) rfl) rfl
  simp only [Act.put, List.setIfInBounds_toArray, List.set_cons_succ, List.set_cons_zero, Option.getD_some]
  refine wpRel_step (fun w hb hG => ?_) (fun v6 => ?_)
  · obtain rfl := laid_at 0 hG rfl (by decide)
    exact does_run (.slice ao 0 0) (run_cut0 ao _ _ rfl w) rfl
  simp only [Act.put, List.setIfInBounds_toArray, List.set_cons_succ, List.set_cons_zero, Option.getD_some]
  refine wpRel_step (fun w hb hG => ?_) (fun v7 => ?_)
  · exact does_run (.pointer (some ⟨g, 0, none⟩)) rfl rfl
  simp only [Act.put, List.setIfInBounds_toArray, List.set_cons_succ, List.set_cons_zero, Option.getD_some]
  refine wpRel_step (fun w hb hG => ?_) (fun v8 => ?_)
  · obtain rfl := laid_at 0 hG rfl (by decide)
    exact does_run (.pointer (some ⟨g, 0, none⟩)) (by kernel_rfl) rfl
  simp only [Act.put, List.setIfInBounds_toArray, List.set_cons_succ, List.set_cons_zero, Option.getD_some]
  refine wpRel_step (fun w hb hG => ?_) (fun v9 => ?_)
  · obtain rfl := laid_at 0 hG rfl (by decide)
    exact does_run (.pointer (some ⟨g, 0, none⟩)) (by kernel_rfl) rfl
  simp only [Act.put, List.setIfInBounds_toArray, List.set_cons_succ, List.set_cons_zero, Option.getD_some]
  refine wpRel_step (fun w hb hG => ?_) (fun v10 => ?_)
  · obtain rfl := laid_at 0 hG rfl (by decide)
    exact does_run (.pointer (some ⟨g, 1, none⟩)) (by kernel_rfl) rfl
  simp only [Act.put, List.setIfInBounds_toArray, List.set_cons_succ, List.set_cons_zero, Option.getD_some]
  refine wpRel_step (fun w hb hG => ?_) (fun v11 => ?_)
  · obtain rfl := laid_at 0 hG rfl (by decide)
    exact does_run (.slice ao ps.length c) (run_ld ⟨g, 1, none⟩ _ w ((hl.on hb).cell 1) rfl) rfl
  simp only [Act.put, List.setIfInBounds_toArray, List.set_cons_succ, List.set_cons_zero, Option.getD_some]
  refine wpRel_step (fun w hb hG => ?_) (fun v12 => ?_)
  · obtain rfl := laid_at 0 hG rfl (by decide)
    obtain rfl := laid_at 5 hG rfl (by decide)
    exact run_apart ao c rfl hs hps w hb hB rfl rfl
  simp only [Act.put, List.setIfInBounds_toArray, List.set_cons_succ, List.set_cons_zero, Option.getD_some]
  refine wpRel_step (fun w hb hG => ?_) (fun v13 => ?_)
  · obtain rfl := laid_at 12 hG rfl (by decide)
    exact does_run (.pointer (some ⟨g, 0, none⟩)) (by kernel_rfl) rfl
  simp only [Act.put, List.setIfInBounds_toArray, List.set_cons_succ, List.set_cons_zero, Option.getD_some]
  refine wpRel_step (fun w hb hG => ?_) (fun v14 => ?_)
  · obtain rfl := laid_at 0 hG rfl (by decide)
    exact does_run (.pointer (some ⟨g, 0, none⟩)) (by kernel_rfl) rfl
  simp only [Act.put, List.setIfInBounds_toArray, List.set_cons_succ, List.set_cons_zero, Option.getD_some]
  refine wpRel_step (fun w hb hG => ?_) (fun v15 => ?_)
  · obtain rfl := laid_at 0 hG rfl (by decide)
    exact does_run (.pointer (some ⟨g, 1, none⟩)) (by kernel_rfl) rfl
  simp only [Act.put, List.setIfInBounds_toArray, List.set_cons_succ, List.set_cons_zero, Option.getD_some]
  refine wpRel_nil (fun w2 hb hG => ?_)
  obtain ⟨ho, a2, n2, c2, rfl⟩ := hG _ (List.mem_of_getElem? (i := 3) rfl)
  obtain rfl := hG _ (List.mem_of_getElem? (i := 0) rfl)
  clear hG
  have hl2 := hl.on hb
  have q1 := hl2.cell 1
  have f1 := hl2.frozen 1
  simp only [growA, List.getElem?_toArray, List.getElem?_cons_succ, List.getElem?_cons_zero] at q1
  have hO := (Only.refl w2 g).put (p := ⟨g, 1, none⟩) (Or.inl rfl) (.slice a2 n2 c2)
  go_wp2
  go_end0
  exact ⟨rfl, ⟨.slice a2 n2 c2, hl2.put 1 _, ho.only hl2 (by decide) hO⟩, (hb.mono hB).grown hO (by have := hb.size; omega) (fun k hk => by cases hk; exact hBg)⟩
end Go.Proofs.YtakmlmgffgoecaaDoor.R

/- A tree that goes on: the contract of the program's Sum; more leaves, as lists. -/
namespace Go.Proofs.YtakmlmgffgoecaaDoor.R
open Go.RowKit Go.Sort Go.Proofs.YtakmlmgffgoecaaDoor.U
set_option maxRecDepth 100000

theorem mrg_length : ∀ (t : Nat) (ps : List (List UInt8)) (x : List UInt8), t ≤ ps.length → (mrg nd e0 t ps x).length = ps.length - t + 1 := by
  intro t
  induction t with
  | zero => intro ps x _; show (ps ++ [x]).length = _; simp
  | succ t ih =>
    intro ps x h
    show (mrg nd e0 t ps.dropLast (nd (ps.getLastD e0) x)).length = _
    rw [ih _ _ (by rw [List.length_dropLast]; omega), List.length_dropLast]
    omega
theorem mrg_all32 : ∀ (t : Nat) (ps : List (List UInt8)) (x : List UInt8), (∀ y ∈ ps, y.length = 32) → x.length = 32 → ∀ y ∈ mrg nd e0 t ps x, y.length = 32 := by
  intro t
  induction t with
  | zero =>
    intro ps x hp hx y hy
    rcases List.mem_append.1 (show y ∈ ps ++ [x] from hy) with h | h
    · exact hp y h
    · rw [List.mem_singleton.1 h]; exact hx
  | succ t ih =>
    intro ps x hp hx
    exact ih ps.dropLast _ (fun y hy => hp y (List.dropLast_subset ps hy)) (nd_length _ _)
theorem ones_succ : ∀ (m n : Nat), n ≤ m → ones (n + 1) + trail n = ones n + 1 := by
  intro m
  induction m with
  | zero =>
    intro n h
    obtain rfl : n = 0 := by omega
    decide
  | succ m ih =>
    intro n h
    rcases Nat.mod_two_eq_zero_or_one n with h0 | h1
    · rw [trail_even h0, ones_half (n + 1), ones_half n, show (n + 1) % 2 = 1 by omega, show (n + 1) / 2 = n / 2 by omega, h0]
      omega
    · have i := ih (n / 2) (by omega)
      rw [trail_odd h1, ones_half (n + 1), ones_half n, show (n + 1) % 2 = 0 by omega, show (n + 1) / 2 = n / 2 + 1 by omega, h1]
      omega
/-- the parts behind more leaves -/
def addL (n : Nat) (ps : List (List UInt8)) : List (List UInt8) → List (List UInt8)
  | [] => ps
  | x :: l => addL (n + 1) (mrg nd e0 (trail n) ps x) l
theorem addL_snoc : ∀ (l : List (List UInt8)) (n : Nat) (ps : List (List UInt8)) (x : List UInt8), addL n ps (l ++ [x]) = mrg nd e0 (trail (n + l.length)) (addL n ps l) x := by
  intro l
  induction l with
  | nil => intro n ps x; rfl
  | cons y l ih =>
    intro n ps x
    show addL (n + 1) _ (l ++ [x]) = _
    rw [ih, List.length_cons, show n + 1 + l.length = n + (l.length + 1) by omega]
    rfl
theorem addL_next {l : List (List UInt8)} {k : Nat} {x : List UInt8} (h : l[k]? = some x) (n : Nat) (ps : List (List UInt8)) : addL n ps (l.take (k + 1)) = mrg nd e0 (trail (n + k)) (addL n ps (l.take k)) x := by
  have hlt := (List.getElem?_eq_some_iff.1 h).1
  rw [List.take_add_one, h, Option.toList_some, addL_snoc, List.length_take, Nat.min_eq_left (by omega)]
theorem addL_ok : ∀ (l : List (List UInt8)) (n : Nat) (ps : List (List UInt8)), ps.length = ones n → (∀ y ∈ ps, y.length = 32) → (∀ y ∈ l, y.length = 32) → (addL n ps l).length = ones (n + l.length) ∧ ∀ y ∈ addL n ps l, y.length = 32 := by
  intro l
  induction l with
  | nil => intro n ps h1 h2 _; exact ⟨h1, h2⟩
  | cons x l ih =>
    intro n ps h1 h2 h3
    have ht := trail_le_ones n
    have hs := ones_succ n n (Nat.le_refl _)
    have := ih (n + 1) (mrg nd e0 (trail n) ps x) (by rw [mrg_length _ _ _ (by omega)]; omega) (mrg_all32 _ _ _ h2 (h3 x (by simp))) (fun y hy => h3 y (by simp [hy]))
    rw [List.length_cons, show n + (l.length + 1) = n + 1 + l.length by omega]
    exact this
theorem addL_append : ∀ (l m : List (List UInt8)) (n : Nat) (ps : List (List UInt8)), addL n ps (l ++ m) = addL (n + l.length) (addL n ps l) m := by
  intro l
  induction l with
  | nil => intro m n ps; rfl
  | cons x l ih =>
    intro m n ps
    show addL (n + 1) _ (l ++ m) = _
    rw [ih, List.length_cons, show n + 1 + l.length = n + (l.length + 1) by omega]
    rfl
/-- from none on: the leaves' parts -/
theorem addL_parts : ∀ (m : Nat) (l : List (List UInt8)), l.length = m → addL 0 [] l = partsL nd e0 l := by
  intro m
  induction m with
  | zero => intro l h; obtain rfl : l = [] := List.eq_nil_of_length_eq_zero h; rfl
  | succ m ih =>
    intro l h
    have hne : l ≠ [] := by intro h1; subst h1; simp at h
    obtain ⟨qs, q, rfl⟩ : ∃ qs q, l = qs ++ [q] := ⟨l.dropLast, l.getLast hne, (List.dropLast_concat_getLast hne).symm⟩
    rw [addL_snoc, ih qs (by simpa using h), parts_more nd e0 _ _ _ (Nat.le_refl _), Nat.zero_add]
theorem mayB_of {n : Int} {ps : List (List UInt8)} (h : mayB n ps = true) : 0 ≤ n ∧ n ≤ 4096 ∧ ps.length = ones n.toNat ∧ rowB ps = true := by
  unfold mayB at h
  simp only [Bool.and_eq_true, decide_eq_true_eq] at h
  exact ⟨h.1.1.1, h.1.1.2, h.1.2, h.2⟩

/-- what Sum hands back -/
def sumG (n : Int) (ps : List (List UInt8)) : Array Value := if mayB n ps = true then #[.string (bytesOf (sumP nd e0 ps)), .int .i64 0] else #[.string { data := #[] }, .int .i64 1]
set_option maxHeartbeats 800000 in
theorem gsum_any (n : Int) (v : Value) (ps : List (List UInt8)) (w : World) (hn1 : -9223372036854775808 ≤ n) (hn2 : n ≤ 9223372036854775807) (hs : Strs w v ps) (hx : ∀ x ∈ ps, x.length ≤ maxLen) (hT : Tab w) :
    Calls Tryd.prog 21 #[.agg (growA n v)] w fun e w' => e = .returned (.tuple (sumG n ps)) ∧ Below w.heap.size w w' := by
  have HR := Lib.hid (fun g w' (hb : Below w.heap.size w w') hl => wright_any g n v ps w' hn1 hn2 (hs.below hb) hx hl)
  have HT := Lib.hid hT
  have HS := Lib.hid hs
  obtain ⟨ao, c, hv, _⟩ := hs
  subst hv
  have hb1 := ((Below.refl w.heap.size w).alloc (Nat.le_refl _) (.cells #[.int .i64 n, .slice ao ps.length c] 34)).alloc (by simp) (.cells #[.int .i64 n, .slice ao ps.length c] 53)
  have hl1 : Lies ((w.alloc (.cells #[.int .i64 n, .slice ao ps.length c] 34)).alloc (.cells #[.int .i64 n, .slice ao ps.length c] 53)) (w.heap.size + 1) 53 (growA n (.slice ao ps.length c)) := heap_alloc2_new w _ _
  cases hm : mayB n ps with
  | true =>
    obtain ⟨h0, h4, hlen, hrow⟩ := mayB_of hm
    obtain ⟨m, rfl⟩ : ∃ m : Nat, n = (m : Int) := ⟨n.toNat, (Int.toNat_of_nonneg h0).symm⟩
    rw [Int.toNat_natCast] at hlen
    have hrow2 := rowB_of hrow
    have HQ := Lib.hid (fun g w' (hb : Below w.heap.size w w') hl => wroot_any g m _ ps w' hlen (HS.out.below hb) hrow2.2 hl (HT.out.below hb) hrow2.1)
    have HA := Lib.hid (show sumG (m : Int) ps = #[.string (bytesOf (sumP nd e0 ps)), .int .i64 0] by unfold sumG; rw [if_pos hm])
    rw [hm] at HR
    clear hm hlen hrow hrow2 hT
    unfold growA
    go_enter Tryd.func21, Tryd.ntmps21
    go_wp2_with (first | (go_at_call 31; refine (HR.out _ _ hb1 hl1).mono ?_; rintro e w1 ⟨rfl, hb2⟩; replace hl1 := hl1.on hb2; replace hb1 := below_on hb1 hb2) | (go_at_call 34; refine (HQ.out _ _ hb1 hl1).mono ?_; rintro e w3 ⟨rfl, hb3⟩; replace hb1 := below_on hb1 hb3))
    go_ret2
    exact ⟨by rw [HA.out]; rfl, hb1⟩
  | false =>
    have HA := Lib.hid (show sumG n ps = #[.string { data := #[] }, .int .i64 1] by unfold sumG; rw [hm]; rfl)
    rw [hm] at HR
    clear hm hT
    unfold growA
    go_enter Tryd.func21, Tryd.ntmps21
    go_wp2_with (go_at_call 31; refine (HR.out _ _ hb1 hl1).mono ?_; rintro e w1 ⟨rfl, hb2⟩; replace hb1 := below_on hb1 hb2)
    go_ret2
    exact ⟨by rw [HA.out]; rfl, hb1⟩
end Go.Proofs.YtakmlmgffgoecaaDoor.R

/- A tree that goes on: the contract of the program's Add. -/
namespace Go.Proofs.YtakmlmgffgoecaaDoor.R
open Go.RowKit Go.Sort Go.Proofs.YtakmlmgffgoecaaDoor.U
set_option maxRecDepth 100000

theorem Own.form {w : World} {B : Nat} {v : Value} {ps : List (List UInt8)} (h : Own w B v ps) : ∃ a c, v = .slice a ps.length c := by
  rcases h with ⟨a, rfl, rfl⟩ | ⟨gp, cap, rfl, _⟩
  · exact ⟨a, 0, rfl⟩
  · exact ⟨_, _, rfl⟩
/-- no tree -/
abbrev noA : Array Value := growA 0 (.slice none 0 0)
theorem growA_one (n : Int) (a : Option Addr) (m c : Nat) : Ones (growA n (.slice a m c)) := by unfold Ones growA; simp [Value.oneCell']

section
variable (n : Int) (v lv : Value) (ps l : List (List UInt8)) (w : World)
/-- memory when Add has begun -/
def addW : World := ((w.alloc (.cells (growA n v) 34)).alloc (.cells noA 34)).alloc (.cells (growA n v) 53)
theorem addW_below : Below w.heap.size w (addW n v w) := (((Below.refl w.heap.size w).alloc (Nat.le_refl _) _).alloc (by simp) _).alloc (by simp; omega) _
theorem addW_zero : Lies (addW n v w) (w.heap.size + 1) 34 noA := Lies.alloc (heap_alloc2_new w _ _) _
theorem addW_work : Lies (addW n v w) (w.heap.size + 2) 53 (growA n v) := by
  have h := Lies.new ((w.alloc (.cells (growA n v) 34)).alloc (.cells noA 34)) 53 (growA n v)
  simp at h
  exact h
end

set_option maxHeartbeats 800000 in
/-- what may not be is refused -/
theorem gadd_arg (n : Int) (v lv : Value) (ps l : List (List UInt8)) (w : World) (hn1 : -9223372036854775808 ≤ n) (hn2 : n ≤ 9223372036854775807) (hs : Strs w v ps) (hx : ∀ x ∈ ps, x.length ≤ maxLen) (hls : Strs w lv l) (hlx : ∀ x ∈ l, x.length ≤ maxLen) (hno : (mayB n ps && rowB l) = false) :
    Calls Tryd.prog 20 #[.agg (growA n v), lv] w fun e w' => e = .returned (.tuple #[.agg noA, .int .i64 1]) ∧ Below w.heap.size w w' := by
  have HR := Lib.hid (fun g w' (hb : Below w.heap.size w w') hl => wright_any g n v ps w' hn1 hn2 (hs.below hb) hx hl)
  have HL := Lib.hid (fun w' (hb : Below w.heap.size w w') => right_any w' lv l (hls.below hb) hlx)
  obtain ⟨ao, c, hv, _⟩ := hs
  subst hv
  have hb1 := addW_below n (.slice ao ps.length c) w
  have hz := addW_zero n (.slice ao ps.length c) w
  have hl1 := addW_work n (.slice ao ps.length c) w
  cases hm : mayB n ps with
  | true =>
    rw [hm, Bool.true_and] at hno
    rw [hm] at HR
    rw [hno] at HL
    clear hm hno
    unfold growA
    go_enter Tryd.func20, Tryd.ntmps20
    go_wp2_with (first | (go_at_call 31; refine (HR.out _ _ hb1 hl1).mono ?_; rintro e w1 ⟨rfl, hb2⟩; replace hz := hz.on hb2; replace hb1 := below_on hb1 hb2) | (go_at_call 15; refine (HL.out _ hb1).mono ?_; rintro e w2 ⟨rfl, rfl⟩) | ((with_reducible refine wpL_store (w.heap.size + 1) 34 _ noA 2 rowGrow ?_ ?_ ?_ hz ?_ ?_ ?_); rfl; rfl; exact growA_one _ _ _ _; rfl; rfl))
    exact bodyPost_ret (results_row_tmp Tryd.results20 rowGrow rfl (hz.row _) rfl rfl) rfl ⟨rfl, below_rowSet hb1 (by omega) _⟩
  | false =>
    rw [hm] at HR
    clear hm hno
    unfold growA
    go_enter Tryd.func20, Tryd.ntmps20
    go_wp2_with (first | (go_at_call 31; refine (HR.out _ _ hb1 hl1).mono ?_; rintro e w1 ⟨rfl, hb2⟩; replace hz := hz.on hb2; replace hb1 := below_on hb1 hb2) | ((with_reducible refine wpL_store (w.heap.size + 1) 34 _ noA 2 rowGrow ?_ ?_ ?_ hz ?_ ?_ ?_); rfl; rfl; exact growA_one _ _ _ _; rfl; rfl))
    exact bodyPost_ret (results_row_tmp Tryd.results20 rowGrow rfl (hz.row _) rfl rfl) rfl ⟨rfl, below_rowSet hb1 (by omega) _⟩

set_option maxHeartbeats 800000 in
/-- too many leaves are -/
theorem gadd_many (n : Nat) (v lv : Value) (ps l : List (List UInt8)) (w : World) (hn : n ≤ 4096) (hs : Strs w v ps) (hls : Strs w lv l) (hm : mayB n ps = true) (hr : rowB l = true) (h : 4096 < n + l.length) :
    Calls Tryd.prog 20 #[.agg (growA n v), lv] w fun e w' => e = .returned (.tuple #[.agg noA, .int .i64 22]) ∧ Below w.heap.size w w' := by
  obtain ⟨_, _, hpl, hrow⟩ := mayB_of hm
  clear hpl
  have hrow2 := rowB_of hrow
  have hr2 := rowB_of hr
  have HR := Lib.hid (fun g w' (hb : Below w.heap.size w w') hl => wright_any g n v ps w' (by omega) (by omega) (hs.below hb) (fun x hx => by rw [hrow2.2 x hx]; decide) hl)
  have HL := Lib.hid (fun w' (hb : Below w.heap.size w w') => right_any w' lv l (hls.below hb) (fun x hx => by rw [hr2.2 x hx]; decide))
  obtain ⟨ao, c, hv, _⟩ := hs
  subst hv
  obtain ⟨al, cl, hv, hc1, hc2, _⟩ := hls
  subst hv
  have hl4 := hr2.1
  have hb1 := addW_below n (.slice ao ps.length c) w
  have hz := addW_zero n (.slice ao ps.length c) w
  have hl1 := addW_work n (.slice ao ps.length c) w
  rw [hm] at HR
  rw [hr] at HL
  have hi : (4096 : Int) < (n : Int) + (l.length : Int) := by omega
  clear hm hr hrow hrow2 hr2
  unfold growA
  go_enter Tryd.func20, Tryd.ntmps20
  go_wp2_with (first | (go_at_call 31; refine (HR.out _ _ hb1 hl1).mono ?_; rintro e w1 ⟨rfl, hb2⟩; replace hz := hz.on hb2; replace hl1 := hl1.on hb2; replace hb1 := below_on hb1 hb2; have q0 := hl1.cell 0; simp only [growA, List.getElem?_toArray, List.getElem?_cons_zero] at q0) | (go_at_call 15; refine (HL.out _ hb1).mono ?_; rintro e w2 ⟨rfl, rfl⟩) | ((with_reducible refine wpL_store (w.heap.size + 1) 34 _ noA 2 rowGrow ?_ ?_ ?_ hz ?_ ?_ ?_); rfl; rfl; exact growA_one _ _ _ _; rfl; rfl))
  exact bodyPost_ret (results_row_tmp Tryd.results20 rowGrow rfl (hz.row _) rfl rfl) rfl ⟨rfl, below_rowSet hb1 (by omega) _⟩

set_option maxHeartbeats 1600000 in
/-- the others go on -/
theorem gadd_yes (n : Nat) (v lv : Value) (ps l : List (List UInt8)) (w : World) (hs : Strs w v ps) (hls : Strs w lv l) (hm : mayB n ps = true) (hr : rowB l = true) (h : n + l.length ≤ 4096) (hT : Tab w) :
    Calls Tryd.prog 20 #[.agg (growA n v), lv] w fun e w' => ∃ a2 c2, e = .returned (.tuple #[.agg (growA ((n + l.length : Nat) : Int) (.slice a2 (addL n ps l).length c2)), .int .i64 0]) ∧ Strs w' (.slice a2 (addL n ps l).length c2) (addL n ps l) ∧ Below w.heap.size w w' := by
  obtain ⟨_, _, hlen, hrow⟩ := mayB_of hm
  rw [Int.toNat_natCast] at hlen
  have hrow2 := rowB_of hrow
  have hr2 := rowB_of hr
  have HX := Lib.hid (fun k (hk : k ≤ l.length) => addL_ok (l.take k) n ps hlen hrow2.2 (fun y hy => hr2.2 y (List.mem_of_mem_take hy)))
  have HR := Lib.hid (fun g w' (hb : Below w.heap.size w w') hl => wright_any g n v ps w' (by omega) (by omega) (hs.below hb) (fun x hx => by rw [hrow2.2 x hx]; decide) hl)
  have HL := Lib.hid (fun w' (hb : Below w.heap.size w w') => right_any w' lv l (hls.below hb) (fun x hx => by rw [hr2.2 x hx]; decide))
  have HAp := Lib.hid (fun g B w' (hb : Below w.heap.size w w') hl hB => wapart_any B g n v ps w' (hs.below hb) (by omega) hl hB)
  have HT := Lib.hid hT
  obtain ⟨ao, c, hv, _⟩ := hs
  subst hv
  obtain ⟨al, cl, hv, hc1, hc2, _, hcell⟩ := hls
  subst hv
  have hl4 := hr2.1
  have HX32 := Lib.hid hr2.2
  have hb1 := addW_below n (.slice ao ps.length c) w
  have hz := addW_zero n (.slice ao ps.length c) w
  have hl1 := addW_work n (.slice ao ps.length c) w
  rw [hm] at HR
  rw [hr] at HL
  have hi : ¬ (4096 : Int) < (n : Int) + (l.length : Int) := by omega
  clear hm hr hrow hrow2 hr2 hT hlen
  unfold maxLen at hc2
  unfold growA
  go_enter Tryd.func20, Tryd.ntmps20
  go_wp2_with (first | (go_at_call 31; refine (HR.out _ _ hb1 hl1).mono ?_; rintro e w1 ⟨rfl, hb2⟩; replace hz := hz.on hb2; replace hl1 := hl1.on hb2; replace hb1 := below_on hb1 hb2; have q0 := hl1.cell 0; simp only [growA, List.getElem?_toArray, List.getElem?_cons_zero] at q0) | (go_at_call 15; refine (HL.out _ hb1).mono ?_; rintro e w2 ⟨rfl, rfl⟩) | (go_at_call 32; refine (HAp.out _ (w.heap.size + 2) _ hb1 hl1 (Nat.le_refl _)).mono ?_; rintro e w3 ⟨rfl, ⟨v3, hl3, ho3⟩, hb3⟩; replace hz := hz.below hb3 (by omega); replace hb1 := hb1.trans (hb3.mono (by omega)); clear q0 hl1))
  have hl3' : Lies w3 (w.heap.size + 1 + 1) 53 (growA n v3) := hl3
  have ho3' : Own w3 (w.heap.size + 1 + 1) v3 ps := ho3
  clear hl3 ho3 hb2 hb3
  go_loopw [30] (fun i wr => ∃ (k : Nat) (v4 : Value), k ≤ l.length ∧ i = .int .i64 k ∧ Lies wr (w.heap.size + 1 + 1) 53 (growA ((n + k : Nat) : Int) v4) ∧ Hid (Own wr (w.heap.size + 1 + 1) v4 (addL n ps (l.take k))) ∧ Lies wr (w.heap.size + 1) 34 noA ∧ Below w.heap.size w wr) (fun i _ => l.length - (intOf i).toNat)
  case atStart => exact ⟨0, v3, Nat.zero_le _, rfl, hl3', Lib.hid ho3', hz, hb1⟩
  case round =>
    clear hl3' ho3' hz hb1
    obtain ⟨k, v4, hk, rfl, hlk, HO, hz, hb⟩ := hrel
    have hX := HX.out k hk
    rw [List.length_take, Nat.min_eq_left hk] at hX
    by_cases hlt : k < l.length
    · obtain ⟨b, off, rfl, hcl⟩ := hcell (by intro h; subst h; simp at hlt)
      obtain ⟨x, hxk⟩ : ∃ x, l[k]? = some x := ⟨l[k], List.getElem?_eq_getElem hlt⟩
      have hc4 := hcl k x hxk
      replace hc4 := (hb.cell (p := ⟨b, off + k, none⟩) (World.block_lt_of_cell? w _ hc4)).trans hc4
      unfold str at hc4
      have HK := Lib.hid (wtake_any (w.heap.size + 1 + 1) (w.heap.size + 1 + 1) (n + k) v4 (addL n ps (l.take k)) x wr hX.1 (by omega) hX.2 (HX32.out x (List.mem_of_getElem? hxk)) hlk HO.out (Nat.le_refl _) (HT.out.below hb))
      have HQ := Lib.hid (addL_next hxk n ps)
      unfold bytesOf at HK
      clear hX hxk hcl hcell
      go_wp2_with (go_at_call 33; refine HK.out.mono ?_; rintro e w5 ⟨rfl, ⟨v5, hl5, ho5⟩, hb5⟩)
      go_roundw
      case rel => exact ⟨k + 1, v5, by omega, by go_num, hl5, Lib.hid (by rw [HQ.out]; exact ho5), hz.below hb5 (by omega), hb.trans (hb5.mono (by omega))⟩
      case measure => simp [intOf]; omega
    · obtain rfl : k = l.length := by omega
      have hO := HO.out
      rw [List.take_length] at hO
      obtain ⟨a2, c2, rfl⟩ := hO.form
      have HS := Lib.hid (hO.only hz (by decide) ((Only.refl wr (w.heap.size + 1)).row (Or.inl rfl) (growA ((n + l.length : Nat) : Int) (.slice a2 (addL n ps l).length c2)))).strs
      clear hO hX HO hcell
      go_wp2_with (first | ((with_reducible refine wpL_load (w.heap.size + 1 + 1) 53 _ 2 rowGrow ?_ hlk ?_ ?_); rfl; rfl) | ((with_reducible refine wpL_store (w.heap.size + 1) 34 _ (growA ((n + l.length : Nat) : Int) (.slice a2 (addL n ps l).length c2)) 2 rowGrow ?_ ?_ ?_ hz ?_ ?_ ?_); rfl; rfl; exact growA_one _ _ _ _; rfl; rfl))
      exact bodyPost_ret (results_row_tmp Tryd.results20 rowGrow rfl (hz.row _) rfl rfl) rfl ⟨a2, c2, rfl, HS.out, below_rowSet hb (by omega) _⟩
end Go.Proofs.YtakmlmgffgoecaaDoor.R

