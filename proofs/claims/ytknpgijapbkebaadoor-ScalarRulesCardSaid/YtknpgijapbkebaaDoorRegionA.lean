/- A region that draws its order, whose head only reads and calls what only makes memory, with one variable made among it at whatever time, and a tail in the text's order: walked once. Nothing of the program is named here. -/
import Derived.Test.YtknpgijapbkebaaDoorRegion
import Derived.Laws.Rows
import Derived.Deep.MidRow
namespace Go.Proofs.YtknpgijapbkebaaDoor
open Go.Sort Go.RowKit

section
variable {P : Program} {ops : Array Oper} {md : Region.Mode} {w0 : World}

/-- one value, in whatever world has grown out of w0; a call makes only memory there -/
def Yb (P : Program) (w0 : World) (o : Oper) (v : Value) (a : Act) : Prop := o.guard = none ∧ ∀ w, Below w0.heap.size w0 w → o.quietAt P a (fun w'' => Below w.heap.size w w'') w v
def qB (P : Program) (w0 : World) (o : Oper) (K : Act → Prop) (a : Act) : Prop := ∃ v, Yb P w0 o v a ∧ K (a.put o.dst v)
/-- the head's walk, in the text's order -/
def wpQB (P : Program) (w0 : World) (Q : Act → Prop) : List Oper → Act → Prop
  | [], a => Q a
  | o :: rest, a => qB P w0 o (wpQB P w0 Q rest) a

theorem qB_mono {o : Oper} {a : Act} {K K' : Act → Prop} (h : ∀ a, K a → K' a) (hh : qB P w0 o K a) : qB P w0 o K' a :=
  let ⟨v, h1, h2⟩ := hh
  ⟨v, h1, h _ h2⟩
theorem wanted_plain {o : Oper} (h : o.guard = none) (y : Nat → Option Bool) : Region.wanted o y = true := by unfold Region.wanted; rw [h]

/-- whatever order the head is picked in, the variable made already but not handed on -/
def anyB (P : Program) (md : Region.Mode) (ops : Array Oper) (w0 : World) (n : Nat) (L : Array Bool → Act → Prop) : Nat → Array Bool → Act → Prop
  | 0, listed, a => L listed a
  | f + 1, listed, a => Region.ready md ops listed ≠ [] ∧ ∀ i ∈ Region.ready md ops listed, i < n ∧ ∃ o, ops[i]? = some o ∧ qB P w0 o (anyB P md ops w0 n L f (listed.setIfInBounds i true)) a
/-- .. and not yet made -/
def anyA (P : Program) (md : Region.Mode) (ops : Array Oper) (w0 : World) (n : Nat) (L : Array Bool → Act → Prop) : Nat → Array Bool → Act → Prop
  | 0, _, _ => False
  | f + 1, listed, a => Region.ready md ops listed ≠ [] ∧ ∀ i ∈ Region.ready md ops listed, (i = n ∧ anyB P md ops w0 n L f (listed.setIfInBounds n true) a) ∨
      (i < n ∧ ∃ o, ops[i]? = some o ∧ qB P w0 o (anyA P md ops w0 n L f (listed.setIfInBounds i true)) a)

theorem quietAt_mono {o : Oper} {a : Act} {C C' : World → Prop} {w : World} {v : Value} (h : ∀ w', C w' → C' w') (hh : o.quietAt P a C w v) : o.quietAt P a C' w v := by
  unfold Oper.quietAt at *
  generalize (execOp a.eval o).run P w = r at *
  cases r with
  | ok n w' =>
    cases n <;> simp only [Oper.quietUpon] at hh ⊢
    case value u => exact hh
    case skip => exact hh
    case enter f args => exact ⟨hh.1, hh.2.mono fun e w'' ⟨he, hc⟩ => ⟨he, h _ hc⟩⟩
  | halt x w' => simp only [Oper.quietUpon] at hh

/-- one operation of the head, run in a world of a class that growing does not leave -/
theorem wpOp_of_qB {i : Nat} {o : Oper} {a a2 : Act} {K : Act → Prop} {K' : Act → World → Prop} {Q' : Exit → Act → World → Prop} {C : World → Prop} {w : World} (hi : ops[i]? = some o)
    (hC0 : ∀ w, C w → Below w0.heap.size w0 w) (hC : ∀ w w', C w → Below w.heap.size w w' → C w') (hw : C w)
    (he : execOp a2.eval o = execOp a.eval o) (h : ∀ v w', C w' → K (a.put o.dst v) → K' (a2.put o.dst v) w') (hh : qB P w0 o K a) : wpOp P ops Q' i K' a2 w := by
  obtain ⟨v, ⟨hg, hv⟩, hk⟩ := hh
  unfold wpOp
  rw [hi]
  simp only [wanted_plain hg, if_true]
  left
  have h3 := hv w (hC0 w hw)
  unfold Oper.quietAt at h3
  unfold Oper.wp
  rw [he]
  generalize (execOp a.eval o).run P w = r at *
  cases r with
  | ok n w' =>
    cases n <;> simp only [Oper.quietUpon] at h3 <;> simp only [Oper.upon]
    case value u =>
      obtain ⟨e1, e2⟩ := h3
      rw [e1, e2]
      exact h _ _ hw hk
    case skip =>
      obtain ⟨e1, e2⟩ := h3
      rw [e1, ← e2]
      exact h _ _ hw hk
    case enter f args =>
      obtain ⟨e1, hc⟩ := h3
      rw [e1]
      exact hc.mono fun e w'' ⟨he, hw''⟩ => by subst he; exact h _ _ (hC w w'' hw hw'') hk
  | halt x w' => simp only [Oper.quietUpon] at h3

/-- behind the making -/
theorem wpAny_of_anyB {n g : Nat} {L : Array Bool → Act → Prop} {Q' : Exit → Act → World → Prop} {C : World → Prop} {d : Option Tmp} {u : Value} (hC0 : ∀ w, C w → Below w0.heap.size w0 w) (hC : ∀ w w', C w → Below w.heap.size w w' → C w')
    (hsel : ∀ (j : Nat) (o : Oper) cs b, ops[j]? = some o → o.op ≠ .select cs b)
    (hap : ∀ j o, j < n → ops[j]? = some o → (∀ x, d = some x → x ∉ o.looksAt ops) ∧ (∀ x, d = some x → o.dst ≠ some x))
    (hL : ∀ listed a w, C w → L listed a → wpAny P md ops Q' g listed (a.put d u) w) :
    ∀ (f : Nat) (listed : Array Bool) (a : Act) (w : World), C w → anyB P md ops w0 n L f listed a → wpAny P md ops Q' (f + g) listed (a.put d u) w
  | 0, listed, a, w, hw, h => by rw [Nat.zero_add]; exact hL _ _ _ hw h
  | f + 1, listed, a, w, hw, h => by
    rw [show f + 1 + g = (f + g) + 1 by omega]
    refine ⟨fun h0 => absurd h0 h.1, fun i hi => ?_⟩
    obtain ⟨hin, o, ho, hq⟩ := h.2 i hi
    obtain ⟨h1, h2⟩ := hap i o hin ho
    refine wpOp_of_qB ho hC0 hC hw (execOp_put o (fun cs b => hsel i o cs b ho) a d u h1) (fun v w' hw' hk => ?_) hq
    rw [Act.put_comm a u v h2]
    exact wpAny_of_anyB hC0 hC hsel hap hL f _ _ w' hw' hk

/-- ahead of it -/
theorem wpAny_of_anyA {n g : Nat} {L : Array Bool → Act → Prop} {Q' : Exit → Act → World → Prop} {oa : Oper} {t : TypeId} {z : Array Value} (hoa : ops[n]? = some oa) (hga : oa.guard = none)
    (hal : ∀ (a : Act) (w : World), (execOp a.eval oa).run P w = .ok (.value (.pointer (some ⟨w.heap.size, 0, none⟩))) (w.alloc (.cells z t)))
    (hsel : ∀ (j : Nat) (o : Oper) cs b, ops[j]? = some o → o.op ≠ .select cs b)
    (hap : ∀ j o, j < n → ops[j]? = some o → (∀ x, oa.dst = some x → x ∉ o.looksAt ops) ∧ (∀ x, oa.dst = some x → o.dst ≠ some x))
    (hL : ∀ k listed a w, Below w0.heap.size w0 w → w0.heap.size ≤ k → w.heap[k]? = some (.cells z t (0, 0)) → L listed a → wpAny P md ops Q' g listed (a.put oa.dst (.pointer (some ⟨k, 0, none⟩))) w) :
    ∀ (f : Nat) (listed : Array Bool) (a : Act) (w : World), Below w0.heap.size w0 w → anyA P md ops w0 n L f listed a → wpAny P md ops Q' (f + g) listed a w
  | 0, _, _, _, _, h => h.elim
  | f + 1, listed, a, w, hw, h => by
    rw [show f + 1 + g = (f + g) + 1 by omega]
    refine ⟨fun h0 => absurd h0 h.1, fun i hi => ?_⟩
    rcases h.2 i hi with ⟨rfl, hb⟩ | ⟨hin, o, ho, hq⟩
    · unfold wpOp
      rw [hoa]
      simp only [wanted_plain hga, if_true]
      left
      unfold Oper.wp
      rw [hal]
      simp only [Oper.upon]
      have hsz := hw.size
      refine wpAny_of_anyB (C := fun w' => Below w0.heap.size w0 w' ∧ w'.heap[w.heap.size]? = some (.cells z t (0, 0))) (fun _ h => h.1) (fun w1 w2 h1 h2 => ⟨h1.1.trans (h2.mono h1.1.size), ?_⟩) hsel hap
        (fun listed a w' hw' hl => hL _ _ _ _ hw'.1 hsz hw'.2 hl) f _ _ _ ⟨hw.alloc hsz _, heap_alloc_new w _⟩ hb
      have hlt : w.heap.size < w1.heap.size := by
        rcases Nat.lt_or_ge w.heap.size w1.heap.size with h | h
        · exact h
        · have := h1.2; rw [Array.getElem?_eq_none h] at this; cases this
      exact (h2.block _ hlt).trans h1.2
    · exact wpOp_of_qB (C := fun w' => Below w0.heap.size w0 w') ho (fun _ h => h) (fun _ _ h1 h2 => h1.trans (h2.mono h1.size)) hw rfl (fun v w' hw' hk => wpAny_of_anyA hoa hga hal hsel hap hL f _ _ w' hw' hk) hq

/-! ### from the text's order to any -/
theorem qB_put {oi oj : Oper} {v : Value} (hap : oi.apart ops oj = true)
    (hsi : ∀ cs b, oi.op ≠ .select cs b) (hsj : ∀ cs b, oj.op ≠ .select cs b) {K : Act → Prop} {a : Act}
    (hy : Yb P w0 oi v a) (h : qB P w0 oj K (a.put oi.dst v)) : qB P w0 oj (fun a' => Yb P w0 oi v a' ∧ K (a'.put oi.dst v)) a := by
  obtain ⟨h1, h2, h3⟩ := Oper.apart_spec hap
  obtain ⟨u, ⟨hg, hu⟩, hn⟩ := h
  refine ⟨u, ⟨hg, fun w hw => ?_⟩, ⟨hy.1, fun w hw => ?_⟩, by rw [← Act.put_comm a v u h2]; exact hn⟩
  · have := hu w hw
    unfold Oper.quietAt at *
    rwa [execOp_put oj hsj a oi.dst v h1] at this
  · have := hy.2 w hw
    unfold Oper.quietAt at *
    rwa [execOp_put oi hsi a oj.dst u h3]

theorem anyB_first {n i : Nat} {oi : Oper} {v : Value} {L : Array Bool → Act → Prop} (hi : ops[i]? = some oi) (hsel : ∀ (j : Nat) (o : Oper) cs b, ops[j]? = some o → o.op ≠ .select cs b)
    (hs : Region.sinkB md ops (n + 1) = true) (hc : Region.chainB md ops (n + 1) = true) (hn : n + 1 < ops.size) (hin : i < n)
    (hdone : ∀ listed a, L listed a → ∀ j ∈ Region.ready md ops listed, n + 1 ≤ j) :
    ∀ (f : Nat) (listed : Array Bool) (a : Act), HeadInv md ops (n + 1) listed → listed.getD n true = true →
      (∀ j oj, ops[j]? = some oj → j ≠ i → listed.getD j true = false → (∀ e ∈ oj.after, Region.binds md e = true → e.on ≠ i) → oi.apart ops oj = true) →
      i ∈ Region.ready md ops listed → Yb P w0 oi v a →
      anyB P md ops w0 n L f (listed.setIfInBounds i true) (a.put oi.dst v) → anyB P md ops w0 n L (f + 1) listed a := by
  intro f
  induction f with
  | zero =>
    intro listed a inv hln _ hr hy H
    have hun := (mem_ready.1 hr).1
    refine ⟨fun h => (by rw [h] at hr; cases hr), fun j hj => ?_⟩
    have hjn : j < n := by
      rcases Nat.lt_or_ge j (n + 1) with h | h
      · rcases Nat.lt_or_ge j n with h' | h'
        · exact h'
        · obtain rfl : j = n := by omega
          have := (mem_ready.1 hj).1
          rw [hln] at this
          cases this
      · exact absurd hj (tail_waits hs hc hn inv _ i rfl (by omega) hun j h)
    by_cases hji : j = i
    · subst hji; exact ⟨hjn, oi, hi, v, hy, H⟩
    · have := hdone _ _ H j (ready_mono hj hji)
      omega
  | succ f ih =>
    intro listed a inv hln hfree hr hy H
    have hun := (mem_ready.1 hr).1
    refine ⟨fun h => (by rw [h] at hr; cases hr), fun j hj => ?_⟩
    have hjn : j < n := by
      rcases Nat.lt_or_ge j (n + 1) with h | h
      · rcases Nat.lt_or_ge j n with h' | h'
        · exact h'
        · obtain rfl : j = n := by omega
          have := (mem_ready.1 hj).1
          rw [hln] at this
          cases this
      · exact absurd hj (tail_waits hs hc hn inv _ i rfl (by omega) hun j h)
    by_cases hji : j = i
    · subst hji; exact ⟨hjn, oi, hi, v, hy, H⟩
    · obtain ⟨_, oj', hoj', h1⟩ := H.2 j (ready_mono hj hji)
      obtain ⟨hjun, oj, hoj, hall⟩ := mem_ready.1 hj
      obtain rfl : oj' = oj := Option.some.inj (hoj'.symm.trans hoj)
      refine ⟨hjn, oj', hoj, ?_⟩
      have hnot : ∀ e ∈ oj'.after, Region.binds md e = true → e.on ≠ i := fun e he hb heq => by
        have h1 := hall e he hb
        rw [heq, getD_both hun] at h1
        cases h1
      have h2 := qB_put (hfree j oj' hoj hji hjun hnot) (fun cs b => hsel i oi cs b hi) (fun cs b => hsel j oj' cs b hoj) hy h1
      have hfree' : ∀ k ok, ops[k]? = some ok → k ≠ i → (listed.setIfInBounds j true).getD k true = false →
          (∀ e ∈ ok.after, Region.binds md e = true → e.on ≠ i) → oi.apart ops ok = true := fun k ok hk hki hun hno => by
        refine hfree k ok hk hki ?_ hno
        by_cases hjk : j = k
        · subst hjk; exact hjun
        · rw [getD_set_ne true hjk] at hun; exact hun
      refine qB_mono (fun a' h3 => ih (listed.setIfInBounds j true) a' (inv.set hj (by omega)) (by rw [getD_set_ne true (by omega)]; exact hln) hfree' (ready_mono hr (Ne.symm hji)) h3.1 ?_) h2
      rw [Array.setIfInBounds_comm _ _ hji]
      exact h3.2

/-- the head one behind the other, what stands at n passed over -/
def lexHeadA (md : Region.Mode) (ops : Array Oper) (n g : Nat) : Nat → Nat → Array Bool → Bool
  | 0, _, listed => Region.seqB md ops g (n + 1) listed
  | f + 1, k, listed => (Region.ready md ops listed).contains k && Region.free md ops listed k && lexHeadA md ops n g f (k + 1) (listed.setIfInBounds k true)

theorem anyB_lex {n g : Nat} {Lq : Act → Prop} (hsel : Region.noSelect ops = true) (hs : Region.sinkB md ops (n + 1) = true) (hc : Region.chainB md ops (n + 1) = true) (hn : n + 1 < ops.size) :
    ∀ (l : List Oper) (k : Nat) (listed : Array Bool) (a : Act), (∀ j, j < l.length → l[j]? = ops[k + j]?) → k + l.length = n → HeadInv md ops (n + 1) listed → listed.getD n true = true →
    lexHeadA md ops n g l.length k listed = true → wpQB P w0 Lq l a →
    anyB P md ops w0 n (fun listed' a' => Region.seqB md ops g (n + 1) listed' = true ∧ Lq a') l.length listed a
  | [], k, listed, a, _, _, _, _, hB, h => ⟨by simpa [lexHeadA] using hB, h⟩
  | o :: l, k, listed, a, hl, hk, inv, hln, hB, h => by
    have h0 : ops[k]? = some o := by simpa using (hl 0 (by simp)).symm
    simp only [List.length_cons, lexHeadA, Bool.and_eq_true] at hB
    obtain ⟨⟨hr, hf⟩, hB'⟩ := hB
    have hkn : k < n := by simp only [List.length_cons] at hk; omega
    have hr' : k ∈ Region.ready md ops listed := by simpa using hr
    obtain ⟨v, hy, hK⟩ := h
    exact anyB_first h0 (Region.noSelect_spec hsel) hs hc hn hkn (fun listed' a' hL => seqB_ready hL.1) l.length listed a inv hln (Region.free_spec h0 hf) hr' hy
      (anyB_lex hsel hs hc hn l (k + 1) _ _ (fun j hj => by have := hl (j + 1) (by simp; omega); simpa [Nat.add_assoc, Nat.add_comm 1 j] using this) (by simp only [List.length_cons] at hk; omega) (inv.set hr' (by omega)) (by rw [getD_set_ne true (by omega)]; exact hln) hB' hK)

/-- the making comes at whatever time -/
theorem anyA_of_anyB {n : Nat} {oa : Oper} {L : Array Bool → Act → Prop} (hoa : ops[n]? = some oa) (haf : ∀ e ∈ oa.after, Region.binds md e = true → False)
    (hs : Region.sinkB md ops (n + 1) = true) (hc : Region.chainB md ops (n + 1) = true) (hn : n + 1 < ops.size)
    (hdone : ∀ listed a, L listed a → ∀ j ∈ Region.ready md ops listed, n + 1 ≤ j) :
    ∀ (f : Nat) (listed : Array Bool) (a : Act), HeadInv md ops (n + 1) listed → listed.getD n true = false →
      anyB P md ops w0 n L f (listed.setIfInBounds n true) a → anyA P md ops w0 n L (f + 1) listed a := by
  intro f
  induction f with
  | zero =>
    intro listed a inv hun H
    have hr : n ∈ Region.ready md ops listed := mem_ready.2 ⟨hun, oa, hoa, fun e he hb => (haf e he hb).elim⟩
    refine ⟨fun h => (by rw [h] at hr; cases hr), fun j hj => ?_⟩
    by_cases hjn : j = n
    · exact .inl ⟨hjn, H⟩
    · have h1 := hdone _ _ H j (ready_mono hj hjn)
      exact absurd hj (tail_waits hs hc hn inv _ n rfl (by omega) hun j h1)
  | succ f ih =>
    intro listed a inv hun H
    have hr : n ∈ Region.ready md ops listed := mem_ready.2 ⟨hun, oa, hoa, fun e he hb => (haf e he hb).elim⟩
    refine ⟨fun h => (by rw [h] at hr; cases hr), fun j hj => ?_⟩
    by_cases hjn : j = n
    · exact .inl ⟨hjn, H⟩
    · obtain ⟨h1, o, ho, hq⟩ := H.2 j (ready_mono hj hjn)
      refine .inr ⟨h1, o, ho, qB_mono (fun a' h3 => ih (listed.setIfInBounds j true) a' (inv.set hj (by omega)) (by rw [getD_set_ne true hjn]; exact hun) ?_) hq⟩
      rw [Array.setIfInBounds_comm _ _ hjn]
      exact h3

/-- what the walk asks of the region, as a Bool: n is the place of the making -/
def lexAllocB (md : Region.Mode) (ops : Array Oper) (n : Nat) : Bool :=
  Region.noSelect ops && decide (n + 1 < ops.size) && Region.sinkB md ops (n + 1) && Region.chainB md ops (n + 1) && lexHeadA md ops n (ops.size - (n + 1)) n 0 ((Array.replicate ops.size false).setIfInBounds n true) &&
    (match ops[n]? with
     | some oa => oa.guard == none && oa.after.all (fun e => !Region.binds md e) && (List.range n).all (fun j => match ops[j]? with | some o => oa.apart ops o | none => true)
     | none => false)

theorem wp_region_made {id : Nat} {Q : Exit → Act → World → Prop} {a : Act} {w : World} {l : List Oper} (n : Nat) (d : Tmp) (oa : Oper) (t : TypeId) (z : Array Value) (hoa : l.toArray[n]? = some oa) (hd : oa.dst = some d) (hm : P.follows .mixedOrders = true) (hB : lexAllocB .any l.toArray n = true)
    (hal : ∀ (a : Act) (w : World), (execOp a.eval oa).run P w = .ok (.value (.pointer (some ⟨w.heap.size, 0, none⟩))) (w.alloc (.cells z t)))
    (h : wpQB P w (fun a' => ∀ k w', Below w.heap.size w w' → w.heap.size ≤ k → w'.heap[k]? = some (.cells z t (0, 0)) → wpList P l.toArray Q (l.drop (n + 1)) (a'.put (some d) (.pointer (some ⟨k, 0, none⟩))) w') (l.take n) a) :
    (Code.region id l.toArray true).wp P Q a w := by
  rw [← hd] at h
  simp only [lexAllocB, Bool.and_eq_true, decide_eq_true_eq, hoa] at hB
  obtain ⟨⟨⟨⟨⟨hsel, hn⟩, hs⟩, hc⟩, hlex⟩, ⟨hg, haf⟩, hap⟩ := hB
  have hg' : oa.guard = none := by simpa using hg
  have haf' : ∀ e ∈ oa.after, Region.binds .any e = true → False := fun e he hb => by
    have := Array.all_eq_true_iff_forall_mem.1 haf e he
    simp [hb] at this
  have hap' : ∀ j o, j < n → l.toArray[j]? = some o → (∀ x, oa.dst = some x → x ∉ o.looksAt l.toArray) ∧ (∀ x, oa.dst = some x → o.dst ≠ some x) := fun j o hj ho => by
    have h1 := List.all_eq_true.1 hap j (List.mem_range.2 hj)
    rw [ho] at h1
    obtain ⟨h2, h3, _⟩ := Oper.apart_spec h1
    exact ⟨h2, h3⟩
  have hn' : n + 1 < l.length := by simpa using hn
  have htl : (l.take n).length = n := by simp; omega
  have hdl : (l.drop (n + 1)).length = l.toArray.size - (n + 1) := by simp
  have inv0 : HeadInv .any l.toArray (n + 1) (Array.replicate l.toArray.size false) :=
    ⟨by simp, fun j oj _ hl => (by rw [getD_replicate_false] at hl; cases hl), fun t _ ht => getD_in (by simpa using ht) (getD_replicate_false _ _)⟩
  have hun : (Array.replicate l.toArray.size false).getD n true = false := getD_in (by simp; omega) (getD_replicate_false _ _)
  have hr : n ∈ Region.ready .any l.toArray (Array.replicate l.toArray.size false) := mem_ready.2 ⟨hun, oa, hoa, fun e he hb => (haf' e he hb).elim⟩
  have hln : ((Array.replicate l.toArray.size false).setIfInBounds n true).getD n true = true := by
    simp [Array.getElem?_setIfInBounds_self]
    split <;> rfl
  have H := anyA_of_anyB (md := .any) (w0 := w) hoa haf' hs hc hn (fun listed a hL => seqB_ready hL.1) (l.take n).length (Array.replicate l.toArray.size false) a inv0 hun
    (anyB_lex (g := l.toArray.size - (n + 1)) hsel hs hc hn (l.take n) 0 _ a (fun j hj => by
      have hj' : j < n := by rw [htl] at hj; exact hj
      simp [hj']) (by simpa using htl) (inv0.set hr (by omega)) hln (by rw [htl]; exact hlex) h)
  refine wp_region_any hm ?_
  have := wpAny_of_anyA (Q' := Q) (g := l.toArray.size - (n + 1)) hoa hg' hal (Region.noSelect_spec hsel) hap' (fun k listed a' w' hw' hk hz hL => by
    have := wpAny_of_seq (md := .any) (Q' := Q) (l.drop (n + 1)) (n + 1) listed (a'.put oa.dst (.pointer (some ⟨k, 0, none⟩))) w' (fun j => by simp [List.getElem?_drop]) (by rw [hdl]; exact hL.1) (hL.2 k w' hw' hk hz)
    rwa [hdl] at this) _ _ _ { w with drawn := w.drawn + 1 } (Below.refl w.heap.size w).drew H
  rw [htl, show n + 1 + (l.toArray.size - (n + 1)) = l.toArray.size by omega] at this
  exact this

theorem wpQuiet_of_qb {C : World → Prop} (hC0 : ∀ w, C w → Below w0.heap.size w0 w) (hC : ∀ w w', C w → Below w.heap.size w w' → C w') {Q : Act → Prop} : ∀ (l : List Oper) (a : Act), wpQB P w0 Q l a → wpQuiet P ops C Q l a
  | [], _, h => h
  | o :: l, a, ⟨v, ⟨hg, hv⟩, hk⟩ => by
    unfold wpQuiet
    rw [if_pos (wanted_plain hg _)]
    exact ⟨v, fun w hw => quietAt_mono (fun w' h => hC w w' hw h) (hv w (hC0 w hw)), wpQuiet_of_qb hC0 hC l _ hk⟩
/-- the same, with nothing made in it -/
theorem wp_region_plain {id : Nat} {Q : Exit → Act → World → Prop} {a : Act} {w : World} {l : List Oper} (n : Nat) (hm : P.follows .mixedOrders = true) (hB : Region.lexTailB .any l.toArray n = true)
    (h : wpQB P w (fun a' => ∀ w', Below w.heap.size w w' → wpList P l.toArray Q (l.drop n) a' w') (l.take n) a) : (Code.region id l.toArray true).wp P Q a w :=
  wp_region_quiet_tail (C := fun w' => Below w.heap.size w w') n hm hB (Below.refl w.heap.size w).drew (wpQuiet_of_qb (fun _ h => h) (fun _ _ h1 h2 => h1.trans (h2.mono h1.size)) _ _ h)

/-- .. nothing written at all -/
theorem wp_region_all {id : Nat} {Q : Exit → Act → World → Prop} {a : Act} {w : World} {l : List Oper} (hm : P.follows .mixedOrders = true) (hB : Region.lexB .any l.toArray = true)
    (h : wpQB P w (fun a' => ∀ w', Below w.heap.size w w' → Q .normal a' w') l a) : (Code.region id l.toArray true).wp P Q a w :=
  wp_region_quiet (C := fun w' => Below w.heap.size w w') hm hB (Below.refl w.heap.size w).drew (wpQuiet_of_qb (fun _ h => h) (fun _ _ h1 h2 => h1.trans (h2.mono h1.size)) _ _ h)

/-! ### the head's steps -/
section
variable {Q : Act → Prop} {a : Act} {rest : List Oper} {t' : TypeId} {pos : String} {after : Array Edge}
theorem wpQB_nil (h : Q a) : wpQB P w0 Q [] a := h
theorem wpQB_run {o : Oper} (v : Value) (hg : o.guard = none) (hr : ∀ w, Below w0.heap.size w0 w → (execOp a.eval o).run P w = .ok (.value v) w) (h : wpQB P w0 Q rest (a.put o.dst v)) : wpQB P w0 Q (o :: rest) a :=
  ⟨v, ⟨hg, fun w hw => by unfold Oper.quietAt; rw [hr w hw]; exact ⟨rfl, rfl⟩⟩, h⟩
theorem wpQB_move {d : Option Tmp} {x : Operand} (h : wpQB P w0 Q rest (a.put d (a.eval x))) : wpQB P w0 Q (⟨d, .move x, t', pos, after, none⟩ :: rest) a :=
  wpQB_run _ rfl (fun _ _ => rfl) h
theorem wpQB_load {d : Option Tmp} {x : Operand} {ty : TypeId} (g : Nat) (t : TypeId) (cs : Array Value) (ds : TypeDesc) (hu : P.underlying ty = some ds) (hd : (match ds with | .struct _ | .array _ _ => true | _ => false) = true) (hi : (P.info? ty).map (·.size) = some cs.size)
    (hg : w0.heap[g]? = some (.cells cs t (0, 0))) (hx : a.eval x = .pointer (some ⟨g, 0, none⟩)) (h : wpQB P w0 Q rest (a.put d (.agg cs))) : wpQB P w0 Q (⟨d, .load ty x, t', pos, after, none⟩ :: rest) a :=
  wpQB_run _ rfl (fun w hw => by
    have hlt : g < w0.heap.size := by
      rcases Nat.lt_or_ge g w0.heap.size with h | h
      · exact h
      · rw [Array.getElem?_eq_none h] at hg; cases hg
    have hg' := (hw.block g hlt).trans hg
    unfold execOp
    simp only [hx, Instr.loadAt, Instr.sureAddr, Sem.run_bind, Sem.run_pure, Result.andThen_ok, run_loadVar_row w g t ty cs (0, 0) ds hg' hu hd hi]) h
theorem wpQB_call {d : Option Tmp} {o : Oper} (f : FuncId) (args : Array Value) (v : Value) (hd : o.dst = d) (hg : o.guard = none) (hr : ∀ w, (execOp a.eval o).run P w = .ok (.enter f args) w)
    (hc : ∀ w, Below w0.heap.size w0 w → Calls P f args w fun e w' => e = .returned v ∧ Below w.heap.size w w') (h : wpQB P w0 Q rest (a.put d v)) : wpQB P w0 Q (o :: rest) a := by
  subst hd
  exact ⟨v, ⟨hg, fun w hw => by unfold Oper.quietAt; rw [hr w]; exact ⟨rfl, hc w hw⟩⟩, h⟩
end
end
end Go.Proofs.YtknpgijapbkebaaDoor
