/- Texts that stand on one another, put together: RegionA, FSquared, FOnes, FInv, FSqrt, CPt, CTab, CQuiet, COk, Late, HSc, FRefPow. -/
import Derived.Test.YtmekmlgpkbfjpaaGreatDoorK4
import Derived.Deep.MidRow
import Derived.Laws.Rows
/- A region that draws its order, whose head only reads and calls what only makes memory, with one variable made among it at whatever time, and a tail in the text's order: walked once. Nothing of the program is named here. -/
namespace Go.Proofs.YtmekmlgpkbfjpaaGreatDoor
open Go.Sort Go.RowKit

section
variable {P : Program} {ops : Array Oper} {md : Region.Mode} {w0 : World}

/-- one value, in whatever world has grown out of w0; a call makes only memory there -/
def Yb (P : Program) (w0 : World) (o : Oper) (v : Value) (a : Act) : Prop := o.guard = none ∧ ∀ w, Below w0.heap.size w0 w → o.quietAt P a (fun w'' => Below w.heap.size w w'') w v
def qB (P : Program) (w0 : World) (o : Oper) (K : Act → Prop) (a : Act) : Prop := ∃ v, Yb P w0 o v a ∧ K (a.put o.dst v)
/-- the head's walk, in the text's order -/
def wpQB (P : Program) (w0 : World) (Q : Act → Prop) : List Oper → Act → Prop
  | [], a => Q a
  | o :: rest, a => qB P w0 o (wpQB P w0 Q rest) a

theorem qB_mono {o : Oper} {a : Act} {K K' : Act → Prop} (h : ∀ a, K a → K' a) (hh : qB P w0 o K a) : qB P w0 o K' a :=
  let ⟨v, h1, h2⟩ := hh
  ⟨v, h1, h _ h2⟩
theorem wanted_plain {o : Oper} (h : o.guard = none) (y : Nat → Option Bool) : Region.wanted o y = true := by unfold Region.wanted; rw [h]

/-- whatever order the head is picked in, the variable made already but not handed on -/
def anyB (P : Program) (md : Region.Mode) (ops : Array Oper) (w0 : World) (n : Nat) (L : Array Bool → Act → Prop) : Nat → Array Bool → Act → Prop
  | 0, listed, a => L listed a
  | f + 1, listed, a => Region.ready md ops listed ≠ [] ∧ ∀ i ∈ Region.ready md ops listed, i < n ∧ ∃ o, ops[i]? = some o ∧ qB P w0 o (anyB P md ops w0 n L f (listed.setIfInBounds i true)) a
/-- .. and not yet made -/
def anyA (P : Program) (md : Region.Mode) (ops : Array Oper) (w0 : World) (n : Nat) (L : Array Bool → Act → Prop) : Nat → Array Bool → Act → Prop
  | 0, _, _ => False
  | f + 1, listed, a => Region.ready md ops listed ≠ [] ∧ ∀ i ∈ Region.ready md ops listed, (i = n ∧ anyB P md ops w0 n L f (listed.setIfInBounds n true) a) ∨
      (i < n ∧ ∃ o, ops[i]? = some o ∧ qB P w0 o (anyA P md ops w0 n L f (listed.setIfInBounds i true)) a)

theorem quietAt_mono {o : Oper} {a : Act} {C C' : World → Prop} {w : World} {v : Value} (h : ∀ w', C w' → C' w') (hh : o.quietAt P a C w v) : o.quietAt P a C' w v := by
  unfold Oper.quietAt at *
  generalize (execOp a.eval o).run P w = r at *
  cases r with
  | ok n w' =>
    cases n <;> simp only [Oper.quietUpon] at hh ⊢
    case value u => exact hh
    case skip => exact hh
    case enter f args => exact ⟨hh.1, hh.2.mono fun e w'' ⟨he, hc⟩ => ⟨he, h _ hc⟩⟩
  | halt x w' => simp only [Oper.quietUpon] at hh

/-- one operation of the head, run in a world of a class that growing does not leave -/
theorem wpOp_of_qB {i : Nat} {o : Oper} {a a2 : Act} {K : Act → Prop} {K' : Act → World → Prop} {Q' : Exit → Act → World → Prop} {C : World → Prop} {w : World} (hi : ops[i]? = some o)
    (hC0 : ∀ w, C w → Below w0.heap.size w0 w) (hC : ∀ w w', C w → Below w.heap.size w w' → C w') (hw : C w)
    (he : execOp a2.eval o = execOp a.eval o) (h : ∀ v w', C w' → K (a.put o.dst v) → K' (a2.put o.dst v) w') (hh : qB P w0 o K a) : wpOp P ops Q' i K' a2 w := by
  obtain ⟨v, ⟨hg, hv⟩, hk⟩ := hh
  unfold wpOp
  rw [hi]
  simp only [wanted_plain hg, if_true]
  left
  have h3 := hv w (hC0 w hw)
  unfold Oper.quietAt at h3
  unfold Oper.wp
  rw [he]
  generalize (execOp a.eval o).run P w = r at *
  cases r with
  | ok n w' =>
    cases n <;> simp only [Oper.quietUpon] at h3 <;> simp only [Oper.upon]
    case value u =>
      obtain ⟨e1, e2⟩ := h3
      rw [e1, e2]
      exact h _ _ hw hk
    case skip =>
      obtain ⟨e1, e2⟩ := h3
      rw [e1, ← e2]
      exact h _ _ hw hk
    case enter f args =>
      obtain ⟨e1, hc⟩ := h3
      rw [e1]
      exact hc.mono fun e w'' ⟨he, hw''⟩ => by subst he; exact h _ _ (hC w w'' hw hw'') hk
  | halt x w' => simp only [Oper.quietUpon] at h3

/-- behind the making -/
theorem wpAny_of_anyB {n g : Nat} {L : Array Bool → Act → Prop} {Q' : Exit → Act → World → Prop} {C : World → Prop} {d : Option Tmp} {u : Value} (hC0 : ∀ w, C w → Below w0.heap.size w0 w) (hC : ∀ w w', C w → Below w.heap.size w w' → C w')
    (hsel : ∀ (j : Nat) (o : Oper) cs b, ops[j]? = some o → o.op ≠ .select cs b)
    (hap : ∀ j o, j < n → ops[j]? = some o → (∀ x, d = some x → x ∉ o.looksAt ops) ∧ (∀ x, d = some x → o.dst ≠ some x))
    (hL : ∀ listed a w, C w → L listed a → wpAny P md ops Q' g listed (a.put d u) w) :
    ∀ (f : Nat) (listed : Array Bool) (a : Act) (w : World), C w → anyB P md ops w0 n L f listed a → wpAny P md ops Q' (f + g) listed (a.put d u) w
  | 0, listed, a, w, hw, h => by rw [Nat.zero_add]; exact hL _ _ _ hw h
  | f + 1, listed, a, w, hw, h => by
    rw [show f + 1 + g = (f + g) + 1 by omega]
    refine ⟨fun h0 => absurd h0 h.1, fun i hi => ?_⟩
    obtain ⟨hin, o, ho, hq⟩ := h.2 i hi
    obtain ⟨h1, h2⟩ := hap i o hin ho
    refine wpOp_of_qB ho hC0 hC hw (execOp_put o (fun cs b => hsel i o cs b ho) a d u h1) (fun v w' hw' hk => ?_) hq
    rw [Act.put_comm a u v h2]
    exact wpAny_of_anyB hC0 hC hsel hap hL f _ _ w' hw' hk

/-- ahead of it -/
theorem wpAny_of_anyA {n g : Nat} {L : Array Bool → Act → Prop} {Q' : Exit → Act → World → Prop} {oa : Oper} {t : TypeId} {z : Array Value} (hoa : ops[n]? = some oa) (hga : oa.guard = none)
    (hal : ∀ (a : Act) (w : World), (execOp a.eval oa).run P w = .ok (.value (.pointer (some ⟨w.heap.size, 0, none⟩))) (w.alloc (.cells z t)))
    (hsel : ∀ (j : Nat) (o : Oper) cs b, ops[j]? = some o → o.op ≠ .select cs b)
    (hap : ∀ j o, j < n → ops[j]? = some o → (∀ x, oa.dst = some x → x ∉ o.looksAt ops) ∧ (∀ x, oa.dst = some x → o.dst ≠ some x))
    (hL : ∀ k listed a w, Below w0.heap.size w0 w → w0.heap.size ≤ k → w.heap[k]? = some (.cells z t (0, 0)) → L listed a → wpAny P md ops Q' g listed (a.put oa.dst (.pointer (some ⟨k, 0, none⟩))) w) :
    ∀ (f : Nat) (listed : Array Bool) (a : Act) (w : World), Below w0.heap.size w0 w → anyA P md ops w0 n L f listed a → wpAny P md ops Q' (f + g) listed a w
  | 0, _, _, _, _, h => h.elim
  | f + 1, listed, a, w, hw, h => by
    rw [show f + 1 + g = (f + g) + 1 by omega]
    refine ⟨fun h0 => absurd h0 h.1, fun i hi => ?_⟩
    rcases h.2 i hi with ⟨rfl, hb⟩ | ⟨hin, o, ho, hq⟩
    · unfold wpOp
      rw [hoa]
      simp only [wanted_plain hga, if_true]
      left
      unfold Oper.wp
      rw [hal]
      simp only [Oper.upon]
      have hsz := hw.size
      refine wpAny_of_anyB (C := fun w' => Below w0.heap.size w0 w' ∧ w'.heap[w.heap.size]? = some (.cells z t (0, 0))) (fun _ h => h.1) (fun w1 w2 h1 h2 => ⟨h1.1.trans (h2.mono h1.1.size), ?_⟩) hsel hap
        (fun listed a w' hw' hl => hL _ _ _ _ hw'.1 hsz hw'.2 hl) f _ _ _ ⟨hw.alloc hsz _, heap_alloc_new w _⟩ hb
      have hlt : w.heap.size < w1.heap.size := by
        rcases Nat.lt_or_ge w.heap.size w1.heap.size with h | h
        · exact h
        · have := h1.2; rw [Array.getElem?_eq_none h] at this; cases this
      exact (h2.block _ hlt).trans h1.2
    · exact wpOp_of_qB (C := fun w' => Below w0.heap.size w0 w') ho (fun _ h => h) (fun _ _ h1 h2 => h1.trans (h2.mono h1.size)) hw rfl (fun v w' hw' hk => wpAny_of_anyA hoa hga hal hsel hap hL f _ _ w' hw' hk) hq

/-! ### from the text's order to any -/
theorem qB_put {oi oj : Oper} {v : Value} (hap : oi.apart ops oj = true)
    (hsi : ∀ cs b, oi.op ≠ .select cs b) (hsj : ∀ cs b, oj.op ≠ .select cs b) {K : Act → Prop} {a : Act}
    (hy : Yb P w0 oi v a) (h : qB P w0 oj K (a.put oi.dst v)) : qB P w0 oj (fun a' => Yb P w0 oi v a' ∧ K (a'.put oi.dst v)) a := by
  obtain ⟨h1, h2, h3⟩ := Oper.apart_spec hap
  obtain ⟨u, ⟨hg, hu⟩, hn⟩ := h
  refine ⟨u, ⟨hg, fun w hw => ?_⟩, ⟨hy.1, fun w hw => ?_⟩, by rw [← Act.put_comm a v u h2]; exact hn⟩
  · have := hu w hw
    unfold Oper.quietAt at *
    rwa [execOp_put oj hsj a oi.dst v h1] at this
  · have := hy.2 w hw
    unfold Oper.quietAt at *
    rwa [execOp_put oi hsi a oj.dst u h3]

theorem anyB_first {n i : Nat} {oi : Oper} {v : Value} {L : Array Bool → Act → Prop} (hi : ops[i]? = some oi) (hsel : ∀ (j : Nat) (o : Oper) cs b, ops[j]? = some o → o.op ≠ .select cs b)
    (hs : Region.sinkB md ops (n + 1) = true) (hc : Region.chainB md ops (n + 1) = true) (hn : n + 1 < ops.size) (hin : i < n)
    (hdone : ∀ listed a, L listed a → ∀ j ∈ Region.ready md ops listed, n + 1 ≤ j) :
    ∀ (f : Nat) (listed : Array Bool) (a : Act), HeadInv md ops (n + 1) listed → listed.getD n true = true →
      (∀ j oj, ops[j]? = some oj → j ≠ i → listed.getD j true = false → (∀ e ∈ oj.after, Region.binds md e = true → e.on ≠ i) → oi.apart ops oj = true) →
      i ∈ Region.ready md ops listed → Yb P w0 oi v a →
      anyB P md ops w0 n L f (listed.setIfInBounds i true) (a.put oi.dst v) → anyB P md ops w0 n L (f + 1) listed a := by
  intro f
  induction f with
  | zero =>
    intro listed a inv hln _ hr hy H
    have hun := (mem_ready.1 hr).1
    refine ⟨fun h => (by rw [h] at hr; cases hr), fun j hj => ?_⟩
    have hjn : j < n := by
      rcases Nat.lt_or_ge j (n + 1) with h | h
      · rcases Nat.lt_or_ge j n with h' | h'
        · exact h'
        · obtain rfl : j = n := by omega
          have := (mem_ready.1 hj).1
          rw [hln] at this
          cases this
      · exact absurd hj (tail_waits hs hc hn inv _ i rfl (by omega) hun j h)
    by_cases hji : j = i
    · subst hji; exact ⟨hjn, oi, hi, v, hy, H⟩
    · have := hdone _ _ H j (ready_mono hj hji)
      omega
  | succ f ih =>
    intro listed a inv hln hfree hr hy H
    have hun := (mem_ready.1 hr).1
    refine ⟨fun h => (by rw [h] at hr; cases hr), fun j hj => ?_⟩
    have hjn : j < n := by
      rcases Nat.lt_or_ge j (n + 1) with h | h
      · rcases Nat.lt_or_ge j n with h' | h'
        · exact h'
        · obtain rfl : j = n := by omega
          have := (mem_ready.1 hj).1
          rw [hln] at this
          cases this
      · exact absurd hj (tail_waits hs hc hn inv _ i rfl (by omega) hun j h)
    by_cases hji : j = i
    · subst hji; exact ⟨hjn, oi, hi, v, hy, H⟩
    · obtain ⟨_, oj', hoj', h1⟩ := H.2 j (ready_mono hj hji)
      obtain ⟨hjun, oj, hoj, hall⟩ := mem_ready.1 hj
      obtain rfl : oj' = oj := Option.some.inj (hoj'.symm.trans hoj)
      refine ⟨hjn, oj', hoj, ?_⟩
      have hnot : ∀ e ∈ oj'.after, Region.binds md e = true → e.on ≠ i := fun e he hb heq => by
        have h1 := hall e he hb
        rw [heq, getD_both hun] at h1
        cases h1
      have h2 := qB_put (hfree j oj' hoj hji hjun hnot) (fun cs b => hsel i oi cs b hi) (fun cs b => hsel j oj' cs b hoj) hy h1
      have hfree' : ∀ k ok, ops[k]? = some ok → k ≠ i → (listed.setIfInBounds j true).getD k true = false →
          (∀ e ∈ ok.after, Region.binds md e = true → e.on ≠ i) → oi.apart ops ok = true := fun k ok hk hki hun hno => by
        refine hfree k ok hk hki ?_ hno
        by_cases hjk : j = k
        · subst hjk; exact hjun
        · rw [getD_set_ne true hjk] at hun; exact hun
      refine qB_mono (fun a' h3 => ih (listed.setIfInBounds j true) a' (inv.set hj (by omega)) (by rw [getD_set_ne true (by omega)]; exact hln) hfree' (ready_mono hr (Ne.symm hji)) h3.1 ?_) h2
      rw [Array.setIfInBounds_comm _ _ hji]
      exact h3.2

/-- the head one behind the other, what stands at n passed over -/
def lexHeadA (md : Region.Mode) (ops : Array Oper) (n g : Nat) : Nat → Nat → Array Bool → Bool
  | 0, _, listed => Region.seqB md ops g (n + 1) listed
  | f + 1, k, listed => (Region.ready md ops listed).contains k && Region.free md ops listed k && lexHeadA md ops n g f (k + 1) (listed.setIfInBounds k true)

theorem anyB_lex {n g : Nat} {Lq : Act → Prop} (hsel : Region.noSelect ops = true) (hs : Region.sinkB md ops (n + 1) = true) (hc : Region.chainB md ops (n + 1) = true) (hn : n + 1 < ops.size) :
    ∀ (l : List Oper) (k : Nat) (listed : Array Bool) (a : Act), (∀ j, j < l.length → l[j]? = ops[k + j]?) → k + l.length = n → HeadInv md ops (n + 1) listed → listed.getD n true = true →
    lexHeadA md ops n g l.length k listed = true → wpQB P w0 Lq l a →
    anyB P md ops w0 n (fun listed' a' => Region.seqB md ops g (n + 1) listed' = true ∧ Lq a') l.length listed a
  | [], k, listed, a, _, _, _, _, hB, h => ⟨by simpa [lexHeadA] using hB, h⟩
  | o :: l, k, listed, a, hl, hk, inv, hln, hB, h => by
    have h0 : ops[k]? = some o := by simpa using (hl 0 (by simp)).symm
    simp only [List.length_cons, lexHeadA, Bool.and_eq_true] at hB
    obtain ⟨⟨hr, hf⟩, hB'⟩ := hB
    have hkn : k < n := by simp only [List.length_cons] at hk; omega
    have hr' : k ∈ Region.ready md ops listed := by simpa using hr
    obtain ⟨v, hy, hK⟩ := h
    exact anyB_first h0 (Region.noSelect_spec hsel) hs hc hn hkn (fun listed' a' hL => seqB_ready hL.1) l.length listed a inv hln (Region.free_spec h0 hf) hr' hy
      (anyB_lex hsel hs hc hn l (k + 1) _ _ (fun j hj => by have := hl (j + 1) (by simp; omega); simpa [Nat.add_assoc, Nat.add_comm 1 j] using this) (by simp only [List.length_cons] at hk; omega) (inv.set hr' (by omega)) (by rw [getD_set_ne true (by omega)]; exact hln) hB' hK)

/-- the making comes at whatever time -/
theorem anyA_of_anyB {n : Nat} {oa : Oper} {L : Array Bool → Act → Prop} (hoa : ops[n]? = some oa) (haf : ∀ e ∈ oa.after, Region.binds md e = true → False)
    (hs : Region.sinkB md ops (n + 1) = true) (hc : Region.chainB md ops (n + 1) = true) (hn : n + 1 < ops.size)
    (hdone : ∀ listed a, L listed a → ∀ j ∈ Region.ready md ops listed, n + 1 ≤ j) :
    ∀ (f : Nat) (listed : Array Bool) (a : Act), HeadInv md ops (n + 1) listed → listed.getD n true = false →
      anyB P md ops w0 n L f (listed.setIfInBounds n true) a → anyA P md ops w0 n L (f + 1) listed a := by
  intro f
  induction f with
  | zero =>
    intro listed a inv hun H
    have hr : n ∈ Region.ready md ops listed := mem_ready.2 ⟨hun, oa, hoa, fun e he hb => (haf e he hb).elim⟩
    refine ⟨fun h => (by rw [h] at hr; cases hr), fun j hj => ?_⟩
    by_cases hjn : j = n
    · exact .inl ⟨hjn, H⟩
    · have h1 := hdone _ _ H j (ready_mono hj hjn)
      exact absurd hj (tail_waits hs hc hn inv _ n rfl (by omega) hun j h1)
  | succ f ih =>
    intro listed a inv hun H
    have hr : n ∈ Region.ready md ops listed := mem_ready.2 ⟨hun, oa, hoa, fun e he hb => (haf e he hb).elim⟩
    refine ⟨fun h => (by rw [h] at hr; cases hr), fun j hj => ?_⟩
    by_cases hjn : j = n
    · exact .inl ⟨hjn, H⟩
    · obtain ⟨h1, o, ho, hq⟩ := H.2 j (ready_mono hj hjn)
      refine .inr ⟨h1, o, ho, qB_mono (fun a' h3 => ih (listed.setIfInBounds j true) a' (inv.set hj (by omega)) (by rw [getD_set_ne true hjn]; exact hun) ?_) hq⟩
      rw [Array.setIfInBounds_comm _ _ hjn]
      exact h3

/-- what the walk asks of the region, as a Bool: n is the place of the making -/
def lexAllocB (md : Region.Mode) (ops : Array Oper) (n : Nat) : Bool :=
  Region.noSelect ops && decide (n + 1 < ops.size) && Region.sinkB md ops (n + 1) && Region.chainB md ops (n + 1) && lexHeadA md ops n (ops.size - (n + 1)) n 0 ((Array.replicate ops.size false).setIfInBounds n true) &&
    (match ops[n]? with
     | some oa => oa.guard == none && oa.after.all (fun e => !Region.binds md e) && (List.range n).all (fun j => match ops[j]? with | some o => oa.apart ops o | none => true)
     | none => false)

theorem any_made {Q : Exit → Act → World → Prop} {a : Act} {w : World} {l : List Oper} (n : Nat) (d : Tmp) (oa : Oper) (t : TypeId) (z : Array Value) (hoa : l.toArray[n]? = some oa) (hd : oa.dst = some d) (hB : lexAllocB .any l.toArray n = true)
    (hal : ∀ (a : Act) (w : World), (execOp a.eval oa).run P w = .ok (.value (.pointer (some ⟨w.heap.size, 0, none⟩))) (w.alloc (.cells z t)))
    (h : wpQB P w (fun a' => ∀ k w', Below w.heap.size w w' → w.heap.size ≤ k → w'.heap[k]? = some (.cells z t (0, 0)) → wpList P l.toArray Q (l.drop (n + 1)) (a'.put (some d) (.pointer (some ⟨k, 0, none⟩))) w') (l.take n) a) :
    wpAny P .any l.toArray Q l.toArray.size (Array.replicate l.toArray.size false) a { w with drawn := w.drawn + 1 } := by
  rw [← hd] at h
  simp only [lexAllocB, Bool.and_eq_true, decide_eq_true_eq, hoa] at hB
  obtain ⟨⟨⟨⟨⟨hsel, hn⟩, hs⟩, hc⟩, hlex⟩, ⟨hg, haf⟩, hap⟩ := hB
  have hg' : oa.guard = none := by simpa using hg
  have haf' : ∀ e ∈ oa.after, Region.binds .any e = true → False := fun e he hb => by
    have := Array.all_eq_true_iff_forall_mem.1 haf e he
    simp [hb] at this
  have hap' : ∀ j o, j < n → l.toArray[j]? = some o → (∀ x, oa.dst = some x → x ∉ o.looksAt l.toArray) ∧ (∀ x, oa.dst = some x → o.dst ≠ some x) := fun j o hj ho => by
    have h1 := List.all_eq_true.1 hap j (List.mem_range.2 hj)
    rw [ho] at h1
    obtain ⟨h2, h3, _⟩ := Oper.apart_spec h1
    exact ⟨h2, h3⟩
  have hn' : n + 1 < l.length := by simpa using hn
  have htl : (l.take n).length = n := by simp; omega
  have hdl : (l.drop (n + 1)).length = l.toArray.size - (n + 1) := by simp
  have inv0 : HeadInv .any l.toArray (n + 1) (Array.replicate l.toArray.size false) :=
    ⟨by simp, fun j oj _ hl => (by rw [getD_replicate_false] at hl; cases hl), fun t _ ht => getD_in (by simpa using ht) (getD_replicate_false _ _)⟩
  have hun : (Array.replicate l.toArray.size false).getD n true = false := getD_in (by simp; omega) (getD_replicate_false _ _)
  have hr : n ∈ Region.ready .any l.toArray (Array.replicate l.toArray.size false) := mem_ready.2 ⟨hun, oa, hoa, fun e he hb => (haf' e he hb).elim⟩
  have hln : ((Array.replicate l.toArray.size false).setIfInBounds n true).getD n true = true := by
    simp [Array.getElem?_setIfInBounds_self]
    split <;> rfl
  have H := anyA_of_anyB (md := .any) (w0 := w) hoa haf' hs hc hn (fun listed a hL => seqB_ready hL.1) (l.take n).length (Array.replicate l.toArray.size false) a inv0 hun
    (anyB_lex (g := l.toArray.size - (n + 1)) hsel hs hc hn (l.take n) 0 _ a (fun j hj => by
      have hj' : j < n := by rw [htl] at hj; exact hj
      simp [hj']) (by simpa using htl) (inv0.set hr (by omega)) hln (by rw [htl]; exact hlex) h)
  have := wpAny_of_anyA (Q' := Q) (g := l.toArray.size - (n + 1)) hoa hg' hal (Region.noSelect_spec hsel) hap' (fun k listed a' w' hw' hk hz hL => by
    have := wpAny_of_seq (md := .any) (Q' := Q) (l.drop (n + 1)) (n + 1) listed (a'.put oa.dst (.pointer (some ⟨k, 0, none⟩))) w' (fun j => by simp [List.getElem?_drop]) (by rw [hdl]; exact hL.1) (hL.2 k w' hw' hk hz)
    rwa [hdl] at this) _ _ _ { w with drawn := w.drawn + 1 } (Below.refl w.heap.size w).drew H
  rw [htl, show n + 1 + (l.toArray.size - (n + 1)) = l.toArray.size by omega] at this
  exact this

theorem wp_region_made {id : Nat} {Q : Exit → Act → World → Prop} {a : Act} {w : World} {l : List Oper} (n : Nat) (d : Tmp) (oa : Oper) (t : TypeId) (z : Array Value) (hoa : l.toArray[n]? = some oa) (hd : oa.dst = some d) (hm : P.follows .mixedOrders = true) (hB : lexAllocB .any l.toArray n = true)
    (hal : ∀ (a : Act) (w : World), (execOp a.eval oa).run P w = .ok (.value (.pointer (some ⟨w.heap.size, 0, none⟩))) (w.alloc (.cells z t)))
    (h : wpQB P w (fun a' => ∀ k w', Below w.heap.size w w' → w.heap.size ≤ k → w'.heap[k]? = some (.cells z t (0, 0)) → wpList P l.toArray Q (l.drop (n + 1)) (a'.put (some d) (.pointer (some ⟨k, 0, none⟩))) w') (l.take n) a) :
    (Code.region id l.toArray true).wp P Q a w :=
  wp_region_any hm (any_made n d oa t z hoa hd hB hal h)

theorem wpQuiet_of_qb {C : World → Prop} (hC0 : ∀ w, C w → Below w0.heap.size w0 w) (hC : ∀ w w', C w → Below w.heap.size w w' → C w') {Q : Act → Prop} : ∀ (l : List Oper) (a : Act), wpQB P w0 Q l a → wpQuiet P ops C Q l a
  | [], _, h => h
  | o :: l, a, ⟨v, ⟨hg, hv⟩, hk⟩ => by
    unfold wpQuiet
    rw [if_pos (wanted_plain hg _)]
    exact ⟨v, fun w hw => quietAt_mono (fun w' h => hC w w' hw h) (hv w (hC0 w hw)), wpQuiet_of_qb hC0 hC l _ hk⟩
/-- the same, with nothing made in it -/
theorem wp_region_plain {id : Nat} {Q : Exit → Act → World → Prop} {a : Act} {w : World} {l : List Oper} (n : Nat) (hm : P.follows .mixedOrders = true) (hB : Region.lexTailB .any l.toArray n = true)
    (h : wpQB P w (fun a' => ∀ w', Below w.heap.size w w' → wpList P l.toArray Q (l.drop n) a' w') (l.take n) a) : (Code.region id l.toArray true).wp P Q a w :=
  wp_region_quiet_tail (C := fun w' => Below w.heap.size w w') n hm hB (Below.refl w.heap.size w).drew (wpQuiet_of_qb (fun _ h => h) (fun _ _ h1 h2 => h1.trans (h2.mono h1.size)) _ _ h)

/-- .. nothing written at all -/
theorem wp_region_all {id : Nat} {Q : Exit → Act → World → Prop} {a : Act} {w : World} {l : List Oper} (hm : P.follows .mixedOrders = true) (hB : Region.lexB .any l.toArray = true)
    (h : wpQB P w (fun a' => ∀ w', Below w.heap.size w w' → Q .normal a' w') l a) : (Code.region id l.toArray true).wp P Q a w :=
  wp_region_quiet (C := fun w' => Below w.heap.size w w') hm hB (Below.refl w.heap.size w).drew (wpQuiet_of_qb (fun _ h => h) (fun _ _ h1 h2 => h1.trans (h2.mono h1.size)) _ _ h)

/-! ### the head's steps -/
section
variable {Q : Act → Prop} {a : Act} {rest : List Oper} {t' : TypeId} {pos : String} {after : Array Edge}
theorem wpQB_nil (h : Q a) : wpQB P w0 Q [] a := h
theorem wpQB_run {o : Oper} (v : Value) (hg : o.guard = none) (hr : ∀ w, Below w0.heap.size w0 w → (execOp a.eval o).run P w = .ok (.value v) w) (h : wpQB P w0 Q rest (a.put o.dst v)) : wpQB P w0 Q (o :: rest) a :=
  ⟨v, ⟨hg, fun w hw => by unfold Oper.quietAt; rw [hr w hw]; exact ⟨rfl, rfl⟩⟩, h⟩
theorem wpQB_move {d : Option Tmp} {x : Operand} (h : wpQB P w0 Q rest (a.put d (a.eval x))) : wpQB P w0 Q (⟨d, .move x, t', pos, after, none⟩ :: rest) a :=
  wpQB_run _ rfl (fun _ _ => rfl) h
theorem wpQB_load {d : Option Tmp} {x : Operand} {ty : TypeId} (g : Nat) (t : TypeId) (cs : Array Value) (ds : TypeDesc) (hu : P.underlying ty = some ds) (hd : (match ds with | .struct _ | .array _ _ => true | _ => false) = true) (hi : (P.info? ty).map (·.size) = some cs.size)
    (hg : w0.heap[g]? = some (.cells cs t (0, 0))) (hx : a.eval x = .pointer (some ⟨g, 0, none⟩)) (h : wpQB P w0 Q rest (a.put d (.agg cs))) : wpQB P w0 Q (⟨d, .load ty x, t', pos, after, none⟩ :: rest) a :=
  wpQB_run _ rfl (fun w hw => by
    have hlt : g < w0.heap.size := by
      rcases Nat.lt_or_ge g w0.heap.size with h | h
      · exact h
      · rw [Array.getElem?_eq_none h] at hg; cases hg
    have hg' := (hw.block g hlt).trans hg
    unfold execOp
    simp only [hx, Instr.loadAt, Instr.sureAddr, Sem.run_bind, Sem.run_pure, Result.andThen_ok, run_loadVar_row w g t ty cs (0, 0) ds hg' hu hd hi]) h
theorem wpQB_call {d : Option Tmp} {o : Oper} (f : FuncId) (args : Array Value) (v : Value) (hd : o.dst = d) (hg : o.guard = none) (hr : ∀ w, (execOp a.eval o).run P w = .ok (.enter f args) w)
    (hc : ∀ w, Below w0.heap.size w0 w → Calls P f args w fun e w' => e = .returned v ∧ Below w.heap.size w w') (h : wpQB P w0 Q rest (a.put d v)) : wpQB P w0 Q (o :: rest) a := by
  subst hd
  exact ⟨v, ⟨hg, fun w hw => by unfold Oper.quietAt; rw [hr w]; exact ⟨rfl, hc w hw⟩⟩, h⟩
end
end
end Go.Proofs.YtmekmlgpkbfjpaaGreatDoor

/- The contracts of the program's squared, ones, power, Inv and even. -/
namespace Go.Proofs.YtmekmlgpkbfjpaaGreatDoor.F
set_option maxRecDepth 100000
open Go.RowKit Go.Sort
attribute [local irreducible] feA
/-- a number is read in the head of a region that draws its order -/
theorem wpQB_fe {w0 : World} {Q : Act → Prop} {a : Act} {rest : List Oper} {t' : TypeId} {pos : String} {after : Array Edge} {d : Option Tmp} {x : Operand} (g n : Nat) (hz : Lies w0 g 72 (feA n)) (hx : a.eval x = .pointer (some ⟨g, 0, none⟩))
    (h : wpQB Tryz.prog w0 Q rest (a.put d (fe n))) : wpQB Tryz.prog w0 Q (⟨d, .load 72 x, t', pos, after, none⟩ :: rest) a :=
  wpQB_load g 72 (feA n) _ Tryz.underlying72 rfl (by rw [feA_size]; exact rowFe.2) hz hx h

set_option maxRecDepth 100000 in
set_option maxHeartbeats 800000 in
theorem squared_any (x t : Nat) (W : World) (hx : x < K256) (ht : t ≤ 1000) (hT : Tab W) :
    Calls Tryz.prog 140 #[fe x, .int .i64 (t : Int)] W fun e w' => e = .returned (fe (sqL x t)) ∧ Below W.heap.size W w' := by
  have hT0 := Lib.hid hT
  clear hT
  go_enter Tryz.func140, Tryz.ntmps140
  have hz := (Lies.new W 72 (feA x)).alloc (.cells fe0A 72)
  have hr : Lies ((W.alloc (.cells (feA x) 72)).alloc (.cells fe0A 72)) (W.heap.size + 1) 72 fe0A := heap_alloc2_new W _ _
  have hB := ((Below.refl W.heap.size W).alloc (Nat.le_refl _) (.cells (feA x) 72)).alloc (by simp) (.cells fe0A 72)
  go_upto_region 1 with fail
  generalize World.alloc (World.alloc W _) _ = w0 at *
  go_wp2_with fail
  go_loopw [6] (fun ix wr => ∃ i : Nat, i ≤ t ∧ ix = .int .i64 (i : Int) ∧ Lies wr W.heap.size 72 (feA (sqL x i)) ∧ Lies wr (W.heap.size + 1) 72 fe0A ∧ Below W.heap.size W wr) (fun ix _ => t - (intOf ix).toNat)
  case atStart => exact ⟨0, Nat.zero_le _, rfl, hz, hr, hB⟩
  case round =>
    clear hz hr hB
    obtain ⟨i, hi, rfl, hz, hr, hB⟩ := hrel
    have hT := hT0.out.on hB
    by_cases hlt : i < t
    · have hv := sqL_lt x i hx
      have HM := Lib.hid (fun w hT => mul_any (sqL x i) (sqL x i) w hv hv hT)
      rw [sqL_step] at HM
      generalize sqL x i = v at *
      obtain ⟨u, hu⟩ : ∃ u, sqL x (i + 1) = u := ⟨_, rfl⟩
      rw [hu] at HM
      have HU := Lib.hid hu
      have hii : (i : Int) < (t : Int) := by omega
      clear hu hv
      go_wp2_with (first
        | ((with_reducible refine wpL_load W.heap.size 72 (feA v) 4 rowFe (feA_size _) hz ?_ ?_); rfl)
        | (go_at_call 94; refine (HM.out _ hT).mono ?_; rintro e w1 ⟨rfl, hb⟩; replace hz := hz.on hb; replace hr := hr.on hb; replace hB := below_on hB hb; clear hb)
        | ((with_reducible refine wpL_store W.heap.size 72 _ (feA u) 4 rowFe (feA_size _) (feA_size _) (feA_one _) hz ?_ ?_ ?_); rfl; rfl))
      go_roundw
      case rel => exact ⟨i + 1, by omega, by go_num, by rw [HU.out]; exact hz.row _, hr.rowFar (by omega) _, below_rowSet hB (Nat.le_refl _) _⟩
      case measure => simp [intOf]; omega
    · obtain rfl : i = t := by omega
      have hii : ¬ (i : Int) < (i : Int) := by omega
      obtain ⟨u, hu⟩ : ∃ u, sqL x i = u := ⟨_, rfl⟩
      rw [hu] at hz
      have HU := Lib.hid hu
      clear hu
      go_wp2_with (first
        | ((with_reducible refine wpL_load W.heap.size 72 (feA u) 4 rowFe (feA_size _) hz ?_ ?_); rfl)
        | ((with_reducible refine wpL_store (W.heap.size + 1) 72 _ (feA u) 4 rowFe rfl (feA_size _) (feA_one _) hr ?_ ?_ ?_); rfl; rfl))
      exact bodyPost_ret (results_row Tryz.results140 rowFe (feA_size _) (hr.row _) rfl) rfl ⟨by rw [HU.out], below_rowSet hB (Nat.le_succ _) _⟩

set_option maxRecDepth 100000 in
set_option maxHeartbeats 800000 in
theorem even_any (r : Nat) (W : World) (hr : r < p25) (hT : Tab W) :
    Calls Tryz.prog 141 #[fe r] W fun e w' => e = .returned (fe (evN r)) ∧ Below W.heap.size W w' := by
  have hT0 := Lib.hid hT
  have hrK := below_K hr
  have HS := Lib.hid (fun w hT => sub_any 0 r w (by decide) hrK hT)
  have HO : ∀ w, Calls Tryz.prog 96 #[.int .u64 0] w fun e w' => e = .returned (fe 0) ∧ Below w.heap.size w w' := fun w => of_any 0 w (by decide)
  obtain ⟨u, hu⟩ : ∃ u, (0 + (p25 - r % p25)) % p25 = u := ⟨_, rfl⟩
  obtain ⟨v, hv⟩ : ∃ v, evN r = v := ⟨_, rfl⟩
  have hcase : (r % 2 = 1 ∧ v = u) ∨ (r % 2 = 0 ∧ v = r) := by
    rw [← hv, ← hu]
    unfold evN
    split
    · exact .inl ⟨by assumption, rfl⟩
    · exact .inr ⟨by omega, rfl⟩
  rw [hu] at HS
  rw [hv]
  clear hu hv hT hrK hr
  go_enter Tryz.func141, Tryz.ntmps141
  have hz := (Lies.new W 72 (feA r)).alloc (.cells fe0A 72)
  have hr : Lies ((W.alloc (.cells (feA r) 72)).alloc (.cells fe0A 72)) (W.heap.size + 1) 72 fe0A := heap_alloc2_new W _ _
  have hB := ((Below.refl W.heap.size W).alloc (Nat.le_refl _) (.cells (feA r) 72)).alloc (by simp) (.cells fe0A 72)
  go_upto_region 1 with fail
  generalize World.alloc (World.alloc W _) _ = w0 at *
  obtain ⟨a, b, c, d, ha, ha2, haK⟩ := word_low r
  have hz' := hz
  rw [ha] at hz'
  have c0 := hz'.cell 0
  clear hz'
  rcases hcase with ⟨h1, rfl⟩ | ⟨h1, rfl⟩
  · have ha1 : (a : Int) % 2 = 1 := by omega
    have cS := fun w (h : Below w0.heap.size w0 w) => HS.out w ((hT0.out.on hB).on h)
    clear HS h1 ha2 ha hT0
    go_upto_region 2 with fail
    refine wp_region_plain 3 (by kernel_rfl) (by kernel_rfl) ?_
    simp only [List.take_succ_cons, List.take_zero, List.drop_succ_cons, List.drop_zero]
    refine wpQB_call 96 #[.int .u64 0] (fe 0) rfl rfl (fun _ => by kernel_rfl) (fun w _ => HO w) ?_
    refine wpQB_fe W.heap.size r hz rfl ?_
    refine wpQB_call 95 #[fe 0, fe r] (fe v) rfl rfl (fun _ => by kernel_rfl) (fun w h => cS w h) ?_
    refine wpQB_nil ?_
    intro w1 hb
    replace hr := hr.on hb
    replace hB := below_on hB hb
    clear hb
    go_wp2_with ((with_reducible refine wpL_store (W.heap.size + 1) 72 _ (feA v) 4 rowFe rfl (feA_size _) (feA_one _) hr ?_ ?_ ?_); rfl; rfl)
    exact bodyPost_ret (results_row Tryz.results141 rowFe (feA_size _) (hr.row _) rfl) rfl ⟨rfl, below_rowSet hB (Nat.le_succ _) _⟩
  · have ha1 : (a : Int) % 2 = 0 := by omega
    clear HS h1 ha2 ha hT0 HO
    go_wp2_with (first
      | ((with_reducible refine wpL_load W.heap.size 72 (feA v) 4 rowFe (feA_size _) hz ?_ ?_); rfl)
      | ((with_reducible refine wpL_store (W.heap.size + 1) 72 _ (feA v) 4 rowFe rfl (feA_size _) (feA_one _) hr ?_ ?_ ?_); rfl; rfl))
    exact bodyPost_ret (results_row Tryz.results141 rowFe (feA_size _) (hr.row _) rfl) rfl ⟨rfl, below_rowSet hB (Nat.le_succ _) _⟩
end Go.Proofs.YtmekmlgpkbfjpaaGreatDoor.F

/- The contract of the program's ones. -/
namespace Go.Proofs.YtmekmlgpkbfjpaaGreatDoor.F
set_option maxRecDepth 100000
open Go.RowKit Go.Sort
attribute [local irreducible] feA
theorem alloc_fe {o : Oper} (h : o.op = .alloc 72) (a : Act) (w : World) : (execOp a.eval o).run Tryz.prog w = .ok (.value (.pointer (some ⟨w.heap.size, 0, none⟩))) (w.alloc (.cells fe0A 72)) := by
  unfold execOp
  rw [h]
  kernel_rfl
theorem half_i64 (n : Nat) : Int.tdiv (n : Int) 2 = ((n / 2 : Nat) : Int) := by
  rw [Int.tdiv_eq_ediv_of_nonneg (by omega)]
  omega

set_option maxRecDepth 100000 in
set_option maxHeartbeats 1600000 in
theorem ones_any (n : Nat) : ∀ (x : Nat) (W : World), 1 ≤ n → n ≤ 1000 → x < K256 → Tab W →
    Calls Tryz.prog 173 #[fe x, .int .i64 (n : Int)] W fun e w' => e = .returned (fe (onesN x n)) ∧ Below W.heap.size W w' := by
  induction n using Nat.strongRecOn with
  | _ n ih =>
    intro x W h1 hn hx hT
    have hT0 := Lib.hid hT
    clear hT
    by_cases hone : n = 1
    · subst hone
      clear ih
      go_enter Tryz.func173, Tryz.ntmps173
      have hz := (Lies.new W 72 (feA x)).alloc (.cells fe0A 72)
      have hr : Lies ((W.alloc (.cells (feA x) 72)).alloc (.cells fe0A 72)) (W.heap.size + 1) 72 fe0A := heap_alloc2_new W _ _
      have hB := ((Below.refl W.heap.size W).alloc (Nat.le_refl _) (.cells (feA x) 72)).alloc (by simp) (.cells fe0A 72)
      go_upto_region 1 with fail
      generalize World.alloc (World.alloc W _) _ = w0 at *
      go_wp2_with (first
        | ((with_reducible refine wpL_load W.heap.size 72 (feA x) 4 rowFe (feA_size _) hz ?_ ?_); rfl)
        | ((with_reducible refine wpL_store (W.heap.size + 1) 72 _ (feA x) 4 rowFe rfl (feA_size _) (feA_one _) hr ?_ ?_ ?_); rfl; rfl))
      exact bodyPost_ret (results_row Tryz.results173 rowFe (feA_size _) (hr.row _) rfl) rfl ⟨rfl, below_rowSet hB (Nat.le_succ _) _⟩
    · obtain ⟨h, hh⟩ : ∃ h, n / 2 = h := ⟨_, rfl⟩
      have hq := half_i64 n
      have hq2 : (n : Int) / 2 = (h : Int) := by omega
      rw [hh] at hq
      have hq3 : IntKind.i64.wrap (h : Int) = (h : Int) := by rw [IntWalk.i64_in _ (by omega)]
      have hh1 : 1 ≤ h := by omega
      have hH := onesN_lt x h hx
      have HO := Lib.hid (fun w hT => ih h (by omega) x w hh1 (by omega) hx hT)
      have HS := Lib.hid (fun w hT => squared_any (onesN x h) h w hH (by omega) hT)
      have hS := sqL_lt (onesN x h) h hH
      have HM := Lib.hid (fun w hT => mul_any (sqL (onesN x h) h) (onesN x h) w hS hH hT)
      rw [onesN_even x h hh1] at HM
      have hE := onesN_lt x (2 * h) hx
      have HSt := Lib.hid (fun w hT => squared_any (onesN x (2 * h)) 1 w hE (by decide) hT)
      have hQ := sqL_lt (onesN x (2 * h)) 1 hE
      have HMo := Lib.hid (fun w hT => mul_any (sqL (onesN x (2 * h)) 1) x w hQ hx hT)
      rw [onesN_odd x h hh1] at HMo
      have hpar : (n % 2 = 1 ∧ n = 2 * h + 1) ∨ (n % 2 = 0 ∧ n = 2 * h) := by omega
      have HP : Hid ((n % 2 = 1 ∧ onesN x n = onesN x (2 * h + 1)) ∨ (n % 2 = 0 ∧ onesN x n = onesN x (2 * h))) := Lib.hid (by
        rcases hpar with ⟨a, b⟩ | ⟨a, b⟩
        · exact .inl ⟨a, by rw [← b]⟩
        · exact .inr ⟨a, by rw [← b]⟩)
      clear ih hpar hS hH hE hQ hh
      generalize onesN x (2 * h + 1) = vo at *
      generalize sqL (onesN x (2 * h)) 1 = q at *
      generalize onesN x (2 * h) = ve at *
      generalize sqL (onesN x h) h = s at *
      generalize onesN x h = vh at *
      generalize onesN x n = vn at *
      have hone' : ¬ (n : Int) = 1 := by omega
      go_enter Tryz.func173, Tryz.ntmps173
      have hz := (Lies.new W 72 (feA x)).alloc (.cells fe0A 72)
      have hr : Lies ((W.alloc (.cells (feA x) 72)).alloc (.cells fe0A 72)) (W.heap.size + 1) 72 fe0A := heap_alloc2_new W _ _
      have hB := ((Below.refl W.heap.size W).alloc (Nat.le_refl _) (.cells (feA x) 72)).alloc (by simp) (.cells fe0A 72)
      go_upto_region 1 with fail
      generalize World.alloc (World.alloc W _) _ = w0 at *
      have hT := hT0.out.on hB
      go_upto_region 4 with (first
        | ((with_reducible refine wpL_load W.heap.size 72 (feA x) 4 rowFe (feA_size _) hz ?_ ?_); rfl)
        | (go_at_call 173; refine (HO.out _ hT).mono ?_; rintro e w1 ⟨rfl, hb⟩; replace hz := hz.on hb; replace hr := hr.on hb; replace hT := hT.on hb; replace hB := below_on hB hb; clear hb)
        | ((with_reducible refine wpL_store w1.heap.size 72 _ (feA vh) 4 rowFe ?_ (feA_size _) (feA_one _) (Lies.new w1 _ _) ?_ ?_ ?_); rfl; rfl; rfl))
      have hy := newly_lies w1 72 fe0A (feA vh)
      have hnw := newly w1 (.cells fe0A 72) (feA vh)
      replace hz := hz.on hnw
      replace hr := hr.on hnw
      replace hT := hT.on hnw
      replace hB := below_on hB hnw
      clear hnw HO
      generalize World.setRow _ _ _ = w2 at *
      generalize w1.heap.size = gh at *
      refine wp_region_made 6 6 _ 72 fe0A rfl rfl (by kernel_rfl) (by kernel_rfl) (alloc_fe rfl) ?_
      simp only [List.take_succ_cons, List.take_zero, List.drop_succ_cons, List.drop_zero]
      refine wpQB_fe gh vh hy rfl ?_
      simp only [Act.put, List.setIfInBounds_toArray, List.set_cons_succ, List.set_cons_zero]
      refine wpQB_move ?_
      simp only [Act.put, List.setIfInBounds_toArray, List.set_cons_succ, List.set_cons_zero]
      refine wpQB_run (.int .i64 (h : Int)) rfl (fun w _ => ?_) ?_
      · simp [go_sem, hq, hq3]
      simp only [Act.put, List.setIfInBounds_toArray, List.set_cons_succ, List.set_cons_zero]
      refine wpQB_call 140 #[fe vh, .int .i64 (h : Int)] (fe s) rfl rfl (fun _ => by kernel_rfl) (fun w hb => HS.out w (hT.on hb)) ?_
      simp only [Act.put, List.setIfInBounds_toArray, List.set_cons_succ, List.set_cons_zero]
      refine wpQB_fe gh vh hy rfl ?_
      simp only [Act.put, List.setIfInBounds_toArray, List.set_cons_succ, List.set_cons_zero]
      refine wpQB_call 94 #[fe s, fe vh] (fe ve) rfl rfl (fun _ => by kernel_rfl) (fun w hb => HM.out w (hT.on hb)) ?_
      simp only [Act.put, List.setIfInBounds_toArray, List.set_cons_succ, List.set_cons_zero]
      refine wpQB_nil ?_
      intro k w3 hb hk hy3
      simp only [List.setIfInBounds_toArray, List.set_cons_succ, List.set_cons_zero]
      replace hy3 : Lies w3 k 72 fe0A := hy3
      have hzl := hz.lt
      have hrl := hr.lt
      replace hz := (hz.on hb).rowFar (show W.heap.size ≠ k by omega) (feA ve)
      replace hr := (hr.on hb).rowFar (show W.heap.size + 1 ≠ k by omega) (feA ve)
      replace hB := below_rowSet (below_on hB hb) (show W.heap.size ≤ k by omega) (feA ve)
      replace hT := hT0.out.on hB
      have hv := hy3.row (feA ve)
      clear hb HS HM hy
      go_upto_region 5 with ((with_reducible refine wpL_store k 72 _ (feA ve) 4 rowFe rfl (feA_size _) (feA_one _) hy3 ?_ ?_ ?_); rfl; rfl)
      clear hy3
      generalize World.setRow _ _ _ = w4 at *
      rcases HP.out with ⟨hodd, rfl⟩ | ⟨heven, rfl⟩
      · have ho2 : (n : Int) % 2 = 1 := by omega
        go_upto_region 6 with fail
        refine wp_region_plain 4 (by kernel_rfl) (by kernel_rfl) ?_
        simp only [List.take_succ_cons, List.take_zero, List.drop_succ_cons, List.drop_zero]
        refine wpQB_fe k ve hv rfl ?_
        simp only [Act.put, List.setIfInBounds_toArray, List.set_cons_succ, List.set_cons_zero]
        refine wpQB_call 140 #[fe ve, .int .i64 1] (fe q) rfl rfl (fun _ => by kernel_rfl) (fun w hb => HSt.out w (hT.on hb)) ?_
        simp only [Act.put, List.setIfInBounds_toArray, List.set_cons_succ, List.set_cons_zero]
        refine wpQB_fe W.heap.size x hz rfl ?_
        simp only [Act.put, List.setIfInBounds_toArray, List.set_cons_succ, List.set_cons_zero]
        refine wpQB_call 94 #[fe q, fe x] (fe vn) rfl rfl (fun _ => by kernel_rfl) (fun w hb => HMo.out w (hT.on hb)) ?_
        simp only [Act.put, List.setIfInBounds_toArray, List.set_cons_succ, List.set_cons_zero]
        refine wpQB_nil ?_
        intro w5 hb
        replace hv := hv.on hb
        replace hr := hr.on hb
        replace hB := below_on hB hb
        clear hb
        go_upto_region 7 with ((with_reducible refine wpL_store k 72 _ (feA vn) 4 rowFe (feA_size _) (feA_size _) (feA_one _) hv ?_ ?_ ?_); rfl; rfl)
        replace hv := hv.row (feA vn)
        replace hr := hr.rowFar (show W.heap.size + 1 ≠ k by omega) (feA vn)
        replace hB := below_rowSet hB (show W.heap.size ≤ k by omega) (feA vn)
        generalize World.setRow _ _ _ = w6 at *
        go_wp2_with (first
          | ((with_reducible refine wpL_load k 72 (feA vn) 4 rowFe (feA_size _) hv ?_ ?_); rfl)
          | ((with_reducible refine wpL_store (W.heap.size + 1) 72 _ (feA vn) 4 rowFe rfl (feA_size _) (feA_one _) hr ?_ ?_ ?_); rfl; rfl))
        exact bodyPost_ret (results_row Tryz.results173 rowFe (feA_size _) (hr.row _) rfl) rfl ⟨rfl, below_rowSet hB (Nat.le_succ _) _⟩
      · have ho2 : (n : Int) % 2 = 0 := by omega
        go_wp2_with (first
          | ((with_reducible refine wpL_load k 72 (feA vn) 4 rowFe (feA_size _) hv ?_ ?_); rfl)
          | ((with_reducible refine wpL_store (W.heap.size + 1) 72 _ (feA vn) 4 rowFe rfl (feA_size _) (feA_one _) hr ?_ ?_ ?_); rfl; rfl))
        exact bodyPost_ret (results_row Tryz.results173 rowFe (feA_size _) (hr.row _) rfl) rfl ⟨rfl, below_rowSet hB (Nat.le_succ _) _⟩

end Go.Proofs.YtmekmlgpkbfjpaaGreatDoor.F

/- The contracts of the program's power and Inv. -/
namespace Go.Proofs.YtmekmlgpkbfjpaaGreatDoor.F
set_option maxRecDepth 100000
open Go.RowKit Go.Sort
attribute [local irreducible] feA
set_option maxRecDepth 100000 in
set_option maxHeartbeats 800000 in
theorem power_any (x : Nat) (W : World) (hx : x < K256) (hT : Tab W) :
    Calls Tryz.prog 139 #[fe x] W fun e w' => e = .returned (fe (powN x eP)) ∧ Below W.heap.size W w' := by
  have HO : Hid (∀ w, Tab w → Calls Tryz.prog 173 #[fe x, .int .i64 250] w fun e w' => e = .returned (fe (onesN x 250)) ∧ Below w.heap.size w w') := Lib.hid (fun w hT => ones_any 250 x w (by decide) (by decide) hx hT)
  have hH := onesN_lt x 250 hx
  have HS : Hid (∀ w, Tab w → Calls Tryz.prog 140 #[fe (onesN x 250), .int .i64 2] w fun e w' => e = .returned (fe (sqL (onesN x 250) 2)) ∧ Below w.heap.size w w') := Lib.hid (fun w hT => squared_any (onesN x 250) 2 w hH (by decide) hT)
  have HM := Lib.hid (fun w hT => mul_any (sqL (onesN x 250) 2) x w (sqL_lt _ 2 hH) hx hT)
  rw [power_eq] at HM
  generalize powN x eP = v at *
  generalize sqL (onesN x 250) 2 = s at *
  generalize onesN x 250 = u at *
  go_enter Tryz.func139, Tryz.ntmps139
  have hz := (Lies.new W 72 (feA x)).alloc (.cells fe0A 72)
  have hr : Lies ((W.alloc (.cells (feA x) 72)).alloc (.cells fe0A 72)) (W.heap.size + 1) 72 fe0A := heap_alloc2_new W _ _
  have hB := ((Below.refl W.heap.size W).alloc (Nat.le_refl _) (.cells (feA x) 72)).alloc (by simp) (.cells fe0A 72)
  go_upto_region 1 with fail
  generalize World.alloc (World.alloc W _) _ = w0 at *
  replace hT := hT.on hB
  refine wp_region_plain 5 (by kernel_rfl) (by kernel_rfl) ?_
  simp only [List.take_succ_cons, List.take_zero, List.drop_succ_cons, List.drop_zero]
  refine wpQB_fe W.heap.size x hz rfl ?_
  simp only [Act.put, List.setIfInBounds_toArray, List.set_cons_succ, List.set_cons_zero]
  refine wpQB_call 173 #[fe x, .int .i64 250] (fe u) rfl rfl (fun _ => by kernel_rfl) (fun w hb => HO.out w (hT.on hb)) ?_
  simp only [Act.put, List.setIfInBounds_toArray, List.set_cons_succ, List.set_cons_zero]
  refine wpQB_call 140 #[fe u, .int .i64 2] (fe s) rfl rfl (fun _ => by kernel_rfl) (fun w hb => HS.out w (hT.on hb)) ?_
  simp only [Act.put, List.setIfInBounds_toArray, List.set_cons_succ, List.set_cons_zero]
  refine wpQB_fe W.heap.size x hz rfl ?_
  simp only [Act.put, List.setIfInBounds_toArray, List.set_cons_succ, List.set_cons_zero]
  refine wpQB_call 94 #[fe s, fe x] (fe v) rfl rfl (fun _ => by kernel_rfl) (fun w hb => HM.out w (hT.on hb)) ?_
  simp only [Act.put, List.setIfInBounds_toArray, List.set_cons_succ, List.set_cons_zero]
  refine wpQB_nil ?_
  intro w1 hb
  replace hr := hr.on hb
  replace hB := below_on hB hb
  clear hb hT
  go_wp2_with ((with_reducible refine wpL_store (W.heap.size + 1) 72 _ (feA v) 4 rowFe rfl (feA_size _) (feA_one _) hr ?_ ?_ ?_); rfl; rfl)
  exact bodyPost_ret (results_row Tryz.results139 rowFe (feA_size _) (hr.row _) rfl) rfl ⟨rfl, below_rowSet hB (Nat.le_succ _) _⟩

set_option maxRecDepth 100000 in
set_option maxHeartbeats 800000 in
theorem inv_any (x : Nat) (W : World) (hx : x < K256) (hT : Tab W) :
    Calls Tryz.prog 99 #[fe x] W fun e w' => e = .returned (fe (invN x)) ∧ Below W.heap.size W w' := by
  have HP := Lib.hid (fun w hT => power_any x w hx hT)
  have hP := below_K (powN_lt x eP)
  have HS3 : Hid (∀ w, Tab w → Calls Tryz.prog 140 #[fe (powN x eP), .int .i64 3] w fun e w' => e = .returned (fe (sqL (powN x eP) 3)) ∧ Below w.heap.size w w') := Lib.hid (fun w hT => squared_any (powN x eP) 3 w hP (by decide) hT)
  have HS1 : Hid (∀ w, Tab w → Calls Tryz.prog 140 #[fe x, .int .i64 1] w fun e w' => e = .returned (fe (sqL x 1)) ∧ Below w.heap.size w w') := Lib.hid (fun w hT => squared_any x 1 w hx (by decide) hT)
  have HM1 := Lib.hid (fun w hT => mul_any x (sqL x 1) w hx (sqL_lt x 1 hx) hT)
  have HM2 := Lib.hid (fun w hT => mul_any (sqL (powN x eP) 3) (x * sqL x 1 % p25) w (sqL_lt _ 3 hP) (mod_K _) hT)
  rw [inv_eq] at HM2
  generalize invN x = v at *
  generalize x * sqL x 1 % p25 = m at *
  generalize sqL (powN x eP) 3 = s3 at *
  generalize sqL x 1 = s1 at *
  generalize powN x eP = p at *
  go_enter Tryz.func99, Tryz.ntmps99
  have hz := (Lies.new W 72 (feA x)).alloc (.cells fe0A 72)
  have hr : Lies ((W.alloc (.cells (feA x) 72)).alloc (.cells fe0A 72)) (W.heap.size + 1) 72 fe0A := heap_alloc2_new W _ _
  have hB := ((Below.refl W.heap.size W).alloc (Nat.le_refl _) (.cells (feA x) 72)).alloc (by simp) (.cells fe0A 72)
  go_upto_region 1 with fail
  generalize World.alloc (World.alloc W _) _ = w0 at *
  replace hT := hT.on hB
  refine wp_region_plain 8 (by kernel_rfl) (by kernel_rfl) ?_
  simp only [List.take_succ_cons, List.take_zero, List.drop_succ_cons, List.drop_zero]
  refine wpQB_fe W.heap.size x hz rfl ?_
  simp only [Act.put, List.setIfInBounds_toArray, List.set_cons_succ, List.set_cons_zero]
  refine wpQB_call 139 #[fe x] (fe p) rfl rfl (fun _ => by kernel_rfl) (fun w hb => HP.out w (hT.on hb)) ?_
  simp only [Act.put, List.setIfInBounds_toArray, List.set_cons_succ, List.set_cons_zero]
  refine wpQB_call 140 #[fe p, .int .i64 3] (fe s3) rfl rfl (fun _ => by kernel_rfl) (fun w hb => HS3.out w (hT.on hb)) ?_
  simp only [Act.put, List.setIfInBounds_toArray, List.set_cons_succ, List.set_cons_zero]
  refine wpQB_fe W.heap.size x hz rfl ?_
  simp only [Act.put, List.setIfInBounds_toArray, List.set_cons_succ, List.set_cons_zero]
  refine wpQB_fe W.heap.size x hz rfl ?_
  simp only [Act.put, List.setIfInBounds_toArray, List.set_cons_succ, List.set_cons_zero]
  refine wpQB_call 140 #[fe x, .int .i64 1] (fe s1) rfl rfl (fun _ => by kernel_rfl) (fun w hb => HS1.out w (hT.on hb)) ?_
  simp only [Act.put, List.setIfInBounds_toArray, List.set_cons_succ, List.set_cons_zero]
  refine wpQB_call 94 #[fe x, fe s1] (fe m) rfl rfl (fun _ => by kernel_rfl) (fun w hb => HM1.out w (hT.on hb)) ?_
  simp only [Act.put, List.setIfInBounds_toArray, List.set_cons_succ, List.set_cons_zero]
  refine wpQB_call 94 #[fe s3, fe m] (fe v) rfl rfl (fun _ => by kernel_rfl) (fun w hb => HM2.out w (hT.on hb)) ?_
  simp only [Act.put, List.setIfInBounds_toArray, List.set_cons_succ, List.set_cons_zero]
  refine wpQB_nil ?_
  intro w1 hb
  replace hr := hr.on hb
  replace hB := below_on hB hb
  clear hb hT
  go_wp2_with ((with_reducible refine wpL_store (W.heap.size + 1) 72 _ (feA v) 4 rowFe rfl (feA_size _) (feA_one _) hr ?_ ?_ ?_); rfl; rfl)
  exact bodyPost_ret (results_row Tryz.results99 rowFe (feA_size _) (hr.row _) rfl) rfl ⟨rfl, below_rowSet hB (Nat.le_succ _) _⟩
end Go.Proofs.YtmekmlgpkbfjpaaGreatDoor.F

/- The contract of the program's Sqrt. -/
namespace Go.Proofs.YtmekmlgpkbfjpaaGreatDoor.F
set_option maxRecDepth 100000
open Go.RowKit Go.Sort
attribute [local irreducible] feA
theorem fe0A_one : Ones fe0A := by unfold Ones; simp [Value.oneCell']
/-- two numbers are compared, as an operation -/
theorem neq_exec {o : Oper} {a : Act} {x y : Operand} {r : TypeId} (ho : o.op = .binOp .neq 72 x y r) (m n : Nat) (hm : m < K256) (hn : n < K256) (hx : a.eval x = fe m) (hy : a.eval y = fe n) (w : World) :
    (execOp a.eval o).run Tryz.prog w = .ok (.value (.bool (!decide (m = n)))) w := by
  unfold execOp
  simp only [ho, hx, hy, Sem.run_bind, run_eqGuard_agg (hm := Tryz.eqGuardType72), Result.andThen_ok, neq_fe m n hm hn, Sem.run_pure]
theorem sqrt_cases (x : Nat) :
    (rootC x * rootC x % p25 = x % p25 ∧ sqrtR x = evN (rootC x) ∧ sqrtB x = true) ∨
    (rootC x * rootC x % p25 ≠ x % p25 ∧ rootD x * rootD x % p25 = x % p25 ∧ sqrtR x = evN (rootD x) ∧ sqrtB x = true) ∨
    (rootC x * rootC x % p25 ≠ x % p25 ∧ rootD x * rootD x % p25 ≠ x % p25 ∧ sqrtR x = 0 ∧ sqrtB x = false) := by
  unfold sqrtR sqrtB
  by_cases h1 : rootC x * rootC x % p25 = x % p25
  · left
    rw [if_pos h1, decide_eq_true h1]
    exact ⟨h1, rfl, rfl⟩
  · by_cases h2 : rootD x * rootD x % p25 = x % p25
    · right; left
      rw [if_neg h1, if_pos h2, decide_eq_true h2, Bool.or_true]
      exact ⟨h1, h2, rfl, rfl⟩
    · right; right
      rw [if_neg h1, if_neg h2, decide_eq_false h1, decide_eq_false h2]
      exact ⟨h1, h2, rfl, rfl⟩

set_option maxRecDepth 100000 in
set_option maxHeartbeats 1600000 in
theorem sqrt_any (x : Nat) (W : World) (hx : x < K256) (hT : Tab2 W) :
    Calls Tryz.prog 98 #[fe x] W fun e w' => e = .returned (.tuple #[fe (sqrtR x), .bool (sqrtB x)]) ∧ Below W.heap.size W w' := by
  have hT0 := Lib.hid hT
  have HP := Lib.hid (fun w hT => power_any x w hx hT)
  have HMC : Hid (∀ w, Tab w → Calls Tryz.prog 94 #[fe x, fe (powN x eP)] w fun e w' => e = .returned (fe (rootC x)) ∧ Below w.heap.size w w') := Lib.hid (fun w hT => mul_any x (powN x eP) w hx (below_K (powN_lt _ _)) hT)
  have HSC : Hid (∀ w, Tab w → Calls Tryz.prog 140 #[fe (rootC x), .int .i64 1] w fun e w' => e = .returned (fe (rootC x * rootC x % p25)) ∧ Below w.heap.size w w') := Lib.hid (fun w hT => by rw [← sqL_one]; exact squared_any (rootC x) 1 w (below_K (rootC_lt x)) (by decide) hT)
  have HL := Lib.hid (fun w hT => least_any x w hx hT)
  have HMD : Hid (∀ w, Tab w → Calls Tryz.prog 94 #[fe (rootC x), fe i25] w fun e w' => e = .returned (fe (rootD x)) ∧ Below w.heap.size w w') := Lib.hid (fun w hT => mul_any (rootC x) i25 w (below_K (rootC_lt x)) (by decide) hT)
  have HSD : Hid (∀ w, Tab w → Calls Tryz.prog 140 #[fe (rootD x), .int .i64 1] w fun e w' => e = .returned (fe (rootD x * rootD x % p25)) ∧ Below w.heap.size w w') := Lib.hid (fun w hT => by rw [← sqL_one]; exact squared_any (rootD x) 1 w (below_K (rootD_lt x)) (by decide) hT)
  have HEC := Lib.hid (fun w hT => even_any (rootC x) w (rootC_lt x) hT)
  have HED := Lib.hid (fun w hT => even_any (rootD x) w (rootD_lt x) hT)
  have hcase := sqrt_cases x
  have hCC := mod_K (rootC x * rootC x)
  have hDD := mod_K (rootD x * rootD x)
  have hE := mod_K x
  obtain ⟨vi, hvi⟩ : ∃ vi, i25 = vi := ⟨_, rfl⟩
  have hTR : Hid (∀ w, Tab2 w → w.rangeAt 7 0 (feA vi).toList) := Lib.hid (fun w h => by rw [← hvi]; exact h.2.root)
  rw [hvi] at HMD
  clear hvi hT hx
  generalize sqrtR x = R at *
  generalize sqrtB x = B at *
  generalize rootD x * rootD x % p25 = DD at *
  generalize rootC x * rootC x % p25 = CC at *
  generalize evN (rootC x) = eC at *
  generalize evN (rootD x) = eD at *
  generalize x % p25 = E at *
  generalize powN x eP = p at *
  generalize rootC x = C at *
  generalize rootD x = D at *
  go_enter Tryz.func98, Tryz.ntmps98
  have hz := (Lies.new W 72 (feA x)).alloc (.cells fe0A 72)
  have hr : Lies ((W.alloc (.cells (feA x) 72)).alloc (.cells fe0A 72)) (W.heap.size + 1) 72 fe0A := heap_alloc2_new W _ _
  have hB := ((Below.refl W.heap.size W).alloc (Nat.le_refl _) (.cells (feA x) 72)).alloc (by simp) (.cells fe0A 72)
  go_upto_region 1 with fail
  generalize World.alloc (World.alloc W _) _ = w0 at *
  have hT := (hT0.out.on hB).1
  refine wp_region_made 4 4 _ 72 fe0A rfl rfl (by kernel_rfl) (by kernel_rfl) (alloc_fe rfl) ?_
  simp only [List.take_succ_cons, List.take_zero, List.drop_succ_cons, List.drop_zero]
  refine wpQB_fe W.heap.size x hz rfl ?_
  simp only [Act.put, List.setIfInBounds_toArray, List.set_cons_succ, List.set_cons_zero]
  refine wpQB_fe W.heap.size x hz rfl ?_
  simp only [Act.put, List.setIfInBounds_toArray, List.set_cons_succ, List.set_cons_zero]
  refine wpQB_call 139 #[fe x] (fe p) rfl rfl (fun _ => by kernel_rfl) (fun w hb => HP.out w (hT.on hb)) ?_
  simp only [Act.put, List.setIfInBounds_toArray, List.set_cons_succ, List.set_cons_zero]
  refine wpQB_call 94 #[fe x, fe p] (fe C) rfl rfl (fun _ => by kernel_rfl) (fun w hb => HMC.out w (hT.on hb)) ?_
  simp only [Act.put, List.setIfInBounds_toArray, List.set_cons_succ, List.set_cons_zero]
  refine wpQB_nil ?_
  intro k w3 hb hk hy3
  simp only [List.setIfInBounds_toArray, List.set_cons_succ, List.set_cons_zero]
  replace hy3 : Lies w3 k 72 fe0A := hy3
  have hzl := hz.lt
  have hrl := hr.lt
  replace hz := (hz.on hb).rowFar (show W.heap.size ≠ k by omega) (feA C)
  replace hr := (hr.on hb).rowFar (show W.heap.size + 1 ≠ k by omega) (feA C)
  replace hB := below_rowSet (below_on hB hb) (show W.heap.size ≤ k by omega) (feA C)
  have hv := hy3.row (feA C)
  clear hb HP HMC hT
  go_upto_region 2 with ((with_reducible refine wpL_store k 72 _ (feA C) 4 rowFe rfl (feA_size _) (feA_one _) hy3 ?_ ?_ ?_); rfl; rfl)
  clear hy3
  generalize World.setRow _ _ _ = w4 at *
  have hT := (hT0.out.on hB).1
  refine wp_region_all (by kernel_rfl) (by kernel_rfl) ?_
  refine wpQB_fe k C hv rfl ?_
  simp only [Act.put, List.setIfInBounds_toArray, List.set_cons_succ, List.set_cons_zero]
  refine wpQB_call 140 #[fe C, .int .i64 1] (fe CC) rfl rfl (fun _ => by kernel_rfl) (fun w hb => HSC.out w (hT.on hb)) ?_
  simp only [Act.put, List.setIfInBounds_toArray, List.set_cons_succ, List.set_cons_zero]
  refine wpQB_fe W.heap.size x hz rfl ?_
  simp only [Act.put, List.setIfInBounds_toArray, List.set_cons_succ, List.set_cons_zero]
  refine wpQB_call 93 #[fe x] (fe E) rfl rfl (fun _ => by kernel_rfl) (fun w hb => HL.out w (hT.on hb)) ?_
  simp only [Act.put, List.setIfInBounds_toArray, List.set_cons_succ, List.set_cons_zero]
  refine wpQB_run (.bool (!decide (CC = E))) rfl (fun w _ => neq_exec rfl CC E hCC hE rfl rfl w) ?_
  simp only [Act.put, List.setIfInBounds_toArray, List.set_cons_succ, List.set_cons_zero]
  refine wpQB_nil ?_
  intro w5 hb
  replace hv := hv.on hb
  replace hz := hz.on hb
  replace hr := hr.on hb
  replace hB := below_on hB hb
  clear hb hT
  rcases hcase with ⟨hC, rfl, rfl⟩ | hcase
  · rw [decide_eq_true hC]
    subst hC
    have hT := (hT0.out.on hB).1
    go_upto_region 4 with fail
    refine wp_region_all (by kernel_rfl) (by kernel_rfl) ?_
    refine wpQB_fe k C hv rfl ?_
    simp only [Act.put, List.setIfInBounds_toArray, List.set_cons_succ, List.set_cons_zero]
    refine wpQB_call 140 #[fe C, .int .i64 1] (fe CC) rfl rfl (fun _ => by kernel_rfl) (fun w hb => HSC.out w (hT.on hb)) ?_
    simp only [Act.put, List.setIfInBounds_toArray, List.set_cons_succ, List.set_cons_zero]
    refine wpQB_fe W.heap.size x hz rfl ?_
    simp only [Act.put, List.setIfInBounds_toArray, List.set_cons_succ, List.set_cons_zero]
    refine wpQB_call 93 #[fe x] (fe CC) rfl rfl (fun _ => by kernel_rfl) (fun w hb => HL.out w (hT.on hb)) ?_
    simp only [Act.put, List.setIfInBounds_toArray, List.set_cons_succ, List.set_cons_zero]
    refine wpQB_run (.bool false) rfl (fun w _ => (neq_exec rfl CC CC hCC hCC rfl rfl w).trans (by rw [decide_eq_true rfl]; rfl)) ?_
    simp only [Act.put, List.setIfInBounds_toArray, List.set_cons_succ, List.set_cons_zero]
    refine wpQB_nil ?_
    intro w6 hb
    replace hv := hv.on hb
    replace hr := hr.on hb
    replace hT := hT.on hb
    replace hB := below_on hB hb
    clear hb
    go_wp2_with (first
      | ((with_reducible refine wpL_load k 72 (feA C) 4 rowFe (feA_size _) hv ?_ ?_); rfl)
      | (go_at_call 141; refine (HEC.out _ hT).mono ?_; rintro e w7 ⟨rfl, hb⟩; replace hr := hr.on hb; replace hB := below_on hB hb; clear hb)
      | ((with_reducible refine wpL_store (W.heap.size + 1) 72 _ (feA R) 4 rowFe rfl (feA_size _) (feA_one _) hr ?_ ?_ ?_); rfl; rfl))
    exact bodyPost_ret (results_row_tmp Tryz.results98 rowFe (feA_size _) (hr.row _) rfl rfl) rfl ⟨rfl, below_rowSet hB (Nat.le_succ _) _⟩
  · have hC : CC ≠ E := by rcases hcase with h | h <;> exact h.1
    have HCase : Hid ((DD = E ∧ R = eD ∧ B = true) ∨ (DD ≠ E ∧ R = 0 ∧ B = false)) := Lib.hid (by rcases hcase with h | h; exact .inl h.2; exact .inr h.2)
    rw [decide_eq_false hC]
    clear hcase hC HSC HEC
    have hT := (hT0.out.on hB).1
    have hG := hTR.out _ (hT0.out.on hB)
    go_upto_region 4 with (first
      | ((with_reducible refine wpL_load k 72 (feA C) 4 rowFe (feA_size _) hv ?_ ?_); rfl)
      | ((with_reducible refine wpL_loadGlobal 7 0 (feA vi).toList 4 rowFe (by rw [Array.length_toList]; exact feA_size _) hG ?_ ?_); rfl; rw [Array.toArray_toList])
      | (go_at_call 94; refine (HMD.out _ hT).mono ?_; rintro e w6 ⟨rfl, hb⟩; replace hv := hv.on hb; replace hz := hz.on hb; replace hr := hr.on hb; replace hB := below_on hB hb; clear hb)
      | ((with_reducible refine wpL_store k 72 _ (feA D) 4 rowFe (feA_size _) (feA_size _) (feA_one _) hv ?_ ?_ ?_); rfl; rfl))
    clear hT hG
    replace hv := hv.row (feA D)
    replace hz := hz.rowFar (show W.heap.size ≠ k by omega) (feA D)
    replace hr := hr.rowFar (show W.heap.size + 1 ≠ k by omega) (feA D)
    replace hB := below_rowSet hB (show W.heap.size ≤ k by omega) (feA D)
    generalize World.setRow _ _ _ = w7 at *
    have hT := (hT0.out.on hB).1
    refine wp_region_all (by kernel_rfl) (by kernel_rfl) ?_
    refine wpQB_fe k D hv rfl ?_
    simp only [Act.put, List.setIfInBounds_toArray, List.set_cons_succ, List.set_cons_zero]
    refine wpQB_call 140 #[fe D, .int .i64 1] (fe DD) rfl rfl (fun _ => by kernel_rfl) (fun w hb => HSD.out w (hT.on hb)) ?_
    simp only [Act.put, List.setIfInBounds_toArray, List.set_cons_succ, List.set_cons_zero]
    refine wpQB_fe W.heap.size x hz rfl ?_
    simp only [Act.put, List.setIfInBounds_toArray, List.set_cons_succ, List.set_cons_zero]
    refine wpQB_call 93 #[fe x] (fe E) rfl rfl (fun _ => by kernel_rfl) (fun w hb => HL.out w (hT.on hb)) ?_
    simp only [Act.put, List.setIfInBounds_toArray, List.set_cons_succ, List.set_cons_zero]
    refine wpQB_run (.bool (!decide (DD = E))) rfl (fun w _ => neq_exec rfl DD E hDD hE rfl rfl w) ?_
    simp only [Act.put, List.setIfInBounds_toArray, List.set_cons_succ, List.set_cons_zero]
    refine wpQB_nil ?_
    intro w8 hb
    replace hv := hv.on hb
    replace hr := hr.on hb
    replace hT := hT.on hb
    replace hB := below_on hB hb
    clear hb
    rcases HCase.out with ⟨hD, rfl, rfl⟩ | ⟨hD, rfl, rfl⟩
    · rw [decide_eq_true hD]
      clear hD
      go_wp2_with (first
        | ((with_reducible refine wpL_load k 72 (feA D) 4 rowFe (feA_size _) hv ?_ ?_); rfl)
        | (go_at_call 141; refine (HED.out _ hT).mono ?_; rintro e w9 ⟨rfl, hb⟩; replace hr := hr.on hb; replace hB := below_on hB hb; clear hb)
        | ((with_reducible refine wpL_store (W.heap.size + 1) 72 _ (feA R) 4 rowFe rfl (feA_size _) (feA_one _) hr ?_ ?_ ?_); rfl; rfl))
      exact bodyPost_ret (results_row_tmp Tryz.results98 rowFe (feA_size _) (hr.row _) rfl rfl) rfl ⟨rfl, below_rowSet hB (Nat.le_succ _) _⟩
    · rw [decide_eq_false hD]
      clear hD
      go_wp2_with ((with_reducible refine wpL_store (W.heap.size + 1) 72 _ fe0A 4 rowFe rfl rfl fe0A_one hr ?_ ?_ ?_); rfl; rfl)
      exact bodyPost_ret (results_row_tmp Tryz.results98 rowFe rfl (hr.row fe0A) rfl rfl) rfl ⟨by rw [fe_word 0 (by decide)]; rfl, below_rowSet hB (Nat.le_succ _) _⟩
end Go.Proofs.YtmekmlgpkbfjpaaGreatDoor.F

/- Points as values: four numbers, or two, one behind the other; their fields read in a region that draws its order; the contract of the reference's D. -/
namespace Go.Proofs.YtmekmlgpkbfjpaaGreatDoor.C
open Go.RowKit Go.Sort Go.Proofs.YtmekmlgpkbfjpaaGreatDoor.F
set_option maxRecDepth 100000

def ptA (u : N4) : Array Value := feA u.X ++ feA u.Y ++ feA u.Z ++ feA u.T
abbrev pt (u : N4) : Value := .agg (ptA u)
theorem ptA_size (u : N4) : (ptA u).size = 16 := rfl
theorem ones_append {a b : Array Value} (ha : Ones a) (hb : Ones b) : Ones (a ++ b) := by
  unfold Ones at *
  rw [Array.all_append, ha, hb]
  rfl
theorem ptA_one (u : N4) : Ones (ptA u) := ones_append (ones_append (ones_append (feA_one _) (feA_one _)) (feA_one _)) (feA_one _)
theorem rowPt : RowT Tryz.prog 74 16 := ⟨⟨_, Tryz.underlying74, rfl⟩, by kernel_rfl⟩
attribute [local irreducible] feA
theorem range_app {w : World} {g t o : Nat} {a b c : Array Value} (ho : a.size = o) (h : Lies w g t (a ++ b ++ c)) : w.rangeAt g o b.toList := fun j v hv => by
  subst ho
  have hj : j < b.size := by have := (List.getElem?_eq_some_iff.1 hv).1; rwa [Array.length_toList] at this
  rw [h.cell, Array.getElem?_append_left (by rw [Array.size_append]; omega), Array.getElem?_append_right (by omega), show a.size + j - a.size = j by omega]
  rwa [Array.getElem?_toList] at hv
section
variable {w : World} {g t : Nat}
theorem pt_X {u : N4} (h : Lies w g t (ptA u)) : w.rangeAt g 0 (feA u.X).toList :=
  range_app (a := #[]) (c := feA u.Y ++ feA u.Z ++ feA u.T) rfl (by unfold ptA at h; rw [Array.empty_append, ← Array.append_assoc, ← Array.append_assoc]; exact h)
theorem pt_Y {u : N4} (h : Lies w g t (ptA u)) : w.rangeAt g 4 (feA u.Y).toList :=
  range_app (a := feA u.X) (c := feA u.Z ++ feA u.T) (feA_size _) (by unfold ptA at h; rw [← Array.append_assoc]; exact h)
theorem pt_Z {u : N4} (h : Lies w g t (ptA u)) : w.rangeAt g 8 (feA u.Z).toList :=
  range_app (a := feA u.X ++ feA u.Y) (c := feA u.T) (by simp [feA_size]) h
theorem pt_T {u : N4} (h : Lies w g t (ptA u)) : w.rangeAt g 12 (feA u.T).toList :=
  range_app (a := feA u.X ++ feA u.Y ++ feA u.Z) (c := #[]) (by simp [feA_size]) (by rw [Array.append_empty]; exact h)
end

section
variable {w0 : World} {Q : Act → Prop} {a : Act} {rest : List Oper} {t' : TypeId} {pos : String} {after : Array Edge} {d : Option Tmp} {x : Operand}
/-- a number that is a field is read -/
theorem wpQB_mid (g o n : Nat) (hr : w0.rangeAt g o (feA n).toList) (hx : a.eval x = .pointer (some ⟨g, o, none⟩)) (h : wpQB Tryz.prog w0 Q rest (a.put d (fe n))) : wpQB Tryz.prog w0 Q (⟨d, .load 72 x, t', pos, after, none⟩ :: rest) a :=
  wpQB_run (fe n) rfl (fun w hw => by
    have hr' : w.rangeAt g o (feA n).toList := fun j v hv => by
      have h1 := hr j v hv
      exact (hw.cell (p := ⟨g, o + j, none⟩) (World.block_lt_of_cell? w0 _ h1)).trans h1
    unfold execOp
    simp only [hx, Instr.loadAt, Instr.sureAddr, Sem.run_bind, Sem.run_pure, Result.andThen_ok, run_loadVar_mid w g o 72 (feA n).toList _ hr' Tryz.underlying72 rfl (by rw [Array.length_toList, feA_size]; exact rowFe.2), Array.toArray_toList]) h
/-- a point is read whole -/
theorem wpQB_pt (g : Nat) (u : N4) (hz : Lies w0 g 74 (ptA u)) (hx : a.eval x = .pointer (some ⟨g, 0, none⟩))
    (h : wpQB Tryz.prog w0 Q rest (a.put d (pt u))) : wpQB Tryz.prog w0 Q (⟨d, .load 74 x, t', pos, after, none⟩ :: rest) a :=
  wpQB_load g 74 (ptA u) _ Tryz.underlying74 rfl (by rw [ptA_size]; exact rowPt.2) hz hx h
end

/-! ### the reference's Power and Inv -/
end Go.Proofs.YtmekmlgpkbfjpaaGreatDoor.C

/- What the program's own variables hold while the points' functions are called. -/
namespace Go.Proofs.YtmekmlgpkbfjpaaGreatDoor.C
open Go.RowKit Go.Proofs.YtmekmlgpkbfjpaaGreatDoor.F

/-- a variable that holds a number -/
def VarN (g n : Nat) (w : World) : Prop := ∀ i, i < 4 → w.cell? ⟨g, i, none⟩ = some (w64 (wordN n i))
theorem VarN.on {g n : Nat} {w w' : World} (h : VarN g n w) (hb : Below w.heap.size w w') : VarN g n w' := fun i hi => by
  have h1 := h i hi
  exact (hb.cell (p := ⟨g, i, none⟩) (World.block_lt_of_cell? w _ h1)).trans h1
theorem VarN.root {g n : Nat} {w : World} (h : VarN g n w) : w.rangeAt g 0 (feA n).toList := fun j v hv => by
  rw [Nat.zero_add]
  rw [feA_words] at hv
  match j, hv with
  | 0, hv | 1, hv | 2, hv | 3, hv => exact (h _ (by decide)).trans hv
/-- the field's variable, and the points' own -/
def PtTab (w : World) : Prop := Tab w ∧ VarN 1 dN w ∧ VarN 4 bxN w ∧ VarN 5 byN w
theorem PtTab.on {w w' : World} (h : PtTab w) (hb : Below w.heap.size w w') : PtTab w' := ⟨h.1.on hb, h.2.1.on hb, h.2.2.1.on hb, h.2.2.2.on hb⟩
theorem PtTab.f {w : World} (h : PtTab w) : Tab w := h.1
/-- .. and the one that holds a root of -1 -/
def PtTab2 (w : World) : Prop := PtTab w ∧ TabR w
theorem PtTab2.on {w w' : World} (h : PtTab2 w) (hb : Below w.heap.size w w') : PtTab2 w' := ⟨h.1.on hb, h.2.on hb⟩
theorem PtTab2.f2 {w : World} (h : PtTab2 w) : Tab2 w := ⟨h.1.1, h.2⟩
end Go.Proofs.YtmekmlgpkbfjpaaGreatDoor.C

/- A region that draws its order and whose operations only read and call what only makes memory, guards and all: the steps of its one walk. Nothing of the program is named here. -/
namespace Go.Proofs.YtmekmlgpkbfjpaaGreatDoor
open Go.Sort Go.RowKit

section
variable {P : Program} {w0 : World}
/-- the worlds that have grown out of w0 -/
abbrev Gr (w0 : World) : World → Prop := fun w => Below w0.heap.size w0 w

/-- nothing written at all -/
theorem wp_region_all_g {id : Nat} {Q : Exit → Act → World → Prop} {a : Act} {w : World} {l : List Oper} (hm : P.follows .mixedOrders = true) (hB : Region.lexB .any l.toArray = true)
    (h : wpQuiet P l.toArray (Gr w) (fun a' => ∀ w', Below w.heap.size w w' → Q .normal a' w') l a) : (Code.region id l.toArray true).wp P Q a w :=
  wp_region_quiet (C := Gr w) hm hB (Below.refl w.heap.size w).drew h

variable {ops : Array Oper} {Q : Act → Prop} {a : Act} {rest : List Oper} {t' : TypeId} {pos : String} {after : Array Edge} {gd : Option (Nat × Bool)}
theorem wpQg_run {o : Oper} (v : Value) (hg : Region.wanted o (yielded ops a.tmps) = true) (hr : ∀ w, Below w0.heap.size w0 w → (execOp a.eval o).run P w = .ok (.value v) w) (h : wpQuiet P ops (Gr w0) Q rest (a.put o.dst v)) : wpQuiet P ops (Gr w0) Q (o :: rest) a := by
  unfold wpQuiet
  rw [if_pos hg]
  exact ⟨v, fun w hw => by unfold Oper.quietAt; rw [hr w hw]; exact ⟨rfl, rfl⟩, h⟩
theorem wpQg_skip {o : Oper} (hg : Region.wanted o (yielded ops a.tmps) = false) (h : wpQuiet P ops (Gr w0) Q rest (a.put o.dst undef)) : wpQuiet P ops (Gr w0) Q (o :: rest) a := by
  unfold wpQuiet
  rw [if_neg (by rw [hg]; decide)]
  exact h
theorem wpQg_load {d : Option Tmp} {x : Operand} {ty : TypeId} (g : Nat) (t : TypeId) (cs : Array Value) (ds : TypeDesc) (hu : P.underlying ty = some ds) (hd : (match ds with | .struct _ | .array _ _ => true | _ => false) = true) (hi : (P.info? ty).map (·.size) = some cs.size)
    (hg : w0.heap[g]? = some (.cells cs t (0, 0))) (hx : a.eval x = .pointer (some ⟨g, 0, none⟩)) (hw : Region.wanted ⟨d, .load ty x, t', pos, after, gd⟩ (yielded ops a.tmps) = true) (h : wpQuiet P ops (Gr w0) Q rest (a.put d (.agg cs))) : wpQuiet P ops (Gr w0) Q (⟨d, .load ty x, t', pos, after, gd⟩ :: rest) a :=
  wpQg_run _ hw (fun w hw => by
    have hlt : g < w0.heap.size := by
      rcases Nat.lt_or_ge g w0.heap.size with h | h
      · exact h
      · rw [Array.getElem?_eq_none h] at hg; cases hg
    have hg' : w.heap[g]? = some (.cells cs t (0, 0)) := (hw.block g hlt).trans hg
    unfold execOp
    simp only [hx, Instr.loadAt, Instr.sureAddr, Sem.run_bind, Sem.run_pure, Result.andThen_ok, run_loadVar_row w g t ty cs (0, 0) ds hg' hu hd hi]) h
theorem wpQg_call {d : Option Tmp} {o : Oper} (f : FuncId) (args : Array Value) (v : Value) (hd : o.dst = d) (hg : Region.wanted o (yielded ops a.tmps) = true) (hr : ∀ w, (execOp a.eval o).run P w = .ok (.enter f args) w)
    (hc : ∀ w, Below w0.heap.size w0 w → Calls P f args w fun e w' => e = .returned v ∧ Below w.heap.size w w') (h : wpQuiet P ops (Gr w0) Q rest (a.put d v)) : wpQuiet P ops (Gr w0) Q (o :: rest) a := by
  subst hd
  unfold wpQuiet
  rw [if_pos hg]
  exact ⟨v, fun w hw => by unfold Oper.quietAt; rw [hr w]; exact ⟨rfl, (hc w hw).mono fun e w' ⟨h1, h2⟩ => ⟨h1, hw.trans (h2.mono hw.size)⟩⟩, h⟩

/-! ### the same steps in the class of worlds that the kit's own quiet steps walk in -/
end
end Go.Proofs.YtmekmlgpkbfjpaaGreatDoor

/- What the points' functions keep, put together: the statements' walks take it. -/
namespace Go.Proofs.YtmekmlgpkbfjpaaGreatDoor.C
open Go.RowKit Go.Sort Go.Proofs.YtmekmlgpkbfjpaaGreatDoor.F
set_option maxRecDepth 100000

/-! ### numbers of a point -/
structure N4.Lt (u : N4) : Prop where
  X : u.X < K256
  Y : u.Y < K256
  Z : u.Z < K256
  T : u.T < K256
theorem p_K : p25 < K256 := by decide
theorem Pn.lt {u : N4} {P : Pt} (h : Pn u P) : u.Lt := ⟨Nat.lt_trans h.lX p_K, Nat.lt_trans h.lY p_K, Nat.lt_trans h.lZ p_K, Nat.lt_trans h.lT p_K⟩
/-- x and y by a division -/
def N4.of (u : N4) : Pt := ⟨z (u.X * invN u.Z % p25), z (u.Y * invN u.Z % p25)⟩
theorem Pn.of {u : N4} {P : Pt} (h : Pn u P) : u.of = P := by
  obtain ⟨a, b⟩ := h.affine
  unfold N4.of
  rw [a, b, z_back, z_back]
theorem Pn.right {u : N4} {P : Pt} (h : Pn u P) : u.right = true := (right_iff u).2 ⟨P, h⟩
/-! ### zero, the base point, none -/
def zeroN : N4 := ⟨0, 1, 1, 0⟩
def baseN : N4 := ⟨bxN, byN, 1, bxN * byN % p25⟩
def noneN : N4 := ⟨0, 0, 0, 0⟩
theorem zero_pn : Pn zeroN Pt.zero := ⟨by decide, by decide, by decide, by decide, by rw [show z zeroN.X = 0 from z_zero, show z zeroN.Y = 1 from z_one, show z zeroN.Z = 1 from z_one]; exact Rep.zero, by
  rw [show z zeroN.X = 0 from z_zero, show z zeroN.Y = 1 from z_one, show z zeroN.Z = 1 from z_one, show z zeroN.T = 0 from z_zero]; grind, Pt.zero_on⟩
theorem one_pn {x y : Nat} (hx : x < p25) (hy : y < p25) (h : On (z x) (z y)) : Pn ⟨x, y, 1, x * y % p25⟩ ⟨z x, z y⟩ := ⟨hx, hy, (show 1 < p25 by decide), Nat.mod_lt _ p25_pos, by
  show Rep (z x) (z y) (z 1) ⟨z x, z y⟩
  rw [z_one]
  exact Rep.one ⟨z x, z y⟩, by
  show z x * z y = z 1 * z (x * y % p25)
  rw [z_mod, z_mul, z_one]
  grind, h⟩
theorem base_pn : Pn baseN Bp := one_pn (by decide) (by decide) Bp_on

/-! ### bytes -/
abbrev two255 : Nat := 57896044618658097711785492504343953926634992332820282019728792003956564819968
/-- a point's bytes: y's, the highest bit from x -/
def textN (P : Pt) : ByteArray := ⟨(leL (P.y.val + two255 * (P.x.val % 2)) 32).toArray⟩
/-- do these numbers tell a point? -/
def parseB (y : Nat) (odd : Bool) : Bool := decide (y < p25) && xB y && !(odd && decide (xE y = 0))
def parseN (y : Nat) (odd : Bool) : N4 := ⟨xOf y odd, y, 1, xOf y odd * y % p25⟩
theorem parse_pn {y : Nat} {odd : Bool} (h : parseB y odd = true) : Pn (parseN y odd) ⟨z (xOf y odd), z y⟩ := by
  unfold parseB at h
  simp only [Bool.and_eq_true, decide_eq_true_eq] at h
  exact one_pn (xOf_lt y odd) h.1.1 (xOf_on h.1.2 odd)

section
variable {w0 : World} {ops : Array Oper} {Q : Act → Prop} {a : Act} {rest : List Oper} {t' : TypeId} {pos : String} {after : Array Edge} {gd : Option (Nat × Bool)} {d : Option Tmp} {x : Operand}
end

/-! ### what the points' functions keep -/
structure PointOk : Prop where
  zero : ∀ (w : World), PtTab w → Calls Tryz.prog 143 #[] w fun e w' => e = .returned (pt zeroN) ∧ Below w.heap.size w w'
  base : ∀ (w : World), PtTab w → Calls Tryz.prog 89 #[] w fun e w' => e = .returned (pt baseN) ∧ Below w.heap.size w w'
  add : ∃ f : N4 → N4 → N4, (∀ u v P Q, Pn u P → Pn v Q → Pn (f u v) (P.add Q)) ∧ ∀ (u v : N4) (w : World), u.Lt → v.Lt → PtTab w → Calls Tryz.prog 66 #[pt u, pt v] w fun e w' =>
    e = .returned (if (u.right && v.right) = true then .tuple #[pt (f u v), .int .i64 0] else .tuple #[pt noneN, .int .i64 1]) ∧ Below w.heap.size w w'
  neg : ∃ f : N4 → N4, (∀ u P, Pn u P → Pn (f u) P.neg) ∧ ∀ (u : N4) (w : World), u.Lt → PtTab w → Calls Tryz.prog 65 #[pt u] w fun e w' =>
    e = .returned (if u.right = true then .tuple #[pt (f u), .int .i64 0] else .tuple #[pt noneN, .int .i64 1]) ∧ Below w.heap.size w w'
  mul : ∃ f : Nat → N4 → N4, (∀ n u P, n < K256 → Pn u P → Pn (f n u) (P.smul n)) ∧ ∀ (n : Nat) (u : N4) (w : World), n < K256 → u.Lt → PtTab w → Calls Tryz.prog 64 #[fe n, pt u] w fun e w' =>
    e = .returned (if u.right = true then .tuple #[pt (f n u), .int .i64 0] else .tuple #[pt noneN, .int .i64 1]) ∧ Below w.heap.size w w'
  bytes : ∀ (u : N4) (w : World), u.Lt → PtTab w → Calls Tryz.prog 88 #[pt u] w fun e w' =>
    e = .returned (if u.right = true then .tuple #[.string (textN u.of), .int .i64 0] else .tuple #[.string ByteArray.empty, .int .i64 1]) ∧ Below w.heap.size w w'
  parse : ∀ (s : ByteArray) (w : World), s.size ≤ 140737488355328 → PtTab2 w → Calls Tryz.prog 37 #[.string s] w fun e w' =>
    e = .returned (if s.size = 32 then if parseB (numLE s.data.toList % two255) (decide (two255 ≤ numLE s.data.toList)) = true then .tuple #[pt (parseN (numLE s.data.toList % two255) (decide (two255 ≤ numLE s.data.toList))), .int .i64 0] else .tuple #[pt noneN, .int .i64 10] else .tuple #[pt noneN, .int .i64 1]) ∧ Below w.heap.size w w'
end Go.Proofs.YtmekmlgpkbfjpaaGreatDoor.C

/- Some operations may come behind a store that does not wait for them ('x, e := f(..)' into a block: the extract of e; 'return x, a && b': the pick): whatever comes of a region in which the store waits for them comes of the region as it is. Nothing of the program is named here. -/
namespace Go.Proofs.YtmekmlgpkbfjpaaGreatDoor
open Go.Sort Go.RowKit

/-- operation j waits for operation i, too -/
def addEdge : List Oper → Nat → Nat → List Oper
  | [], _, _ => []
  | o :: l, 0, i => { o with after := o.after.push ⟨i, .data⟩ } :: l
  | o :: l, j + 1, i => o :: addEdge l j i
theorem addEdge_at : ∀ (l : List Oper) (j i k : Nat), (addEdge l j i)[k]? = if k = j then (l[k]?).map (fun o => { o with after := o.after.push ⟨i, .data⟩ }) else l[k]?
  | [], j, i, k => by simp [addEdge]
  | o :: l, 0, i, k => by cases k <;> simp [addEdge]
  | o :: l, j + 1, i, k => by
    cases k with
    | zero => simp [addEdge]
    | succ k => simp [addEdge, addEdge_at l j i k]
theorem addEdge_length : ∀ (l : List Oper) (j i : Nat), (addEdge l j i).length = l.length
  | [], _, _ => rfl
  | _ :: _, 0, _ => rfl
  | _ :: l, j + 1, i => by simp [addEdge, addEdge_length l j i]

/-- whoever waits for k waits for d -/
def reach (md : Region.Mode) (ops : Array Oper) : Nat → Nat → Nat → Bool
  | 0, _, _ => false
  | f + 1, k, d => match ops[k]? with
    | none => false
    | some o => o.after.any fun e => Region.binds md e && (e.on == d || reach md ops f e.on d)

/-- what does not hang on the world -/
def pureB (o : Oper) : Bool := match o.op with
  | .extract _ _ => true
  | .pick _ _ _ => true
  | _ => false

/-- operation i is such a one, and store j may wait for it -/
def lateB (md : Region.Mode) (ops : Array Oper) (i j : Nat) : Bool :=
  Region.noSelect ops && decide (i ≠ j) && decide (Region.binds md ⟨i, .data⟩ = true) && (match ops[i]? with
    | none => false
    | some oi => pureB oi && (oi.guard == none) && (oi.after.all fun e => !Region.binds md e || reach md ops ops.size j e.on) &&
      (List.range ops.size).all fun k => k == i || (oi.after.any fun e => Region.binds md e && e.on == k) || match ops[k]? with
        | none => true
        | some ok => (ok.after.any fun e => Region.binds md e && e.on == i) || oi.apart ops ok)

section
variable {P : Program} {Q : Exit → Act → World → Prop} {md : Region.Mode}

/-- what has come up has come up behind all that it waits for -/
structure Closed (md : Region.Mode) (ops : Array Oper) (listed : Array Bool) : Prop where
  size : listed.size = ops.size
  closed : ∀ k ok, ops[k]? = some ok → listed.getD k false = true → ∀ e ∈ ok.after, Region.binds md e = true → listed.getD e.on false = true
theorem Closed.set {ops : Array Oper} {listed : Array Bool} {i : Nat} (h : Closed md ops listed) (hr : i ∈ Region.ready md ops listed) : Closed md ops (listed.setIfInBounds i true) := by
  obtain ⟨hun, oi, hoi, hall⟩ := mem_ready.1 hr
  refine ⟨by simp [h.size], fun k ok hk hl e he hb => ?_⟩
  by_cases hki : k = i
  · subst hki
    obtain rfl : oi = ok := Option.some.inj (hoi.symm.trans hk)
    exact getD_set_true (hall e he hb)
  · rw [getD_set_ne false (Ne.symm hki)] at hl
    exact getD_set_true (h.closed k ok hk hl e he hb)
theorem reach_listed {ops : Array Oper} {listed : Array Bool} (h : Closed md ops listed) : ∀ (f k d : Nat) (ok : Oper), ops[k]? = some ok → (∀ e ∈ ok.after, Region.binds md e = true → listed.getD e.on false = true) → reach md ops f k d = true → listed.getD d false = true
  | 0, _, _, _, _, _, hr => by cases hr
  | f + 1, k, d, ok, hk, hall, hr => by
    unfold reach at hr
    simp only [hk] at hr
    obtain ⟨e, he, hp⟩ := Array.any_eq_true'.1 hr
    simp only [Bool.and_eq_true, Bool.or_eq_true, beq_iff_eq] at hp
    obtain ⟨hb, hp⟩ := hp
    have hl := hall e he hb
    rcases hp with hp | hp
    · rw [← hp]; exact hl
    · cases ho : ops[e.on]? with
      | none => cases f <;> simp [reach, ho] at hp
      | some oe => exact reach_listed h f e.on d oe ho (h.closed e.on oe ho hl) hp

/-- such an operation yields one value in whatever world -/
theorem pure_yields {o : Oper} {a : Act} {w : World} {K : Act → World → Prop} (hp : pureB o = true) (h : o.wp P a w K Q ∨ (o.asks P a w ∧ LetsOut Q)) :
    ∃ v, (∀ w', (execOp a.eval o).run P w' = .ok (.value v) w') ∧ K (a.put o.dst v) w := by
  obtain ⟨dst, op, type, pos, after, guard⟩ := o
  cases op <;> simp only [pureB] at hp <;> try (cases hp; done)
  case pick c x y =>
    unfold Oper.wp Oper.asks at h
    simp only [execOp] at h ⊢
    cases hc : a.eval c
    case bool b =>
      rw [hc] at h
      refine ⟨if b then a.eval x else a.eval y, fun w' => by simp [asBool], ?_⟩
      rcases h with h | ⟨h, _⟩
      · simpa [asBool, Oper.upon] using h
      · exact absurd h.1 (by first | (change ¬ noRoomEvent ∈ #[]; simp) | simp [asBool, Instr.extract, Sem.runT])
    all_goals
      rw [hc] at h
      rcases h with h | ⟨h, _⟩
      · simp [asBool, Oper.upon] at h
      · exact absurd h.1 (by first | (change ¬ noRoomEvent ∈ #[]; simp) | simp [asBool, Instr.extract, Sem.runT])
  case extract t ix =>
    unfold Oper.wp Oper.asks at h
    simp only [execOp] at h ⊢
    cases hc : a.eval t
    case tuple vs =>
      rw [hc] at h
      cases hv : vs[ix]? with
      | some v =>
        refine ⟨v, fun w' => by simp [Instr.extract, hv], ?_⟩
        rw [show (Instr.extract (.tuple vs) ix : Sem Value) = pure v by simp [Instr.extract, hv]] at h
        rcases h with h | ⟨h, _⟩
        · simpa [Instr.extract, hv, Oper.upon] using h
        · exact absurd h.1 (by first | (change ¬ noRoomEvent ∈ #[]; simp) | simp [asBool, Instr.extract, Sem.runT])
      | none =>
        rw [show (Instr.extract (.tuple vs) ix : Sem Value) = stuck "Extract: no such component" by simp [Instr.extract, hv]] at h
        rcases h with h | ⟨h, _⟩
        · simp [Oper.upon] at h
        · exact absurd h.1 (by change ¬ noRoomEvent ∈ #[]; simp)
    all_goals
      rw [hc] at h
      rcases h with h | ⟨h, _⟩
      · simp [Instr.extract, Oper.upon] at h
      · exact absurd h.1 (by first | (change ¬ noRoomEvent ∈ #[]; simp) | simp [asBool, Instr.extract, Sem.runT])

variable {l : List Oper} {i j : Nat}
theorem yielded_edge : yielded (addEdge l j i).toArray = yielded l.toArray := by
  funext tmps g
  have h : ((addEdge l j i).toArray[g]?).bind (·.dst) = (l.toArray[g]?).bind (·.dst) := by
    rw [List.getElem?_toArray, List.getElem?_toArray, addEdge_at]
    split
    · cases l[g]? <;> rfl
    · rfl
  unfold yielded
  rw [h]
/-- whatever order is picked -/
theorem wpAny_late (hB : lateB md l.toArray i j = true) (hQ : ∀ c d v (a : Act) (w : World), Q (.panic c) (a.put d v) w → Q (.panic c) a w) :
    ∀ (f : Nat) (listed : Array Bool) (a : Act) (w : World), Closed md l.toArray listed → wpAny P md (addEdge l j i).toArray Q f listed a w → wpAny P md l.toArray Q f listed a w := by
  simp only [lateB, Bool.and_eq_true, decide_eq_true_eq] at hB
  obtain ⟨⟨⟨hsel, hij⟩, _⟩, hB⟩ := hB
  obtain ⟨oi, hoi⟩ : ∃ oi, l.toArray[i]? = some oi := by
    cases h : l.toArray[i]? with
    | none => rw [h] at hB; cases hB
    | some o => exact ⟨o, rfl⟩
  rw [hoi] at hB
  simp only [Bool.and_eq_true] at hB
  obtain ⟨⟨⟨hp, hg⟩, hd⟩, hfree⟩ := hB
  have hg' : oi.guard = none := by simpa using hg
  have hat := addEdge_at l j i
  have hat' : ∀ k, (addEdge l j i).toArray[k]? = if k = j then (l.toArray[k]?).map (fun o => { o with after := o.after.push ⟨i, .data⟩ }) else l.toArray[k]? := fun k => by
    rw [List.getElem?_toArray, List.getElem?_toArray, hat]
  have hdeps : ∀ (listed : Array Bool) (oj : Oper), Closed md l.toArray listed → l.toArray[j]? = some oj → (∀ e ∈ oj.after, Region.binds md e = true → listed.getD e.on false = true) → ∀ e ∈ oi.after, Region.binds md e = true → listed.getD e.on false = true := fun listed oj hc hj hall e he hb => by
    have h1 := Array.all_eq_true_iff_forall_mem.1 hd e he
    rw [hb] at h1
    exact reach_listed hc _ j e.on oj hj hall (by simpa using h1)
  have hready : ∀ listed, Closed md l.toArray listed → i ∉ Region.ready md l.toArray listed → ∀ k, k ∈ Region.ready md l.toArray listed ↔ k ∈ Region.ready md (addEdge l j i).toArray listed := fun listed hc hni k => by
    rw [mem_ready, mem_ready]
    constructor
    · rintro ⟨hun, ok, hk, hall⟩
      refine ⟨hun, ?_⟩
      by_cases hkj : k = j
      · subst hkj
        refine ⟨{ ok with after := ok.after.push ⟨i, .data⟩ }, by rw [hat', if_pos rfl, hk]; rfl, fun e he hb => ?_⟩
        rcases Array.mem_push.1 he with he | rfl
        · exact hall e he hb
        · cases hli : listed.getD i false with
          | true => rfl
          | false =>
            have hlt : i < listed.size := by rw [hc.size]; exact (Array.getElem?_eq_some_iff.1 hoi).1
            exact absurd (mem_ready.2 ⟨getD_in hlt hli, oi, hoi, hdeps listed ok hc hk hall⟩) hni
      · exact ⟨ok, by rw [hat', if_neg hkj]; exact hk, hall⟩
    · rintro ⟨hun, ok, hk, hall⟩
      refine ⟨hun, ?_⟩
      rw [hat'] at hk
      split at hk
      · cases ho : l.toArray[k]? with
        | none => rw [ho] at hk; cases hk
        | some o =>
          rw [ho] at hk
          obtain rfl := Option.some.inj hk
          exact ⟨o, rfl, fun e he hb => hall e (Array.mem_push.2 (.inl he)) hb⟩
      · exact ⟨ok, hk, hall⟩
  have hone : ∀ k K a w, wpOp P (addEdge l j i).toArray Q k K a w → wpOp P l.toArray Q k K a w := fun k K a w h => by
    unfold wpOp at h ⊢
    rw [hat'] at h
    rw [yielded_edge] at h
    split at h
    · rename_i hn
      split at hn
      · cases ho : l.toArray[k]? with
        | none => exact h
        | some o => rw [ho] at hn; cases hn
      · rw [hn]; exact h
    · rename_i o hn
      split at hn
      · cases ho : l.toArray[k]? with
        | none => rw [ho] at hn; cases hn
        | some o2 =>
          rw [ho] at hn
          obtain rfl := Option.some.inj hn
          exact h
      · rw [hn]; exact h
  intro f
  induction f with
  | zero =>
    intro listed a w hc h
    have hni : i ∉ Region.ready md l.toArray listed := fun hr => by
      obtain ⟨hun, o, ho, hall⟩ := mem_ready.1 hr
      have : i ∈ Region.ready md (addEdge l j i).toArray listed := mem_ready.2 ⟨hun, o, by rw [hat', if_neg hij]; exact ho, hall⟩
      rw [h.1] at this
      cases this
    refine ⟨List.eq_nil_iff_forall_not_mem.2 fun k hk => ?_, h.2⟩
    have := (hready listed hc hni k).1 hk
    rw [h.1] at this
    cases this
  | succ f ih =>
    intro listed a w hc h
    by_cases hi : i ∈ Region.ready md l.toArray listed
    · have hi' : i ∈ Region.ready md (addEdge l j i).toArray listed := by
        obtain ⟨hun, o, ho, hall⟩ := mem_ready.1 hi
        exact mem_ready.2 ⟨hun, o, by rw [hat', if_neg hij]; exact ho, hall⟩
      have h1 := hone i _ a w (h.2 i hi')
      unfold wpOp at h1
      rw [hoi] at h1
      have hw : Region.wanted oi (yielded l.toArray a.tmps) = true := by unfold Region.wanted; rw [hg']
      simp only [hw, if_true] at h1
      obtain ⟨v, hv, hK⟩ := pure_yields hp h1
      refine wpAny_first hoi (Region.noSelect_spec hsel) (fun c a w h => hQ c _ _ a w h) f listed a w (fun k ok hk hki hun hno => ?_) hi (.inl ⟨hw, hv⟩) (ih _ _ _ (hc.set hi) hK)
      have h2 := List.all_eq_true.1 hfree k (List.mem_range.2 (Array.getElem?_eq_some_iff.1 hk).1)
      rw [hk] at h2
      simp only [Bool.or_eq_true, beq_iff_eq] at h2
      rcases h2 with (h2 | h2) | h2 | h2
      · exact absurd h2 hki
      · obtain ⟨e, he, hq⟩ := Array.any_eq_true'.1 h2
        simp only [Bool.and_eq_true, beq_iff_eq] at hq
        obtain ⟨_, o3, ho3, hall⟩ := mem_ready.1 hi
        rw [hoi] at ho3
        obtain rfl := Option.some.inj ho3
        have h3 := hall e he hq.1
        rw [hq.2] at h3
        have h4 := getD_both hun
        rw [h3] at h4
        cases h4
      · obtain ⟨e, he, hp⟩ := Array.any_eq_true'.1 h2
        simp only [Bool.and_eq_true, beq_iff_eq] at hp
        exact absurd hp.2 (hno e he hp.1)
      · exact h2
    · have he := hready listed hc hi
      refine ⟨fun hr => h.1 (List.eq_nil_iff_forall_not_mem.2 fun k hk => ?_), fun k hk => ?_⟩
      · have := (he k).2 hk
        rw [hr] at this
        cases this
      · exact wpOp_mono (fun a' w' h' => ih _ a' w' (hc.set hk) h') (hone k _ a w (h.2 k ((he k).1 hk)))
theorem closed_none (n : Nat) {ops : Array Oper} (h : ops.size = n) : Closed md ops (Array.replicate n false) :=
  ⟨by simp [h], fun k ok _ hl => by rw [getD_replicate_false] at hl; cases hl⟩
end

/-! ### the regions' laws -/
/-- no panic -/
def Calm (Q : Exit → Act → World → Prop) : Exit → Act → World → Prop
  | .panic _, _, _ => False
  | e, a, w => Q e a w
theorem calm_then {K : Act → World → Prop} {Q : Exit → Act → World → Prop} : ∀ (e : Exit) (a : Act) (w : World), Exit.then K (Calm Q) e a w → Exit.then K Q e a w := fun e a w h => by
  cases e <;> first | exact h | exact (h : False).elim
theorem calm_panic {K : Act → World → Prop} {Q : Exit → Act → World → Prop} : ∀ c d v (a : Act) (w : World), Exit.then K (Calm Q) (.panic c) (a.put d v) w → Exit.then K (Calm Q) (.panic c) a w := fun _ _ _ _ _ h => (h : False).elim
theorem wp_region_made_late {P : Program} {id : Nat} {K : Act → World → Prop} {Q : Exit → Act → World → Prop} {a : Act} {w : World} {l : List Oper} (i j n : Nat) (d : Tmp) (oa : Oper) (t : TypeId) (z : Array Value) (hoa : (addEdge l j i).toArray[n]? = some oa) (hd : oa.dst = some d) (hm : P.follows .mixedOrders = true) (hL : lateB .any l.toArray i j = true) (hB : lexAllocB .any (addEdge l j i).toArray n = true)
    (hal : ∀ (a : Act) (w : World), (execOp a.eval oa).run P w = .ok (.value (.pointer (some ⟨w.heap.size, 0, none⟩))) (w.alloc (.cells z t)))
    (h : wpQB P w (fun a' => ∀ k w', Below w.heap.size w w' → w.heap.size ≤ k → w'.heap[k]? = some (.cells z t (0, 0)) → wpList P (addEdge l j i).toArray (Exit.then K (Calm Q)) ((addEdge l j i).drop (n + 1)) (a'.put (some d) (.pointer (some ⟨k, 0, none⟩))) w') ((addEdge l j i).take n) a) :
    (Code.region id l.toArray true).wp P (Exit.then K Q) a w := by
  refine Code.wp_mono (Q := Exit.then K (Calm Q)) calm_then (wp_region_any hm (wpAny_late hL calm_panic _ _ _ _ (closed_none _ rfl) ?_))
  have := any_made n d oa t z hoa hd hB hal h
  rwa [List.size_toArray, addEdge_length] at this
end Go.Proofs.YtmekmlgpkbfjpaaGreatDoor

/- The scalars' own type of numbers, L, and the variable that holds it, beside the field's texts. -/
namespace Go.Proofs.YtmekmlgpkbfjpaaGreatDoor.G
open Go.Proofs.YtmekmlgpkbfjpaaGreatDoor.F
open Go.RowKit

theorem rowFe : RowT Tryz.prog 67 4 := ⟨⟨_, Tryz.underlying67, rfl⟩, by kernel_rfl⟩
/-- L, the order of the base point -/
def l25 : Nat := 7237005577332262213973186563042994240857116359379907606001950938285454250989
theorem l25_pos : 0 < l25 := by decide
theorem modL_K (n : Nat) : n % l25 < K256 := Nat.lt_trans (Nat.mod_lt _ l25_pos) (by decide)
/-- the variable that holds L does -/
def Tab (w : World) : Prop := ∀ i, i < 4 → w.cell? ⟨9, i, none⟩ = some (w64 (wordN l25 i))
theorem Tab.on {w w' : World} (h : Tab w) (hb : Below w.heap.size w w') : Tab w' := fun i hi => by
  have h1 := h i hi
  exact (hb.cell (p := ⟨9, i, none⟩) (World.block_lt_of_cell? w _ h1)).trans h1
end Go.Proofs.YtmekmlgpkbfjpaaGreatDoor.G

/- The contracts of the reference's Power and Inv. -/
namespace Go.Proofs.YtmekmlgpkbfjpaaGreatDoor.F
open Go.RowKit Go.Sort
set_option maxRecDepth 100000
attribute [local irreducible] feA
theorem pow_zero (x : Nat) : powN x 0 = 1 := by rw [powN_eq, Nat.pow_zero]; decide
end Go.Proofs.YtmekmlgpkbfjpaaGreatDoor.F

