/- Texts that stand on one another, put together: ROnes, RTake, RLeaf, Region, RegionA, CQuiet, Late, Rel, RAdd. -/
import Derived.Test.YtdjglghecekeoaaGreatDoorV5
import Derived.ArgAppend
import Derived.Deep.MidRow
import Derived.Laws.Bits128
import Derived.Laws.BitsAllLaws
import Derived.Laws.Rows
import Derived.Lib.QuietBelow
import Derived.StillTail
/- How many bits are 1: the contract of the library's OnesCount, of small numbers. -/
namespace Go.Proofs.YtdjglghecekeoaaGreatDoor.R
open Go.RowKit Go.Sort Go.Proofs.YtdjglghecekeoaaGreatDoor.U
set_option maxRecDepth 100000

def q1 (n : Nat) : Nat := ((n / 2 &&& 6148914691236517205) + (n &&& 6148914691236517205)) % 18446744073709551616
def q2 (n : Nat) : Nat := ((n / 4 &&& 3689348814741910323) + (n &&& 3689348814741910323)) % 18446744073709551616
def q3 (n : Nat) : Nat := (n / 16 + n) % 18446744073709551616 &&& 1085102592571150095
def q4 (n : Nat) : Nat := (n + n / 256) % 18446744073709551616
def q5 (n : Nat) : Nat := (n + n / 65536) % 18446744073709551616
def q6 (n : Nat) : Nat := (n + n / 4294967296) % 18446744073709551616
def q7 (n : Nat) : Nat := n % 128
theorem wrapN (a : Nat) : IntKind.u64.wrap (a : Int) = ((a % 18446744073709551616 : Nat) : Int) := by rw [IntKind.wrap_u64]; omega
theorem andN (a b : Nat) (ha : a < 18446744073709551616) (hb : b < 18446744073709551616) : bits BinOp.and IntKind.u64 (a : Int) (b : Int) = ((a &&& b : Nat) : Int) := u64_and_nat a b ha hb
theorem e1 (n : Nat) (h : n < 18446744073709551616) : IntKind.u64.wrap (bits BinOp.and IntKind.u64 ((n : Int) / 2) 6148914691236517205 + bits BinOp.and IntKind.u64 (n : Int) 6148914691236517205) = ((q1 n : Nat) : Int) := by
  rw [show ((n : Int) / 2) = ((n / 2 : Nat) : Int) by omega, show (6148914691236517205 : Int) = ((6148914691236517205 : Nat) : Int) from rfl, andN _ _ (by omega) (by decide), andN _ _ h (by decide), ← Int.natCast_add, wrapN]
  rfl
theorem e2 (n : Nat) (h : n < 18446744073709551616) : IntKind.u64.wrap (bits BinOp.and IntKind.u64 ((n : Int) / 4) 3689348814741910323 + bits BinOp.and IntKind.u64 (n : Int) 3689348814741910323) = ((q2 n : Nat) : Int) := by
  rw [show ((n : Int) / 4) = ((n / 4 : Nat) : Int) by omega, show (3689348814741910323 : Int) = ((3689348814741910323 : Nat) : Int) from rfl, andN _ _ (by omega) (by decide), andN _ _ h (by decide), ← Int.natCast_add, wrapN]
  rfl
theorem e3 (n : Nat) : bits BinOp.and IntKind.u64 (IntKind.u64.wrap ((n : Int) / 16 + (n : Int))) 1085102592571150095 = ((q3 n : Nat) : Int) := by
  rw [show ((n : Int) / 16) = ((n / 16 : Nat) : Int) by omega, show (1085102592571150095 : Int) = ((1085102592571150095 : Nat) : Int) from rfl, ← Int.natCast_add, wrapN, andN _ _ (Nat.mod_lt _ (by decide)) (by decide)]
  rfl
theorem e4 (n : Nat) : IntKind.u64.wrap ((n : Int) + (n : Int) / 256) = ((q4 n : Nat) : Int) := by
  rw [show ((n : Int) / 256) = ((n / 256 : Nat) : Int) by omega, ← Int.natCast_add, wrapN]
  rfl
theorem e5 (n : Nat) : IntKind.u64.wrap ((n : Int) + (n : Int) / 65536) = ((q5 n : Nat) : Int) := by
  rw [show ((n : Int) / 65536) = ((n / 65536 : Nat) : Int) by omega, ← Int.natCast_add, wrapN]
  rfl
theorem e6 (n : Nat) : IntKind.u64.wrap ((n : Int) + (n : Int) / 4294967296) = ((q6 n : Nat) : Int) := by
  rw [show ((n : Int) / 4294967296) = ((n / 4294967296 : Nat) : Int) by omega, ← Int.natCast_add, wrapN]
  rfl
theorem e7 (n : Nat) : bits BinOp.and IntKind.i64 (wrap64 (n : Int)) 127 = ((q7 n : Nat) : Int) := by
  rw [i64_and127]
  unfold q7 wrap64
  omega

end Go.Proofs.YtdjglghecekeoaaGreatDoor.R

/- A tree that works: its parts made one; a leaf more. -/
namespace Go.Proofs.YtdjglghecekeoaaGreatDoor.R
open Go.RowKit Go.Sort Go.Proofs.YtdjglghecekeoaaGreatDoor.U
set_option maxRecDepth 100000

theorem infoStr : (Tryz.prog.info? 9).map (fun i => (i.zero, i.size, i.bytes)) = some (some (.string ByteArray.empty), 1, 16) := by kernel_rfl
/-- a row that the call owns, or one of nothing, without room -/
def Own (w : World) (B : Nat) (v : Value) (ps : List (List UInt8)) : Prop :=
  (∃ a, v = .slice a 0 0 ∧ ps = []) ∨ ∃ gp cap, v = .slice (some ⟨gp, 0, none⟩) ps.length cap ∧ w.ownsRow B 9 1 v ps.length (ps.map str)
theorem Own.strs {w : World} {B : Nat} {v : Value} {ps : List (List UInt8)} (h : Own w B v ps) : Strs w v ps := by
  rcases h with ⟨a, rfl, rfl⟩ | ⟨gp, cap, rfl, h⟩
  · exact ⟨a, 0, rfl, Nat.le_refl _, Nat.zero_le _, fun _ => rfl, fun h => absurd rfl h⟩
  · exact Strs.owned h
theorem Own.on {w w' : World} {B : Nat} {v : Value} {ps : List (List UInt8)} (h : Own w B v ps) (hb : Below w.heap.size w w') : Own w' B v ps := by
  rcases h with ⟨a, rfl, rfl⟩ | ⟨gp, cap, rfl, h⟩
  · exact .inl ⟨a, rfl, rfl⟩
  · exact .inr ⟨gp, cap, rfl, own_on h hb⟩
theorem own_block {w : World} {B : Nat} {e : TypeId} {g n cap : Nat} {xs : List Value} (h : w.ownsRow B e 1 (.slice (some ⟨g, 0, none⟩) n cap) n xs) : B ≤ g ∧ g < w.heap.size := h.lt g rfl

/-! ### the root -/
end Go.Proofs.YtdjglghecekeoaaGreatDoor.R

/- A tree that works: one leaf more. -/
namespace Go.Proofs.YtdjglghecekeoaaGreatDoor.R
open Go.RowKit Go.Sort Go.Proofs.YtdjglghecekeoaaGreatDoor.U
set_option maxRecDepth 100000

/-- blocks of another type are as they were -/
def Kept (w w' : World) : Prop := ∀ g t cs, t ≠ 9 → Lies w g t cs → Lies w' g t cs
theorem Kept.on {w w1 w2 : World} (h : Kept w w1) (hb : Below w1.heap.size w1 w2) : Kept w w2 := fun g t cs ht hl => (h g t cs ht hl).on hb
theorem Kept.refl (w : World) : Kept w w := fun _ _ _ _ h => h

/-- one text goes behind a row that the call owns -/
theorem wpL_appendS {ops : Array Oper} {rest : List Oper} {a : Act} {w : World} {Q : Exit → Act → World → Prop} {t' : TypeId} {pos : String} {after : Array Edge} {d : Option Tmp} {x y : Tmp}
    (B : Nat) (v : Value) (ps : List (List UInt8)) (n0 : Nat) (z : List UInt8) (b : Nat) (hn0 : ps.length = n0) (hown : Own w B v ps) (hl : Lies w b 9 #[.string ⟨z.toArray⟩]) (hps : ps.length ≤ 100000) (hB : B ≤ w.heap.size)
    (hs : a.eval (.tmp x) = v) (hx : a.eval (.tmp y) = .slice (some ⟨b, 0, none⟩) 1 1)
    (h : ∀ g2 c2 w', Own w' B (.slice (some ⟨g2, 0, none⟩) (n0 + 1) c2) (ps ++ [z]) → Below B w w' → Kept w w' → wpList Tryz.prog ops Q rest (a.put d (.slice (some ⟨g2, 0, none⟩) (n0 + 1) c2)) w') :
    wpList Tryz.prog ops Q (⟨d, .call { callee := .builtin .append, args := #[.tmp x, .tmp y], argTypes := #[43, 43] }, t', pos, after, none⟩ :: rest) a w := by
  obtain ⟨i0, hi, hz0, hz1, hz2⟩ := info_parts infoStr
  subst hn0
  rcases hown with ⟨ao, rfl, rfl⟩ | ⟨gp, cap, rfl, hown⟩
  · refine wpList_append_grows w rfl _ _ 43 rfl 9 i0 _ 1 16 Tryz.underlying43 hi hz0 hz1 hz2 rfl (by decide) ao 0 0 [] hs (fun _ => ⟨rfl, rfl⟩) rfl (fun _ _ j u hj => by cases hj) ⟨b, 0, none⟩ 1 1 [.string ⟨z.toArray⟩] hx rfl (World.news_of_block hl) (by simp [Value.oneCell']) (by decide) (by decide) (by decide) ?_
    intro v' w' ho hg
    obtain ⟨g2, c2, rfl, _⟩ := ho.form (by decide)
    refine h g2 c2 w' (.inr ⟨g2, c2, rfl, own_less ho hB⟩) ((Below.refl B w).grown hg hB (fun k hk => by cases hk)) (fun g t cs _ hl => hl.only hg (by simp))
  · refine wpL_append (P := Tryz.prog) B 9 i0 _ 16 Tryz.underlying43 hi hz0 hz1 hz2 rfl _ ps.length _ hown b (.string ⟨z.toArray⟩) hl rfl (by unfold maxLen; omega) (by omega) hB hs hx ?_
    intro g2 c2 w' ho hg
    have hlt := own_block hown
    refine h g2 c2 w' (.inr ⟨g2, c2, by rw [List.length_append]; rfl, ?_⟩) ((Below.refl B w).grown hg hB (fun k hk => by cases hk; exact hlt.1)) (fun g t cs ht hl => hl.only hg (fun e => own_far hown hl (Ne.symm ht) e.symm))
    rw [List.length_append, List.map_append]
    exact ho

theorem Own.only {w w' : World} {B g : Nat} {t : TypeId} {cs : Array Value} {v : Value} {ps : List (List UInt8)} (h : Own w B v ps) (hl : Lies w g t cs) (ht : t ≠ 9) (hO : Only g w w') : Own w' B v ps := by
  rcases h with ⟨a, rfl, rfl⟩ | ⟨gp, cap, rfl, h⟩
  · exact .inl ⟨a, rfl, rfl⟩
  · refine .inr ⟨gp, cap, rfl, own_grown h hO (fun g' hg' e => ?_)⟩
    have := own_far h hl (Ne.symm ht)
    rw [hg'] at this
    injection e with e
    exact this (by rw [e])

end Go.Proofs.YtdjglghecekeoaaGreatDoor.R

/- A region that draws its order, whose head only reads and calls what only makes memory, and whose tail comes in the text's order: walked once. Nothing of the program is named here. -/
namespace Go.Proofs.YtdjglghecekeoaaGreatDoor
open Go.Sort Go.RowKit

section
variable {P : Program} {ops : Array Oper} {md : Region.Mode} {C : World → Prop}

/-- whatever order the head is picked in -/
def wpAnyQL (P : Program) (md : Region.Mode) (ops : Array Oper) (C : World → Prop) (n : Nat) (L : Array Bool → Act → Prop) : Nat → Array Bool → Act → Prop
  | 0, listed, a => L listed a
  | f + 1, listed, a => Region.ready md ops listed ≠ [] ∧ ∀ i ∈ Region.ready md ops listed, i < n ∧ qOp P ops C i (wpAnyQL P md ops C n L f (listed.setIfInBounds i true)) a

theorem wpAny_of_headQ {n g : Nat} {L : Array Bool → Act → Prop} {Q' : Exit → Act → World → Prop} (hL : ∀ listed a w, C w → L listed a → wpAny P md ops Q' g listed a w) :
    ∀ (f : Nat) (listed : Array Bool) (a : Act) (w : World), C w → wpAnyQL P md ops C n L f listed a → wpAny P md ops Q' (f + g) listed a w
  | 0, listed, a, w, hw, h => by rw [Nat.zero_add]; exact hL _ _ _ hw h
  | f + 1, listed, a, w, hw, h => by
    rw [show f + 1 + g = (f + g) + 1 by omega]
    exact ⟨fun h0 => absurd h0 h.1, fun i hi => wpOp_of_qOp hw (fun a' w' hw' h' => wpAny_of_headQ hL f _ a' w' hw' h') (h.2 i hi).2⟩

theorem wpAnyQL_first {n i : Nat} {oi : Oper} {v : Value} {L : Array Bool → Act → Prop} (hi : ops[i]? = some oi) (hsel : ∀ (j : Nat) (o : Oper) cs b, ops[j]? = some o → o.op ≠ .select cs b)
    (hs : Region.sinkB md ops n = true) (hc : Region.chainB md ops n = true) (hn : n < ops.size) (hin : i < n)
    (hdone : ∀ listed a, L listed a → ∀ j ∈ Region.ready md ops listed, n ≤ j) :
    ∀ (f : Nat) (listed : Array Bool) (a : Act), HeadInv md ops n listed →
      (∀ j oj, ops[j]? = some oj → j ≠ i → listed.getD j true = false → (∀ e ∈ oj.after, Region.binds md e = true → e.on ≠ i) → oi.apart ops oj = true) →
      i ∈ Region.ready md ops listed → YieldsIn P ops C oi v a →
      wpAnyQL P md ops C n L f (listed.setIfInBounds i true) (a.put oi.dst v) → wpAnyQL P md ops C n L (f + 1) listed a := by
  intro f
  induction f with
  | zero =>
    intro listed a inv _ hr hy H
    have hun := (mem_ready.1 hr).1
    refine ⟨fun h => (by rw [h] at hr; cases hr), fun j hj => ?_⟩
    have hjn : j < n := by
      rcases Nat.lt_or_ge j n with h | h
      · exact h
      · exact absurd hj (tail_waits hs hc hn inv _ i rfl hin hun j h)
    refine ⟨hjn, ?_⟩
    by_cases hji : j = i
    · subst hji; exact hy.qOp hi H
    · have := hdone _ _ H j (ready_mono hj hji)
      omega
  | succ f ih =>
    intro listed a inv hfree hr hy H
    have hun := (mem_ready.1 hr).1
    refine ⟨fun h => (by rw [h] at hr; cases hr), fun j hj => ?_⟩
    have hjn : j < n := by
      rcases Nat.lt_or_ge j n with h | h
      · exact h
      · exact absurd hj (tail_waits hs hc hn inv _ i rfl hin hun j h)
    refine ⟨hjn, ?_⟩
    by_cases hji : j = i
    · subst hji; exact hy.qOp hi H
    · have h1 := (H.2 j (ready_mono hj hji)).2
      obtain ⟨hjun, oj, hoj, hall⟩ := mem_ready.1 hj
      have hnot : ∀ e ∈ oj.after, Region.binds md e = true → e.on ≠ i := fun e he hb heq => by
        have h1 := hall e he hb
        rw [heq, getD_both hun] at h1
        cases h1
      have h2 := qOp_put hoj (hfree j oj hoj hji hjun hnot) (fun cs b => hsel i oi cs b hi) (fun cs b => hsel j oj cs b hoj) hy h1
      have hfree' : ∀ k ok, ops[k]? = some ok → k ≠ i → (listed.setIfInBounds j true).getD k true = false →
          (∀ e ∈ ok.after, Region.binds md e = true → e.on ≠ i) → oi.apart ops ok = true := fun k ok hk hki hun hno => by
        refine hfree k ok hk hki ?_ hno
        by_cases hjk : j = k
        · subst hjk; exact hjun
        · rw [getD_set_ne true hjk] at hun; exact hun
      refine qOp_mono (fun a' h3 => ih (listed.setIfInBounds j true) a' (inv.set hj hjn) hfree' (ready_mono hr (Ne.symm hji)) h3.1 ?_) h2
      rw [Array.setIfInBounds_comm _ _ hji]
      exact h3.2

theorem wpAnyQL_lex {n g : Nat} {Lq : Act → Prop} (hsel : Region.noSelect ops = true) (hs : Region.sinkB md ops n = true) (hc : Region.chainB md ops n = true) (hn : n < ops.size) :
    ∀ (l : List Oper) (k : Nat) (listed : Array Bool) (a : Act), (∀ j, j < l.length → l[j]? = ops[k + j]?) → k + l.length = n → HeadInv md ops n listed →
    Region.lexHead md ops g l.length k listed = true → wpQuiet P ops C Lq l a →
    wpAnyQL P md ops C n (fun listed' a' => Region.seqB md ops g n listed' = true ∧ Lq a') l.length listed a
  | [], k, listed, a, _, hk, _, hB, h => by
    have : k = n := by simpa using hk
    subst this
    exact ⟨by simpa [Region.lexHead] using hB, h⟩
  | o :: l, k, listed, a, hl, hk, inv, hB, h => by
    have h0 : ops[k]? = some o := by simpa using (hl 0 (by simp)).symm
    simp only [List.length_cons, Region.lexHead, Bool.and_eq_true] at hB
    obtain ⟨⟨hr, hf⟩, hB'⟩ := hB
    have hkn : k < n := by simp only [List.length_cons] at hk; omega
    have hr' : k ∈ Region.ready md ops listed := by simpa using hr
    have hst : qOp P ops C k (wpQuiet P ops C Lq l) a := by unfold qOp; simp only [h0]; exact h
    obtain ⟨v, hy, hK⟩ := yieldsIn_of_qOp h0 hst
    exact wpAnyQL_first h0 (Region.noSelect_spec hsel) hs hc hn hkn (fun listed' a' hL => seqB_ready hL.1) l.length listed a inv (Region.free_spec h0 hf) hr' hy
      (wpAnyQL_lex hsel hs hc hn l (k + 1) _ _ (fun j hj => by have := hl (j + 1) (by simp; omega); simpa [Nat.add_assoc, Nat.add_comm 1 j] using this) (by simp only [List.length_cons] at hk; omega) (inv.set hr' hkn) hB' hK)

/-- a head that is quiet in a class of worlds, a tail in the text's order -/
theorem any_quiet_tail {Q : Exit → Act → World → Prop} {a : Act} {w : World} {l : List Oper} (n : Nat) (hB : Region.lexTailB .any l.toArray n = true) (hC : C { w with drawn := w.drawn + 1 })
    (h : wpQuiet P l.toArray C (fun a' => ∀ w', C w' → wpList P l.toArray Q (l.drop n) a' w') (l.take n) a) : wpAny P .any l.toArray Q l.toArray.size (Array.replicate l.toArray.size false) a { w with drawn := w.drawn + 1 } := by
  simp only [Region.lexTailB, Bool.and_eq_true, decide_eq_true_eq] at hB
  obtain ⟨⟨⟨⟨hsel, hn⟩, hs⟩, hc⟩, hlex⟩ := hB
  have hn' : n < l.length := by simpa using hn
  have htl : (l.take n).length = n := by simp; omega
  have hdl : (l.drop n).length = l.toArray.size - n := by simp
  have inv0 : HeadInv .any l.toArray n (Array.replicate l.toArray.size false) :=
    ⟨by simp, fun j oj _ hl => (by rw [getD_replicate_false] at hl; cases hl), fun t _ ht => getD_in (by simpa using ht) (getD_replicate_false _ _)⟩
  have H := wpAnyQL_lex (md := .any) (g := l.toArray.size - n) hsel hs hc hn (l.take n) 0 _ a (fun j hj => by
    have hj' : j < n := by rw [htl] at hj; exact hj
    simp [hj']) (by simpa using htl) inv0 (by rw [htl]; exact hlex) h
  have := wpAny_of_headQ (Q' := Q) (g := l.toArray.size - n) (fun listed a' w' hw' hL => by
    have := wpAny_of_seq (md := .any) (Q' := Q) (l.drop n) n listed a' w' (fun j => by simp [List.getElem?_drop]) (by rw [hdl]; exact hL.1) (hL.2 w' hw')
    rwa [hdl] at this) _ _ _ _ hC H
  rw [htl, show n + (l.toArray.size - n) = l.toArray.size by omega] at this
  exact this
theorem wp_region_quiet_tail {id : Nat} {Q : Exit → Act → World → Prop} {a : Act} {w : World} {l : List Oper} (n : Nat) (hm : P.follows .mixedOrders = true) (hB : Region.lexTailB .any l.toArray n = true) (hC : C { w with drawn := w.drawn + 1 })
    (h : wpQuiet P l.toArray C (fun a' => ∀ w', C w' → wpList P l.toArray Q (l.drop n) a' w') (l.take n) a) : (Code.region id l.toArray true).wp P Q a w :=
  wp_region_any hm (any_quiet_tail n hB hC h)
end

/-- .. whose callees' contracts end in 'Below' -/
theorem wp_region_below_tail {P : Program} {id : Nat} {Q : Exit → Act → World → Prop} {a : Act} {w : World} {l : List Oper} (n : Nat) (hm : P.follows .mixedOrders = true) (hB : Region.lexTailB .any l.toArray n = true)
    (h : wpQuiet P l.toArray (fun w' => ∃ p : Regrown, w' = grow (redrawn w p.d) p.os) (fun a' => ∀ w', (∃ p : Regrown, w' = grow (redrawn w p.d) p.os) → wpList P l.toArray Q (l.drop n) a' w') (l.take n) a) : (Code.region id l.toArray true).wp P Q a w :=
  wp_region_quiet_tail n hm hB ⟨⟨w.drawn + 1, #[]⟩, by rw [grow_empty]; rfl⟩ h
end Go.Proofs.YtdjglghecekeoaaGreatDoor

/- A region that draws its order, whose head only reads and calls what only makes memory, with one variable made among it at whatever time, and a tail in the text's order: walked once. Nothing of the program is named here. -/
namespace Go.Proofs.YtdjglghecekeoaaGreatDoor
open Go.Sort Go.RowKit

section
variable {P : Program} {ops : Array Oper} {md : Region.Mode} {w0 : World}

/-- one value, in whatever world has grown out of w0; a call makes only memory there -/
def Yb (P : Program) (w0 : World) (o : Oper) (v : Value) (a : Act) : Prop := o.guard = none ∧ ∀ w, Below w0.heap.size w0 w → o.quietAt P a (fun w'' => Below w.heap.size w w'') w v
def qB (P : Program) (w0 : World) (o : Oper) (K : Act → Prop) (a : Act) : Prop := ∃ v, Yb P w0 o v a ∧ K (a.put o.dst v)
/-- the head's walk, in the text's order -/
def wpQB (P : Program) (w0 : World) (Q : Act → Prop) : List Oper → Act → Prop
  | [], a => Q a
  | o :: rest, a => qB P w0 o (wpQB P w0 Q rest) a

theorem qB_mono {o : Oper} {a : Act} {K K' : Act → Prop} (h : ∀ a, K a → K' a) (hh : qB P w0 o K a) : qB P w0 o K' a :=
  let ⟨v, h1, h2⟩ := hh
  ⟨v, h1, h _ h2⟩
theorem wanted_plain {o : Oper} (h : o.guard = none) (y : Nat → Option Bool) : Region.wanted o y = true := by unfold Region.wanted; rw [h]

/-- whatever order the head is picked in, the variable made already but not handed on -/
def anyB (P : Program) (md : Region.Mode) (ops : Array Oper) (w0 : World) (n : Nat) (L : Array Bool → Act → Prop) : Nat → Array Bool → Act → Prop
  | 0, listed, a => L listed a
  | f + 1, listed, a => Region.ready md ops listed ≠ [] ∧ ∀ i ∈ Region.ready md ops listed, i < n ∧ ∃ o, ops[i]? = some o ∧ qB P w0 o (anyB P md ops w0 n L f (listed.setIfInBounds i true)) a
/-- .. and not yet made -/
def anyA (P : Program) (md : Region.Mode) (ops : Array Oper) (w0 : World) (n : Nat) (L : Array Bool → Act → Prop) : Nat → Array Bool → Act → Prop
  | 0, _, _ => False
  | f + 1, listed, a => Region.ready md ops listed ≠ [] ∧ ∀ i ∈ Region.ready md ops listed, (i = n ∧ anyB P md ops w0 n L f (listed.setIfInBounds n true) a) ∨
      (i < n ∧ ∃ o, ops[i]? = some o ∧ qB P w0 o (anyA P md ops w0 n L f (listed.setIfInBounds i true)) a)

theorem quietAt_mono {o : Oper} {a : Act} {C C' : World → Prop} {w : World} {v : Value} (h : ∀ w', C w' → C' w') (hh : o.quietAt P a C w v) : o.quietAt P a C' w v := by
  unfold Oper.quietAt at *
  generalize (execOp a.eval o).run P w = r at *
  cases r with
  | ok n w' =>
    cases n <;> simp only [Oper.quietUpon] at hh ⊢
    case value u => exact hh
    case skip => exact hh
    case enter f args => exact ⟨hh.1, hh.2.mono fun e w'' ⟨he, hc⟩ => ⟨he, h _ hc⟩⟩
  | halt x w' => simp only [Oper.quietUpon] at hh

/-- one operation of the head, run in a world of a class that growing does not leave -/
theorem wpOp_of_qB {i : Nat} {o : Oper} {a a2 : Act} {K : Act → Prop} {K' : Act → World → Prop} {Q' : Exit → Act → World → Prop} {C : World → Prop} {w : World} (hi : ops[i]? = some o)
    (hC0 : ∀ w, C w → Below w0.heap.size w0 w) (hC : ∀ w w', C w → Below w.heap.size w w' → C w') (hw : C w)
    (he : execOp a2.eval o = execOp a.eval o) (h : ∀ v w', C w' → K (a.put o.dst v) → K' (a2.put o.dst v) w') (hh : qB P w0 o K a) : wpOp P ops Q' i K' a2 w := by
  obtain ⟨v, ⟨hg, hv⟩, hk⟩ := hh
  unfold wpOp
  rw [hi]
  simp only [wanted_plain hg, if_true]
  left
  have h3 := hv w (hC0 w hw)
  unfold Oper.quietAt at h3
  unfold Oper.wp
  rw [he]
  generalize (execOp a.eval o).run P w = r at *
  cases r with
  | ok n w' =>
    cases n <;> simp only [Oper.quietUpon] at h3 <;> simp only [Oper.upon]
    case value u =>
      obtain ⟨e1, e2⟩ := h3
      rw [e1, e2]
      exact h _ _ hw hk
    case skip =>
      obtain ⟨e1, e2⟩ := h3
      rw [e1, ← e2]
      exact h _ _ hw hk
    case enter f args =>
      obtain ⟨e1, hc⟩ := h3
      rw [e1]
      exact hc.mono fun e w'' ⟨he, hw''⟩ => by subst he; exact h _ _ (hC w w'' hw hw'') hk
  | halt x w' => simp only [Oper.quietUpon] at h3

/-- behind the making -/
theorem wpAny_of_anyB {n g : Nat} {L : Array Bool → Act → Prop} {Q' : Exit → Act → World → Prop} {C : World → Prop} {d : Option Tmp} {u : Value} (hC0 : ∀ w, C w → Below w0.heap.size w0 w) (hC : ∀ w w', C w → Below w.heap.size w w' → C w')
    (hsel : ∀ (j : Nat) (o : Oper) cs b, ops[j]? = some o → o.op ≠ .select cs b)
    (hap : ∀ j o, j < n → ops[j]? = some o → (∀ x, d = some x → x ∉ o.looksAt ops) ∧ (∀ x, d = some x → o.dst ≠ some x))
    (hL : ∀ listed a w, C w → L listed a → wpAny P md ops Q' g listed (a.put d u) w) :
    ∀ (f : Nat) (listed : Array Bool) (a : Act) (w : World), C w → anyB P md ops w0 n L f listed a → wpAny P md ops Q' (f + g) listed (a.put d u) w
  | 0, listed, a, w, hw, h => by rw [Nat.zero_add]; exact hL _ _ _ hw h
  | f + 1, listed, a, w, hw, h => by
    rw [show f + 1 + g = (f + g) + 1 by omega]
    refine ⟨fun h0 => absurd h0 h.1, fun i hi => ?_⟩
    obtain ⟨hin, o, ho, hq⟩ := h.2 i hi
    obtain ⟨h1, h2⟩ := hap i o hin ho
    refine wpOp_of_qB ho hC0 hC hw (execOp_put o (fun cs b => hsel i o cs b ho) a d u h1) (fun v w' hw' hk => ?_) hq
    rw [Act.put_comm a u v h2]
    exact wpAny_of_anyB hC0 hC hsel hap hL f _ _ w' hw' hk

/-- ahead of it -/
theorem wpAny_of_anyA {n g : Nat} {L : Array Bool → Act → Prop} {Q' : Exit → Act → World → Prop} {oa : Oper} {t : TypeId} {z : Array Value} (hoa : ops[n]? = some oa) (hga : oa.guard = none)
    (hal : ∀ (a : Act) (w : World), (execOp a.eval oa).run P w = .ok (.value (.pointer (some ⟨w.heap.size, 0, none⟩))) (w.alloc (.cells z t)))
    (hsel : ∀ (j : Nat) (o : Oper) cs b, ops[j]? = some o → o.op ≠ .select cs b)
    (hap : ∀ j o, j < n → ops[j]? = some o → (∀ x, oa.dst = some x → x ∉ o.looksAt ops) ∧ (∀ x, oa.dst = some x → o.dst ≠ some x))
    (hL : ∀ k listed a w, Below w0.heap.size w0 w → w0.heap.size ≤ k → w.heap[k]? = some (.cells z t (0, 0)) → L listed a → wpAny P md ops Q' g listed (a.put oa.dst (.pointer (some ⟨k, 0, none⟩))) w) :
    ∀ (f : Nat) (listed : Array Bool) (a : Act) (w : World), Below w0.heap.size w0 w → anyA P md ops w0 n L f listed a → wpAny P md ops Q' (f + g) listed a w
  | 0, _, _, _, _, h => h.elim
  | f + 1, listed, a, w, hw, h => by
    rw [show f + 1 + g = (f + g) + 1 by omega]
    refine ⟨fun h0 => absurd h0 h.1, fun i hi => ?_⟩
    rcases h.2 i hi with ⟨rfl, hb⟩ | ⟨hin, o, ho, hq⟩
    · unfold wpOp
      rw [hoa]
      simp only [wanted_plain hga, if_true]
      left
      unfold Oper.wp
      rw [hal]
      simp only [Oper.upon]
      have hsz := hw.size
      refine wpAny_of_anyB (C := fun w' => Below w0.heap.size w0 w' ∧ w'.heap[w.heap.size]? = some (.cells z t (0, 0))) (fun _ h => h.1) (fun w1 w2 h1 h2 => ⟨h1.1.trans (h2.mono h1.1.size), ?_⟩) hsel hap
        (fun listed a w' hw' hl => hL _ _ _ _ hw'.1 hsz hw'.2 hl) f _ _ _ ⟨hw.alloc hsz _, heap_alloc_new w _⟩ hb
      have hlt : w.heap.size < w1.heap.size := by
        rcases Nat.lt_or_ge w.heap.size w1.heap.size with h | h
        · exact h
        · have := h1.2; rw [Array.getElem?_eq_none h] at this; cases this
      exact (h2.block _ hlt).trans h1.2
    · exact wpOp_of_qB (C := fun w' => Below w0.heap.size w0 w') ho (fun _ h => h) (fun _ _ h1 h2 => h1.trans (h2.mono h1.size)) hw rfl (fun v w' hw' hk => wpAny_of_anyA hoa hga hal hsel hap hL f _ _ w' hw' hk) hq

/-! ### from the text's order to any -/
theorem qB_put {oi oj : Oper} {v : Value} (hap : oi.apart ops oj = true)
    (hsi : ∀ cs b, oi.op ≠ .select cs b) (hsj : ∀ cs b, oj.op ≠ .select cs b) {K : Act → Prop} {a : Act}
    (hy : Yb P w0 oi v a) (h : qB P w0 oj K (a.put oi.dst v)) : qB P w0 oj (fun a' => Yb P w0 oi v a' ∧ K (a'.put oi.dst v)) a := by
  obtain ⟨h1, h2, h3⟩ := Oper.apart_spec hap
  obtain ⟨u, ⟨hg, hu⟩, hn⟩ := h
  refine ⟨u, ⟨hg, fun w hw => ?_⟩, ⟨hy.1, fun w hw => ?_⟩, by rw [← Act.put_comm a v u h2]; exact hn⟩
  · have := hu w hw
    unfold Oper.quietAt at *
    rwa [execOp_put oj hsj a oi.dst v h1] at this
  · have := hy.2 w hw
    unfold Oper.quietAt at *
    rwa [execOp_put oi hsi a oj.dst u h3]

theorem anyB_first {n i : Nat} {oi : Oper} {v : Value} {L : Array Bool → Act → Prop} (hi : ops[i]? = some oi) (hsel : ∀ (j : Nat) (o : Oper) cs b, ops[j]? = some o → o.op ≠ .select cs b)
    (hs : Region.sinkB md ops (n + 1) = true) (hc : Region.chainB md ops (n + 1) = true) (hn : n + 1 < ops.size) (hin : i < n)
    (hdone : ∀ listed a, L listed a → ∀ j ∈ Region.ready md ops listed, n + 1 ≤ j) :
    ∀ (f : Nat) (listed : Array Bool) (a : Act), HeadInv md ops (n + 1) listed → listed.getD n true = true →
      (∀ j oj, ops[j]? = some oj → j ≠ i → listed.getD j true = false → (∀ e ∈ oj.after, Region.binds md e = true → e.on ≠ i) → oi.apart ops oj = true) →
      i ∈ Region.ready md ops listed → Yb P w0 oi v a →
      anyB P md ops w0 n L f (listed.setIfInBounds i true) (a.put oi.dst v) → anyB P md ops w0 n L (f + 1) listed a := by
  intro f
  induction f with
  | zero =>
    intro listed a inv hln _ hr hy H
    have hun := (mem_ready.1 hr).1
    refine ⟨fun h => (by rw [h] at hr; cases hr), fun j hj => ?_⟩
    have hjn : j < n := by
      rcases Nat.lt_or_ge j (n + 1) with h | h
      · rcases Nat.lt_or_ge j n with h' | h'
        · exact h'
        · obtain rfl : j = n := by omega
          have := (mem_ready.1 hj).1
          rw [hln] at this
          cases this
      · exact absurd hj (tail_waits hs hc hn inv _ i rfl (by omega) hun j h)
    by_cases hji : j = i
    · subst hji; exact ⟨hjn, oi, hi, v, hy, H⟩
    · have := hdone _ _ H j (ready_mono hj hji)
      omega
  | succ f ih =>
    intro listed a inv hln hfree hr hy H
    have hun := (mem_ready.1 hr).1
    refine ⟨fun h => (by rw [h] at hr; cases hr), fun j hj => ?_⟩
    have hjn : j < n := by
      rcases Nat.lt_or_ge j (n + 1) with h | h
      · rcases Nat.lt_or_ge j n with h' | h'
        · exact h'
        · obtain rfl : j = n := by omega
          have := (mem_ready.1 hj).1
          rw [hln] at this
          cases this
      · exact absurd hj (tail_waits hs hc hn inv _ i rfl (by omega) hun j h)
    by_cases hji : j = i
    · subst hji; exact ⟨hjn, oi, hi, v, hy, H⟩
    · obtain ⟨_, oj', hoj', h1⟩ := H.2 j (ready_mono hj hji)
      obtain ⟨hjun, oj, hoj, hall⟩ := mem_ready.1 hj
      obtain rfl : oj' = oj := Option.some.inj (hoj'.symm.trans hoj)
      refine ⟨hjn, oj', hoj, ?_⟩
      have hnot : ∀ e ∈ oj'.after, Region.binds md e = true → e.on ≠ i := fun e he hb heq => by
        have h1 := hall e he hb
        rw [heq, getD_both hun] at h1
        cases h1
      have h2 := qB_put (hfree j oj' hoj hji hjun hnot) (fun cs b => hsel i oi cs b hi) (fun cs b => hsel j oj' cs b hoj) hy h1
      have hfree' : ∀ k ok, ops[k]? = some ok → k ≠ i → (listed.setIfInBounds j true).getD k true = false →
          (∀ e ∈ ok.after, Region.binds md e = true → e.on ≠ i) → oi.apart ops ok = true := fun k ok hk hki hun hno => by
        refine hfree k ok hk hki ?_ hno
        by_cases hjk : j = k
        · subst hjk; exact hjun
        · rw [getD_set_ne true hjk] at hun; exact hun
      refine qB_mono (fun a' h3 => ih (listed.setIfInBounds j true) a' (inv.set hj (by omega)) (by rw [getD_set_ne true (by omega)]; exact hln) hfree' (ready_mono hr (Ne.symm hji)) h3.1 ?_) h2
      rw [Array.setIfInBounds_comm _ _ hji]
      exact h3.2

/-- the head one behind the other, what stands at n passed over -/
def lexHeadA (md : Region.Mode) (ops : Array Oper) (n g : Nat) : Nat → Nat → Array Bool → Bool
  | 0, _, listed => Region.seqB md ops g (n + 1) listed
  | f + 1, k, listed => (Region.ready md ops listed).contains k && Region.free md ops listed k && lexHeadA md ops n g f (k + 1) (listed.setIfInBounds k true)

theorem anyB_lex {n g : Nat} {Lq : Act → Prop} (hsel : Region.noSelect ops = true) (hs : Region.sinkB md ops (n + 1) = true) (hc : Region.chainB md ops (n + 1) = true) (hn : n + 1 < ops.size) :
    ∀ (l : List Oper) (k : Nat) (listed : Array Bool) (a : Act), (∀ j, j < l.length → l[j]? = ops[k + j]?) → k + l.length = n → HeadInv md ops (n + 1) listed → listed.getD n true = true →
    lexHeadA md ops n g l.length k listed = true → wpQB P w0 Lq l a →
    anyB P md ops w0 n (fun listed' a' => Region.seqB md ops g (n + 1) listed' = true ∧ Lq a') l.length listed a
  | [], k, listed, a, _, _, _, _, hB, h => ⟨by simpa [lexHeadA] using hB, h⟩
  | o :: l, k, listed, a, hl, hk, inv, hln, hB, h => by
    have h0 : ops[k]? = some o := by simpa using (hl 0 (by simp)).symm
    simp only [List.length_cons, lexHeadA, Bool.and_eq_true] at hB
    obtain ⟨⟨hr, hf⟩, hB'⟩ := hB
    have hkn : k < n := by simp only [List.length_cons] at hk; omega
    have hr' : k ∈ Region.ready md ops listed := by simpa using hr
    obtain ⟨v, hy, hK⟩ := h
    exact anyB_first h0 (Region.noSelect_spec hsel) hs hc hn hkn (fun listed' a' hL => seqB_ready hL.1) l.length listed a inv hln (Region.free_spec h0 hf) hr' hy
      (anyB_lex hsel hs hc hn l (k + 1) _ _ (fun j hj => by have := hl (j + 1) (by simp; omega); simpa [Nat.add_assoc, Nat.add_comm 1 j] using this) (by simp only [List.length_cons] at hk; omega) (inv.set hr' (by omega)) (by rw [getD_set_ne true (by omega)]; exact hln) hB' hK)

/-- the making comes at whatever time -/
theorem anyA_of_anyB {n : Nat} {oa : Oper} {L : Array Bool → Act → Prop} (hoa : ops[n]? = some oa) (haf : ∀ e ∈ oa.after, Region.binds md e = true → False)
    (hs : Region.sinkB md ops (n + 1) = true) (hc : Region.chainB md ops (n + 1) = true) (hn : n + 1 < ops.size)
    (hdone : ∀ listed a, L listed a → ∀ j ∈ Region.ready md ops listed, n + 1 ≤ j) :
    ∀ (f : Nat) (listed : Array Bool) (a : Act), HeadInv md ops (n + 1) listed → listed.getD n true = false →
      anyB P md ops w0 n L f (listed.setIfInBounds n true) a → anyA P md ops w0 n L (f + 1) listed a := by
  intro f
  induction f with
  | zero =>
    intro listed a inv hun H
    have hr : n ∈ Region.ready md ops listed := mem_ready.2 ⟨hun, oa, hoa, fun e he hb => (haf e he hb).elim⟩
    refine ⟨fun h => (by rw [h] at hr; cases hr), fun j hj => ?_⟩
    by_cases hjn : j = n
    · exact .inl ⟨hjn, H⟩
    · have h1 := hdone _ _ H j (ready_mono hj hjn)
      exact absurd hj (tail_waits hs hc hn inv _ n rfl (by omega) hun j h1)
  | succ f ih =>
    intro listed a inv hun H
    have hr : n ∈ Region.ready md ops listed := mem_ready.2 ⟨hun, oa, hoa, fun e he hb => (haf e he hb).elim⟩
    refine ⟨fun h => (by rw [h] at hr; cases hr), fun j hj => ?_⟩
    by_cases hjn : j = n
    · exact .inl ⟨hjn, H⟩
    · obtain ⟨h1, o, ho, hq⟩ := H.2 j (ready_mono hj hjn)
      refine .inr ⟨h1, o, ho, qB_mono (fun a' h3 => ih (listed.setIfInBounds j true) a' (inv.set hj (by omega)) (by rw [getD_set_ne true hjn]; exact hun) ?_) hq⟩
      rw [Array.setIfInBounds_comm _ _ hjn]
      exact h3

/-- what the walk asks of the region, as a Bool: n is the place of the making -/
def lexAllocB (md : Region.Mode) (ops : Array Oper) (n : Nat) : Bool :=
  Region.noSelect ops && decide (n + 1 < ops.size) && Region.sinkB md ops (n + 1) && Region.chainB md ops (n + 1) && lexHeadA md ops n (ops.size - (n + 1)) n 0 ((Array.replicate ops.size false).setIfInBounds n true) &&
    (match ops[n]? with
     | some oa => oa.guard == none && oa.after.all (fun e => !Region.binds md e) && (List.range n).all (fun j => match ops[j]? with | some o => oa.apart ops o | none => true)
     | none => false)

theorem any_made {Q : Exit → Act → World → Prop} {a : Act} {w : World} {l : List Oper} (n : Nat) (d : Tmp) (oa : Oper) (t : TypeId) (z : Array Value) (hoa : l.toArray[n]? = some oa) (hd : oa.dst = some d) (hB : lexAllocB .any l.toArray n = true)
    (hal : ∀ (a : Act) (w : World), (execOp a.eval oa).run P w = .ok (.value (.pointer (some ⟨w.heap.size, 0, none⟩))) (w.alloc (.cells z t)))
    (h : wpQB P w (fun a' => ∀ k w', Below w.heap.size w w' → w.heap.size ≤ k → w'.heap[k]? = some (.cells z t (0, 0)) → wpList P l.toArray Q (l.drop (n + 1)) (a'.put (some d) (.pointer (some ⟨k, 0, none⟩))) w') (l.take n) a) :
    wpAny P .any l.toArray Q l.toArray.size (Array.replicate l.toArray.size false) a { w with drawn := w.drawn + 1 } := by
  rw [← hd] at h
  simp only [lexAllocB, Bool.and_eq_true, decide_eq_true_eq, hoa] at hB
  obtain ⟨⟨⟨⟨⟨hsel, hn⟩, hs⟩, hc⟩, hlex⟩, ⟨hg, haf⟩, hap⟩ := hB
  have hg' : oa.guard = none := by simpa using hg
  have haf' : ∀ e ∈ oa.after, Region.binds .any e = true → False := fun e he hb => by
    have := Array.all_eq_true_iff_forall_mem.1 haf e he
    simp [hb] at this
  have hap' : ∀ j o, j < n → l.toArray[j]? = some o → (∀ x, oa.dst = some x → x ∉ o.looksAt l.toArray) ∧ (∀ x, oa.dst = some x → o.dst ≠ some x) := fun j o hj ho => by
    have h1 := List.all_eq_true.1 hap j (List.mem_range.2 hj)
    rw [ho] at h1
    obtain ⟨h2, h3, _⟩ := Oper.apart_spec h1
    exact ⟨h2, h3⟩
  have hn' : n + 1 < l.length := by simpa using hn
  have htl : (l.take n).length = n := by simp; omega
  have hdl : (l.drop (n + 1)).length = l.toArray.size - (n + 1) := by simp
  have inv0 : HeadInv .any l.toArray (n + 1) (Array.replicate l.toArray.size false) :=
    ⟨by simp, fun j oj _ hl => (by rw [getD_replicate_false] at hl; cases hl), fun t _ ht => getD_in (by simpa using ht) (getD_replicate_false _ _)⟩
  have hun : (Array.replicate l.toArray.size false).getD n true = false := getD_in (by simp; omega) (getD_replicate_false _ _)
  have hr : n ∈ Region.ready .any l.toArray (Array.replicate l.toArray.size false) := mem_ready.2 ⟨hun, oa, hoa, fun e he hb => (haf' e he hb).elim⟩
  have hln : ((Array.replicate l.toArray.size false).setIfInBounds n true).getD n true = true := by
    simp [Array.getElem?_setIfInBounds_self]
    split <;> rfl
  have H := anyA_of_anyB (md := .any) (w0 := w) hoa haf' hs hc hn (fun listed a hL => seqB_ready hL.1) (l.take n).length (Array.replicate l.toArray.size false) a inv0 hun
    (anyB_lex (g := l.toArray.size - (n + 1)) hsel hs hc hn (l.take n) 0 _ a (fun j hj => by
      have hj' : j < n := by rw [htl] at hj; exact hj
      simp [hj']) (by simpa using htl) (inv0.set hr (by omega)) hln (by rw [htl]; exact hlex) h)
  have := wpAny_of_anyA (Q' := Q) (g := l.toArray.size - (n + 1)) hoa hg' hal (Region.noSelect_spec hsel) hap' (fun k listed a' w' hw' hk hz hL => by
    have := wpAny_of_seq (md := .any) (Q' := Q) (l.drop (n + 1)) (n + 1) listed (a'.put oa.dst (.pointer (some ⟨k, 0, none⟩))) w' (fun j => by simp [List.getElem?_drop]) (by rw [hdl]; exact hL.1) (hL.2 k w' hw' hk hz)
    rwa [hdl] at this) _ _ _ { w with drawn := w.drawn + 1 } (Below.refl w.heap.size w).drew H
  rw [htl, show n + 1 + (l.toArray.size - (n + 1)) = l.toArray.size by omega] at this
  exact this

theorem wp_region_made {id : Nat} {Q : Exit → Act → World → Prop} {a : Act} {w : World} {l : List Oper} (n : Nat) (d : Tmp) (oa : Oper) (t : TypeId) (z : Array Value) (hoa : l.toArray[n]? = some oa) (hd : oa.dst = some d) (hm : P.follows .mixedOrders = true) (hB : lexAllocB .any l.toArray n = true)
    (hal : ∀ (a : Act) (w : World), (execOp a.eval oa).run P w = .ok (.value (.pointer (some ⟨w.heap.size, 0, none⟩))) (w.alloc (.cells z t)))
    (h : wpQB P w (fun a' => ∀ k w', Below w.heap.size w w' → w.heap.size ≤ k → w'.heap[k]? = some (.cells z t (0, 0)) → wpList P l.toArray Q (l.drop (n + 1)) (a'.put (some d) (.pointer (some ⟨k, 0, none⟩))) w') (l.take n) a) :
    (Code.region id l.toArray true).wp P Q a w :=
  wp_region_any hm (any_made n d oa t z hoa hd hB hal h)

theorem wpQuiet_of_qb {C : World → Prop} (hC0 : ∀ w, C w → Below w0.heap.size w0 w) (hC : ∀ w w', C w → Below w.heap.size w w' → C w') {Q : Act → Prop} : ∀ (l : List Oper) (a : Act), wpQB P w0 Q l a → wpQuiet P ops C Q l a
  | [], _, h => h
  | o :: l, a, ⟨v, ⟨hg, hv⟩, hk⟩ => by
    unfold wpQuiet
    rw [if_pos (wanted_plain hg _)]
    exact ⟨v, fun w hw => quietAt_mono (fun w' h => hC w w' hw h) (hv w (hC0 w hw)), wpQuiet_of_qb hC0 hC l _ hk⟩
/-- the same, with nothing made in it -/
theorem wp_region_plain {id : Nat} {Q : Exit → Act → World → Prop} {a : Act} {w : World} {l : List Oper} (n : Nat) (hm : P.follows .mixedOrders = true) (hB : Region.lexTailB .any l.toArray n = true)
    (h : wpQB P w (fun a' => ∀ w', Below w.heap.size w w' → wpList P l.toArray Q (l.drop n) a' w') (l.take n) a) : (Code.region id l.toArray true).wp P Q a w :=
  wp_region_quiet_tail (C := fun w' => Below w.heap.size w w') n hm hB (Below.refl w.heap.size w).drew (wpQuiet_of_qb (fun _ h => h) (fun _ _ h1 h2 => h1.trans (h2.mono h1.size)) _ _ h)

/-- .. nothing written at all -/
theorem wp_region_all {id : Nat} {Q : Exit → Act → World → Prop} {a : Act} {w : World} {l : List Oper} (hm : P.follows .mixedOrders = true) (hB : Region.lexB .any l.toArray = true)
    (h : wpQB P w (fun a' => ∀ w', Below w.heap.size w w' → Q .normal a' w') l a) : (Code.region id l.toArray true).wp P Q a w :=
  wp_region_quiet (C := fun w' => Below w.heap.size w w') hm hB (Below.refl w.heap.size w).drew (wpQuiet_of_qb (fun _ h => h) (fun _ _ h1 h2 => h1.trans (h2.mono h1.size)) _ _ h)

/-! ### the head's steps -/
section
variable {Q : Act → Prop} {a : Act} {rest : List Oper} {t' : TypeId} {pos : String} {after : Array Edge}
theorem wpQB_nil (h : Q a) : wpQB P w0 Q [] a := h
theorem wpQB_run {o : Oper} (v : Value) (hg : o.guard = none) (hr : ∀ w, Below w0.heap.size w0 w → (execOp a.eval o).run P w = .ok (.value v) w) (h : wpQB P w0 Q rest (a.put o.dst v)) : wpQB P w0 Q (o :: rest) a :=
  ⟨v, ⟨hg, fun w hw => by unfold Oper.quietAt; rw [hr w hw]; exact ⟨rfl, rfl⟩⟩, h⟩
theorem wpQB_move {d : Option Tmp} {x : Operand} (h : wpQB P w0 Q rest (a.put d (a.eval x))) : wpQB P w0 Q (⟨d, .move x, t', pos, after, none⟩ :: rest) a :=
  wpQB_run _ rfl (fun _ _ => rfl) h
theorem wpQB_load {d : Option Tmp} {x : Operand} {ty : TypeId} (g : Nat) (t : TypeId) (cs : Array Value) (ds : TypeDesc) (hu : P.underlying ty = some ds) (hd : (match ds with | .struct _ | .array _ _ => true | _ => false) = true) (hi : (P.info? ty).map (·.size) = some cs.size)
    (hg : w0.heap[g]? = some (.cells cs t (0, 0))) (hx : a.eval x = .pointer (some ⟨g, 0, none⟩)) (h : wpQB P w0 Q rest (a.put d (.agg cs))) : wpQB P w0 Q (⟨d, .load ty x, t', pos, after, none⟩ :: rest) a :=
  wpQB_run _ rfl (fun w hw => by
    have hlt : g < w0.heap.size := by
      rcases Nat.lt_or_ge g w0.heap.size with h | h
      · exact h
      · rw [Array.getElem?_eq_none h] at hg; cases hg
    have hg' := (hw.block g hlt).trans hg
    unfold execOp
    simp only [hx, Instr.loadAt, Instr.sureAddr, Sem.run_bind, Sem.run_pure, Result.andThen_ok, run_loadVar_row w g t ty cs (0, 0) ds hg' hu hd hi]) h
theorem wpQB_call {d : Option Tmp} {o : Oper} (f : FuncId) (args : Array Value) (v : Value) (hd : o.dst = d) (hg : o.guard = none) (hr : ∀ w, (execOp a.eval o).run P w = .ok (.enter f args) w)
    (hc : ∀ w, Below w0.heap.size w0 w → Calls P f args w fun e w' => e = .returned v ∧ Below w.heap.size w w') (h : wpQB P w0 Q rest (a.put d v)) : wpQB P w0 Q (o :: rest) a := by
  subst hd
  exact ⟨v, ⟨hg, fun w hw => by unfold Oper.quietAt; rw [hr w]; exact ⟨rfl, hc w hw⟩⟩, h⟩
end
end
end Go.Proofs.YtdjglghecekeoaaGreatDoor

/- A region that draws its order and whose operations only read and call what only makes memory, guards and all: the steps of its one walk. Nothing of the program is named here. -/
namespace Go.Proofs.YtdjglghecekeoaaGreatDoor
open Go.Sort Go.RowKit

section
variable {P : Program} {w0 : World}
/-- the worlds that have grown out of w0 -/
abbrev Gr (w0 : World) : World → Prop := fun w => Below w0.heap.size w0 w

/-- nothing written at all -/
theorem wp_region_all_g {id : Nat} {Q : Exit → Act → World → Prop} {a : Act} {w : World} {l : List Oper} (hm : P.follows .mixedOrders = true) (hB : Region.lexB .any l.toArray = true)
    (h : wpQuiet P l.toArray (Gr w) (fun a' => ∀ w', Below w.heap.size w w' → Q .normal a' w') l a) : (Code.region id l.toArray true).wp P Q a w :=
  wp_region_quiet (C := Gr w) hm hB (Below.refl w.heap.size w).drew h

variable {ops : Array Oper} {Q : Act → Prop} {a : Act} {rest : List Oper} {t' : TypeId} {pos : String} {after : Array Edge} {gd : Option (Nat × Bool)}
theorem wpQg_run {o : Oper} (v : Value) (hg : Region.wanted o (yielded ops a.tmps) = true) (hr : ∀ w, Below w0.heap.size w0 w → (execOp a.eval o).run P w = .ok (.value v) w) (h : wpQuiet P ops (Gr w0) Q rest (a.put o.dst v)) : wpQuiet P ops (Gr w0) Q (o :: rest) a := by
  unfold wpQuiet
  rw [if_pos hg]
  exact ⟨v, fun w hw => by unfold Oper.quietAt; rw [hr w hw]; exact ⟨rfl, rfl⟩, h⟩
theorem wpQg_skip {o : Oper} (hg : Region.wanted o (yielded ops a.tmps) = false) (h : wpQuiet P ops (Gr w0) Q rest (a.put o.dst undef)) : wpQuiet P ops (Gr w0) Q (o :: rest) a := by
  unfold wpQuiet
  rw [if_neg (by rw [hg]; decide)]
  exact h
theorem wpQg_load {d : Option Tmp} {x : Operand} {ty : TypeId} (g : Nat) (t : TypeId) (cs : Array Value) (ds : TypeDesc) (hu : P.underlying ty = some ds) (hd : (match ds with | .struct _ | .array _ _ => true | _ => false) = true) (hi : (P.info? ty).map (·.size) = some cs.size)
    (hg : w0.heap[g]? = some (.cells cs t (0, 0))) (hx : a.eval x = .pointer (some ⟨g, 0, none⟩)) (hw : Region.wanted ⟨d, .load ty x, t', pos, after, gd⟩ (yielded ops a.tmps) = true) (h : wpQuiet P ops (Gr w0) Q rest (a.put d (.agg cs))) : wpQuiet P ops (Gr w0) Q (⟨d, .load ty x, t', pos, after, gd⟩ :: rest) a :=
  wpQg_run _ hw (fun w hw => by
    have hlt : g < w0.heap.size := by
      rcases Nat.lt_or_ge g w0.heap.size with h | h
      · exact h
      · rw [Array.getElem?_eq_none h] at hg; cases hg
    have hg' : w.heap[g]? = some (.cells cs t (0, 0)) := (hw.block g hlt).trans hg
    unfold execOp
    simp only [hx, Instr.loadAt, Instr.sureAddr, Sem.run_bind, Sem.run_pure, Result.andThen_ok, run_loadVar_row w g t ty cs (0, 0) ds hg' hu hd hi]) h
theorem wpQg_call {d : Option Tmp} {o : Oper} (f : FuncId) (args : Array Value) (v : Value) (hd : o.dst = d) (hg : Region.wanted o (yielded ops a.tmps) = true) (hr : ∀ w, (execOp a.eval o).run P w = .ok (.enter f args) w)
    (hc : ∀ w, Below w0.heap.size w0 w → Calls P f args w fun e w' => e = .returned v ∧ Below w.heap.size w w') (h : wpQuiet P ops (Gr w0) Q rest (a.put d v)) : wpQuiet P ops (Gr w0) Q (o :: rest) a := by
  subst hd
  unfold wpQuiet
  rw [if_pos hg]
  exact ⟨v, fun w hw => by unfold Oper.quietAt; rw [hr w]; exact ⟨rfl, (hc w hw).mono fun e w' ⟨h1, h2⟩ => ⟨h1, hw.trans (h2.mono hw.size)⟩⟩, h⟩

/-! ### the same steps in the class of worlds that the kit's own quiet steps walk in -/
abbrev Rg (w0 : World) : World → Prop := fun w' => ∃ p : Regrown, w' = grow (redrawn w0 p.d) p.os
theorem Rg.below {w0 w : World} (h : Rg w0 w) : Below w0.heap.size w0 w := by obtain ⟨⟨d, os⟩, rfl⟩ := h; exact below_regrown w0 d os
end
end Go.Proofs.YtdjglghecekeoaaGreatDoor

/- Some operations may come behind a store that does not wait for them ('x, e := f(..)' into a block: the extract of e; 'return x, a && b': the pick): whatever comes of a region in which the store waits for them comes of the region as it is. Nothing of the program is named here. -/
namespace Go.Proofs.YtdjglghecekeoaaGreatDoor
open Go.Sort Go.RowKit

/-- operation j waits for operation i, too -/
def addEdge : List Oper → Nat → Nat → List Oper
  | [], _, _ => []
  | o :: l, 0, i => { o with after := o.after.push ⟨i, .data⟩ } :: l
  | o :: l, j + 1, i => o :: addEdge l j i
theorem addEdge_at : ∀ (l : List Oper) (j i k : Nat), (addEdge l j i)[k]? = if k = j then (l[k]?).map (fun o => { o with after := o.after.push ⟨i, .data⟩ }) else l[k]?
  | [], j, i, k => by simp [addEdge]
  | o :: l, 0, i, k => by cases k <;> simp [addEdge]
  | o :: l, j + 1, i, k => by
    cases k with
    | zero => simp [addEdge]
    | succ k => simp [addEdge, addEdge_at l j i k]
theorem addEdge_length : ∀ (l : List Oper) (j i : Nat), (addEdge l j i).length = l.length
  | [], _, _ => rfl
  | _ :: _, 0, _ => rfl
  | _ :: l, j + 1, i => by simp [addEdge, addEdge_length l j i]

/-- whoever waits for k waits for d -/
def reach (md : Region.Mode) (ops : Array Oper) : Nat → Nat → Nat → Bool
  | 0, _, _ => false
  | f + 1, k, d => match ops[k]? with
    | none => false
    | some o => o.after.any fun e => Region.binds md e && (e.on == d || reach md ops f e.on d)

/-- what does not hang on the world -/
def pureB (o : Oper) : Bool := match o.op with
  | .extract _ _ => true
  | .pick _ _ _ => true
  | _ => false

/-- operation i is such a one, and store j may wait for it -/
def lateB (md : Region.Mode) (ops : Array Oper) (i j : Nat) : Bool :=
  Region.noSelect ops && decide (i ≠ j) && decide (Region.binds md ⟨i, .data⟩ = true) && (match ops[i]? with
    | none => false
    | some oi => pureB oi && (oi.guard == none) && (oi.after.all fun e => !Region.binds md e || reach md ops ops.size j e.on) &&
      (List.range ops.size).all fun k => k == i || (oi.after.any fun e => Region.binds md e && e.on == k) || match ops[k]? with
        | none => true
        | some ok => (ok.after.any fun e => Region.binds md e && e.on == i) || oi.apart ops ok)

section
variable {P : Program} {Q : Exit → Act → World → Prop} {md : Region.Mode}

/-- what has come up has come up behind all that it waits for -/
structure Closed (md : Region.Mode) (ops : Array Oper) (listed : Array Bool) : Prop where
  size : listed.size = ops.size
  closed : ∀ k ok, ops[k]? = some ok → listed.getD k false = true → ∀ e ∈ ok.after, Region.binds md e = true → listed.getD e.on false = true
theorem Closed.set {ops : Array Oper} {listed : Array Bool} {i : Nat} (h : Closed md ops listed) (hr : i ∈ Region.ready md ops listed) : Closed md ops (listed.setIfInBounds i true) := by
  obtain ⟨hun, oi, hoi, hall⟩ := mem_ready.1 hr
  refine ⟨by simp [h.size], fun k ok hk hl e he hb => ?_⟩
  by_cases hki : k = i
  · subst hki
    obtain rfl : oi = ok := Option.some.inj (hoi.symm.trans hk)
    exact getD_set_true (hall e he hb)
  · rw [getD_set_ne false (Ne.symm hki)] at hl
    exact getD_set_true (h.closed k ok hk hl e he hb)
theorem reach_listed {ops : Array Oper} {listed : Array Bool} (h : Closed md ops listed) : ∀ (f k d : Nat) (ok : Oper), ops[k]? = some ok → (∀ e ∈ ok.after, Region.binds md e = true → listed.getD e.on false = true) → reach md ops f k d = true → listed.getD d false = true
  | 0, _, _, _, _, _, hr => by cases hr
  | f + 1, k, d, ok, hk, hall, hr => by
    unfold reach at hr
    simp only [hk] at hr
    obtain ⟨e, he, hp⟩ := Array.any_eq_true'.1 hr
    simp only [Bool.and_eq_true, Bool.or_eq_true, beq_iff_eq] at hp
    obtain ⟨hb, hp⟩ := hp
    have hl := hall e he hb
    rcases hp with hp | hp
    · rw [← hp]; exact hl
    · cases ho : ops[e.on]? with
      | none => cases f <;> simp [reach, ho] at hp
      | some oe => exact reach_listed h f e.on d oe ho (h.closed e.on oe ho hl) hp

/-- such an operation yields one value in whatever world -/
theorem pure_yields {o : Oper} {a : Act} {w : World} {K : Act → World → Prop} (hp : pureB o = true) (h : o.wp P a w K Q ∨ (o.asks P a w ∧ LetsOut Q)) :
    ∃ v, (∀ w', (execOp a.eval o).run P w' = .ok (.value v) w') ∧ K (a.put o.dst v) w := by
  obtain ⟨dst, op, type, pos, after, guard⟩ := o
  cases op <;> simp only [pureB] at hp <;> try (cases hp; done)
  case pick c x y =>
    unfold Oper.wp Oper.asks at h
    simp only [execOp] at h ⊢
    cases hc : a.eval c
    case bool b =>
      rw [hc] at h
      refine ⟨if b then a.eval x else a.eval y, fun w' => by simp [asBool], ?_⟩
      rcases h with h | ⟨h, _⟩
      · simpa [asBool, Oper.upon] using h
      · exact absurd h.1 (by first | (change ¬ noRoomEvent ∈ #[]; simp) | simp [asBool, Instr.extract, Sem.runT])
    all_goals
      rw [hc] at h
      rcases h with h | ⟨h, _⟩
      · simp [asBool, Oper.upon] at h
      · exact absurd h.1 (by first | (change ¬ noRoomEvent ∈ #[]; simp) | simp [asBool, Instr.extract, Sem.runT])
  case extract t ix =>
    unfold Oper.wp Oper.asks at h
    simp only [execOp] at h ⊢
    cases hc : a.eval t
    case tuple vs =>
      rw [hc] at h
      cases hv : vs[ix]? with
      | some v =>
        refine ⟨v, fun w' => by simp [Instr.extract, hv], ?_⟩
        rw [show (Instr.extract (.tuple vs) ix : Sem Value) = pure v by simp [Instr.extract, hv]] at h
        rcases h with h | ⟨h, _⟩
        · simpa [Instr.extract, hv, Oper.upon] using h
        · exact absurd h.1 (by first | (change ¬ noRoomEvent ∈ #[]; simp) | simp [asBool, Instr.extract, Sem.runT])
      | none =>
        rw [show (Instr.extract (.tuple vs) ix : Sem Value) = stuck "Extract: no such component" by simp [Instr.extract, hv]] at h
        rcases h with h | ⟨h, _⟩
        · simp [Oper.upon] at h
        · exact absurd h.1 (by change ¬ noRoomEvent ∈ #[]; simp)
    all_goals
      rw [hc] at h
      rcases h with h | ⟨h, _⟩
      · simp [Instr.extract, Oper.upon] at h
      · exact absurd h.1 (by first | (change ¬ noRoomEvent ∈ #[]; simp) | simp [asBool, Instr.extract, Sem.runT])

variable {l : List Oper} {i j : Nat}
theorem yielded_edge : yielded (addEdge l j i).toArray = yielded l.toArray := by
  funext tmps g
  have h : ((addEdge l j i).toArray[g]?).bind (·.dst) = (l.toArray[g]?).bind (·.dst) := by
    rw [List.getElem?_toArray, List.getElem?_toArray, addEdge_at]
    split
    · cases l[g]? <;> rfl
    · rfl
  unfold yielded
  rw [h]
/-- whatever order is picked -/
theorem wpAny_late (hB : lateB md l.toArray i j = true) (hQ : ∀ c d v (a : Act) (w : World), Q (.panic c) (a.put d v) w → Q (.panic c) a w) :
    ∀ (f : Nat) (listed : Array Bool) (a : Act) (w : World), Closed md l.toArray listed → wpAny P md (addEdge l j i).toArray Q f listed a w → wpAny P md l.toArray Q f listed a w := by
  simp only [lateB, Bool.and_eq_true, decide_eq_true_eq] at hB
  obtain ⟨⟨⟨hsel, hij⟩, _⟩, hB⟩ := hB
  obtain ⟨oi, hoi⟩ : ∃ oi, l.toArray[i]? = some oi := by
    cases h : l.toArray[i]? with
    | none => rw [h] at hB; cases hB
    | some o => exact ⟨o, rfl⟩
  rw [hoi] at hB
  simp only [Bool.and_eq_true] at hB
  obtain ⟨⟨⟨hp, hg⟩, hd⟩, hfree⟩ := hB
  have hg' : oi.guard = none := by simpa using hg
  have hat := addEdge_at l j i
  have hat' : ∀ k, (addEdge l j i).toArray[k]? = if k = j then (l.toArray[k]?).map (fun o => { o with after := o.after.push ⟨i, .data⟩ }) else l.toArray[k]? := fun k => by
    rw [List.getElem?_toArray, List.getElem?_toArray, hat]
  have hdeps : ∀ (listed : Array Bool) (oj : Oper), Closed md l.toArray listed → l.toArray[j]? = some oj → (∀ e ∈ oj.after, Region.binds md e = true → listed.getD e.on false = true) → ∀ e ∈ oi.after, Region.binds md e = true → listed.getD e.on false = true := fun listed oj hc hj hall e he hb => by
    have h1 := Array.all_eq_true_iff_forall_mem.1 hd e he
    rw [hb] at h1
    exact reach_listed hc _ j e.on oj hj hall (by simpa using h1)
  have hready : ∀ listed, Closed md l.toArray listed → i ∉ Region.ready md l.toArray listed → ∀ k, k ∈ Region.ready md l.toArray listed ↔ k ∈ Region.ready md (addEdge l j i).toArray listed := fun listed hc hni k => by
    rw [mem_ready, mem_ready]
    constructor
    · rintro ⟨hun, ok, hk, hall⟩
      refine ⟨hun, ?_⟩
      by_cases hkj : k = j
      · subst hkj
        refine ⟨{ ok with after := ok.after.push ⟨i, .data⟩ }, by rw [hat', if_pos rfl, hk]; rfl, fun e he hb => ?_⟩
        rcases Array.mem_push.1 he with he | rfl
        · exact hall e he hb
        · cases hli : listed.getD i false with
          | true => rfl
          | false =>
            have hlt : i < listed.size := by rw [hc.size]; exact (Array.getElem?_eq_some_iff.1 hoi).1
            exact absurd (mem_ready.2 ⟨getD_in hlt hli, oi, hoi, hdeps listed ok hc hk hall⟩) hni
      · exact ⟨ok, by rw [hat', if_neg hkj]; exact hk, hall⟩
    · rintro ⟨hun, ok, hk, hall⟩
      refine ⟨hun, ?_⟩
      rw [hat'] at hk
      split at hk
      · cases ho : l.toArray[k]? with
        | none => rw [ho] at hk; cases hk
        | some o =>
          rw [ho] at hk
          obtain rfl := Option.some.inj hk
          exact ⟨o, rfl, fun e he hb => hall e (Array.mem_push.2 (.inl he)) hb⟩
      · exact ⟨ok, hk, hall⟩
  have hone : ∀ k K a w, wpOp P (addEdge l j i).toArray Q k K a w → wpOp P l.toArray Q k K a w := fun k K a w h => by
    unfold wpOp at h ⊢
    rw [hat'] at h
    rw [yielded_edge] at h
    split at h
    · rename_i hn
      split at hn
      · cases ho : l.toArray[k]? with
        | none => exact h
        | some o => rw [ho] at hn; cases hn
      · rw [hn]; exact h
    · rename_i o hn
      split at hn
      · cases ho : l.toArray[k]? with
        | none => rw [ho] at hn; cases hn
        | some o2 =>
          rw [ho] at hn
          obtain rfl := Option.some.inj hn
          exact h
      · rw [hn]; exact h
  intro f
  induction f with
  | zero =>
    intro listed a w hc h
    have hni : i ∉ Region.ready md l.toArray listed := fun hr => by
      obtain ⟨hun, o, ho, hall⟩ := mem_ready.1 hr
      have : i ∈ Region.ready md (addEdge l j i).toArray listed := mem_ready.2 ⟨hun, o, by rw [hat', if_neg hij]; exact ho, hall⟩
      rw [h.1] at this
      cases this
    refine ⟨List.eq_nil_iff_forall_not_mem.2 fun k hk => ?_, h.2⟩
    have := (hready listed hc hni k).1 hk
    rw [h.1] at this
    cases this
  | succ f ih =>
    intro listed a w hc h
    by_cases hi : i ∈ Region.ready md l.toArray listed
    · have hi' : i ∈ Region.ready md (addEdge l j i).toArray listed := by
        obtain ⟨hun, o, ho, hall⟩ := mem_ready.1 hi
        exact mem_ready.2 ⟨hun, o, by rw [hat', if_neg hij]; exact ho, hall⟩
      have h1 := hone i _ a w (h.2 i hi')
      unfold wpOp at h1
      rw [hoi] at h1
      have hw : Region.wanted oi (yielded l.toArray a.tmps) = true := by unfold Region.wanted; rw [hg']
      simp only [hw, if_true] at h1
      obtain ⟨v, hv, hK⟩ := pure_yields hp h1
      refine wpAny_first hoi (Region.noSelect_spec hsel) (fun c a w h => hQ c _ _ a w h) f listed a w (fun k ok hk hki hun hno => ?_) hi (.inl ⟨hw, hv⟩) (ih _ _ _ (hc.set hi) hK)
      have h2 := List.all_eq_true.1 hfree k (List.mem_range.2 (Array.getElem?_eq_some_iff.1 hk).1)
      rw [hk] at h2
      simp only [Bool.or_eq_true, beq_iff_eq] at h2
      rcases h2 with (h2 | h2) | h2 | h2
      · exact absurd h2 hki
      · obtain ⟨e, he, hq⟩ := Array.any_eq_true'.1 h2
        simp only [Bool.and_eq_true, beq_iff_eq] at hq
        obtain ⟨_, o3, ho3, hall⟩ := mem_ready.1 hi
        rw [hoi] at ho3
        obtain rfl := Option.some.inj ho3
        have h3 := hall e he hq.1
        rw [hq.2] at h3
        have h4 := getD_both hun
        rw [h3] at h4
        cases h4
      · obtain ⟨e, he, hp⟩ := Array.any_eq_true'.1 h2
        simp only [Bool.and_eq_true, beq_iff_eq] at hp
        exact absurd hp.2 (hno e he hp.1)
      · exact h2
    · have he := hready listed hc hi
      refine ⟨fun hr => h.1 (List.eq_nil_iff_forall_not_mem.2 fun k hk => ?_), fun k hk => ?_⟩
      · have := (he k).2 hk
        rw [hr] at this
        cases this
      · exact wpOp_mono (fun a' w' h' => ih _ a' w' (hc.set hk) h') (hone k _ a w (h.2 k ((he k).1 hk)))
theorem closed_none (n : Nat) {ops : Array Oper} (h : ops.size = n) : Closed md ops (Array.replicate n false) :=
  ⟨by simp [h], fun k ok _ hl => by rw [getD_replicate_false] at hl; cases hl⟩
end

/-! ### the regions' laws -/
/-- no panic -/
def Calm (Q : Exit → Act → World → Prop) : Exit → Act → World → Prop
  | .panic _, _, _ => False
  | e, a, w => Q e a w
theorem calm_then {K : Act → World → Prop} {Q : Exit → Act → World → Prop} : ∀ (e : Exit) (a : Act) (w : World), Exit.then K (Calm Q) e a w → Exit.then K Q e a w := fun e a w h => by
  cases e <;> first | exact h | exact (h : False).elim
theorem calm_panic {K : Act → World → Prop} {Q : Exit → Act → World → Prop} : ∀ c d v (a : Act) (w : World), Exit.then K (Calm Q) (.panic c) (a.put d v) w → Exit.then K (Calm Q) (.panic c) a w := fun _ _ _ _ _ h => (h : False).elim
theorem wp_region_made_late {P : Program} {id : Nat} {K : Act → World → Prop} {Q : Exit → Act → World → Prop} {a : Act} {w : World} {l : List Oper} (i j n : Nat) (d : Tmp) (oa : Oper) (t : TypeId) (z : Array Value) (hoa : (addEdge l j i).toArray[n]? = some oa) (hd : oa.dst = some d) (hm : P.follows .mixedOrders = true) (hL : lateB .any l.toArray i j = true) (hB : lexAllocB .any (addEdge l j i).toArray n = true)
    (hal : ∀ (a : Act) (w : World), (execOp a.eval oa).run P w = .ok (.value (.pointer (some ⟨w.heap.size, 0, none⟩))) (w.alloc (.cells z t)))
    (h : wpQB P w (fun a' => ∀ k w', Below w.heap.size w w' → w.heap.size ≤ k → w'.heap[k]? = some (.cells z t (0, 0)) → wpList P (addEdge l j i).toArray (Exit.then K (Calm Q)) ((addEdge l j i).drop (n + 1)) (a'.put (some d) (.pointer (some ⟨k, 0, none⟩))) w') ((addEdge l j i).take n) a) :
    (Code.region id l.toArray true).wp P (Exit.then K Q) a w := by
  refine Code.wp_mono (Q := Exit.then K (Calm Q)) calm_then (wp_region_any hm (wpAny_late hL calm_panic _ _ _ _ (closed_none _ rfl) ?_))
  have := any_made n d oa t z hoa hd hB hal h
  rwa [List.size_toArray, addEdge_length] at this
end Go.Proofs.YtdjglghecekeoaaGreatDoor

/- A region that draws its order, whose head only reads and makes memory, where what an operation hands back is known only by what is said of it (a fresh slice, a new variable): walked once. Nothing of the program is named here. -/
namespace Go.Proofs.YtdjglghecekeoaaGreatDoor
open Go.Sort Go.RowKit

/-- what is said of an operation's value -/
abbrev Said := Value → World → Prop
section
variable {P : Program} {ops : Array Oper} {md : Region.Mode} {w0 : World}

/-- the operation hands back such a value, and only makes memory -/
def does (P : Program) (o : Oper) (a : Act) (w : World) (r : Said) : Prop := match (execOp a.eval o).run P w with
  | .ok (.value v) w' => Below w.heap.size w w' ∧ r v w'
  | .ok (.enter f args) w' => w' = w ∧ Calls P f args w fun e w'' => ∃ v, e = .returned v ∧ Below w.heap.size w w'' ∧ r v w''
  | _ => False
/-- the walk in the text's order: a fact serves an operation that looks at its slot -/
def wpRel (P : Program) (ops : Array Oper) (w0 : World) (Q : Act → World → Prop) : List (Oper × Said) → List (Tmp × (World → Prop)) → Act → Prop
  | [], G, a => ∀ w, Below w0.heap.size w0 w → (∀ p ∈ G, p.2 w) → Q a w
  | (o, r) :: rest, G, a => (∀ w, Below w0.heap.size w0 w → (∀ p ∈ G, p.1 ∈ o.looksAt ops → p.2 w) → does P o a w r) ∧
      ∀ v, wpRel P ops w0 Q rest ((o.dst.getD 0, r v) :: G) (a.put o.dst v)

/-- what the walk asks of the region, as a Bool -/
def relB (md : Region.Mode) (ops : Array Oper) (n m : Nat) : Bool :=
  Region.noSelect ops && decide (n < ops.size) && Region.sinkB md ops n && Region.chainB md ops n &&
  (List.range n).all (fun i => match ops[i]? with
    | none => false
    | some oi => (oi.guard == none) && (oi.after.all fun e => !Region.binds md e || decide (e.on < i)) && (match oi.dst with
      | none => false
      | some d => decide (d < m) && !(oi.looksAt ops).contains d && (List.range n).all (fun j => j == i || match ops[j]? with
        | none => false
        | some oj => oj.dst != some d && (!(oj.looksAt ops).contains d || Region.waitsFor md ops j i)))) &&
  Region.seqB md ops (ops.size - n) n ((List.replicate n true ++ List.replicate (ops.size - n) false).toArray)

def cnt : Nat → Array Bool → Nat
  | 0, _ => 0
  | k + 1, b => cnt k b + (if b.getD k true = false then 1 else 0)
theorem cnt_far {b : Array Bool} {j : Nat} : ∀ k, k ≤ j → cnt k (b.setIfInBounds j true) = cnt k b
  | 0, _ => rfl
  | k + 1, h => by rw [cnt, cnt, cnt_far k (by omega), getD_set_ne true (by omega)]
theorem cnt_set {b : Array Bool} {j : Nat} (hj : b.getD j true = false) : ∀ k, j < k → cnt k b = cnt k (b.setIfInBounds j true) + 1
  | 0, h => by omega
  | k + 1, h => by
    rw [cnt, cnt]
    by_cases hk : j = k
    · subst hk
      rw [cnt_far j (Nat.le_refl _), if_pos hj, if_neg (by
        have : (b.setIfInBounds j true).getD j true = true := by
          simp [Array.getElem?_setIfInBounds_self]
          split <;> rfl
        rw [this]; decide)]
    · rw [cnt_set hj k (by omega), getD_set_ne true hk]
      omega
theorem cnt_zero {b : Array Bool} : ∀ k, cnt k b = 0 → ∀ i, i < k → b.getD i true = true
  | 0, _, i, h => by omega
  | k + 1, h, i, hi => by
    rw [cnt] at h
    have h1 : ¬ b.getD k true = false := fun e => by rw [if_pos e] at h; omega
    by_cases hik : i = k
    · subst hik; simpa using h1
    · exact cnt_zero k (by omega) i (by omega)
theorem least_un {b : Array Bool} : ∀ k, cnt k b ≠ 0 → ∃ i, i < k ∧ b.getD i true = false ∧ ∀ j, j < i → b.getD j true = true
  | 0, h => absurd rfl h
  | k + 1, h => by
    by_cases h0 : cnt k b = 0
    · rw [cnt, h0] at h
      refine ⟨k, by omega, ?_, fun j hj => cnt_zero k h0 j hj⟩
      cases e : b.getD k true with
      | false => rfl
      | true => rw [e] at h; simp at h
    · obtain ⟨i, h1, h2⟩ := least_un k h0
      exact ⟨i, by omega, h2⟩

/-- the frame of the text's order, with these values -/
def putN : (Nat → Value) → List (Oper × Said) → Nat → Act → Act
  | _, [], _, a => a
  | _, _ :: _, 0, a => a
  | V, (o, _) :: l, i + 1, a => putN (fun k => V (k + 1)) l i (a.put o.dst (V 0))
theorem put_far {a : Act} {d : Option Tmp} {v : Value} {t : Tmp} (h : d ≠ some t) : (a.put d v).eval (.tmp t) = a.eval (.tmp t) :=
  Act.eval_put fun d' hd hx => h (by injection hx with hx; rw [hd, hx])
theorem put_at {a : Act} {d : Tmp} {v : Value} (h : d < a.tmps.size) : (a.put (some d) v).eval (.tmp d) = v := by
  simp [Act.put, Act.eval, Array.getElem?_setIfInBounds_self_of_lt h]
theorem put_size {a : Act} {d : Option Tmp} {v : Value} : (a.put d v).tmps.size = a.tmps.size := by cases d <;> simp [Act.put]
theorem put_defs {a : Act} {d : Option Tmp} {v : Value} : (a.put d v).defers = a.defers := by cases d <;> rfl
theorem putN_size : ∀ (l : List (Oper × Said)) (V : Nat → Value) (i : Nat) (a : Act), (putN V l i a).tmps.size = a.tmps.size ∧ (putN V l i a).defers = a.defers
  | [], _, _, _ => ⟨rfl, rfl⟩
  | _ :: _, _, 0, _ => ⟨rfl, rfl⟩
  | (o, _) :: l, V, i + 1, a => by
    obtain ⟨h1, h2⟩ := putN_size l (fun k => V (k + 1)) i (a.put o.dst (V 0))
    exact ⟨by rw [putN, h1, put_size], by rw [putN, h2, put_defs]⟩
theorem putN_far : ∀ (l : List (Oper × Said)) (V : Nat → Value) (i : Nat) (a : Act) (t : Tmp), (∀ (k : Nat) (o : Oper) (r : Said), k < i → l[k]? = some (o, r) → o.dst ≠ some t) → (putN V l i a).eval (.tmp t) = a.eval (.tmp t)
  | [], _, _, _, _, _ => rfl
  | _ :: _, _, 0, _, _, _ => rfl
  | (o, r) :: l, V, i + 1, a, t, h => by
    rw [putN, putN_far l _ i _ t (fun k o' r' hk hl => h (k + 1) o' r' (by omega) (by simpa using hl)), put_far (h 0 o r (by omega) rfl)]
theorem putN_at : ∀ (l : List (Oper × Said)) (V : Nat → Value) (i : Nat) (a : Act) (t : Tmp) (k : Nat) (o : Oper) (r : Said), k < i → l[k]? = some (o, r) → o.dst = some t → t < a.tmps.size → (∀ (j : Nat) (o' : Oper) (r' : Said), j ≠ k → l[j]? = some (o', r') → o'.dst ≠ some t) → (putN V l i a).eval (.tmp t) = V k
  | [], _, _, _, _, k, _, _, _, hl, _, _, _ => by simp at hl
  | _ :: _, _, 0, _, _, _, _, _, hk, _, _, _, _ => by omega
  | (o1, r1) :: l, V, i + 1, a, t, 0, o, r, _, hl, hd, ht, hfar => by
    simp only [List.getElem?_cons_zero, Option.some.injEq, Prod.mk.injEq] at hl
    obtain ⟨rfl, rfl⟩ := hl
    rw [putN, putN_far l _ i _ t (fun k o' r' _ hl' => hfar (k + 1) o' r' (by omega) (by simpa using hl')), hd, put_at ht]
  | (o1, r1) :: l, V, i + 1, a, t, k + 1, o, r, hk, hl, hd, ht, hfar => by
    rw [putN]
    exact putN_at l (fun k => V (k + 1)) i _ t k o r (by omega) (by simpa using hl) hd (by rw [put_size]; exact ht) (fun j o' r' hj hl' => hfar (j + 1) o' r' (by omega) (by simpa using hl'))

/-- each operation's own part of the walk -/
theorem wpRel_ob {Q : Act → World → Prop} : ∀ (l : List (Oper × Said)) (G : List (Tmp × (World → Prop))) (a : Act), (∀ (k : Nat) (o : Oper) (r : Said), l[k]? = some (o, r) → o.dst ≠ none) → wpRel P ops w0 Q l G a → ∀ (i : Nat) (o : Oper) (r : Said), l[i]? = some (o, r) → ∀ (V : Nat → Value) (w : World), Below w0.heap.size w0 w →
    (∀ p ∈ G, p.1 ∈ o.looksAt ops → p.2 w) → (∀ (k : Nat) (ok : Oper) (rk : Said) (d : Tmp), k < i → l[k]? = some (ok, rk) → ok.dst = some d → d ∈ o.looksAt ops → rk (V k) w) → does P o (putN V l i a) w r
  | [], _, _, _, _, i, _, _, hl, _, _, _, _, _ => by simp at hl
  | (o1, r1) :: l, G, a, hd, h, 0, o, r, hl, V, w, hw, hG, _ => by
    simp only [List.getElem?_cons_zero, Option.some.injEq, Prod.mk.injEq] at hl
    obtain ⟨rfl, rfl⟩ := hl
    exact h.1 w hw hG
  | (o1, r1) :: l, G, a, hd, h, i + 1, o, r, hl, V, w, hw, hG, hV => by
    rw [putN]
    refine wpRel_ob l _ _ (fun k o r hl => hd (k + 1) o r (by simpa using hl)) (h.2 (V 0)) i o r (by simpa using hl) (fun k => V (k + 1)) w hw (fun p hp hlook => ?_) (fun k ok rk d hk hl' hdk hlk => hV (k + 1) ok rk d (by omega) (by simpa using hl') hdk hlk)
    rcases List.mem_cons.1 hp with rfl | hp
    · cases hd1 : o1.dst with
      | none => exact absurd hd1 (hd 0 o1 r1 rfl)
      | some d1 =>
        simp only [hd1, Option.getD_some] at hlook
        exact hV 0 o1 r1 d1 (by omega) rfl hd1 hlook
    · exact hG p hp hlook
theorem wpRel_end {Q : Act → World → Prop} : ∀ (l : List (Oper × Said)) (G : List (Tmp × (World → Prop))) (a : Act), wpRel P ops w0 Q l G a → ∀ (V : Nat → Value) (w : World), Below w0.heap.size w0 w →
    (∀ p ∈ G, p.2 w) → (∀ (k : Nat) (ok : Oper) (rk : Said), l[k]? = some (ok, rk) → rk (V k) w) → Q (putN V l l.length a) w
  | [], _, _, h, _, w, hw, hG, _ => h w hw hG
  | (o1, r1) :: l, G, a, h, V, w, hw, hG, hV => by
    rw [List.length_cons, putN]
    refine wpRel_end l _ _ (h.2 (V 0)) (fun k => V (k + 1)) w hw (fun p hp => ?_) (fun k ok rk hl => hV (k + 1) ok rk (by simpa using hl))
    rcases List.mem_cons.1 hp with rfl | hp
    · exact hV 0 o1 r1 rfl
    · exact hG p hp
theorem does_congr {o : Oper} {a a' : Act} {w : World} {r : Said} (hs : ∀ cs b, o.op ≠ .select cs b) (h : ∀ t, t ∈ o.looksAt ops → a.eval (.tmp t) = a'.eval (.tmp t)) (hd : does P o a w r) : does P o a' w r := by
  have e : execOp a.eval o = execOp a'.eval o := execOp_congr o hs fun x hx => by
    cases x with
    | tmp t => exact h t (List.mem_append_left _ (List.mem_filterMap.2 ⟨.tmp t, by simpa using hx, rfl⟩))
    | _ => rfl
  unfold does at *
  rwa [e] at hd
theorem act_ext {a b : Act} (h1 : a.defers = b.defers) (h2 : a.tmps.size = b.tmps.size) (h3 : ∀ t, t < a.tmps.size → a.eval (.tmp t) = b.eval (.tmp t)) : a = b := by
  cases a; cases b
  simp only at h1 h2
  subst h1
  congr 1
  apply Array.ext h2
  intro i hi hj
  have := h3 i hi
  simp only [Act.eval, Array.getD_eq_getD_getElem?, Array.getElem?_eq_getElem hi, Array.getElem?_eq_getElem hj, Option.getD_some] at this
  exact this

/-- what holds on the way -/
structure Way (ops : Array Oper) (w0 : World) (n : Nat) (rs : Nat → Said) (a0 : Act) (listed : Array Bool) (a : Act) (w : World) : Prop where
  defs : a.defers = a0.defers
  size : a.tmps.size = a0.tmps.size
  same : ∀ t, (∀ (k : Nat) (ok : Oper), k < n → ops[k]? = some ok → ok.dst ≠ some t) → a.eval (.tmp t) = a0.eval (.tmp t)
  grown : Below w0.heap.size w0 w
  said : ∀ (k : Nat) (ok : Oper) (d : Tmp), k < n → ops[k]? = some ok → ok.dst = some d → listed.getD k true = true → rs k (a.eval (.tmp d)) w

theorem wpAny_rel {Q : Exit → Act → World → Prop} {l : List Oper} {n m : Nat} (hops : ops = l.toArray) (hB : relB md ops n m = true) {rs : Nat → Said} {a0 : Act} (hm : a0.tmps.size = m) (hmono : ∀ i v w w', rs i v w → Below w.heap.size w w' → rs i v w')
    (hob : ∀ (i : Nat) (oi : Oper), i < n → ops[i]? = some oi → ∀ (a : Act) (w : World), Below w0.heap.size w0 w → (∀ t, (∀ (k : Nat) (ok : Oper), k < n → ops[k]? = some ok → ok.dst ≠ some t) → a.eval (.tmp t) = a0.eval (.tmp t)) →
      (∀ (k : Nat) (ok : Oper) (d : Tmp), k < n → ops[k]? = some ok → ok.dst = some d → d ∈ oi.looksAt ops → rs k (a.eval (.tmp d)) w) → does P oi a w (rs i))
    (hend : ∀ (a : Act) (w : World), a.defers = a0.defers → a.tmps.size = a0.tmps.size → (∀ t, (∀ (k : Nat) (ok : Oper), k < n → ops[k]? = some ok → ok.dst ≠ some t) → a.eval (.tmp t) = a0.eval (.tmp t)) → Below w0.heap.size w0 w →
      (∀ (k : Nat) (ok : Oper) (d : Tmp), k < n → ops[k]? = some ok → ok.dst = some d → rs k (a.eval (.tmp d)) w) → wpList P ops Q (l.drop n) a w) :
    ∀ (f : Nat) (listed : Array Bool) (a : Act) (w : World), HeadInv md ops n listed → cnt n listed = f → Way ops w0 n rs a0 listed a w → wpAny P md ops Q (f + (ops.size - n)) listed a w := by
  simp only [relB, Bool.and_eq_true, decide_eq_true_eq] at hB
  obtain ⟨⟨⟨⟨⟨hsel, hn⟩, hs⟩, hc⟩, hall⟩, hseq⟩ := hB
  have hat : ∀ i, i < n → ∃ oi d, ops[i]? = some oi ∧ oi.dst = some d ∧ oi.guard = none ∧ d < m ∧ d ∉ oi.looksAt ops ∧ (∀ e ∈ oi.after, Region.binds md e = true → e.on < i) ∧
      (∀ j oj, j < n → j ≠ i → ops[j]? = some oj → oj.dst ≠ some d ∧ (d ∈ oj.looksAt ops → Region.waitsFor md ops j i = true)) := fun i hi => by
    have h1 := List.all_eq_true.1 hall i (List.mem_range.2 hi)
    cases ho : ops[i]? with
    | none => rw [ho] at h1; cases h1
    | some oi =>
      rw [ho] at h1
      simp only [Bool.and_eq_true] at h1
      obtain ⟨⟨hg, haf⟩, hd⟩ := h1
      cases hdst : oi.dst with
      | none => rw [hdst] at hd; cases hd
      | some d =>
        rw [hdst] at hd
        simp only [Bool.and_eq_true, decide_eq_true_eq] at hd
        obtain ⟨⟨hdm, hown⟩, hd⟩ := hd
        refine ⟨oi, d, rfl, hdst, by simpa using hg, hdm, by simpa using hown, fun e he hb => ?_, fun j oj hj hji hoj => ?_⟩
        · have := Array.all_eq_true_iff_forall_mem.1 haf e he
          rw [hb] at this
          simpa using this
        · have h2 := List.all_eq_true.1 hd j (List.mem_range.2 hj)
          rw [hoj] at h2
          simp only [Bool.or_eq_true, beq_iff_eq, Bool.and_eq_true] at h2
          rcases h2 with h2 | ⟨h2, h3⟩
          · exact absurd h2 hji
          · refine ⟨by simpa using h2, fun hlk => ?_⟩
            rcases h3 with h3 | h3
            · simp [hlk] at h3
            · exact h3
  intro f
  induction f with
  | zero =>
    intro listed a w inv hcnt way
    rw [Nat.zero_add]
    have hz := cnt_zero n hcnt
    have hF : listed = (List.replicate n true ++ List.replicate (ops.size - n) false).toArray := by
      apply Array.ext
      · simp [inv.size]; omega
      · intro i hi hi2
        by_cases hin : i < n
        · have h1 := hz i hin
          simp only [Array.getD_eq_getD_getElem?, Array.getElem?_eq_getElem hi, Option.getD_some] at h1
          rw [h1, List.getElem_toArray, List.getElem_append_left (by simpa using hin), List.getElem_replicate]
        · have h1 := inv.tail i (by omega) (by rw [← inv.size]; exact hi)
          simp only [Array.getD_eq_getD_getElem?, Array.getElem?_eq_getElem hi, Option.getD_some] at h1
          rw [h1, List.getElem_toArray, List.getElem_append_right (by simpa using hin), List.getElem_replicate]
    have hdl : (l.drop n).length = ops.size - n := by rw [hops]; simp
    have := wpAny_of_seq (md := md) (Q' := Q) (l.drop n) n listed a w (fun j => by rw [hops]; simp [List.getElem?_drop]) (by rw [hdl, hF]; exact hseq) (hend a w way.defs way.size way.same way.grown (fun k ok d hk hok hd => way.said k ok d hk hok hd (hz k hk)))
    rwa [hdl] at this
  | succ f ih =>
    intro listed a w inv hcnt way
    obtain ⟨i0, hi0, hun0, hbef⟩ := least_un (b := listed) n (by omega)
    have hready : i0 ∈ Region.ready md ops listed := by
      obtain ⟨oi, d, hoi, _, _, _, _, haf, _⟩ := hat i0 hi0
      refine mem_ready.2 ⟨hun0, oi, hoi, fun e he hb => ?_⟩
      have h1 := haf e he hb
      have h2 := hbef e.on h1
      have hlt : e.on < listed.size := by rw [inv.size]; omega
      simpa [hlt] using h2
    rw [show f + 1 + (ops.size - n) = (f + (ops.size - n)) + 1 by omega]
    refine ⟨fun h => (by rw [h] at hready; cases hready), fun i hi => ?_⟩
    have hin : i < n := by
      rcases Nat.lt_or_ge i n with h | h
      · exact h
      · exact absurd hi (tail_waits hs hc hn inv _ i0 rfl hi0 hun0 i h)
    obtain ⟨oi, d, hoi, hdst, hg, hdm, hown, haf, hfar⟩ := hat i hin
    obtain ⟨huni, oi', hoi', hdeps⟩ := mem_ready.1 hi
    obtain rfl : oi' = oi := Option.some.inj (hoi'.symm.trans hoi)
    have hdo := hob i oi' hin hoi a w way.grown way.same (fun k ok dk hk hok hdk hlk => by
      by_cases hki : k = i
      · subst hki
        obtain rfl : ok = oi' := Option.some.inj (hok.symm.trans hoi)
        rw [hdst] at hdk
        obtain rfl := Option.some.inj hdk
        exact absurd hlk hown
      · obtain ⟨ok', dk', hok', hdk', _, _, _, _, hf⟩ := hat k hk
        obtain rfl : ok' = ok := Option.some.inj (hok'.symm.trans hok)
        rw [hdk'] at hdk
        obtain rfl := Option.some.inj hdk
        obtain ⟨oj, hoj, e, he, hb, hon⟩ := Region.waitsFor_spec ((hf i oi' hin (Ne.symm hki) hoi).2 hlk)
        obtain rfl : oj = oi' := Option.some.inj (hoj.symm.trans hoi)
        have h1 := hdeps e he hb
        rw [hon] at h1
        refine way.said k ok' dk' hk hok' hdk' ?_
        have hlt : k < listed.size := by rw [inv.size]; omega
        simpa [hlt] using h1)
    have hgo : ∀ v w', Below w.heap.size w w' → rs i v w' → wpAny P md ops Q (f + (ops.size - n)) (listed.setIfInBounds i true) (a.put oi'.dst v) w' := fun v w' hb hr => by
      refine ih _ _ _ (inv.set hi hin) (by have := cnt_set huni n hin; omega) ⟨by rw [put_defs]; exact way.defs, by rw [put_size]; exact way.size, fun t ht => ?_, way.grown.trans (hb.mono way.grown.size), fun k ok dk hk hok hdk hl => ?_⟩
      · rw [put_far (ht i oi' hin hoi)]
        exact way.same t ht
      · by_cases hki : k = i
        · subst hki
          obtain rfl : ok = oi' := Option.some.inj (hok.symm.trans hoi)
          rw [hdk, put_at (by rw [hdst] at hdk; obtain rfl := Option.some.inj hdk; rw [way.size, hm]; exact hdm)]
          exact hr
        · rw [getD_set_ne true (Ne.symm hki)] at hl
          have hne : oi'.dst ≠ some dk := by
            rw [hdst]
            intro e
            exact (hfar k ok hk hki hok).1 (by rw [hdk, e])
          rw [put_far hne]
          exact hmono _ _ _ _ (way.said k ok dk hk hok hdk hl) hb
    unfold wpOp
    rw [hoi]
    have hw : Region.wanted oi' (yielded ops a.tmps) = true := by unfold Region.wanted; rw [hg]
    simp only [hw, if_true]
    left
    unfold Oper.wp
    unfold does at hdo
    generalize (execOp a.eval oi').run P w = res at *
    cases res with
    | ok nx w' =>
      cases nx <;> simp only at hdo <;> simp only [Oper.upon]
      case value v => exact hgo v w' hdo.1 hdo.2
      case enter fn args =>
        obtain ⟨rfl, hcalls⟩ := hdo
        exact hcalls.mono fun e w'' ⟨v, he, hb, hr⟩ => by subst he; exact hgo v w'' hb hr
    | halt x w' => exact hdo.elim
theorem relB_spec {n m : Nat} (hB : relB md ops n m = true) : Region.noSelect ops = true ∧ n < ops.size ∧ ∀ i, i < n → ∃ oi d, ops[i]? = some oi ∧ oi.dst = some d ∧ oi.guard = none ∧ d < m ∧ d ∉ oi.looksAt ops ∧ (∀ e ∈ oi.after, Region.binds md e = true → e.on < i) ∧
      (∀ j oj, j < n → j ≠ i → ops[j]? = some oj → oj.dst ≠ some d ∧ (d ∈ oj.looksAt ops → Region.waitsFor md ops j i = true)) := by
  simp only [relB, Bool.and_eq_true, decide_eq_true_eq] at hB
  obtain ⟨⟨⟨⟨⟨hsel, hn⟩, hs⟩, hc⟩, hall⟩, hseq⟩ := hB
  have hat : ∀ i, i < n → ∃ oi d, ops[i]? = some oi ∧ oi.dst = some d ∧ oi.guard = none ∧ d < m ∧ d ∉ oi.looksAt ops ∧ (∀ e ∈ oi.after, Region.binds md e = true → e.on < i) ∧
      (∀ j oj, j < n → j ≠ i → ops[j]? = some oj → oj.dst ≠ some d ∧ (d ∈ oj.looksAt ops → Region.waitsFor md ops j i = true)) := fun i hi => by
    have h1 := List.all_eq_true.1 hall i (List.mem_range.2 hi)
    cases ho : ops[i]? with
    | none => rw [ho] at h1; cases h1
    | some oi =>
      rw [ho] at h1
      simp only [Bool.and_eq_true] at h1
      obtain ⟨⟨hg, haf⟩, hd⟩ := h1
      cases hdst : oi.dst with
      | none => rw [hdst] at hd; cases hd
      | some d =>
        rw [hdst] at hd
        simp only [Bool.and_eq_true, decide_eq_true_eq] at hd
        obtain ⟨⟨hdm, hown⟩, hd⟩ := hd
        refine ⟨oi, d, rfl, hdst, by simpa using hg, hdm, by simpa using hown, fun e he hb => ?_, fun j oj hj hji hoj => ?_⟩
        · have := Array.all_eq_true_iff_forall_mem.1 haf e he
          rw [hb] at this
          simpa using this
        · have h2 := List.all_eq_true.1 hd j (List.mem_range.2 hj)
          rw [hoj] at h2
          simp only [Bool.or_eq_true, beq_iff_eq, Bool.and_eq_true] at h2
          rcases h2 with h2 | ⟨h2, h3⟩
          · exact absurd h2 hji
          · refine ⟨by simpa using h2, fun hlk => ?_⟩
            rcases h3 with h3 | h3
            · simp [hlk] at h3
            · exact h3
  exact ⟨hsel, hn, hat⟩

theorem any_rel {Q : Exit → Act → World → Prop} {a0 : Act} {l : List Oper} (n m : Nat) (rs : List Said) (hlen : rs.length = n) (hsz : a0.tmps.size = m) (hB : relB .any l.toArray n m = true)
    (hmono : ∀ r ∈ rs, ∀ v w w', r v w → Below w.heap.size w w' → r v w')
    (h : wpRel P l.toArray w0 (fun a' w' => wpList P l.toArray Q (l.drop n) a' w') ((l.take n).zip rs) [] a0) : wpAny P .any l.toArray Q l.toArray.size (Array.replicate l.toArray.size false) a0 { w0 with drawn := w0.drawn + 1 } := by
  obtain ⟨hsel, hn, hat⟩ := relB_spec hB
  have hnl : n < l.length := by simpa using hn
  have hpair : ∀ (k : Nat) (ok : Oper), k < n → l.toArray[k]? = some ok → ∃ rk, ((l.take n).zip rs)[k]? = some (ok, rk) ∧ rs[k]? = some rk := fun k ok hk hok => by
    have h1 : k < rs.length := by omega
    refine ⟨rs[k], ?_, List.getElem?_eq_getElem h1⟩
    rw [List.getElem?_zip_eq_some]
    exact ⟨by rw [List.getElem?_take_of_lt hk]; simpa using hok, List.getElem?_eq_getElem h1⟩
  have hunp : ∀ (k : Nat) (ok : Oper) (rk : Said), ((l.take n).zip rs)[k]? = some (ok, rk) → k < n ∧ l.toArray[k]? = some ok ∧ rs[k]? = some rk := fun k ok rk hk => by
    rw [List.getElem?_zip_eq_some] at hk
    obtain ⟨h1, h2⟩ := hk
    have hkn : k < n := by
      have := (List.getElem?_eq_some_iff.1 h2).1
      omega
    rw [List.getElem?_take_of_lt hkn] at h1
    exact ⟨hkn, by simpa using h1, h2⟩
  have hdst : ∀ (k : Nat) (o : Oper) (r : Said), ((l.take n).zip rs)[k]? = some (o, r) → o.dst ≠ none := fun k o r hk => by
    obtain ⟨hkn, hok, _⟩ := hunp k o r hk
    obtain ⟨o', d, ho', hd, _⟩ := hat k hkn
    obtain rfl : o' = o := Option.some.inj (ho'.symm.trans hok)
    rw [hd]
    exact fun e => by cases e
  have hrs : ∀ (k : Nat) (rk : Said), rs[k]? = some rk → rs.getD k (fun _ _ => True) = rk := fun k rk hk => by rw [List.getD_eq_getElem?_getD, hk]; rfl
  -- the values of a frame
  have hval : ∀ (a : Act), ∃ V : Nat → Value, ∀ (k : Nat) (ok : Oper) (d : Tmp), k < n → l.toArray[k]? = some ok → ok.dst = some d → V k = a.eval (.tmp d) := fun a =>
    ⟨fun k => match l.toArray[k]? with | some ok => a.eval (.tmp (ok.dst.getD 0)) | none => undef, fun k ok d _ hok hd => by simp only [hok, hd, Option.getD_some]⟩
  -- what a slot holds in the frame of the text's order
  have hslot : ∀ (V : Nat → Value) (i k : Nat) (ok : Oper) (d : Tmp), k < i → k < n → l.toArray[k]? = some ok → ok.dst = some d → (putN V ((l.take n).zip rs) i a0).eval (.tmp d) = V k := fun V i k ok d hki hk hok hd => by
    obtain ⟨rk, hp, _⟩ := hpair k ok hk hok
    obtain ⟨o', d', ho', hd', _, hdm, _, _, hf⟩ := hat k hk
    obtain rfl : o' = ok := Option.some.inj (ho'.symm.trans hok)
    obtain rfl := Option.some.inj (hd'.symm.trans hd)
    refine putN_at _ V i a0 d' k o' rk hki hp hd (by rw [hsz]; exact hdm) (fun j oj rj hjk hj => ?_)
    obtain ⟨hjn, hoj, _⟩ := hunp j oj rj hj
    exact (hf j oj hjn hjk hoj).1
  have hother : ∀ (V : Nat → Value) (i : Nat) (t : Tmp), (∀ (k : Nat) (ok : Oper), k < n → l.toArray[k]? = some ok → ok.dst ≠ some t) → (putN V ((l.take n).zip rs) i a0).eval (.tmp t) = a0.eval (.tmp t) := fun V i t ht =>
    putN_far _ V i a0 t (fun k o r _ hk => ht k o (hunp k o r hk).1 (hunp k o r hk).2.1)
  have H := wpAny_rel (md := .any) (P := P) (Q := Q) (w0 := w0) (l := l) (n := n) (m := m) rfl hB (rs := fun i => rs.getD i (fun _ _ => True)) (a0 := a0) hsz (fun i v w w' hr hb => by
      rcases Nat.lt_or_ge i rs.length with hi | hi
      · rw [List.getD_eq_getElem?_getD, List.getElem?_eq_getElem hi, Option.getD_some] at hr ⊢
        exact hmono _ (List.getElem_mem hi) v w w' hr hb
      · rw [List.getD_eq_getElem?_getD, List.getElem?_eq_none hi]
        trivial)
    (fun i oi hi hoi a w hw hsame hdeps => by
      obtain ⟨V, hV⟩ := hval a
      obtain ⟨ri, hp, hri⟩ := hpair i oi hi hoi
      rw [hrs i ri hri]
      have h1 := wpRel_ob _ [] a0 hdst h i oi ri hp V w hw (fun p hp => by cases hp) (fun k ok rk d hk hl hd hlk => by
        obtain ⟨hkn, hok, hrk⟩ := hunp k ok rk hl
        have := hdeps k ok d hkn hok hd hlk
        rw [hrs k rk hrk] at this
        rwa [hV k ok d hkn hok hd])
      refine does_congr (ops := l.toArray) (fun cs b => Region.noSelect_spec hsel i oi cs b hoi) (fun t ht => ?_) h1
      by_cases hex : ∃ (k : Nat) (ok : Oper), k < n ∧ l.toArray[k]? = some ok ∧ ok.dst = some t
      · obtain ⟨k, ok, hkn, hok, hdk⟩ := hex
        obtain ⟨oi', di, hoi', hdi, _, _, hown, haf, _⟩ := hat i hi
        obtain rfl : oi' = oi := Option.some.inj (hoi'.symm.trans hoi)
        have hki : k < i := by
          by_cases hk : k = i
          · subst hk
            obtain rfl : ok = oi' := Option.some.inj (hok.symm.trans hoi)
            rw [hdi] at hdk
            obtain rfl := Option.some.inj hdk
            exact absurd ht hown
          · obtain ⟨ok', dk', hok', hdk', _, _, _, _, hf⟩ := hat k hkn
            obtain rfl : ok' = ok := Option.some.inj (hok'.symm.trans hok)
            obtain rfl := Option.some.inj (hdk'.symm.trans hdk)
            obtain ⟨oj, hoj, e, he, hb, hon⟩ := Region.waitsFor_spec ((hf i oi' hi (Ne.symm hk) hoi).2 ht)
            obtain rfl : oj = oi' := Option.some.inj (hoj.symm.trans hoi)
            have := haf e he hb
            omega
        rw [hslot V i k ok t hki hkn hok hdk, hV k ok t hkn hok hdk]
      · rw [hother V i t (fun k ok hk hok hd => hex ⟨k, ok, hk, hok, hd⟩), hsame t (fun k ok hk hok hd => hex ⟨k, ok, hk, hok, hd⟩)])
    (fun a w hdef hsize hsame hw hsaid => by
      obtain ⟨V, hV⟩ := hval a
      have hll : ((l.take n).zip rs).length = n := by simp [hlen]; omega
      have h1 := wpRel_end _ [] a0 h V w hw (fun p hp => by cases hp) (fun k ok rk hk => by
        obtain ⟨hkn, hok, hrk⟩ := hunp k ok rk hk
        obtain ⟨ok', d, hok', hd, _⟩ := hat k hkn
        obtain rfl : ok' = ok := Option.some.inj (hok'.symm.trans hok)
        have := hsaid k ok' d hkn hok hd
        rw [hrs k rk hrk] at this
        rwa [hV k ok' d hkn hok hd])
      rw [hll] at h1
      have hsz2 := putN_size ((l.take n).zip rs) V n a0
      have e : putN V ((l.take n).zip rs) n a0 = a := act_ext (by rw [hsz2.2, hdef]) (by rw [hsz2.1, hsize]) (fun t _ => by
        by_cases hex : ∃ (k : Nat) (ok : Oper), k < n ∧ l.toArray[k]? = some ok ∧ ok.dst = some t
        · obtain ⟨k, ok, hkn, hok, hdk⟩ := hex
          rw [hslot V n k ok t hkn hkn hok hdk, hV k ok t hkn hok hdk]
        · rw [hother V n t (fun k ok hk hok hd => hex ⟨k, ok, hk, hok, hd⟩), hsame t (fun k ok hk hok hd => hex ⟨k, ok, hk, hok, hd⟩)])
      rw [e] at h1
      exact h1)
    (cnt n (Array.replicate l.toArray.size false)) (Array.replicate l.toArray.size false) a0 { w0 with drawn := w0.drawn + 1 }
    ⟨by simp, fun j oj _ hl => (by rw [getD_replicate_false] at hl; cases hl), fun t _ ht => getD_in (by simpa using ht) (getD_replicate_false _ _)⟩ rfl
    ⟨rfl, rfl, fun _ _ => rfl, (Below.refl w0.heap.size w0).drew, fun k ok d hk _ _ hl => by
      have : (Array.replicate l.toArray.size false).getD k true = false := getD_in (by simp; omega) (getD_replicate_false _ _)
      rw [this] at hl
      cases hl⟩
  have hc : ∀ k, k ≤ l.toArray.size → cnt k (Array.replicate l.toArray.size false) = k := fun k => by
    induction k with
    | zero => intro _; rfl
    | succ k ih =>
      intro hk
      rw [cnt, ih (by omega), if_pos (getD_in (by rw [Array.size_replicate]; omega) (getD_replicate_false _ _))]
  rw [hc n (by omega), show n + (l.toArray.size - n) = l.toArray.size by omega] at H
  exact H
/-- **the law** -/
theorem wp_region_rel {id : Nat} {Q : Exit → Act → World → Prop} {a0 : Act} {l : List Oper} (n m : Nat) (rs : List Said) (hlen : rs.length = n) (hsz : a0.tmps.size = m) (hm : P.follows .mixedOrders = true) (hB : relB .any l.toArray n m = true)
    (hmono : ∀ r ∈ rs, ∀ v w w', r v w → Below w.heap.size w w' → r v w')
    (h : wpRel P l.toArray w0 (fun a' w' => wpList P l.toArray Q (l.drop n) a' w') ((l.take n).zip rs) [] a0) : (Code.region id l.toArray true).wp P Q a0 w0 :=
  wp_region_any hm (any_rel n m rs hlen hsz hB hmono h)
/-! ### the steps -/
theorem does_run {o : Oper} {a : Act} {w : World} {r : Said} (v : Value) (hr : (execOp a.eval o).run P w = .ok (.value v) w) (h : r v w) : does P o a w r := by
  unfold does
  rw [hr]
  exact ⟨Below.refl _ _, h⟩
theorem does_made {o : Oper} {a : Act} {w w' : World} {r : Said} (v : Value) (hr : (execOp a.eval o).run P w = .ok (.value v) w') (hb : Below w.heap.size w w') (h : r v w') : does P o a w r := by
  unfold does
  rw [hr]
  exact ⟨hb, h⟩
theorem does_call {o : Oper} {a : Act} {w : World} {r : Said} (f : FuncId) (args : Array Value) (hr : (execOp a.eval o).run P w = .ok (.enter f args) w) (h : Calls P f args w fun e w'' => ∃ v, e = .returned v ∧ Below w.heap.size w w'' ∧ r v w'') : does P o a w r := by
  unfold does
  rw [hr]
  exact ⟨rfl, h⟩
/-- it is just this value -/
abbrev sayFix (c : Value) : Said := fun v _ => v = c
theorem sayFix_mono (c : Value) : ∀ v w w', sayFix c v w → Below w.heap.size w w' → sayFix c v w' := fun _ _ _ h _ => h
theorem wpRel_nil {Q : Act → World → Prop} {G : List (Tmp × (World → Prop))} {a : Act} (h : ∀ w, Below w0.heap.size w0 w → (∀ p ∈ G, p.2 w) → Q a w) : wpRel P ops w0 Q [] G a := h
theorem wpRel_step {Q : Act → World → Prop} {G : List (Tmp × (World → Prop))} {a : Act} {o : Oper} {r : Said} {rest : List (Oper × Said)}
    (h1 : ∀ w, Below w0.heap.size w0 w → (∀ p ∈ G, p.1 ∈ o.looksAt ops → p.2 w) → does P o a w r) (h2 : ∀ v, wpRel P ops w0 Q rest ((o.dst.getD 0, r v) :: G) (a.put o.dst v)) : wpRel P ops w0 Q ((o, r) :: rest) G a := ⟨h1, h2⟩
/-- a fact that the walk has laid, by its place -/
theorem laid_at {G : List (Tmp × (World → Prop))} {S : Tmp → Prop} {w : World} (k : Nat) {t : Tmp} {F : World → Prop} (hG : ∀ p ∈ G, S p.1 → p.2 w) (hk : G[k]? = some (t, F)) (hS : S t) : F w := hG (t, F) (List.mem_of_getElem? hk) hS
end
end Go.Proofs.YtdjglghecekeoaaGreatDoor

/- A tree that goes on: the contract of the program's Add. -/
namespace Go.Proofs.YtdjglghecekeoaaGreatDoor.R
open Go.RowKit Go.Sort Go.Proofs.YtdjglghecekeoaaGreatDoor.U
set_option maxRecDepth 100000

theorem Own.form {w : World} {B : Nat} {v : Value} {ps : List (List UInt8)} (h : Own w B v ps) : ∃ a c, v = .slice a ps.length c := by
  rcases h with ⟨a, rfl, rfl⟩ | ⟨gp, cap, rfl, _⟩
  · exact ⟨a, 0, rfl⟩
  · exact ⟨_, _, rfl⟩
section
variable (n : Int) (v lv : Value) (ps l : List (List UInt8)) (w : World)
end

end Go.Proofs.YtdjglghecekeoaaGreatDoor.R

