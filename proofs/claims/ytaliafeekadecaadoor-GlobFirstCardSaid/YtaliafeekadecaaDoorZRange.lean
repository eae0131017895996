/- A range over an iterator that keeps what is left of its text in a variable of its own. The iterator's variables lie from lo on; what the loop's body has of its own lies below, or is new. Nothing of the program is named here. -/
import Derived.RangeFuncNested
import Derived.RangeFuncBound
import Derived.RangeFuncCalls
import Derived.RangeFuncLeaves
import Derived.RangeFuncRecord
import Derived.Below
import Derived.Test.YtaliafeekadecaaDoorMath
namespace Go.Proofs.YtaliafeekadecaaDoor.Z
open Go.RowKit

/-- what a round of a body that goes on leaves as it was: all blocks from lo on -/
structure Spares (lo : Nat) (A B : World) : Prop where
  size : A.heap.size ≤ B.heap.size
  same : ∀ k, lo ≤ k → k < A.heap.size → B.heap[k]? = A.heap[k]?
theorem Spares.refl (lo : Nat) (A : World) : Spares lo A A := ⟨Nat.le_refl _, fun _ _ _ => rfl⟩
theorem Spares.trans {lo : Nat} {A B C : World} (h : Spares lo A B) (k : Spares lo B C) : Spares lo A C :=
  ⟨Nat.le_trans h.size k.size, fun j h1 h2 => (k.same j h1 (Nat.lt_of_lt_of_le h2 h.size)).trans (h.same j h1 h2)⟩
theorem Spares.of_below {lo : Nat} {A B : World} (h : Below A.heap.size A B) : Spares lo A B := ⟨h.size, fun k _ hk => h.block k hk⟩
theorem Spares.set {lo : Nat} (A : World) {g : Nat} (hg : g < lo) (i : Nat) (v : Value) : Spares lo A (A.setCell ⟨g, i, none⟩ v) := ⟨by simp, fun k hk _ => Below.heap_setCell A ⟨g, i, none⟩ v k (by simp only; omega)⟩

/-- an iterator that hands on all of 'all', or, once a round has said 'no more', stops; it writes block bs alone of what was there; N: how long what it hands on is -/
def Hands {α : Type} (P : Program) (gf : Nat) (lb : Array Value) (encs : α → Array Value) (lo hi bs : Nat) (all : List α) (w : World) : Prop :=
  ∀ (l : Nat) (J Jx : List α → World → Prop) (W : World), (∀ k, lo ≤ k → k < hi → W.heap[k]? = w.heap[k]?) → hi ≤ W.heap.size →
    (∀ pre A v, J pre A → J pre (A.setCell ⟨bs, 0, none⟩ v)) → (∀ pre A v, Jx pre A → Jx pre (A.setCell ⟨bs, 0, none⟩ v)) →
    (∀ pre A B, Below A.heap.size A B → J pre A → J pre B) → (∀ pre A B, Below A.heap.size A B → Jx pre A → Jx pre B) →
    (∀ pre x W1, J pre W1 → x ∈ all → hi ≤ W1.heap.size → YieldAt Fence.wide 2 P l (encs x) W1 fun e W' =>
      (e = .returned (.bool true) ∧ J (pre ++ [x]) W' ∧ (∀ k, lo ≤ k → k < hi → W'.heap[k]? = W1.heap[k]?) ∧ W1.heap.size ≤ W'.heap.size) ∨ (e = .returned (.bool false) ∧ Jx (pre ++ [x]) W')) →
    J [] W →
    CallsIn Fence.wide 3 P gf (#[.func (.yield l) #[] #[]] ++ lb) W fun e W' => (∃ v, e = .returned v) ∧ (J all W' ∨ ∃ pre, pre <+: all ∧ Jx pre W')

/-- how a body is left: it goes on, or returns -/
def bodyEnd {α : Type} (lo : Nat) (I Ix : List α → World → Prop) (xs : List α) (W : World) : Exit → Act → World → Prop
  | .normal, _, W' => Spares lo W W' ∧ I xs W'
  | .ret, _, W' => Spares lo W W' ∧ Ix xs W'
  | _, _, _ => False

theorem run_over {P : Program} {α : Type} {g : Operand} {ps : Array Tmp} {assign body : Code} {Q : Exit → Act → World → Prop} {a : Act} {w : World}
    {gf : Nat} {lb : Array Value} (hg : a.eval g = .func (.func gf) #[] lb) (eg : ∀ args w, (callFunc gf args).run P w = .ok (.enter gf args) w)
    {encs : α → Array Value} {lo hi bs : Nat} {all : List α} (hseq : Hands P gf lb encs lo hi bs all w) (hlo : lo ≤ bs) (hbs : bs < hi) (hhi : hi ≤ w.heap.size) (hps : ∀ x, (encs x).size = ps.size)
    (I Ix : List α → World → Prop) (hI : ∀ pre A B, Below lo A B → I pre A → I pre B) (hIx : ∀ pre A B, Below lo A B → Ix pre A → Ix pre B) (h0 : I [] w) (a1 : α → Act)
    (hassign : ∀ (l : Nat) (x : α) (W : World) (K : Act → World → Prop), K (a1 x) W →
      assign.wpIn (Fence.wide.inRound l) 2 P (Exit.then K (fun _ _ _ => False)) { tmps := (ps.zip (encs x)).foldl (fun t (p, v) => t.setIfInBounds p v) a.tmps, defers := [] } W)
    (hbody : ∀ (l : Nat) (pre : List α) (x : α) (W : World), I pre W → x ∈ all → lo ≤ W.heap.size → body.wpIn (Fence.wide.inRound l) 2 P (bodyEnd lo I Ix (pre ++ [x]) W) (a1 x) W)
    (hdone : ∀ (D : Nat) (W : World), I all W → lo ≤ D → W.heap[D]? = some (.deferred (some [])) → Q .normal { a with defers := { target := .collected D, args := #[] } :: a.defers } W)
    (hstop : ∀ (D : Nat) (pre : List α) (W : World), pre <+: all → Ix pre W → lo ≤ D → W.heap[D]? = some (.deferred (some [])) → Code.ret.wpIn Fence.wide 4 P Q { a with defers := { target := .collected D, args := #[] } :: a.defers } W) :
    (Code.rangeFunc g ps assign body).wpIn Fence.wide 4 P Q a w := by
  refine wpIn_rangeFunc fun fn hfn => ?_
  -- the record, and where it lies
  let rc : LoopState → Option Code → Loop := fun st pe => { state := st, pending := pe, fn, tmps := a.tmps, params := ps, assign, body, defers := w.heap.size }
  have hrc : ∀ st pe, rc st pe = { state := st, pending := pe, fn, tmps := a.tmps, params := ps, assign, body, defers := w.heap.size } := fun _ _ => rfl
  obtain ⟨D, hD⟩ : ∃ D, w.heap.size = D := ⟨_, rfl⟩
  obtain ⟨W1, hW1⟩ : ∃ W1, (w.alloc (.deferred (some []))).alloc (.loop (rc .ready none)) = W1 := ⟨_, rfl⟩
  have hbW : Below w.heap.size w W1 := by rw [← hW1]; exact ((Below.refl _ w).alloc (Nat.le_refl _) _).alloc (by simp) _
  have hloD : lo ≤ D := by omega
  have hR1 : W1.heap[D + 1]? = some (.loop (rc .ready none)) := by
    rw [← hW1, ← hD]
    have := World.alloc_heap_new (w.alloc (.deferred (some []))) (.loop (rc .ready none))
    rwa [World.size_alloc] at this
  have hQ1 : W1.heap[D]? = some (.deferred (some [])) := by
    rw [← hW1, ← hD]
    exact (Below.heap_alloc _ _ _ (by simp)).trans (World.alloc_heap_new w _)
  have hput : ∀ (A : World) (o : Obj), Below lo A (A.putObj (D + 1) o) := fun A o => ⟨rfl, rfl, rfl, by simp, fun k hk => World.putObj_heap_other (by omega)⟩
  let Rec : LoopState → Option Code → World → Prop := fun st pe W => W.heap[D + 1]? = some (.loop (rc st pe)) ∧ W.heap[D]? = some (.deferred (some []))
  have hRset : ∀ st pe A v, Rec st pe A → Rec st pe (A.setCell ⟨bs, 0, none⟩ v) := fun st pe A v h => ⟨(Below.heap_setCell A ⟨bs, 0, none⟩ v (D + 1) (by simp only; omega)).trans h.1, (Below.heap_setCell A ⟨bs, 0, none⟩ v D (by simp only; omega)).trans h.2⟩
  have hRon : ∀ st pe (A B : World), Below A.heap.size A B → Rec st pe A → Rec st pe B := fun st pe A B hb h => ⟨(hb.block _ (Array.getElem?_eq_some_iff.1 h.1).1).trans h.1, (hb.block _ (Array.getElem?_eq_some_iff.1 h.2).1).trans h.2⟩
  have hbset : ∀ (A : World) v, Below lo A (A.setCell ⟨bs, 0, none⟩ v) := fun A v => ⟨rfl, rfl, rfl, by simp, fun k hk => Below.heap_setCell A ⟨bs, 0, none⟩ v k (by simp only; omega)⟩
  have hbon : ∀ {A B : World}, Below A.heap.size A B → lo ≤ A.heap.size → Below lo A B := fun h hs => h.mono hs
  have hszR : ∀ {st pe} {A : World}, Rec st pe A → D + 1 < A.heap.size := fun h => (Array.getElem?_eq_some_iff.1 h.1).1
  refine ⟨D + 1, [{ target := .collected D, args := #[] }], W1, { target := .fn (.func gf) lb, args := #[.func (.yield (D + 1)) #[] #[]] }, W1, gf, #[.func (.yield (D + 1)) #[] #[]] ++ lb, W1, ?_, ?_, fun _ _ => trivial, ?_, (fun _ => by decide), ?_⟩
  · rw [← hW1, ← hD]; exact run_enterLoop_outer _ _ _ _ _
  · simp only [resolve, hg]
    simp [go_sem]
  · simp [invoke, go_sem, eg]
  refine (hseq (D + 1) (fun pre W => I pre W ∧ Rec .ready none W) (fun pre W => Ix pre W ∧ Rec .done (some .ret) W) W1 (fun k _ hk => hbW.block k (by omega)) (Nat.le_trans hhi hbW.size)
    (fun pre A v h => ⟨hI _ _ _ (hbset A v) h.1, hRset _ _ _ _ h.2⟩) (fun pre A v h => ⟨hIx _ _ _ (hbset A v) h.1, hRset _ _ _ _ h.2⟩)
    (fun pre A B hb h => ⟨hI _ _ _ (hbon hb (by have := hszR h.2; omega)) h.1, hRon _ _ _ _ hb h.2⟩) (fun pre A B hb h => ⟨hIx _ _ _ (hbon hb (by have := hszR h.2; omega)) h.1, hRon _ _ _ _ hb h.2⟩)
    ?_ ⟨hI _ _ _ (hbW.mono (by omega)) h0, hR1, hQ1⟩).mono ?_
  · rintro pre x W ⟨hi1, hr⟩ hx hhW
    have hlt := hszR hr
    have hy := run_yield (P := P) (args := encs x) hr.1 (hps x)
    refine ⟨fn, _, assign, body, hy, roundIn_of_wpIn hfn (hassign _ x W _ ⟨_, run_beginRound hr.1 rfl, ?_⟩)⟩
    have hb2 := hput W (.loop { rc .ready none with state := .busy })
    have hr2 : (W.putObj (D + 1) (.loop { rc .ready none with state := .busy })).heap[D + 1]? = some (.loop { rc .ready none with state := .busy }) := World.putObj_heap_same hlt
    have hd2 : (W.putObj (D + 1) (.loop { rc .ready none with state := .busy })).heap[D]? = some (.deferred (some [])) := (World.putObj_heap_other (by omega)).trans hr.2
    have hs2 : ∀ k, k < hi → (W.putObj (D + 1) (.loop { rc .ready none with state := .busy })).heap[k]? = W.heap[k]? := fun k hk => World.putObj_heap_other (by omega)
    refine wpIn_mono (hbody _ pre x _ (hI _ _ _ hb2 hi1) hx (by simp; omega)) ?_
    rintro e a3 W3 hp
    have fin : ∀ (jump : Option Code), Spares lo (W.putObj (D + 1) (.loop { rc .ready none with state := .busy })) W3 →
        (Instr.endRound (D + 1) jump).run P W3 = .ok (.bool jump.isNone) (W3.putObj (D + 1) (.loop (rc (if jump.isNone then .ready else .done) jump))) ∧ Rec (if jump.isNone then .ready else .done) jump (W3.putObj (D + 1) (.loop (rc (if jump.isNone then .ready else .done) jump))) := fun jump hsp => by
      have g1 := (hsp.same (D + 1) (by omega) (by simp; omega)).trans hr2
      have g2 := (hsp.same D (by omega) (by simp; omega)).trans hd2
      exact ⟨run_endRound (P := P) jump g1, World.putObj_heap_same (Array.getElem?_eq_some_iff.1 g1).1, (World.putObj_heap_other (by omega)).trans g2⟩
    cases e with
    | normal =>
      obtain ⟨hsp, hi3⟩ := hp
      obtain ⟨f1, f2⟩ := fin none hsp
      refine ⟨_, _, f1, .inl ⟨rfl, ⟨hI _ _ _ (hput _ _) hi3, f2⟩, fun k h1 h2 => ?_, ?_⟩⟩
      · exact (World.putObj_heap_other (by omega)).trans ((hsp.same k h1 (by simp; omega)).trans (hs2 k h2))
      · have := hsp.size
        simpa using this
    | ret =>
      obtain ⟨hsp, hi3⟩ := hp
      obtain ⟨f1, f2⟩ := fin (some .ret) hsp
      exact ⟨_, _, f1, .inr ⟨rfl, hIx _ _ _ (hput _ _) hi3, f2⟩⟩
    | exit id => exact hp.elim
    | goto t => exact hp.elim
    | panic ch => exact hp.elim
    | outgrown => exact hp.elim
  · rintro e W2 ⟨⟨v, rfl⟩, ⟨hi2, hr⟩ | ⟨pre, hpre, hi2, hr⟩⟩
    · exact ⟨none, _, run_endLoop (P := P) hr.1 (by simp [rc]), hdone D _ (hI _ _ _ (hput _ _) hi2) hloD ((World.putObj_heap_other (by omega)).trans hr.2)⟩
    · exact ⟨some .ret, _, run_endLoop (P := P) hr.1 (by simp [rc]), hstop D pre _ hpre (hIx _ _ _ (hput _ _) hi2) hloD ((World.putObj_heap_other (by omega)).trans hr.2)⟩
end Go.Proofs.YtaliafeekadecaaDoor.Z
