/- Texts that stand on one another, put together: VBuild, VSeq, VMake, YGet. -/
import Derived.Test.YtmbmeidkmhajbaaDoorF1
import Derived.Deep.CutBlock
import Derived.Deep.CutRange
import Derived.Laws.AppendOwn
import Derived.Laws.AppendOwnNone
import Derived.Laws.Externs
import Derived.Laws.Slices
import Derived.Lib.AppendStr
import Derived.Lib.Builder
import Derived.Shelf.LaysC
import Derived.Shelf.LaysM
import Derived.Shelf.Strconv.Clone
import Derived.Shelf.Strconv.ErrVarParseInt
import Derived.Shelf.Strconv.Itoa0
import Derived.Shelf.Strconv.Itoa1
import Derived.Shelf.Strconv.Itoa2
import Derived.Shelf.Strconv.Itoa3
import Derived.Shelf.Strconv.Itoa4
import Derived.Shelf.Strconv.Lower
import Derived.Shelf.Strconv.ParseInt10
import Derived.Shelf.Strconv.ParseInt10All
import Derived.Shelf.Strconv.ParseInt10At16
import Derived.Shelf.Strconv.ParseInt10At32
import Derived.Shelf.Strconv.ParseInt10At64
import Derived.Shelf.Strconv.ParseInt10At8
import Derived.Shelf.Strconv.ParseIntEmpty
import Derived.Shelf.Strconv.ParseIntPublic10
import Derived.Shelf.Strconv.ParseUint10
import Derived.Shelf.Strconv.ParseUint10Any
import Derived.Shelf.Strconv.ParseUint10At
import Derived.Shelf.Strconv.ParseUint10Empty
import Derived.Shelf.Strconv.ParseUint10b16
import Derived.Shelf.Strconv.ParseUint10b32
import Derived.Shelf.Strconv.ParseUint10b64
import Derived.Shelf.Strconv.ParseUint10b8
import Derived.Shelf.Strconv.ParseUintEmpty
import Derived.Shelf.Strconv.RangeError
import Derived.Shelf.Strconv.SyntaxError
import Derived.Shelf.Strconv.ToError
import Derived.Shelf.Strconv.ToErrorRange
import Derived.Shelf.Strings.Builder1
import Derived.Shelf.Strings.Builder2
import Derived.Shelf.Strings.Builder2Cap
import Derived.Shelf.Strings.BuilderCap
import Derived.Shelf.Strings.BuilderF
import Derived.Shelf.Strings.BuilderK
import Derived.Shelf.Strings.Count
import Derived.Shelf.Strings.Search1
import Derived.Shelf.Strings.Search2
import Derived.Shelf.Strings.Search3
import Derived.Shelf.Strings.Shaped
import Derived.Shelf.Unicode.DecodeSlow
import Derived.Test.YtmbmeidkmhajbaaDoorProg
/- The text builder's WriteString: what it leaves as it was, boxes of the callers' own among it. -/
namespace Go.Proofs.YtmbmeidkmhajbaaDoor.V
open Go.RowKit
set_option maxRecDepth 100000

/-- all that lay there lies there as it was, but for the builder's block and rows of bytes -/
def Calm (b : Nat) (w w' : World) : Prop := w.heap.size ≤ w'.heap.size ∧ ∀ (k : Nat) (cs : Array Value) (t : TypeId) (fr : Nat × Nat), k ≠ b → t ≠ 5 → w.heap[k]? = some (.cells cs t fr) → w'.heap[k]? = some (.cells cs t fr)
theorem Calm.refl (b : Nat) (w : World) : Calm b w w := ⟨Nat.le_refl _, fun _ _ _ _ _ _ h => h⟩
theorem Calm.trans {b : Nat} {w w1 w2 : World} (h : Calm b w w1) (k : Calm b w1 w2) : Calm b w w2 := ⟨Nat.le_trans h.1 k.1, fun j cs t fr hj ht hc => k.2 j cs t fr hj ht (h.2 j cs t fr hj ht hc)⟩
theorem Calm.below {b : Nat} {w w' : World} (h : Below w.heap.size w w') : Calm b w w' := ⟨h.size, fun j cs t fr _ _ hc => (h.block j (by
  rcases Nat.lt_or_ge j w.heap.size with h1 | h1
  · exact h1
  · rw [Array.getElem?_eq_none h1] at hc; cases hc)).trans hc⟩
theorem Calm.lies {b g : Nat} {t : TypeId} {cs : Array Value} {w w' : World} (h : Calm b w w') (hg : g ≠ b) (ht : t ≠ 5) (hl : Lies w g t cs) : Lies w' g t cs := h.2 g cs t (0, 0) hg ht hl
theorem Calm.set {b : Nat} (w : World) (i : Nat) (v : Value) : Calm b w (w.setCell ⟨b, i, none⟩ v) := ⟨by simp [World.setCell], fun j cs t fr hj _ hc => (Below.heap_setCell _ _ _ _ hj).trans hc⟩
theorem Calm.grown {b B n : Nat} {v : Value} {ys : List Value} {w w' : World} (ho : w.ownsRow B 5 1 v n ys) (h : w.grownBy w' v.ownBlock) : Calm b w w' := by
  refine ⟨h.size, fun j cs t fr _ ht hc => ?_⟩
  have hj : j < w.heap.size := by
    rcases Nat.lt_or_ge j w.heap.size with h1 | h1
    · exact h1
    · rw [Array.getElem?_eq_none h1] at hc; cases hc
  refine (h.block j hj ?_).trans hc
  rcases ho.2 with ⟨rfl, _⟩ | ⟨g, cap, cur, rfl, _, hg, _⟩
  · simp [Value.ownBlock]
  · intro e
    simp only [Value.ownBlock, Option.some.injEq] at e
    subst e
    rw [hg] at hc
    simp only [Option.some.injEq, Obj.cells.injEq] at hc
    exact ht hc.2.1.symm
theorem own_on {k : Nat} {w w1 : World} {B : Nat} {e : TypeId} {v : Value} {n : Nat} {xs : List Value} (h : w.ownsRow B e k v n xs) (hb : Below w.heap.size w w1) : w1.ownsRow B e k v n xs := by
  obtain ⟨hl, h⟩ := h
  refine ⟨hl, ?_⟩
  rcases h with h | ⟨g, cap, cur, hv, hg, hh, hr⟩
  · exact Or.inl h
  · have hlt : g < w.heap.size := by
      rcases Nat.lt_or_ge g w.heap.size with h' | h'
      · exact h'
      · rw [Array.getElem?_eq_none h'] at hh; cases hh
    exact Or.inr ⟨g, cap, cur, hv, hg, (hb.block g hlt).trans hh, hr⟩
/-- the builder at work, its bytes as a list -/
def IsB (B b : Nat) (l : List UInt8) (w : World) : Prop := Lib.IsBuilder 63 5 B b (Lib.byteCells l) w
theorem IsB.below {B b : Nat} {l : List UInt8} {w w1 : World} (h : IsB B b l w) (hb : Below w.heap.size w w1) : IsB B b l w1 := by
  have one : ∀ p, Lib.BuilderAt 63 5 B b p (Lib.byteCells l) w → Lib.BuilderAt 63 5 B b p (Lib.byteCells l) w1 := by
    intro p hp
    have hlt := hp.lt
    obtain ⟨hB, v, hh, ho, hne⟩ := hp
    refine ⟨hB, v, (hb.block b hlt).trans hh, own_on ho hb, hne⟩
  exact Or.imp (one _) (one _) h
end Go.Proofs.YtmbmeidkmhajbaaDoor.V

/- Rows of elements of k cells each: read, owned, cut, and put one behind the other. -/
namespace Go.Proofs.YtmbmeidkmhajbaaDoor.V
set_option maxRecDepth 100000
open Go.RowKit

/-- the slice value v reads as elements of these cells -/
def RowL (w : World) (k : Nat) (v : Value) (css : List (List Value)) : Prop :=
  (∀ cs ∈ css, cs.length = k) ∧ ∃ a c, v = .slice a css.length c ∧ css.length ≤ c ∧ c ≤ maxLen ∧ (a = none → c = 0) ∧ (0 < css.length → ∃ b off, a = some ⟨b, off, none⟩ ∧ ∀ (i : Nat) (cs : List Value), css[i]? = some cs → w.rangeAt b (off + i * k) cs)
theorem RowL.below {w w' : World} {k : Nat} {v : Value} {css : List (List Value)} (h : RowL w k v css) (hb : Below w.heap.size w w') : RowL w' k v css := by
  obtain ⟨h0, a, c, hv, hc, hm, hn, hl⟩ := h
  refine ⟨h0, a, c, hv, hc, hm, hn, fun hpos => ?_⟩
  obtain ⟨b, off, ha, hx⟩ := hl hpos
  exact ⟨b, off, ha, fun i cs hi => range_below hb (hx i cs hi)⟩
theorem RowL.nil (w : World) (k : Nat) : RowL w k (.slice none 0 0) [] := ⟨(fun cs h => by cases h), none, 0, rfl, Nat.le_refl _, Nat.zero_le _, fun _ => rfl, fun h => absurd h (by simp)⟩
theorem RowL.form {w : World} {k : Nat} {v : Value} {css : List (List Value)} (h : RowL w k v css) : ∃ a c, v = .slice a css.length c ∧ css.length ≤ c ∧ c ≤ maxLen ∧ (a = none → c = 0) := by
  obtain ⟨_, a, c, hv, hc, hm, hn, _⟩ := h
  exact ⟨a, c, hv, hc, hm, hn⟩
/-- one element's cells -/
theorem RowL.at {w : World} {k : Nat} {a : Option Addr} {n c : Nat} {css : List (List Value)} (h : RowL w k (.slice a n c) css) {i : Nat} {cs : List Value} (hi : css[i]? = some cs) : ∃ b off, a = some ⟨b, off, none⟩ ∧ w.rangeAt b (off + i * k) cs ∧ cs.length = k := by
  obtain ⟨h0, a', c', hv, hc, hm, hn, hl⟩ := h
  injection hv with e1 e2 e3
  subst e1
  have hlt := (List.getElem?_eq_some_iff.1 hi).1
  obtain ⟨b, off, ha, hx⟩ := hl (by omega)
  exact ⟨b, off, ha, hx i cs hi, h0 cs (List.mem_of_getElem? hi)⟩
/-! ### flat -/
theorem flat_len {k : Nat} : ∀ {css : List (List Value)}, (∀ cs ∈ css, cs.length = k) → css.flatten.length = css.length * k := by
  intro css
  induction css with
  | nil => intro _; simp
  | cons c r ih =>
    intro h
    rw [List.flatten_cons, List.length_append, List.length_cons, ih (fun cs hc => h cs (by simp [hc])), h c (by simp), Nat.succ_mul]
    omega
theorem flat_cells {w : World} {k b : Nat} : ∀ {css : List (List Value)} {off : Nat}, (∀ cs ∈ css, cs.length = k) → (∀ (i : Nat) (cs : List Value), css[i]? = some cs → w.rangeAt b (off + i * k) cs) → ∀ (j : Nat) (u : Value), css.flatten[j]? = some u → w.cell? ⟨b, off + j, none⟩ = some u := by
  intro css
  induction css with
  | nil => intro off _ _ j u h; simp at h
  | cons c r ih =>
    intro off h0 hx j u h
    have hc := h0 c (by simp)
    rw [List.flatten_cons] at h
    by_cases hj : j < c.length
    · rw [List.getElem?_append_left hj] at h
      have := hx 0 c rfl j u h
      simpa using this
    · rw [List.getElem?_append_right (by omega)] at h
      have := ih (off := off + k) (fun cs hcs => h0 cs (by simp [hcs])) (fun i cs hi => by
        have := hx (i + 1) cs (by simpa using hi)
        rw [Nat.succ_mul] at this
        rwa [show off + k + i * k = off + (i * k + k) by omega]) (j - c.length) u h
      rwa [show off + k + (j - c.length) = off + j by omega] at this
theorem flat_at {k : Nat} : ∀ {css : List (List Value)} {i : Nat} {cs : List Value}, (∀ cs ∈ css, cs.length = k) → css[i]? = some cs → ∀ (j : Nat) (u : Value), cs[j]? = some u → css.flatten[i * k + j]? = some u := by
  intro css
  induction css with
  | nil => intro i cs _ h; simp at h
  | cons c r ih =>
    intro i cs h0 h j u hu
    have hc := h0 c (by simp)
    rw [List.flatten_cons]
    cases i with
    | zero =>
      simp at h
      subst h
      have hj := (List.getElem?_eq_some_iff.1 hu).1
      rw [Nat.zero_mul, Nat.zero_add, List.getElem?_append_left hj]
      exact hu
    | succ i =>
      have h2 : r[i]? = some cs := by simpa using h
      rw [Nat.succ_mul, List.getElem?_append_right (by omega)]
      rw [show i * k + k + j - c.length = i * k + j by omega]
      exact ih (fun cs hcs => h0 cs (by simp [hcs])) h2 j u hu
/-- a row that the call owns -/
def OwnL (w : World) (B : Nat) (e : TypeId) (k : Nat) (v : Value) (css : List (List Value)) : Prop := (∀ cs ∈ css, cs.length = k) ∧ w.ownsRow B e k v css.length css.flatten
theorem OwnL.read {w : World} {B : Nat} {e : TypeId} {k : Nat} {v : Value} {css : List (List Value)} (h : OwnL w B e k v css) : RowL w k v css := by
  obtain ⟨h0, ho⟩ := h
  refine ⟨h0, ?_⟩
  rcases ho.2 with ⟨rfl, hn⟩ | ⟨g, cap, cur, rfl, hg, hh, hc, hm, hs, ht⟩
  · exact ⟨none, 0, by rw [hn], by omega, Nat.zero_le _, fun _ => rfl, fun h => by omega⟩
  · refine ⟨some ⟨g, 0, none⟩, cap, rfl, hc, hm, (fun e => by cases e), fun _ => ⟨g, 0, rfl, fun i cs hi j u hu => ?_⟩⟩
    have hf := flat_at h0 hi j u hu
    have hlt : i * k + j < css.length * k := by
      rw [← flat_len h0]
      exact (List.getElem?_eq_some_iff.1 hf).1
    rw [show 0 + i * k + j = i * k + j by omega, ho.cellAt _ hlt, hf]
theorem OwnL.on {w w' : World} {B : Nat} {e : TypeId} {k : Nat} {v : Value} {css : List (List Value)} (h : OwnL w B e k v css) (hb : Below w.heap.size w w') : OwnL w' B e k v css := ⟨h.1, own_on h.2 hb⟩
theorem OwnL.far {w : World} {B g : Nat} {e : TypeId} {k : Nat} {v : Value} {css : List (List Value)} (h : OwnL w B e k v css) (hg : g < B) (i : Nat) (u : Value) : OwnL (w.setCell ⟨g, i, none⟩ u) B e k v css := by
  refine ⟨h.1, h.2.1, ?_⟩
  rcases h.2.2 with hv | ⟨b, cap, cur, hv, hB, hh, hr⟩
  · exact .inl hv
  · exact .inr ⟨b, cap, cur, hv, hB, (Below.heap_setCell _ _ _ _ (show b ≠ g by omega)).trans hh, hr⟩
theorem OwnL.nil (w : World) (B : Nat) (e : TypeId) (k : Nat) : OwnL w B e k (.slice none 0 0) [] := ⟨(fun cs h => by cases h), World.ownsRow_nil _ _ _ _⟩
theorem OwnL.form {w : World} {B : Nat} {e : TypeId} {k : Nat} {v : Value} {css : List (List Value)} (h : OwnL w B e k v css) : ∃ a c, v = .slice a css.length c ∧ css.length ≤ c ∧ c ≤ maxLen ∧ (a = none → c = 0) := h.read.form
theorem OwnL.lt {w : World} {B : Nat} {e : TypeId} {k : Nat} {v : Value} {css : List (List Value)} (h : OwnL w B e k v css) : ∀ g, v.ownBlock = some g → B ≤ g := fun g hg => (h.2.lt g hg).1
/-- a literal of one element -/
theorem RowL.lit (w : World) (e : TypeId) (k : Nat) (cs : List Value) (hk : cs.length = k) : RowL (w.alloc (.cells cs.toArray e)) k (.slice (some ⟨w.heap.size, 0, none⟩) 1 1) [cs] := by
  refine ⟨fun c h => by rw [List.mem_singleton.1 h]; exact hk, some ⟨w.heap.size, 0, none⟩, 1, rfl, Nat.le_refl _, by decide, (fun e => by cases e), fun _ => ⟨w.heap.size, 0, rfl, fun i c hi j u hu => ?_⟩⟩
  obtain ⟨hi0, rfl⟩ : i = 0 ∧ c = cs := by
    cases i with
    | zero => simp at hi; exact ⟨rfl, hi.symm⟩
    | succ i => simp at hi
  subst hi0
  have hl := (Lies.new w e c.toArray).cell j
  rw [show 0 + 0 * k + j = j by omega, hl]
  simpa using hu
/-! ### cut -/
theorem RowL.take {w : World} {k : Nat} {a : Option Addr} {n c : Nat} {css : List (List Value)} (h : RowL w k (.slice a n c) css) {j : Nat} (hj : j ≤ css.length) : RowL w k (sliced a 0 j c k) (css.take j) := by
  obtain ⟨h0, a', c', hv, hc, hm, hn, hl⟩ := h
  injection hv with e1 e2 e3
  subst e1 e2 e3
  have hlen : (css.take j).length = j := by rw [List.length_take]; omega
  refine ⟨fun cs hcs => h0 cs (List.mem_of_mem_take hcs), (if c = 0 then a else a.map (·.add (0 * k))), c - 0, ?_, by omega, by omega, fun e => ?_, fun hpos => ?_⟩
  · rw [hlen]; unfold sliced; rw [Nat.sub_zero]
  · by_cases h0 : c = 0
    · omega
    · rw [if_neg h0, Option.map_eq_none_iff] at e
      have := hn e; omega
  · obtain ⟨b, off, rfl, hx⟩ := hl (by omega)
    refine ⟨b, off, ?_, fun i cs hi => ?_⟩
    · by_cases h0 : c = 0
      · rw [if_pos h0]
      · rw [if_neg h0, Option.map_some, Addr.add_mid, Nat.zero_mul, Nat.add_zero]
    · rw [List.getElem?_take] at hi
      split at hi
      · exact hx i cs hi
      · cases hi
theorem RowL.drop {w : World} {k : Nat} {a : Option Addr} {n c : Nat} {css : List (List Value)} (h : RowL w k (.slice a n c) css) {j : Nat} (hj : j ≤ css.length) : RowL w k (sliced a j css.length c k) (css.drop j) := by
  obtain ⟨h0, a', c', hv, hc, hm, hn, hl⟩ := h
  injection hv with e1 e2 e3
  subst e1 e2 e3
  refine ⟨fun cs hcs => h0 cs (List.mem_of_mem_drop hcs), (if c = j then a else a.map (·.add (j * k))), c - j, ?_, by rw [List.length_drop]; omega, by omega, fun e => ?_, fun hpos => ?_⟩
  · rw [List.length_drop]; rfl
  · by_cases h0 : c = j
    · omega
    · rw [if_neg h0, Option.map_eq_none_iff] at e
      have := hn e; omega
  · rw [List.length_drop] at hpos
    obtain ⟨b, off, rfl, hx⟩ := hl (by omega)
    refine ⟨b, off + j * k, ?_, fun i cs hi => ?_⟩
    · rw [if_neg (by omega), Option.map_some, Addr.add_mid]
    · rw [List.getElem?_drop] at hi
      have := hx (j + i) cs hi
      rwa [show off + j * k + i * k = off + (j + i) * k by rw [Nat.add_mul]; omega]
/-! ### the walk's steps -/
section
variable {P : Program} {ops : Array Oper} {rest : List Oper} {a : Act} {w : World} {Q : Exit → Act → World → Prop} {t' : TypeId} {pos : String} {after : Array Edge}
/-- elements go behind a row that the call owns -/
theorem wpL_appendL {d : Option Tmp} {x y : Tmp} {ty : TypeId} (B : Nat) (e : TypeId) (i : TypeInfo) (z : Value) (k bytes : Nat) (ht : P.underlying ty = some (.slice e)) (hi : P.info? e = some i) (hz : i.zero = some z) (hsize : i.size = k) (hby : i.bytes = bytes) (hzs : z.cells.size = k) (hk : 0 < k)
    (v : Value) (css : List (List Value)) (hown : OwnL w B e k v css) (v' : Value) (css' : List (List Value)) (hrow : RowL w k v' css') (hu : ∀ u ∈ css'.flatten, u.oneCell' = true) (h63 : css.length + css'.length ≤ maxLen) (hbytes : (css.length + css'.length) * bytes ≤ 140737488355328) (hbase : B ≤ w.heap.size)
    (hs : a.eval (.tmp x) = v) (hx : a.eval (.tmp y) = v')
    (h : ∀ v'' w', OwnL w' B e k v'' (css ++ css') → w.grownBy w' v.ownBlock → wpList P ops Q rest (a.put d v'') w') :
    wpList P ops Q (⟨d, .call { callee := .builtin .append, args := #[.tmp x, .tmp y], argTypes := #[ty, ty] }, t', pos, after, none⟩ :: rest) a w := by
  obtain ⟨h0, ho⟩ := hown
  obtain ⟨h0', av, cv, rfl, hc, hm, hn, hl⟩ := hrow
  have hall : ∀ cs ∈ css ++ css', cs.length = k := fun cs hcs => (List.mem_append.1 hcs).elim (h0 cs) (h0' cs)
  rcases Nat.eq_zero_or_pos css'.length with hz0 | hpos
  · obtain rfl := List.eq_nil_of_length_eq_zero hz0
    cases av with
    | none =>
      obtain rfl := hn rfl
      refine wpList_append_own_none (o := ⟨d, .call { callee := .builtin .append, args := #[.tmp x, .tmp y], argTypes := #[ty, ty] }, t', pos, after, none⟩) rfl _ _ ty rfl B e i k ht hi v css.length css.flatten hs ho hx (h v w ⟨hall, ?_⟩ (World.grownBy.refl w _))
      rw [List.append_nil]; exact ho
    | some ad =>
      refine wpList_append_own (o := ⟨d, .call { callee := .builtin .append, args := #[.tmp x, .tmp y], argTypes := #[ty, ty] }, t', pos, after, none⟩) w rfl _ _ ty rfl B e i z k bytes ht hi hz hsize hby hzs hk v css.length css.flatten hs ho ad 0 cv [] hx (by simp) (fun j u h => by simp at h) (fun u h => by cases h) (by simpa using h63) (by simpa using hbytes) hbase (fun v'' w' h1 h2 _ => h v'' w' ⟨hall, ?_⟩ h2)
      simpa using h1
  · obtain ⟨b, off, rfl, hx2⟩ := hl hpos
    refine wpList_append_own (o := ⟨d, .call { callee := .builtin .append, args := #[.tmp x, .tmp y], argTypes := #[ty, ty] }, t', pos, after, none⟩) w rfl _ _ ty rfl B e i z k bytes ht hi hz hsize hby hzs hk v css.length css.flatten hs ho ⟨b, off, none⟩ css'.length cv css'.flatten hx (flat_len h0') (fun j u hj => ?_) hu h63 hbytes hbase (fun v'' w' h1 h2 _ => h v'' w' ⟨hall, ?_⟩ h2)
    · rw [Addr.add_mid]
      exact flat_cells h0' hx2 j u hj
    · rw [List.length_append, List.flatten_append]; exact h1
/-- whatever gives a value and leaves the world -/
theorem wpL_val {o : Oper} (v : Value) (hg : o.guard = none) (hr : (execOp a.eval o).run P w = .ok (.value v) w) (h : wpList P ops Q rest (a.put o.dst v) w) : wpList P ops Q (o :: rest) a w :=
  wpList_plain hg fun K hK => by
    unfold Oper.wp
    rw [hr]
    exact hK _ _ h
end
end Go.Proofs.YtmbmeidkmhajbaaDoor.V

/- The developers' Number, Text, List and Get. -/
namespace Go.Proofs.YtmbmeidkmhajbaaDoor.V
open Go.RowKit Go.Sort Go.Joins
set_option maxRecDepth 100000

theorem number_any (n : Int) (W : World) :
    Calls Tryd.prog 42 #[.int .i64 n] W fun e w' => e = .returned (.agg #[.int .i64 1, .int .i64 n, .string ⟨#[]⟩, .slice none 0 0, .slice none 0 0]) ∧ Below W.heap.size W w' := by
  have lR : Lies (W.alloc (.cells valZ 25)) W.heap.size 25 valZ := Lies.new W _ _
  have hB := (Below.refl W.heap.size W).alloc (Nat.le_refl _) (.cells valZ 25)
  go_enter Tryd.func42, Tryd.ntmps42
  go_wp2_with ((with_reducible refine wpL_store W.heap.size 25 valZ #[.int .i64 1, .int .i64 n, .string ⟨#[]⟩, .slice none 0 0, .slice none 0 0] 5 rowVal rfl rfl (valC_one _ _ _ _ _ _ _ _ _) lR ?_ ?_ ?_); rfl; rfl)
  exact bodyPost_ret (results_row Tryd.results42 rowVal rfl (lR.row _) rfl) rfl ⟨rfl, below_rowSet hB (Nat.le_refl _) _⟩
theorem text_any (s : ByteArray) (W : World) :
    Calls Tryd.prog 15 #[.string s] W fun e w' => e = .returned (.agg #[.int .i64 2, .int .i64 0, .string s, .slice none 0 0, .slice none 0 0]) ∧ Below W.heap.size W w' := by
  have lR : Lies (W.alloc (.cells valZ 25)) W.heap.size 25 valZ := Lies.new W _ _
  have hB := (Below.refl W.heap.size W).alloc (Nat.le_refl _) (.cells valZ 25)
  go_enter Tryd.func15, Tryd.ntmps15
  go_wp2_with ((with_reducible refine wpL_store W.heap.size 25 valZ #[.int .i64 2, .int .i64 0, .string s, .slice none 0 0, .slice none 0 0] 5 rowVal rfl rfl (valC_one _ _ _ _ _ _ _ _ _) lR ?_ ?_ ?_); rfl; rfl)
  exact bodyPost_ret (results_row Tryd.results15 rowVal rfl (lR.row _) rfl) rfl ⟨rfl, below_rowSet hB (Nat.le_refl _) _⟩
theorem infoV : (Tryd.prog.info? 25).map (fun i => (i.zero, i.size, i.bytes)) = some (some (.agg valZ), 5, 80) := by kernel_rfl
theorem OwnL.rowFar {w : World} {B g : Nat} {e : TypeId} {k : Nat} {v : Value} {css : List (List Value)} (h : OwnL w B e k v css) (hg : g < B) (cs : Array Value) : OwnL (w.setRow g cs) B e k v css := by
  refine ⟨h.1, h.2.1, ?_⟩
  rcases h.2.2 with hv | ⟨b, cap, cur, hv, hB, hh, hr⟩
  · exact .inl hv
  · exact .inr ⟨b, cap, cur, hv, hB, (setRow_other _ _ _ _ (by omega)).trans hh, hr⟩
/-- five cells, put together -/
theorem isV_make {w : World} {d : Nat} {k n : Int} {s : List UInt8} {vi vk : Value} {l : List VT} {ks : List (List UInt8)} {css : List (List Value)} (hv : RowL w 5 vi css) (hl : css.length = l.length)
    (hx : ∀ (i : Nat) (cs : List Value), css[i]? = some cs → ∃ x, l[i]? = some x ∧ IsV w d cs x) (hk : Strs w vk ks) (hfit : VFit (.mk k n s l ks)) : IsV w (d + 1) [.int .i64 k, .int .i64 n, str s, vi, vk] (.mk k n s l ks) := by
  obtain ⟨h0, a, c, rfl, hc, hm, hn, hr⟩ := hv
  refine ⟨_, _, rfl, hfit, hk, a, c, ?_, by show l.length ≤ c; omega, hm, hn, fun hpos => ?_⟩
  · show _ = Value.slice a l.length c
    rw [hl]
  · have hpos : 0 < l.length := hpos
    obtain ⟨b, off, ha, hx2⟩ := hr (by omega)
    refine ⟨b, off, ha, fun i hi => ?_⟩
    have hi : i < l.length := hi
    have hi2 : i < css.length := by omega
    obtain ⟨x, h1, h2⟩ := hx i css[i] (List.getElem?_eq_getElem hi2)
    exact ⟨css[i], h0 _ (List.getElem_mem hi2), hx2 i _ (List.getElem?_eq_getElem hi2), x, h1, h2⟩
theorem IsV.keyRow {w : World} {d : Nat} {k n : Value} {s vi vk : Value} {t : VT} (h : IsV w d [k, n, s, vi, vk] t) : Strs w vk t.keys := by
  cases d with
  | zero => exact h.elim
  | succ d =>
    obtain ⟨vi', vk', e, _, hk, _⟩ := h
    simp only [List.cons.injEq, and_true] at e
    rw [e.2.2.2.2]; exact hk
theorem IsV.fit {w : World} {d : Nat} {cs : List Value} {t : VT} (h : IsV w d cs t) : VFit t := by
  cases d with
  | zero => exact h.elim
  | succ d => exact h.choose_spec.choose_spec.2.1
/-- the value of a key, if there is one -/
def getV (t : VT) (key : List UInt8) : Option VT := if t.kind = 4 ∧ t.keys.length = t.items.length ∧ 0 ≤ firstAt t.keys key then t.items[(firstAt t.keys key).toNat]? else none
theorem firstAt_lt : ∀ (ks : List (List UInt8)) (key : List UInt8), -1 ≤ firstAt ks key ∧ firstAt ks key < ks.length := by
  intro ks
  induction ks with
  | nil => intro key; rw [firstAt]; decide
  | cons k r ih =>
    intro key
    have := ih key
    rw [firstAt, List.length_cons]
    split
    · omega
    · split <;> omega
set_option maxHeartbeats 1600000 in
theorem get_none (d : Nat) (cs : List Value) (t : VT) (key : List UInt8) (W : World) (h : IsV W d cs t) (hg : getV t key = none) :
    Calls Tryd.prog 13 #[.agg cs.toArray, .string ⟨key.toArray⟩] W fun e w' => e = .returned (.tuple #[.agg valZ, .bool false]) ∧ Below W.heap.size W w' := by
  obtain ⟨ai, ci, ak, ck, rfl⟩ := h.form
  have hks := h.keyRow
  have HX := Lib.hid (fun (w1 : World) (hb : Below W.heap.size W w1) => strIdx_any _ t.keys key w1 (hks.below hb))
  have hbW : Below W.heap.size W ((W.alloc (.cells #[.int .i64 t.kind, .int .i64 t.num, .string ⟨t.txt.toArray⟩, .slice ai t.items.length ci, .slice ak t.keys.length ck] 25)).alloc (.cells valZ 25)) := ((Below.refl W.heap.size W).alloc (Nat.le_refl _) _).alloc (by simp) _
  have lA : Lies ((W.alloc (.cells #[.int .i64 t.kind, .int .i64 t.num, .string ⟨t.txt.toArray⟩, .slice ai t.items.length ci, .slice ak t.keys.length ck] 25)).alloc (.cells valZ 25)) W.heap.size 25 #[.int .i64 t.kind, .int .i64 t.num, .string ⟨t.txt.toArray⟩, .slice ai t.items.length ci, .slice ak t.keys.length ck] := (Lies.new W _ _).alloc _
  have lR : Lies ((W.alloc (.cells #[.int .i64 t.kind, .int .i64 t.num, .string ⟨t.txt.toArray⟩, .slice ai t.items.length ci, .slice ak t.keys.length ck] 25)).alloc (.cells valZ 25)) (W.heap.size + 1) 25 valZ := by
    have := Lies.new (W.alloc (.cells #[.int .i64 t.kind, .int .i64 t.num, .string ⟨t.txt.toArray⟩, .slice ai t.items.length ci, .slice ak t.keys.length ck] 25)) 25 valZ
    simpa using this
  have q0 := lA.cell 0; have q1 := lA.cell 1; have q2 := lA.cell 2; have q3 := lA.cell 3; have q4 := lA.cell 4; simp only [List.getElem?_toArray, List.getElem?_cons_succ, List.getElem?_cons_zero] at q0 q1 q2 q3 q4
  have hlt := firstAt_lt t.keys key
  by_cases h4 : t.kind = 4
  case neg =>
    have h5 : (t.kind != 4) = true := by simpa using h4
    clear h hks hg
    generalize firstAt t.keys key = j at *
    go_enter Tryd.func13, Tryd.ntmps13
    go_wp2_with (first | (go_at_call 18; (with_reducible refine (HX.out _ hbW).mono ?_); rintro e w1 ⟨rfl, hb1⟩; replace hbW := below_on hbW hb1; replace lA := lA.on hb1; replace lR := lR.on hb1; have q0 := lA.cell 0; have q1 := lA.cell 1; have q2 := lA.cell 2; have q3 := lA.cell 3; have q4 := lA.cell 4; simp only [List.getElem?_toArray, List.getElem?_cons_succ, List.getElem?_cons_zero] at q0 q1 q2 q3 q4) | ((with_reducible refine wpL_store (W.heap.size + 1) 25 valZ valZ 5 rowVal rfl rfl (valC_one _ _ _ _ _ _ _ _ _) lR ?_ ?_ ?_); rfl; rfl))
    exact bodyPost_ret (results_row_tmp Tryd.results13 rowVal rfl (lR.row _) rfl rfl) rfl ⟨rfl, below_rowSet hbW (Nat.le_succ _) _⟩
  have h5 : (t.kind != 4) = false := by simp [h4]
  by_cases hl : t.keys.length = t.items.length
  case neg =>
    have h6 : ((t.keys.length : Int) != (t.items.length : Int)) = true := by simp; omega
    clear h hks hg h4
    generalize firstAt t.keys key = j at *
    go_enter Tryd.func13, Tryd.ntmps13
    go_wp2_with (first | (go_at_call 18; (with_reducible refine (HX.out _ hbW).mono ?_); rintro e w1 ⟨rfl, hb1⟩; replace hbW := below_on hbW hb1; replace lA := lA.on hb1; replace lR := lR.on hb1; have q0 := lA.cell 0; have q1 := lA.cell 1; have q2 := lA.cell 2; have q3 := lA.cell 3; have q4 := lA.cell 4; simp only [List.getElem?_toArray, List.getElem?_cons_succ, List.getElem?_cons_zero] at q0 q1 q2 q3 q4) | ((with_reducible refine wpL_store (W.heap.size + 1) 25 valZ valZ 5 rowVal rfl rfl (valC_one _ _ _ _ _ _ _ _ _) lR ?_ ?_ ?_); rfl; rfl))
    exact bodyPost_ret (results_row_tmp Tryd.results13 rowVal rfl (lR.row _) rfl rfl) rfl ⟨rfl, below_rowSet hbW (Nat.le_succ _) _⟩
  have h6 : ((t.keys.length : Int) != (t.items.length : Int)) = false := by rw [hl]; exact bne_self_eq_false _
  have h7 : firstAt t.keys key < 0 := by
    by_cases h8 : firstAt t.keys key < 0
    · exact h8
    · unfold getV at hg
      rw [if_pos ⟨h4, hl, by omega⟩, List.getElem?_eq_none_iff] at hg
      omega
  clear h hks hg h4 hl
  generalize firstAt t.keys key = j at *
  go_enter Tryd.func13, Tryd.ntmps13
  go_wp2_with (first | (go_at_call 18; (with_reducible refine (HX.out _ hbW).mono ?_); rintro e w1 ⟨rfl, hb1⟩; replace hbW := below_on hbW hb1; replace lA := lA.on hb1; replace lR := lR.on hb1; have q0 := lA.cell 0; have q1 := lA.cell 1; have q2 := lA.cell 2; have q3 := lA.cell 3; have q4 := lA.cell 4; simp only [List.getElem?_toArray, List.getElem?_cons_succ, List.getElem?_cons_zero] at q0 q1 q2 q3 q4) | ((with_reducible refine wpL_store (W.heap.size + 1) 25 valZ valZ 5 rowVal rfl rfl (valC_one _ _ _ _ _ _ _ _ _) lR ?_ ?_ ?_); rfl; rfl))
  exact bodyPost_ret (results_row_tmp Tryd.results13 rowVal rfl (lR.row _) rfl rfl) rfl ⟨rfl, below_rowSet hbW (Nat.le_succ _) _⟩
end Go.Proofs.YtmbmeidkmhajbaaDoor.V

/- Getting by a key: value.Get, and parse.Field. -/
namespace Go.Proofs.YtmbmeidkmhajbaaDoor.V
open Go.RowKit Go.Sort Go.Joins
set_option maxRecDepth 100000

def zeroT : VT := .mk 0 0 [] [] []
theorem isV_zero (w : World) (d : Nat) : IsV w (d + 1) [.int .i64 0, .int .i64 0, .string ⟨#[]⟩, .slice none 0 0, .slice none 0 0] zeroT :=
  isV_make (s := []) (RowL.nil w 5) rfl (fun i cs h => by simp at h) (Strs.nil w) ⟨(show -9223372036854775808 ≤ (0 : Int) ∧ (0 : Int) ≤ 9223372036854775807 by decide), (show -9223372036854775808 ≤ (0 : Int) ∧ (0 : Int) ≤ 9223372036854775807 by decide), Nat.zero_le _, fun x hx => by cases hx⟩
set_option maxHeartbeats 1600000 in
theorem getY_some (d : Nat) (cs : List Value) (t x : VT) (key : List UInt8) (W0 W : World) (h0 : Below W0.heap.size W0 W) (h : IsV W0 (d + 1) cs t) (hg : getV t key = some x) :
    Calls Tryd.prog 13 #[.agg cs.toArray, .string ⟨key.toArray⟩] W fun e w' => ∃ cs', e = .returned (.tuple #[.agg cs'.toArray, .bool true]) ∧ IsV W0 d cs' x ∧ Below W.heap.size W w' := by
  unfold getV at hg
  split at hg
  case isFalse => cases hg
  rename_i hh
  obtain ⟨h4, hl, hj0⟩ := hh
  have hv0 := h
  obtain ⟨vi, vk, e0, _, _, av, cv, rfl, hcv, hmv, _, hx⟩ := hv0
  obtain ⟨ai, ci, ak, ck, rfl⟩ := h.form
  have hks := h.keyRow
  have HX := Lib.hid (fun (w1 : World) (hb : Below W.heap.size W w1) => strIdx_any _ t.keys key w1 (hks.below (below_on h0 hb)))
  have hbW : Below W.heap.size W ((W.alloc (.cells #[.int .i64 t.kind, .int .i64 t.num, .string ⟨t.txt.toArray⟩, .slice ai t.items.length ci, .slice ak t.keys.length ck] 25)).alloc (.cells valZ 25)) := ((Below.refl W.heap.size W).alloc (Nat.le_refl _) _).alloc (by simp) _
  have lA : Lies ((W.alloc (.cells #[.int .i64 t.kind, .int .i64 t.num, .string ⟨t.txt.toArray⟩, .slice ai t.items.length ci, .slice ak t.keys.length ck] 25)).alloc (.cells valZ 25)) W.heap.size 25 #[.int .i64 t.kind, .int .i64 t.num, .string ⟨t.txt.toArray⟩, .slice ai t.items.length ci, .slice ak t.keys.length ck] := (Lies.new W _ _).alloc _
  have lR : Lies ((W.alloc (.cells #[.int .i64 t.kind, .int .i64 t.num, .string ⟨t.txt.toArray⟩, .slice ai t.items.length ci, .slice ak t.keys.length ck] 25)).alloc (.cells valZ 25)) (W.heap.size + 1) 25 valZ := by
    have := Lies.new (W.alloc (.cells #[.int .i64 t.kind, .int .i64 t.num, .string ⟨t.txt.toArray⟩, .slice ai t.items.length ci, .slice ak t.keys.length ck] 25)) 25 valZ
    simpa using this
  have q0 := lA.cell 0; have q1 := lA.cell 1; have q2 := lA.cell 2; have q3 := lA.cell 3; have q4 := lA.cell 4; simp only [List.getElem?_toArray, List.getElem?_cons_succ, List.getElem?_cons_zero] at q0 q1 q2 q3 q4
  obtain ⟨rfl, rfl⟩ : ai = av ∧ ci = cv := by
    simp only [List.cons.injEq, Value.slice.injEq] at e0
    exact ⟨e0.2.2.2.1.1, e0.2.2.2.1.2.2⟩
  have hlt := firstAt_lt t.keys key
  obtain ⟨j, hj⟩ : ∃ j : Nat, firstAt t.keys key = j := ⟨(firstAt t.keys key).toNat, by omega⟩
  rw [hj] at hg
  rw [hj] at HX
  have hjl : j < t.items.length := by omega
  obtain ⟨b, off, rfl, hx2⟩ := hx (by omega)
  obtain ⟨cs2, hlen, hr, y, hy, hyv⟩ := hx2 j hjl
  obtain rfl : y = x := by
    rw [Int.toNat_natCast, hy] at hg
    exact Option.some.inj hg
  have HV := Lib.hid hyv
  obtain ⟨ai2, ci2, ak2, ck2, rfl⟩ := hyv.form
  have HR := Lib.hid (fun (w1 : World) (hb : Below W.heap.size W w1) => range5 (range_below (below_on h0 hb) hr))
  have h5 : (t.kind != 4) = false := by simp [h4]
  have h6 : ((t.keys.length : Int) != (t.items.length : Int)) = false := by rw [hl]; exact bne_self_eq_false _
  have h7 : ¬ (j : Int) < 0 := by omega
  have h8 : (j : Int) < (t.items.length : Int) := by omega
  clear h hks hg h4 hl hx hx2 hr hlen hy hj hj0 hyv e0 hlt hjl
  go_enter Tryd.func13, Tryd.ntmps13
  go_wp2_with (first | (go_at_call 18; (with_reducible refine (HX.out _ hbW).mono ?_); rintro e w1 ⟨rfl, hb1⟩; replace hbW := below_on hbW hb1; replace lA := lA.on hb1; replace lR := lR.on hb1; have q0 := lA.cell 0; have q1 := lA.cell 1; have q2 := lA.cell 2; have q3 := lA.cell 3; have q4 := lA.cell 4; simp only [List.getElem?_toArray, List.getElem?_cons_succ, List.getElem?_cons_zero] at q0 q1 q2 q3 q4; obtain ⟨r0, r1, r2, r3, r4⟩ := HR.out _ hbW) | ((with_reducible refine wpL_store (W.heap.size + 1) 25 valZ #[.int .i64 y.kind, .int .i64 y.num, .string ⟨y.txt.toArray⟩, .slice ai2 y.items.length ci2, .slice ak2 y.keys.length ck2] 5 rowVal rfl rfl (valC_one _ _ _ _ _ _ _ _ _) lR ?_ ?_ ?_); rfl; rfl))
  exact bodyPost_ret (results_row_tmp Tryd.results13 rowVal rfl (lR.row _) rfl rfl) rfl ⟨_, rfl, HV.out, below_rowSet hbW (Nat.le_succ _) _⟩
/-- what a key gets, or no value -/
def getT (t : VT) (key : List UInt8) : VT := (getV t key).getD zeroT
theorem getY_any (d : Nat) (cs : List Value) (t : VT) (key : List UInt8) (W0 W : World) (h0 : Below W0.heap.size W0 W) (h : IsV W0 (d + 1) cs t) :
    Calls Tryd.prog 13 #[.agg cs.toArray, .string ⟨key.toArray⟩] W fun e w' => ∃ cs', e = .returned (.tuple #[.agg cs'.toArray, .bool (getV t key).isSome]) ∧ Hid (∀ w2, Below W0.heap.size W0 w2 → IsV w2 (d + 1) cs' (getT t key)) ∧ Below W.heap.size W w' := by
  unfold getT
  cases hg : getV t key with
  | none =>
    refine (get_none (d + 1) cs t key W (h.below h0) hg).mono ?_
    rintro e w' ⟨rfl, hb⟩
    exact ⟨_, rfl, Lib.hid (fun w2 _ => isV_zero w2 d), hb⟩
  | some x =>
    refine (getY_some d cs t x key W0 W h0 h hg).mono ?_
    rintro e w' ⟨cs', rfl, hv, hb⟩
    exact ⟨cs', rfl, Lib.hid (fun w2 hb2 => (hv.below hb2).mono (Nat.le_succ _)), hb⟩
theorem isV_onesG {w : World} {d : Nat} {cs : List Value} {t : VT} (h : IsV w d cs t) : cs.toArray.size = 5 ∧ Ones cs.toArray := by
  obtain ⟨ai, ci, ak, ck, hcs⟩ := h.form
  rw [hcs]
  exact ⟨rfl, valC_one _ _ _ _ _ _ _ _ _⟩
/-- the value of a key, of a kind, or that it is not as it should be -/
def fieldV (t : VT) (key : List UInt8) (kind : Int) : Option VT := (getV t key).filter fun y => y.kind == kind
theorem results_ctG {P : Program} {fn : Func} {p q : Tmp} {ty : TypeId} {n : Nat} {w : World} {g : Nat} {t : TypeId} {cs : Array Value} {tmps : Array Value} (h : fn.results = #[.cell p ty, .tmp q]) (hT : RowT P ty n) (hn : cs.size = n) (hg : Lies w g t cs) (hp : tmps.getD p undef = .pointer (some ⟨g, 0, none⟩)) :
    (results fn tmps).run P w = .ok (.tuple #[.agg cs, tmps.getD q undef]) w := by
  obtain ⟨⟨d, hu, hd⟩, hi⟩ := hT
  have hl1 := run_loadVar_row (P := P) w g t ty cs (0, 0) d hg hu (by cases d <;> first | rfl | simp [TypeDesc.isRow] at hd) (by rw [hi, hn])
  have hp' : tmps[p]?.getD undef = .pointer (some ⟨g, 0, none⟩) := by simpa using hp
  simp [results, h, hp', asAddr, hl1]
def FieldPost (W : World) (d : Nat) (r : Option VT) (e : Ending) (w' : World) : Prop :=
  ∃ cs', e = .returned (.tuple #[.agg (List.toArray cs'), .int .i64 (if r.isSome then 0 else 24)]) ∧ Hid (∀ w2, Below W.heap.size W w2 → IsV w2 (d + 1) cs' (r.getD zeroT)) ∧ Below W.heap.size W w'
set_option maxHeartbeats 6400000 in
theorem field_any (d : Nat) (cs : List Value) (t : VT) (key : List UInt8) (kind : Int) (W : World) (h : IsV W (d + 1) cs t) :
    Calls Tryd.prog 11 #[.agg cs.toArray, .string ⟨key.toArray⟩, .int .i64 kind] W fun e w' => FieldPost W d (fieldV t key kind) e w' := by
  have HG := Lib.hid (fun (w1 : World) (hb : Below W.heap.size W w1) => getY_any d cs t key W w1 hb h)
  have hc5 := (isV_onesG h).1
  have h1 := (isV_onesG h).2
  have lA := Lies.new W 25 cs.toArray
  have hbW := (Below.refl W.heap.size W).alloc (Nat.le_refl _) (.cells cs.toArray 25)
  have lB := Lies.new (W.alloc (.cells cs.toArray 25)) 25 valZ
  have hs1 : (W.alloc (.cells cs.toArray 25)).heap.size = W.heap.size + 1 := by simp
  rw [hs1] at lB
  have hbX := hbW.alloc hbW.size (.cells valZ 25)
  replace lA := lA.alloc (.cells valZ 25)
  go_enter Tryd.func11, Tryd.ntmps11
  go_upto_region 1 with fail
  generalize World.alloc (World.alloc W _) _ = wa at *
  obtain ⟨b, hb⟩ : ∃ b, b = W.heap.size := ⟨_, rfl⟩
  rw [← hb] at lA lB ⊢
  have hbl : W.heap.size ≤ b := Nat.le_of_eq hb.symm
  clear hb hs1 hbW
  go_upto_region 2 with (first
    | ((with_reducible refine wpL_load b 25 cs.toArray 5 rowVal hc5 lA ?_ ?_); rfl)
    | (go_at_call 13; refine (HG.out _ hbX).mono ?_; rintro e w1 ⟨cs1, rfl, HX, hb1⟩; replace lB := lB.on hb1; replace hbX := below_on hbX hb1; have hx := HX.out _ hbX)
    | ((with_reducible refine wpL_store w1.heap.size 25 valZ cs1.toArray 5 rowVal rfl (isV_onesG hx).1 (isV_onesG hx).2 (Lies.new w1 _ _) ?_ ?_ ?_); rfl; rfl))
  have hz := isV_onesG hx
  have hbY := below_rowSet (hbX.alloc hbX.size (.cells valZ 25)) hbX.size cs1.toArray
  have hbZ := below_rowSet ((RowKit.Below.refl w1.heap.size w1).alloc (Nat.le_refl _) (.cells valZ 25)) (Nat.le_refl _) cs1.toArray
  have lC := (Lies.new w1 25 valZ).row cs1.toArray
  have hbb : b + 1 < w1.heap.size := lB.lt
  replace lB := lB.on hbZ
  replace hx := hx.below hbZ
  clear hbX hb1 hbZ HG lA
  generalize World.setRow _ _ _ = w2 at *
  generalize w1.heap.size = c at *
  have q0 : w2.cell? ⟨c, 0, none⟩ = some (.int .i64 (getT t key).kind) := by
    obtain ⟨ai, ci, ak, ck, hcs⟩ := hx.form
    rw [hcs] at lC
    exact lC.cell 0
  cases hg : getV t key with
  | none =>
    have hT : getT t key = zeroT := by unfold getT; rw [hg]; rfl
    rw [hT] at hx q0
    have hf : fieldV t key kind = none := by unfold fieldV; rw [hg]; rfl
    simp only [Option.isSome_none]
    have lD := lB.row valZ
    go_wp2_with ((with_reducible refine wpL_store (b + 1) 25 valZ valZ 5 rowVal rfl rfl (valC_one _ _ _ _ _ _ _ _ _) lB ?_ ?_ ?_); rfl; rfl)
    refine bodyPost_ret (results_ctG Tryd.results11 rowVal rfl lD rfl) rfl ?_
    rw [hf]
    unfold FieldPost
    exact ⟨[.int .i64 0, .int .i64 0, .string ⟨#[]⟩, .slice none 0 0, .slice none 0 0], rfl, Lib.hid (fun w2 _ => isV_zero w2 d), below_rowSet hbY (Nat.le_succ_of_le hbl) _⟩
  | some y =>
    have hT : getT t key = y := by unfold getT; rw [hg]; rfl
    rw [hT] at hx q0
    simp only [Option.isSome_some]
    by_cases hk : y.kind = kind
    · have hk2 : (y.kind == kind) = true := beq_iff_eq.2 hk
      have lD := lB.row cs1.toArray
      go_wp2_with (first
        | ((with_reducible refine wpL_load c 25 cs1.toArray 5 rowVal hz.1 lC ?_ ?_); rfl)
        | ((with_reducible refine wpL_store (b + 1) 25 valZ cs1.toArray 5 rowVal rfl hz.1 hz.2 lB ?_ ?_ ?_); rfl; rfl))
      refine bodyPost_ret (results_ctG Tryd.results11 rowVal hz.1 lD rfl) rfl ?_
      rw [show fieldV t key kind = some y by unfold fieldV; rw [hg, Option.filter_some, hk2]; rfl]
      unfold FieldPost
      exact ⟨cs1, rfl, hT ▸ HX, below_rowSet hbY (Nat.le_succ_of_le hbl) _⟩
    · have hk2 : (y.kind == kind) = false := beq_eq_false_iff_ne.2 hk
      have lD := lB.row valZ
      go_wp2_with ((with_reducible refine wpL_store (b + 1) 25 valZ valZ 5 rowVal rfl rfl (valC_one _ _ _ _ _ _ _ _ _) lB ?_ ?_ ?_); rfl; rfl)
      refine bodyPost_ret (results_ctG Tryd.results11 rowVal rfl lD rfl) rfl ?_
      rw [show fieldV t key kind = none by unfold fieldV; rw [hg, Option.filter_some, hk2]; rfl]
      unfold FieldPost
      exact ⟨[.int .i64 0, .int .i64 0, .string ⟨#[]⟩, .slice none 0 0, .slice none 0 0], rfl, Lib.hid (fun w2 _ => isV_zero w2 d), below_rowSet hbY (Nat.le_succ_of_le hbl) _⟩
end Go.Proofs.YtmbmeidkmhajbaaDoor.V

