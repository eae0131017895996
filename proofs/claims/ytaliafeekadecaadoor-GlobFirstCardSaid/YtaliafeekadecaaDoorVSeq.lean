/- Rows of elements of k cells each: read, owned, cut, and put one behind the other. -/
import Derived.Test.YtaliafeekadecaaDoorVRow
import Derived.Test.YtaliafeekadecaaDoorVBuild
import Derived.Laws.AppendOwn
import Derived.Laws.AppendOwnNone
import Derived.Laws.Slices
namespace Go.Proofs.YtaliafeekadecaaDoor.V
set_option maxRecDepth 100000
open Go.RowKit

/-- the slice value v reads as elements of these cells -/
def RowL (w : World) (k : Nat) (v : Value) (css : List (List Value)) : Prop :=
  (∀ cs ∈ css, cs.length = k) ∧ ∃ a c, v = .slice a css.length c ∧ css.length ≤ c ∧ c ≤ maxLen ∧ (a = none → c = 0) ∧ (0 < css.length → ∃ b off, a = some ⟨b, off, none⟩ ∧ ∀ (i : Nat) (cs : List Value), css[i]? = some cs → w.rangeAt b (off + i * k) cs)
theorem RowL.below {w w' : World} {k : Nat} {v : Value} {css : List (List Value)} (h : RowL w k v css) (hb : Below w.heap.size w w') : RowL w' k v css := by
  obtain ⟨h0, a, c, hv, hc, hm, hn, hl⟩ := h
  refine ⟨h0, a, c, hv, hc, hm, hn, fun hpos => ?_⟩
  obtain ⟨b, off, ha, hx⟩ := hl hpos
  exact ⟨b, off, ha, fun i cs hi => range_below hb (hx i cs hi)⟩
theorem RowL.nil (w : World) (k : Nat) : RowL w k (.slice none 0 0) [] := ⟨(fun cs h => by cases h), none, 0, rfl, Nat.le_refl _, Nat.zero_le _, fun _ => rfl, fun h => absurd h (by simp)⟩
theorem RowL.form {w : World} {k : Nat} {v : Value} {css : List (List Value)} (h : RowL w k v css) : ∃ a c, v = .slice a css.length c ∧ css.length ≤ c ∧ c ≤ maxLen ∧ (a = none → c = 0) := by
  obtain ⟨_, a, c, hv, hc, hm, hn, _⟩ := h
  exact ⟨a, c, hv, hc, hm, hn⟩
/-- one element's cells -/
theorem RowL.at {w : World} {k : Nat} {a : Option Addr} {n c : Nat} {css : List (List Value)} (h : RowL w k (.slice a n c) css) {i : Nat} {cs : List Value} (hi : css[i]? = some cs) : ∃ b off, a = some ⟨b, off, none⟩ ∧ w.rangeAt b (off + i * k) cs ∧ cs.length = k := by
  obtain ⟨h0, a', c', hv, hc, hm, hn, hl⟩ := h
  injection hv with e1 e2 e3
  subst e1
  have hlt := (List.getElem?_eq_some_iff.1 hi).1
  obtain ⟨b, off, ha, hx⟩ := hl (by omega)
  exact ⟨b, off, ha, hx i cs hi, h0 cs (List.mem_of_getElem? hi)⟩
/-! ### flat -/
theorem flat_len {k : Nat} : ∀ {css : List (List Value)}, (∀ cs ∈ css, cs.length = k) → css.flatten.length = css.length * k := by
  intro css
  induction css with
  | nil => intro _; simp
  | cons c r ih =>
    intro h
    rw [List.flatten_cons, List.length_append, List.length_cons, ih (fun cs hc => h cs (by simp [hc])), h c (by simp), Nat.succ_mul]
    omega
theorem flat_cells {w : World} {k b : Nat} : ∀ {css : List (List Value)} {off : Nat}, (∀ cs ∈ css, cs.length = k) → (∀ (i : Nat) (cs : List Value), css[i]? = some cs → w.rangeAt b (off + i * k) cs) → ∀ (j : Nat) (u : Value), css.flatten[j]? = some u → w.cell? ⟨b, off + j, none⟩ = some u := by
  intro css
  induction css with
  | nil => intro off _ _ j u h; simp at h
  | cons c r ih =>
    intro off h0 hx j u h
    have hc := h0 c (by simp)
    rw [List.flatten_cons] at h
    by_cases hj : j < c.length
    · rw [List.getElem?_append_left hj] at h
      have := hx 0 c rfl j u h
      simpa using this
    · rw [List.getElem?_append_right (by omega)] at h
      have := ih (off := off + k) (fun cs hcs => h0 cs (by simp [hcs])) (fun i cs hi => by
        have := hx (i + 1) cs (by simpa using hi)
        rw [Nat.succ_mul] at this
        rwa [show off + k + i * k = off + (i * k + k) by omega]) (j - c.length) u h
      rwa [show off + k + (j - c.length) = off + j by omega] at this
theorem flat_at {k : Nat} : ∀ {css : List (List Value)} {i : Nat} {cs : List Value}, (∀ cs ∈ css, cs.length = k) → css[i]? = some cs → ∀ (j : Nat) (u : Value), cs[j]? = some u → css.flatten[i * k + j]? = some u := by
  intro css
  induction css with
  | nil => intro i cs _ h; simp at h
  | cons c r ih =>
    intro i cs h0 h j u hu
    have hc := h0 c (by simp)
    rw [List.flatten_cons]
    cases i with
    | zero =>
      simp at h
      subst h
      have hj := (List.getElem?_eq_some_iff.1 hu).1
      rw [Nat.zero_mul, Nat.zero_add, List.getElem?_append_left hj]
      exact hu
    | succ i =>
      have h2 : r[i]? = some cs := by simpa using h
      rw [Nat.succ_mul, List.getElem?_append_right (by omega)]
      rw [show i * k + k + j - c.length = i * k + j by omega]
      exact ih (fun cs hcs => h0 cs (by simp [hcs])) h2 j u hu
/-- a row that the call owns -/
def OwnL (w : World) (B : Nat) (e : TypeId) (k : Nat) (v : Value) (css : List (List Value)) : Prop := (∀ cs ∈ css, cs.length = k) ∧ w.ownsRow B e k v css.length css.flatten
theorem OwnL.read {w : World} {B : Nat} {e : TypeId} {k : Nat} {v : Value} {css : List (List Value)} (h : OwnL w B e k v css) : RowL w k v css := by
  obtain ⟨h0, ho⟩ := h
  refine ⟨h0, ?_⟩
  rcases ho.2 with ⟨rfl, hn⟩ | ⟨g, cap, cur, rfl, hg, hh, hc, hm, hs, ht⟩
  · exact ⟨none, 0, by rw [hn], by omega, Nat.zero_le _, fun _ => rfl, fun h => by omega⟩
  · refine ⟨some ⟨g, 0, none⟩, cap, rfl, hc, hm, (fun e => by cases e), fun _ => ⟨g, 0, rfl, fun i cs hi j u hu => ?_⟩⟩
    have hf := flat_at h0 hi j u hu
    have hlt : i * k + j < css.length * k := by
      rw [← flat_len h0]
      exact (List.getElem?_eq_some_iff.1 hf).1
    rw [show 0 + i * k + j = i * k + j by omega, ho.cellAt _ hlt, hf]
theorem OwnL.on {w w' : World} {B : Nat} {e : TypeId} {k : Nat} {v : Value} {css : List (List Value)} (h : OwnL w B e k v css) (hb : Below w.heap.size w w') : OwnL w' B e k v css := ⟨h.1, own_on h.2 hb⟩
theorem OwnL.far {w : World} {B g : Nat} {e : TypeId} {k : Nat} {v : Value} {css : List (List Value)} (h : OwnL w B e k v css) (hg : g < B) (i : Nat) (u : Value) : OwnL (w.setCell ⟨g, i, none⟩ u) B e k v css := by
  refine ⟨h.1, h.2.1, ?_⟩
  rcases h.2.2 with hv | ⟨b, cap, cur, hv, hB, hh, hr⟩
  · exact .inl hv
  · exact .inr ⟨b, cap, cur, hv, hB, (Below.heap_setCell _ _ _ _ (show b ≠ g by omega)).trans hh, hr⟩
theorem OwnL.made (w : World) (B : Nat) (e : TypeId) (k : Nat) (hB : B ≤ w.heap.size) : OwnL (w.alloc (.cells #[] e)) B e k (.slice (some ⟨w.heap.size, 0, none⟩) 0 0) [] :=
  ⟨(fun cs h => by cases h), World.ownsRow_made w #[] 0 hB (Nat.zero_le _) (by simp)⟩
theorem OwnL.nil (w : World) (B : Nat) (e : TypeId) (k : Nat) : OwnL w B e k (.slice none 0 0) [] := ⟨(fun cs h => by cases h), World.ownsRow_nil _ _ _ _⟩
theorem OwnL.form {w : World} {B : Nat} {e : TypeId} {k : Nat} {v : Value} {css : List (List Value)} (h : OwnL w B e k v css) : ∃ a c, v = .slice a css.length c ∧ css.length ≤ c ∧ c ≤ maxLen ∧ (a = none → c = 0) := h.read.form
theorem OwnL.lt {w : World} {B : Nat} {e : TypeId} {k : Nat} {v : Value} {css : List (List Value)} (h : OwnL w B e k v css) : ∀ g, v.ownBlock = some g → B ≤ g := fun g hg => (h.2.lt g hg).1
/-- a literal of one element -/
theorem RowL.lit (w : World) (e : TypeId) (k : Nat) (cs : List Value) (hk : cs.length = k) : RowL (w.alloc (.cells cs.toArray e)) k (.slice (some ⟨w.heap.size, 0, none⟩) 1 1) [cs] := by
  refine ⟨fun c h => by rw [List.mem_singleton.1 h]; exact hk, some ⟨w.heap.size, 0, none⟩, 1, rfl, Nat.le_refl _, by decide, (fun e => by cases e), fun _ => ⟨w.heap.size, 0, rfl, fun i c hi j u hu => ?_⟩⟩
  obtain ⟨hi0, rfl⟩ : i = 0 ∧ c = cs := by
    cases i with
    | zero => simp at hi; exact ⟨rfl, hi.symm⟩
    | succ i => simp at hi
  subst hi0
  have hl := (Lies.new w e c.toArray).cell j
  rw [show 0 + 0 * k + j = j by omega, hl]
  simpa using hu
/-! ### cut -/
theorem RowL.take {w : World} {k : Nat} {a : Option Addr} {n c : Nat} {css : List (List Value)} (h : RowL w k (.slice a n c) css) {j : Nat} (hj : j ≤ css.length) : RowL w k (sliced a 0 j c k) (css.take j) := by
  obtain ⟨h0, a', c', hv, hc, hm, hn, hl⟩ := h
  injection hv with e1 e2 e3
  subst e1 e2 e3
  have hlen : (css.take j).length = j := by rw [List.length_take]; omega
  refine ⟨fun cs hcs => h0 cs (List.mem_of_mem_take hcs), (if c = 0 then a else a.map (·.add (0 * k))), c - 0, ?_, by omega, by omega, fun e => ?_, fun hpos => ?_⟩
  · rw [hlen]; unfold sliced; rw [Nat.sub_zero]
  · by_cases h0 : c = 0
    · omega
    · rw [if_neg h0, Option.map_eq_none_iff] at e
      have := hn e; omega
  · obtain ⟨b, off, rfl, hx⟩ := hl (by omega)
    refine ⟨b, off, ?_, fun i cs hi => ?_⟩
    · by_cases h0 : c = 0
      · rw [if_pos h0]
      · rw [if_neg h0, Option.map_some, Addr.add_mid, Nat.zero_mul, Nat.add_zero]
    · rw [List.getElem?_take] at hi
      split at hi
      · exact hx i cs hi
      · cases hi
theorem RowL.drop {w : World} {k : Nat} {a : Option Addr} {n c : Nat} {css : List (List Value)} (h : RowL w k (.slice a n c) css) {j : Nat} (hj : j ≤ css.length) : RowL w k (sliced a j css.length c k) (css.drop j) := by
  obtain ⟨h0, a', c', hv, hc, hm, hn, hl⟩ := h
  injection hv with e1 e2 e3
  subst e1 e2 e3
  refine ⟨fun cs hcs => h0 cs (List.mem_of_mem_drop hcs), (if c = j then a else a.map (·.add (j * k))), c - j, ?_, by rw [List.length_drop]; omega, by omega, fun e => ?_, fun hpos => ?_⟩
  · rw [List.length_drop]; rfl
  · by_cases h0 : c = j
    · omega
    · rw [if_neg h0, Option.map_eq_none_iff] at e
      have := hn e; omega
  · rw [List.length_drop] at hpos
    obtain ⟨b, off, rfl, hx⟩ := hl (by omega)
    refine ⟨b, off + j * k, ?_, fun i cs hi => ?_⟩
    · rw [if_neg (by omega), Option.map_some, Addr.add_mid]
    · rw [List.getElem?_drop] at hi
      have := hx (j + i) cs hi
      rwa [show off + j * k + i * k = off + (j + i) * k by rw [Nat.add_mul]; omega]
/-! ### the walk's steps -/
section
variable {P : Program} {ops : Array Oper} {rest : List Oper} {a : Act} {w : World} {Q : Exit → Act → World → Prop} {t' : TypeId} {pos : String} {after : Array Edge}
/-- elements go behind a row that the call owns -/
theorem wpL_appendL {d : Option Tmp} {x y : Tmp} {ty : TypeId} (B : Nat) (e : TypeId) (i : TypeInfo) (z : Value) (k bytes : Nat) (ht : P.underlying ty = some (.slice e)) (hi : P.info? e = some i) (hz : i.zero = some z) (hsize : i.size = k) (hby : i.bytes = bytes) (hzs : z.cells.size = k) (hk : 0 < k)
    (v : Value) (css : List (List Value)) (hown : OwnL w B e k v css) (v' : Value) (css' : List (List Value)) (hrow : RowL w k v' css') (hu : ∀ u ∈ css'.flatten, u.oneCell' = true) (h63 : css.length + css'.length ≤ maxLen) (hbytes : (css.length + css'.length) * bytes ≤ 140737488355328) (hbase : B ≤ w.heap.size)
    (hs : a.eval (.tmp x) = v) (hx : a.eval (.tmp y) = v')
    (h : ∀ v'' w', OwnL w' B e k v'' (css ++ css') → w.grownBy w' v.ownBlock → wpList P ops Q rest (a.put d v'') w') :
    wpList P ops Q (⟨d, .call { callee := .builtin .append, args := #[.tmp x, .tmp y], argTypes := #[ty, ty] }, t', pos, after, none⟩ :: rest) a w := by
  obtain ⟨h0, ho⟩ := hown
  obtain ⟨h0', av, cv, rfl, hc, hm, hn, hl⟩ := hrow
  have hall : ∀ cs ∈ css ++ css', cs.length = k := fun cs hcs => (List.mem_append.1 hcs).elim (h0 cs) (h0' cs)
  rcases Nat.eq_zero_or_pos css'.length with hz0 | hpos
  · obtain rfl := List.eq_nil_of_length_eq_zero hz0
    cases av with
    | none =>
      obtain rfl := hn rfl
      refine wpList_append_own_none (o := ⟨d, .call { callee := .builtin .append, args := #[.tmp x, .tmp y], argTypes := #[ty, ty] }, t', pos, after, none⟩) rfl _ _ ty rfl B e i k ht hi v css.length css.flatten hs ho hx (h v w ⟨hall, ?_⟩ (World.grownBy.refl w _))
      rw [List.append_nil]; exact ho
    | some ad =>
      refine wpList_append_own (o := ⟨d, .call { callee := .builtin .append, args := #[.tmp x, .tmp y], argTypes := #[ty, ty] }, t', pos, after, none⟩) w rfl _ _ ty rfl B e i z k bytes ht hi hz hsize hby hzs hk v css.length css.flatten hs ho ad 0 cv [] hx (by simp) (fun j u h => by simp at h) (fun u h => by cases h) (by simpa using h63) (by simpa using hbytes) hbase (fun v'' w' h1 h2 _ => h v'' w' ⟨hall, ?_⟩ h2)
      simpa using h1
  · obtain ⟨b, off, rfl, hx2⟩ := hl hpos
    refine wpList_append_own (o := ⟨d, .call { callee := .builtin .append, args := #[.tmp x, .tmp y], argTypes := #[ty, ty] }, t', pos, after, none⟩) w rfl _ _ ty rfl B e i z k bytes ht hi hz hsize hby hzs hk v css.length css.flatten hs ho ⟨b, off, none⟩ css'.length cv css'.flatten hx (flat_len h0') (fun j u hj => ?_) hu h63 hbytes hbase (fun v'' w' h1 h2 _ => h v'' w' ⟨hall, ?_⟩ h2)
    · rw [Addr.add_mid]
      exact flat_cells h0' hx2 j u hj
    · rw [List.length_append, List.flatten_append]; exact h1
/-- whatever gives a value and leaves the world -/
theorem wpL_val {o : Oper} (v : Value) (hg : o.guard = none) (hr : (execOp a.eval o).run P w = .ok (.value v) w) (h : wpList P ops Q rest (a.put o.dst v) w) : wpList P ops Q (o :: rest) a w :=
  wpList_plain hg fun K hK => by
    unfold Oper.wp
    rw [hr]
    exact hK _ _ h
end
end Go.Proofs.YtaliafeekadecaaDoor.V
