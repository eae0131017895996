/- Texts that stand on one another, put together: Build, VBuild, VSeq, VMake, VOpen, VSort, VMap. -/
import Derived.Test.YtdfdpckcemdimaaDoorK1
import Derived.Laws.AppendOwn
import Derived.Laws.AppendOwnNone
import Derived.Laws.Externs
import Derived.Laws.Slices
import Derived.Lib.AppendStr
import Derived.Lib.Builder
/- The contracts of the text builder's calls that this program makes: what each writes, at a builder of the call's own. -/
namespace Go.Proofs.YtdfdpckcemdimaaDoor
open Go.RowKit

/-! ### 'copyCheck': the builder's first cell holds its own address -/
abbrev home (b : Nat) : Value := .pointer (some ⟨b, 0, none⟩)
theorem sizeB : (Tryd.prog.info? 67).map (·.size) = some 2 := by kernel_rfl
theorem liesB : liesAt Tryd.prog Tryd.prog.depth 67 (2 / Tryd.prog.cellsOf 67) 0 67 1 = true := by kernel_rfl
theorem escape (x : Value) (w : World) : (callFunc 85 #[x]).run Tryd.prog w = .ok (.value x) w := by
  rw [run_callFunc_extern Tryd.func85 (by kernel_rfl) (by kernel_rfl) (by kernel_rfl) (e := Extern.AbiNoEscape.same) (by kernel_rfl), Lib.run_noEscape]
  rfl

set_option maxHeartbeats 1000000 in
theorem check_again (b : Nat) (w : World) (held : w.cell? ⟨b, 0, none⟩ = some (home b)) : Calls Tryd.prog 74 #[home b] w fun e w' => e = .returned (.tuple #[]) ∧ w = w' := by
  obtain ⟨j, hj, _⟩ := Option.map_eq_some_iff.1 sizeB
  have own_eq := Lib.run_neq_ptr_same (P := Tryd.prog) w ⟨b, 0, none⟩ Tryd.underlying64 hj
  go_enter Tryd.func74, Tryd.ntmps74
  go_wp2
  go_end0
  exact ⟨rfl, rfl⟩

set_option maxHeartbeats 1000000 in
theorem check_first (b : Nat) (w : World) (held : w.cell? ⟨b, 0, none⟩ = some (.pointer none)) (hsh : w.shape? b = some (67, 2)) (hfz : w.frozen? ⟨b, 0, none⟩ = false) :
    Calls Tryd.prog 74 #[home b] w fun e w' => e = .returned (.tuple #[]) ∧ w.setCell ⟨b, 0, none⟩ (home b) = w' := by
  obtain ⟨j, hj, hjs⟩ := Option.map_eq_some_iff.1 sizeB
  have there := Lib.run_to_unsafe (P := Tryd.prog) w ⟨b, 0, none⟩ Tryd.underlying64 Tryd.underlying112 hj (by omega) hsh (by show 0 < 2; omega)
  have across := escape (home b) w
  have back := Lib.run_from_unsafe (P := Tryd.prog) w ⟨b, 0, none⟩ Tryd.underlying112 Tryd.underlying64 hj hsh liesB
  clear hjs
  go_enter Tryd.func74, Tryd.ntmps74
  go_wp2
  go_end0
  exact ⟨rfl, rfl⟩

/-! ### 'WriteString' -/
/-- what stands in the builder's block behind an append to its buffer, and what a store of the new buffer makes of it -/
theorem grown_in {B b n : Nat} {v v' : Value} {ys : List Value} {w1 w2 : World} (hB : B ≤ b) (hbk : w1.heap[b]? = some (.cells #[home b, v] 67 (0, 0))) (hne : v.ownBlock ≠ some b)
    (hgrow : w1.grownBy w2 v.ownBlock) (hown : w2.ownsRow B 5 1 v' n ys) :
    w2.cell? ⟨b, 0, none⟩ = some (home b) ∧ w2.cell? ⟨b, 1, none⟩ = some v ∧ w2.frozen? ⟨b, 1, none⟩ = false ∧ Lib.BuilderAt 67 5 B b (home b) ys (w2.setCell ⟨b, 1, none⟩ v') := by
  have hlt : b < w1.heap.size := (Array.getElem?_eq_some_iff.1 hbk).1
  have hk : w2.heap[b]? = some (.cells #[home b, v] 67 (0, 0)) := (hgrow.block b hlt (Ne.symm hne)).trans hbk
  have hn : ys.length = n := by simpa using hown.1
  subst hn
  exact ⟨Lib.cell_of_heap hk 0, Lib.cell_of_heap hk 1, Lib.frozen_of_heap hk 1, Lib.BuilderAt.put hB hk hown (by decide)⟩

end Go.Proofs.YtdfdpckcemdimaaDoor

/- The text builder's WriteString: what it leaves as it was, boxes of the callers' own among it. -/
namespace Go.Proofs.YtdfdpckcemdimaaDoor.V
open Go.RowKit
set_option maxRecDepth 100000

/-- all that lay there lies there as it was, but for the builder's block and rows of bytes -/
def Calm (b : Nat) (w w' : World) : Prop := w.heap.size ≤ w'.heap.size ∧ ∀ (k : Nat) (cs : Array Value) (t : TypeId) (fr : Nat × Nat), k ≠ b → t ≠ 5 → w.heap[k]? = some (.cells cs t fr) → w'.heap[k]? = some (.cells cs t fr)
theorem Calm.refl (b : Nat) (w : World) : Calm b w w := ⟨Nat.le_refl _, fun _ _ _ _ _ _ h => h⟩
theorem Calm.trans {b : Nat} {w w1 w2 : World} (h : Calm b w w1) (k : Calm b w1 w2) : Calm b w w2 := ⟨Nat.le_trans h.1 k.1, fun j cs t fr hj ht hc => k.2 j cs t fr hj ht (h.2 j cs t fr hj ht hc)⟩
theorem Calm.below {b : Nat} {w w' : World} (h : Below w.heap.size w w') : Calm b w w' := ⟨h.size, fun j cs t fr _ _ hc => (h.block j (by
  rcases Nat.lt_or_ge j w.heap.size with h1 | h1
  · exact h1
  · rw [Array.getElem?_eq_none h1] at hc; cases hc)).trans hc⟩
theorem Calm.lies {b g : Nat} {t : TypeId} {cs : Array Value} {w w' : World} (h : Calm b w w') (hg : g ≠ b) (ht : t ≠ 5) (hl : Lies w g t cs) : Lies w' g t cs := h.2 g cs t (0, 0) hg ht hl
theorem Calm.set {b : Nat} (w : World) (i : Nat) (v : Value) : Calm b w (w.setCell ⟨b, i, none⟩ v) := ⟨by simp [World.setCell], fun j cs t fr hj _ hc => (Below.heap_setCell _ _ _ _ hj).trans hc⟩
theorem Calm.grown {b B n : Nat} {v : Value} {ys : List Value} {w w' : World} (ho : w.ownsRow B 5 1 v n ys) (h : w.grownBy w' v.ownBlock) : Calm b w w' := by
  refine ⟨h.size, fun j cs t fr _ ht hc => ?_⟩
  have hj : j < w.heap.size := by
    rcases Nat.lt_or_ge j w.heap.size with h1 | h1
    · exact h1
    · rw [Array.getElem?_eq_none h1] at hc; cases hc
  refine (h.block j hj ?_).trans hc
  rcases ho.2 with ⟨rfl, _⟩ | ⟨g, cap, cur, rfl, _, hg, _⟩
  · simp [Value.ownBlock]
  · intro e
    simp only [Value.ownBlock, Option.some.injEq] at e
    subst e
    rw [hg] at hc
    simp only [Option.some.injEq, Obj.cells.injEq] at hc
    exact ht hc.2.1.symm
theorem check_calm (B b : Nat) (bs : List Value) (w : World) (h : Lib.IsBuilder 67 5 B b bs w) :
    Calls Tryd.prog 74 #[home b] w fun e w' => e = .returned (.tuple #[]) ∧ Lib.BuilderAt 67 5 B b (home b) bs w' ∧ Below B w w' ∧ Calm b w w' := by
  cases h with
  | inl new => exact (check_first b w new.cell0 new.shape new.frozen0).mono fun e w' ⟨he, hw⟩ => ⟨he, hw ▸ new.used (home b), hw ▸ (Below.refl B w).setCell (p := ⟨b, 0, none⟩) new.1 _, hw ▸ Calm.set w 0 _⟩
  | inr old => exact (check_again b w old.cell0).mono fun e w' ⟨he, hw⟩ => ⟨he, hw ▸ old, hw ▸ Below.refl B w, hw ▸ Calm.refl b w⟩
set_option maxHeartbeats 2000000 in
theorem write_calm (B b : Nat) (bs : List Value) (s : ByteArray) (w : World) (h : Lib.IsBuilder 67 5 B b bs w) (hlen : bs.length + s.size ≤ 200000000) (hBw : B ≤ w.heap.size) :
    Calls Tryd.prog 52 #[home b, .string s] w fun e w' => e = .returned (.tuple #[.int .i64 s.size, .nilIface]) ∧ Lib.BuilderAt 67 5 B b (home b) (bs ++ Lib.strCells s) w' ∧ Below B w w' ∧ Calm b w w' := by
  obtain ⟨i0, hi, hz0, hz1, hz2⟩ := info_parts info5
  go_enter Tryd.func52, Tryd.ntmps52
  go_wp2_with (go_at_call 74; refine (check_calm B b bs _ h).mono ?_)
  rintro e w1 ⟨rfl, ⟨hB, v, hbk, hown, hne⟩, hb1, hc1⟩
  have held := Lib.cell_of_heap hbk 0
  have kept := Lib.cell_of_heap hbk 1
  have room := hb1.size
  go_wp2_with (at_builtin; refine Lib.wpList_append_own_string _ rfl _ _ 65 9 rfl B 5 i0 Tryd.underlying65 Tryd.underlying9 hi hz0 hz1 hz2 _ _ _ rfl hown s rfl ?many ?bytes ?base ?_)
  case many => unfold maxLen; omega
  case bytes => omega
  case base => omega
  intro v' w2 hown' hgrow _
  obtain ⟨g0, g1, gf, made⟩ := grown_in hB hbk hne hgrow hown'
  have hb2 := (hb1.grown hgrow (by omega) (fun k hk => (hown.lt k hk).1)).setCell (p := ⟨b, 1, none⟩) hB v'
  have hc2 : Calm b w (w2.setCell ⟨b, 1, none⟩ v') := (hc1.trans (Calm.grown hown hgrow)).trans (Calm.set w2 1 v')
  have form : ∃ ao n' cap, v' = .slice ao n' cap := by
    rcases hown'.2 with ⟨hv, _⟩ | ⟨g, cap, cur, hv, _⟩ <;> exact ⟨_, _, _, hv⟩
  clear held kept hown hbk hown' hgrow
  obtain ⟨ao, n', cap, rfl⟩ := form
  go_wp2
  go_ret2
  exact ⟨rfl, made, hb2, hc2⟩
theorem own_on {k : Nat} {w w1 : World} {B : Nat} {e : TypeId} {v : Value} {n : Nat} {xs : List Value} (h : w.ownsRow B e k v n xs) (hb : Below w.heap.size w w1) : w1.ownsRow B e k v n xs := by
  obtain ⟨hl, h⟩ := h
  refine ⟨hl, ?_⟩
  rcases h with h | ⟨g, cap, cur, hv, hg, hh, hr⟩
  · exact Or.inl h
  · have hlt : g < w.heap.size := by
      rcases Nat.lt_or_ge g w.heap.size with h' | h'
      · exact h'
      · rw [Array.getElem?_eq_none h'] at hh; cases hh
    exact Or.inr ⟨g, cap, cur, hv, hg, (hb.block g hlt).trans hh, hr⟩
/-- the builder at work, its bytes as a list -/
def IsB (B b : Nat) (l : List UInt8) (w : World) : Prop := Lib.IsBuilder 67 5 B b (Lib.byteCells l) w
theorem strCells_list (s : ByteArray) : Lib.strCells s = Lib.byteCells s.data.toList := by
  unfold Lib.strCells Lib.byteCells
  rfl
theorem IsB.below {B b : Nat} {l : List UInt8} {w w1 : World} (h : IsB B b l w) (hb : Below w.heap.size w w1) : IsB B b l w1 := by
  have one : ∀ p, Lib.BuilderAt 67 5 B b p (Lib.byteCells l) w → Lib.BuilderAt 67 5 B b p (Lib.byteCells l) w1 := by
    intro p hp
    have hlt := hp.lt
    obtain ⟨hB, v, hh, ho, hne⟩ := hp
    refine ⟨hB, v, (hb.block b hlt).trans hh, own_on ho hb, hne⟩
  exact Or.imp (one _) (one _) h
theorem write_s (B b : Nat) (l x : List UInt8) (s : ByteArray) (w : World) (hx : s.data.toList = x) (h : IsB B b l w) (hlen : l.length + x.length ≤ 200000000) (hBw : B ≤ w.heap.size) :
    Calls Tryd.prog 52 #[.pointer (some ⟨b, 0, none⟩), .string s] w fun e w' => e = .returned (.tuple #[.int .i64 s.size, .nilIface]) ∧ (IsB B b (l ++ x) w' ∧ Below B w w' ∧ Calm b w w') := by
  subst hx
  have hsz : s.data.toList.length = s.size := Array.length_toList
  refine (write_calm B b (Lib.byteCells l) s w h (by rw [Lib.byteCells_length]; omega) hBw).mono fun e w' ⟨he, hat, hb, hc⟩ => ⟨he, Or.inr ?_, hb, hc⟩
  rw [Lib.byteCells_append, ← strCells_list]
  exact hat
theorem builder_new (w : World) : IsB w.heap.size w.heap.size [] (w.alloc (.cells #[.pointer none, .slice none 0 0] 67)) :=
  Or.inl ⟨Nat.le_refl _, _, heap_alloc_new w _, World.ownsRow_nil _ _ _ _, by simp [Value.ownBlock]⟩
theorem string_b (B b : Nat) (l : List UInt8) (w : World) (h : IsB B b l w) (hBw : B ≤ w.heap.size) :
    Calls Tryd.prog 42 #[.pointer (some ⟨b, 0, none⟩)] w fun e w' => e = .returned (.string ⟨l.toArray⟩) ∧ Below B w w' := Tryd.Builder_String_any B b l w h hBw
end Go.Proofs.YtdfdpckcemdimaaDoor.V

/- Rows of elements of k cells each: read, owned, cut, and put one behind the other. -/
namespace Go.Proofs.YtdfdpckcemdimaaDoor.V
set_option maxRecDepth 100000
open Go.RowKit

/-- the slice value v reads as elements of these cells -/
def RowL (w : World) (k : Nat) (v : Value) (css : List (List Value)) : Prop :=
  (∀ cs ∈ css, cs.length = k) ∧ ∃ a c, v = .slice a css.length c ∧ css.length ≤ c ∧ c ≤ maxLen ∧ (a = none → c = 0) ∧ (0 < css.length → ∃ b off, a = some ⟨b, off, none⟩ ∧ ∀ (i : Nat) (cs : List Value), css[i]? = some cs → w.rangeAt b (off + i * k) cs)
theorem RowL.below {w w' : World} {k : Nat} {v : Value} {css : List (List Value)} (h : RowL w k v css) (hb : Below w.heap.size w w') : RowL w' k v css := by
  obtain ⟨h0, a, c, hv, hc, hm, hn, hl⟩ := h
  refine ⟨h0, a, c, hv, hc, hm, hn, fun hpos => ?_⟩
  obtain ⟨b, off, ha, hx⟩ := hl hpos
  exact ⟨b, off, ha, fun i cs hi => range_below hb (hx i cs hi)⟩
theorem RowL.nil (w : World) (k : Nat) : RowL w k (.slice none 0 0) [] := ⟨(fun cs h => by cases h), none, 0, rfl, Nat.le_refl _, Nat.zero_le _, fun _ => rfl, fun h => absurd h (by simp)⟩
theorem RowL.form {w : World} {k : Nat} {v : Value} {css : List (List Value)} (h : RowL w k v css) : ∃ a c, v = .slice a css.length c ∧ css.length ≤ c ∧ c ≤ maxLen ∧ (a = none → c = 0) := by
  obtain ⟨_, a, c, hv, hc, hm, hn, _⟩ := h
  exact ⟨a, c, hv, hc, hm, hn⟩
/-- one element's cells -/
theorem RowL.at {w : World} {k : Nat} {a : Option Addr} {n c : Nat} {css : List (List Value)} (h : RowL w k (.slice a n c) css) {i : Nat} {cs : List Value} (hi : css[i]? = some cs) : ∃ b off, a = some ⟨b, off, none⟩ ∧ w.rangeAt b (off + i * k) cs ∧ cs.length = k := by
  obtain ⟨h0, a', c', hv, hc, hm, hn, hl⟩ := h
  injection hv with e1 e2 e3
  subst e1
  have hlt := (List.getElem?_eq_some_iff.1 hi).1
  obtain ⟨b, off, ha, hx⟩ := hl (by omega)
  exact ⟨b, off, ha, hx i cs hi, h0 cs (List.mem_of_getElem? hi)⟩
/-! ### flat -/
theorem flat_len {k : Nat} : ∀ {css : List (List Value)}, (∀ cs ∈ css, cs.length = k) → css.flatten.length = css.length * k := by
  intro css
  induction css with
  | nil => intro _; simp
  | cons c r ih =>
    intro h
    rw [List.flatten_cons, List.length_append, List.length_cons, ih (fun cs hc => h cs (by simp [hc])), h c (by simp), Nat.succ_mul]
    omega
theorem flat_cells {w : World} {k b : Nat} : ∀ {css : List (List Value)} {off : Nat}, (∀ cs ∈ css, cs.length = k) → (∀ (i : Nat) (cs : List Value), css[i]? = some cs → w.rangeAt b (off + i * k) cs) → ∀ (j : Nat) (u : Value), css.flatten[j]? = some u → w.cell? ⟨b, off + j, none⟩ = some u := by
  intro css
  induction css with
  | nil => intro off _ _ j u h; simp at h
  | cons c r ih =>
    intro off h0 hx j u h
    have hc := h0 c (by simp)
    rw [List.flatten_cons] at h
    by_cases hj : j < c.length
    · rw [List.getElem?_append_left hj] at h
      have := hx 0 c rfl j u h
      simpa using this
    · rw [List.getElem?_append_right (by omega)] at h
      have := ih (off := off + k) (fun cs hcs => h0 cs (by simp [hcs])) (fun i cs hi => by
        have := hx (i + 1) cs (by simpa using hi)
        rw [Nat.succ_mul] at this
        rwa [show off + k + i * k = off + (i * k + k) by omega]) (j - c.length) u h
      rwa [show off + k + (j - c.length) = off + j by omega] at this
theorem flat_at {k : Nat} : ∀ {css : List (List Value)} {i : Nat} {cs : List Value}, (∀ cs ∈ css, cs.length = k) → css[i]? = some cs → ∀ (j : Nat) (u : Value), cs[j]? = some u → css.flatten[i * k + j]? = some u := by
  intro css
  induction css with
  | nil => intro i cs _ h; simp at h
  | cons c r ih =>
    intro i cs h0 h j u hu
    have hc := h0 c (by simp)
    rw [List.flatten_cons]
    cases i with
    | zero =>
      simp at h
      subst h
      have hj := (List.getElem?_eq_some_iff.1 hu).1
      rw [Nat.zero_mul, Nat.zero_add, List.getElem?_append_left hj]
      exact hu
    | succ i =>
      have h2 : r[i]? = some cs := by simpa using h
      rw [Nat.succ_mul, List.getElem?_append_right (by omega)]
      rw [show i * k + k + j - c.length = i * k + j by omega]
      exact ih (fun cs hcs => h0 cs (by simp [hcs])) h2 j u hu
/-- a row that the call owns -/
def OwnL (w : World) (B : Nat) (e : TypeId) (k : Nat) (v : Value) (css : List (List Value)) : Prop := (∀ cs ∈ css, cs.length = k) ∧ w.ownsRow B e k v css.length css.flatten
theorem OwnL.read {w : World} {B : Nat} {e : TypeId} {k : Nat} {v : Value} {css : List (List Value)} (h : OwnL w B e k v css) : RowL w k v css := by
  obtain ⟨h0, ho⟩ := h
  refine ⟨h0, ?_⟩
  rcases ho.2 with ⟨rfl, hn⟩ | ⟨g, cap, cur, rfl, hg, hh, hc, hm, hs, ht⟩
  · exact ⟨none, 0, by rw [hn], by omega, Nat.zero_le _, fun _ => rfl, fun h => by omega⟩
  · refine ⟨some ⟨g, 0, none⟩, cap, rfl, hc, hm, (fun e => by cases e), fun _ => ⟨g, 0, rfl, fun i cs hi j u hu => ?_⟩⟩
    have hf := flat_at h0 hi j u hu
    have hlt : i * k + j < css.length * k := by
      rw [← flat_len h0]
      exact (List.getElem?_eq_some_iff.1 hf).1
    rw [show 0 + i * k + j = i * k + j by omega, ho.cellAt _ hlt, hf]
theorem OwnL.on {w w' : World} {B : Nat} {e : TypeId} {k : Nat} {v : Value} {css : List (List Value)} (h : OwnL w B e k v css) (hb : Below w.heap.size w w') : OwnL w' B e k v css := ⟨h.1, own_on h.2 hb⟩
theorem OwnL.far {w : World} {B g : Nat} {e : TypeId} {k : Nat} {v : Value} {css : List (List Value)} (h : OwnL w B e k v css) (hg : g < B) (i : Nat) (u : Value) : OwnL (w.setCell ⟨g, i, none⟩ u) B e k v css := by
  refine ⟨h.1, h.2.1, ?_⟩
  rcases h.2.2 with hv | ⟨b, cap, cur, hv, hB, hh, hr⟩
  · exact .inl hv
  · exact .inr ⟨b, cap, cur, hv, hB, (Below.heap_setCell _ _ _ _ (show b ≠ g by omega)).trans hh, hr⟩
theorem OwnL.made (w : World) (B : Nat) (e : TypeId) (k : Nat) (hB : B ≤ w.heap.size) : OwnL (w.alloc (.cells #[] e)) B e k (.slice (some ⟨w.heap.size, 0, none⟩) 0 0) [] :=
  ⟨(fun cs h => by cases h), World.ownsRow_made w #[] 0 hB (Nat.zero_le _) (by simp)⟩
theorem OwnL.nil (w : World) (B : Nat) (e : TypeId) (k : Nat) : OwnL w B e k (.slice none 0 0) [] := ⟨(fun cs h => by cases h), World.ownsRow_nil _ _ _ _⟩
theorem OwnL.form {w : World} {B : Nat} {e : TypeId} {k : Nat} {v : Value} {css : List (List Value)} (h : OwnL w B e k v css) : ∃ a c, v = .slice a css.length c ∧ css.length ≤ c ∧ c ≤ maxLen ∧ (a = none → c = 0) := h.read.form
theorem OwnL.lt {w : World} {B : Nat} {e : TypeId} {k : Nat} {v : Value} {css : List (List Value)} (h : OwnL w B e k v css) : ∀ g, v.ownBlock = some g → B ≤ g := fun g hg => (h.2.lt g hg).1
/-- a literal of one element -/
theorem RowL.lit (w : World) (e : TypeId) (k : Nat) (cs : List Value) (hk : cs.length = k) : RowL (w.alloc (.cells cs.toArray e)) k (.slice (some ⟨w.heap.size, 0, none⟩) 1 1) [cs] := by
  refine ⟨fun c h => by rw [List.mem_singleton.1 h]; exact hk, some ⟨w.heap.size, 0, none⟩, 1, rfl, Nat.le_refl _, by decide, (fun e => by cases e), fun _ => ⟨w.heap.size, 0, rfl, fun i c hi j u hu => ?_⟩⟩
  obtain ⟨hi0, rfl⟩ : i = 0 ∧ c = cs := by
    cases i with
    | zero => simp at hi; exact ⟨rfl, hi.symm⟩
    | succ i => simp at hi
  subst hi0
  have hl := (Lies.new w e c.toArray).cell j
  rw [show 0 + 0 * k + j = j by omega, hl]
  simpa using hu
/-! ### cut -/
theorem RowL.take {w : World} {k : Nat} {a : Option Addr} {n c : Nat} {css : List (List Value)} (h : RowL w k (.slice a n c) css) {j : Nat} (hj : j ≤ css.length) : RowL w k (sliced a 0 j c k) (css.take j) := by
  obtain ⟨h0, a', c', hv, hc, hm, hn, hl⟩ := h
  injection hv with e1 e2 e3
  subst e1 e2 e3
  have hlen : (css.take j).length = j := by rw [List.length_take]; omega
  refine ⟨fun cs hcs => h0 cs (List.mem_of_mem_take hcs), (if c = 0 then a else a.map (·.add (0 * k))), c - 0, ?_, by omega, by omega, fun e => ?_, fun hpos => ?_⟩
  · rw [hlen]; unfold sliced; rw [Nat.sub_zero]
  · by_cases h0 : c = 0
    · omega
    · rw [if_neg h0, Option.map_eq_none_iff] at e
      have := hn e; omega
  · obtain ⟨b, off, rfl, hx⟩ := hl (by omega)
    refine ⟨b, off, ?_, fun i cs hi => ?_⟩
    · by_cases h0 : c = 0
      · rw [if_pos h0]
      · rw [if_neg h0, Option.map_some, Addr.add_mid, Nat.zero_mul, Nat.add_zero]
    · rw [List.getElem?_take] at hi
      split at hi
      · exact hx i cs hi
      · cases hi
theorem RowL.drop {w : World} {k : Nat} {a : Option Addr} {n c : Nat} {css : List (List Value)} (h : RowL w k (.slice a n c) css) {j : Nat} (hj : j ≤ css.length) : RowL w k (sliced a j css.length c k) (css.drop j) := by
  obtain ⟨h0, a', c', hv, hc, hm, hn, hl⟩ := h
  injection hv with e1 e2 e3
  subst e1 e2 e3
  refine ⟨fun cs hcs => h0 cs (List.mem_of_mem_drop hcs), (if c = j then a else a.map (·.add (j * k))), c - j, ?_, by rw [List.length_drop]; omega, by omega, fun e => ?_, fun hpos => ?_⟩
  · rw [List.length_drop]; rfl
  · by_cases h0 : c = j
    · omega
    · rw [if_neg h0, Option.map_eq_none_iff] at e
      have := hn e; omega
  · rw [List.length_drop] at hpos
    obtain ⟨b, off, rfl, hx⟩ := hl (by omega)
    refine ⟨b, off + j * k, ?_, fun i cs hi => ?_⟩
    · rw [if_neg (by omega), Option.map_some, Addr.add_mid]
    · rw [List.getElem?_drop] at hi
      have := hx (j + i) cs hi
      rwa [show off + j * k + i * k = off + (j + i) * k by rw [Nat.add_mul]; omega]
/-! ### the walk's steps -/
section
variable {P : Program} {ops : Array Oper} {rest : List Oper} {a : Act} {w : World} {Q : Exit → Act → World → Prop} {t' : TypeId} {pos : String} {after : Array Edge}
/-- elements go behind a row that the call owns -/
theorem wpL_appendL {d : Option Tmp} {x y : Tmp} {ty : TypeId} (B : Nat) (e : TypeId) (i : TypeInfo) (z : Value) (k bytes : Nat) (ht : P.underlying ty = some (.slice e)) (hi : P.info? e = some i) (hz : i.zero = some z) (hsize : i.size = k) (hby : i.bytes = bytes) (hzs : z.cells.size = k) (hk : 0 < k)
    (v : Value) (css : List (List Value)) (hown : OwnL w B e k v css) (v' : Value) (css' : List (List Value)) (hrow : RowL w k v' css') (hu : ∀ u ∈ css'.flatten, u.oneCell' = true) (h63 : css.length + css'.length ≤ maxLen) (hbytes : (css.length + css'.length) * bytes ≤ 140737488355328) (hbase : B ≤ w.heap.size)
    (hs : a.eval (.tmp x) = v) (hx : a.eval (.tmp y) = v')
    (h : ∀ v'' w', OwnL w' B e k v'' (css ++ css') → w.grownBy w' v.ownBlock → wpList P ops Q rest (a.put d v'') w') :
    wpList P ops Q (⟨d, .call { callee := .builtin .append, args := #[.tmp x, .tmp y], argTypes := #[ty, ty] }, t', pos, after, none⟩ :: rest) a w := by
  obtain ⟨h0, ho⟩ := hown
  obtain ⟨h0', av, cv, rfl, hc, hm, hn, hl⟩ := hrow
  have hall : ∀ cs ∈ css ++ css', cs.length = k := fun cs hcs => (List.mem_append.1 hcs).elim (h0 cs) (h0' cs)
  rcases Nat.eq_zero_or_pos css'.length with hz0 | hpos
  · obtain rfl := List.eq_nil_of_length_eq_zero hz0
    cases av with
    | none =>
      obtain rfl := hn rfl
      refine wpList_append_own_none (o := ⟨d, .call { callee := .builtin .append, args := #[.tmp x, .tmp y], argTypes := #[ty, ty] }, t', pos, after, none⟩) rfl _ _ ty rfl B e i k ht hi v css.length css.flatten hs ho hx (h v w ⟨hall, ?_⟩ (World.grownBy.refl w _))
      rw [List.append_nil]; exact ho
    | some ad =>
      refine wpList_append_own (o := ⟨d, .call { callee := .builtin .append, args := #[.tmp x, .tmp y], argTypes := #[ty, ty] }, t', pos, after, none⟩) w rfl _ _ ty rfl B e i z k bytes ht hi hz hsize hby hzs hk v css.length css.flatten hs ho ad 0 cv [] hx (by simp) (fun j u h => by simp at h) (fun u h => by cases h) (by simpa using h63) (by simpa using hbytes) hbase (fun v'' w' h1 h2 _ => h v'' w' ⟨hall, ?_⟩ h2)
      simpa using h1
  · obtain ⟨b, off, rfl, hx2⟩ := hl hpos
    refine wpList_append_own (o := ⟨d, .call { callee := .builtin .append, args := #[.tmp x, .tmp y], argTypes := #[ty, ty] }, t', pos, after, none⟩) w rfl _ _ ty rfl B e i z k bytes ht hi hz hsize hby hzs hk v css.length css.flatten hs ho ⟨b, off, none⟩ css'.length cv css'.flatten hx (flat_len h0') (fun j u hj => ?_) hu h63 hbytes hbase (fun v'' w' h1 h2 _ => h v'' w' ⟨hall, ?_⟩ h2)
    · rw [Addr.add_mid]
      exact flat_cells h0' hx2 j u hj
    · rw [List.length_append, List.flatten_append]; exact h1
/-- whatever gives a value and leaves the world -/
theorem wpL_val {o : Oper} (v : Value) (hg : o.guard = none) (hr : (execOp a.eval o).run P w = .ok (.value v) w) (h : wpList P ops Q rest (a.put o.dst v) w) : wpList P ops Q (o :: rest) a w :=
  wpList_plain hg fun K hK => by
    unfold Oper.wp
    rw [hr]
    exact hK _ _ h
end
end Go.Proofs.YtdfdpckcemdimaaDoor.V

/- The developers' Number, Text, List and Get. -/
namespace Go.Proofs.YtdfdpckcemdimaaDoor.V
open Go.RowKit Go.Sort Go.Joins
set_option maxRecDepth 100000

theorem number_any (n : Int) (W : World) :
    Calls Tryd.prog 24 #[.int .i64 n] W fun e w' => e = .returned (.agg #[.int .i64 1, .int .i64 n, .string ⟨#[]⟩, .slice none 0 0, .slice none 0 0]) ∧ Below W.heap.size W w' := by
  have lR : Lies (W.alloc (.cells valZ 25)) W.heap.size 25 valZ := Lies.new W _ _
  have hB := (Below.refl W.heap.size W).alloc (Nat.le_refl _) (.cells valZ 25)
  go_enter Tryd.func24, Tryd.ntmps24
  go_wp2_with ((with_reducible refine wpL_store W.heap.size 25 valZ #[.int .i64 1, .int .i64 n, .string ⟨#[]⟩, .slice none 0 0, .slice none 0 0] 5 rowVal rfl rfl (valC_one _ _ _ _ _ _ _ _ _) lR ?_ ?_ ?_); rfl; rfl)
  exact bodyPost_ret (results_row Tryd.results24 rowVal rfl (lR.row _) rfl) rfl ⟨rfl, below_rowSet hB (Nat.le_refl _) _⟩
theorem text_any (s : ByteArray) (W : World) :
    Calls Tryd.prog 23 #[.string s] W fun e w' => e = .returned (.agg #[.int .i64 2, .int .i64 0, .string s, .slice none 0 0, .slice none 0 0]) ∧ Below W.heap.size W w' := by
  have lR : Lies (W.alloc (.cells valZ 25)) W.heap.size 25 valZ := Lies.new W _ _
  have hB := (Below.refl W.heap.size W).alloc (Nat.le_refl _) (.cells valZ 25)
  go_enter Tryd.func23, Tryd.ntmps23
  go_wp2_with ((with_reducible refine wpL_store W.heap.size 25 valZ #[.int .i64 2, .int .i64 0, .string s, .slice none 0 0, .slice none 0 0] 5 rowVal rfl rfl (valC_one _ _ _ _ _ _ _ _ _) lR ?_ ?_ ?_); rfl; rfl)
  exact bodyPost_ret (results_row Tryd.results23 rowVal rfl (lR.row _) rfl) rfl ⟨rfl, below_rowSet hB (Nat.le_refl _) _⟩
theorem infoV : (Tryd.prog.info? 25).map (fun i => (i.zero, i.size, i.bytes)) = some (some (.agg valZ), 5, 80) := by kernel_rfl
theorem infoP : (Tryd.prog.info? 39).map (fun i => (i.zero, i.size, i.bytes)) = some (some (.agg #[.string ⟨#[]⟩, .int .i64 0, .int .i64 0, .string ⟨#[]⟩, .slice none 0 0, .slice none 0 0]), 6, 96) := by kernel_rfl
theorem infoS : (Tryd.prog.info? 9).map (fun i => (i.zero, i.size, i.bytes)) = some (some (.string ⟨#[]⟩), 1, 16) := by kernel_rfl
set_option maxHeartbeats 800000 in
theorem cloneV_any (v : Value) (css : List (List Value)) (W : World) (h : RowL W 5 v css) (h1 : ∀ u ∈ css.flatten, u.oneCell' = true) (hn : css.length ≤ 1000) :
    Calls Tryd.prog 39 #[v] W fun e w' => ∃ v', e = .returned v' ∧ OwnL w' W.heap.size 25 5 v' css ∧ Below W.heap.size W w' := by
  obtain ⟨i0, hi, hz0, hz1, hz2⟩ := info_parts infoV
  have hm : css.length ≤ maxLen := by unfold maxLen; omega
  have HR := Lib.hid (h.below ((Below.refl W.heap.size W).alloc (Nat.le_refl _) (.cells #[] 25)))
  have HO := Lib.hid (OwnL.made W W.heap.size 25 5 (Nat.le_refl _))
  have hb := (Below.refl W.heap.size W).alloc (Nat.le_refl _) (.cells #[] 25)
  obtain ⟨h0, a, c, rfl, hc, hmc, hna, hl⟩ := h
  have hsl := Lib.run_eql_slice_nil (P := Tryd.prog) (w := W) 22 25 a css.length c 0 0 Tryd.underlying22
  clear hl h0
  cases a with
  | none =>
    obtain rfl := hna rfl
    obtain rfl : css = [] := List.eq_nil_of_length_eq_zero (by omega)
    clear hsl
    have hsl := Lib.run_eql_slice_nil (P := Tryd.prog) (w := W) 22 25 none 0 0 0 0 Tryd.underlying22
    show Calls _ _ #[.slice none 0 0] _ _
    go_enter Tryd.func39, Tryd.ntmps39
    go_wp2
    go_ret
    exact ⟨_, rfl, OwnL.nil _ _ _ _, Below.refl _ _⟩
  | some ad =>
    go_enter Tryd.func39, Tryd.ntmps39
    go_wp2_with ((with_reducible refine wpL_appendL W.heap.size 25 i0 (.agg valZ) 5 80 Tryd.underlying22 hi hz0 hz1 hz2 rfl (by decide) _ [] HO.out _ css HR.out h1 (by simpa using hm) (by simp; omega) hb.size ?_ ?_ ?_); rfl; rfl; intro v' w' ho hg)
    go_ret
    exact ⟨_, rfl, by simpa using ho, hb.grown hg (by simp) (fun g hgb => (HO.out.lt g hgb))⟩
set_option maxHeartbeats 800000 in
theorem cloneP_any (v : Value) (css : List (List Value)) (W : World) (h : RowL W 6 v css) (h1 : ∀ u ∈ css.flatten, u.oneCell' = true) (hn : css.length ≤ 1000) :
    Calls Tryd.prog 34 #[v] W fun e w' => ∃ v', e = .returned v' ∧ OwnL w' W.heap.size 39 6 v' css ∧ Below W.heap.size W w' := by
  obtain ⟨i0, hi, hz0, hz1, hz2⟩ := info_parts infoP
  have hm : css.length ≤ maxLen := by unfold maxLen; omega
  have HR := Lib.hid (h.below ((Below.refl W.heap.size W).alloc (Nat.le_refl _) (.cells #[] 39)))
  have HO := Lib.hid (OwnL.made W W.heap.size 39 6 (Nat.le_refl _))
  have hb := (Below.refl W.heap.size W).alloc (Nat.le_refl _) (.cells #[] 39)
  obtain ⟨h0, a, c, rfl, hc, hmc, hna, hl⟩ := h
  have hsl := Lib.run_eql_slice_nil (P := Tryd.prog) (w := W) 34 39 a css.length c 0 0 Tryd.underlying34
  clear hl h0
  cases a with
  | none =>
    obtain rfl := hna rfl
    obtain rfl : css = [] := List.eq_nil_of_length_eq_zero (by omega)
    clear hsl
    have hsl := Lib.run_eql_slice_nil (P := Tryd.prog) (w := W) 34 39 none 0 0 0 0 Tryd.underlying34
    show Calls _ _ #[.slice none 0 0] _ _
    go_enter Tryd.func34, Tryd.ntmps34
    go_wp2
    go_ret
    exact ⟨_, rfl, OwnL.nil _ _ _ _, Below.refl _ _⟩
  | some ad =>
    go_enter Tryd.func34, Tryd.ntmps34
    go_wp2_with ((with_reducible refine wpL_appendL W.heap.size 39 i0 _ 6 96 Tryd.underlying34 hi hz0 hz1 hz2 rfl (by decide) _ [] HO.out _ css HR.out h1 (by simpa using hm) (by simp; omega) hb.size ?_ ?_ ?_); rfl; rfl; intro v' w' ho hg)
    go_ret
    exact ⟨_, rfl, by simpa using ho, hb.grown hg (by simp) (fun g hgb => (HO.out.lt g hgb))⟩
theorem OwnL.rowFar {w : World} {B g : Nat} {e : TypeId} {k : Nat} {v : Value} {css : List (List Value)} (h : OwnL w B e k v css) (hg : g < B) (cs : Array Value) : OwnL (w.setRow g cs) B e k v css := by
  refine ⟨h.1, h.2.1, ?_⟩
  rcases h.2.2 with hv | ⟨b, cap, cur, hv, hB, hh, hr⟩
  · exact .inl hv
  · exact .inr ⟨b, cap, cur, hv, hB, (setRow_other _ _ _ _ (by omega)).trans hh, hr⟩
theorem OwnL.weak {w : World} {B B' : Nat} {e : TypeId} {k : Nat} {v : Value} {css : List (List Value)} (h : OwnL w B e k v css) (hB : B' ≤ B) : OwnL w B' e k v css := by
  refine ⟨h.1, h.2.1, ?_⟩
  rcases h.2.2 with hv | ⟨b, cap, cur, hv, h1, hr⟩
  · exact .inl hv
  · exact .inr ⟨b, cap, cur, hv, by omega, hr⟩
/-- five cells, put together -/
theorem isV_make {w : World} {d : Nat} {k n : Int} {s : List UInt8} {vi vk : Value} {l : List VT} {ks : List (List UInt8)} {css : List (List Value)} (hv : RowL w 5 vi css) (hl : css.length = l.length)
    (hx : ∀ (i : Nat) (cs : List Value), css[i]? = some cs → ∃ x, l[i]? = some x ∧ IsV w d cs x) (hk : Strs w vk ks) (hfit : VFit (.mk k n s l ks)) : IsV w (d + 1) [.int .i64 k, .int .i64 n, str s, vi, vk] (.mk k n s l ks) := by
  obtain ⟨h0, a, c, rfl, hc, hm, hn, hr⟩ := hv
  refine ⟨_, _, rfl, hfit, hk, a, c, ?_, by show l.length ≤ c; omega, hm, hn, fun hpos => ?_⟩
  · show _ = Value.slice a l.length c
    rw [hl]
  · have hpos : 0 < l.length := hpos
    obtain ⟨b, off, ha, hx2⟩ := hr (by omega)
    refine ⟨b, off, ha, fun i hi => ?_⟩
    have hi : i < l.length := hi
    have hi2 : i < css.length := by omega
    obtain ⟨x, h1, h2⟩ := hx i css[i] (List.getElem?_eq_getElem hi2)
    exact ⟨css[i], h0 _ (List.getElem_mem hi2), hx2 i _ (List.getElem?_eq_getElem hi2), x, h1, h2⟩
theorem IsV.keyRow {w : World} {d : Nat} {k n : Value} {s vi vk : Value} {t : VT} (h : IsV w d [k, n, s, vi, vk] t) : Strs w vk t.keys := by
  cases d with
  | zero => exact h.elim
  | succ d =>
    obtain ⟨vi', vk', e, _, hk, _⟩ := h
    simp only [List.cons.injEq, and_true] at e
    rw [e.2.2.2.2]; exact hk
theorem IsV.fit {w : World} {d : Nat} {cs : List Value} {t : VT} (h : IsV w d cs t) : VFit t := by
  cases d with
  | zero => exact h.elim
  | succ d => exact h.choose_spec.choose_spec.2.1
set_option maxHeartbeats 800000 in
theorem list_any (v : Value) (css : List (List Value)) (W : World) (h : RowL W 5 v css) (h1 : ∀ u ∈ css.flatten, u.oneCell' = true) (hn : css.length ≤ 1000) :
    Calls Tryd.prog 25 #[v] W fun e w' => ∃ v', e = .returned (.agg #[.int .i64 3, .int .i64 0, .string ⟨#[]⟩, v', .slice none 0 0]) ∧ OwnL w' W.heap.size 25 5 v' css ∧ Below W.heap.size W w' := by
  have hB := (Below.refl W.heap.size W).alloc (Nat.le_refl _) (.cells valZ 25)
  have lR : Lies (W.alloc (.cells valZ 25)) W.heap.size 25 valZ := Lies.new W _ _
  have HC := Lib.hid (cloneV_any v css (W.alloc (.cells valZ 25)) (h.below hB) h1 hn)
  have hsz : (W.alloc (.cells valZ 25)).heap.size = W.heap.size + 1 := by simp
  clear h h1
  go_enter Tryd.func25, Tryd.ntmps25
  go_wp2_with (first | (go_at_call 39; (with_reducible refine HC.out.mono ?_); rintro e w1 ⟨v', rfl, ho, hb1⟩; replace lR := lR.on hb1; replace hB := below_on hB hb1; rw [hsz] at ho; have hf := ho.form; obtain ⟨va, vc, rfl, _, _, _⟩ := hf) | ((with_reducible refine wpL_store W.heap.size 25 valZ #[.int .i64 3, .int .i64 0, .string ⟨#[]⟩, .slice va css.length vc, .slice none 0 0] 5 rowVal rfl rfl (valC_one _ _ _ _ _ _ _ _ _) lR ?_ ?_ ?_); rfl; rfl))
  exact bodyPost_ret (results_row Tryd.results25 rowVal rfl (lR.row _) rfl) rfl ⟨_, rfl, (ho.rowFar (Nat.lt_succ_self _) _).weak (Nat.le_succ _), below_rowSet hB (Nat.le_refl _) _⟩
/-- the value of a key, if there is one -/
def getV (t : VT) (key : List UInt8) : Option VT := if t.kind = 4 ∧ t.keys.length = t.items.length ∧ 0 ≤ firstAt t.keys key then t.items[(firstAt t.keys key).toNat]? else none
theorem firstAt_lt : ∀ (ks : List (List UInt8)) (key : List UInt8), -1 ≤ firstAt ks key ∧ firstAt ks key < ks.length := by
  intro ks
  induction ks with
  | nil => intro key; rw [firstAt]; decide
  | cons k r ih =>
    intro key
    have := ih key
    rw [firstAt, List.length_cons]
    split
    · omega
    · split <;> omega
set_option maxHeartbeats 1600000 in
theorem get_none (d : Nat) (cs : List Value) (t : VT) (key : List UInt8) (W : World) (h : IsV W d cs t) (hg : getV t key = none) :
    Calls Tryd.prog 19 #[.agg cs.toArray, .string ⟨key.toArray⟩] W fun e w' => e = .returned (.tuple #[.agg valZ, .bool false]) ∧ Below W.heap.size W w' := by
  obtain ⟨ai, ci, ak, ck, rfl⟩ := h.form
  have hks := h.keyRow
  have HX := Lib.hid (fun (w1 : World) (hb : Below W.heap.size W w1) => strIdx_any _ t.keys key w1 (hks.below hb))
  have hbW : Below W.heap.size W ((W.alloc (.cells #[.int .i64 t.kind, .int .i64 t.num, .string ⟨t.txt.toArray⟩, .slice ai t.items.length ci, .slice ak t.keys.length ck] 25)).alloc (.cells valZ 25)) := ((Below.refl W.heap.size W).alloc (Nat.le_refl _) _).alloc (by simp) _
  have lA : Lies ((W.alloc (.cells #[.int .i64 t.kind, .int .i64 t.num, .string ⟨t.txt.toArray⟩, .slice ai t.items.length ci, .slice ak t.keys.length ck] 25)).alloc (.cells valZ 25)) W.heap.size 25 #[.int .i64 t.kind, .int .i64 t.num, .string ⟨t.txt.toArray⟩, .slice ai t.items.length ci, .slice ak t.keys.length ck] := (Lies.new W _ _).alloc _
  have lR : Lies ((W.alloc (.cells #[.int .i64 t.kind, .int .i64 t.num, .string ⟨t.txt.toArray⟩, .slice ai t.items.length ci, .slice ak t.keys.length ck] 25)).alloc (.cells valZ 25)) (W.heap.size + 1) 25 valZ := by
    have := Lies.new (W.alloc (.cells #[.int .i64 t.kind, .int .i64 t.num, .string ⟨t.txt.toArray⟩, .slice ai t.items.length ci, .slice ak t.keys.length ck] 25)) 25 valZ
    simpa using this
  have q0 := lA.cell 0; have q1 := lA.cell 1; have q2 := lA.cell 2; have q3 := lA.cell 3; have q4 := lA.cell 4; simp only [List.getElem?_toArray, List.getElem?_cons_succ, List.getElem?_cons_zero] at q0 q1 q2 q3 q4
  have hlt := firstAt_lt t.keys key
  by_cases h4 : t.kind = 4
  case neg =>
    have h5 : (t.kind != 4) = true := by simpa using h4
    clear h hks hg
    generalize firstAt t.keys key = j at *
    go_enter Tryd.func19, Tryd.ntmps19
    go_wp2_with (first | (go_at_call 33; (with_reducible refine (HX.out _ hbW).mono ?_); rintro e w1 ⟨rfl, hb1⟩; replace hbW := below_on hbW hb1; replace lA := lA.on hb1; replace lR := lR.on hb1; have q0 := lA.cell 0; have q1 := lA.cell 1; have q2 := lA.cell 2; have q3 := lA.cell 3; have q4 := lA.cell 4; simp only [List.getElem?_toArray, List.getElem?_cons_succ, List.getElem?_cons_zero] at q0 q1 q2 q3 q4) | ((with_reducible refine wpL_store (W.heap.size + 1) 25 valZ valZ 5 rowVal rfl rfl (valC_one _ _ _ _ _ _ _ _ _) lR ?_ ?_ ?_); rfl; rfl))
    exact bodyPost_ret (results_row_tmp Tryd.results19 rowVal rfl (lR.row _) rfl rfl) rfl ⟨rfl, below_rowSet hbW (Nat.le_succ _) _⟩
  have h5 : (t.kind != 4) = false := by simp [h4]
  by_cases hl : t.keys.length = t.items.length
  case neg =>
    have h6 : ((t.keys.length : Int) != (t.items.length : Int)) = true := by simp; omega
    clear h hks hg h4
    generalize firstAt t.keys key = j at *
    go_enter Tryd.func19, Tryd.ntmps19
    go_wp2_with (first | (go_at_call 33; (with_reducible refine (HX.out _ hbW).mono ?_); rintro e w1 ⟨rfl, hb1⟩; replace hbW := below_on hbW hb1; replace lA := lA.on hb1; replace lR := lR.on hb1; have q0 := lA.cell 0; have q1 := lA.cell 1; have q2 := lA.cell 2; have q3 := lA.cell 3; have q4 := lA.cell 4; simp only [List.getElem?_toArray, List.getElem?_cons_succ, List.getElem?_cons_zero] at q0 q1 q2 q3 q4) | ((with_reducible refine wpL_store (W.heap.size + 1) 25 valZ valZ 5 rowVal rfl rfl (valC_one _ _ _ _ _ _ _ _ _) lR ?_ ?_ ?_); rfl; rfl))
    exact bodyPost_ret (results_row_tmp Tryd.results19 rowVal rfl (lR.row _) rfl rfl) rfl ⟨rfl, below_rowSet hbW (Nat.le_succ _) _⟩
  have h6 : ((t.keys.length : Int) != (t.items.length : Int)) = false := by rw [hl]; exact bne_self_eq_false _
  have h7 : firstAt t.keys key < 0 := by
    by_cases h8 : firstAt t.keys key < 0
    · exact h8
    · unfold getV at hg
      rw [if_pos ⟨h4, hl, by omega⟩, List.getElem?_eq_none_iff] at hg
      omega
  clear h hks hg h4 hl
  generalize firstAt t.keys key = j at *
  go_enter Tryd.func19, Tryd.ntmps19
  go_wp2_with (first | (go_at_call 33; (with_reducible refine (HX.out _ hbW).mono ?_); rintro e w1 ⟨rfl, hb1⟩; replace hbW := below_on hbW hb1; replace lA := lA.on hb1; replace lR := lR.on hb1; have q0 := lA.cell 0; have q1 := lA.cell 1; have q2 := lA.cell 2; have q3 := lA.cell 3; have q4 := lA.cell 4; simp only [List.getElem?_toArray, List.getElem?_cons_succ, List.getElem?_cons_zero] at q0 q1 q2 q3 q4) | ((with_reducible refine wpL_store (W.heap.size + 1) 25 valZ valZ 5 rowVal rfl rfl (valC_one _ _ _ _ _ _ _ _ _) lR ?_ ?_ ?_); rfl; rfl))
  exact bodyPost_ret (results_row_tmp Tryd.results19 rowVal rfl (lR.row _) rfl rfl) rfl ⟨rfl, below_rowSet hbW (Nat.le_succ _) _⟩
set_option maxHeartbeats 1600000 in
theorem get_some (d : Nat) (cs : List Value) (t x : VT) (key : List UInt8) (W : World) (h : IsV W (d + 1) cs t) (hg : getV t key = some x) :
    Calls Tryd.prog 19 #[.agg cs.toArray, .string ⟨key.toArray⟩] W fun e w' => ∃ cs', e = .returned (.tuple #[.agg cs'.toArray, .bool true]) ∧ IsV w' d cs' x ∧ Below W.heap.size W w' := by
  unfold getV at hg
  split at hg
  case isFalse => cases hg
  rename_i hh
  obtain ⟨h4, hl, hj0⟩ := hh
  have hv0 := h
  obtain ⟨vi, vk, e0, _, _, av, cv, rfl, hcv, hmv, _, hx⟩ := hv0
  obtain ⟨ai, ci, ak, ck, rfl⟩ := h.form
  have hks := h.keyRow
  have HX := Lib.hid (fun (w1 : World) (hb : Below W.heap.size W w1) => strIdx_any _ t.keys key w1 (hks.below hb))
  have hbW : Below W.heap.size W ((W.alloc (.cells #[.int .i64 t.kind, .int .i64 t.num, .string ⟨t.txt.toArray⟩, .slice ai t.items.length ci, .slice ak t.keys.length ck] 25)).alloc (.cells valZ 25)) := ((Below.refl W.heap.size W).alloc (Nat.le_refl _) _).alloc (by simp) _
  have lA : Lies ((W.alloc (.cells #[.int .i64 t.kind, .int .i64 t.num, .string ⟨t.txt.toArray⟩, .slice ai t.items.length ci, .slice ak t.keys.length ck] 25)).alloc (.cells valZ 25)) W.heap.size 25 #[.int .i64 t.kind, .int .i64 t.num, .string ⟨t.txt.toArray⟩, .slice ai t.items.length ci, .slice ak t.keys.length ck] := (Lies.new W _ _).alloc _
  have lR : Lies ((W.alloc (.cells #[.int .i64 t.kind, .int .i64 t.num, .string ⟨t.txt.toArray⟩, .slice ai t.items.length ci, .slice ak t.keys.length ck] 25)).alloc (.cells valZ 25)) (W.heap.size + 1) 25 valZ := by
    have := Lies.new (W.alloc (.cells #[.int .i64 t.kind, .int .i64 t.num, .string ⟨t.txt.toArray⟩, .slice ai t.items.length ci, .slice ak t.keys.length ck] 25)) 25 valZ
    simpa using this
  have q0 := lA.cell 0; have q1 := lA.cell 1; have q2 := lA.cell 2; have q3 := lA.cell 3; have q4 := lA.cell 4; simp only [List.getElem?_toArray, List.getElem?_cons_succ, List.getElem?_cons_zero] at q0 q1 q2 q3 q4
  obtain ⟨rfl, rfl⟩ : ai = av ∧ ci = cv := by
    simp only [List.cons.injEq, Value.slice.injEq] at e0
    exact ⟨e0.2.2.2.1.1, e0.2.2.2.1.2.2⟩
  have hlt := firstAt_lt t.keys key
  obtain ⟨j, hj⟩ : ∃ j : Nat, firstAt t.keys key = j := ⟨(firstAt t.keys key).toNat, by omega⟩
  rw [hj] at hg
  rw [hj] at HX
  have hjl : j < t.items.length := by omega
  obtain ⟨b, off, rfl, hx2⟩ := hx (by omega)
  obtain ⟨cs2, hlen, hr, y, hy, hyv⟩ := hx2 j hjl
  obtain rfl : y = x := by
    rw [Int.toNat_natCast, hy] at hg
    exact Option.some.inj hg
  have HV := Lib.hid hyv
  obtain ⟨ai2, ci2, ak2, ck2, rfl⟩ := hyv.form
  have HR := Lib.hid (fun (w1 : World) (hb : Below W.heap.size W w1) => range5 (range_below hb hr))
  have h5 : (t.kind != 4) = false := by simp [h4]
  have h6 : ((t.keys.length : Int) != (t.items.length : Int)) = false := by rw [hl]; exact bne_self_eq_false _
  have h7 : ¬ (j : Int) < 0 := by omega
  have h8 : (j : Int) < (t.items.length : Int) := by omega
  clear h hks hg h4 hl hx hx2 hr hlen hy hj hj0 hyv e0 hlt hjl
  go_enter Tryd.func19, Tryd.ntmps19
  go_wp2_with (first | (go_at_call 33; (with_reducible refine (HX.out _ hbW).mono ?_); rintro e w1 ⟨rfl, hb1⟩; replace hbW := below_on hbW hb1; replace lA := lA.on hb1; replace lR := lR.on hb1; have q0 := lA.cell 0; have q1 := lA.cell 1; have q2 := lA.cell 2; have q3 := lA.cell 3; have q4 := lA.cell 4; simp only [List.getElem?_toArray, List.getElem?_cons_succ, List.getElem?_cons_zero] at q0 q1 q2 q3 q4; obtain ⟨r0, r1, r2, r3, r4⟩ := HR.out _ hbW) | ((with_reducible refine wpL_store (W.heap.size + 1) 25 valZ #[.int .i64 y.kind, .int .i64 y.num, .string ⟨y.txt.toArray⟩, .slice ai2 y.items.length ci2, .slice ak2 y.keys.length ck2] 5 rowVal rfl rfl (valC_one _ _ _ _ _ _ _ _ _) lR ?_ ?_ ?_); rfl; rfl))
  exact bodyPost_ret (results_row_tmp Tryd.results19 rowVal rfl (lR.row _) rfl rfl) rfl ⟨_, rfl, HV.out.below (below_rowSet hbW (Nat.le_succ _) _), below_rowSet hbW (Nat.le_succ _) _⟩
end Go.Proofs.YtdfdpckcemdimaaDoor.V

/- How a value, and a row of pairs, is opened as an argument. -/
namespace Go.Proofs.YtdfdpckcemdimaaDoor.V
open Go.ChangeShapes Go.WideShapes Go.ChangeAt Go.RowKit
set_option maxRecDepth 100000

/-- an argument that is a value -/
theorem val_arg {H : Type} {enc : TypeId × Value → H} {W : World} {r : Reach} {b0 : Nat} {v : Value} {d : DataW H} {p : List MemPlace}
    (hv : Value.okWide Tryd.prog W r b0 25 v) (h : DataW.Trod enc Tryd.prog W 0 (fun _ => true) true 25 v d p) :
    ∃ (cs : List Value) (t : VT) (e : Nat), v = .agg cs.toArray ∧ IsV W e cs t := by
  obtain ⟨a, rfl, _⟩ := okWide_struct Tryd.underlying25 hv
  obtain ⟨fuel, hf⟩ := h
  obtain ⟨t, e, ht⟩ := val_open fuel fuel (Nat.le_refl _) _ _ hf
  exact ⟨a.toList, t, e, rfl, ht⟩
/-- one pair: its key, its value's cells, its value -/
structure PairT where
  key : List UInt8
  cells : List Value
  val : VT
instance : Inhabited PairT := ⟨⟨[], [], vt0⟩⟩
def PairT.all (p : PairT) : List Value := str p.key :: p.cells
/-- the slice value v reads as these pairs -/
def Pairs (w : World) (d : Nat) (v : Value) (S : List PairT) : Prop := RowL w 6 v (S.map PairT.all) ∧ ∀ p ∈ S, IsV w d p.cells p.val ∧ p.key.length ≤ maxLen
theorem Pairs.below {w w' : World} {d : Nat} {v : Value} {S : List PairT} (h : Pairs w d v S) (hb : Below w.heap.size w w') : Pairs w' d v S := ⟨h.1.below hb, fun p hp => ⟨(h.2 p hp).1.below hb, (h.2 p hp).2⟩⟩
theorem IsV.five {w : World} {d : Nat} {cs : List Value} {t : VT} (h : IsV w d cs t) : cs.length = 5 := by
  obtain ⟨_, _, _, _, rfl⟩ := h.form
  rfl
theorem IsV.ones {w : World} {d : Nat} {cs : List Value} {t : VT} (h : IsV w d cs t) : ∀ u ∈ cs, u.oneCell' = true := by
  obtain ⟨_, _, _, _, rfl⟩ := h.form
  intro u hu
  simp only [List.mem_cons, List.mem_nil_iff, or_false] at hu
  rcases hu with rfl | rfl | rfl | rfl | rfl <;> rfl
theorem cellsP : Tryd.prog.cellsOf 39 = 6 := by kernel_rfl
theorem list2 {α : Type} {l : List α} (h : l.length = 2) : ∃ c0 c1, l = [c0, c1] := by
  match l, h with
  | [c0, c1], _ => exact ⟨c0, c1, rfl⟩
theorem list6 {α : Type} {l : List α} (h : l.length = 6) : ∃ c0 c1 c2 c3 c4 c5, l = [c0, c1, c2, c3, c4, c5] := by
  match l, h with
  | [c0, c1, c2, c3, c4, c5], _ => exact ⟨c0, c1, c2, c3, c4, c5, rfl⟩
theorem pair_open {H : Type} {enc : TypeId × Value → H} {W : World} {fuel : Nat} {cs : List Value} {x : DataW H × List MemPlace}
    (h : DataW.trod enc Tryd.prog W 0 (fun _ => true) true fuel 39 cs = some x) : ∃ (p : PairT) (d : Nat), cs = p.all ∧ IsV W d p.cells p.val ∧ p.key.length ≤ maxLen := by
  obtain ⟨xs, n, rfl, _, hlen, hxl, hfl⟩ := DataW.trod_struct Tryd.underlying39 h
  obtain ⟨c0, c1, c2, c3, c4, c5, rfl⟩ := list6 (hlen.trans cellsP)
  obtain ⟨y0, y1, rfl⟩ := list2 (l := xs) hxl
  have h0 := hfl 0 _ rfl
  have h1 := hfl 1 _ rfl
  simp [cellsT, cellsV] at h0 h1
  clear hfl
  obtain ⟨s, es, _, hs⟩ := DataW.trod_string Tryd.underlying9 h0
  injection es with es
  subst es
  obtain ⟨t, d, ht⟩ := val_open n n (Nat.le_refl _) _ _ h1
  exact ⟨⟨s.data.toList, [c1, c2, c3, c4, c5], t⟩, d, rfl, ht, by simpa using hs⟩
/-- an argument that is a row of pairs -/
theorem pairs_arg {H : Type} {enc : TypeId × Value → H} {W : World} {r : Reach} {b0 : Nat} {v : Value} {d : DataW H} {p : List MemPlace}
    (hv : Value.okWide Tryd.prog W r b0 34 v) (h : DataW.Trod enc Tryd.prog W 0 (fun _ => true) true 34 v d p) : ∃ (S : List PairT) (e : Nat), Pairs W e v S := by
  obtain ⟨a0, l0, c0, rfl⟩ := okWide_slice Tryd.underlying34 hv
  obtain ⟨fuel, hf⟩ := h
  rcases DataW.trod_slice Tryd.underlying34 hf with ⟨hcs, _⟩ | ⟨a, len, cap, elems, rest, n', rfl, hcs, _, _, hl, hm, hel, hx, _⟩
  · simp [Value.cells] at hcs
    obtain ⟨rfl, rfl, rfl⟩ := hcs
    exact ⟨[], 0, RowL.nil _ _, fun p hp => by cases hp⟩
  · simp [Value.cells] at hcs
    obtain ⟨rfl, rfl, rfl⟩ := hcs
    rw [cellsP] at hx
    have hx' : ∀ i, i < l0 → ∃ p : PairT, W.cells? 0 (a.add (i * 6)) 6 = some p.all ∧ ∃ d, IsV W d p.cells p.val ∧ p.key.length ≤ maxLen := by
      intro i hi
      have := hx i hi
      rw [List.getElem?_eq_getElem (by omega)] at this
      obtain ⟨cs', g1, g2⟩ := Option.bind_eq_some_iff.1 this
      obtain ⟨p, d, rfl, h1, h2⟩ := pair_open g2
      exact ⟨p, g1, d, h1, h2⟩
    obtain ⟨f, hf'⟩ := Go.Deep.choose_lt hx'
    obtain ⟨d, hd⟩ := Go.Deep.fuel_lt (q := fun i d => IsV W d (f i).cells (f i).val ∧ (f i).key.length ≤ maxLen) (fun i a b hab h => ⟨h.1.mono hab, h.2⟩) (fun i hi => (hf' i hi).2)
    have hll : (((List.range l0).map f).map PairT.all).length = l0 := by simp
    refine ⟨(List.range l0).map f, d, ⟨fun cs hcs => ?_, some a, c0, by rw [hll], by rw [hll]; exact hl, hm, (fun e => by cases e), fun hpos => ?_⟩, fun p hp => ?_⟩
    · obtain ⟨p, hp, rfl⟩ := List.mem_map.1 hcs
      obtain ⟨i, hi, rfl⟩ := List.mem_map.1 hp
      have := (hd i (List.mem_range.1 hi)).1.five
      show (_ :: _).length = 6
      rw [List.length_cons, this]
    · rw [hll] at hpos
      obtain ⟨_, g2, g3⟩ := World.cells?_some (hf' 0 hpos).1
      have hspot : a.spot = none := by
        have g4 := g3 0 (by decide)
        rw [List.getElem?_eq_getElem (by omega)] at g4
        have := World.cell?_spot g4
        simpa [Addr.add] using this
      obtain ⟨b, off, spot⟩ := a
      simp only at hspot
      subst hspot
      refine ⟨b, off, rfl, fun i cs hi j u hu => ?_⟩
      have hlt : i < l0 := by have := (List.getElem?_eq_some_iff.1 hi).1; omega
      have hi2 : cs = (f i).all := by
        simp only [List.getElem?_map, List.getElem?_range hlt, Option.map_some, Option.some.injEq] at hi
        exact hi.symm
      subst hi2
      obtain ⟨_, g2, g3⟩ := World.cells?_some (hf' i hlt).1
      have := g3 j (by have := (List.getElem?_eq_some_iff.1 hu).1; omega)
      rw [Addr.add_mid, Addr.add_mid] at this
      exact this.trans hu
    · obtain ⟨i, hi, rfl⟩ := List.mem_map.1 hp
      exact hd i (List.mem_range.1 hi)
end Go.Proofs.YtdfdpckcemdimaaDoor.V

/- The library's SortFunc, over pairs and the developers' comparison. -/
namespace Go.Proofs.YtdfdpckcemdimaaDoor.V
open Go.RowKit Go.Sort Go.Joins
set_option maxRecDepth 100000

def goodC (cs : List Value) : Bool := cs.length == 5 && cs.all (·.oneCell')
/-- a pair's six cells, whatever pair -/
def encP (p : PairT) : List Value := str p.key :: (if goodC p.cells then p.cells else [.int .i64 0, .int .i64 0, .string ⟨#[]⟩, .slice none 0 0, .slice none 0 0])
theorem encP_good {p : PairT} (h : goodC p.cells = true) : encP p = p.all := by unfold encP PairT.all; rw [if_pos h]
theorem goodC_of {w : World} {d : Nat} {cs : List Value} {t : VT} (h : IsV w d cs t) : goodC cs = true := by
  unfold goodC
  rw [h.five, Bool.and_eq_true, List.all_eq_true]
  exact ⟨rfl, h.ones⟩
theorem encP_form (p : PairT) : ∃ c1 c2 c3 c4 c5, encP p = [str p.key, c1, c2, c3, c4, c5] ∧ ∀ u ∈ encP p, u.oneCell' = true := by
  unfold encP
  cases h : goodC p.cells with
  | false => exact ⟨_, _, _, _, _, rfl, by intro u hu; simp at hu; rcases hu with rfl | rfl | rfl | rfl | rfl <;> rfl⟩
  | true =>
    unfold goodC at h
    rw [Bool.and_eq_true, List.all_eq_true, beq_iff_eq] at h
    obtain ⟨c1, c2, c3, c4, c5, e⟩ := list5 h.1
    rw [if_pos rfl, e]
    refine ⟨c1, c2, c3, c4, c5, rfl, fun u hu => ?_⟩
    rcases List.mem_cons.1 hu with rfl | hu
    · rfl
    · exact h.2 u (by rw [e]; exact hu)
theorem encP_len (p : PairT) : (encP p).length = 6 := by obtain ⟨_, _, _, _, _, e, _⟩ := encP_form p; rw [e]; rfl
def cmpP (p q : PairT) : Int := Lib.compareBytes p.key q.key
theorem ltP (p q : PairT) : ltOf cmpP p q = lessL p.key q.key := by
  unfold ltOf cmpP
  rw [compare_is]
  cases h : lessL p.key q.key with
  | true => rfl
  | false =>
    rw [if_neg (by decide)]
    split <;> rfl
theorem swoP : SWO (ltOf cmpP) where
  irrefl p := by rw [ltP]; exact lessL_same _
  trans p q r h1 h2 := by rw [ltP] at *; exact less_trans _ _ _ h1 h2
  ntrans p q r h1 h2 := by
    rw [ltP] at *
    cases h : lessL p.key r.key with
    | false => rfl
    | true =>
      rcases less_three p.key q.key with ⟨h3, _, _⟩ | ⟨h3, _, _⟩ | ⟨_, _, h3⟩
      · rw [h3] at h1; cases h1
      · rw [h3, h2] at h; cases h
      · have := less_trans _ _ _ h3 h
        rw [this] at h2; cases h2
set_option maxHeartbeats 1000000 in
theorem closP (p q : PairT) (W : World) : Calls Tryd.prog 36 (#[.agg (encP p).toArray, .agg (encP q).toArray] ++ #[]) W fun e w' => e = .returned (.int .i64 (cmpP p q)) ∧ ∃ n os', w' = grow (W.drewN n) os' := by
  have hcon := fun W' => Tryd.strings_Compare ⟨p.key.toArray⟩ ⟨q.key.toArray⟩ W'
  obtain ⟨c1, c2, c3, c4, c5, e1, _⟩ := encP_form p
  obtain ⟨b1, b2, b3, b4, b5, e2, _⟩ := encP_form q
  have hc : Lib.compareBytes (⟨p.key.toArray⟩ : ByteArray).data.toList (⟨q.key.toArray⟩ : ByteArray).data.toList = cmpP p q := rfl
  rw [hc] at hcon
  rw [e1, e2]
  unfold str
  clear e1 e2 hc
  generalize cmpP p q = r at hcon ⊢
  show Calls _ _ #[.agg #[.string ⟨p.key.toArray⟩, c1, c2, c3, c4, c5], .agg #[.string ⟨q.key.toArray⟩, b1, b2, b3, b4, b5]] _ _
  go_enter Tryd.func36, Tryd.ntmps36
  go_wp2_with (go_at_call 37; refine (hcon _).mono ?_; rintro e w' ⟨rfl, rfl⟩)
  go_ret
  exact ⟨rfl, 0, _, by rw [alloc_eq_grow, alloc_eq_grow, grow_grow]; rfl⟩
theorem cmpsP (blk off size : Nat) (w : World) : CmpLays Tryd.prog 36 #[] encP 6 cmpP blk off size w := fun _ _ _ _ p q => closP p q _

/-! ### rows of pairs -/
theorem below_map {B : Nat} {a w : World} (h : Below B a w) {blk : Nat} (hb : B ≤ blk) (f : Array Value → Array Value) : Below B a (mapBlock w blk f) :=
  h.trans ⟨rfl, rfl, rfl, by simp [mapBlock], fun k hk => by simp [mapBlock, Array.getElem?_modify, show blk ≠ k by omega]⟩
theorem below_ahead {B : Nat} {a w : World} (h : Below B a w) (n : Nat) : Below B a (Sort.ahead w n) := ⟨h.os, h.tape, h.output, h.size, h.block⟩
theorem below_growB {B : Nat} {a w : World} (h : Below B a w) (hB : B ≤ w.heap.size) (os : Array Obj) : Below B a (grow w os) :=
  h.trans ⟨rfl, rfl, rfl, by simp [grow], fun k hk => by simp [grow, Array.getElem?_append, show k < w.heap.size by omega]⟩
theorem holds_rowP {w : World} {B g cap : Nat} {S : List PairT} (ho : OwnL w B 39 6 (.slice (some ⟨g, 0, none⟩) S.length cap) (S.map encP)) : HoldsK encP 6 w g 0 S.toArray := by
  intro j hj
  rw [size_flatK] at hj
  have hj : j < S.length * 6 := hj
  have hi : j / 6 < S.length := by omega
  have hsi : S[j / 6]? = some S[j / 6] := List.getElem?_eq_getElem hi
  have hr := ho.read
  obtain ⟨b, off, e, hra, _⟩ := hr.at (i := j / 6) (cs := encP S[j / 6]) (by rw [List.getElem?_map, hsi]; rfl)
  simp only [Option.some.injEq, Addr.mk.injEq, and_true] at e
  obtain ⟨rfl, rfl⟩ := e
  have hlen := encP_len S[j / 6]
  have hc := hra (j % 6) (encP S[j / 6])[j % 6] (List.getElem?_eq_getElem _)
  rw [get_flatK _ _ _ _ hj]
  refine ⟨?_, ?_⟩
  · rw [show 0 + j = 0 + j / 6 * 6 + j % 6 by omega, hc]
    have e1 : S.toArray[j / 6]! = S[j / 6] := by simp [hi]
    rw [e1, List.getElem!_eq_getElem?_getD, List.getElem?_eq_getElem (by omega)]
    rfl
  · rcases ho.2.2 with ⟨hv, _⟩ | ⟨g2, cap2, cur, hv, _, hh, _⟩
    · cases hv
    · injection hv with e1 e2 e3
      simp only [Option.some.injEq, Addr.mk.injEq, and_true] at e1
      rw [e1]
      exact frozen_of_row w g2 _ cur 39 hh
theorem row_holdsP {w : World} {g cap : Nat} {S : List PairT} (h : HoldsK encP 6 w g 0 S.toArray) (hc : S.length ≤ cap) (hm : cap ≤ maxLen) : RowL w 6 (.slice (some ⟨g, 0, none⟩) S.length cap) (S.map encP) := by
  refine ⟨fun cs hcs => ?_, some ⟨g, 0, none⟩, cap, by rw [List.length_map], by rw [List.length_map]; exact hc, hm, (fun e => by cases e), fun _ => ⟨g, 0, rfl, fun i cs hi j u hu => ?_⟩⟩
  · obtain ⟨p, _, rfl⟩ := List.mem_map.1 hcs
    exact encP_len p
  · rw [List.getElem?_map] at hi
    obtain ⟨p, hp, rfl⟩ := Option.map_eq_some_iff.1 hi
    have hlt := (List.getElem?_eq_some_iff.1 hp).1
    have hj := (List.getElem?_eq_some_iff.1 hu).1
    rw [encP_len] at hj
    have := (h.cell (i := i) (c := j) (by simpa using hlt) hj).1
    rw [this]
    have e1 : S.toArray[i]! = p := by
      have := (List.getElem?_eq_some_iff.1 hp).2
      simp [hlt, this]
    rw [e1, List.getElem!_eq_getElem?_getD, hu]
    rfl
/-- in the order of the keys -/
def InOrder (S : List PairT) : Prop := ∀ (i j : Nat) (p q : PairT), i < j → S[i]? = some p → S[j]? = some q → lessL q.key p.key = false
theorem isAggP : ∀ w, (isAgg 39).run Tryd.prog w = .ok true w := Tryd.isAgg39
theorem sizeP : ∀ w, (Go.sizeOf 39).run Tryd.prog w = .ok 6 w := Tryd.sizeOf39
theorem sortP_any (v : Value) (S : List PairT) (B : Nat) (W : World) (ho : OwnL W B 39 6 v (S.map encP)) (hn : S.length ≤ 1000) (hB : B ≤ W.heap.size) :
    Calls Tryd.prog 35 #[v, .func (.func 36) #[] #[]] W fun e w' => e = .returned (.tuple #[]) ∧ ∃ S' : List PairT, S'.Perm S ∧ InOrder S' ∧ RowL w' 6 v (S'.map encP) ∧ Below B W w' := by
  have hr := ho.read
  have h2 := ho.2.2
  rcases h2 with ⟨rfl, h0⟩ | ⟨g, cap, cur, rfl, hg, hh, hc, hm, _, _⟩
  · obtain rfl : S = [] := List.eq_nil_of_length_eq_zero (by simpa using h0)
    refine (AnyF.slices_SortFunc_none Tryd.sortP none 0 _ W).mono fun e w' ⟨he, hw⟩ => ?_
    subst hw
    exact ⟨he, [], List.Perm.refl _, (fun i j p q _ h => by simp at h), hr, Below.refl _ _⟩
  · rw [List.length_map] at hc ho hr ⊢
    have hlt : g < W.heap.size := (Array.getElem?_eq_some_iff.1 hh).1
    have hH := holds_rowP ho
    have eg : ∀ args w, (callFunc 36 args).run Tryd.prog w = .ok (.enter 36 args) w := enters_of Tryd.func36 (by kernel_rfl) rfl
    have hcon := AnyQ.slices_SortFunc Tryd.sortP 6 isAggP sizeP encP encP_len (fun x => (encP_form x).choose_spec.choose_spec.choose_spec.choose_spec.choose_spec.2) cmpP swoP 36 #[] g 0 cap S.toArray W eg (cmpsP g 0 S.toArray.size W) hH hlt (by simp; omega)
    have hcon2 : Calls Tryd.prog 35 #[.slice (some ⟨g, 0, none⟩) S.length cap, .func (.func 36) #[] #[]] W _ := hcon
    refine hcon2.mono fun e w' ⟨he, d', n, os, hp, hs, hw⟩ => ?_
    obtain ⟨hsz, _, hperm⟩ := hp
    have hsz : d'.size = S.length := hsz
    have e1 : (d'.extract 0 S.length).toList = d'.toList := by rw [← hsz]; simp
    have e2 : (S.toArray.extract 0 S.length).toList = S := by simp
    have hperm : (d'.extract 0 S.length).toList.Perm (S.toArray.extract 0 S.length).toList := hperm
    rw [e1, e2] at hperm
    have hlen : d'.toList.length = S.length := by rw [Array.length_toList, hsz]
    refine ⟨he, d'.toList, hperm, fun i j p q hij hi hj => ?_, ?_, ?_⟩
    · have hj2 := (List.getElem?_eq_some_iff.1 hj).1
      have := hs i j (Nat.zero_le _) hij (by show j < S.length; omega)
      rw [ltP] at this
      have a1 : d'[i]! = p := by
        have h1 := (List.getElem?_eq_some_iff.1 hi)
        rw [getElem!_pos d' i (by omega)]
        exact h1.2
      have a2 : d'[j]! = q := by
        have h1 := (List.getElem?_eq_some_iff.1 hj)
        rw [getElem!_pos d' j (by omega)]
        exact h1.2
      rwa [a1, a2] at this
    · rw [hw]
      have hK : HoldsK encP 6 (sortWorldK encP 6 W g 0 n d' os) g 0 d' := by
        unfold sortWorldK
        refine holdsK_grow encP 6 _ os g 0 d' (by simpa [putRowK, putRow, mapBlock, Sort.ahead] using hlt) ?_
        exact holdsK_putRowK encP 6 _ g 0 S.toArray d' (holdsK_ahead encP 6 W n g 0 _ hH) (by simpa using hsz)
      have := row_holdsP (S := d'.toList) (cap := cap) (by rw [Array.toArray_toList]; exact hK) (by omega) hm
      rwa [hlen] at this
    · rw [hw]
      unfold sortWorldK putRowK putRow
      exact below_growB (below_map (below_ahead (Below.refl B W) n) hg _) (by simpa [mapBlock, Sort.ahead] using hB) os
end Go.Proofs.YtdfdpckcemdimaaDoor.V

/- The developers' Map. -/
namespace Go.Proofs.YtdfdpckcemdimaaDoor.V
open Go.RowKit Go.Sort Go.Joins
set_option maxRecDepth 100000

theorem OwnL.kept2 {w w' : World} {B B' : Nat} {e e' : TypeId} {k k' : Nat} {v u : Value} {css css' : List (List Value)} (h : OwnL w B e k v css) (hu : OwnL w B' e' k' u css') (hg : w.grownBy w' u.ownBlock) (hne : e ≠ e') : OwnL w' B e k v css := by
  refine ⟨h.1, h.2.kept hg ?_⟩
  rcases h.2.2 with ⟨rfl, _⟩ | ⟨g, cap, cur, rfl, _, hh, _⟩
  · exact .inl rfl
  · refine .inr fun e1 => ?_
    rcases hu.2.2 with ⟨rfl, _⟩ | ⟨g2, cap2, cur2, rfl, _, hh2, _⟩
    · cases e1
    · simp only [Value.ownBlock, Option.some.injEq] at e1
      subst e1
      rw [hh] at hh2
      simp only [Option.some.injEq, Obj.cells.injEq] at hh2
      exact hne hh2.2.1
theorem Lies.kept {w w' : World} {g B : Nat} {t e : TypeId} {k : Nat} {cs : Array Value} {u : Value} {css : List (List Value)} (h : Lies w g t cs) (hu : OwnL w B e k u css) (hg : w.grownBy w' u.ownBlock) (hne : t ≠ e) : Lies w' g t cs := by
  refine h.only hg fun e1 => ?_
  rcases hu.2.2 with ⟨rfl, _⟩ | ⟨g2, cap2, cur2, rfl, _, hh2, _⟩
  · cases e1
  · simp only [Value.ownBlock, Option.some.injEq] at e1
    subst e1
    unfold Lies at h
    rw [h] at hh2
    simp only [Option.some.injEq, Obj.cells.injEq] at hh2
    exact hne hh2.2.1
theorem Lies.keptLt {w w' : World} {g B : Nat} {t e : TypeId} {k : Nat} {cs : Array Value} {u : Value} {css : List (List Value)} (h : Lies w g t cs) (hu : OwnL w B e k u css) (hg : w.grownBy w' u.ownBlock) (hlt : g < B) : Lies w' g t cs :=
  h.only hg fun e1 => by have := hu.lt g e1.symm; omega
theorem OwnL.form2 {w : World} {B : Nat} {e : TypeId} {k n : Nat} {v : Value} {css : List (List Value)} (h : OwnL w B e k v css) (hn : css.length = n) : ∃ a c, v = .slice a n c ∧ n ≤ c ∧ c ≤ maxLen := by
  obtain ⟨a, c, rfl, hc, hm, _⟩ := h.form
  rw [hn] at hc ⊢
  exact ⟨a, c, rfl, hc, hm⟩
theorem range6 {w : World} {b o : Nat} {c0 c1 c2 c3 c4 c5 : Value} (h : w.rangeAt b o [c0, c1, c2, c3, c4, c5]) :
    w.cell? ⟨b, o, none⟩ = some c0 ∧ w.cell? ⟨b, o + 1, none⟩ = some c1 ∧ w.cell? ⟨b, o + 2, none⟩ = some c2 ∧ w.cell? ⟨b, o + 3, none⟩ = some c3 ∧ w.cell? ⟨b, o + 4, none⟩ = some c4 ∧ w.cell? ⟨b, o + 5, none⟩ = some c5 := ⟨h 0 _ rfl, h 1 _ rfl, h 2 _ rfl, h 3 _ rfl, h 4 _ rfl, h 5 _ rfl⟩

theorem one_five (a b : Int) (s : ByteArray) (x y : Option Addr) (n m c d : Nat) : ∀ u ∈ [[(Value.int .i64 a : Value), .int .i64 b, .string s, .slice x n c, .slice y m d]].flatten, u.oneCell' = true := by
  intro u hu
  simp only [List.flatten_cons, List.flatten_nil, List.append_nil, List.mem_cons, List.not_mem_nil, or_false] at hu
  rcases hu with rfl | rfl | rfl | rfl | rfl <;> rfl
theorem setCell_size (w : World) (p : Addr) (v : Value) : (w.setCell p v).heap.size = w.heap.size := by simp
/-- values by keys -/
def mapT (S : List PairT) : VT := .mk 4 0 [] (S.map (·.val)) (S.map (·.key))
def Rising (S : List PairT) : Prop := ∀ (i : Nat) (p q : PairT), S[i]? = some p → S[i + 1]? = some q → lessL p.key q.key = true
def keyC (S : List PairT) : List (List Value) := S.map fun p => [str p.key]
def valL (S : List PairT) : List (List Value) := S.map (·.cells)
/-- Map's answer, in blocks from B on: pairs in their order, or a number -/
def Ans (B : Nat) (S : List PairT) (cs : List Value) (er : Int) (w : World) : Prop :=
  (er = 0 ∧ ∃ S' : List PairT, S'.Perm S ∧ Rising S' ∧ ∃ vi vk : Value, cs = [.int .i64 4, .int .i64 0, .string ⟨#[]⟩, vi, vk] ∧ OwnL w B 25 5 vi (valL S') ∧ OwnL w B 9 1 vk (keyC S')) ∨
  (er = 23 ∧ ¬ (S.map (·.key)).Nodup ∧ cs = [.int .i64 0, .int .i64 0, .string ⟨#[]⟩, .slice none 0 0, .slice none 0 0])
theorem Ans.on {B : Nat} {S : List PairT} {cs : List Value} {er : Int} {w w' : World} (h : Ans B S cs er w) (hb : Below w.heap.size w w') : Ans B S cs er w' := by
  rcases h with ⟨he, S', h1, h2, vi, vk, hc, hi, hk⟩ | h
  · exact .inl ⟨he, S', h1, h2, vi, vk, hc, hi.on hb, hk.on hb⟩
  · exact .inr h
theorem Ans.rowFar {B g : Nat} {S : List PairT} {cs : List Value} {er : Int} {w : World} (h : Ans B S cs er w) (hg : g < B) (old : Array Value) : Ans B S cs er (w.setRow g old) := by
  rcases h with ⟨he, S', h1, h2, vi, vk, hc, hi, hk⟩ | h
  · exact .inl ⟨he, S', h1, h2, vi, vk, hc, hi.rowFar hg old, hk.rowFar hg old⟩
  · exact .inr h
theorem Ans.form {B : Nat} {S : List PairT} {cs : List Value} {er : Int} {w : World} (h : Ans B S cs er w) : ∃ (k n : Int) (s : ByteArray) (ai : Option Addr) (ni ci : Nat) (ak : Option Addr) (nk ck : Nat), cs = [.int .i64 k, .int .i64 n, .string s, .slice ai ni ci, .slice ak nk ck] := by
  rcases h with ⟨_, S', _, _, vi, vk, rfl, hi, hk⟩ | ⟨_, _, rfl⟩
  · obtain ⟨ai, ci, rfl, _⟩ := hi.form
    obtain ⟨ak, ck, rfl, _⟩ := hk.form
    exact ⟨_, _, _, _, _, _, _, _, _, rfl⟩
  · exact ⟨_, _, _, _, _, _, _, _, _, rfl⟩
def MapPost (B : Nat) (S : List PairT) (e : Ending) (w : World) : Prop := ∃ (cs : List Value) (er : Int), e = .returned (.tuple #[.agg cs.toArray, .int .i64 er]) ∧ Ans B S cs er w
theorem strs_of_keyC {w : World} {v : Value} {S : List PairT} (h : RowL w 1 v (keyC S)) : Strs w v (S.map (·.key)) := by
  obtain ⟨h0, a, c, rfl, hc, hm, hn, hl⟩ := h
  have e : (keyC S).length = (S.map (·.key)).length := by unfold keyC; simp
  rw [e] at hc hl ⊢
  refine ⟨a, c, rfl, hc, hm, hn, fun hne => ?_⟩
  obtain ⟨b, off, ha, hx⟩ := hl (List.length_pos_iff.2 hne)
  refine ⟨b, off, ha, fun i x hi => ?_⟩
  rw [List.getElem?_map] at hi
  obtain ⟨p, hp, rfl⟩ := Option.map_eq_some_iff.1 hi
  have := hx i [str p.key] (by unfold keyC; rw [List.getElem?_map, hp]; rfl) 0 (str p.key) rfl
  rwa [Nat.mul_one] at this
theorem mapT_isV {w : World} {d : Nat} {vi vk : Value} {S : List PairT} (hi : RowL w 5 vi (valL S)) (hk : RowL w 1 vk (keyC S)) (hS : ∀ p ∈ S, IsV w d p.cells p.val ∧ p.key.length ≤ maxLen) : IsV w (d + 1) [.int .i64 4, .int .i64 0, .string ⟨#[]⟩, vi, vk] (mapT S) := by
  refine isV_make (s := []) hi (by unfold valL; simp) (fun i cs h => ?_) (strs_of_keyC hk) ⟨(show -9223372036854775808 ≤ (4 : Int) ∧ (4 : Int) ≤ 9223372036854775807 by decide), (show -9223372036854775808 ≤ (0 : Int) ∧ (0 : Int) ≤ 9223372036854775807 by decide), Nat.zero_le _, fun x hx => ?_⟩
  · unfold valL at h
    rw [List.getElem?_map] at h
    obtain ⟨p, hp, rfl⟩ := Option.map_eq_some_iff.1 h
    exact ⟨p.val, by rw [List.getElem?_map, hp]; rfl, (hS p (List.mem_of_getElem? hp)).1⟩
  · obtain ⟨p, hp, rfl⟩ := List.mem_map.1 hx
    exact (hS p hp).2
theorem twice_not {S S' : List PairT} (hp : S'.Perm S) {i : Nat} {p q : PairT} (h1 : S'[i]? = some p) (h2 : S'[i + 1]? = some q) (he : p.key = q.key) : ¬ (S.map (·.key)).Nodup := by
  intro hn
  have hn2 : (S'.map (·.key)).Nodup := ((hp.map (·.key)).nodup_iff).2 hn
  have a1 : (S'.map (·.key))[i]? = some p.key := by rw [List.getElem?_map, h1]; rfl
  have a2 : (S'.map (·.key))[i + 1]? = some p.key := by rw [List.getElem?_map, h2, he]; rfl
  obtain ⟨l1, e1⟩ := List.getElem?_eq_some_iff.1 a1
  obtain ⟨l2, e2⟩ := List.getElem?_eq_some_iff.1 a2
  have := (List.nodup_iff_pairwise_ne.1 hn2)
  have := List.pairwise_iff_getElem.1 this i (i + 1) l1 l2 (Nat.lt_succ_self _)
  exact this (e1.trans e2.symm)
theorem take_keyC {S : List PairT} {j : Nat} {p : PairT} (h : S[j]? = some p) : keyC (S.take (j + 1)) = keyC (S.take j) ++ [[str p.key]] := by
  obtain ⟨hlt, rfl⟩ := List.getElem?_eq_some_iff.1 h
  unfold keyC
  rw [List.take_succ_eq_append_getElem hlt, List.map_append]
  rfl
theorem take_valL {S : List PairT} {j : Nat} {p : PairT} (h : S[j]? = some p) : valL (S.take (j + 1)) = valL (S.take j) ++ [p.cells] := by
  obtain ⟨hlt, rfl⟩ := List.getElem?_eq_some_iff.1 h
  unfold valL
  rw [List.take_succ_eq_append_getElem hlt, List.map_append]
  rfl
theorem len_keyC {S : List PairT} {j : Nat} (h : j ≤ S.length) : (keyC (S.take j)).length = j := by unfold keyC; simp; omega
theorem len_valL {S : List PairT} {j : Nat} (h : j ≤ S.length) : (valL (S.take j)).length = j := by unfold valL; simp; omega
set_option maxHeartbeats 6400000 in
theorem mapV_any (d : Nat) (v : Value) (S : List PairT) (W : World) (h : Pairs W d v S) (hn : S.length ≤ 1000) :
    Calls Tryd.prog 21 #[v] W fun e w' => MapPost W.heap.size S e w' ∧ Below W.heap.size W w' := by
  obtain ⟨iV, hi, hz0, hz1, hz2⟩ := info_parts infoV
  obtain ⟨iS, hj, hy0, hy1, hy2⟩ := info_parts infoS
  have hgood : ∀ p ∈ S, goodC p.cells = true := fun p hp => goodC_of (h.2 p hp).1
  have hall : S.map PairT.all = S.map encP := List.map_congr_left fun p hp => (encP_good (hgood p hp)).symm
  have hrow := h.1
  rw [hall] at hrow
  have hone : ∀ u ∈ (S.map encP).flatten, u.oneCell' = true := by
    intro u hu
    obtain ⟨cs, hcs, hu⟩ := List.mem_flatten.1 hu
    obtain ⟨p, _, rfl⟩ := List.mem_map.1 hcs
    exact (encP_form p).choose_spec.choose_spec.choose_spec.choose_spec.choose_spec.2 u hu
  have hB := (Below.refl W.heap.size W).alloc (Nat.le_refl _) (.cells valZ 25)
  have lR : Lies (W.alloc (.cells valZ 25)) W.heap.size 25 valZ := Lies.new W _ _
  have HC := Lib.hid (cloneP_any v (S.map encP) (W.alloc (.cells valZ 25)) (hrow.below hB) hone (by simpa using hn))
  have HS := Lib.hid (fun (u : Value) (B : Nat) (w1 : World) (ho : OwnL w1 B 39 6 u (S.map encP)) (hB : B ≤ w1.heap.size) => sortP_any u S B w1 ho hn hB)
  have HP := Lib.hid h.2
  have HG := Lib.hid hgood
  clear hrow hone hall hgood
  have hsz : (W.alloc (.cells valZ 25)).heap.size = W.heap.size + 1 := by simp
  clear h
  go_enter Tryd.func21, Tryd.ntmps21
  go_upto_region 3 with (first
    | (go_at_call 34; (with_reducible refine HC.out.mono ?_); rintro e w1 ⟨v1, rfl, ho, hb1⟩; replace lR := lR.on hb1; replace hB := below_on hB hb1; rw [hsz] at ho; obtain ⟨va, vc, rfl, hvc, hvm⟩ := ho.form2 (n := S.length) (by simp); have hB1 : W.heap.size + 1 ≤ w1.heap.size := by rw [← hsz]; exact hb1.size)
    | (go_at_call 35; (with_reducible refine (HS.out _ _ _ ho hB1).mono ?_); rintro e w2 ⟨rfl, S', hperm, hord, hrow, hb2⟩))
  have hB2 : Below W.heap.size W w2 := hB.trans (hb2.mono (Nat.le_succ _))
  have lR2 : Lies w2 W.heap.size 25 valZ := lR.below hb2 (Nat.lt_succ_self _)
  have hlen := hperm.length_eq
  have HPm := Lib.hid (fun (p : PairT) (hp : p ∈ S') => HP.out p (hperm.mem_iff.1 hp))
  have HGm := Lib.hid (fun (p : PairT) (hp : p ∈ S') => HG.out p (hperm.mem_iff.1 hp))
  have HRow := Lib.hid (fun (j : Nat) (p : PairT) (hp : S'[j]? = some p) => hrow.at (i := j) (cs := encP p) (by rw [List.getElem?_map, hp]; rfl))
  have HTw := Lib.hid (fun (i : Nat) (p q : PairT) (h1 : S'[i]? = some p) (h2 : S'[i + 1]? = some q) => twice_not hperm h1 h2)
  have HLen := Lib.hid hlen
  have hWg : W.heap.size < w2.heap.size := by have := hb2.size; omega
  clear HC HS HP HG hrow ho hb1 hb2 lR hB hsz hlen hB1
  have lV0 := Lies.new w2 25 #[.int .i64 4, .int .i64 0, .string ⟨#[]⟩, .slice none 0 0, .slice none 0 0]
  go_wp2
  go_loopw [15] (fun iv wr => ∃ (j : Nat) (ai : Option Addr) (ci : Nat) (ak : Option Addr) (ck : Nat), iv = .int .i64 j ∧ j ≤ S.length ∧ Hid (∀ (i : Nat) (p q : PairT), i + 1 < j → S'[i]? = some p → S'[i + 1]? = some q → p.key ≠ q.key) ∧ Lies wr w2.heap.size 25 #[.int .i64 4, .int .i64 0, .string ⟨#[]⟩, .slice ai j ci, .slice ak j ck] ∧ OwnL wr (w2.heap.size + 1) 25 5 (.slice ai j ci) (valL (S'.take j)) ∧ OwnL wr (w2.heap.size + 1) 9 1 (.slice ak j ck) (keyC (S'.take j)) ∧ Below w2.heap.size w2 wr ∧ w2.heap.size + 1 ≤ wr.heap.size) (fun iv _ => S.length - (intOf iv).toNat)
  case atStart => exact ⟨0, none, 0, none, 0, rfl, Nat.zero_le _, Lib.hid (fun i p q h => absurd h (by omega)), lV0, OwnL.nil _ _ _ _, OwnL.nil _ _ _ _, (Below.refl _ w2).alloc (Nat.le_refl _) _, by simp⟩
  case round =>
    clear lV0
    obtain ⟨j, ai, ci, ak, ck, rfl, hjl, HD, lV, hoI, hoK, hb, hsz⟩ := hrel
    by_cases hlt : j < S.length
    · obtain ⟨p, hp⟩ : ∃ p, S'[j]? = some p := ⟨S'[j]'(by rw [HLen.out]; exact hlt), List.getElem?_eq_getElem _⟩
      have hpm := List.mem_of_getElem? hp
      obtain ⟨b, off, rfl, hra, _⟩ := HRow.out j p hp
      rw [encP_good (HGm.out p hpm)] at hra
      obtain ⟨xi, xc, xk, xd, hcs⟩ := (HPm.out p hpm).1.form
      unfold PairT.all at hra
      rw [hcs] at hra
      obtain ⟨k0, k1, k2, k3, k4, k5⟩ := range6 (range_below hb hra)
      unfold str at k0
      have HK := Lib.hid (take_keyC hp)
      have HI := Lib.hid (take_valL hp)
      rw [hcs] at HI
      have hba := (Below.refl wr.heap.size wr).alloc (Nat.le_refl _) (.cells #[.string ⟨p.key.toArray⟩, .int .i64 p.val.kind, .int .i64 p.val.num, .string ⟨p.val.txt.toArray⟩, .slice xi p.val.items.length xc, .slice xk p.val.keys.length xd] 39)
      have lP := Lies.new wr 39 #[.string ⟨p.key.toArray⟩, .int .i64 p.val.kind, .int .i64 p.val.num, .string ⟨p.val.txt.toArray⟩, .slice xi p.val.items.length xc, .slice xk p.val.keys.length xd]
      replace lV := lV.on hba
      replace hoI := hoI.on hba
      replace hoK := hoK.on hba
      have hsz0 : wr.heap.size + 1 = (wr.alloc (.cells #[.string ⟨p.key.toArray⟩, .int .i64 p.val.kind, .int .i64 p.val.num, .string ⟨p.val.txt.toArray⟩, .slice xi p.val.items.length xc, .slice xk p.val.keys.length xd] 39)).heap.size := by simp
      have hgp : w2.heap.size < wr.heap.size := by omega
      have hbx := on_below hb hba hb.size
      rcases Nat.eq_zero_or_pos j with hz | hz
      · subst hz
        simp only [Nat.zero_mul, Nat.add_zero] at k0 k1 k2 k3 k4 k5
        go_upto_region 7 with fail
        generalize hga : World.alloc wr _ = wa at *
        have x0 := lP.cell 0
        simp only [List.getElem?_toArray, List.getElem?_cons_zero] at x0
        have u0 := cell_regrown x0
        clear x0
        refine wp_region_quiet_below (by kernel_rfl) (by kernel_rfl) ?_
        repeat (go_big_quiet_step (fail))
        refine wpQuiet_nil ?_
        intro _ hw'
        obtain ⟨⟨dq, osq⟩, hw''⟩ := hw'
        subst hw''
        have hbb := below_regrown wa dq osq
        generalize grow (redrawn wa dq) osq = wb at *
        replace lV := lV.on hbb
        replace lP := lP.on hbb
        replace hoI := hoI.on hbb
        replace hoK := hoK.on hbb
        have hb2 := on_below hbx hbb hbx.size
        have hsb : w2.heap.size + 1 ≤ wb.heap.size := Nat.le_trans (by rw [← hsz0]; omega) hbb.size
        clear hbb hbx hba u0 hga hsz0
        obtain ⟨m, hm⟩ : ∃ m, Hid (m = 0 + 1) := ⟨_, Lib.hid rfl⟩
        have hbl : Below wb.heap.size wb (wb.alloc (.cells #[.string ⟨p.key.toArray⟩] 9)) := (Below.refl _ _).alloc (Nat.le_refl _) _
        have lV1 := lV.on hbl
        have lP1 := lP.on hbl
        have hoI1 := hoI.on hbl
        have hoK1 := hoK.on hbl
        have hb3 := on_below hb2 hbl hb2.size
        have hsl := Nat.le_trans hsb hbl.size
        have hrl := RowL.lit wb 9 1 [.string ⟨p.key.toArray⟩] rfl
        have hbs := Nat.le_trans hb2.size hbl.size
        have q4 := lV.cell 4; simp only [List.getElem?_toArray, List.getElem?_cons_succ, List.getElem?_cons_zero] at q4
        have x0 := lP.cell 0
        simp only [List.getElem?_toArray, List.getElem?_cons_zero] at x0
        clear hbl lV lP hoI hoK hb2 hsb
        have hqa : (keyC (S'.take 0)).length + [[(Value.string ⟨p.key.toArray⟩ : Value)]].length ≤ maxLen := by rw [len_keyC (by rw [HLen.out]; omega)]; unfold maxLen; simp only [List.length_cons, List.length_nil]; omega
        have hqb : ((keyC (S'.take 0)).length + [[(Value.string ⟨p.key.toArray⟩ : Value)]].length) * 16 ≤ 140737488355328 := by rw [len_keyC (by rw [HLen.out]; omega)]; simp only [List.length_cons, List.length_nil]; omega
        have hqc : (keyC (S'.take 0) ++ [[(Value.string ⟨p.key.toArray⟩ : Value)]]).length = m := by rw [List.length_append, len_keyC (by rw [HLen.out]; omega), hm.out]; rfl
        have hqu : ∀ u ∈ [[(Value.string ⟨p.key.toArray⟩ : Value)]].flatten, u.oneCell' = true := fun u hu => by rcases List.mem_singleton.1 (show u ∈ [(Value.string ⟨p.key.toArray⟩ : Value)] from hu) with rfl; rfl
        have hra : (valL (S'.take 0)).length + ([[.int .i64 p.val.kind, .int .i64 p.val.num, .string ⟨p.val.txt.toArray⟩, .slice xi p.val.items.length xc, .slice xk p.val.keys.length xd]] : List (List Value)).length ≤ maxLen := by rw [len_valL (by rw [HLen.out]; omega)]; unfold maxLen; simp only [List.length_cons, List.length_nil]; omega
        have hrb : ((valL (S'.take 0)).length + ([[.int .i64 p.val.kind, .int .i64 p.val.num, .string ⟨p.val.txt.toArray⟩, .slice xi p.val.items.length xc, .slice xk p.val.keys.length xd]] : List (List Value)).length) * 80 ≤ 140737488355328 := by rw [len_valL (by rw [HLen.out]; omega)]; simp only [List.length_cons, List.length_nil]; omega
        have hrc : (valL (S'.take 0) ++ ([[.int .i64 p.val.kind, .int .i64 p.val.num, .string ⟨p.val.txt.toArray⟩, .slice xi p.val.items.length xc, .slice xk p.val.keys.length xd]] : List (List Value))).length = m := by rw [List.length_append, len_valL (by rw [HLen.out]; omega), hm.out]; rfl
        have hru : ∀ u ∈ ([[.int .i64 p.val.kind, .int .i64 p.val.num, .string ⟨p.val.txt.toArray⟩, .slice xi p.val.items.length xc, .slice xk p.val.keys.length xd]] : List (List Value)).flatten, u.oneCell' = true := one_five _ _ _ _ _ _ _ _ _
        go_upto_region 10 with ((with_reducible refine wpL_appendL (w2.heap.size + 1) 9 iS (.string ⟨#[]⟩) 1 16 Tryd.underlying23 hj hy0 hy1 hy2 rfl (by decide) _ (keyC (S'.take 0)) hoK1 _ [[.string ⟨p.key.toArray⟩]] hrl hqu hqa hqb hsl ?_ ?_ ?_); rfl; rfl; intro v9 w9 ho9 hg9; obtain ⟨a9, c9, rfl, _, _⟩ := ho9.form2 hqc; have lV2 := lV1.keptLt hoK1 hg9 (Nat.lt_succ_self _); have lP2 := lP1.kept hoK1 hg9 (by decide); have hoI2 := hoI1.kept2 hoK1 hg9 (by decide); have hb4 := hb3.grown hg9 hbs (fun k hk => by have := hoK1.lt k hk; omega); have hs4 := Nat.le_trans hsl hg9.size; have f4 := lV2.frozen 4; have q4 := lV2.cell 4; simp only [List.getElem?_toArray, List.getElem?_cons_succ, List.getElem?_cons_zero] at q4)
        clear lV1 lP1 hoI1 hoK1 hb3 hsl hrl hbs q4 f4 hg9 x0
        have lV3 : Lies (w9.setCell ⟨w2.heap.size, 4, none⟩ (.slice a9 m c9)) w2.heap.size 25 #[.int .i64 4, .int .i64 0, .string ⟨#[]⟩, .slice ai 0 ci, .slice a9 m c9] := lV2.put 4 _
        have lP3 := lP2.far (p := ⟨w2.heap.size, 4, none⟩) (show wr.heap.size ≠ w2.heap.size by omega) (.slice a9 m c9)
        have hoI3 := hoI2.far (Nat.lt_succ_self _) 4 (.slice a9 m c9)
        have hoK3 := ho9.far (Nat.lt_succ_self _) 4 (.slice a9 m c9)
        have hb5 := hb4.setCell (p := ⟨w2.heap.size, 4, none⟩) (Nat.le_refl _) (.slice a9 m c9)
        have hs5 : w2.heap.size + 1 ≤ (w9.setCell ⟨w2.heap.size, 4, none⟩ (.slice a9 m c9)).heap.size := by rw [setCell_size]; exact hs4
        clear lV2 lP2 hoI2 ho9 hb4 hs4
        generalize w9.setCell ⟨w2.heap.size, 4, none⟩ (.slice a9 m c9) = wd at *
        have hbl : Below wd.heap.size wd (wd.alloc (.cells #[.int .i64 p.val.kind, .int .i64 p.val.num, .string ⟨p.val.txt.toArray⟩, .slice xi p.val.items.length xc, .slice xk p.val.keys.length xd] 25)) := (Below.refl _ _).alloc (Nat.le_refl _) _
        have lV4 := lV3.on hbl
        have hoI4 := hoI3.on hbl
        have hoK4 := hoK3.on hbl
        have hb6 := on_below hb5 hbl hb5.size
        have hs6 := Nat.le_trans hs5 hbl.size
        have hrl := RowL.lit wd 25 5 [.int .i64 p.val.kind, .int .i64 p.val.num, .string ⟨p.val.txt.toArray⟩, .slice xi p.val.items.length xc, .slice xk p.val.keys.length xd] rfl
        have hbs := Nat.le_trans hb5.size hbl.size
        have r3 := lV3.cell 3; simp only [List.getElem?_toArray, List.getElem?_cons_succ, List.getElem?_cons_zero] at r3
        have x1 := lP3.cell 1; have x2 := lP3.cell 2; have x3 := lP3.cell 3; have x4 := lP3.cell 4; have x5 := lP3.cell 5; simp only [List.getElem?_toArray, List.getElem?_cons_succ, List.getElem?_cons_zero] at x1 x2 x3 x4 x5
        clear hbl lV3 lP3 hoI3 hoK3 hb5 hs5
        go_upto_region 11 with ((with_reducible refine wpL_appendL (w2.heap.size + 1) 25 iV (.agg valZ) 5 80 Tryd.underlying22 hi hz0 hz1 hz2 rfl (by decide) _ (valL (S'.take 0)) hoI4 _ [[.int .i64 p.val.kind, .int .i64 p.val.num, .string ⟨p.val.txt.toArray⟩, .slice xi p.val.items.length xc, .slice xk p.val.keys.length xd]] hrl hru hra hrb hs6 ?_ ?_ ?_); rfl; rfl; intro vc wc hoc hgc; obtain ⟨ac, cc, rfl, _, _⟩ := hoc.form2 hrc; have lV5 := lV4.keptLt hoI4 hgc (Nat.lt_succ_self _); have hoK5 := hoK4.kept2 hoI4 hgc (by decide); have hb7 := hb6.grown hgc hbs (fun k hk => by have := hoI4.lt k hk; omega); have hs7 := Nat.le_trans hs6 hgc.size; have f3 := lV5.frozen 3; have r3 := lV5.cell 3; simp only [List.getElem?_toArray, List.getElem?_cons_succ, List.getElem?_cons_zero] at r3)
        clear lV4 hoI4 hoK4 hb6 hs6 hrl hbs r3 f3 hgc x1 x2 x3 x4 x5
        have lV6 : Lies (wc.setCell ⟨w2.heap.size, 3, none⟩ (.slice ac m cc)) w2.heap.size 25 #[.int .i64 4, .int .i64 0, .string ⟨#[]⟩, .slice ac m cc, .slice a9 m c9] := lV5.put 3 _
        have hoI6 := hoc.far (Nat.lt_succ_self _) 3 (.slice ac m cc)
        have hoK6 := hoK5.far (Nat.lt_succ_self _) 3 (.slice ac m cc)
        have hb8 := hb7.setCell (p := ⟨w2.heap.size, 3, none⟩) (Nat.le_refl _) (.slice ac m cc)
        have hs8 : w2.heap.size + 1 ≤ (wc.setCell ⟨w2.heap.size, 3, none⟩ (.slice ac m cc)).heap.size := by rw [setCell_size]; exact hs7
        clear lV5 hoc hoK5 hb7 hs7
        generalize wc.setCell ⟨w2.heap.size, 3, none⟩ (.slice ac m cc) = we at *
        go_wp2
        go_roundw
        case rel => obtain rfl := hm.out; exact ⟨0 + 1, ac, cc, a9, c9, by go_num, by omega, Lib.hid (fun i p q h => absurd h (by omega)), lV6, by rw [HI.out]; exact hoI6, by rw [HK.out]; exact hoK6, hb8, hs8⟩
        case measure => simp [intOf]; omega
      · obtain ⟨k, rfl⟩ : ∃ k, j = k + 1 := ⟨j - 1, by omega⟩
        obtain ⟨q, hq⟩ : ∃ q, S'[k]? = some q := ⟨S'[k]'(by rw [HLen.out]; omega), List.getElem?_eq_getElem _⟩
        have g0 : wr.cell? ⟨b, off + k * 6, none⟩ = some (.string ⟨q.key.toArray⟩) := by
          obtain ⟨b', off', e1, hra', _⟩ := HRow.out k q hq
          rw [encP_good (HGm.out q (List.mem_of_getElem? hq))] at hra'
          simp only [Option.some.injEq, Addr.mk.injEq, and_true] at e1
          obtain ⟨rfl, rfl⟩ := e1
          exact range_below hb hra' 0 (str q.key) rfl
        have g1 := (hba.cell (World.block_lt_of_cell? wr _ g0)).trans g0
        have ej : ((k + 1 : Nat) : Int) = (k : Int) + 1 := by omega
        rw [ej]
        have hk1 : (k : Int) < (S.length : Int) := by omega
        have hk2 : (k : Int) + 1 < (S.length : Int) := by omega
        have HD2 := Lib.hid (fun (h : ¬ q.key = p.key) (i : Nat) (x y : PairT) (hi : i + 1 < k + 1 + 1) (h1 : S'[i]? = some x) (h2 : S'[i + 1]? = some y) => show x.key ≠ y.key from by
          rcases Nat.lt_or_ge (i + 1) (k + 1) with hlt2 | hge2
          · exact HD.out i x y hlt2 h1 h2
          · obtain rfl : i = k := by omega
            rw [hq] at h1
            rw [hp] at h2
            cases h1; cases h2; exact h)
        have HN := Lib.hid (fun (h : q.key = p.key) => HTw.out k q p hq hp h)
        clear HD hp hq ej g0
        go_upto_region 7 with fail
        generalize hga : World.alloc wr _ = wa at *
        have x0 := lP.cell 0
        simp only [List.getElem?_toArray, List.getElem?_cons_zero] at x0
        have u0 := cell_regrown x0
        clear x0
        have g2 := cell_regrown g1
        clear g1
        refine wp_region_quiet_below (by kernel_rfl) (by kernel_rfl) ?_
        repeat (go_big_quiet_step (fail))
        refine wpQuiet_nil ?_
        intro _ hw'
        obtain ⟨⟨dq, osq⟩, hw''⟩ := hw'
        subst hw''
        have hbb := below_regrown wa dq osq
        generalize grow (redrawn wa dq) osq = wb at *
        replace lV := lV.on hbb
        replace lP := lP.on hbb
        replace hoI := hoI.on hbb
        replace hoK := hoK.on hbb
        have hb2 := on_below hbx hbb hbx.size
        have hsb : w2.heap.size + 1 ≤ wb.heap.size := Nat.le_trans (by rw [← hsz0]; omega) hbb.size
        clear hbb hbx hba u0 hga hsz0
        clear g2
        by_cases hxy : q.key = p.key
        · rw [show (q.key == p.key) = true by simp [hxy]]
          have lR3 := lR2.below hb2 hWg
          have hbz := hB2.trans (hb2.mono (Nat.le_of_lt hWg))
          go_wp2_with ((with_reducible refine wpL_store W.heap.size 25 valZ valZ 5 rowVal rfl rfl (valC_one _ _ _ _ _ _ _ _ _) lR3 ?_ ?_ ?_); rfl; rfl)
          exact bodyPost_ret (results_row_tmp Tryd.results21 rowVal rfl (lR3.row _) rfl rfl) rfl ⟨⟨_, _, rfl, .inr ⟨rfl, HN.out hxy, rfl⟩⟩, below_rowSet hbz (Nat.le_refl _) _⟩
        · rw [show (q.key == p.key) = false by simp [hxy]]
          obtain ⟨m, hm⟩ : ∃ m, Hid (m = (k + 1) + 1) := ⟨_, Lib.hid rfl⟩
          have hbl : Below wb.heap.size wb (wb.alloc (.cells #[.string ⟨p.key.toArray⟩] 9)) := (Below.refl _ _).alloc (Nat.le_refl _) _
          have lV1 := lV.on hbl
          have lP1 := lP.on hbl
          have hoI1 := hoI.on hbl
          have hoK1 := hoK.on hbl
          have hb3 := on_below hb2 hbl hb2.size
          have hsl := Nat.le_trans hsb hbl.size
          have hrl := RowL.lit wb 9 1 [.string ⟨p.key.toArray⟩] rfl
          have hbs := Nat.le_trans hb2.size hbl.size
          have q4 := lV.cell 4; simp only [List.getElem?_toArray, List.getElem?_cons_succ, List.getElem?_cons_zero] at q4
          have x0 := lP.cell 0
          simp only [List.getElem?_toArray, List.getElem?_cons_zero] at x0
          clear hbl lV lP hoI hoK hb2 hsb
          have hqa : (keyC (S'.take (k + 1))).length + [[(Value.string ⟨p.key.toArray⟩ : Value)]].length ≤ maxLen := by rw [len_keyC (by rw [HLen.out]; omega)]; unfold maxLen; simp only [List.length_cons, List.length_nil]; omega
          have hqb : ((keyC (S'.take (k + 1))).length + [[(Value.string ⟨p.key.toArray⟩ : Value)]].length) * 16 ≤ 140737488355328 := by rw [len_keyC (by rw [HLen.out]; omega)]; simp only [List.length_cons, List.length_nil]; omega
          have hqc : (keyC (S'.take (k + 1)) ++ [[(Value.string ⟨p.key.toArray⟩ : Value)]]).length = m := by rw [List.length_append, len_keyC (by rw [HLen.out]; omega), hm.out]; rfl
          have hqu : ∀ u ∈ [[(Value.string ⟨p.key.toArray⟩ : Value)]].flatten, u.oneCell' = true := fun u hu => by rcases List.mem_singleton.1 (show u ∈ [(Value.string ⟨p.key.toArray⟩ : Value)] from hu) with rfl; rfl
          have hra : (valL (S'.take (k + 1))).length + ([[.int .i64 p.val.kind, .int .i64 p.val.num, .string ⟨p.val.txt.toArray⟩, .slice xi p.val.items.length xc, .slice xk p.val.keys.length xd]] : List (List Value)).length ≤ maxLen := by rw [len_valL (by rw [HLen.out]; omega)]; unfold maxLen; simp only [List.length_cons, List.length_nil]; omega
          have hrb : ((valL (S'.take (k + 1))).length + ([[.int .i64 p.val.kind, .int .i64 p.val.num, .string ⟨p.val.txt.toArray⟩, .slice xi p.val.items.length xc, .slice xk p.val.keys.length xd]] : List (List Value)).length) * 80 ≤ 140737488355328 := by rw [len_valL (by rw [HLen.out]; omega)]; simp only [List.length_cons, List.length_nil]; omega
          have hrc : (valL (S'.take (k + 1)) ++ ([[.int .i64 p.val.kind, .int .i64 p.val.num, .string ⟨p.val.txt.toArray⟩, .slice xi p.val.items.length xc, .slice xk p.val.keys.length xd]] : List (List Value))).length = m := by rw [List.length_append, len_valL (by rw [HLen.out]; omega), hm.out]; rfl
          have hru : ∀ u ∈ ([[.int .i64 p.val.kind, .int .i64 p.val.num, .string ⟨p.val.txt.toArray⟩, .slice xi p.val.items.length xc, .slice xk p.val.keys.length xd]] : List (List Value)).flatten, u.oneCell' = true := one_five _ _ _ _ _ _ _ _ _
          go_upto_region 10 with ((with_reducible refine wpL_appendL (w2.heap.size + 1) 9 iS (.string ⟨#[]⟩) 1 16 Tryd.underlying23 hj hy0 hy1 hy2 rfl (by decide) _ (keyC (S'.take (k + 1))) hoK1 _ [[.string ⟨p.key.toArray⟩]] hrl hqu hqa hqb hsl ?_ ?_ ?_); rfl; rfl; intro v9 w9 ho9 hg9; obtain ⟨a9, c9, rfl, _, _⟩ := ho9.form2 hqc; have lV2 := lV1.keptLt hoK1 hg9 (Nat.lt_succ_self _); have lP2 := lP1.kept hoK1 hg9 (by decide); have hoI2 := hoI1.kept2 hoK1 hg9 (by decide); have hb4 := hb3.grown hg9 hbs (fun k hk => by have := hoK1.lt k hk; omega); have hs4 := Nat.le_trans hsl hg9.size; have f4 := lV2.frozen 4; have q4 := lV2.cell 4; simp only [List.getElem?_toArray, List.getElem?_cons_succ, List.getElem?_cons_zero] at q4)
          clear lV1 lP1 hoI1 hoK1 hb3 hsl hrl hbs q4 f4 hg9 x0
          have lV3 : Lies (w9.setCell ⟨w2.heap.size, 4, none⟩ (.slice a9 m c9)) w2.heap.size 25 #[.int .i64 4, .int .i64 0, .string ⟨#[]⟩, .slice ai (k + 1) ci, .slice a9 m c9] := lV2.put 4 _
          have lP3 := lP2.far (p := ⟨w2.heap.size, 4, none⟩) (show wr.heap.size ≠ w2.heap.size by omega) (.slice a9 m c9)
          have hoI3 := hoI2.far (Nat.lt_succ_self _) 4 (.slice a9 m c9)
          have hoK3 := ho9.far (Nat.lt_succ_self _) 4 (.slice a9 m c9)
          have hb5 := hb4.setCell (p := ⟨w2.heap.size, 4, none⟩) (Nat.le_refl _) (.slice a9 m c9)
          have hs5 : w2.heap.size + 1 ≤ (w9.setCell ⟨w2.heap.size, 4, none⟩ (.slice a9 m c9)).heap.size := by rw [setCell_size]; exact hs4
          clear lV2 lP2 hoI2 ho9 hb4 hs4
          generalize w9.setCell ⟨w2.heap.size, 4, none⟩ (.slice a9 m c9) = wd at *
          have hbl : Below wd.heap.size wd (wd.alloc (.cells #[.int .i64 p.val.kind, .int .i64 p.val.num, .string ⟨p.val.txt.toArray⟩, .slice xi p.val.items.length xc, .slice xk p.val.keys.length xd] 25)) := (Below.refl _ _).alloc (Nat.le_refl _) _
          have lV4 := lV3.on hbl
          have hoI4 := hoI3.on hbl
          have hoK4 := hoK3.on hbl
          have hb6 := on_below hb5 hbl hb5.size
          have hs6 := Nat.le_trans hs5 hbl.size
          have hrl := RowL.lit wd 25 5 [.int .i64 p.val.kind, .int .i64 p.val.num, .string ⟨p.val.txt.toArray⟩, .slice xi p.val.items.length xc, .slice xk p.val.keys.length xd] rfl
          have hbs := Nat.le_trans hb5.size hbl.size
          have r3 := lV3.cell 3; simp only [List.getElem?_toArray, List.getElem?_cons_succ, List.getElem?_cons_zero] at r3
          have x1 := lP3.cell 1; have x2 := lP3.cell 2; have x3 := lP3.cell 3; have x4 := lP3.cell 4; have x5 := lP3.cell 5; simp only [List.getElem?_toArray, List.getElem?_cons_succ, List.getElem?_cons_zero] at x1 x2 x3 x4 x5
          clear hbl lV3 lP3 hoI3 hoK3 hb5 hs5
          go_upto_region 11 with ((with_reducible refine wpL_appendL (w2.heap.size + 1) 25 iV (.agg valZ) 5 80 Tryd.underlying22 hi hz0 hz1 hz2 rfl (by decide) _ (valL (S'.take (k + 1))) hoI4 _ [[.int .i64 p.val.kind, .int .i64 p.val.num, .string ⟨p.val.txt.toArray⟩, .slice xi p.val.items.length xc, .slice xk p.val.keys.length xd]] hrl hru hra hrb hs6 ?_ ?_ ?_); rfl; rfl; intro vc wc hoc hgc; obtain ⟨ac, cc, rfl, _, _⟩ := hoc.form2 hrc; have lV5 := lV4.keptLt hoI4 hgc (Nat.lt_succ_self _); have hoK5 := hoK4.kept2 hoI4 hgc (by decide); have hb7 := hb6.grown hgc hbs (fun k hk => by have := hoI4.lt k hk; omega); have hs7 := Nat.le_trans hs6 hgc.size; have f3 := lV5.frozen 3; have r3 := lV5.cell 3; simp only [List.getElem?_toArray, List.getElem?_cons_succ, List.getElem?_cons_zero] at r3)
          clear lV4 hoI4 hoK4 hb6 hs6 hrl hbs r3 f3 hgc x1 x2 x3 x4 x5
          have lV6 : Lies (wc.setCell ⟨w2.heap.size, 3, none⟩ (.slice ac m cc)) w2.heap.size 25 #[.int .i64 4, .int .i64 0, .string ⟨#[]⟩, .slice ac m cc, .slice a9 m c9] := lV5.put 3 _
          have hoI6 := hoc.far (Nat.lt_succ_self _) 3 (.slice ac m cc)
          have hoK6 := hoK5.far (Nat.lt_succ_self _) 3 (.slice ac m cc)
          have hb8 := hb7.setCell (p := ⟨w2.heap.size, 3, none⟩) (Nat.le_refl _) (.slice ac m cc)
          have hs8 : w2.heap.size + 1 ≤ (wc.setCell ⟨w2.heap.size, 3, none⟩ (.slice ac m cc)).heap.size := by rw [setCell_size]; exact hs7
          clear lV5 hoc hoK5 hb7 hs7
          generalize wc.setCell ⟨w2.heap.size, 3, none⟩ (.slice ac m cc) = we at *
          go_wp2
          go_roundw
          case rel => obtain rfl := hm.out; exact ⟨(k + 1) + 1, ac, cc, a9, c9, by go_num, by omega, Lib.hid (HD2.out hxy), lV6, by rw [HI.out]; exact hoI6, by rw [HK.out]; exact hoK6, hb8, hs8⟩
          case measure => simp [intOf]; omega
    · obtain rfl : j = S.length := by omega
      rw [List.take_of_length_le (by rw [HLen.out]; exact Nat.le_refl _)] at hoI hoK
      have hris := Lib.hid (fun (i : Nat) (p q : PairT) (h1 : S'[i]? = some p) (h2 : S'[i + 1]? = some q) => show lessL p.key q.key = true from by
        have hl2 := (List.getElem?_eq_some_iff.1 h2).1
        rw [HLen.out] at hl2
        have hne := HD.out i p q hl2 h1 h2
        have hno := hord i (i + 1) p q (Nat.lt_succ_self _) h1 h2
        rcases less_three p.key q.key with ⟨h3, _, _⟩ | ⟨h3, _, _⟩ | ⟨_, _, h3⟩
        · exact h3
        · exact absurd h3 hne
        · rw [hno] at h3; cases h3)
      have lR3 := lR2.below hb hWg
      have hbz := hB2.trans (hb.mono (Nat.le_of_lt hWg))
      have y0 := lV.cell 0; have y1 := lV.cell 1; have y2 := lV.cell 2; have y3 := lV.cell 3; have y4 := lV.cell 4; simp only [List.getElem?_toArray, List.getElem?_cons_succ, List.getElem?_cons_zero] at y0 y1 y2 y3 y4
      clear HD HRow HTw HGm
      go_wp2_with ((with_reducible refine wpL_store W.heap.size 25 valZ #[.int .i64 4, .int .i64 0, .string ⟨#[]⟩, .slice ai S.length ci, .slice ak S.length ck] 5 rowVal rfl rfl (valC_one _ _ _ _ _ _ _ _ _) lR3 ?_ ?_ ?_); rfl; rfl)
      exact bodyPost_ret (results_row_tmp Tryd.results21 rowVal rfl (lR3.row _) rfl rfl) rfl ⟨⟨_, _, rfl, .inl ⟨rfl, S', hperm, hris.out, _, _, rfl, (hoI.rowFar (by omega) _).weak (by omega), (hoK.rowFar (by omega) _).weak (by omega)⟩⟩, below_rowSet hbz (Nat.le_refl _) _⟩
end Go.Proofs.YtdfdpckcemdimaaDoor.V

