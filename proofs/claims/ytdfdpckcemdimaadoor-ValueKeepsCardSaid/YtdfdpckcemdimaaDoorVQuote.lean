/- The developers' quoted: by the library's ReplaceAll, twice. -/
import Derived.Test.YtdfdpckcemdimaaDoorShelfR
import Derived.Test.YtdfdpckcemdimaaDoorVRefWrite
import Derived.Lib.SplitLaws
import Derived.Lib.Replace
namespace Go.Proofs.YtdfdpckcemdimaaDoor.V
open Go.RowKit Go.Sort Go.Joins
set_option maxRecDepth 100000

/-! ### one byte replaced by several -/
def sub1 (c : UInt8) (new : List UInt8) : List UInt8 → List UInt8
  | [] => []
  | b :: r => (if b = c then new else [b]) ++ sub1 c new r
theorem pre_one (c b : UInt8) (l : List UInt8) : [c].isPrefixOf (b :: l) = decide (c = b) := by
  by_cases h : c = b
  · subst h; simp [List.isPrefixOf]
  · simp [List.isPrefixOf, h]
theorem index_hit (c : UInt8) (l : List UInt8) : Lib.index (c :: l) [c] = 0 := by rw [Lib.index, pre_one, decide_eq_true rfl, if_pos rfl]
theorem index_more (c b : UInt8) (l : List UInt8) (h : ¬ b = c) (i : Nat) (hi : Lib.index l [c] = i) : Lib.index (b :: l) [c] = ((i + 1 : Nat) : Int) := by
  rw [Lib.index, pre_one, decide_eq_false (fun e => h e.symm), if_neg (by decide), hi, if_neg (by rw [beq_iff_eq]; omega)]
  rfl
theorem repl_one (c : UInt8) (new : List UInt8) : ∀ s : List UInt8, Lib.replaceK [c] new (Lib.count s [c]) s = sub1 c new s := by
  intro s
  induction s with
  | nil => rw [Lib.count_one]; rfl
  | cons b l ih =>
    rw [Lib.count_one] at ih ⊢
    by_cases h : b = c
    · subst h
      rw [List.count_cons_self, Lib.replaceK_hit _ _ _ _ 0 (index_hit b l), sub1, if_pos rfl]
      simp [ih]
    · rw [List.count_cons_of_ne (fun e => h e), sub1, if_neg h]
      cases hk : l.count c with
      | zero =>
        rw [hk] at ih
        have e : l = sub1 c new l := ih
        show b :: l = [b] ++ sub1 c new l
        rw [← e]; rfl
      | succ k =>
        rw [hk] at ih
        obtain ⟨i, hi⟩ := Lib.index_of_count (s := l) (old := [c]) (by rw [Lib.count_one, hk]; omega)
        rw [Lib.replaceK_hit _ _ _ _ (i + 1) (index_more c b l h i hi)]
        rw [Lib.replaceK_hit _ _ _ _ i hi] at ih
        rw [← ih]
        simp
theorem replAll_one (c : UInt8) (new s : List UInt8) (h : ([c] == new) = false) : Lib.replaceAll s [c] new = sub1 c new s := by
  unfold Lib.replaceAll Lib.replace
  rw [if_neg (by rw [h]; decide)]
  have : Lib.replaceNum s [c] (-1) = Lib.count s [c] := by unfold Lib.replaceNum; rw [if_pos (.inl (by decide))]
  rw [this, repl_one]
theorem sub1_append (c : UInt8) (new a b : List UInt8) : sub1 c new (a ++ b) = sub1 c new a ++ sub1 c new b := by
  induction a with
  | nil => rfl
  | cons x a ih => rw [List.cons_append, sub1, sub1, ih, List.append_assoc]
theorem sub_esc : ∀ s : List UInt8, sub1 34 [92, 34] (sub1 92 [92, 92] s) = escL s := by
  intro s
  induction s with
  | nil => rfl
  | cons b r ih =>
    rw [sub1, sub1_append, ih, escL]
    by_cases h1 : b = 92
    · subst h1; rfl
    · rw [if_neg h1]
      by_cases h2 : b = 34
      · subst h2; rfl
      · rw [if_neg (by simp [h1, h2])]
        simp [sub1, h2]
theorem sub1_len (c : UInt8) (x y : UInt8) : ∀ s : List UInt8, (sub1 c [x, y] s).length ≤ 2 * s.length := by
  intro s
  induction s with
  | nil => simp [sub1]
  | cons b r ih =>
    rw [sub1, List.length_append, List.length_cons]
    split <;> simp <;> omega
/-! ### the library's variable that says how long a text it looks for at once -/
def MaxAt (w : World) : Prop := ∃ m, w.cell? ⟨0, 0, none⟩ = some (.int .i64 m)
theorem MaxAt.below {w w' : World} (h : MaxAt w) (hb : Below w.heap.size w w') : MaxAt w' := by
  obtain ⟨m, hm⟩ := h
  exact ⟨m, (hb.cell (World.block_lt_of_cell? w _ hm)).trans hm⟩
theorem repl_any (s : List UInt8) (c x y : UInt8) (w : World) (hM : MaxAt w) (hs : s.length ≤ 2000000) (h : ([c] == [x, y]) = false) :
    Calls Tryd.prog 75 #[.string ⟨s.toArray⟩, .string ⟨#[c]⟩, .string ⟨#[x, y]⟩] w fun e w' => e = .returned (.string ⟨(sub1 c [x, y] s).toArray⟩) ∧ Below w.heap.size w w' := by
  obtain ⟨m, hm⟩ := hM
  have h1 := Tryd.strings_ReplaceAll ⟨s.toArray⟩ ⟨#[c]⟩ ⟨#[x, y]⟩ m w (by rw [str_size]; omega) hm (by show 1 ≤ 1; omega) (by
    show _ + Lib.count s [c] * 2 ≤ _
    rw [str_size, Lib.count_one]
    have := List.count_le_length (a := c) (l := s)
    omega)
  have e : Lib.replaceAll (⟨s.toArray⟩ : ByteArray).data.toList (⟨#[c]⟩ : ByteArray).data.toList (⟨#[x, y]⟩ : ByteArray).data.toList = sub1 c [x, y] s := replAll_one c [x, y] s h
  rw [e] at h1
  exact h1
set_option maxHeartbeats 800000 in
theorem quoted_any (s : List UInt8) (W : World) (hs : s.length ≤ 1000000) (hM : MaxAt W) :
    Calls Tryd.prog 53 #[.string ⟨s.toArray⟩] W fun e w' => e = .returned (.string ⟨(quotL s).toArray⟩) ∧ Below W.heap.size W w' := by
  have hl := sub1_len 92 92 92 s
  have H1 := Lib.hid (repl_any s 92 92 92 W hM (by omega) (by decide))
  have H2 := Lib.hid (fun w (hb : Below W.heap.size W w) => repl_any (sub1 92 [92, 92] s) 34 92 34 w (hM.below hb) (by omega) (by decide))
  rw [sub_esc] at H2
  have he := esc_len s
  have hq := Lib.hid (show (⟨#[34]⟩ : ByteArray) ++ ⟨(escL s).toArray⟩ ++ ⟨#[34]⟩ = ⟨(quotL s).toArray⟩ from close_eq 34 34 (by simp))
  generalize sub1 92 [92, 92] s = t at *
  have hsz : ((⟨(escL s).toArray⟩ : ByteArray).size : Int) ≤ 2000000 := by rw [str_size]; omega
  go_enter Tryd.func53, Tryd.ntmps53
  go_wp2_with (first | (go_at_call 75; (with_reducible refine H1.out.mono ?_); rintro e w1 ⟨rfl, hb1⟩) | (go_at_call 75; (with_reducible refine (H2.out _ hb1).mono ?_); rintro e w2 ⟨rfl, hb2⟩))
  go_ret
  exact ⟨ret1_of (congrArg Value.string hq.out), below_on hb1 hb2⟩
end Go.Proofs.YtdfdpckcemdimaaDoor.V
