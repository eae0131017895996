/- What patterns of marks and stars have: the mathematics of GlobMarks and GlobStars. Nothing of the program is named here. -/
import Derived.Test.YtaliafeekadecaaDoorZMath
namespace Go.Proofs.YtaliafeekadecaaDoor.Z

theorem gm_self : ∀ s : List UInt8, gm s s = true := by
  intro s
  induction s with
  | nil => rfl
  | cons c s ih =>
    by_cases hc : c = 42
    · subst hc
      rw [gm_star]
      exact ⟨1, by simp, ih⟩
    · rw [gm_one _ _ _ hc, ih]
      simp
theorem gm_marks : ∀ (n : Nat) (s : List UInt8), gm (List.replicate n 63) s = decide (s.length = n) := by
  intro n
  induction n with
  | zero =>
    intro s
    rw [List.replicate_zero, gm_nil]
    cases s <;> simp
  | succ n ih =>
    intro s
    rw [List.replicate_succ]
    cases s with
    | nil => rw [gm_none _ (by decide)]; simp
    | cons c s =>
      rw [gm_one _ _ _ (by decide), ih]
      simp
theorem gm_stars : ∀ (n : Nat) (s : List UInt8), 0 < n → gm (List.replicate n 42) s = true := by
  intro n
  induction n with
  | zero => intro s h; omega
  | succ n ih =>
    intro s _
    rw [List.replicate_succ, gm_star]
    refine ⟨s.length, Nat.le_refl _, ?_⟩
    rw [List.drop_length]
    rw [gm_empty]
    simp
theorem byt_more {c : UInt8} (h : byt false c = true) : byt true c = true := by
  unfold byt at h ⊢
  simp only [Bool.false_and, Bool.false_or] at h
  rw [Bool.or_assoc, h, Bool.or_true]
/-- a path that may be has no star and no mark -/
theorem byt_no {c : UInt8} (h : byt false c = true) : c ≠ 42 ∧ c ≠ 63 := by
  constructor <;> (rintro rfl; revert h; decide)
/-- one part -/
theorem right_one {pat : Bool} {s : List UInt8} (h : ∀ c ∈ s, c ≠ 47) : rightG pat s = (s.all (byt pat) && decide (s.length ≤ 200) && okPart s) := by
  unfold rightG
  rw [parts_none h, List.all_cons, List.all_nil, Bool.and_true]
theorem match_one {m p : List UInt8} (hm : ∀ c ∈ m, c ≠ 47) (hp : ∀ c ∈ p, c ≠ 47) : matchG m p = gm m p := by
  unfold matchG
  rw [parts_none hm, parts_none hp, matchL, matchL, Bool.and_true]
theorem okPart_star {s : List UInt8} {c : UInt8} (h : c ∈ s) (hc : c ≠ 46) : okPart s = true := by
  unfold okPart
  have h1 : s ≠ [] := fun e => by rw [e] at h; cases h
  have h2 : s ≠ [46] := fun e => by rw [e] at h; exact hc (by simpa using h)
  have h3 : s ≠ [46, 46] := fun e => by rw [e] at h; exact hc (by simpa using h)
  rw [decide_eq_false h1, decide_eq_false h2, decide_eq_false h3]
  rfl
theorem right_bytes {pat : Bool} {s : List UInt8} (h : rightG pat s = true) : (∀ c ∈ s, byt pat c = true) ∧ s.length ≤ 200 ∧ (parts s).all okPart = true := by
  unfold rightG at h
  rw [Bool.and_eq_true, Bool.and_eq_true, decide_eq_true_eq, List.all_eq_true] at h
  exact ⟨h.1.1, h.1.2, h.2⟩
theorem right_not_nil {s : List UInt8} {pat : Bool} (h : rightG pat s = true) : s ≠ [] := by
  rintro rfl
  have := (right_bytes h).2.2
  revert this
  decide
/-- a pattern of a path's bytes, stars and marks, with no slash and a star or a mark in it, may be -/
theorem right_made {m : List UInt8} {c : UInt8} (hb : ∀ x ∈ m, byt true x = true ∧ x ≠ 47) (hl : m.length ≤ 200) (hc : c ∈ m) (hc2 : c ≠ 46) : rightG true m = true := by
  rw [right_one (fun x hx => (hb x hx).2), okPart_star hc hc2, List.all_eq_true.2 (fun x hx => (hb x hx).1), decide_eq_true hl]
  rfl
section
variable {p : List UInt8} (hr : rightG false p = true) (hno : ∀ c ∈ p, c ≠ 47)
include hr hno
theorem marks_self (hl : p.length ≤ 100) : rightG true (List.replicate p.length 63) = true ∧ matchG (List.replicate p.length 63) p = true := by
  have hne := right_not_nil hr
  have hm : ∀ c ∈ List.replicate p.length 63, byt true c = true ∧ c ≠ (47 : UInt8) := fun c hc => by
    rw [(List.mem_replicate.1 hc).2]
    decide
  refine ⟨right_made (c := 63) hm (by rw [List.length_replicate]; omega) ?_ (by decide), ?_⟩
  · rw [List.mem_replicate]
    exact ⟨fun e => hne (List.eq_nil_of_length_eq_zero e), rfl⟩
  · rw [match_one (fun c hc => (hm c hc).2) hno, gm_marks]
    simp
omit hr in
theorem marks_other {n : Nat} (h : p.length ≠ n) : matchG (List.replicate n 63) p = false := by
  rw [match_one (fun c hc => by rw [(List.mem_replicate.1 hc).2]; decide) hno, gm_marks, decide_eq_false h]
theorem stars_between (hl : p.length ≤ 100) (k : Nat) (a c b : List UInt8) (hab : p = a ++ (c ++ b)) (hk : 0 < k) (hk2 : k ≤ 3) : rightG true (a ++ (List.replicate k 42 ++ b)) = true ∧ matchG (a ++ (List.replicate k 42 ++ b)) p = true := by
  have hby := (right_bytes hr).1
  have hm : ∀ x ∈ a ++ (List.replicate k 42 ++ b), byt true x = true ∧ x ≠ 47 := fun x hc => by
    simp only [List.mem_append, List.mem_replicate] at hc
    rcases hc with hc | ⟨_, rfl⟩ | hc
    · have : x ∈ p := by rw [hab]; simp [hc]
      exact ⟨byt_more (hby x this), hno x this⟩
    · decide
    · have : x ∈ p := by rw [hab]; simp [hc]
      exact ⟨byt_more (hby x this), hno x this⟩
  refine ⟨right_made (c := 42) hm ?_ ?_ (by decide), ?_⟩
  · have : p.length = a.length + (c.length + b.length) := by rw [hab, List.length_append, List.length_append]
    simp only [List.length_append, List.length_replicate]
    omega
  · simp only [List.mem_append, List.mem_replicate]
    exact .inr (.inl ⟨by omega, trivial⟩)
  · rw [match_one (fun x hc => (hm x hc).2) hno, hab, gm_append]
    refine ⟨a.length, by simp, by rw [List.take_left]; exact gm_self a, ?_⟩
    rw [List.drop_left, gm_append]
    exact ⟨c.length, by simp, by rw [List.take_left]; exact gm_stars k c hk, by rw [List.drop_left]; exact gm_self b⟩
end
end Go.Proofs.YtaliafeekadecaaDoor.Z
