/- A star between two rows of bytes; a path of itself, and of as many stars as it has parts. Nothing of the program is named here. -/
import Derived.Lib.Strings
import Derived.Lib.IndexAny
import Derived.Lib.Repeat
import Derived.Test.YtaliafeekadecaaDoorZWords
namespace Go.Proofs.YtaliafeekadecaaDoor.Z

/-- neither a star nor a mark -/
theorem gm_exact : ∀ (p s : List UInt8), (∀ c ∈ p, c ≠ 42 ∧ c ≠ 63) → (gm p s = true ↔ p = s) := by
  intro p
  induction p with
  | nil =>
    intro s _
    rw [gm_nil, List.isEmpty_iff]
    exact ⟨fun h => h.symm, fun h => h.symm⟩
  | cons c p ih =>
    intro s h
    obtain ⟨h1, h2⟩ := h c (by simp)
    cases s with
    | nil => rw [gm_none _ h1]; simp
    | cons b s =>
      rw [gm_one _ _ _ h1, decide_eq_false h2, Bool.false_or, Bool.and_eq_true, decide_eq_true_eq, ih s (fun c hc => h c (by simp [hc]))]
      simp
theorem gm_between (a b p : List UInt8) (ha : ∀ c ∈ a, c ≠ 42 ∧ c ≠ 63) (hb : ∀ c ∈ b, c ≠ 42 ∧ c ≠ 63) : gm (a ++ 42 :: b) p = (decide (a.length + b.length ≤ p.length) && (Lib.hasPrefix p a && Lib.hasSuffix p b)) := by
  apply Bool.eq_iff_iff.2
  unfold Lib.hasPrefix Lib.hasSuffix
  rw [Bool.and_eq_true, Bool.and_eq_true, decide_eq_true_eq, List.isPrefixOf_iff_prefix, List.isSuffixOf_iff_suffix, gm_append]
  constructor
  · rintro ⟨k, hk, h1, h2⟩
    have e1 := (gm_exact a _ ha).1 h1
    obtain ⟨j, hj, h3⟩ := (gm_star b _).1 h2
    have e2 := (gm_exact b _ hb).1 h3
    rw [List.drop_drop] at e2
    rw [List.length_drop] at hj
    refine ⟨?_, ?_, ?_⟩
    · rw [e1, e2, List.length_take, List.length_drop]; omega
    · rw [e1]; exact List.take_prefix k p
    · rw [e2]; exact List.drop_suffix _ p
  · rintro ⟨h0, ⟨r, h1⟩, ⟨q, h2⟩⟩
    have ht : p.take a.length = a := by rw [← h1, List.take_left]
    have hd : p.drop (p.length - b.length) = b := by
      rw [← h2, List.length_append, show q.length + b.length - b.length = q.length by omega, List.drop_left]
    refine ⟨a.length, by omega, (gm_exact a _ ha).2 ht.symm, (gm_star b _).2 ⟨p.length - b.length - a.length, by rw [List.length_drop]; omega, (gm_exact b _ hb).2 ?_⟩⟩
    rw [List.drop_drop, show a.length + (p.length - b.length - a.length) = p.length - b.length by omega, hd]
theorem match_between {a b p : List UInt8} (hr : rightG true (a ++ 42 :: b) = true) (hp : rightG false p = true) (hno : ∀ c ∈ p, c ≠ 47) (ha : ∀ c ∈ a, c ≠ 42 ∧ c ≠ 63 ∧ c ≠ 47) (hb : ∀ c ∈ b, c ≠ 42 ∧ c ≠ 63 ∧ c ≠ 47) :
    (rightG true (a ++ 42 :: b) && (rightG false p && matchG (a ++ 42 :: b) p)) = (decide (a.length + b.length ≤ p.length) && (Lib.hasPrefix p a && Lib.hasSuffix p b)) := by
  rw [hr, hp, Bool.true_and, Bool.true_and, match_one (fun c hc => ?_) hno, gm_between _ _ _ (fun c hc => ⟨(ha c hc).1, (ha c hc).2.1⟩) (fun c hc => ⟨(hb c hc).1, (hb c hc).2.1⟩)]
  rcases List.mem_append.1 hc with hc | hc
  · exact (ha c hc).2.2
  · rcases List.mem_cons.1 hc with rfl | hc
    · decide
    · exact (hb c hc).2.2
/-! ### itself -/
theorem right_both {p : List UInt8} (h : rightG false p = true) : rightG true p = true := by
  obtain ⟨h1, h2, h3⟩ := right_bytes h
  unfold rightG
  rw [h3, decide_eq_true h2, List.all_eq_true.2 (fun c hc => byt_more (h1 c hc))]
  rfl
theorem matchL_self : ∀ l : List (List UInt8), matchL l l = true := by
  intro l
  induction l with
  | nil => rfl
  | cons p l ih => rw [matchL, gm_self, ih]; rfl
/-! ### stars -/
/-- a star for each part -/
def starsL : Nat → List UInt8
  | 0 => [42]
  | n + 1 => 42 :: 47 :: starsL n
theorem stars_rep : ∀ n : Nat, Lib.repeatL [42, 47] n ++ [42] = starsL n := by
  intro n
  induction n with
  | zero => rfl
  | succ n ih =>
    rw [Lib.repeatL, List.append_assoc, ih]
    rfl
theorem stars_len : ∀ n : Nat, (starsL n).length = 2 * n + 1 := by
  intro n
  induction n with
  | zero => rfl
  | succ n ih => rw [starsL, List.length_cons, List.length_cons, ih]; omega
theorem stars_parts : ∀ n : Nat, parts (starsL n) = List.replicate (n + 1) [42] := by
  intro n
  induction n with
  | zero => rfl
  | succ n ih =>
    have := parts_cut (s := [42]) (t := starsL n) (by decide)
    rw [starsL, List.replicate_succ, ← ih]
    exact this
theorem stars_bytes : ∀ n : Nat, ∀ c ∈ starsL n, byt true c = true := by
  intro n
  induction n with
  | zero => intro c hc; rw [starsL, List.mem_singleton] at hc; rw [hc]; decide
  | succ n ih =>
    intro c hc
    rw [starsL] at hc
    rcases List.mem_cons.1 hc with rfl | hc
    · decide
    · rcases List.mem_cons.1 hc with rfl | hc
      · decide
      · exact ih c hc
theorem stars_right (n : Nat) (h : n ≤ 99) : rightG true (starsL n) = true := by
  unfold rightG
  rw [List.all_eq_true.2 (stars_bytes n), decide_eq_true (by rw [stars_len]; omega), stars_parts, List.all_eq_true.2 (fun p hp => by rw [(List.mem_replicate.1 hp).2]; decide)]
  rfl
theorem matchL_stars : ∀ l : List (List UInt8), matchL (List.replicate l.length [42]) l = true := by
  intro l
  induction l with
  | nil => rfl
  | cons p l ih =>
    rw [List.length_cons, List.replicate_succ, matchL, ih, Bool.and_true]
    exact gm_stars 1 p (by decide)
theorem stars_match (p : List UInt8) : matchG (starsL (p.count 47)) p = true := by
  unfold matchG
  rw [stars_parts, ← cutG_len [] p]
  exact matchL_stars _
theorem matchL_length : ∀ (A B : List (List UInt8)), matchL A B = true → A.length = B.length := by
  intro A
  induction A with
  | nil => intro B h; cases B with
    | nil => rfl
    | cons b B => cases h
  | cons a A ih => intro B h; cases B with
    | nil => cases h
    | cons b B =>
      rw [matchL, Bool.and_eq_true] at h
      simp [ih B h.2]
theorem stars_more (p : List UInt8) : matchG (starsL (p.count 47 + 1)) p = false := by
  rw [Bool.eq_false_iff]
  intro h
  have := matchL_length _ _ h
  rw [stars_parts, List.length_replicate, cutG_len] at this
  omega
/-- parts that are not empty -/
theorem slashes_few : ∀ (s acc : List UInt8), (cutG acc s).all okPart = true → 2 * s.count 47 + 1 ≤ acc.length + s.length := by
  intro s
  induction s with
  | nil =>
    intro acc h
    rw [cutG, List.all_cons, List.all_nil, Bool.and_true] at h
    cases acc with
    | nil => cases h
    | cons c acc => simp
  | cons c s ih =>
    intro acc h
    rw [cutG] at h
    by_cases hc : c = 47
    · subst hc
      rw [if_pos rfl, List.all_cons, Bool.and_eq_true] at h
      have := ih [] h.2
      have h2 : 0 < acc.length := by
        cases acc with
        | nil => cases h.1
        | cons c acc => simp
      simp at this ⊢
      omega
    · rw [if_neg hc] at h
      have := ih _ h
      rw [List.count_cons_of_ne hc]
      simp at this ⊢
      omega
theorem right_few {p : List UInt8} (h : rightG false p = true) (hl : p.length ≤ 100) : p.count 47 ≤ 49 := by
  have := slashes_few p [] (right_bytes h).2.2
  simp at this
  omega
/-! ### bytes of a pattern -/
theorem byt_ascii {pat : Bool} {c : UInt8} (h : byt pat c = true) : c.toNat < 128 := by
  revert h
  have : ∀ n : Nat, n < 256 → byt pat (UInt8.ofNat n) = true → n < 128 := by cases pat <;> decide +kernel
  intro h
  exact this c.toNat c.toNat_lt (by simpa using h)
theorem contains_none : ∀ (s chars : List UInt8), Lib.containsAny s chars = false → ∀ c ∈ s, c ∉ chars := by
  intro s chars
  induction s with
  | nil => intro _ c hc; cases hc
  | cons b s ih =>
    intro h c hc
    unfold Lib.containsAny at h ih
    rw [decide_eq_false_iff_not, Lib.indexAny] at h
    have hge := Lib.indexAny_ge chars s
    by_cases hb : chars.contains b = true
    · rw [if_pos hb] at h; omega
    · rw [if_neg hb] at h
      have h2 : Lib.indexAny s chars = -1 := by
        by_cases h3 : (Lib.indexAny s chars == -1) = true
        · simpa using h3
        · rw [if_neg h3] at h
          have : Lib.indexAny s chars ≠ -1 := by simpa using h3
          omega
      rcases List.mem_cons.1 hc with rfl | hc
      · intro hm
        exact hb (List.contains_iff_mem.2 hm)
      · exact ih (by rw [h2]; rfl) c hc
end Go.Proofs.YtaliafeekadecaaDoor.Z
