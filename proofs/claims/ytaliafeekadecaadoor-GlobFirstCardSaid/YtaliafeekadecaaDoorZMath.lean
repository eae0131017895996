/- Which texts are of which patterns: the mathematics alone. Nothing of the program is named here. -/
import Derived.Test.YtaliafeekadecaaDoorMath
namespace Go.Proofs.YtaliafeekadecaaDoor.Z

/-- is a part one of a pattern's part? -/
def gm : List UInt8 → List UInt8 → Bool
  | [], s => s.isEmpty
  | c :: p, s => if c = 42 then (List.range (s.length + 1)).any (fun k => gm p (s.drop k)) else
    match s with
    | [] => false
    | b :: r => (decide (c = 63) || decide (c = b)) && gm p r
theorem gm_nil (s : List UInt8) : gm [] s = s.isEmpty := by rw [gm]
theorem gm_star0 (p s : List UInt8) : gm (42 :: p) s = (List.range (s.length + 1)).any (fun k => gm p (s.drop k)) := by
  cases s <;> rw [gm.eq_def] <;> rfl
theorem gm_star (p s : List UInt8) : gm (42 :: p) s = true ↔ ∃ k, k ≤ s.length ∧ gm p (s.drop k) = true := by
  rw [gm_star0, List.any_eq_true]
  constructor
  · rintro ⟨k, hk, h⟩
    exact ⟨k, by have := List.mem_range.1 hk; omega, h⟩
  · rintro ⟨k, hk, h⟩
    exact ⟨k, List.mem_range.2 (by omega), h⟩
theorem gm_none {c : UInt8} (p : List UInt8) (h : c ≠ 42) : gm (c :: p) [] = false := by rw [gm, if_neg h]
theorem gm_one {c : UInt8} (p : List UInt8) (b : UInt8) (r : List UInt8) (h : c ≠ 42) : gm (c :: p) (b :: r) = ((decide (c = 63) || decide (c = b)) && gm p r) := by rw [gm, if_neg h]
/-- a pattern in two -/
theorem gm_append : ∀ (p q s : List UInt8), gm (p ++ q) s = true ↔ ∃ k, k ≤ s.length ∧ gm p (s.take k) = true ∧ gm q (s.drop k) = true := by
  intro p
  induction p with
  | nil =>
    intro q s
    constructor
    · intro h
      exact ⟨0, Nat.zero_le _, by rw [gm_nil]; rfl, h⟩
    · rintro ⟨k, hk, h1, h2⟩
      rw [gm_nil, List.isEmpty_iff, List.take_eq_nil_iff] at h1
      rcases h1 with rfl | rfl
      · exact h2
      · simpa using h2
  | cons c p ih =>
    intro q s
    rw [List.cons_append]
    by_cases hc : c = 42
    · subst hc
      rw [gm_star]
      constructor
      · rintro ⟨k, hk, h⟩
        obtain ⟨j, hj, h1, h2⟩ := (ih q (s.drop k)).1 h
        rw [List.length_drop] at hj
        refine ⟨k + j, by omega, (gm_star _ _).2 ⟨k, by rw [List.length_take]; omega, ?_⟩, ?_⟩
        · rw [List.drop_take]
          rw [show k + j - k = j by omega]
          exact h1
        · rw [List.drop_drop] at h2
          exact h2
      · rintro ⟨k, hk, h1, h2⟩
        obtain ⟨j, hj, h3⟩ := (gm_star _ _).1 h1
        rw [List.length_take] at hj
        refine ⟨j, by omega, (ih q (s.drop j)).2 ⟨k - j, by rw [List.length_drop]; omega, ?_, ?_⟩⟩
        · rw [List.drop_take] at h3
          exact h3
        · rw [List.drop_drop, show j + (k - j) = k by omega]
          exact h2
    · cases s with
      | nil =>
        rw [gm_none _ hc]
        constructor
        · intro h; cases h
        · rintro ⟨k, hk, h1, _⟩
          simp [gm_none _ hc] at h1
      | cons b r =>
        rw [gm_one _ _ _ hc]
        constructor
        · intro h
          rw [Bool.and_eq_true] at h
          obtain ⟨k, hk, h1, h2⟩ := (ih q r).1 h.2
          refine ⟨k + 1, by simp; omega, ?_, by simpa using h2⟩
          rw [List.take_succ_cons, gm_one _ _ _ hc, h.1, h1]
          rfl
        · rintro ⟨k, hk, h1, h2⟩
          cases k with
          | zero => simp [gm_none _ hc] at h1
          | succ k =>
            rw [List.take_succ_cons, gm_one _ _ _ hc, Bool.and_eq_true] at h1
            rw [Bool.and_eq_true]
            exact ⟨h1.1, (ih q r).2 ⟨k, by simpa using hk, h1.2, by simpa using h2⟩⟩
/-- what a pattern leaves once nothing is left -/
theorem gm_empty : ∀ p : List UInt8, gm p [] = p.all (fun c => decide (c = 42)) := by
  intro p
  induction p with
  | nil => rfl
  | cons c p ih =>
    by_cases hc : c = 42
    · subst hc
      rw [List.all_cons, ← ih]
      apply Bool.eq_iff_iff.2
      rw [gm_star]
      simp
    · rw [gm_none _ hc, List.all_cons, decide_eq_false hc]
      rfl
/-- a row of bytes none of which is a star, against a text -/
theorem gm_plain_len : ∀ (p s : List UInt8), (∀ c ∈ p, c ≠ 42) → gm p s = true → s.length = p.length := by
  intro p
  induction p with
  | nil =>
    intro s _ h
    rw [gm_nil, List.isEmpty_iff] at h
    rw [h]
  | cons c p ih =>
    intro s hp h
    have hc : c ≠ 42 := hp c (by simp)
    cases s with
    | nil => rw [gm_none _ hc] at h; cases h
    | cons b r =>
      rw [gm_one _ _ _ hc, Bool.and_eq_true] at h
      have := ih r (fun c hx => hp c (by simp [hx])) h.2
      simp [this]
theorem gm_plain_snoc (p : List UInt8) {c : UInt8} (s : List UInt8) (b : UInt8) (hc : c ≠ 42) : gm (p ++ [c]) (s ++ [b]) = ((decide (c = 63) || decide (c = b)) && gm p s) := by
  apply Bool.eq_iff_iff.2
  rw [gm_append, Bool.and_eq_true]
  constructor
  · rintro ⟨k, hk, h1, h2⟩
    have hl := gm_plain_len [c] _ (by simpa using hc) h2
    rw [List.length_drop, List.length_append] at hl
    simp at hl
    have hks : k = s.length := by simp at hk; omega
    subst hks
    rw [List.take_left] at h1
    rw [List.drop_left, gm_one _ _ _ hc] at h2
    simp only [Bool.and_eq_true] at h2
    exact ⟨h2.1, h1⟩
  · rintro ⟨h1, h2⟩
    refine ⟨s.length, by simp, by rw [List.take_left]; exact h2, ?_⟩
    rw [List.drop_left, gm_one _ _ _ hc, h1]
    rfl
theorem gm_snoc_none (p : List UInt8) {c : UInt8} (hc : c ≠ 42) : gm (p ++ [c]) [] = false := by
  rw [gm_empty]
  simp [hc]
theorem gm_star_end (p s : List UInt8) : gm (p ++ [42]) s = true ↔ ∃ k, k ≤ s.length ∧ gm p (s.take k) = true := by
  rw [gm_append]
  constructor
  · rintro ⟨k, hk, h1, _⟩; exact ⟨k, hk, h1⟩
  · rintro ⟨k, hk, h1⟩
    exact ⟨k, hk, h1, (gm_star _ _).2 ⟨(s.drop k).length, Nat.le_refl _, by rw [List.drop_length, gm_nil]; rfl⟩⟩
/-- the reference's step at a star -/
theorem gm_star_step (p s : List UInt8) (b : UInt8) : gm (p ++ [42]) (s ++ [b]) = (gm p (s ++ [b]) || gm (p ++ [42]) s) := by
  apply Bool.eq_iff_iff.2
  rw [Bool.or_eq_true, gm_star_end, gm_star_end]
  constructor
  · rintro ⟨k, hk, h⟩
    by_cases hks : k ≤ s.length
    · right
      refine ⟨k, hks, ?_⟩
      rw [List.take_append_of_le_length hks] at h
      exact h
    · left
      rw [List.take_of_length_le (by simp at hk ⊢; omega)] at h
      exact h
  · rintro (h | ⟨k, hk, h⟩)
    · exact ⟨(s ++ [b]).length, Nat.le_refl _, by rw [List.take_length]; exact h⟩
    · exact ⟨k, by simp; omega, by rw [List.take_append_of_le_length hk]; exact h⟩
theorem gm_star_none (p : List UInt8) : gm (p ++ [42]) [] = gm p [] := by
  rw [gm_empty, gm_empty]
  simp

/-! ### the developers' way: only the last star takes more -/
/-- no star stands in it -/
def Bare (p : List UInt8) : Prop := ∀ c ∈ p, c ≠ 42
theorem gm_bare_split {p : List UInt8} (hp : Bare p) (q s : List UInt8) : gm (p ++ q) s = true ↔ p.length ≤ s.length ∧ gm p (s.take p.length) = true ∧ gm q (s.drop p.length) = true := by
  rw [gm_append]
  constructor
  · rintro ⟨k, hk, h1, h2⟩
    have hl := gm_plain_len p _ hp h1
    rw [List.length_take] at hl
    obtain rfl : k = p.length := by omega
    exact ⟨hk, h1, h2⟩
  · rintro ⟨h1, h2, h3⟩
    exact ⟨p.length, h1, h2, h3⟩
/-- where the walk stands: m is the pattern, s the text; it is at a in m, at n in s; the last star, if there is one, stands at st, and has taken the bytes ahead of k -/
structure At (m s : List UInt8) (a n : Nat) (st : Option Nat) (k : Nat) : Prop where
  ha : a ≤ m.length
  hn : n ≤ s.length
  whole : ∀ t, st = some t → t < a ∧ m[t]? = some 42 ∧ k ≤ n ∧ n - k = a - (t + 1) ∧ Bare ((m.drop (t + 1)).take (a - (t + 1))) ∧
    (gm m s = true ↔ gm (m.drop a) (s.drop n) = true ∨ ∃ j, k < j ∧ j ≤ s.length ∧ gm (m.drop (t + 1)) (s.drop j) = true)
  plain : st = none → (gm m s = true ↔ gm (m.drop a) (s.drop n) = true) ∧ k = 0
theorem At.start (m s : List UInt8) : At m s 0 0 none 0 := ⟨Nat.zero_le _, Nat.zero_le _, (fun t h => by cases h), fun _ => ⟨by simp, rfl⟩⟩
theorem drop_cut (m : List UInt8) {t a : Nat} (h : t + 1 ≤ a) : m.drop (t + 1) = (m.drop (t + 1)).take (a - (t + 1)) ++ m.drop a := by
  have h1 := (List.take_append_drop (a - (t + 1)) (m.drop (t + 1))).symm
  rw [List.drop_drop, show t + 1 + (a - (t + 1)) = a by omega] at h1
  exact h1
/-- a new star: the one before it is given up -/
theorem At.star {m s : List UInt8} {a n k : Nat} {st : Option Nat} (h : At m s a n st k) (hm : m[a]? = some 42) : At m s (a + 1) n (some a) n := by
  have hlt := (List.getElem?_eq_some_iff.1 hm).1
  have hget : m.drop a = 42 :: m.drop (a + 1) := by
    rw [List.drop_eq_getElem_cons hlt]
    congr 1
    exact (List.getElem?_eq_some_iff.1 hm).2
  have key : gm m s = true ↔ gm (m.drop a) (s.drop n) = true := by
    cases st with
    | none => exact (h.plain rfl).1
    | some t =>
      obtain ⟨h1, h2, h3, h4, h5, h6⟩ := h.whole t rfl
      rw [h6]
      refine ⟨fun hh => hh.elim id ?_, .inl⟩
      rintro ⟨j, hj1, hj2, hj⟩
      rw [drop_cut m (show t + 1 ≤ a by omega), gm_bare_split h5] at hj
      obtain ⟨g1, _, g3⟩ := hj
      have hl : ((m.drop (t + 1)).take (a - (t + 1))).length = a - (t + 1) := by
        rw [List.length_take, List.length_drop]
        have := h.ha
        omega
      rw [hl, List.length_drop] at g1
      rw [hl, List.drop_drop, hget, gm_star] at g3
      obtain ⟨i, hi, hg⟩ := g3
      rw [hget, gm_star]
      rw [List.length_drop] at hi
      have hn := h.hn
      refine ⟨j + (a - (t + 1)) - n + i, by rw [List.length_drop]; omega, ?_⟩
      rw [List.drop_drop] at hg ⊢
      rw [show n + (j + (a - (t + 1)) - n + i) = j + (a - (t + 1)) + i by omega]
      exact hg
  refine ⟨hlt, h.hn, fun t ht => ?_, fun h => by cases h⟩
  cases ht
  refine ⟨Nat.lt_succ_self _, hm, Nat.le_refl _, by omega, ?_, ?_⟩
  · rw [Nat.sub_self, List.take_zero]
    intro c hc
    cases hc
  · rw [key, hget, gm_star]
    have hn := h.hn
    constructor
    · rintro ⟨i, hi, hg⟩
      rw [List.drop_drop] at hg
      rw [List.length_drop] at hi
      cases i with
      | zero => exact .inl hg
      | succ i => exact .inr ⟨n + (i + 1), by omega, by omega, hg⟩
    · rintro (hg | ⟨j, h1, h2, hg⟩)
      · exact ⟨0, Nat.zero_le _, by simpa using hg⟩
      · refine ⟨j - n, by rw [List.length_drop]; omega, ?_⟩
        rw [List.drop_drop, show n + (j - n) = j by omega]
        exact hg
/-- a byte that fits -/
theorem At.fits {m s : List UInt8} {a n k : Nat} {st : Option Nat} (h : At m s a n st k) {c b : UInt8} (hm : m[a]? = some c) (hs : s[n]? = some b) (hc : c ≠ 42) (hf : c = 63 ∨ c = b) : At m s (a + 1) (n + 1) st k := by
  have h1 := (List.getElem?_eq_some_iff.1 hm).1
  have h2 := (List.getElem?_eq_some_iff.1 hs).1
  have e1 : m.drop a = c :: m.drop (a + 1) := by
    rw [List.drop_eq_getElem_cons h1]
    congr 1
    exact (List.getElem?_eq_some_iff.1 hm).2
  have e2 : s.drop n = b :: s.drop (n + 1) := by
    rw [List.drop_eq_getElem_cons h2]
    congr 1
    exact (List.getElem?_eq_some_iff.1 hs).2
  have key : gm (m.drop a) (s.drop n) = gm (m.drop (a + 1)) (s.drop (n + 1)) := by
    rw [e1, e2, gm_one _ _ _ hc]
    have : (decide (c = 63) || decide (c = b)) = true := by simpa using hf
    rw [this, Bool.true_and]
  refine ⟨h1, h2, fun t ht => ?_, fun ht => ?_⟩
  · obtain ⟨g1, g2, g3, g4, g5, g6⟩ := h.whole t ht
    refine ⟨by omega, g2, by omega, by omega, ?_, by rw [g6, key]⟩
    intro x hx
    rw [show a + 1 - (t + 1) = (a - (t + 1)) + 1 by omega, List.take_add_one] at hx
    rcases List.mem_append.1 hx with hx | hx
    · exact g5 x hx
    · rw [List.getElem?_drop, show t + 1 + (a - (t + 1)) = a by omega, hm] at hx
      simp at hx
      rw [hx]
      exact hc
  · obtain ⟨g1, g2⟩ := h.plain ht
    exact ⟨by rw [g1, key], g2⟩
/-- what does not fit: nothing comes of where the walk stands -/
theorem no_fit {m s : List UInt8} {a n : Nat} {b : UInt8} (hs : s[n]? = some b) (hf : ∀ c, m[a]? = some c → c ≠ 42 ∧ c ≠ 63 ∧ c ≠ b) : gm (m.drop a) (s.drop n) = false := by
  have h2 := (List.getElem?_eq_some_iff.1 hs).1
  have e2 : s.drop n = b :: s.drop (n + 1) := by
    rw [List.drop_eq_getElem_cons h2]
    congr 1
    exact (List.getElem?_eq_some_iff.1 hs).2
  rw [e2]
  rcases Nat.lt_or_ge a m.length with h | h
  · rw [List.drop_eq_getElem_cons h]
    obtain ⟨g1, g2, g3⟩ := hf m[a] (List.getElem?_eq_getElem h)
    rw [gm_one _ _ _ g1, decide_eq_false g2, decide_eq_false g3]
    rfl
  · rw [List.drop_eq_nil_of_le h, gm_nil]
    rfl
/-- .. and the star takes one more -/
theorem At.more {m s : List UInt8} {a n k t : Nat} (h : At m s a n (some t) k) {b : UInt8} (hs : s[n]? = some b) (hf : ∀ c, m[a]? = some c → c ≠ 42 ∧ c ≠ 63 ∧ c ≠ b) : At m s (t + 1) (k + 1) (some t) (k + 1) := by
  have h2 := (List.getElem?_eq_some_iff.1 hs).1
  have hno := no_fit hs hf
  obtain ⟨g1, g2, g3, g4, g5, g6⟩ := h.whole t rfl
  have hlt := (List.getElem?_eq_some_iff.1 g2).1
  refine ⟨hlt, by omega, fun t' ht => ?_, fun h => by cases h⟩
  cases ht
  refine ⟨Nat.lt_succ_self _, g2, Nat.le_refl _, by omega, ?_, ?_⟩
  · rw [Nat.sub_self, List.take_zero]
    intro c hc
    cases hc
  · rw [g6, hno]
    constructor
    · rintro (hx | ⟨j, h3, h4, h5⟩)
      · cases hx
      · by_cases hj : j = k + 1
        · subst hj; exact .inl h5
        · exact .inr ⟨j, by omega, h4, h5⟩
    · rintro (hx | ⟨j, h3, h4, h5⟩)
      · exact .inr ⟨k + 1, by omega, by omega, hx⟩
      · exact .inr ⟨j, by omega, h4, h5⟩
theorem At.none {m s : List UInt8} {a n k : Nat} (h : At m s a n none k) {b : UInt8} (hs : s[n]? = some b) (hf : ∀ c, m[a]? = some c → c ≠ 42 ∧ c ≠ 63 ∧ c ≠ b) : gm m s = false := by
  have := (h.plain rfl).1
  rw [no_fit hs hf] at this
  exact Bool.eq_false_iff.2 (fun h => by cases this.1 h)
/-- at the text's end -/
theorem At.done {m s : List UInt8} {a k : Nat} {st : Option Nat} (h : At m s a s.length st k) : gm m s = (m.drop a).all (fun c => decide (c = 42)) := by
  rw [← gm_empty]
  have e : s.drop s.length = [] := List.drop_length
  cases st with
  | none =>
    have := (h.plain rfl).1
    rw [e] at this
    exact Bool.eq_iff_iff.2 this
  | some t =>
    obtain ⟨g1, g2, g3, g4, g5, g6⟩ := h.whole t rfl
    rw [e] at g6
    apply Bool.eq_iff_iff.2
    rw [g6]
    refine ⟨fun hh => hh.elim id ?_, .inl⟩
    rintro ⟨j, h3, h4, h5⟩
    rw [drop_cut m (show t + 1 ≤ a by omega), gm_bare_split g5] at h5
    have hl : ((m.drop (t + 1)).take (a - (t + 1))).length = a - (t + 1) := by
      rw [List.length_take, List.length_drop]
      have := h.ha
      omega
    have := h5.1
    rw [hl, List.length_drop] at this
    omega

/-! ### parts -/
/-- at all slashes; acc: what stands ahead of the part's rest -/
def cutG (acc : List UInt8) : List UInt8 → List (List UInt8)
  | [] => [acc]
  | c :: s => if c = 47 then acc :: cutG [] s else cutG (acc ++ [c]) s
abbrev parts (s : List UInt8) : List (List UInt8) := cutG [] s
def byt (pat : Bool) (c : UInt8) : Bool := (pat && (decide (c = 42) || decide (c = 63))) || ((decide (97 ≤ c) && decide (c ≤ 122)) || (decide (65 ≤ c) && decide (c ≤ 90)) || (decide (48 ≤ c) && decide (c ≤ 57))) || (decide (c = 46) || decide (c = 47) || decide (c = 95) || decide (c = 45))
def okPart (p : List UInt8) : Bool := !(decide (p = []) || decide (p = [46]) || decide (p = [46, 46]))
def rightG (pat : Bool) (s : List UInt8) : Bool := s.all (byt pat) && decide (s.length ≤ 200) && (parts s).all okPart
def matchL : List (List UInt8) → List (List UInt8) → Bool
  | [], [] => true
  | m :: ms, p :: ps => gm m p && matchL ms ps
  | _, _ => false
def matchG (m p : List UInt8) : Bool := matchL (parts m) (parts p)
theorem cutG_append (acc s t : List UInt8) (h : ∀ c ∈ s, c ≠ 47) : cutG acc (s ++ t) = cutG (acc ++ s) t := by
  induction s generalizing acc with
  | nil => simp
  | cons c s ih =>
    rw [List.cons_append, cutG, if_neg (h c (by simp)), ih _ (fun c hc => h c (by simp [hc]))]
    simp
theorem cutG_none {acc s : List UInt8} (h : ∀ c ∈ s, c ≠ 47) : cutG acc s = [acc ++ s] := by
  have := cutG_append acc s [] h
  rw [List.append_nil] at this
  rw [this, cutG]
theorem parts_none {s : List UInt8} (h : ∀ c ∈ s, c ≠ 47) : parts s = [s] := by
  have := cutG_none (acc := []) h
  simpa using this
theorem parts_cut {s t : List UInt8} (h : ∀ c ∈ s, c ≠ 47) : parts (s ++ 47 :: t) = s :: parts t := by
  unfold parts
  rw [cutG_append [] s _ h, cutG, if_pos rfl]
  simp
theorem cutG_len (acc s : List UInt8) : (cutG acc s).length = s.count 47 + 1 := by
  induction s generalizing acc with
  | nil => rfl
  | cons c s ih =>
    rw [cutG]
    by_cases h : c = 47
    · rw [if_pos h, List.length_cons, ih, h]; simp
    · rw [if_neg h, ih, List.count_cons_of_ne h]
theorem cutG_bytes (q : UInt8 → Bool) (acc s : List UInt8) : (cutG acc s).all (fun p => p.all q) = (acc.all q && (s.filter (fun c => decide (c ≠ 47))).all q) := by
  induction s generalizing acc with
  | nil => simp [cutG]
  | cons c s ih =>
    rw [cutG]
    by_cases h : c = 47
    · subst h
      rw [if_pos rfl, List.all_cons, ih]
      simp
    · rw [if_neg h, ih]
      simp [h, Bool.and_assoc]
end Go.Proofs.YtaliafeekadecaaDoor.Z
