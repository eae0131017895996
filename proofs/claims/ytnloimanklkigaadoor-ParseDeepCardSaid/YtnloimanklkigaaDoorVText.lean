/- The text of a value, and which may be; values that may be have one text just if they are the same. Nothing of the program is named here. -/
import Derived.Test.YtnloimanklkigaaDoorVMath
namespace Go.Proofs.YtnloimanklkigaaDoor.V
open Go

/-! ### decimal digits -/
theorem digit_of (k : Nat) (h : k < 10) : (UInt8.ofNat (48 + k)).toNat = 48 + k := by rw [UInt8.toNat_ofNat']; omega
/-- a byte is a digit -/
def isDig (c : UInt8) : Bool := decide (48 ≤ c.toNat) && decide (c.toNat ≤ 57)
def decVal (l : List UInt8) : Nat := l.foldl (fun a c => 10 * a + (c.toNat - 48)) 0
theorem decVal_snoc (l : List UInt8) (c : UInt8) : decVal (l ++ [c]) = 10 * decVal l + (c.toNat - 48) := by unfold decVal; rw [List.foldl_append]; rfl
theorem dec_digits : ∀ (m u : Nat), u ≤ m → (∀ c ∈ Lib.decDigits u, isDig c = true) ∧ decVal (Lib.decDigits u) = u := by
  intro m
  induction m with
  | zero =>
    intro u h
    obtain rfl : u = 0 := by omega
    rw [Lib.decDigits_one (by decide)]
    exact ⟨by decide, by decide⟩
  | succ m ih =>
    intro u h
    by_cases h10 : u < 10
    · rw [Lib.decDigits_one h10]
      have hd := digit_of u h10
      refine ⟨fun c hc => ?_, ?_⟩
      · rw [List.mem_singleton.1 hc]
        unfold isDig
        rw [hd, decide_eq_true (by omega), decide_eq_true (by omega)]
        rfl
      · show decVal ([] ++ [_]) = u
        rw [decVal_snoc, hd]
        show 10 * 0 + _ = u
        omega
    · have e : Lib.decDigits u = Lib.decDigits (u / 10) ++ [UInt8.ofNat (48 + u % 10)] := by rw [Lib.decDigits, dif_neg h10]
      obtain ⟨i1, i2⟩ := ih (u / 10) (by omega)
      have hd := digit_of (u % 10) (by omega)
      rw [e]
      refine ⟨fun c hc => ?_, ?_⟩
      · rcases List.mem_append.1 hc with hc | hc
        · exact i1 c hc
        · rw [List.mem_singleton.1 hc]
          unfold isDig
          rw [hd, decide_eq_true (by omega), decide_eq_true (by omega)]
          rfl
      · rw [decVal_snoc, i2, hd]
        omega
theorem dec_ne (u : Nat) : Lib.decDigits u ≠ [] := by
  intro h
  have := congrArg List.length h
  rw [Lib.decDigits] at this
  split at this
  · simp at this
  · simp at this
/-- what stands behind a number's digits: nothing, or no digit -/
def Delim (r : List UInt8) : Prop := ∀ c t, r = c :: t → isDig c = false
theorem dig_cut : ∀ (a b r r' : List UInt8), (∀ c ∈ a, isDig c = true) → (∀ c ∈ b, isDig c = true) → Delim r → Delim r' → a ++ r = b ++ r' → a = b ∧ r = r' := by
  intro a
  induction a with
  | nil =>
    intro b r r' _ hb hr _ h
    cases b with
    | nil => exact ⟨rfl, h⟩
    | cons c b =>
      have h1 := hr c (b ++ r') (by simpa using h)
      rw [hb c (by simp)] at h1
      cases h1
  | cons c a ih =>
    intro b r r' ha hb hr hr' h
    cases b with
    | nil =>
      have h1 := hr' c (a ++ r) (by simpa using h.symm)
      rw [ha c (by simp)] at h1
      cases h1
    | cons d b =>
      simp only [List.cons_append, List.cons.injEq] at h
      obtain ⟨e1, e2⟩ := ih b r r' (fun x hx => ha x (by simp [hx])) (fun x hx => hb x (by simp [hx])) hr hr' h.2
      exact ⟨by rw [h.1, e1], e2⟩
theorem nat_cut {u u' : Nat} {r r' : List UInt8} (hr : Delim r) (hr' : Delim r') (h : Lib.decDigits u ++ r = Lib.decDigits u' ++ r') : u = u' ∧ r = r' := by
  obtain ⟨d1, v1⟩ := dec_digits u u (Nat.le_refl _)
  obtain ⟨d2, v2⟩ := dec_digits u' u' (Nat.le_refl _)
  obtain ⟨e1, e2⟩ := dig_cut _ _ r r' d1 d2 hr hr' h
  exact ⟨by rw [← v1, ← v2, e1], e2⟩
/-- the first byte of a number's text -/
def numHead (c : UInt8) : Prop := c = 45 ∨ isDig c = true
theorem dec_head (u : Nat) : ∃ c t, Lib.decDigits u = c :: t ∧ isDig c = true := by
  cases h : Lib.decDigits u with
  | nil => exact absurd h (dec_ne u)
  | cons c t => exact ⟨c, t, rfl, (dec_digits u u (Nat.le_refl _)).1 c (by rw [h]; simp)⟩
theorem itoa_head (n : Int) : ∃ c t, Lib.itoa n = c :: t ∧ numHead c := by
  unfold Lib.itoa
  split
  · exact ⟨45, _, rfl, .inl rfl⟩
  · obtain ⟨c, t, h, hd⟩ := dec_head n.toNat
    exact ⟨c, t, h, .inr hd⟩
theorem itoa_cut {n n' : Int} {r r' : List UInt8} (hr : Delim r) (hr' : Delim r') (h : Lib.itoa n ++ r = Lib.itoa n' ++ r') : n = n' ∧ r = r' := by
  unfold Lib.itoa at h
  by_cases h1 : n < 0
  · rw [if_pos h1] at h
    by_cases h2 : n' < 0
    · rw [if_pos h2] at h
      simp only [List.cons_append, List.cons.injEq, true_and] at h
      obtain ⟨e1, e2⟩ := nat_cut hr hr' h
      exact ⟨by omega, e2⟩
    · rw [if_neg h2] at h
      obtain ⟨c, t, hc, hd⟩ := dec_head n'.toNat
      rw [hc] at h
      simp only [List.cons_append, List.cons.injEq] at h
      rw [← h.1] at hd
      exact absurd hd (by decide)
  · rw [if_neg h1] at h
    by_cases h2 : n' < 0
    · rw [if_pos h2] at h
      obtain ⟨c, t, hc, hd⟩ := dec_head n.toNat
      rw [hc] at h
      simp only [List.cons_append, List.cons.injEq] at h
      rw [h.1] at hd
      exact absurd hd (by decide)
    · rw [if_neg h2] at h
      obtain ⟨e1, e2⟩ := nat_cut hr hr' h
      exact ⟨by omega, e2⟩

/-! ### texts in quotes -/
def escL : List UInt8 → List UInt8
  | [] => []
  | c :: r => (if c = 34 ∨ c = 92 then [92, c] else [c]) ++ escL r
def quotL (s : List UInt8) : List UInt8 := 34 :: (escL s ++ [34])
theorem escL_snoc (s : List UInt8) (c : UInt8) : escL (s ++ [c]) = escL s ++ (if c = 34 ∨ c = 92 then [92, c] else [c]) := by
  induction s with
  | nil => simp [escL]
  | cons d s ih => rw [List.cons_append, escL, escL, ih, List.append_assoc]
theorem esc_cut : ∀ (s s' r r' : List UInt8), escL s ++ 34 :: r = escL s' ++ 34 :: r' → s = s' ∧ r = r' := by
  have hd : ∀ (c : UInt8) (t r : List UInt8), ∃ d u, escL (c :: t) ++ 34 :: r = d :: u ∧ d ≠ 34 := by
    intro c t r
    rw [escL]
    by_cases h : c = 34 ∨ c = 92
    · rw [if_pos h]; exact ⟨92, _, rfl, by decide⟩
    · rw [if_neg h]; exact ⟨c, _, rfl, fun e => h (.inl e)⟩
  intro s
  induction s with
  | nil =>
    intro s' r r' h
    cases s' with
    | nil => simp [escL] at h; exact ⟨rfl, h⟩
    | cons c t =>
      obtain ⟨d, u, e, hne⟩ := hd c t r'
      rw [e] at h
      simp [escL] at h
      exact absurd h.1.symm hne
  | cons c t ih =>
    intro s' r r' h
    cases s' with
    | nil =>
      obtain ⟨d, u, e, hne⟩ := hd c t r
      rw [e] at h
      simp [escL] at h
      exact absurd h.1 hne
    | cons c' t' =>
      rw [escL, escL] at h
      have key : c = c' ∧ escL t ++ 34 :: r = escL t' ++ 34 :: r' := by
        by_cases h1 : c = 34 ∨ c = 92
        · by_cases h2 : c' = 34 ∨ c' = 92
          · rw [if_pos h1, if_pos h2] at h
            simpa using h
          · rw [if_pos h1, if_neg h2] at h
            simp only [List.cons_append, List.nil_append, List.cons.injEq] at h
            exact absurd (.inr h.1.symm) h2
        · by_cases h2 : c' = 34 ∨ c' = 92
          · rw [if_neg h1, if_pos h2] at h
            simp only [List.cons_append, List.nil_append, List.cons.injEq] at h
            exact absurd (.inr h.1) h1
          · rw [if_neg h1, if_neg h2] at h
            simpa using h
      obtain ⟨e1, e2⟩ := ih t' r r' key.2
      exact ⟨by rw [key.1, e1], e2⟩
theorem quot_cut {s s' r r' : List UInt8} (h : quotL s ++ r = quotL s' ++ r') : s = s' ∧ r = r' := by
  unfold quotL at h
  simp only [List.cons_append, List.append_assoc, List.nil_append, List.cons.injEq, true_and] at h
  exact esc_cut s s' r r' h

/-! ### the text of a value -/
mutual
def VT.wr : VT → List UInt8
  | .mk k n s l ks => if k = 1 then Lib.itoa n else if k = 2 then quotL s else if k = 4 then 123 :: (wrM true l ks ++ [125]) else 91 :: (wrL true l ++ [93])
def wrL : Bool → List VT → List UInt8
  | _, [] => []
  | first, x :: r => (if first then [] else [44]) ++ (x.wr ++ wrL false r)
def wrM : Bool → List VT → List (List UInt8) → List UInt8
  | _, [], _ => []
  | first, x :: r, ks => (if first then [] else [44]) ++ (quotL (ks.headD []) ++ 58 :: (x.wr ++ wrM false r ks.tail))
end
theorem wr_eq (k n : Int) (s : List UInt8) (l : List VT) (ks : List (List UInt8)) : (VT.mk k n s l ks).wr = if k = 1 then Lib.itoa n else if k = 2 then quotL s else if k = 4 then 123 :: (wrM true l ks ++ [125]) else 91 :: (wrL true l ++ [93]) := by rw [VT.wr]
theorem wrL_nil (b : Bool) : wrL b [] = [] := by rw [wrL]
theorem wrL_cons (b : Bool) (x : VT) (r : List VT) : wrL b (x :: r) = (if b then [] else [44]) ++ (x.wr ++ wrL false r) := by rw [wrL]
theorem wrM_nil (b : Bool) (ks : List (List UInt8)) : wrM b [] ks = [] := by rw [wrM]
theorem wrM_cons (b : Bool) (x : VT) (r : List VT) (ks : List (List UInt8)) : wrM b (x :: r) ks = (if b then [] else [44]) ++ (quotL (ks.headD []) ++ 58 :: (x.wr ++ wrM false r ks.tail)) := by rw [wrM]

/-! ### which may be -/
def textOk (s : List UInt8) : Bool := s.all (fun c => decide (32 ≤ c.toNat)) && decide (s.length ≤ 4000)
/-- byte by byte -/
def lessL : List UInt8 → List UInt8 → Bool
  | [], [] => false
  | [], _ :: _ => true
  | _ :: _, [] => false
  | a :: r, b :: s => if a = b then lessL r s else decide (a.toNat < b.toNat)
def keysOk : List (List UInt8) → Bool
  | [] => true
  | [k] => textOk k
  | k :: k' :: r => textOk k && lessL k k' && keysOk (k' :: r)
/-- may a value be, but for its items? -/
def oneB (k n : Int) (s : List UInt8) (m : Nat) (ks : List (List UInt8)) : Bool :=
  (decide (1 ≤ k) && decide (k ≤ 4)) && (decide (k = 1) || decide (n = 0)) && (decide (k = 2) || decide (s = [])) && (decide (3 ≤ k) || decide (m = 0)) && (decide (k = 4) || decide (ks = []))
    && (decide (-1099511627776 ≤ n) && decide (n ≤ 1099511627776)) && textOk s && (decide (k ≠ 4) || decide (ks.length = m)) && keysOk ks
mutual
def VT.each : VT → Bool
  | .mk k n s l ks => eachL l && oneB k n s l.length ks
def eachL : List VT → Bool
  | [] => true
  | x :: r => x.each && eachL r
end
theorem each_eq (k n : Int) (s : List UInt8) (l : List VT) (ks : List (List UInt8)) : (VT.mk k n s l ks).each = (eachL l && oneB k n s l.length ks) := by rw [VT.each]
theorem eachL_nil : eachL [] = true := by rw [eachL]
theorem eachL_cons (x : VT) (r : List VT) : eachL (x :: r) = (x.each && eachL r) := by rw [eachL]
theorem eachL_mem {l : List VT} (h : eachL l = true) {x : VT} (hx : x ∈ l) : x.each = true := by
  induction l with
  | nil => cases hx
  | cons y l ih =>
    rw [eachL_cons, Bool.and_eq_true] at h
    rcases List.mem_cons.1 hx with rfl | hx
    · exact h.1
    · exact ih h.2 hx
def VT.okB (v : VT) : Bool := decide (v.count ≤ 2000) && decide (v.depth ≤ 12) && v.each
theorem one_of {k n : Int} {s : List UInt8} {m : Nat} {ks : List (List UInt8)} (h : oneB k n s m ks = true) :
    (k = 1 ∧ s = [] ∧ m = 0 ∧ ks = []) ∨ (k = 2 ∧ n = 0 ∧ m = 0 ∧ ks = []) ∨ (k = 3 ∧ n = 0 ∧ s = [] ∧ ks = []) ∨ (k = 4 ∧ n = 0 ∧ s = [] ∧ ks.length = m) := by
  unfold oneB at h
  simp only [Bool.and_eq_true, Bool.or_eq_true, decide_eq_true_eq] at h
  obtain ⟨⟨⟨⟨⟨⟨⟨⟨⟨h1, h2⟩, h3⟩, h4⟩, h5⟩, h6⟩, _⟩, _⟩, h7⟩, _⟩ := h
  have hk : k = 1 ∨ k = 2 ∨ k = 3 ∨ k = 4 := by omega
  rcases hk with rfl | rfl | rfl | rfl
  · exact .inl ⟨rfl, h4.resolve_left (by decide), h5.resolve_left (by decide), h6.resolve_left (by decide)⟩
  · exact .inr (.inl ⟨rfl, h3.resolve_left (by decide), h5.resolve_left (by decide), h6.resolve_left (by decide)⟩)
  · exact .inr (.inr (.inl ⟨rfl, h3.resolve_left (by decide), h4.resolve_left (by decide), h6.resolve_left (by decide)⟩))
  · exact .inr (.inr (.inr ⟨rfl, h3.resolve_left (by decide), h4.resolve_left (by decide), h7.resolve_left (by decide)⟩))
/-- the first byte tells the kind -/
theorem wr_head {v : VT} (h : v.each = true) : ∃ c t, v.wr = c :: t ∧ ((v.kind = 1 ∧ numHead c) ∨ (v.kind = 2 ∧ c = 34) ∨ (v.kind = 3 ∧ c = 91) ∨ (v.kind = 4 ∧ c = 123)) := by
  obtain ⟨k, n, s, l, ks⟩ := v
  rw [each_eq, Bool.and_eq_true] at h
  rw [wr_eq]
  rcases one_of h.2 with ⟨rfl, _⟩ | ⟨rfl, _⟩ | ⟨rfl, _⟩ | ⟨rfl, _⟩
  · rw [if_pos rfl]
    obtain ⟨c, t, e, hc⟩ := itoa_head n
    exact ⟨c, t, e, .inl ⟨rfl, hc⟩⟩
  · rw [if_neg (by decide), if_pos rfl]
    exact ⟨34, _, rfl, .inr (.inl ⟨rfl, rfl⟩)⟩
  · rw [if_neg (by decide), if_neg (by decide), if_neg (by decide)]
    exact ⟨91, _, rfl, .inr (.inr (.inl ⟨rfl, rfl⟩))⟩
  · rw [if_neg (by decide), if_neg (by decide), if_pos rfl]
    exact ⟨123, _, rfl, .inr (.inr (.inr ⟨rfl, rfl⟩))⟩
theorem kind_same {c : UInt8} {k k' : Int} (h : (k = 1 ∧ numHead c) ∨ (k = 2 ∧ c = 34) ∨ (k = 3 ∧ c = 91) ∨ (k = 4 ∧ c = 123)) (h' : (k' = 1 ∧ numHead c) ∨ (k' = 2 ∧ c = 34) ∨ (k' = 3 ∧ c = 91) ∨ (k' = 4 ∧ c = 123)) : k = k' := by
  have no : ∀ d : UInt8, numHead d → d ≠ 34 ∧ d ≠ 91 ∧ d ≠ 123 := by
    intro d hd
    rcases hd with rfl | hd
    · decide
    · refine ⟨?_, ?_, ?_⟩ <;> (intro e; subst e; exact absurd hd (by decide))
  rcases h with ⟨rfl, h⟩ | ⟨rfl, h⟩ | ⟨rfl, h⟩ | ⟨rfl, h⟩ <;> rcases h' with ⟨rfl, h'⟩ | ⟨rfl, h'⟩ | ⟨rfl, h'⟩ | ⟨rfl, h'⟩
  · rfl
  · exact absurd h' (no c h).1
  · exact absurd h' (no c h).2.1
  · exact absurd h' (no c h).2.2
  · exact absurd h (no c h').1
  · rfl
  · subst h; exact absurd h' (by decide)
  · subst h; exact absurd h' (by decide)
  · exact absurd h (no c h').2.1
  · subst h; exact absurd h' (by decide)
  · rfl
  · subst h; exact absurd h' (by decide)
  · exact absurd h (no c h').2.2
  · subst h; exact absurd h' (by decide)
  · subst h; exact absurd h' (by decide)
  · rfl
theorem delim_at {c : UInt8} {t : List UInt8} (h : isDig c = false) : Delim (c :: t) := fun d u e => by
  injection e with e1 _
  rw [← e1]; exact h
/-- what is said of one value -/
def CutAt (v : VT) : Prop := ∀ (b : VT) (r r' : List UInt8), b.each = true → Delim r → Delim r' → v.wr ++ r = b.wr ++ r' → v = b ∧ r = r'
theorem head_no {v : VT} (h : v.each = true) (r t : List UInt8) (c : UInt8) (hc : c = 93 ∨ c = 125 ∨ c = 44) : v.wr ++ r ≠ c :: t := by
  intro e
  obtain ⟨d, u, hd, hk⟩ := wr_head h
  rw [hd] at e
  injection e with e1 _
  subst e1
  rcases hk with ⟨_, hk⟩ | ⟨_, rfl⟩ | ⟨_, rfl⟩ | ⟨_, rfl⟩
  · rcases hc with rfl | rfl | rfl <;> exact absurd hk (by unfold numHead; decide)
  · exact absurd hc (by decide)
  · exact absurd hc (by decide)
  · exact absurd hc (by decide)
theorem wrL_delim (l : List VT) (r : List UInt8) : Delim (wrL false l ++ 93 :: r) := by
  cases l with
  | nil => rw [wrL_nil]; exact delim_at (by decide)
  | cons x l => rw [wrL_cons]; exact delim_at (by decide)
theorem wrM_delim (l : List VT) (ks : List (List UInt8)) (r : List UInt8) : Delim (wrM false l ks ++ 125 :: r) := by
  cases l with
  | nil => rw [wrM_nil]; exact delim_at (by decide)
  | cons x l => rw [wrM_cons]; exact delim_at (by decide)
theorem list_cut : ∀ (l l' : List VT) (b : Bool) (r r' : List UInt8), (∀ x ∈ l, CutAt x ∧ x.each = true) → (∀ x ∈ l', x.each = true) → wrL b l ++ 93 :: r = wrL b l' ++ 93 :: r' → l = l' ∧ r = r' := by
  intro l
  induction l with
  | nil =>
    intro l' b r r' _ hl' h
    cases l' with
    | nil => rw [wrL_nil] at h; simpa using h
    | cons y l' =>
      rw [wrL_nil, wrL_cons] at h
      cases b with
      | true => exact absurd (by simpa [List.append_assoc] using h.symm) (head_no (hl' y (by simp)) (wrL false l' ++ 93 :: r') r 93 (.inl rfl))
      | false => simp at h
  | cons x l ih =>
    intro l' b r r' hl hl' h
    cases l' with
    | nil =>
      rw [wrL_nil, wrL_cons] at h
      cases b with
      | true => exact absurd (by simpa [List.append_assoc] using h) (head_no (hl x (by simp)).2 (wrL false l ++ 93 :: r) r' 93 (.inl rfl))
      | false => simp at h
    | cons y l' =>
      rw [wrL_cons, wrL_cons, List.append_assoc, List.append_assoc, List.append_assoc, List.append_assoc] at h
      have h := List.append_cancel_left h
      obtain ⟨e1, e2⟩ := (hl x (by simp)).1 y _ _ (hl' y (by simp)) (wrL_delim l r) (wrL_delim l' r') h
      obtain ⟨e3, e4⟩ := ih l' false r r' (fun z hz => hl z (by simp [hz])) (fun z hz => hl' z (by simp [hz])) e2
      exact ⟨by rw [e1, e3], e4⟩
theorem map_cut : ∀ (l l' : List VT) (ks ks' : List (List UInt8)) (b : Bool) (r r' : List UInt8), ks.length = l.length → ks'.length = l'.length → (∀ x ∈ l, CutAt x ∧ x.each = true) → (∀ x ∈ l', x.each = true) → wrM b l ks ++ 125 :: r = wrM b l' ks' ++ 125 :: r' → l = l' ∧ ks = ks' ∧ r = r' := by
  intro l
  induction l with
  | nil =>
    intro l' ks ks' b r r' hk hk' _ hl' h
    obtain rfl := List.eq_nil_of_length_eq_zero hk
    cases l' with
    | nil =>
      obtain rfl := List.eq_nil_of_length_eq_zero hk'
      rw [wrM_nil] at h
      simpa using h
    | cons y l' =>
      rw [wrM_nil, wrM_cons] at h
      cases b <;> simp [quotL] at h
  | cons x l ih =>
    intro l' ks ks' b r r' hk hk' hl hl' h
    obtain ⟨k, ks, rfl⟩ : ∃ k t, ks = k :: t := by
      cases ks with
      | nil => simp at hk
      | cons k t => exact ⟨k, t, rfl⟩
    cases l' with
    | nil =>
      rw [wrM_nil, wrM_cons] at h
      cases b <;> simp [quotL] at h
    | cons y l' =>
      obtain ⟨k', ks', rfl⟩ : ∃ k t, ks' = k :: t := by
        cases ks' with
        | nil => simp at hk'
        | cons k t => exact ⟨k, t, rfl⟩
      rw [wrM_cons, wrM_cons, List.append_assoc, List.append_assoc, List.append_assoc, List.append_assoc] at h
      have h := List.append_cancel_left h
      obtain ⟨q1, q2⟩ := quot_cut h
      simp only [List.cons_append, List.append_assoc, List.cons.injEq, true_and, List.tail_cons] at q2
      simp only [List.headD_cons] at q1
      obtain ⟨e1, e2⟩ := (hl x (by simp)).1 y _ _ (hl' y (by simp)) (wrM_delim l ks r) (wrM_delim l' ks' r') q2
      obtain ⟨e3, e4, e5⟩ := ih l' ks ks' false r r' (by simpa using hk) (by simpa using hk') (fun z hz => hl z (by simp [hz])) (fun z hz => hl' z (by simp [hz])) e2
      exact ⟨by rw [e1, e3], by rw [q1, e4], e5⟩
/-- a text tells its value -/
theorem wr_cut : ∀ (m : Nat) (v : VT), v.count ≤ m → v.each = true → CutAt v := by
  intro m
  induction m with
  | zero => intro v h; have := count_pos v; omega
  | succ m ih =>
    intro v hc he b r r' hb hr hr' h
    obtain ⟨c, t, hv, hk⟩ := wr_head he
    obtain ⟨c', t', hbv, hk'⟩ := wr_head hb
    have hkk : v.kind = b.kind := by
      rw [hv, hbv] at h
      simp only [List.cons_append, List.cons.injEq] at h
      rw [← h.1] at hk'
      exact kind_same hk hk'
    clear hv hbv hk hk'
    obtain ⟨k, n, s, l, ks⟩ := v
    obtain ⟨k', n', s', l', ks'⟩ := b
    obtain rfl : k = k' := hkk
    rw [count_eq] at hc
    rw [each_eq, Bool.and_eq_true] at he hb
    rw [wr_eq, wr_eq] at h
    have hl : ∀ x ∈ l, CutAt x ∧ x.each = true := fun x hx => ⟨ih x (by have := countL_mem hx; omega) (eachL_mem he.1 hx), eachL_mem he.1 hx⟩
    have hl' : ∀ x ∈ l', x.each = true := fun x hx => eachL_mem hb.1 hx
    rcases one_of he.2 with ⟨rfl, rfl, e2, rfl⟩ | ⟨rfl, rfl, e2, rfl⟩ | ⟨rfl, rfl, rfl, rfl⟩ | ⟨rfl, rfl, rfl, e2⟩
    · rcases one_of hb.2 with ⟨_, rfl, f2, rfl⟩ | ⟨f, _⟩ | ⟨f, _⟩ | ⟨f, _⟩
      · obtain rfl := List.eq_nil_of_length_eq_zero e2
        obtain rfl := List.eq_nil_of_length_eq_zero f2
        rw [if_pos rfl, if_pos rfl] at h
        obtain ⟨g1, g2⟩ := itoa_cut hr hr' h
        exact ⟨by rw [g1], g2⟩
      · exact absurd f (by decide)
      · exact absurd f (by decide)
      · exact absurd f (by decide)
    · rcases one_of hb.2 with ⟨f, _⟩ | ⟨_, rfl, f2, rfl⟩ | ⟨f, _⟩ | ⟨f, _⟩
      · exact absurd f (by decide)
      · obtain rfl := List.eq_nil_of_length_eq_zero e2
        obtain rfl := List.eq_nil_of_length_eq_zero f2
        rw [if_neg (by decide), if_pos rfl, if_neg (by decide), if_pos rfl] at h
        obtain ⟨g1, g2⟩ := quot_cut h
        exact ⟨by rw [g1], g2⟩
      · exact absurd f (by decide)
      · exact absurd f (by decide)
    · rcases one_of hb.2 with ⟨f, _⟩ | ⟨f, _⟩ | ⟨_, rfl, rfl, rfl⟩ | ⟨f, _⟩
      · exact absurd f (by decide)
      · exact absurd f (by decide)
      · rw [if_neg (by decide), if_neg (by decide), if_neg (by decide), if_neg (by decide), if_neg (by decide), if_neg (by decide)] at h
        simp only [List.cons_append, List.append_assoc, List.nil_append, List.cons.injEq, true_and] at h
        obtain ⟨g1, g2⟩ := list_cut l l' true r r' hl hl' h
        exact ⟨by rw [g1], g2⟩
      · exact absurd f (by decide)
    · rcases one_of hb.2 with ⟨f, _⟩ | ⟨f, _⟩ | ⟨f, _⟩ | ⟨_, rfl, rfl, f2⟩
      · exact absurd f (by decide)
      · exact absurd f (by decide)
      · exact absurd f (by decide)
      · rw [if_neg (by decide), if_neg (by decide), if_pos rfl, if_neg (by decide), if_neg (by decide), if_pos rfl] at h
        simp only [List.cons_append, List.append_assoc, List.nil_append, List.cons.injEq, true_and] at h
        obtain ⟨g1, g2, g3⟩ := map_cut l l' ks ks' true r r' e2 f2 hl hl' h
        exact ⟨by rw [g1, g2], g3⟩
theorem wr_inj {a b : VT} (ha : a.each = true) (hb : b.each = true) (h : a.wr = b.wr) : a = b := by
  have hd : Delim [] := fun c t e => by cases e
  exact (wr_cut _ a (Nat.le_refl _) ha b [] [] hb hd hd (by rw [h])).1
end Go.Proofs.YtnloimanklkigaaDoor.V
