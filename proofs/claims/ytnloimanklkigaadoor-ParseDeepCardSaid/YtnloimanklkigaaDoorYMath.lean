/- How a text is read as a value: what is read of a text, written, is the text, and what is written is read. Nothing of the program is named here. -/
import Derived.Test.YtnloimanklkigaaDoorVText
namespace Go.Proofs.YtnloimanklkigaaDoor.V
open Go

/-- what reading comes to: an error, or a thing and what stands behind it -/
inductive Rd (α : Type) where
  | bad (e : Int) : Rd α
  | ok (a : α) (r : List UInt8) : Rd α
def Rd.map {α β : Type} (f : α → β) : Rd α → Rd β
  | .bad e => .bad e
  | .ok a r => .ok (f a) r
/-- a text behind its quote, with k bytes read of it -/
def rdT : Nat → List UInt8 → Rd (List UInt8)
  | _, [] => .bad 3
  | k, c :: r => if c.toNat < 32 then .bad 20 else if c = 34 then .ok [] r else if c = 92 then
      (match r with
      | [] => .bad 3
      | d :: r' => if d ≠ 34 ∧ d ≠ 92 then .bad 20 else if k = 4000 then .bad 2 else (rdT (k + 1) r').map (d :: ·))
    else if k = 4000 then .bad 2 else (rdT (k + 1) r).map (c :: ·)
theorem rdT_nil (k : Nat) : rdT k [] = .bad 3 := by rw [rdT]
theorem rdT_low {c : UInt8} (h : c.toNat < 32) (k : Nat) (r : List UInt8) : rdT k (c :: r) = .bad 20 := by unfold rdT; rw [if_pos h]
theorem rdT_end (k : Nat) (r : List UInt8) : rdT k (34 :: r) = .ok [] r := by unfold rdT; rw [if_neg (by decide), if_pos rfl]
theorem rdT_bar (k : Nat) : rdT k [92] = .bad 3 := by unfold rdT; rw [if_neg (by decide), if_neg (by decide), if_pos rfl]
theorem rdT_odd {d : UInt8} (h : d ≠ 34 ∧ d ≠ 92) (k : Nat) (r : List UInt8) : rdT k (92 :: d :: r) = .bad 20 := by
  rw [rdT.eq_def]
  show (if (92 : UInt8).toNat < 32 then _ else if (92 : UInt8) = 34 then _ else if (92 : UInt8) = 92 then _ else _) = _
  rw [if_neg (by decide), if_neg (by decide), if_pos rfl]
  exact if_pos h
theorem rdT_esc {d : UInt8} (h : d = 34 ∨ d = 92) (k : Nat) (r : List UInt8) : rdT k (92 :: d :: r) = if k = 4000 then .bad 2 else (rdT (k + 1) r).map (d :: ·) := by
  rw [rdT.eq_def]
  show (if (92 : UInt8).toNat < 32 then _ else if (92 : UInt8) = 34 then _ else if (92 : UInt8) = 92 then _ else _) = _
  rw [if_neg (by decide), if_neg (by decide), if_pos rfl]
  exact if_neg (by rcases h with rfl | rfl <;> decide)
theorem rdT_char {c : UInt8} (h : ¬ c.toNat < 32) (h2 : c ≠ 34) (h3 : c ≠ 92) (k : Nat) (r : List UInt8) : rdT k (c :: r) = if k = 4000 then .bad 2 else (rdT (k + 1) r).map (c :: ·) := by
  rw [rdT.eq_def]
  show (if c.toNat < 32 then _ else if c = 34 then _ else if c = 92 then _ else _) = _
  rw [if_neg h, if_neg h2, if_neg h3]
theorem map_ok {α β : Type} {f : α → β} {x : Rd α} {b : β} {r : List UInt8} (h : x.map f = .ok b r) : ∃ a, x = .ok a r ∧ b = f a := by
  cases x with
  | bad e => cases h
  | ok a r' =>
    unfold Rd.map at h
    simp only [Rd.ok.injEq] at h
    exact ⟨a, by rw [h.2], h.1.symm⟩
theorem rdT_ok : ∀ (m : Nat) (s : List UInt8), s.length ≤ m → ∀ (k : Nat) (w r : List UInt8), k ≤ 4000 → rdT k s = .ok w r → s = escL w ++ 34 :: r ∧ (∀ c ∈ w, 32 ≤ c.toNat) ∧ w.length + k ≤ 4000 := by
  intro m
  induction m with
  | zero =>
    intro s hs k w r _ h
    obtain rfl := List.eq_nil_of_length_eq_zero (Nat.le_zero.1 hs)
    rw [rdT_nil] at h
    cases h
  | succ m ih =>
    intro s hs k w r hk h
    cases s with
    | nil => rw [rdT_nil] at h; cases h
    | cons c s =>
      rw [List.length_cons] at hs
      by_cases h1 : c.toNat < 32
      · rw [rdT_low h1] at h; cases h
      by_cases h2 : c = 34
      · subst h2
        rw [rdT_end] at h
        simp only [Rd.ok.injEq] at h
        obtain ⟨rfl, rfl⟩ := h
        exact ⟨rfl, (fun c h => by cases h), by simpa using hk⟩
      by_cases h3 : c = 92
      · subst h3
        cases s with
        | nil => rw [rdT_bar] at h; cases h
        | cons d s =>
          rw [List.length_cons] at hs
          by_cases h4 : d = 34 ∨ d = 92
          · rw [rdT_esc h4] at h
            by_cases h5 : k = 4000
            · rw [if_pos h5] at h; cases h
            rw [if_neg h5] at h
            obtain ⟨a, ha, rfl⟩ := map_ok h
            obtain ⟨e1, e2, e3⟩ := ih s (by omega) (k + 1) a r (by omega) ha
            refine ⟨?_, fun x hx => ?_, by rw [List.length_cons]; omega⟩
            · rw [escL, if_pos h4, e1]; rfl
            · rcases List.mem_cons.1 hx with rfl | hx
              · rcases h4 with rfl | rfl <;> decide
              · exact e2 x hx
          · rw [rdT_odd ⟨fun e => h4 (.inl e), fun e => h4 (.inr e)⟩] at h; cases h
      · rw [rdT_char h1 h2 h3] at h
        by_cases h5 : k = 4000
        · rw [if_pos h5] at h; cases h
        rw [if_neg h5] at h
        obtain ⟨a, ha, rfl⟩ := map_ok h
        obtain ⟨e1, e2, e3⟩ := ih s (by omega) (k + 1) a r (by omega) ha
        refine ⟨?_, fun x hx => ?_, by rw [List.length_cons]; omega⟩
        · rw [escL, if_neg (by rintro (h | h) <;> contradiction), e1]; rfl
        · rcases List.mem_cons.1 hx with rfl | hx
          · omega
          · exact e2 x hx
theorem rdT_esc_ok : ∀ (w : List UInt8) (k : Nat) (r : List UInt8), (∀ c ∈ w, 32 ≤ c.toNat) → w.length + k ≤ 4000 → rdT k (escL w ++ 34 :: r) = .ok w r := by
  intro w
  induction w with
  | nil => intro k r _ _; exact rdT_end k r
  | cons c w ih =>
    intro k r hc hk
    rw [List.length_cons] at hk
    have h0 := hc c (by simp)
    have hi := ih (k + 1) r (fun x hx => hc x (by simp [hx])) (by omega)
    rw [escL]
    by_cases h : c = 34 ∨ c = 92
    · rw [if_pos h]
      show rdT k (92 :: c :: (escL w ++ 34 :: r)) = _
      rw [rdT_esc h, if_neg (by omega), hi]
      rfl
    · rw [if_neg h]
      show rdT k (c :: (escL w ++ 34 :: r)) = _
      rw [rdT_char (by omega) (fun e => h (.inl e)) (fun e => h (.inr e)), if_neg (by omega), hi]
      rfl
theorem head_front {a : List UInt8} (h : a ≠ []) (b : List UInt8) : (a ++ b).head? = a.head? := by
  cases a with
  | nil => exact absurd rfl h
  | cons x a => rfl
/-! ### numbers -/
theorem dec_of : ∀ (m : Nat) (d : List UInt8), d.length ≤ m → d ≠ [] → (∀ c ∈ d, isDig c = true) → (d.length = 1 ∨ d.head? ≠ some 48) → Lib.decDigits (decVal d) = d := by
  intro m
  induction m with
  | zero => intro d h hn; exact absurd (List.eq_nil_of_length_eq_zero (Nat.le_zero.1 h)) hn
  | succ m ih =>
    intro d h hn hd hz
    obtain ⟨a, c, rfl⟩ : ∃ a c, d = a ++ [c] := ⟨d.dropLast, d.getLast hn, (List.dropLast_concat_getLast hn).symm⟩
    have hc := hd c (by simp)
    unfold isDig at hc
    rw [Bool.and_eq_true, decide_eq_true_eq, decide_eq_true_eq] at hc
    have hcc : UInt8.ofNat (48 + (c.toNat - 48)) = c := by
      rw [show 48 + (c.toNat - 48) = c.toNat by omega]
      exact UInt8.ofNat_toNat
    rw [decVal_snoc]
    by_cases ha : a = []
    · subst ha
      show Lib.decDigits (10 * 0 + _) = _
      rw [Lib.decDigits_one (by omega), show 10 * 0 + (c.toNat - 48) = c.toNat - 48 by omega, hcc]
      rfl
    · have hal : 0 < a.length := List.length_pos_iff.2 ha
      rw [List.length_append, List.length_singleton] at h hz
      have hz2 : a.head? ≠ some 48 := by
        have := hz.resolve_left (by omega)
        rwa [head_front ha] at this
      have hi := ih a (by omega) ha (fun x hx => hd x (by simp [hx])) (.inr hz2)
      have h1 : 1 ≤ decVal a := by
        rcases Nat.eq_zero_or_pos (decVal a) with h0 | h0
        · rw [h0, Lib.decDigits_one (by decide)] at hi
          rw [← hi] at hz2
          exact absurd rfl hz2
        · exact h0
      rw [Lib.decDigits, dif_neg (by omega), show (10 * decVal a + (c.toNat - 48)) / 10 = decVal a by omega, show (10 * decVal a + (c.toNat - 48)) % 10 = c.toNat - 48 by omega, hi, hcc]
theorem dec_lead (u : Nat) : (Lib.decDigits u).length = 1 ∨ (Lib.decDigits u).head? ≠ some 48 := by
  induction u using Nat.strongRecOn with
  | ind u ih =>
    by_cases h : u < 10
    · rw [Lib.decDigits_one h]; exact .inl rfl
    · refine .inr ?_
      rw [Lib.decDigits, dif_neg h, head_front (dec_ne _)]
      rcases ih (u / 10) (by omega) with h1 | h1
      · by_cases h2 : u / 10 < 10
        · rw [Lib.decDigits_one h2]
          intro e
          simp only [List.head?_cons, Option.some.injEq] at e
          have := congrArg UInt8.toNat e
          rw [digit_of _ h2] at this
          have h48 : (48 : UInt8).toNat = 48 := rfl
          omega
        · exfalso
          rw [Lib.decDigits, dif_neg h2, List.length_append, List.length_singleton] at h1
          have := List.length_pos_iff.2 (dec_ne (u / 10 / 10))
          omega
      · exact h1
def minus (s : List UInt8) : Bool := decide (s.head? = some 45)
def afterSign (s : List UInt8) : List UInt8 := if minus s then s.tail else s
def rdN (s : List UInt8) : Rd Int :=
  if (afterSign s).takeWhile isDig = [] ∨ (1 < ((afterSign s).takeWhile isDig).length ∧ ((afterSign s).takeWhile isDig).head? = some 48) ∨ (minus s = true ∧ (afterSign s).takeWhile isDig = [48]) then .bad 20
  else if 1099511627776 < decVal ((afterSign s).takeWhile isDig) then .bad 2
  else .ok (if minus s then -(decVal ((afterSign s).takeWhile isDig) : Int) else decVal ((afterSign s).takeWhile isDig)) ((afterSign s).dropWhile isDig)
theorem takeWhile_all {p : UInt8 → Bool} : ∀ (l : List UInt8), ∀ c ∈ l.takeWhile p, p c = true := by
  intro l
  induction l with
  | nil => intro c h; cases h
  | cons a l ih =>
    intro c h
    rw [List.takeWhile_cons] at h
    split at h
    case isTrue hp =>
      rcases List.mem_cons.1 h with rfl | h
      · exact hp
      · exact ih c h
    case isFalse => cases h
theorem dropWhile_delim : ∀ (l : List UInt8), Delim (l.dropWhile isDig) := by
  intro l
  induction l with
  | nil => intro c t e; cases e
  | cons a l ih =>
    rw [List.dropWhile_cons]
    split
    case isTrue => exact ih
    case isFalse hp =>
      intro c t e
      injection e with e1 _
      rw [← e1]
      simpa using hp
theorem while_append : ∀ (d r : List UInt8), (∀ c ∈ d, isDig c = true) → Delim r → (d ++ r).takeWhile isDig = d ∧ (d ++ r).dropWhile isDig = r := by
  intro d
  induction d with
  | nil =>
    intro r _ hr
    cases r with
    | nil => exact ⟨rfl, rfl⟩
    | cons c r =>
      have := hr c r rfl
      rw [List.nil_append, List.takeWhile_cons, List.dropWhile_cons, this]
      exact ⟨rfl, rfl⟩
  | cons c d ih =>
    intro r hd hr
    obtain ⟨h1, h2⟩ := ih r (fun x hx => hd x (by simp [hx])) hr
    rw [List.cons_append, List.takeWhile_cons, List.dropWhile_cons, hd c (by simp)]
    simp only [if_true]
    exact ⟨by rw [h1], h2⟩
theorem rdN_ok {s r : List UInt8} {z : Int} (h : rdN s = .ok z r) : s = Lib.itoa z ++ r ∧ (-1099511627776 ≤ z ∧ z ≤ 1099511627776) ∧ Delim r := by
  unfold rdN at h
  split at h
  case isTrue => cases h
  case isFalse hno =>
    split at h
    case isTrue => cases h
    case isFalse hle =>
      simp only [Rd.ok.injEq] at h
      obtain ⟨hz, hr⟩ := h
      have hsp := List.takeWhile_append_dropWhile (p := isDig) (l := afterSign s)
      have hdd := takeWhile_all (p := isDig) (afterSign s)
      have hdl := dropWhile_delim (afterSign s)
      rw [hr] at hsp hdl
      generalize (afterSign s).takeWhile isDig = d at *
      have h1 : d ≠ [] := fun e => hno (.inl e)
      have h2 : d.length = 1 ∨ d.head? ≠ some 48 := by
        by_cases h3 : d.head? = some 48
        · refine .inl ?_
          have h4 : ¬ 1 < d.length := fun h4 => hno (.inr (.inl ⟨h4, h3⟩))
          have := List.length_pos_iff.2 h1
          omega
        · exact .inr h3
      have hv := dec_of d.length d (Nat.le_refl _) h1 hdd h2
      cases hm : minus s with
      | false =>
        rw [hm] at hz
        simp only [Bool.false_eq_true, if_false] at hz
        unfold afterSign at hsp
        rw [hm] at hsp
        simp only [Bool.false_eq_true, if_false] at hsp
        refine ⟨?_, by omega, hdl⟩
        unfold Lib.itoa
        rw [if_neg (by omega), ← hsp, ← hz, Int.toNat_natCast, hv]
      | true =>
        rw [hm] at hz
        simp only [if_true] at hz
        unfold afterSign at hsp
        rw [hm] at hsp
        simp only [if_true] at hsp
        have h0 : decVal d ≠ 0 := by
          intro h0
          rw [h0, Lib.decDigits_one (by decide)] at hv
          exact hno (.inr (.inr ⟨hm, hv.symm⟩))
        obtain ⟨t, rfl⟩ : ∃ t, s = 45 :: t := by
          unfold minus at hm
          rw [decide_eq_true_eq] at hm
          cases s with
          | nil => cases hm
          | cons c t =>
            simp only [List.head?_cons, Option.some.injEq] at hm
            exact ⟨t, by rw [hm]⟩
        refine ⟨?_, by omega, hdl⟩
        unfold Lib.itoa
        rw [if_pos (by omega), List.cons_append, show z.natAbs = decVal d by omega, hv]
        rw [List.tail_cons] at hsp
        rw [hsp]
theorem rdN_itoa {z : Int} {r : List UInt8} (h : -1099511627776 ≤ z ∧ z ≤ 1099511627776) (hr : Delim r) : rdN (Lib.itoa z ++ r) = .ok z r := by
  unfold Lib.itoa
  by_cases hz : z < 0
  · rw [if_pos hz]
    obtain ⟨d1, v1⟩ := dec_digits z.natAbs z.natAbs (Nat.le_refl _)
    obtain ⟨w1, w2⟩ := while_append _ r d1 hr
    have hm : minus (45 :: (Lib.decDigits z.natAbs) ++ r) = true := rfl
    have ha : afterSign (45 :: (Lib.decDigits z.natAbs) ++ r) = Lib.decDigits z.natAbs ++ r := by unfold afterSign; rw [hm]; rfl
    unfold rdN
    rw [ha, w1, w2, v1, hm]
    rw [if_neg, if_neg (by omega)]
    · simp only [if_true, Rd.ok.injEq, and_true]; omega
    · rintro (h1 | ⟨h1, h2⟩ | ⟨_, h2⟩)
      · exact dec_ne _ h1
      · rcases dec_lead z.natAbs with h3 | h3
        · omega
        · exact h3 h2
      · rw [h2] at v1
        have : decVal [48] = 0 := rfl
        omega
  · rw [if_neg hz]
    obtain ⟨d1, v1⟩ := dec_digits z.toNat z.toNat (Nat.le_refl _)
    obtain ⟨w1, w2⟩ := while_append _ r d1 hr
    have hm : minus (Lib.decDigits z.toNat ++ r) = false := by
      obtain ⟨c, t, hc, hd⟩ := dec_head z.toNat
      rw [hc]
      unfold minus
      rw [decide_eq_false_iff_not]
      intro e
      simp only [List.cons_append, List.head?_cons, Option.some.injEq] at e
      rw [e] at hd
      exact absurd hd (by decide)
    have ha : afterSign (Lib.decDigits z.toNat ++ r) = Lib.decDigits z.toNat ++ r := by unfold afterSign; rw [hm]; rfl
    unfold rdN
    rw [ha, w1, w2, v1, hm]
    rw [if_neg, if_neg (by omega)]
    · simp only [Bool.false_eq_true, if_false, Rd.ok.injEq, and_true]; omega
    · rintro (h1 | ⟨h1, h2⟩ | ⟨h1, _⟩)
      · exact dec_ne _ h1
      · rcases dec_lead z.toNat with h3 | h3
        · omega
        · exact h3 h2
      · cases h1
end Go.Proofs.YtnloimanklkigaaDoor.V
