/- A text that breaks off: what reading it comes to. Nothing of the program is named here. -/
import Derived.Test.YtnloimanklkigaaDoorYRead
namespace Go.Proofs.YtnloimanklkigaaDoor.V
open Go

/-- what a text that breaks off may come to -/
def Broken (e : Int) (p : List UInt8) : Prop := e = 3 ∨ (e = 20 ∧ p.getLast? = some 45) ∨ (e = 21 ∧ p.getLast? = some 91)
theorem Broken.short (p : List UInt8) : Broken 3 p := .inl rfl
theorem last_back {a p : List UInt8} {c : UInt8} (h : p.getLast? = some c) : (a ++ p).getLast? = some c := by
  rw [List.getLast?_append, h]; rfl
theorem Broken.ahead {e : Int} {p : List UInt8} (h : Broken e p) (a : List UInt8) : Broken e (a ++ p) := by
  rcases h with h | ⟨h1, h2⟩ | ⟨h1, h2⟩
  · exact .inl h
  · exact .inr (.inl ⟨h1, last_back h2⟩)
  · exact .inr (.inr ⟨h1, last_back h2⟩)
theorem break_at {p q a b : List UInt8} (h : p ++ q = a ++ b) : (∃ u, u ≠ [] ∧ p ++ u = a ∧ q = u ++ b) ∨ (∃ v, p = a ++ v ∧ v ++ q = b) := by
  rcases List.append_eq_append_iff.1 h with ⟨u, h1, h2⟩ | ⟨v, h1, h2⟩
  · by_cases hu : u = []
    · subst hu
      refine .inr ⟨[], ?_, ?_⟩
      · rw [h1, List.append_nil, List.append_nil]
      · rw [h2]; rfl
    · exact .inl ⟨u, hu, h1.symm, h2⟩
  · exact .inr ⟨v, h1, h2.symm⟩
/-- a text in quotes that breaks off -/
theorem rdT_cut : ∀ (w : List UInt8) (k : Nat) (p q : List UInt8), (∀ c ∈ w, 32 ≤ c.toNat) → w.length + k ≤ 4000 → q ≠ [] → p ++ q = escL w ++ [34] → rdT k p = .bad 3 := by
  intro w
  induction w with
  | nil =>
    intro k p q _ _ hq h
    cases p with
    | nil => exact rdT_nil k
    | cons c p =>
      simp only [escL, List.nil_append, List.cons_append, List.cons.injEq, List.append_eq_nil_iff] at h
      exact absurd h.2.2 hq
  | cons c w ih =>
    intro k p q hc hk hq h
    rw [List.length_cons] at hk
    cases p with
    | nil => exact rdT_nil k
    | cons d p =>
      have h0 := hc c (by simp)
      rw [escL] at h
      by_cases hs : c = 34 ∨ c = 92
      · rw [if_pos hs] at h
        simp only [List.cons_append, List.nil_append, List.cons.injEq] at h
        obtain ⟨rfl, h⟩ := h
        cases p with
        | nil => exact rdT_bar k
        | cons d2 p =>
          simp only [List.cons_append, List.cons.injEq] at h
          obtain ⟨rfl, h⟩ := h
          rw [rdT_esc hs, if_neg (by omega), ih (k + 1) p q (fun x hx => hc x (by simp [hx])) (by omega) hq h]
          rfl
      · rw [if_neg hs] at h
        simp only [List.cons_append, List.nil_append, List.cons.injEq] at h
        obtain ⟨rfl, h⟩ := h
        rw [rdT_char (by omega) (fun e => hs (.inl e)) (fun e => hs (.inr e)), if_neg (by omega), ih (k + 1) p q (fun x hx => hc x (by simp [hx])) (by omega) hq h]
        rfl
theorem rdK_cut {prev : Option (List UInt8)} {k p q : List UInt8} (hk : textOk k = true) (hp : ∀ x, prev = some x → lessL x k = true) (hq : q ≠ []) (h : p ++ q = quotL k ++ [58]) : rdK prev p = .bad 3 := by
  obtain ⟨h1, h2⟩ := textOk_parts hk
  cases p with
  | nil => rw [rdK]
  | cons c p =>
    unfold quotL at h
    simp only [List.cons_append, List.append_assoc, List.nil_append, List.cons.injEq] at h
    obtain ⟨rfl, h⟩ := h
    rw [rdK, if_neg (by decide)]
    have h : p ++ q = (escL k ++ [34]) ++ [58] := by simpa using h
    rcases break_at h with ⟨u, hu, e1, _⟩ | ⟨v, e1, e2⟩
    · rw [rdT_cut k 0 p u h1 (by omega) hu e1]
    · have hv : v = [] := by
        cases v with
        | nil => rfl
        | cons x v => simp only [List.cons_append, List.cons.injEq, List.append_eq_nil_iff] at e2; exact absurd e2.2.2 hq
      subst hv
      rw [e1, List.append_nil, show escL k ++ [34] = escL k ++ 34 :: [] from rfl, rdT_esc_ok k 0 [] h1 (by omega)]
      simp only []
      rw [if_neg]
      intro g
      cases prev with
      | none => simp at g
      | some x => simp [hp x rfl] at g
theorem decVal_le : ∀ (b a : List UInt8), decVal a ≤ decVal (a ++ b) := by
  intro b
  induction b with
  | nil => intro a; rw [List.append_nil]; exact Nat.le_refl _
  | cons c b ih =>
    intro a
    have h1 := ih (a ++ [c])
    rw [decVal_snoc, List.append_assoc] at h1
    have : a ++ c :: b = a ++ ([c] ++ b) := by simp
    rw [this]
    omega
/-- digits that break off -/
theorem digits_cut {u : Nat} {p q : List UInt8} (hp : p ≠ []) (hq : q ≠ []) (h : p ++ q = Lib.decDigits u) : (∀ c ∈ p, isDig c = true) ∧ p.head? ≠ some 48 ∧ decVal p ≤ u := by
  obtain ⟨d1, v1⟩ := dec_digits u u (Nat.le_refl _)
  refine ⟨fun c hc => d1 c (by rw [← h]; simp [hc]), fun e => ?_, ?_⟩
  · have hl := dec_lead u
    rw [← h] at hl
    rcases hl with hl | hl
    · rw [List.length_append] at hl
      have h1 := List.length_pos_iff.2 hp
      have h2 := List.length_pos_iff.2 hq
      omega
    · exact hl (by rw [head_front hp]; exact e)
  · have := decVal_le q p
    rw [h, v1] at this
    exact this
theorem rdN_cut {z : Int} {p q : List UInt8} (hz : -1099511627776 ≤ z ∧ z ≤ 1099511627776) (hp : p ≠ []) (hq : q ≠ []) (h : p ++ q = Lib.itoa z) : (rdN p = .bad 20 ∧ p.getLast? = some 45) ∨ ∃ y, rdN p = .ok y [] := by
  unfold Lib.itoa at h
  by_cases h0 : z < 0
  · rw [if_pos h0] at h
    cases p with
    | nil => exact absurd rfl hp
    | cons c p =>
      simp only [List.cons_append, List.cons.injEq] at h
      obtain ⟨rfl, h⟩ := h
      by_cases hpe : p = []
      · subst hpe
        exact .inl ⟨rfl, rfl⟩
      · obtain ⟨d1, d2, d3⟩ := digits_cut hpe hq h
        have hw := while_append p [] d1 (fun c t e => by cases e)
        rw [List.append_nil] at hw
        have ha : afterSign (45 :: p) = p := rfl
        refine .inr ?_
        unfold rdN
        rw [ha, hw.1, hw.2, if_neg, if_neg (by omega)]
        · exact ⟨_, rfl⟩
        · rintro (h1 | ⟨_, h2⟩ | ⟨_, h2⟩)
          · exact hpe h1
          · exact d2 h2
          · rw [h2] at d2; exact d2 rfl
  · rw [if_neg h0] at h
    obtain ⟨d1, d2, d3⟩ := digits_cut hp hq h
    have hw := while_append p [] d1 (fun c t e => by cases e)
    rw [List.append_nil] at hw
    have hm : minus p = false := by
      unfold minus
      rw [decide_eq_false_iff_not]
      intro e
      have := head_tail e
      have h45 := d1 45 (by rw [this]; simp)
      exact absurd h45 (by decide)
    have ha : afterSign p = p := by unfold afterSign; rw [hm]; rfl
    refine .inr ?_
    unfold rdN
    rw [ha, hw.1, hw.2, hm, if_neg, if_neg (by omega)]
    · exact ⟨_, rfl⟩
    · rintro (h1 | ⟨_, h2⟩ | ⟨h2, _⟩)
      · exact hp h1
      · exact d2 h2
      · cases h2
def CutV (rv : Nat → List UInt8 → Rd (VT × Nat)) (d : Nat) : Prop := ∀ (n : Nat) (t : VT) (p q : List UInt8), t.each = true → t.depth ≤ d → n + t.count ≤ 1999 → q ≠ [] → p ++ q = t.wr →
  (∃ e, rv n p = .bad e ∧ Broken e p) ∨ ∃ x, rv n p = .ok x []
theorem rdL_cut {rv : Nat → List UInt8 → Rd (VT × Nat)} {d : Nat} (H : CutV rv d) (G : Comp rv d) : ∀ (l : List VT) (f n : Nat) (p q : List UInt8), l ≠ [] → eachL l = true → depthL l ≤ d → n + countL l ≤ 1999 → q ≠ [] → p ++ q = wrL true l ++ [93] →
    ∃ e, rdL rv f n p = .bad e ∧ Broken e p := by
  intro l
  induction l with
  | nil => intro f n p q h; exact absurd rfl h
  | cons x l ih =>
    intro f n p q _ he hd hc hq h
    rw [eachL_cons, Bool.and_eq_true] at he
    rw [depthL_cons] at hd
    rw [countL_cons] at hc
    cases f with
    | zero => exact ⟨3, by rw [rdL], .short p⟩
    | succ f =>
      rw [wrL_cons, if_pos rfl, List.nil_append, List.append_assoc] at h
      rcases break_at h with ⟨u, hu, e1, _⟩ | ⟨v, e1, e2⟩
      · rcases H n x p u he.1 (by omega) (by omega) hu e1 with ⟨e, h1, h2⟩ | ⟨y, h1⟩
        · exact ⟨e, by rw [rdL, h1], h2⟩
        · refine ⟨3, ?_, .short p⟩
          obtain ⟨y1, y2⟩ := y
          rw [rdL, h1]
      · cases v with
        | nil =>
          have h1 := G n x [] he.1 (by omega) (by omega) (fun _ c t e => by cases e)
          refine ⟨3, ?_, .short p⟩
          rw [e1, rdL, h1]
        | cons c v =>
          by_cases hl : l = []
          · subst hl
            rw [wrL_nil, List.nil_append] at e2
            simp only [List.cons_append, List.cons.injEq, List.append_eq_nil_iff] at e2
            exact absurd e2.2.2 hq
          · rw [wrL_false hl] at e2
            simp only [List.cons_append, List.cons.injEq] at e2
            obtain ⟨rfl, e2⟩ := e2
            have h1 := G n x (44 :: v) he.1 (by omega) (by omega) (fun _ => delim_sep 44 v (.inr (.inr rfl)))
            obtain ⟨e, g1, g2⟩ := ih f (n + x.count) v q hl he.2 (by omega) (by omega) hq e2
            refine ⟨e, ?_, ?_⟩
            · rw [e1, rdL, h1]
              simp only []
              rw [if_neg (by decide), if_pos trivial, g1]
              rfl
            · rw [e1, show x.wr ++ 44 :: v = (x.wr ++ [44]) ++ v by simp]
              exact g2.ahead _
theorem rdM_cut {rv : Nat → List UInt8 → Rd (VT × Nat)} {d : Nat} (H : CutV rv d) (G : Comp rv d) : ∀ (l : List VT) (ks : List (List UInt8)) (f : Nat) (prev : Option (List UInt8)) (n : Nat) (p q : List UInt8), l ≠ [] → eachL l = true → depthL l ≤ d → n + countL l ≤ 1999 → ks.length = l.length → keysOk ks = true → (∀ p q, prev = some p → ks.head? = some q → lessL p q = true) → q ≠ [] → p ++ q = wrM true l ks ++ [125] →
    ∃ e, rdM rv f prev n p = .bad e ∧ Broken e p := by
  intro l
  induction l with
  | nil => intro ks f prev n p q h; exact absurd rfl h
  | cons x l ih =>
    intro ks f prev n p q _ he hd hc hkl hk hp hq h
    obtain ⟨k, ks, rfl⟩ : ∃ k t, ks = k :: t := by
      cases ks with
      | nil => simp at hkl
      | cons k t => exact ⟨k, t, rfl⟩
    obtain ⟨k1, k2, k3⟩ := keysOk_parts hk
    have hkr : ∀ u, rdK prev (quotL k ++ 58 :: u) = .ok k u := fun u => rdK_wr k1 (fun p hpe => hp p k hpe rfl)
    rw [eachL_cons, Bool.and_eq_true] at he
    rw [depthL_cons] at hd
    rw [countL_cons] at hc
    have hkl : ks.length = l.length := by simpa using hkl
    cases f with
    | zero => exact ⟨3, by rw [rdM], .short p⟩
    | succ f =>
      rw [wrM_cons, if_pos rfl, List.nil_append, List.headD_cons, List.tail_cons, show quotL k ++ 58 :: (x.wr ++ wrM false l ks) ++ [125] = (quotL k ++ [58]) ++ (x.wr ++ (wrM false l ks ++ [125])) by simp] at h
      rcases break_at h with ⟨u, hu, e1, _⟩ | ⟨p2, e1, h⟩
      · refine ⟨3, ?_, .short p⟩
        rw [rdM, rdK_cut k1 (fun p hpe => hp p k hpe rfl) hu e1]
      · have e1' : p = quotL k ++ 58 :: p2 := by rw [e1]; simp
        have hb : ∀ e, Broken e p2 → Broken e p := fun e hh => by rw [e1]; exact hh.ahead _
        rcases break_at h with ⟨u, hu, e3, _⟩ | ⟨v, e3, e4⟩
        · rcases H n x p2 u he.1 (by omega) (by omega) hu e3 with ⟨e, h1, h2⟩ | ⟨y, h1⟩
          · refine ⟨e, ?_, hb e h2⟩
            rw [rdM, e1', hkr]
            simp only []
            rw [h1]
          · refine ⟨3, ?_, .short p⟩
            obtain ⟨y1, y2⟩ := y
            rw [rdM, e1', hkr]
            simp only []
            rw [h1]
        · cases v with
          | nil =>
            have h1 := G n x [] he.1 (by omega) (by omega) (fun _ c t e => by cases e)
            refine ⟨3, ?_, .short p⟩
            rw [rdM, e1', hkr]
            simp only []
            rw [e3, h1]
          | cons c v =>
            by_cases hl : l = []
            · subst hl
              rw [wrM_nil, List.nil_append] at e4
              simp only [List.cons_append, List.cons.injEq, List.append_eq_nil_iff] at e4
              exact absurd e4.2.2 hq
            · rw [wrM_false hl] at e4
              simp only [List.cons_append, List.cons.injEq] at e4
              obtain ⟨rfl, e4⟩ := e4
              have h1 := G n x (44 :: v) he.1 (by omega) (by omega) (fun _ => delim_sep 44 v (.inr (.inr rfl)))
              obtain ⟨e, g1, g2⟩ := ih ks f (some k) (n + x.count) v q hl he.2 (by omega) (by omega) hkl k2 (fun p q hpe hq => by simp only [Option.some.injEq] at hpe; rw [← hpe]; exact k3 q hq) hq e4
              refine ⟨e, ?_, hb e ?_⟩
              · rw [rdM, e1', hkr]
                simp only []
                rw [e3, h1]
                simp only []
                rw [if_neg (by decide), if_pos trivial, g1]
                rfl
              · rw [e3, show x.wr ++ 44 :: v = (x.wr ++ [44]) ++ v by simp]
                exact g2.ahead _
theorem rdV_cut : ∀ d : Nat, CutV (rdV d) d := by
  intro d
  induction d with
  | zero => intro n t p q _ h; obtain ⟨k, z, s, l, ks⟩ := t; rw [depth_eq] at h; omega
  | succ d ih =>
    intro n t p q he hd hc hq h
    have hcp := count_pos t
    obtain ⟨k, z, s, l, ks⟩ := t
    rw [each_eq, Bool.and_eq_true] at he
    rw [depth_eq] at hd
    rw [count_eq] at hc
    obtain ⟨p1, p2, p3⟩ := oneB_parts he.2
    rw [wr_eq] at h
    cases p with
    | nil => exact .inl ⟨3, by rw [rdV, if_neg (by omega)], .short _⟩
    | cons c p =>
      rcases one_of he.2 with ⟨rfl, rfl, e2, rfl⟩ | ⟨rfl, rfl, e2, rfl⟩ | ⟨rfl, rfl, rfl, rfl⟩ | ⟨rfl, rfl, rfl, e2⟩
      · rw [if_pos rfl] at h
        obtain ⟨c', u, e, hh⟩ := itoa_head z
        have hcc : c = c' := by
          rw [e] at h
          simp only [List.cons_append, List.cons.injEq] at h
          exact h.1
        rw [rdV, if_neg (by omega), if_pos (show c = 45 ∨ isDig c = true by rw [hcc]; exact hh)]
        rcases rdN_cut p1 (by simp) hq h with ⟨h1, h2⟩ | ⟨y, h1⟩
        · refine .inl ⟨20, by rw [h1]; rfl, .inr (.inl ⟨rfl, h2⟩)⟩
        · refine .inr ⟨_, by rw [h1]; rfl⟩
      · rw [if_neg (by decide), if_pos rfl] at h
        obtain ⟨h1, h2⟩ := textOk_parts p2
        unfold quotL at h
        simp only [List.cons_append, List.cons.injEq] at h
        obtain ⟨rfl, h⟩ := h
        refine .inl ⟨3, ?_, .short _⟩
        rw [rdV, if_neg (by omega), if_neg (by decide), if_pos rfl, rdT_cut s 0 p q h1 (by omega) hq h]
        rfl
      · rw [if_neg (by decide), if_neg (by decide), if_neg (by decide)] at h
        simp only [List.cons_append, List.cons.injEq] at h
        obtain ⟨rfl, h⟩ := h
        refine .inl ?_
        rw [rdV, if_neg (by omega), if_neg (by decide), if_neg (by decide), if_pos rfl]
        unfold rdB
        by_cases hl : l = []
        · subst hl
          rw [wrL_nil, List.nil_append] at h
          have hpe : p = [] := by
            cases p with
            | nil => rfl
            | cons a p => simp only [List.cons_append, List.cons.injEq, List.append_eq_nil_iff] at h; exact absurd h.2.2 hq
          subst hpe
          rw [if_neg (by simp), rdL]
          cases d with
          | zero => exact ⟨21, by rw [rdV]; rfl, .inr (.inr ⟨rfl, rfl⟩)⟩
          | succ d => exact ⟨3, by rw [rdV, if_neg (by omega)]; rfl, .short _⟩
        · have hne : p.head? ≠ some 93 := by
            intro e
            have := head_tail e
            cases l with
            | nil => exact hl rfl
            | cons x l =>
              rw [eachL_cons, Bool.and_eq_true] at he
              rw [wrL_cons, this] at h
              exact head_no he.1.1 (wrL false l ++ [93]) (p.tail ++ q) 93 (.inl rfl) (by simpa using h.symm)
          obtain ⟨e, g1, g2⟩ := rdL_cut ih (rdV_wr d) l (p.length + 1) (n + 1) p q hl he.1 (by omega) (by omega) hq h
          rw [if_neg hne, g1]
          exact ⟨e, rfl, g2.ahead [91]⟩
      · rw [if_neg (by decide), if_neg (by decide), if_pos rfl] at h
        simp only [List.cons_append, List.cons.injEq] at h
        obtain ⟨rfl, h⟩ := h
        refine .inl ?_
        rw [rdV, if_neg (by omega), if_neg (by decide), if_neg (by decide), if_neg (by decide), if_pos rfl]
        unfold rdO
        by_cases hl : l = []
        · subst hl
          rw [wrM_nil, List.nil_append] at h
          have hpe : p = [] := by
            cases p with
            | nil => rfl
            | cons a p => simp only [List.cons_append, List.cons.injEq, List.append_eq_nil_iff] at h; exact absurd h.2.2 hq
          subst hpe
          rw [if_neg (by simp), rdM, rdK]
          exact ⟨3, rfl, .short _⟩
        · have hne : p.head? ≠ some 125 := by
            intro e
            have := head_tail e
            cases l with
            | nil => exact hl rfl
            | cons x l =>
              rw [wrM_cons, this] at h
              unfold quotL at h
              simp at h
          obtain ⟨e, g1, g2⟩ := rdM_cut ih (rdV_wr d) l ks (p.length + 1) none (n + 1) p q hl he.1 (by omega) (by omega) e2 p3 (fun p q h => by cases h) hq h
          rw [if_neg hne, g1]
          exact ⟨e, rfl, g2.ahead [123]⟩
/-! ### how many fit into a text -/
mutual
theorem wr_two : ∀ (t : VT), t.each = true → 2 * t.count ≤ t.wr.length + 1
  | .mk k n s l ks => fun h => by
    rw [each_eq, Bool.and_eq_true] at h
    rw [count_eq, wr_eq]
    have hl := wrL_two l h.1
    rcases one_of h.2 with ⟨rfl, rfl, e2, rfl⟩ | ⟨rfl, rfl, e2, rfl⟩ | ⟨rfl, rfl, rfl, rfl⟩ | ⟨rfl, rfl, rfl, e2⟩
    · obtain rfl := List.eq_nil_of_length_eq_zero e2
      obtain ⟨c, u, e, _⟩ := itoa_head n
      rw [if_pos rfl, e, countL_nil, List.length_cons]
      omega
    · obtain rfl := List.eq_nil_of_length_eq_zero e2
      rw [if_neg (by decide), if_pos rfl, countL_nil]
      unfold quotL
      simp only [List.length_cons, List.length_append, List.length_nil]
      omega
    · rw [if_neg (by decide), if_neg (by decide), if_neg (by decide)]
      have := hl true
      rw [if_pos rfl] at this
      simp only [List.length_cons, List.length_append, List.length_nil]
      omega
    · rw [if_neg (by decide), if_neg (by decide), if_pos rfl]
      have := wrM_two l h.1 true ks
      rw [if_pos rfl] at this
      simp only [List.length_cons, List.length_append, List.length_nil]
      omega
theorem wrL_two : ∀ (l : List VT), eachL l = true → ∀ b : Bool, 2 * countL l ≤ (wrL b l).length + (if b then 1 else 0)
  | [] => fun _ b => by rw [countL_nil]; omega
  | x :: l => fun h b => by
    rw [eachL_cons, Bool.and_eq_true] at h
    have h1 := wr_two x h.1
    have h2 := wrL_two l h.2 false
    rw [countL_cons, wrL_cons]
    simp only [Bool.false_eq_true, if_false] at h2
    cases b <;> simp only [List.length_append, List.length_cons, List.length_nil, if_true, Bool.false_eq_true, if_false] <;> omega
theorem wrM_two : ∀ (l : List VT), eachL l = true → ∀ (b : Bool) (ks : List (List UInt8)), 2 * countL l ≤ (wrM b l ks).length + (if b then 1 else 0)
  | [] => fun _ b ks => by rw [countL_nil]; omega
  | x :: l => fun h b ks => by
    rw [eachL_cons, Bool.and_eq_true] at h
    have h1 := wr_two x h.1
    have h2 := wrM_two l h.2 false ks.tail
    rw [countL_cons, wrM_cons]
    simp only [Bool.false_eq_true, if_false] at h2
    cases b <;> simp only [List.length_append, List.length_cons, List.length_nil, if_true, Bool.false_eq_true, if_false] <;> omega
end
/-- a whole text that breaks off -/
theorem rdP_cut {s : List UInt8} {t : VT} {r : List UInt8} (h : rdP s = .ok t r) (hl : s.length ≤ 3000) (hk : t.kind ≠ 1) {p q : List UInt8} (hq : q ≠ []) (hs : p ++ q = s) : ∃ e, rdP p = .bad e ∧ Broken e p := by
  obtain ⟨e1, e2, _⟩ := rdP_ok h
  subst e1
  unfold VT.okB at e2
  rw [Bool.and_eq_true, Bool.and_eq_true, decide_eq_true_eq, decide_eq_true_eq] at e2
  have h2 := wr_two t e2.2
  have hpl : p.length ≤ 3000 := by rw [← hs, List.length_append] at hl; omega
  have key : ∃ e, rdV 12 0 p = .bad e ∧ Broken e p := by
    rcases rdV_cut 12 0 t p q e2.2 e2.1.2 (by omega) hq hs with h1 | ⟨x, h1⟩
    · exact h1
    · exfalso
      obtain ⟨x, n'⟩ := x
      obtain ⟨g1, g2, _⟩ := rdV_ok 12 0 p x n' [] (by decide) h1
      rw [List.append_nil] at g1
      rw [g1] at hs
      have hx : x.kind = 1 ∨ x.kind ≠ 1 := by omega
      obtain ⟨c, u, hc1, hc2⟩ := wr_head g2
      obtain ⟨c', u', hc3, hc4⟩ := wr_head e2.2
      have hcc : c = c' := by
        rw [hc1, hc3] at hs
        simp only [List.cons_append, List.cons.injEq] at hs
        exact hs.1
      subst hcc
      have hkk := kind_same hc2 hc4
      have hxk : x.kind ≠ 1 := by rw [hkk]; exact hk
      have := rdV_wr 12 0 x q g2 (by
        have := (rdV_ok 12 0 p x n' [] (by decide) h1).2.2.1
        exact this) (by
        have := (rdV_ok 12 0 p x n' [] (by decide) h1).2.2.2
        omega) (fun e => absurd e hxk)
      rw [hs] at this
      have h3 := rdV_wr 12 0 t [] e2.2 e2.1.2 (by omega) (fun e => absurd e hk)
      rw [List.append_nil, this] at h3
      simp only [Rd.ok.injEq] at h3
      exact hq h3.2
  obtain ⟨e, h1, h2⟩ := key
  refine ⟨e, ?_, h2⟩
  unfold rdP
  rw [if_neg (by omega), h1]
section code
open Go

def NZ {α : Type} : Rd α → Prop
  | .bad e => e ≠ 0
  | .ok _ _ => True
theorem NZ.map {α β : Type} {f : α → β} {x : Rd α} (h : NZ x) : NZ (x.map f) := by
  cases x with
  | bad e => exact h
  | ok a r => trivial
theorem nz_T : ∀ (m : Nat) (s : List UInt8), s.length ≤ m → ∀ k, NZ (rdT k s) := by
  intro m
  induction m with
  | zero =>
    intro s h k
    obtain rfl : s = [] := List.eq_nil_of_length_eq_zero (by omega)
    rw [rdT_nil]
    show (3 : Int) ≠ 0
    decide
  | succ m ih =>
    intro s h k
    match s with
    | [] => rw [rdT_nil]; show (3 : Int) ≠ 0; decide
    | c :: r =>
      rw [List.length_cons] at h
      unfold rdT
      split
      · show (20 : Int) ≠ 0; decide
      · split
        · trivial
        · split
          · split
            · show (3 : Int) ≠ 0; decide
            · rename_i d r'
              rw [List.length_cons] at h
              split
              · show (20 : Int) ≠ 0; decide
              · split
                · show (2 : Int) ≠ 0; decide
                · exact (ih r' (by omega) _).map
          · split
            · show (2 : Int) ≠ 0; decide
            · exact (ih r (by omega) _).map
theorem nz_N (s : List UInt8) : NZ (rdN s) := by
  unfold rdN
  split
  · show (20 : Int) ≠ 0; decide
  · split
    · show (2 : Int) ≠ 0; decide
    · trivial
theorem nz_K (prev : Option (List UInt8)) (s : List UInt8) : NZ (rdK prev s) := by
  match s with
  | [] => show (3 : Int) ≠ 0; decide
  | c :: r =>
    simp only [rdK]
    split
    · show (20 : Int) ≠ 0; decide
    · have h := nz_T r.length r (Nat.le_refl _) 0
      split
      · rename_i e he
        rw [he] at h
        exact h
      · split
        · show (23 : Int) ≠ 0; decide
        · split
          · show (3 : Int) ≠ 0; decide
          · split
            · show (20 : Int) ≠ 0; decide
            · trivial
theorem nz_L {rv : Nat → List UInt8 → Rd (VT × Nat)} (H : ∀ n s, NZ (rv n s)) : ∀ (f n : Nat) (s : List UInt8), NZ (rdL rv f n s) := by
  intro f
  induction f with
  | zero => intro n s; show (3 : Int) ≠ 0; decide
  | succ f ih =>
    intro n s
    unfold rdL
    have h := H n s
    split
    · rename_i e he
      rw [he] at h
      exact h
    · show (3 : Int) ≠ 0; decide
    · split
      · trivial
      · split
        · exact (ih _ _).map
        · show (20 : Int) ≠ 0; decide
theorem nz_M {rv : Nat → List UInt8 → Rd (VT × Nat)} (H : ∀ n s, NZ (rv n s)) : ∀ (f : Nat) (prev : Option (List UInt8)) (n : Nat) (s : List UInt8), NZ (rdM rv f prev n s) := by
  intro f
  induction f with
  | zero => intro prev n s; show (3 : Int) ≠ 0; decide
  | succ f ih =>
    intro prev n s
    unfold rdM
    have h0 := nz_K prev s
    split
    · rename_i e he
      rw [he] at h0
      exact h0
    · rename_i k s1 he
      have h := H n s1
      split
      · rename_i e he
        rw [he] at h
        exact h
      · show (3 : Int) ≠ 0; decide
      · split
        · trivial
        · split
          · exact (ih _ _ _).map
          · show (20 : Int) ≠ 0; decide
theorem nz_V : ∀ (d n : Nat) (s : List UInt8), NZ (rdV d n s) := by
  intro d
  induction d with
  | zero => intro n s; show (21 : Int) ≠ 0; decide
  | succ d ih =>
    intro n s
    match s with
    | [] =>
      unfold rdV
      split
      · show (22 : Int) ≠ 0; decide
      · show (3 : Int) ≠ 0; decide
    | c :: r =>
      unfold rdV
      split
      · show (22 : Int) ≠ 0; decide
      · split
        · exact (nz_N _).map
        · split
          · exact (nz_T _ _ (Nat.le_refl _) _).map
          · split
            · unfold rdB
              split
              · trivial
              · exact (nz_L ih _ _ _).map
            · split
              · unfold rdO
                split
                · trivial
                · exact (nz_M ih _ _ _ _).map
              · show (20 : Int) ≠ 0; decide
theorem rdP_code {s : List UInt8} {e : Int} (h : rdP s = .bad e) : e ≠ 0 := by
  have h2 : NZ (rdP s) := by
    unfold rdP
    split
    · show (2 : Int) ≠ 0; decide
    · have h := nz_V 12 0 s
      split
      · rename_i e he
        rw [he] at h
        exact h
      · trivial
      · show (20 : Int) ≠ 0; decide
  rw [h] at h2
  exact h2
end code
end Go.Proofs.YtnloimanklkigaaDoor.V
