/- How a text is read as a value, and that reading and writing lead to one another. Nothing of the program is named here. -/
import Derived.Test.YtnloimanklkigaaDoorYMath
import Derived.Test.YtnloimanklkigaaDoorVKeys
namespace Go.Proofs.YtnloimanklkigaaDoor.V
open Go

/-- values of a list, read one by one -/
def rdL (rv : Nat → List UInt8 → Rd (VT × Nat)) : Nat → Nat → List UInt8 → Rd (List VT × Nat)
  | 0, _, _ => .bad 3
  | f + 1, n, s =>
    match rv n s with
    | .bad e => .bad e
    | .ok _ [] => .bad 3
    | .ok (x, n1) (c :: r) => if c = 93 then .ok ([x], n1) r else if c = 44 then (rdL rv f n1 r).map (fun p => (x :: p.1, p.2)) else .bad 20
/-- a key and its colon; the one ahead of it, if there is one -/
def rdK (prev : Option (List UInt8)) : List UInt8 → Rd (List UInt8)
  | [] => .bad 3
  | c :: s => if c ≠ 34 then .bad 20 else
    match rdT 0 s with
    | .bad e => .bad e
    | .ok k s2 => if prev.any (fun p => !lessL p k) = true then .bad 23 else
      match s2 with
      | [] => .bad 3
      | c :: s3 => if c ≠ 58 then .bad 20 else .ok k s3
/-- values by keys, read one by one -/
def rdM (rv : Nat → List UInt8 → Rd (VT × Nat)) : Nat → Option (List UInt8) → Nat → List UInt8 → Rd (List VT × List (List UInt8) × Nat)
  | 0, _, _, _ => .bad 3
  | f + 1, prev, n, s =>
    match rdK prev s with
    | .bad e => .bad e
    | .ok k s1 =>
      match rv n s1 with
      | .bad e => .bad e
      | .ok _ [] => .bad 3
      | .ok (x, n1) (c :: r) => if c = 125 then .ok ([x], [k], n1) r else if c = 44 then (rdM rv f (some k) n1 r).map (fun p => (x :: p.1, k :: p.2.1, p.2.2)) else .bad 20
/-- a list behind its sign -/
def rdB (rv : Nat → List UInt8 → Rd (VT × Nat)) (n : Nat) (r : List UInt8) : Rd (VT × Nat) :=
  if r.head? = some 93 then .ok (.mk 3 0 [] [] [], n) r.tail else (rdL rv (r.length + 1) n r).map (fun p => (.mk 3 0 [] p.1 [], p.2))
def rdO (rv : Nat → List UInt8 → Rd (VT × Nat)) (n : Nat) (r : List UInt8) : Rd (VT × Nat) :=
  if r.head? = some 125 then .ok (.mk 4 0 [] [] [], n) r.tail else (rdM rv (r.length + 1) none n r).map (fun p => (.mk 4 0 [] p.1 p.2.1, p.2.2))
/-- a value, with so many levels left and n begun -/
def rdV : Nat → Nat → List UInt8 → Rd (VT × Nat)
  | 0, _, _ => .bad 21
  | _ + 1, n, [] => if n = 2000 then .bad 22 else .bad 3
  | L + 1, n, c :: r => if n = 2000 then .bad 22 else
    if c = 45 ∨ isDig c = true then (rdN (c :: r)).map (fun z => (.mk 1 z [] [] [], n + 1))
    else if c = 34 then (rdT 0 r).map (fun w => (.mk 2 0 w [] [], n + 1))
    else if c = 91 then rdB (rdV L) (n + 1) r
    else if c = 123 then rdO (rdV L) (n + 1) r
    else .bad 20
/-- a whole text -/
def rdP (s : List UInt8) : Rd VT :=
  if 65536 < s.length then .bad 2 else
    match rdV 12 0 s with
    | .bad e => .bad e
    | .ok (t, _) [] => .ok t []
    | .ok _ (_ :: _) => .bad 20

/-! ### what is read, written, is the text -/
def Sound (rv : Nat → List UInt8 → Rd (VT × Nat)) (d : Nat) : Prop := ∀ (n : Nat) (s : List UInt8) (t : VT) (n' : Nat) (r : List UInt8), n ≤ 2000 → rv n s = .ok (t, n') r →
  s = t.wr ++ r ∧ t.each = true ∧ t.depth ≤ d ∧ n' = n + t.count ∧ n' ≤ 2000 ∧ (t.kind = 1 → Delim r)
theorem wrL_false {l : List VT} (h : l ≠ []) : wrL false l = 44 :: wrL true l := by
  cases l with
  | nil => exact absurd rfl h
  | cons x r => rw [wrL_cons, wrL_cons]; rfl
theorem wrM_false {l : List VT} (h : l ≠ []) (ks : List (List UInt8)) : wrM false l ks = 44 :: wrM true l ks := by
  cases l with
  | nil => exact absurd rfl h
  | cons x r => rw [wrM_cons, wrM_cons]; rfl
theorem rdL_ok {rv : Nat → List UInt8 → Rd (VT × Nat)} {d : Nat} (H : Sound rv d) : ∀ (f n : Nat) (s : List UInt8) (l : List VT) (n' : Nat) (r : List UInt8), n ≤ 2000 → rdL rv f n s = .ok (l, n') r →
    l ≠ [] ∧ s = wrL true l ++ 93 :: r ∧ eachL l = true ∧ depthL l ≤ d ∧ n' = n + countL l ∧ n' ≤ 2000 := by
  intro f
  induction f with
  | zero => intro n s l n' r _ h; rw [rdL] at h; cases h
  | succ f ih =>
    intro n s l n' r hn h
    rw [rdL] at h
    split at h
    · cases h
    · cases h
    · rename_i x n1 c r1 hx
      obtain ⟨e1, e2, e3, e4, e5, _⟩ := H n s x n1 (c :: r1) hn hx
      by_cases hc : c = 93
      · rw [if_pos hc] at h
        simp only [Rd.ok.injEq, Prod.mk.injEq] at h
        obtain ⟨⟨rfl, rfl⟩, rfl⟩ := h
        subst hc
        refine ⟨by simp, ?_, ?_, ?_, ?_, e5⟩
        · rw [wrL_cons, wrL_nil, e1]; simp
        · rw [eachL_cons, eachL_nil, e2]; rfl
        · rw [depthL_cons, depthL_nil]; omega
        · rw [countL_cons, countL_nil]; omega
      · rw [if_neg hc] at h
        by_cases hc2 : c = 44
        · rw [if_pos hc2] at h
          obtain ⟨⟨l', n2⟩, hl, he⟩ := map_ok h
          simp only [Prod.mk.injEq] at he
          obtain ⟨rfl, rfl⟩ := he
          obtain ⟨g1, g2, g3, g4, g5, g6⟩ := ih n1 r1 l' n' r e5 hl
          subst hc2
          refine ⟨by simp, ?_, ?_, ?_, ?_, g6⟩
          · rw [wrL_cons, wrL_false g1, e1, g2]; simp
          · rw [eachL_cons, e2, g3]; rfl
          · rw [depthL_cons]; omega
          · rw [countL_cons]; omega
        · rw [if_neg hc2] at h; cases h
theorem rdK_ok {prev : Option (List UInt8)} {s k r : List UInt8} (h : rdK prev s = .ok k r) : s = quotL k ++ 58 :: r ∧ textOk k = true ∧ ∀ p, prev = some p → lessL p k = true := by
  cases s with
  | nil => rw [rdK] at h; cases h
  | cons c s =>
    rw [rdK] at h
    by_cases hc : c = 34
    case neg => rw [if_pos hc] at h; cases h
    rw [if_neg (fun g => g hc)] at h
    split at h
    · cases h
    · rename_i k' s2 hk
      obtain ⟨e1, e2, e3⟩ := rdT_ok s.length s (Nat.le_refl _) 0 k' s2 (by decide) hk
      split at h
      · cases h
      · rename_i hp
        split at h
        · cases h
        · rename_i c2 s3
          by_cases hc2 : c2 = 58
          case neg => rw [if_pos hc2] at h; cases h
          rw [if_neg (fun g => g hc2)] at h
          simp only [Rd.ok.injEq] at h
          obtain ⟨rfl, rfl⟩ := h
          subst hc hc2
          refine ⟨?_, ?_, fun p hpe => ?_⟩
          · rw [e1]; unfold quotL; simp
          · unfold textOk
            rw [Bool.and_eq_true, List.all_eq_true, decide_eq_true_eq]
            exact ⟨fun x hx => decide_eq_true (e2 x hx), by omega⟩
          · rw [hpe] at hp
            simpa using hp
theorem keysOk_cons {k : List UInt8} {ks : List (List UInt8)} (h : textOk k = true) (h2 : keysOk ks = true) (h3 : ∀ q, ks.head? = some q → lessL k q = true) : keysOk (k :: ks) = true := by
  cases ks with
  | nil => rw [keysOk_one]; exact h
  | cons q ks => rw [keysOk_two, h, h3 q rfl, h2]; rfl
theorem rdM_ok {rv : Nat → List UInt8 → Rd (VT × Nat)} {d : Nat} (H : Sound rv d) : ∀ (f : Nat) (prev : Option (List UInt8)) (n : Nat) (s : List UInt8) (l : List VT) (ks : List (List UInt8)) (n' : Nat) (r : List UInt8), n ≤ 2000 → rdM rv f prev n s = .ok (l, ks, n') r →
    l ≠ [] ∧ s = wrM true l ks ++ 125 :: r ∧ eachL l = true ∧ depthL l ≤ d ∧ n' = n + countL l ∧ n' ≤ 2000 ∧ ks.length = l.length ∧ keysOk ks = true ∧ ∀ p q, prev = some p → ks.head? = some q → lessL p q = true := by
  intro f
  induction f with
  | zero => intro prev n s l ks n' r _ h; rw [rdM] at h; cases h
  | succ f ih =>
    intro prev n s l ks n' r hn h
    rw [rdM] at h
    split at h
    · cases h
    rename_i k s1 hk
    obtain ⟨q1, q2, q3⟩ := rdK_ok hk
    split at h
    · cases h
    · cases h
    · rename_i x n1 c r1 hx
      obtain ⟨e1, e2, e3, e4, e5, _⟩ := H n s1 x n1 (c :: r1) hn hx
      by_cases hc : c = 125
      · rw [if_pos hc] at h
        simp only [Rd.ok.injEq, Prod.mk.injEq] at h
        obtain ⟨⟨rfl, rfl, rfl⟩, rfl⟩ := h
        subst hc
        refine ⟨by simp, ?_, ?_, ?_, ?_, e5, rfl, keysOk_cons q2 keysOk_nil (fun q h => by cases h), fun p q hp hq => ?_⟩
        · rw [wrM_cons, wrM_nil, q1, e1]; simp
        · rw [eachL_cons, eachL_nil, e2]; rfl
        · rw [depthL_cons, depthL_nil]; omega
        · rw [countL_cons, countL_nil]; omega
        · simp only [List.head?_cons, Option.some.injEq] at hq
          rw [← hq]; exact q3 p hp
      · rw [if_neg hc] at h
        by_cases hc2 : c = 44
        · rw [if_pos hc2] at h
          obtain ⟨⟨l', ks', n2⟩, hl, he⟩ := map_ok h
          simp only [Prod.mk.injEq] at he
          obtain ⟨rfl, rfl, rfl⟩ := he
          obtain ⟨g1, g2, g3, g4, g5, g6, g7, g8, g9⟩ := ih (some k) n1 r1 l' ks' n' r e5 hl
          subst hc2
          refine ⟨by simp, ?_, ?_, ?_, ?_, g6, by simp [g7], keysOk_cons q2 g8 (fun q hq => g9 k q rfl hq), fun p q hp hq => ?_⟩
          · rw [wrM_cons, List.tail_cons, wrM_false g1, q1, e1, g2]; simp
          · rw [eachL_cons, e2, g3]; rfl
          · rw [depthL_cons]; omega
          · rw [countL_cons]; omega
          · simp only [List.head?_cons, Option.some.injEq] at hq
            rw [← hq]; exact q3 p hp
        · rw [if_neg hc2] at h; cases h
theorem oneB_num {z : Int} (h : -1099511627776 ≤ z ∧ z ≤ 1099511627776) : oneB 1 z [] 0 [] = true := by
  unfold oneB; simp [textOk, keysOk_nil, h.1, h.2]
theorem oneB_txt {w : List UInt8} (h : textOk w = true) : oneB 2 0 w 0 [] = true := by
  unfold oneB; simp [h, keysOk_nil]
theorem oneB_list (m : Nat) : oneB 3 0 [] m [] = true := by
  unfold oneB; simp [textOk, keysOk_nil]
theorem oneB_map {m : Nat} {ks : List (List UInt8)} (h : ks.length = m) (h2 : keysOk ks = true) : oneB 4 0 [] m ks = true := by
  unfold oneB; simp [textOk, h, h2]
theorem head_tail {s : List UInt8} {c : UInt8} (h : s.head? = some c) : s = c :: s.tail := by
  cases s with
  | nil => cases h
  | cons a s => simp only [List.head?_cons, Option.some.injEq] at h; rw [h]; rfl
theorem rdV_ok : ∀ d : Nat, Sound (rdV d) d := by
  intro d
  induction d with
  | zero => intro n s t n' r _ h; rw [rdV] at h; cases h
  | succ d ih =>
    intro n s t n' r hn h
    cases s with
    | nil =>
      rw [rdV] at h
      split at h <;> cases h
    | cons c s =>
      rw [rdV] at h
      split at h
      · cases h
      rename_i hn2
      split at h
      · obtain ⟨z, hz, he⟩ := map_ok h
        simp only [Prod.mk.injEq] at he
        obtain ⟨rfl, rfl⟩ := he
        obtain ⟨e1, e2, e3⟩ := rdN_ok hz
        refine ⟨by rw [wr_eq, if_pos rfl]; exact e1, by rw [each_eq, eachL_nil, List.length_nil, oneB_num e2]; rfl, by rw [depth_eq, depthL_nil]; omega, by rw [count_eq, countL_nil], by omega, fun _ => e3⟩
      split at h
      · rename_i hc
        obtain ⟨w, hw, he⟩ := map_ok h
        simp only [Prod.mk.injEq] at he
        obtain ⟨rfl, rfl⟩ := he
        obtain ⟨e1, e2, e3⟩ := rdT_ok s.length s (Nat.le_refl _) 0 w r (by decide) hw
        have ht : textOk w = true := by
          unfold textOk
          rw [Bool.and_eq_true, List.all_eq_true, decide_eq_true_eq]
          exact ⟨fun x hx => decide_eq_true (e2 x hx), by omega⟩
        refine ⟨by rw [wr_eq, if_neg (by decide), if_pos rfl, hc, e1]; unfold quotL; simp, by rw [each_eq, eachL_nil, List.length_nil, oneB_txt ht]; rfl, by rw [depth_eq, depthL_nil]; omega, by rw [count_eq, countL_nil], by omega, fun hk => absurd hk (by show ¬ ((2 : Int) = 1); decide)⟩
      split at h
      · rename_i hc
        unfold rdB at h
        by_cases h93 : s.head? = some 93
        · rw [if_pos h93] at h
          simp only [Rd.ok.injEq, Prod.mk.injEq] at h
          obtain ⟨⟨rfl, rfl⟩, rfl⟩ := h
          refine ⟨by rw [wr_eq, if_neg (by decide), if_neg (by decide), if_neg (by decide), wrL_nil, hc]; exact congrArg (91 :: ·) (head_tail h93), by rw [each_eq, eachL_nil, List.length_nil, oneB_list]; rfl, by rw [depth_eq, depthL_nil]; omega, by rw [count_eq, countL_nil], by omega, fun hk => absurd hk (by show ¬ ((3 : Int) = 1); decide)⟩
        · rw [if_neg h93] at h
          obtain ⟨⟨l, n2⟩, hl, he⟩ := map_ok h
          simp only [Prod.mk.injEq] at he
          obtain ⟨rfl, rfl⟩ := he
          obtain ⟨g1, g2, g3, g4, g5, g6⟩ := rdL_ok ih _ _ _ _ _ _ (by omega) hl
          refine ⟨by rw [wr_eq, if_neg (by decide), if_neg (by decide), if_neg (by decide), hc, g2]; simp, by rw [each_eq, g3, oneB_list]; rfl, by rw [depth_eq]; omega, by rw [count_eq]; omega, g6, fun hk => absurd hk (by show ¬ ((3 : Int) = 1); decide)⟩
      split at h
      · rename_i hc
        unfold rdO at h
        by_cases h125 : s.head? = some 125
        · rw [if_pos h125] at h
          simp only [Rd.ok.injEq, Prod.mk.injEq] at h
          obtain ⟨⟨rfl, rfl⟩, rfl⟩ := h
          refine ⟨by rw [wr_eq, if_neg (by decide), if_neg (by decide), if_pos rfl, wrM_nil, hc]; exact congrArg (123 :: ·) (head_tail h125), by rw [each_eq, eachL_nil, List.length_nil, oneB_map (m := 0) rfl keysOk_nil]; rfl, by rw [depth_eq, depthL_nil]; omega, by rw [count_eq, countL_nil], by omega, fun hk => absurd hk (by show ¬ ((4 : Int) = 1); decide)⟩
        · rw [if_neg h125] at h
          obtain ⟨⟨l, ks, n2⟩, hl, he⟩ := map_ok h
          simp only [Prod.mk.injEq] at he
          obtain ⟨rfl, rfl⟩ := he
          obtain ⟨g1, g2, g3, g4, g5, g6, g7, g8, _⟩ := rdM_ok ih _ _ _ _ _ _ _ _ (by omega) hl
          refine ⟨by rw [wr_eq, if_neg (by decide), if_neg (by decide), if_pos rfl, hc, g2]; simp, by rw [each_eq, g3, oneB_map g7 g8]; rfl, by rw [depth_eq]; omega, by rw [count_eq]; omega, g6, fun hk => absurd hk (by show ¬ ((4 : Int) = 1); decide)⟩
      · cases h

/-! ### what is written is read -/
def Comp (rv : Nat → List UInt8 → Rd (VT × Nat)) (d : Nat) : Prop := ∀ (n : Nat) (t : VT) (r : List UInt8), t.each = true → t.depth ≤ d → n + t.count ≤ 2000 → (t.kind = 1 → Delim r) → rv n (t.wr ++ r) = .ok (t, n + t.count) r
theorem wr_pos {t : VT} (h : t.each = true) : 1 ≤ t.wr.length := by
  obtain ⟨c, u, e, _⟩ := wr_head h
  rw [e, List.length_cons]
  omega
theorem wrL_long : ∀ (l : List VT) (b : Bool), eachL l = true → l.length ≤ (wrL b l).length := by
  intro l
  induction l with
  | nil => intro b _; exact Nat.zero_le _
  | cons x l ih =>
    intro b h
    rw [eachL_cons, Bool.and_eq_true] at h
    have h1 := wr_pos h.1
    have h2 := ih false h.2
    rw [wrL_cons, List.length_append, List.length_append, List.length_cons]
    omega
theorem wrM_long : ∀ (l : List VT) (b : Bool) (ks : List (List UInt8)), eachL l = true → l.length ≤ (wrM b l ks).length := by
  intro l
  induction l with
  | nil => intro b ks _; exact Nat.zero_le _
  | cons x l ih =>
    intro b ks h
    rw [eachL_cons, Bool.and_eq_true] at h
    have h1 := wr_pos h.1
    have h2 := ih false ks.tail h.2
    rw [wrM_cons]
    simp only [List.length_append, List.length_cons]
    omega
theorem delim_sep (c : UInt8) (r : List UInt8) (h : c = 93 ∨ c = 125 ∨ c = 44) : Delim (c :: r) := delim_at (by rcases h with rfl | rfl | rfl <;> decide)
theorem rdL_wr {rv : Nat → List UInt8 → Rd (VT × Nat)} {d : Nat} (H : Comp rv d) : ∀ (l : List VT) (f n : Nat) (r : List UInt8), l ≠ [] → eachL l = true → depthL l ≤ d → n + countL l ≤ 2000 → l.length ≤ f → rdL rv f n (wrL true l ++ 93 :: r) = .ok (l, n + countL l) r := by
  intro l
  induction l with
  | nil => intro f n r h; exact absurd rfl h
  | cons x l ih =>
    intro f n r _ he hd hc hf
    rw [eachL_cons, Bool.and_eq_true] at he
    rw [depthL_cons] at hd
    rw [countL_cons] at hc
    rw [List.length_cons] at hf
    obtain ⟨f, rfl⟩ : ∃ g, f = g + 1 := ⟨f - 1, by omega⟩
    by_cases hl : l = []
    · subst hl
      rw [countL_cons, countL_nil, wrL_cons, wrL_nil, rdL]
      have h1 := H n x (93 :: r) he.1 (by omega) (by omega) (fun _ => delim_sep 93 r (.inl rfl))
      rw [show (if true = true then ([] : List UInt8) else [44]) ++ (x.wr ++ []) ++ 93 :: r = x.wr ++ 93 :: r by simp, h1]
      simp only []
      rw [if_pos trivial]
      rfl
    · rw [countL_cons, wrL_cons, wrL_false hl, rdL]
      have h1 := H n x (44 :: (wrL true l ++ 93 :: r)) he.1 (by omega) (by omega) (fun _ => delim_sep 44 _ (.inr (.inr rfl)))
      rw [show (if true = true then ([] : List UInt8) else [44]) ++ (x.wr ++ 44 :: wrL true l) ++ 93 :: r = x.wr ++ 44 :: (wrL true l ++ 93 :: r) by simp, h1]
      simp only []
      rw [if_neg (by decide), if_pos trivial, ih f (n + x.count) r hl he.2 (by omega) (by omega) (by omega)]
      unfold Rd.map
      simp only [Rd.ok.injEq, Prod.mk.injEq, and_true, true_and]
      omega
theorem textOk_parts {k : List UInt8} (h : textOk k = true) : (∀ c ∈ k, 32 ≤ c.toNat) ∧ k.length ≤ 4000 := by
  unfold textOk at h
  rw [Bool.and_eq_true, List.all_eq_true, decide_eq_true_eq] at h
  exact ⟨fun c hc => of_decide_eq_true (h.1 c hc), h.2⟩
theorem rdK_wr {prev : Option (List UInt8)} {k r : List UInt8} (h : textOk k = true) (hp : ∀ p, prev = some p → lessL p k = true) : rdK prev (quotL k ++ 58 :: r) = .ok k r := by
  obtain ⟨h1, h2⟩ := textOk_parts h
  unfold quotL
  rw [List.cons_append, rdK, if_neg (by decide), show escL k ++ [34] ++ 58 :: r = escL k ++ 34 :: (58 :: r) by simp, rdT_esc_ok k 0 (58 :: r) h1 (by omega)]
  simp only []
  rw [if_neg, if_neg (by decide)]
  intro g
  cases prev with
  | none => simp at g
  | some p => simp [hp p rfl] at g
theorem keysOk_parts {k : List UInt8} {ks : List (List UInt8)} (h : keysOk (k :: ks) = true) : textOk k = true ∧ keysOk ks = true ∧ ∀ q, ks.head? = some q → lessL k q = true := by
  cases ks with
  | nil => rw [keysOk_one] at h; exact ⟨h, keysOk_nil, fun q e => by cases e⟩
  | cons q ks =>
    rw [keysOk_two, Bool.and_eq_true, Bool.and_eq_true] at h
    exact ⟨h.1.1, h.2, fun q' e => by simp only [List.head?_cons, Option.some.injEq] at e; rw [← e]; exact h.1.2⟩
theorem rdM_wr {rv : Nat → List UInt8 → Rd (VT × Nat)} {d : Nat} (H : Comp rv d) : ∀ (l : List VT) (ks : List (List UInt8)) (f : Nat) (prev : Option (List UInt8)) (n : Nat) (r : List UInt8), l ≠ [] → eachL l = true → depthL l ≤ d → n + countL l ≤ 2000 → l.length ≤ f → ks.length = l.length → keysOk ks = true → (∀ p q, prev = some p → ks.head? = some q → lessL p q = true) → rdM rv f prev n (wrM true l ks ++ 125 :: r) = .ok (l, ks, n + countL l) r := by
  intro l
  induction l with
  | nil => intro ks f prev n r h; exact absurd rfl h
  | cons x l ih =>
    intro ks f prev n r _ he hd hc hf hkl hk hp
    obtain ⟨k, ks, rfl⟩ : ∃ k t, ks = k :: t := by
      cases ks with
      | nil => simp at hkl
      | cons k t => exact ⟨k, t, rfl⟩
    obtain ⟨k1, k2, k3⟩ := keysOk_parts hk
    have hkr : ∀ u, rdK prev (quotL k ++ 58 :: u) = .ok k u := fun u => rdK_wr k1 (fun p hpe => hp p k hpe rfl)
    rw [eachL_cons, Bool.and_eq_true] at he
    rw [depthL_cons] at hd
    rw [countL_cons] at hc
    rw [List.length_cons] at hf
    have hkl : ks.length = l.length := by simpa using hkl
    obtain ⟨f, rfl⟩ : ∃ g, f = g + 1 := ⟨f - 1, by omega⟩
    by_cases hl : l = []
    · subst hl
      obtain rfl : ks = [] := List.eq_nil_of_length_eq_zero (by simpa using hkl)
      rw [countL_cons, countL_nil, wrM_cons, wrM_nil, rdM]
      have h1 := H n x (125 :: r) he.1 (by omega) (by omega) (fun _ => delim_sep 125 r (.inr (.inl rfl)))
      rw [show (if true = true then ([] : List UInt8) else [44]) ++ (quotL ([k].headD []) ++ 58 :: (x.wr ++ [])) ++ 125 :: r = quotL k ++ 58 :: (x.wr ++ 125 :: r) by simp, hkr]
      simp only []
      rw [h1]
      simp only []
      rw [if_pos trivial]
      rfl
    · rw [countL_cons, wrM_cons, List.tail_cons, wrM_false hl, rdM]
      have h1 := H n x (44 :: (wrM true l ks ++ 125 :: r)) he.1 (by omega) (by omega) (fun _ => delim_sep 44 _ (.inr (.inr rfl)))
      rw [show (if true = true then ([] : List UInt8) else [44]) ++ (quotL ((k :: ks).headD []) ++ 58 :: (x.wr ++ 44 :: wrM true l ks)) ++ 125 :: r = quotL k ++ 58 :: (x.wr ++ 44 :: (wrM true l ks ++ 125 :: r)) by simp, hkr]
      simp only []
      rw [h1]
      simp only []
      rw [if_neg (by decide), if_pos trivial, ih ks f (some k) (n + x.count) r hl he.2 (by omega) (by omega) (by omega) hkl k2 (fun p q hpe hq => by simp only [Option.some.injEq] at hpe; rw [← hpe]; exact k3 q hq)]
      unfold Rd.map
      simp only [Rd.ok.injEq, Prod.mk.injEq, and_true, true_and]
      omega
theorem oneB_parts {k n : Int} {s : List UInt8} {m : Nat} {ks : List (List UInt8)} (h : oneB k n s m ks = true) : (-1099511627776 ≤ n ∧ n ≤ 1099511627776) ∧ textOk s = true ∧ keysOk ks = true := by
  unfold oneB at h
  simp only [Bool.and_eq_true, decide_eq_true_eq] at h
  exact ⟨h.1.1.1.2, h.1.1.2, h.2⟩
theorem rdV_wr : ∀ d : Nat, Comp (rdV d) d := by
  intro d
  induction d with
  | zero => intro n t r _ h; obtain ⟨k, z, s, l, ks⟩ := t; rw [depth_eq] at h; omega
  | succ d ih =>
    intro n t r he hd hc hdl
    have hcp := count_pos t
    obtain ⟨k, z, s, l, ks⟩ := t
    rw [each_eq, Bool.and_eq_true] at he
    rw [depth_eq] at hd
    rw [count_eq] at hc hcp ⊢
    obtain ⟨p1, p2, p3⟩ := oneB_parts he.2
    rw [wr_eq]
    rcases one_of he.2 with ⟨rfl, rfl, e2, rfl⟩ | ⟨rfl, rfl, e2, rfl⟩ | ⟨rfl, rfl, rfl, rfl⟩ | ⟨rfl, rfl, rfl, e2⟩
    · obtain rfl := List.eq_nil_of_length_eq_zero e2
      rw [if_pos rfl, countL_nil]
      obtain ⟨c, u, e, hh⟩ := itoa_head z
      have hN := rdN_itoa p1 (hdl rfl)
      rw [e, List.cons_append] at hN ⊢
      rw [rdV, if_neg (by omega), if_pos (show c = 45 ∨ isDig c = true from hh), hN]
      rfl
    · obtain rfl := List.eq_nil_of_length_eq_zero e2
      rw [if_neg (by decide), if_pos rfl, countL_nil]
      obtain ⟨h1, h2⟩ := textOk_parts p2
      unfold quotL
      rw [List.cons_append, rdV, if_neg (by omega), if_neg (by decide), if_pos rfl, show escL s ++ [34] ++ r = escL s ++ 34 :: r by simp, rdT_esc_ok s 0 r h1 (by omega)]
      rfl
    · rw [if_neg (by decide), if_neg (by decide), if_neg (by decide), List.cons_append, rdV, if_neg (by omega), if_neg (by decide), if_neg (by decide), if_pos rfl]
      unfold rdB
      by_cases hl : l = []
      · subst hl
        rw [wrL_nil, countL_nil]
        rfl
      · have hne : (wrL true l ++ [93] ++ r).head? ≠ some 93 := by
          intro e
          have := head_tail e
          cases l with
          | nil => exact hl rfl
          | cons x l =>
            rw [eachL_cons, Bool.and_eq_true] at he
            rw [wrL_cons] at this
            exact head_no he.1.1 (wrL false l ++ [93] ++ r) _ 93 (.inl rfl) (by simpa using this)
        have hlen := wrL_long l true he.1
        rw [if_neg hne, show wrL true l ++ [93] ++ r = wrL true l ++ 93 :: r by simp, rdL_wr ih l _ (n + 1) r hl he.1 (by omega) (by omega) (by rw [List.length_append]; omega)]
        unfold Rd.map
        simp only [Rd.ok.injEq, Prod.mk.injEq, and_true, true_and]
        omega
    · rw [if_neg (by decide), if_neg (by decide), if_pos rfl, List.cons_append, rdV, if_neg (by omega), if_neg (by decide), if_neg (by decide), if_neg (by decide), if_pos rfl]
      unfold rdO
      by_cases hl : l = []
      · subst hl
        obtain rfl := List.eq_nil_of_length_eq_zero e2
        rw [wrM_nil, countL_nil]
        rfl
      · have hne : (wrM true l ks ++ [125] ++ r).head? ≠ some 125 := by
          cases l with
          | nil => exact absurd rfl hl
          | cons x l =>
            rw [wrM_cons]
            unfold quotL
            simp
        have hlen := wrM_long l true ks he.1
        rw [if_neg hne, show wrM true l ks ++ [125] ++ r = wrM true l ks ++ 125 :: r by simp, rdM_wr ih l ks _ none (n + 1) r hl he.1 (by omega) (by omega) (by rw [List.length_append]; omega) e2 p3 (fun p q h => by cases h)]
        unfold Rd.map
        simp only [Rd.ok.injEq, Prod.mk.injEq, and_true, true_and]
        omega

/-! ### whole texts -/
theorem rdP_ok {s : List UInt8} {t : VT} {r : List UInt8} (h : rdP s = .ok t r) : s = t.wr ∧ t.okB = true ∧ s.length ≤ 65536 := by
  unfold rdP at h
  split at h
  · cases h
  split at h
  · cases h
  · rename_i hlen _ t' n' hv
    simp only [Rd.ok.injEq] at h
    obtain ⟨rfl, rfl⟩ := h
    obtain ⟨e1, e2, e3, e4, e5, _⟩ := rdV_ok 12 0 s t' n' [] (by decide) hv
    refine ⟨by rw [e1, List.append_nil], ?_, by omega⟩
    unfold VT.okB
    rw [e2, decide_eq_true (by omega), decide_eq_true e3]
    rfl
  · cases h
theorem rdP_wr {t : VT} (h : t.okB = true) (hl : t.wr.length ≤ 65536) : rdP t.wr = .ok t [] := by
  unfold VT.okB at h
  rw [Bool.and_eq_true, Bool.and_eq_true, decide_eq_true_eq, decide_eq_true_eq] at h
  have := rdV_wr 12 0 t [] h.2 h.1.2 (by omega) (fun _ c u e => by cases e)
  rw [List.append_nil] at this
  unfold rdP
  rw [if_neg (by omega), this]
end Go.Proofs.YtnloimanklkigaaDoor.V
