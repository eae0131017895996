/- Blanks where none may be, and keys out of order: what reading comes to. Nothing of the program is named here. -/
import Derived.Test.YtnloimanklkigaaDoorYCut
namespace Go.Proofs.YtnloimanklkigaaDoor.V
open Go

theorem rdV_blank (d n : Nat) (r : List UInt8) (h : n ≠ 2000) : rdV (d + 1) n (32 :: r) = .bad 20 := by
  rw [rdV, if_neg h, if_neg (by decide), if_neg (by decide), if_neg (by decide), if_neg (by decide)]
/-- a blank ahead of it all -/
theorem rdP_front {s : List UInt8} (h : s.length + 1 ≤ 65536) : rdP (32 :: s) = .bad 20 := by
  unfold rdP
  rw [if_neg (by rw [List.length_cons]; omega), rdV_blank 11 0 s (by decide)]
/-- something behind it all that is no digit -/
theorem rdP_back {t : VT} {c : UInt8} {r : List UInt8} (h : t.okB = true) (hl : (t.wr ++ c :: r).length ≤ 65536) (hc : isDig c = false) : rdP (t.wr ++ c :: r) = .bad 20 := by
  unfold VT.okB at h
  rw [Bool.and_eq_true, Bool.and_eq_true, decide_eq_true_eq, decide_eq_true_eq] at h
  unfold rdP
  rw [if_neg (by omega), rdV_wr 12 0 t (c :: r) h.2 h.1.2 (by omega) (fun _ => delim_at hc)]
/-- a blank behind a list's first comma -/
theorem rdP_comma {z : Int} {r : List UInt8} (hz : -1099511627776 ≤ z ∧ z ≤ 1099511627776) (hl : (91 :: (Lib.itoa z ++ 44 :: 32 :: r)).length ≤ 65536) : rdP (91 :: (Lib.itoa z ++ 44 :: 32 :: r)) = .bad 20 := by
  obtain ⟨c, u, e, hh⟩ := itoa_head z
  have hc : c ≠ 93 := by rcases hh with rfl | hh
                         · decide
                         · intro e; rw [e] at hh; exact absurd hh (by decide)
  have he : (VT.mk 1 z [] [] []).each = true := by rw [each_eq, eachL_nil, List.length_nil, oneB_num hz]; rfl
  have h1 := rdV_wr 11 1 (.mk 1 z [] [] []) (44 :: 32 :: r) he (by rw [depth_eq, depthL_nil]; omega) (by rw [count_eq, countL_nil]; omega) (fun _ => delim_sep 44 _ (.inr (.inr rfl)))
  rw [wr_eq, if_pos rfl, count_eq, countL_nil] at h1
  unfold rdP
  rw [if_neg (by omega), rdV, if_neg (by decide), if_neg (by decide), if_neg (by decide), if_pos rfl]
  unfold rdB
  rw [if_neg (by rw [e]; simp [hc]), rdL, h1]
  simp only []
  rw [if_neg (by decide), if_pos trivial]
  obtain ⟨f, hf⟩ : ∃ f, (Lib.itoa z ++ 44 :: 32 :: r).length = f + 1 := ⟨(Lib.itoa z ++ 44 :: 32 :: r).length - 1, by rw [List.length_append]; simp only [List.length_cons]; omega⟩
  rw [hf, rdL, rdV_blank 10 _ r (by decide)]
  rfl
/-- keys in their order, behind the one ahead -/
def ordB : Option (List UInt8) → List (List UInt8) → Bool
  | _, [] => true
  | prev, k :: ks => prev.all (fun p => lessL p k) && ordB (some k) ks
theorem ordB_keysOk : ∀ (ks : List (List UInt8)) (prev : Option (List UInt8)), (∀ k ∈ ks, textOk k = true) → ordB prev ks = true → keysOk ks = true ∧ ∀ p q, prev = some p → ks.head? = some q → lessL p q = true := by
  intro ks
  induction ks with
  | nil => intro prev _ _; exact ⟨keysOk_nil, fun p q _ h => by cases h⟩
  | cons k ks ih =>
    intro prev hk h
    rw [ordB, Bool.and_eq_true] at h
    obtain ⟨h1, h2⟩ := ih (some k) (fun x hx => hk x (by simp [hx])) h.2
    refine ⟨keysOk_cons (hk k (by simp)) h1 (fun q hq => h2 k q rfl hq), fun p q hp hq => ?_⟩
    simp only [List.head?_cons, Option.some.injEq] at hq
    rw [hp] at h
    rw [← hq]
    simpa using h.1
theorem rdK_order {prev : Option (List UInt8)} {k r : List UInt8} (hk : textOk k = true) (hp : prev.all (fun p => lessL p k) = false) : rdK prev (quotL k ++ r) = .bad 23 := by
  obtain ⟨h1, h2⟩ := textOk_parts hk
  unfold quotL
  rw [List.cons_append, rdK, if_neg (by decide), show escL k ++ [34] ++ r = escL k ++ 34 :: r by simp, rdT_esc_ok k 0 r h1 (by omega)]
  simp only []
  rw [if_pos]
  cases prev with
  | none => simp at hp
  | some p => simpa using hp
theorem rdM_order {rv : Nat → List UInt8 → Rd (VT × Nat)} {d : Nat} (H : Comp rv d) : ∀ (l : List VT) (ks : List (List UInt8)) (f : Nat) (prev : Option (List UInt8)) (n : Nat) (r : List UInt8), eachL l = true → depthL l ≤ d → n + countL l ≤ 2000 → l.length ≤ f → ks.length = l.length → (∀ k ∈ ks, textOk k = true) → ordB prev ks = false → rdM rv f prev n (wrM true l ks ++ 125 :: r) = .bad 23 := by
  intro l
  induction l with
  | nil =>
    intro ks f prev n r _ _ _ _ hkl _ ho
    obtain rfl := List.eq_nil_of_length_eq_zero hkl
    cases ho
  | cons x l ih =>
    intro ks f prev n r he hd hc hf hkl hk ho
    obtain ⟨k, ks, rfl⟩ : ∃ k t, ks = k :: t := by
      cases ks with
      | nil => simp at hkl
      | cons k t => exact ⟨k, t, rfl⟩
    rw [eachL_cons, Bool.and_eq_true] at he
    rw [depthL_cons] at hd
    rw [countL_cons] at hc
    rw [List.length_cons] at hf
    have hkl : ks.length = l.length := by simpa using hkl
    have hkt := hk k (by simp)
    obtain ⟨f, rfl⟩ : ∃ g, f = g + 1 := ⟨f - 1, by omega⟩
    rw [wrM_cons, if_pos rfl, List.nil_append, List.headD_cons, List.tail_cons]
    rw [ordB] at ho
    cases hp : prev.all (fun p => lessL p k) with
    | false =>
      rw [show quotL k ++ 58 :: (x.wr ++ wrM false l ks) ++ 125 :: r = quotL k ++ (58 :: (x.wr ++ wrM false l ks) ++ 125 :: r) by simp, rdM, rdK_order hkt hp]
    | true =>
      rw [hp, Bool.true_and] at ho
      have hkr : ∀ u, rdK prev (quotL k ++ 58 :: u) = .ok k u := fun u => rdK_wr hkt (fun p hpe => by rw [hpe] at hp; simpa using hp)
      by_cases hl : l = []
      · subst hl
        obtain rfl : ks = [] := List.eq_nil_of_length_eq_zero (by simpa using hkl)
        cases ho
      · have h1 := H n x (44 :: (wrM true l ks ++ 125 :: r)) he.1 (by omega) (by omega) (fun _ => delim_sep 44 _ (.inr (.inr rfl)))
        rw [wrM_false hl, show quotL k ++ 58 :: (x.wr ++ 44 :: wrM true l ks) ++ 125 :: r = quotL k ++ 58 :: (x.wr ++ 44 :: (wrM true l ks ++ 125 :: r)) by simp, rdM, hkr]
        simp only []
        rw [h1]
        simp only []
        rw [if_neg (by decide), if_pos trivial, ih ks f (some k) (n + x.count) r he.2 (by omega) (by omega) (by omega) hkl (fun q hq => hk q (by simp [hq])) ho]
        rfl
/-- values by keys that stand out of order -/
theorem rdP_order {l : List VT} {ks : List (List UInt8)} (he : eachL l = true) (hd : depthL l ≤ 11) (hc : countL l ≤ 1999) (hkl : ks.length = l.length) (hk : ∀ k ∈ ks, textOk k = true) (ho : ordB none ks = false) (hlen : (123 :: (wrM true l ks ++ [125])).length ≤ 65536) : rdP (123 :: (wrM true l ks ++ [125])) = .bad 23 := by
  have hl := wrM_long l true ks he
  have hne : (wrM true l ks ++ [125]).head? ≠ some 125 := by
    cases l with
    | nil => obtain rfl := List.eq_nil_of_length_eq_zero hkl; cases ho
    | cons x l =>
      rw [wrM_cons]
      unfold quotL
      simp
  unfold rdP
  rw [if_neg (by omega), rdV, if_neg (by decide), if_neg (by decide), if_neg (by decide), if_neg (by decide), if_pos rfl]
  unfold rdO
  rw [if_neg hne, rdM_order (rdV_wr 11) l ks _ none (0 + 1) [] he hd (by omega) (by rw [List.length_append]; omega) hkl hk ho]
  rfl
/-- .. and in order -/
theorem rdP_keys {l : List VT} {ks : List (List UInt8)} (he : eachL l = true) (hd : depthL l ≤ 11) (hc : countL l ≤ 1999) (hkl : ks.length = l.length) (hk : ∀ k ∈ ks, textOk k = true) (ho : ordB none ks = true) (hlen : (123 :: (wrM true l ks ++ [125])).length ≤ 65536) : rdP (123 :: (wrM true l ks ++ [125])) = .ok (.mk 4 0 [] l ks) [] := by
  have h1 : (VT.mk 4 0 [] l ks).wr = 123 :: (wrM true l ks ++ [125]) := by rw [wr_eq, if_neg (by decide), if_neg (by decide), if_pos rfl]
  rw [← h1] at hlen ⊢
  refine rdP_wr ?_ hlen
  unfold VT.okB
  rw [count_eq, depth_eq, each_eq, he, oneB_map hkl (ordB_keysOk ks none hk ho).1, decide_eq_true (by omega), decide_eq_true (by omega)]
  rfl
/-- lists within one another: too many -/
theorem rdV_opens : ∀ (d n m : Nat) (r : List UInt8), r.head? ≠ some 93 → d ≤ m → n + d ≤ 1999 → rdV d n (List.replicate m 91 ++ r) = .bad 21 := by
  intro d
  induction d with
  | zero => intro n m r _ _ _; rw [rdV]
  | succ d ih =>
    intro n m r hr hm hn
    obtain ⟨m, rfl⟩ : ∃ k, m = k + 1 := ⟨m - 1, by omega⟩
    have hne : (List.replicate m (91 : UInt8) ++ r).head? ≠ some 93 := by
      cases m with
      | zero => exact hr
      | succ m => rw [List.replicate_succ]; simp
    rw [List.replicate_succ, List.cons_append, rdV, if_neg (by omega), if_neg (by decide), if_neg (by decide), if_pos rfl]
    unfold rdB
    rw [if_neg hne, rdL, ih (n + 1) m r hr (by omega) (by omega)]
    rfl
/-- a value within m lists -/
def nest : Nat → VT → VT
  | 0, t => t
  | m + 1, t => .mk 3 0 [] [nest m t] []
theorem nest_is (t : VT) (h : t.each = true) : ∀ m : Nat, (nest m t).wr = List.replicate m 91 ++ (t.wr ++ List.replicate m 93) ∧ (nest m t).each = true ∧ (nest m t).depth = m + t.depth ∧ (nest m t).count = m + t.count := by
  intro m
  induction m with
  | zero => exact ⟨by simp [nest], h, by simp [nest], by simp [nest]⟩
  | succ m ih =>
    obtain ⟨h1, h2, h3, h4⟩ := ih
    rw [nest]
    refine ⟨?_, ?_, ?_, ?_⟩
    · rw [wr_eq, if_neg (by decide), if_neg (by decide), if_neg (by decide), wrL_cons, wrL_nil, h1, List.replicate_succ (a := (91 : UInt8)), List.replicate_succ' (a := (93 : UInt8))]
      simp
    · rw [each_eq, eachL_cons, eachL_nil, h2, oneB_list]; rfl
    · rw [depth_eq, depthL_cons, depthL_nil, h3]; omega
    · rw [count_eq, countL_cons, countL_nil, h4]; omega
theorem rdP_nest {t : VT} (h : t.each = true) (m : Nat) (hd : m + t.depth ≤ 12) (hc : m + t.count ≤ 2000) (hl : (nest m t).wr.length ≤ 65536) : rdP (List.replicate m 91 ++ (t.wr ++ List.replicate m 93)) = .ok (nest m t) [] := by
  obtain ⟨h1, h2, h3, h4⟩ := nest_is t h m
  rw [← h1]
  refine rdP_wr ?_ hl
  unfold VT.okB
  rw [h2, h3, h4, decide_eq_true hd, decide_eq_true hc]
  rfl
theorem rdP_opens {m : Nat} {r : List UInt8} (hr : r.head? ≠ some 93) (hm : 12 ≤ m) (hl : (List.replicate m 91 ++ r).length ≤ 65536) : rdP (List.replicate m 91 ++ r) = .bad 21 := by
  unfold rdP
  rw [if_neg (by omega), rdV_opens 12 0 m r hr hm (by decide)]
end Go.Proofs.YtnloimanklkigaaDoor.V
