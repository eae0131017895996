/- The developers' fieldsMayBe. -/
import Derived.Test.YtnloimanklkigaaDoorVMay
namespace Go.Proofs.YtnloimanklkigaaDoor.V
open Go.RowKit Go.Sort Go.Joins
set_option maxRecDepth 100000

theorem oneB_1 (n : Int) (s : List UInt8) (m : Nat) (ks : List (List UInt8)) : oneB 1 n s m ks = ((decide (-1099511627776 ≤ n) && decide (n ≤ 1099511627776)) && decide (s = []) && decide (m = 0) && decide (ks = [])) := by
  unfold oneB
  by_cases hs : s = [] <;> by_cases hm : m = 0 <;> by_cases hk : ks = [] <;> simp [hs, hm, hk, textOk, keysOk_nil]
theorem oneB_2 (n : Int) (s : List UInt8) (m : Nat) (ks : List (List UInt8)) : oneB 2 n s m ks = (textOk s && decide (n = 0) && decide (m = 0) && decide (ks = [])) := by
  unfold oneB
  by_cases hn : n = 0 <;> by_cases hm : m = 0 <;> by_cases hk : ks = [] <;> simp [hn, hm, hk, keysOk_nil]
theorem oneB_3 (n : Int) (s : List UInt8) (m : Nat) (ks : List (List UInt8)) : oneB 3 n s m ks = (decide (n = 0) && decide (s = []) && decide (ks = [])) := by
  unfold oneB
  by_cases hn : n = 0 <;> by_cases hs : s = [] <;> by_cases hk : ks = [] <;> simp [hn, hs, hk, textOk, keysOk_nil]
theorem oneB_4 (n : Int) (s : List UInt8) (m : Nat) (ks : List (List UInt8)) : oneB 4 n s m ks = (decide (n = 0) && decide (s = []) && decide (ks.length = m) && keysOk ks) := by
  unfold oneB
  by_cases hn : n = 0 <;> by_cases hs : s = [] <;> simp [hn, hs, textOk]
theorem oneB_x {k : Int} (n : Int) (s : List UInt8) (m : Nat) (ks : List (List UInt8)) (h : ¬ (k = 1 ∨ k = 2 ∨ k = 3 ∨ k = 4)) : oneB k n s m ks = false := by
  unfold oneB
  have : (decide (1 ≤ k) && decide (k ≤ 4)) = false := by
    rw [Bool.and_eq_false_iff, decide_eq_false_iff_not, decide_eq_false_iff_not]; omega
  rw [this]
  rfl
set_option maxHeartbeats 6400000 in
theorem fields_any (k n : Int) (s : List UInt8) (ai : Option Addr) (m ci : Nat) (ak : Option Addr) (kc : Nat) (ks : List (List UInt8)) (W : World) (hs : s.length ≤ maxLen) (hkc : kc ≤ maxLen) (hkl : ks.length ≤ kc) (hkm : ∀ x ∈ ks, x.length ≤ maxLen)
    (hks : ks ≠ [] → ∃ b off, ak = some ⟨b, off, none⟩ ∧ ∀ i x, ks[i]? = some x → W.cell? ⟨b, off + i, none⟩ = some (str x)) :
    Calls Tryd.prog 54 #[.agg #[.int .i64 k, .int .i64 n, .string ⟨s.toArray⟩, .slice ai m ci, .slice ak ks.length kc]] W fun e w' => e = .returned (.bool (oneB k n s m ks)) ∧ Below W.heap.size W w' := by
  have HT := Lib.hid (fun w => isText_l s w hs)
  have HN := Lib.hid (fun w => isNumber_any n w)
  have HA := Lib.hid (fun (w : World) (hb : Below W.heap.size W w) => areKeys_any ks ak kc w hkc hkl hkm (fun hne => let ⟨b, off, ha, hx⟩ := hks hne; ⟨b, off, ha, fun i x hi => (hb.cell (World.block_lt_of_cell? W _ (hx i x hi))).trans (hx i x hi)⟩))
  clear hks hkm
  have hbW := (Below.refl W.heap.size W).alloc (Nat.le_refl _) (.cells #[.int .i64 k, .int .i64 n, .string ⟨s.toArray⟩, .slice ai m ci, .slice ak ks.length kc] 25)
  have lA := Lies.new W 25 #[.int .i64 k, .int .i64 n, .string ⟨s.toArray⟩, .slice ai m ci, .slice ak ks.length kc]
  by_cases hk1 : k = 1
  case pos =>
    subst hk1
    rw [oneB_1]
    generalize (decide (-1099511627776 ≤ n) && decide (n ≤ 1099511627776)) = r at *
    cases r
    case false =>
      go_enter Tryd.func54, Tryd.ntmps54
      go_wp2_with (go_at_call 71; (with_reducible refine (HN.out _).mono ?_); rintro e w1 ⟨rfl, rfl⟩)
      go_ret
      exact ⟨rfl, hbW⟩
    rw [Bool.true_and]
    by_cases hs0 : s = []
    case neg =>
      have qs := hs0
      simp only [decide_eq_false hs0, Bool.false_and]
      go_enter Tryd.func54, Tryd.ntmps54
      go_wp2_with (go_at_call 71; (with_reducible refine (HN.out _).mono ?_); rintro e w1 ⟨rfl, rfl⟩)
      go_ret
      exact ⟨rfl, hbW⟩
    subst hs0
    by_cases hm : m = 0
    case neg =>
      have qm : ((m : Int) == 0) = false := by simp; omega
      simp only [decide_eq_false hm, Bool.and_false, Bool.false_and]
      go_enter Tryd.func54, Tryd.ntmps54
      go_wp2_with (go_at_call 71; (with_reducible refine (HN.out _).mono ?_); rintro e w1 ⟨rfl, rfl⟩)
      go_ret
      exact ⟨rfl, hbW⟩
    subst hm
    by_cases hkk : ks = []
    case neg =>
      have qk : ((ks.length : Int) == 0) = false := by simpa using hkk
      simp only [decide_eq_false hkk, Bool.and_false]
      go_enter Tryd.func54, Tryd.ntmps54
      go_wp2_with (go_at_call 71; (with_reducible refine (HN.out _).mono ?_); rintro e w1 ⟨rfl, rfl⟩)
      go_ret
      exact ⟨rfl, hbW⟩
    subst hkk
    go_enter Tryd.func54, Tryd.ntmps54
    go_wp2_with (go_at_call 71; (with_reducible refine (HN.out _).mono ?_); rintro e w1 ⟨rfl, rfl⟩)
    go_ret
    exact ⟨rfl, hbW⟩
  by_cases hk2 : k = 2
  case pos =>
    subst hk2
    rw [oneB_2]
    generalize textOk s = r at *
    cases r
    case false =>
      go_enter Tryd.func54, Tryd.ntmps54
      go_wp2_with (go_at_call 72; (with_reducible refine (HT.out _).mono ?_); rintro e w1 ⟨rfl, hb1⟩; replace hbW := below_on hbW hb1; replace lA := lA.on hb1; have q0 := lA.cell 0; have q1 := lA.cell 1; have q2 := lA.cell 2; have q3 := lA.cell 3; have q4 := lA.cell 4; simp only [List.getElem?_toArray, List.getElem?_cons_succ, List.getElem?_cons_zero] at q0 q1 q2 q3 q4)
      go_ret
      exact ⟨rfl, hbW⟩
    rw [Bool.true_and]
    by_cases hn : n = 0
    case neg =>
      have qn : (n == 0) = false := by simpa using hn
      simp only [decide_eq_false hn, Bool.false_and]
      go_enter Tryd.func54, Tryd.ntmps54
      go_wp2_with (go_at_call 72; (with_reducible refine (HT.out _).mono ?_); rintro e w1 ⟨rfl, hb1⟩; replace hbW := below_on hbW hb1; replace lA := lA.on hb1; have q0 := lA.cell 0; have q1 := lA.cell 1; have q2 := lA.cell 2; have q3 := lA.cell 3; have q4 := lA.cell 4; simp only [List.getElem?_toArray, List.getElem?_cons_succ, List.getElem?_cons_zero] at q0 q1 q2 q3 q4)
      go_ret
      exact ⟨rfl, hbW⟩
    subst hn
    by_cases hm : m = 0
    case neg =>
      have qm : ((m : Int) == 0) = false := by simp; omega
      simp only [decide_eq_false hm, Bool.and_false, Bool.false_and]
      go_enter Tryd.func54, Tryd.ntmps54
      go_wp2_with (go_at_call 72; (with_reducible refine (HT.out _).mono ?_); rintro e w1 ⟨rfl, hb1⟩; replace hbW := below_on hbW hb1; replace lA := lA.on hb1; have q0 := lA.cell 0; have q1 := lA.cell 1; have q2 := lA.cell 2; have q3 := lA.cell 3; have q4 := lA.cell 4; simp only [List.getElem?_toArray, List.getElem?_cons_succ, List.getElem?_cons_zero] at q0 q1 q2 q3 q4)
      go_ret
      exact ⟨rfl, hbW⟩
    subst hm
    by_cases hkk : ks = []
    case neg =>
      have qk : ((ks.length : Int) == 0) = false := by simpa using hkk
      simp only [decide_eq_false hkk, Bool.and_false]
      go_enter Tryd.func54, Tryd.ntmps54
      go_wp2_with (go_at_call 72; (with_reducible refine (HT.out _).mono ?_); rintro e w1 ⟨rfl, hb1⟩; replace hbW := below_on hbW hb1; replace lA := lA.on hb1; have q0 := lA.cell 0; have q1 := lA.cell 1; have q2 := lA.cell 2; have q3 := lA.cell 3; have q4 := lA.cell 4; simp only [List.getElem?_toArray, List.getElem?_cons_succ, List.getElem?_cons_zero] at q0 q1 q2 q3 q4)
      go_ret
      exact ⟨rfl, hbW⟩
    subst hkk
    go_enter Tryd.func54, Tryd.ntmps54
    go_wp2_with (go_at_call 72; (with_reducible refine (HT.out _).mono ?_); rintro e w1 ⟨rfl, hb1⟩; replace hbW := below_on hbW hb1; replace lA := lA.on hb1; have q0 := lA.cell 0; have q1 := lA.cell 1; have q2 := lA.cell 2; have q3 := lA.cell 3; have q4 := lA.cell 4; simp only [List.getElem?_toArray, List.getElem?_cons_succ, List.getElem?_cons_zero] at q0 q1 q2 q3 q4)
    go_ret
    exact ⟨rfl, hbW⟩
  by_cases hk3 : k = 3
  case pos =>
    subst hk3
    rw [oneB_3]
    by_cases hn : n = 0
    case neg =>
      have qn : (n == 0) = false := by simpa using hn
      simp only [decide_eq_false hn, Bool.false_and]
      go_enter Tryd.func54, Tryd.ntmps54
      go_wp2
      go_ret
      exact ⟨rfl, hbW⟩
    subst hn
    by_cases hs0 : s = []
    case neg =>
      have qs := hs0
      simp only [decide_eq_false hs0, Bool.and_false, Bool.false_and]
      go_enter Tryd.func54, Tryd.ntmps54
      go_wp2
      go_ret
      exact ⟨rfl, hbW⟩
    subst hs0
    by_cases hkk : ks = []
    case neg =>
      have qk : ((ks.length : Int) == 0) = false := by simpa using hkk
      simp only [decide_eq_false hkk, Bool.and_false]
      go_enter Tryd.func54, Tryd.ntmps54
      go_wp2
      go_ret
      exact ⟨rfl, hbW⟩
    subst hkk
    go_enter Tryd.func54, Tryd.ntmps54
    go_wp2
    go_ret
    exact ⟨rfl, hbW⟩
  by_cases hk4 : k = 4
  case pos =>
    subst hk4
    rw [oneB_4]
    by_cases hn : n = 0
    case neg =>
      have qn : (n == 0) = false := by simpa using hn
      simp only [decide_eq_false hn, Bool.false_and]
      go_enter Tryd.func54, Tryd.ntmps54
      go_wp2
      go_ret
      exact ⟨rfl, hbW⟩
    subst hn
    by_cases hs0 : s = []
    case neg =>
      have qs := hs0
      simp only [decide_eq_false hs0, Bool.and_false, Bool.false_and]
      go_enter Tryd.func54, Tryd.ntmps54
      go_wp2
      go_ret
      exact ⟨rfl, hbW⟩
    subst hs0
    by_cases hl : ks.length = m
    case neg =>
      have ql : ((ks.length : Int) == (m : Int)) = false := by simp; omega
      simp only [decide_eq_false hl, Bool.and_false, Bool.false_and]
      go_enter Tryd.func54, Tryd.ntmps54
      go_wp2
      go_ret
      exact ⟨rfl, hbW⟩
    have ql : ((ks.length : Int) == (m : Int)) = true := by simp [hl]
    rw [decide_eq_true hl]
    clear hl
    generalize keysOk ks = r at *
    cases r
    case false =>
      go_enter Tryd.func54, Tryd.ntmps54
      go_wp2_with (go_at_call 73; (with_reducible refine (HA.out _ hbW).mono ?_); rintro e w2 ⟨rfl, hb2⟩; replace hbW := below_on hbW hb2)
      go_ret
      exact ⟨rfl, hbW⟩
    go_enter Tryd.func54, Tryd.ntmps54
    go_wp2_with (go_at_call 73; (with_reducible refine (HA.out _ hbW).mono ?_); rintro e w2 ⟨rfl, hb2⟩; replace hbW := below_on hbW hb2)
    go_ret
    exact ⟨rfl, hbW⟩
  rw [oneB_x _ _ _ _ (by omega)]
  go_enter Tryd.func54, Tryd.ntmps54
  go_wp2
  go_ret
  exact ⟨rfl, hbW⟩
theorem fieldsV_any (d : Nat) (cs : List Value) (t : VT) (w : World) (h : IsV w d cs t) : Calls Tryd.prog 54 #[.agg cs.toArray] w fun e w' => e = .returned (.bool (oneB t.kind t.num t.txt t.items.length t.keys)) ∧ Below w.heap.size w w' := by
  cases d with
  | zero => exact h.elim
  | succ d =>
    obtain ⟨vi, vk, rfl, hfit, hks, a, c, rfl, hc, hm, hna, hx⟩ := h
    obtain ⟨ka, kc, rfl, hkc, hkm, hka, hkx⟩ := hks
    exact fields_any _ _ _ _ _ _ _ _ _ w hfit.2.2.1 hkm hkc hfit.2.2.2 hkx
end Go.Proofs.YtnloimanklkigaaDoor.V
