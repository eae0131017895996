/- The reference's one: which may be, but for its items. -/
import Derived.Test.YtdfdpckcemdimaaDoorVReg
import Derived.Test.YtdfdpckcemdimaaDoorVKeys
import Derived.Test.YtdfdpckcemdimaaDoorVRefText
import Derived.Test.YtdfdpckcemdimaaDoorVRefLess
import Derived.Test.YtdfdpckcemdimaaDoorVRefEach
namespace Go.Proofs.YtdfdpckcemdimaaDoor.V
open Go.RowKit Go.Sort Go.Joins
set_option maxRecDepth 100000

theorem refText_l (x : List UInt8) (W : World) (hs : x.length ≤ maxLen) : Calls Tryd.prog 58 #[.string ⟨x.toArray⟩] W fun e w' => e = .returned (.bool (textOk x)) ∧ Below W.heap.size W w' :=
  refText_any ⟨x.toArray⟩ W (by rw [str_size]; exact hs)
theorem refLess_l (x y : List UInt8) (W : World) (hs : x.length ≤ maxLen) : Calls Tryd.prog 38 #[.string ⟨x.toArray⟩, .string ⟨y.toArray⟩] W fun e w' => e = .returned (.bool (lessL x y)) ∧ Below W.heap.size W w' :=
  refLess_any ⟨x.toArray⟩ ⟨y.toArray⟩ W (by rw [str_size]; exact hs)
set_option maxHeartbeats 3200000 in
theorem one_no (k n : Int) (s : List UInt8) (ai : Option Addr) (m ci : Nat) (ak : Option Addr) (kl kc : Nat) (w : World)
    (hh : (decide (k < 1) || decide (4 < k) || (decide (k ≠ 1) && decide (n ≠ 0)) || (decide (k ≠ 2) && decide (s ≠ [])) || (decide (k < 3) && decide (0 < m)) || (decide (k ≠ 4) && decide (0 < kl))) = true) :
    Calls Tryd.prog 44 #[.agg #[.int .i64 k, .int .i64 n, .string ⟨s.toArray⟩, .slice ai m ci, .slice ak kl kc]] w fun e w' => e = .returned (.bool false) ∧ Below w.heap.size w w' := by
  have hbW := (Below.refl w.heap.size w).alloc (Nat.le_refl _) (.cells #[.int .i64 k, .int .i64 n, .string ⟨s.toArray⟩, .slice ai m ci, .slice ak kl kc] 25)
  by_cases h1 : k < 1
  · go_enter Tryd.func44, Tryd.ntmps44
    go_wp2
    go_ret
    exact ⟨rfl, hbW⟩
  by_cases h4 : k > 4
  · go_enter Tryd.func44, Tryd.ntmps44
    go_wp2
    go_ret
    exact ⟨rfl, hbW⟩
  have hk : k = 1 ∨ k = 2 ∨ k = 3 ∨ k = 4 := by omega
  rcases hk with rfl | rfl | rfl | rfl
  · by_cases hs : s = []
    case neg =>
      have qs := hs
      clear hh
      go_enter Tryd.func44, Tryd.ntmps44
      go_wp2
      go_ret
      exact ⟨rfl, hbW⟩
    subst hs
    by_cases hm : m = 0
    case neg =>
      have qm : (m : Int) > 0 := by omega
      clear hh
      go_enter Tryd.func44, Tryd.ntmps44
      go_wp2
      go_ret
      exact ⟨rfl, hbW⟩
    subst hm
    by_cases hkl : kl = 0
    case neg =>
      have qk : (kl : Int) > 0 := by omega
      clear hh
      go_enter Tryd.func44, Tryd.ntmps44
      go_wp2
      go_ret
      exact ⟨rfl, hbW⟩
    subst hkl
    exact absurd hh (by simp)
  · by_cases hn : n = 0
    case neg =>
      have qn : (n != 0) = true := by simpa using hn
      clear hh
      go_enter Tryd.func44, Tryd.ntmps44
      go_wp2
      go_ret
      exact ⟨rfl, hbW⟩
    subst hn
    by_cases hm : m = 0
    case neg =>
      have qm : (m : Int) > 0 := by omega
      clear hh
      go_enter Tryd.func44, Tryd.ntmps44
      go_wp2
      go_ret
      exact ⟨rfl, hbW⟩
    subst hm
    by_cases hkl : kl = 0
    case neg =>
      have qk : (kl : Int) > 0 := by omega
      clear hh
      go_enter Tryd.func44, Tryd.ntmps44
      go_wp2
      go_ret
      exact ⟨rfl, hbW⟩
    subst hkl
    exact absurd hh (by simp)
  · by_cases hn : n = 0
    case neg =>
      have qn : (n != 0) = true := by simpa using hn
      clear hh
      go_enter Tryd.func44, Tryd.ntmps44
      go_wp2
      go_ret
      exact ⟨rfl, hbW⟩
    subst hn
    by_cases hs : s = []
    case neg =>
      have qs := hs
      clear hh
      go_enter Tryd.func44, Tryd.ntmps44
      go_wp2
      go_ret
      exact ⟨rfl, hbW⟩
    subst hs
    by_cases hkl : kl = 0
    case neg =>
      have qk : (kl : Int) > 0 := by omega
      clear hh
      go_enter Tryd.func44, Tryd.ntmps44
      go_wp2
      go_ret
      exact ⟨rfl, hbW⟩
    subst hkl
    exact absurd hh (by simp)
  · by_cases hn : n = 0
    case neg =>
      have qn : (n != 0) = true := by simpa using hn
      clear hh
      go_enter Tryd.func44, Tryd.ntmps44
      go_wp2
      go_ret
      exact ⟨rfl, hbW⟩
    subst hn
    by_cases hs : s = []
    case neg =>
      have qs := hs
      clear hh
      go_enter Tryd.func44, Tryd.ntmps44
      go_wp2
      go_ret
      exact ⟨rfl, hbW⟩
    subst hs
    exact absurd hh (by simp)

theorem one_head {k n : Int} {s : List UInt8} {m : Nat} {ks : List (List UInt8)} (hh : (decide (k < 1) || decide (4 < k) || (decide (k ≠ 1) && decide (n ≠ 0)) || (decide (k ≠ 2) && decide (s ≠ [])) || (decide (k < 3) && decide (0 < m)) || (decide (k ≠ 4) && decide (0 < ks.length))) = false) :
    (k = 1 ∨ k = 2 ∨ k = 3 ∨ k = 4) ∧ (k = 1 ∨ n = 0) ∧ (k = 2 ∨ s = []) ∧ (3 ≤ k ∨ m = 0) ∧ (k = 4 ∨ ks = []) := by
  simp only [Bool.or_eq_false_iff, Bool.and_eq_false_iff, decide_eq_false_iff_not] at hh
  obtain ⟨⟨⟨⟨⟨h1, h2⟩, h3⟩, h4⟩, h5⟩, h6⟩ := hh
  refine ⟨by omega, h3.imp Classical.not_not.1 Classical.not_not.1, h4.imp Classical.not_not.1 Classical.not_not.1, by omega, h6.imp Classical.not_not.1 fun h => List.eq_nil_of_length_eq_zero (by omega)⟩
theorem oneB_no {k n : Int} {s : List UInt8} {m : Nat} {ks : List (List UInt8)} (hh : (decide (k < 1) || decide (4 < k) || (decide (k ≠ 1) && decide (n ≠ 0)) || (decide (k ≠ 2) && decide (s ≠ [])) || (decide (k < 3) && decide (0 < m)) || (decide (k ≠ 4) && decide (0 < ks.length))) = true) :
    oneB k n s m ks = false := by
  cases h : oneB k n s m ks with
  | false => rfl
  | true =>
    have h1 := one_of h
    rcases h1 with ⟨rfl, rfl, rfl, rfl⟩ | ⟨rfl, rfl, rfl, rfl⟩ | ⟨rfl, rfl, rfl, rfl⟩ | ⟨rfl, rfl, rfl, _⟩ <;> simp at hh
theorem oneB_yes {k n : Int} {s : List UInt8} {m : Nat} {ks : List (List UInt8)} (h : (k = 1 ∨ k = 2 ∨ k = 3 ∨ k = 4) ∧ (k = 1 ∨ n = 0) ∧ (k = 2 ∨ s = []) ∧ (3 ≤ k ∨ m = 0) ∧ (k = 4 ∨ ks = [])) :
    oneB k n s m ks = ((decide (-1099511627776 ≤ n) && decide (n ≤ 1099511627776)) && textOk s && (decide (k ≠ 4) || decide (ks.length = m)) && keysOk ks) := by
  obtain ⟨h1, h2, h3, h4, h5⟩ := h
  unfold oneB
  have e1 : (decide (1 ≤ k) && decide (k ≤ 4)) = true := by rw [Bool.and_eq_true, decide_eq_true_eq, decide_eq_true_eq]; omega
  have e2 : (decide (k = 1) || decide (n = 0)) = true := by rw [Bool.or_eq_true, decide_eq_true_eq, decide_eq_true_eq]; exact h2
  have e3 : (decide (k = 2) || decide (s = [])) = true := by rw [Bool.or_eq_true, decide_eq_true_eq, decide_eq_true_eq]; exact h3
  have e4 : (decide (3 ≤ k) || decide (m = 0)) = true := by rw [Bool.or_eq_true, decide_eq_true_eq, decide_eq_true_eq]; exact h4
  have e5 : (decide (k = 4) || decide (ks = [])) = true := by rw [Bool.or_eq_true, decide_eq_true_eq, decide_eq_true_eq]; exact h5
  rw [e1, e2, e3, e4, e5]
  rfl
set_option maxHeartbeats 6400000 in
theorem one_yes (k n : Int) (s : List UInt8) (ai : Option Addr) (m ci : Nat) (ak : Option Addr) (kc : Nat) (ks : List (List UInt8)) (W : World) (hs : s.length ≤ maxLen) (hkc : kc ≤ maxLen) (hkl : ks.length ≤ kc) (hkm : ∀ x ∈ ks, x.length ≤ maxLen)
    (hks : ks ≠ [] → ∃ b off, ak = some ⟨b, off, none⟩ ∧ ∀ i x, ks[i]? = some x → W.cell? ⟨b, off + i, none⟩ = some (str x))
    (hh : (k = 1 ∨ k = 2 ∨ k = 3 ∨ k = 4) ∧ (k = 1 ∨ n = 0) ∧ (k = 2 ∨ s = []) ∧ (3 ≤ k ∨ m = 0) ∧ (k = 4 ∨ ks = [])) :
    Calls Tryd.prog 44 #[.agg #[.int .i64 k, .int .i64 n, .string ⟨s.toArray⟩, .slice ai m ci, .slice ak ks.length kc]] W fun e w' => e = .returned (.bool ((decide (-1099511627776 ≤ n) && decide (n ≤ 1099511627776)) && textOk s && (decide (k ≠ 4) || decide (ks.length = m)) && keysOk ks)) ∧ Below W.heap.size W w' := by
  unfold maxLen at hkc
  have HT := Lib.hid (fun w => refText_l s w hs)
  have HK := Lib.hid hks
  have HKM := Lib.hid hkm
  clear hks hkm
  have hbW := (Below.refl W.heap.size W).alloc (Nat.le_refl _) (.cells #[.int .i64 k, .int .i64 n, .string ⟨s.toArray⟩, .slice ai m ci, .slice ak ks.length kc] 25)
  have lA := Lies.new W 25 #[.int .i64 k, .int .i64 n, .string ⟨s.toArray⟩, .slice ai m ci, .slice ak ks.length kc]
  obtain ⟨h1, h2, h3, h4, h5⟩ := hh
  rcases h1 with rfl | rfl | rfl | rfl
  · obtain rfl := h3.resolve_left (by decide)
    obtain rfl := h4.resolve_left (by decide)
    obtain rfl := h5.resolve_left (by decide)
    clear h2 h3 h4 h5
    by_cases n1 : n < -1099511627776
    case pos =>
      rw [decide_eq_false (p := -1099511627776 ≤ n) (by omega), Bool.false_and, Bool.false_and, Bool.false_and, Bool.false_and]
      go_enter Tryd.func44, Tryd.ntmps44
      go_wp2
      go_ret
      exact ⟨rfl, hbW⟩
    by_cases n2 : n > 1099511627776
    case pos =>
      rw [decide_eq_false (p := n ≤ 1099511627776) (by omega), Bool.and_false, Bool.false_and, Bool.false_and, Bool.false_and]
      go_enter Tryd.func44, Tryd.ntmps44
      go_wp2
      go_ret
      exact ⟨rfl, hbW⟩
    rw [decide_eq_true (p := -1099511627776 ≤ n) (by omega), decide_eq_true (p := n ≤ 1099511627776) (by omega), Bool.true_and, Bool.true_and]
    have hto : textOk [] = true := by decide
    rw [hto] at HT
    rw [hto]
    clear hto
    go_enter Tryd.func44, Tryd.ntmps44
    go_wp2_with (go_at_call 58; (with_reducible refine (HT.out _).mono ?_); rintro e w1 ⟨rfl, hb1⟩; replace hbW := below_on hbW hb1; replace lA := lA.on hb1; have q0 := lA.cell 0; have q3 := lA.cell 3; have q4 := lA.cell 4; simp only [List.getElem?_toArray, List.getElem?_cons_succ, List.getElem?_cons_zero] at q0 q3 q4)
    go_loopw [86] (fun iv wr => iv = .int .i64 0 ∧ Below W.heap.size W wr) (fun _ _ => 0)
    case atStart => exact ⟨rfl, hbW⟩
    case round =>
      obtain ⟨rfl, hb⟩ := hrel
      go_wp2
      go_ret
      exact ⟨ret1_of (by first | rfl | simp [keysOk_nil]), hb⟩
  · obtain rfl := h2.resolve_left (by decide)
    obtain rfl := h4.resolve_left (by decide)
    obtain rfl := h5.resolve_left (by decide)
    clear h2 h3 h4 h5
    rw [decide_eq_true (p := -1099511627776 ≤ (0 : Int)) (by decide), decide_eq_true (p := (0 : Int) ≤ 1099511627776) (by decide), Bool.true_and, Bool.true_and]
    cases hto : textOk s with
    | false =>
      rw [hto] at HT
      rw [Bool.false_and, Bool.false_and]
      clear hto
      go_enter Tryd.func44, Tryd.ntmps44
      go_wp2_with (go_at_call 58; (with_reducible refine (HT.out _).mono ?_); rintro e w1 ⟨rfl, hb1⟩; replace hbW := below_on hbW hb1; replace lA := lA.on hb1)
      go_ret
      exact ⟨rfl, hbW⟩
    | true =>
      rw [hto] at HT
      clear hto
      go_enter Tryd.func44, Tryd.ntmps44
      go_wp2_with (go_at_call 58; (with_reducible refine (HT.out _).mono ?_); rintro e w1 ⟨rfl, hb1⟩; replace hbW := below_on hbW hb1; replace lA := lA.on hb1; have q0 := lA.cell 0; have q3 := lA.cell 3; have q4 := lA.cell 4; simp only [List.getElem?_toArray, List.getElem?_cons_succ, List.getElem?_cons_zero] at q0 q3 q4)
      go_loopw [86] (fun iv wr => iv = .int .i64 0 ∧ Below W.heap.size W wr) (fun _ _ => 0)
      case atStart => exact ⟨rfl, hbW⟩
      case round =>
        obtain ⟨rfl, hb⟩ := hrel
        go_wp2
        go_ret
        exact ⟨ret1_of (by first | rfl | simp [keysOk_nil]), hb⟩
  · obtain rfl := h2.resolve_left (by decide)
    obtain rfl := h3.resolve_left (by decide)
    obtain rfl := h5.resolve_left (by decide)
    clear h2 h3 h4 h5
    rw [decide_eq_true (p := -1099511627776 ≤ (0 : Int)) (by decide), decide_eq_true (p := (0 : Int) ≤ 1099511627776) (by decide), Bool.true_and, Bool.true_and]
    have hto : textOk [] = true := by decide
    rw [hto] at HT
    rw [hto]
    clear hto
    go_enter Tryd.func44, Tryd.ntmps44
    go_wp2_with (go_at_call 58; (with_reducible refine (HT.out _).mono ?_); rintro e w1 ⟨rfl, hb1⟩; replace hbW := below_on hbW hb1; replace lA := lA.on hb1; have q0 := lA.cell 0; have q3 := lA.cell 3; have q4 := lA.cell 4; simp only [List.getElem?_toArray, List.getElem?_cons_succ, List.getElem?_cons_zero] at q0 q3 q4)
    go_loopw [86] (fun iv wr => iv = .int .i64 0 ∧ Below W.heap.size W wr) (fun _ _ => 0)
    case atStart => exact ⟨rfl, hbW⟩
    case round =>
      obtain ⟨rfl, hb⟩ := hrel
      go_wp2
      go_ret
      exact ⟨ret1_of (by first | rfl | simp [keysOk_nil]), hb⟩
  · obtain rfl := h2.resolve_left (by decide)
    obtain rfl := h3.resolve_left (by decide)
    clear h2 h3 h4 h5
    rw [decide_eq_true (p := -1099511627776 ≤ (0 : Int)) (by decide), decide_eq_true (p := (0 : Int) ≤ 1099511627776) (by decide), Bool.true_and, Bool.true_and]
    have hto : textOk [] = true := by decide
    rw [hto] at HT
    rw [hto]
    clear hto
    by_cases hl : ks.length = m
    case neg =>
      have hne : ((ks.length : Int) != (m : Int)) = true := bne_iff_ne.2 (by omega)
      rw [decide_eq_false hl]
      go_enter Tryd.func44, Tryd.ntmps44
      go_wp2_with (go_at_call 58; (with_reducible refine (HT.out _).mono ?_); rintro e w1 ⟨rfl, hb1⟩; replace hbW := below_on hbW hb1; replace lA := lA.on hb1; have q0 := lA.cell 0; have q3 := lA.cell 3; have q4 := lA.cell 4; simp only [List.getElem?_toArray, List.getElem?_cons_succ, List.getElem?_cons_zero] at q0 q3 q4)
      go_ret
      exact ⟨rfl, hbW⟩
    have hne : ((ks.length : Int) != (m : Int)) = false := by rw [hl]; exact bne_self_eq_false _
    rw [decide_eq_true hl]
    clear hl
    go_enter Tryd.func44, Tryd.ntmps44
    go_wp2_with (go_at_call 58; (with_reducible refine (HT.out _).mono ?_); rintro e w1 ⟨rfl, hb1⟩; replace hbW := below_on hbW hb1; replace lA := lA.on hb1; have q0 := lA.cell 0; have q3 := lA.cell 3; have q4 := lA.cell 4; simp only [List.getElem?_toArray, List.getElem?_cons_succ, List.getElem?_cons_zero] at q0 q3 q4)
    clear hne q0 q3 q4 HT
    go_loopw [86] (fun iv wr => ∃ j : Nat, iv = .int .i64 j ∧ j ≤ ks.length ∧ Hid (KeysTo ks j) ∧ Below W.heap.size W wr ∧ Lies wr W.heap.size 25 #[.int .i64 4, .int .i64 0, .string ⟨#[]⟩, .slice ai m ci, .slice ak ks.length kc]) (fun iv _ => ks.length - (intOf iv).toNat)
    case atStart => exact ⟨0, rfl, Nat.zero_le _, Lib.hid (KeysTo.zero ks), hbW, lA⟩
    case round =>
      clear lA hbW
      obtain ⟨j, rfl, hj, HS, hb, lA⟩ := hrel
      by_cases hlt : j < ks.length
      · obtain ⟨b, off, rfl, hkx⟩ := HK.out (by intro h; rw [h] at hlt; simp at hlt)
        obtain ⟨x, hxi⟩ : ∃ x, ks[j]? = some x := ⟨ks[j], List.getElem?_eq_getElem hlt⟩
        have g1 : W.cell? ⟨b, off + j, none⟩ = some (.string ⟨x.toArray⟩) := hkx j x hxi
        have c1 := (hb.cell (p := ⟨b, off + j, none⟩) (World.block_lt_of_cell? W _ g1)).trans g1
        have HT := Lib.hid (fun w => refText_l x w (HKM.out x (List.mem_of_getElem? hxi)))
        cases hto : textOk x with
        | false =>
          have hr := Lib.hid (keysOk_bad hxi hto)
          rw [hto] at HT
          clear hkx g1 HK HKM hto hxi HS
          go_wp2_with (go_at_call 58; (with_reducible refine (HT.out _).mono ?_); rintro e w1 ⟨rfl, hb1⟩)
          go_ret
          exact ⟨ret1_of (by rw [hr.out]; rfl), on_below hb hb1 hb.size⟩
        | true =>
          rw [hto] at HT
          rcases Nat.eq_zero_or_pos j with hz | hz
          · subst hz
            have HS2 := Lib.hid (KeysTo.first hxi hto)
            simp only [Nat.add_zero] at c1
            clear hkx g1 HK HKM hto hxi HS
            go_wp2_with (go_at_call 58; (with_reducible refine (HT.out _).mono ?_); rintro e w1 ⟨rfl, hb1⟩)
            go_roundw
            case rel => exact ⟨0 + 1, by go_num, by omega, HS2, on_below hb hb1 hb.size, lA.on hb1⟩
            case measure => simp [intOf]; omega
          · obtain ⟨j, rfl⟩ : ∃ i, j = i + 1 := ⟨j - 1, by omega⟩
            obtain ⟨y, hyi⟩ : ∃ y, ks[j]? = some y := ⟨ks[j], List.getElem?_eq_getElem (by omega)⟩
            have g2 : W.cell? ⟨b, off + j, none⟩ = some (.string ⟨y.toArray⟩) := hkx j y hyi
            have c2 := (hb.cell (p := ⟨b, off + j, none⟩) (World.block_lt_of_cell? W _ g2)).trans g2
            have HL := Lib.hid (fun w => refLess_l y x w (HKM.out y (List.mem_of_getElem? hyi)))
            have q4 := lA.cell 4
            simp only [List.getElem?_toArray, List.getElem?_cons_succ, List.getElem?_cons_zero] at q4
            have hj1 : ((j + 1 : Nat) : Int) > 0 := by omega
            have hj2 : ((j + 1 : Nat) : Int) - 1 = (j : Int) := by omega
            have hj3 : (j : Int) < (ks.length : Int) := by omega
            cases hle : lessL y x with
            | false =>
              have hr := Lib.hid (keysOk_order hyi hxi hle)
              rw [hle] at HL
              clear hkx g1 g2 HK HKM hto hxi hyi HS hle
              go_wp2_with (first | (go_at_call 58; (with_reducible refine (HT.out _).mono ?_); rintro e w1 ⟨rfl, hb1⟩; have c3 := (hb1.cell (World.block_lt_of_cell? wr _ c2)).trans c2; have q5 := (hb1.cell (World.block_lt_of_cell? wr _ q4)).trans q4) | (go_at_call 38; (with_reducible refine (HL.out _).mono ?_); rintro e w2 ⟨rfl, hb2⟩))
              go_ret
              exact ⟨ret1_of (by rw [hr.out]; rfl), on_below hb (below_on hb1 hb2) hb.size⟩
            | true =>
              have HS2 := Lib.hid (KeysTo.next HS.out hyi hxi hto hle)
              rw [hle] at HL
              clear hkx g1 g2 HK HKM hto hxi hyi HS hle
              go_wp2_with (first | (go_at_call 58; (with_reducible refine (HT.out _).mono ?_); rintro e w1 ⟨rfl, hb1⟩; have c3 := (hb1.cell (World.block_lt_of_cell? wr _ c2)).trans c2; have q5 := (hb1.cell (World.block_lt_of_cell? wr _ q4)).trans q4) | (go_at_call 38; (with_reducible refine (HL.out _).mono ?_); rintro e w2 ⟨rfl, hb2⟩))
              go_roundw
              case rel => exact ⟨j + 1 + 1, by go_num, by omega, HS2, on_below hb (below_on hb1 hb2) hb.size, (lA.on hb1).on hb2⟩
              case measure => simp [intOf]; omega
      · have hr := Lib.hid (show keysOk ks = true by
          obtain rfl : j = ks.length := by omega
          exact HS.out.all)
        clear HS HK HKM
        go_wp2
        go_ret
        exact ⟨ret1_of (by rw [hr.out]; rfl), hb⟩
theorem refOne_any : OneSays := by
  intro d cs t w h
  cases d with
  | zero => exact h.elim
  | succ d =>
    obtain ⟨vi, vk, rfl, hfit, hks, a, c, rfl, hc, hm, hna, hx⟩ := h
    obtain ⟨ka, kc, rfl, hkc, hkm, hka, hkx⟩ := hks
    cases hh : (decide (t.kind < 1) || decide (4 < t.kind) || (decide (t.kind ≠ 1) && decide (t.num ≠ 0)) || (decide (t.kind ≠ 2) && decide (t.txt ≠ [])) || (decide (t.kind < 3) && decide (0 < t.items.length)) || (decide (t.kind ≠ 4) && decide (0 < t.keys.length))) with
    | true => rw [oneB_no hh]; exact one_no _ _ _ _ _ _ _ _ _ w hh
    | false => rw [oneB_yes (one_head hh)]; exact one_yes _ _ _ _ _ _ _ _ _ w hfit.2.2.1 hkm hkc hfit.2.2.2 hkx (one_head hh)
end Go.Proofs.YtdfdpckcemdimaaDoor.V
