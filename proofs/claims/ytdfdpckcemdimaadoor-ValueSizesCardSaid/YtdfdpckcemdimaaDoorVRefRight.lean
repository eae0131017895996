/- The reference's Right. -/
import Derived.Test.YtdfdpckcemdimaaDoorVRefOne
namespace Go.Proofs.YtdfdpckcemdimaaDoor.V
open Go.RowKit Go.Sort Go.Joins
set_option maxRecDepth 100000

theorem cnt_le (t : VT) (lim : Int) : (t.cnt lim ≤ lim) ↔ ((t.count : Int) ≤ lim) := by
  obtain ⟨h1, h2, _⟩ := cnt_ok t.count t (Nat.le_refl _) lim
  constructor
  · intro h
    rcases Int.lt_or_le lim (t.count : Int) with h3 | h3
    · have := (h2 h3).1; omega
    · exact h3
  · intro h
    rw [h1 h]; exact h
theorem okB_many {t : VT} (h : ¬ t.count ≤ 2000) : t.okB = false := by unfold VT.okB; rw [decide_eq_false h, Bool.false_and, Bool.false_and]
theorem okB_deep {t : VT} (h : ¬ t.depth ≤ 12) : t.okB = false := by unfold VT.okB; rw [decide_eq_false h, Bool.and_false, Bool.false_and]
theorem okB_each {t : VT} (h1 : t.count ≤ 2000) (h2 : t.depth ≤ 12) : t.okB = t.each := by unfold VT.okB; rw [decide_eq_true h1, decide_eq_true h2]; rfl
set_option maxHeartbeats 1600000 in
theorem refRight_any (d : Nat) (cs : List Value) (t : VT) (w : World) (h : IsV w d cs t) :
    Calls Tryd.prog 17 #[.agg cs.toArray] w fun e w' => e = .returned (.bool t.okB) ∧ Below w.heap.size w w' := by
  have HC := Lib.hid (fun (w1 : World) (hb : Below w.heap.size w w1) => refCount_any d cs t 2000 w1 (h.below hb) (by decide) (by decide))
  have HD := Lib.hid (fun (w1 : World) (hb : Below w.heap.size w w1) (hd : t.depth ≤ 4000) => refDepth_any d cs t w1 (h.below hb) hd)
  have HE := Lib.hid (fun (w1 : World) (hb : Below w.heap.size w w1) => refEach_any refOne_any d cs t w1 (h.below hb))
  obtain ⟨ai, ci, ak, ck, rfl⟩ := h.form
  have hm1 := cnt_le t 2000
  have hm2 := cnt_more t 2000
  have hbW := (Below.refl w.heap.size w).alloc (Nat.le_refl _) (.cells #[.int .i64 t.kind, .int .i64 t.num, .string ⟨t.txt.toArray⟩, .slice ai t.items.length ci, .slice ak t.keys.length ck] 25)
  have lA := Lies.new w 25 #[.int .i64 t.kind, .int .i64 t.num, .string ⟨t.txt.toArray⟩, .slice ai t.items.length ci, .slice ak t.keys.length ck]
  have q0 := lA.cell 0
  have q1 := lA.cell 1
  have q2 := lA.cell 2
  have q3 := lA.cell 3
  have q4 := lA.cell 4
  simp only [List.getElem?_toArray, List.getElem?_cons_succ, List.getElem?_cons_zero] at q0 q1 q2 q3 q4
  clear h
  by_cases hc : t.count ≤ 2000
  case neg =>
    rw [okB_many hc]
    have hc2 : ¬ t.cnt 2000 ≤ 2000 := by rw [hm1]; omega
    clear hm1 HD HE
    generalize t.cnt 2000 = m at *
    go_enter Tryd.func17, Tryd.ntmps17
    go_wp2_with (go_at_call 13; (with_reducible refine (HC.out _ hbW).mono ?_); rintro e w1 ⟨rfl, hb1⟩)
    go_ret
    exact ⟨rfl, below_on hbW hb1⟩
  have hdc := depth_le_count t.count t (Nat.le_refl _)
  have hc2 : t.cnt 2000 ≤ 2000 := by rw [hm1]; omega
  clear hm1
  generalize hgm : t.cnt 2000 = m at *
  by_cases hd : t.depth ≤ 12
  case neg =>
    rw [okB_deep hd]
    have hd2 : ¬ (t.depth : Int) ≤ 12 := by omega
    have hd3 : t.depth ≤ 4000 := by omega
    clear HE hgm
    generalize t.depth = dp at *
    go_enter Tryd.func17, Tryd.ntmps17
    go_wp2_with (first | (go_at_call 13; (with_reducible refine (HC.out _ hbW).mono ?_); rintro e w1 ⟨rfl, hb1⟩; replace hbW := below_on hbW hb1; replace lA := lA.on hb1; have q0 := lA.cell 0; have q1 := lA.cell 1; have q2 := lA.cell 2; have q3 := lA.cell 3; have q4 := lA.cell 4; simp only [List.getElem?_toArray, List.getElem?_cons_succ, List.getElem?_cons_zero] at q0 q1 q2 q3 q4) | (go_at_call 15; (with_reducible refine (HD.out _ hbW hd3).mono ?_); rintro e w2 ⟨rfl, hb2⟩))
    go_ret
    exact ⟨rfl, below_on hbW hb2⟩
  have hd2 : (t.depth : Int) ≤ 12 := by omega
  have hd3 : t.depth ≤ 4000 := by omega
  rw [okB_each hc hd]
  clear hgm hd hc hdc
  generalize t.depth = dp at *
  generalize t.each = b at *
  go_enter Tryd.func17, Tryd.ntmps17
  go_wp2_with (first | (go_at_call 13; (with_reducible refine (HC.out _ hbW).mono ?_); rintro e w1 ⟨rfl, hb1⟩; replace hbW := below_on hbW hb1; replace lA := lA.on hb1; have q0 := lA.cell 0; have q1 := lA.cell 1; have q2 := lA.cell 2; have q3 := lA.cell 3; have q4 := lA.cell 4; simp only [List.getElem?_toArray, List.getElem?_cons_succ, List.getElem?_cons_zero] at q0 q1 q2 q3 q4) | (go_at_call 15; (with_reducible refine (HD.out _ hbW hd3).mono ?_); rintro e w2 ⟨rfl, hb2⟩; replace hbW := below_on hbW hb2; replace lA := lA.on hb2; have q0 := lA.cell 0; have q1 := lA.cell 1; have q2 := lA.cell 2; have q3 := lA.cell 3; have q4 := lA.cell 4; simp only [List.getElem?_toArray, List.getElem?_cons_succ, List.getElem?_cons_zero] at q0 q1 q2 q3 q4) | (go_at_call 30; (with_reducible refine (HE.out _ hbW).mono ?_); rintro e w3 ⟨rfl, hb3⟩))
  go_ret
  exact ⟨rfl, below_on hbW hb3⟩
end Go.Proofs.YtdfdpckcemdimaaDoor.V
