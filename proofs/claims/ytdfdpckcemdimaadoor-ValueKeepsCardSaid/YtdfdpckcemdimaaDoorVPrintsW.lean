/- The walk of the statement of values' texts: whatever value, it answers true. -/
import Derived.Test.YtdfdpckcemdimaaDoorVAlive
import Derived.Test.YtdfdpckcemdimaaDoorVExtent
namespace Go.Proofs.YtdfdpckcemdimaaDoor.V
open Go.RowKit Go.Sort Go.Joins
set_option maxRecDepth 100000

theorem cnt_eqN {t : VT} {lim : Int} (h : (t.count : Int) ≤ lim) : t.cnt lim = (t.count : Int) := (cnt_ok t.count t (Nat.le_refl _) lim).1 h
theorem okB_parts {t : VT} (h : t.okB = true) : t.count ≤ 2000 ∧ t.depth ≤ 12 ∧ t.each = true := by
  unfold VT.okB at h
  rw [Bool.and_eq_true, Bool.and_eq_true, decide_eq_true_eq, decide_eq_true_eq] at h
  exact ⟨h.1.1, h.1.2, h.2⟩
set_option maxHeartbeats 3200000 in
theorem printsV_walk (d : Nat) (cs : List Value) (t : VT) (W : World) (h : IsV W d cs t) (hM : MaxAt W) (hT : Tab W) :
    Calls Tryd.prog 3 #[.agg cs.toArray] W fun e w' => e = .returned (.bool true) ∧ Below W.heap.size W w' := by
  have HBig := Lib.hid (fun (w1 : World) (hb : Below W.heap.size W w1) => big_any d cs t w1 (h.below hb))
  have HAl := Lib.hid (fun (w1 : World) (hb : Below W.heap.size W w1) => alive_any w1 (hM.below hb) (hT.below hb))
  have hdc := depth_le_count t.count t (Nat.le_refl _)
  have HV := Lib.hid (fun (w1 : World) (hb : Below W.heap.size W w1) => h.below hb)
  obtain ⟨ai, ci, ak, ck, rfl⟩ := h.form
  have hbW := (Below.refl W.heap.size W).alloc (Nat.le_refl _) (.cells #[.int .i64 t.kind, .int .i64 t.num, .string ⟨t.txt.toArray⟩, .slice ai t.items.length ci, .slice ak t.keys.length ck] 25)
  have lA := Lies.new W 25 #[.int .i64 t.kind, .int .i64 t.num, .string ⟨t.txt.toArray⟩, .slice ai t.items.length ci, .slice ak t.keys.length ck]
  have q0 := lA.cell 0
  have q1 := lA.cell 1
  have q2 := lA.cell 2
  have q3 := lA.cell 3
  have q4 := lA.cell 4
  simp only [List.getElem?_toArray, List.getElem?_cons_succ, List.getElem?_cons_zero] at q0 q1 q2 q3 q4
  by_cases hbig : 2100 < t.count
  case pos =>
    rw [decide_eq_true hbig] at HBig
    clear hbig h HV
    go_enter Tryd.func3, Tryd.ntmps3
    go_wp2_with (first | (go_at_call 9; (with_reducible refine (HBig.out _ hbW).mono ?_); rintro e w1 ⟨rfl, hb1⟩; replace hbW := below_on hbW hb1) | (go_at_call 10; (with_reducible refine (HAl.out _ hbW).mono ?_); rintro e w2 ⟨rfl, hb2⟩))
    go_ret
    exact ⟨rfl, below_on hbW hb2⟩
  rw [decide_eq_false hbig] at HBig
  obtain ⟨tx, no, HP, hcase⟩ : ∃ (tx : List UInt8) (no : Int), Hid (∀ (w1 : World), Below W.heap.size W w1 → Calls Tryd.prog 11 #[.agg #[.int .i64 t.kind, .int .i64 t.num, .string ⟨t.txt.toArray⟩, .slice ai t.items.length ci, .slice ak t.keys.length ck]] w1 fun e w' => e = .returned (.tuple #[.string ⟨tx.toArray⟩, .int .i64 no]) ∧ Below w1.heap.size w1 w') ∧ ((t.okB = true ∧ tx = t.wr ∧ no = 0) ∨ (t.okB = false ∧ tx = [] ∧ no = 1)) := by
    cases ho : t.okB with
    | true => exact ⟨t.wr, 0, Lib.hid (fun w1 hb => print_yes d _ t w1 (h.below hb) ho (hM.below hb) (hT.below hb)), .inl ⟨rfl, rfl, rfl⟩⟩
    | false => exact ⟨[], 1, Lib.hid (fun w1 hb => print_no d _ t w1 (h.below hb) ho), .inr ⟨rfl, rfl, rfl⟩⟩
  have hHC := Lib.hid hcase
  have HWr := Lib.hid (fun (ho : t.okB = true) (w1 : World) (hb : Below W.heap.size W w1) => refWrite_any fmt_says d _ t w1 (h.below hb) (hT.below hb) (okB_parts ho).2.2 (okB_parts ho).1)
  have HRR := Lib.hid (fun (w1 : World) (hb : Below W.heap.size W w1) => refRight_any d _ t w1 (h.below hb))
  clear hcase
  clear h
  go_enter Tryd.func3, Tryd.ntmps3
  go_upto_region 4 with (first | (go_at_call 9; (with_reducible refine (HBig.out _ hbW).mono ?_); rintro e w1 ⟨rfl, hb1⟩; replace hbW := below_on hbW hb1; replace lA := lA.on hb1; have q0 := lA.cell 0; have q1 := lA.cell 1; have q2 := lA.cell 2; have q3 := lA.cell 3; have q4 := lA.cell 4; simp only [List.getElem?_toArray, List.getElem?_cons_succ, List.getElem?_cons_zero] at q0 q1 q2 q3 q4) | (go_at_call 11; (with_reducible refine (HP.out _ hbW).mono ?_); rintro e w2 ⟨rfl, hb2⟩; replace hbW := below_on hbW hb2; replace lA := lA.on hb2))
  clear q0 q1 q2 q3 q4 HP HBig
  have q0 := lA.cell 0
  have q1 := lA.cell 1
  have q2 := lA.cell 2
  have q3 := lA.cell 3
  have q4 := lA.cell 4
  simp only [List.getElem?_toArray, List.getElem?_cons_succ, List.getElem?_cons_zero] at q0 q1 q2 q3 q4
  have hV := HV.out w2 hbW
  have cC := Lib.hid (reg (W := w2) (fun w hw => count_any d _ t w (hV.below hw) (by omega) (by omega)))
  have rC := Lib.hid (reg (W := w2) (fun w hw => refCount_any d _ t 3000 w (hV.below hw) (by decide) (by decide)))
  rw [cnt_eqN (by omega)] at rC
  have cD := Lib.hid (reg (W := w2) (fun w hw => depth_any d _ t w (hV.below hw) (by omega) (by omega)))
  have rD := Lib.hid (reg (W := w2) (fun w hw => refDepth_any d _ t w (hV.below hw) (by omega)))
  have cR := Lib.hid (reg (W := w2) (fun w hw => right_any d _ t w (hV.below hw)))
  have rR := Lib.hid (reg (W := w2) (fun w hw => refRight_any d _ t w (hV.below hw)))
  have cA := Lib.hid (reg (W := w2) (fun w hw => HAl.out w (below_on hbW hw)))
  have u0 := cell_regrown q0
  have u1 := cell_regrown q1
  have u2 := cell_regrown q2
  have u3 := cell_regrown q3
  have u4 := cell_regrown q4
  clear q0 q1 q2 q3 q4 hV
  generalize t.okB = ok at *
  generalize t.count = m at *
  generalize t.depth = p at *
  refine wp_region_quiet_below (by kernel_rfl) (by kernel_rfl) ?_
  repeat (go_big_quiet_step (first | with_reducible exact cC.out _ _ | with_reducible exact rC.out _ _ | with_reducible exact cD.out _ _ | with_reducible exact rD.out _ _ | with_reducible exact cR.out _ _ | with_reducible exact rR.out _ _ | with_reducible exact cA.out _ _))
  refine wpQuiet_nil ?_
  intro _ hw'
  obtain ⟨⟨dq, osq⟩, hw''⟩ := hw'
  subst hw''
  have hb3 := below_regrown w2 dq osq
  replace hbW := below_on hbW hb3
  replace lA := lA.on hb3
  clear hb3 cC rC cD rD cR rR cA u0 u1 u2 u3 u4 hb2 hb1
  generalize grow (redrawn w2 dq) osq = w3 at *
  have q0 := lA.cell 0
  have q1 := lA.cell 1
  have q2 := lA.cell 2
  have q3 := lA.cell 3
  have q4 := lA.cell 4
  simp only [List.getElem?_toArray, List.getElem?_cons_succ, List.getElem?_cons_zero] at q0 q1 q2 q3 q4
  rcases hHC.out with ⟨rfl, rfl, rfl⟩ | ⟨rfl, rfl, rfl⟩
  · have HW2 := Lib.hid (HWr.out rfl)
    clear hHC HWr HV HAl
    generalize t.wr = tx at *
    go_wp2_with (first | (go_at_call 17; (with_reducible refine (HRR.out _ hbW).mono ?_); rintro e w4 ⟨rfl, hb4⟩; replace hbW := below_on hbW hb4; replace lA := lA.on hb4; have q0 := lA.cell 0; have q1 := lA.cell 1; have q2 := lA.cell 2; have q3 := lA.cell 3; have q4 := lA.cell 4; simp only [List.getElem?_toArray, List.getElem?_cons_succ, List.getElem?_cons_zero] at q0 q1 q2 q3 q4) | (go_at_call 18; (with_reducible refine (HW2.out _ hbW).mono ?_); rintro e w5 ⟨rfl, hb5⟩))
    go_ret
    exact ⟨rfl, below_on hbW hb5⟩
  · clear hHC HWr HV HAl
    go_wp2_with (go_at_call 17; (with_reducible refine (HRR.out _ hbW).mono ?_); rintro e w4 ⟨rfl, hb4⟩)
    go_ret
    exact ⟨rfl, below_on hbW hb4⟩
end Go.Proofs.YtdfdpckcemdimaaDoor.V
