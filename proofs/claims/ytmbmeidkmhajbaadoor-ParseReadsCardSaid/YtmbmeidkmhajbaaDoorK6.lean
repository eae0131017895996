/- Texts that stand on one another, put together: YRNum, VRefLess, YRMap. -/
import Derived.Test.YtmbmeidkmhajbaaDoorK5
import Derived.Lib.QuietBelow
/- The reference's Value: numbers and texts. -/
namespace Go.Proofs.YtmbmeidkmhajbaaDoor.V
set_option maxRecDepth 100000
open Go.RowKit Go.Sort Go.Joins

theorem below_setC {B : Nat} {a w : World} (h : RowKit.Below B a w) {g : Nat} (hg : B ≤ g) (i : Nat) (v : Value) : RowKit.Below B a (w.setCell ⟨g, i, none⟩ v) :=
  h.trans ⟨rfl, rfl, rfl, by simp, fun k hk => Below.heap_setCell w ⟨g, i, none⟩ v k (by simp only; omega)⟩
theorem num_fits {s r : List UInt8} {z : Int} (h : rdN s = .ok z r) : -9223372036854775808 ≤ z ∧ z ≤ 9223372036854775807 := by
  have := (rdN_ok h).2.1
  omega
set_option maxHeartbeats 6400000 in
theorem rval_numm (w : World) (s : ByteArray) (p L D n : Nat) (hL : D + (L + 1) = 12) (hn : n < 2000) (hp : p < s.size) (hs : s.size ≤ 70000) (h45 : s[p] = 45) : Calls Tryd.prog 17 #[.string s, .int .i64 (p : Int), .int .i64 (D : Int), .int .i64 (n : Int)] w fun e w' => RValPost w s p (L + 1) n e w' := by
  have e1 : ((D : Int) == 12) = false := by rw [beq_eq_false_iff_ne]; omega
  have e2 : ((n : Int) == 2000) = false := by rw [beq_eq_false_iff_ne]; omega
  have HS := Lib.hid (fun (w : World) => by have h := refSign_any w s p (Nat.le_of_lt hp); rw [sign_at hp] at h; exact h)
  have HN := Lib.hid (fun (w : World) => refNum_any w s p hp hs)
  have lT := Lies.new w 45 tZ
  have hba := (RowKit.Below.refl w.heap.size w).alloc (Nat.le_refl _) (.cells tZ 45)
  have z1 : ((s[p].toNat : Int) == 45) = true := by rw [h45]; rfl
  have hc : s[p] = 45 ∨ isDig s[p] = true := .inl h45
  clear h45
  have HB := Lib.hid (show rdV (L + 1) n (rest s p) = (rdN (rest s p)).map (fun z => (.mk 1 z [] [] [], n + 1)) by rw [rest_cons hp]; exact begin_num L n _ (by omega) hc)
  clear hc
  generalize (s[p].toNat : Int) = z at *
  obtain ⟨b, hb⟩ : ∃ b, w.heap.size = b := ⟨_, rfl⟩
  have hbl : w.heap.size ≤ b := Nat.le_of_eq hb
  rw [hb] at lT
  go_enter Tryd.func17, Tryd.ntmps17
  go_upto_region 9 with (first
    | (go_at_call 23; refine (HS.out _).mono ?_; rintro e w0 ⟨rfl, rfl⟩)
    | (go_at_call 24; refine (HN.out _).mono ?_; rintro e w1 ⟨hb1, ⟨er, hX, rfl⟩ | ⟨v, q, hX, rfl, hpq, hq⟩⟩)
    | ((with_reducible refine wpL_store w1.heap.size 45 tZ (errT er) 8 rowTT rfl rfl (tC_one _ _ _ _ _ _ _ _ _ _ _ _) (Lies.new w1 _ _) ?_ ?_ ?_); rfl; rfl)
    | ((with_reducible refine wpL_store w1.heap.size 45 tZ (numT2 v q) 8 rowTT rfl rfl (tC_one _ _ _ _ _ _ _ _ _ _ _ _) (Lies.new w1 _ _) ?_ ?_ ?_); rfl; rfl))
  · have hb2 := below_rowSet ((below_on hba hb1).alloc (Nat.le_trans hba.size hb1.size) (.cells tZ 45)) (Nat.le_trans hba.size hb1.size) (errT er)
    have hbY := below_rowSet ((RowKit.Below.refl w1.heap.size w1).alloc (Nat.le_refl _) (.cells tZ 45)) (Nat.le_refl _) (errT er)
    have lC := (Lies.new w1 45 tZ).row (errT er)
    have hbc : b < w1.heap.size := Nat.lt_of_lt_of_le lT.lt hb1.size
    have lT2 := (lT.on hb1).on hbY
    have hcw : w.heap.size ≤ w1.heap.size := Nat.le_trans hba.size hb1.size
    clear hb1 hbY
    generalize World.setRow _ _ _ = w2 at *
    generalize w1.heap.size = c at *
    have q6 := lC.cell 6
    simp only [List.getElem?_toArray, List.getElem?_cons_zero, List.getElem?_cons_succ] at q6
    have f6 := lC.frozen 6
    go_upto_region 10 with fail
    replace lT2 := lT2.far (p := ⟨c, 6, none⟩) (show b ≠ c by omega) (.int .i64 ((n : Int) + 1))
    replace lC : Lies (w2.setCell ⟨c, 6, none⟩ (.int .i64 ((n : Int) + 1))) c 45 #[.int .i64 0, .int .i64 0, .string ⟨#[]⟩, .slice none 0 0, .slice none 0 0, .int .i64 0, .int .i64 ((n : Int) + 1), .int .i64 er] := lC.put 6 (.int .i64 ((n : Int) + 1))
    replace hb2 := below_setC hb2 hcw 6 (.int .i64 ((n : Int) + 1))
    generalize World.setCell _ _ _ = w3 at *
    clear q6 f6
    go_wp2_with (first
      | ((with_reducible refine wpL_load c 45 #[.int .i64 0, .int .i64 0, .string ⟨#[]⟩, .slice none 0 0, .slice none 0 0, .int .i64 0, .int .i64 ((n : Int) + 1), .int .i64 er] 8 rowTT rfl lC ?_ ?_); rfl)
      | ((with_reducible refine wpL_store b 45 tZ #[.int .i64 0, .int .i64 0, .string ⟨#[]⟩, .slice none 0 0, .slice none 0 0, .int .i64 0, .int .i64 ((n : Int) + 1), .int .i64 er] 8 rowTT rfl rfl (tC_one _ _ _ _ _ _ _ _ _ _ _ _) lT2 ?_ ?_ ?_); rfl; rfl))
    refine bodyPost_ret (results_row Tryd.results17 rowTT rfl (lT2.row _) rfl) rfl ?_
    exact ⟨below_rowSet hb2 hbl _, .inl ⟨er, 0, 0, ⟨#[]⟩, 0, (n : Int) + 1, by rw [HB.out, hX]; rfl, rfl⟩⟩
  · have hb2 := below_rowSet ((below_on hba hb1).alloc (Nat.le_trans hba.size hb1.size) (.cells tZ 45)) (Nat.le_trans hba.size hb1.size) (numT2 v q)
    have hbY := below_rowSet ((RowKit.Below.refl w1.heap.size w1).alloc (Nat.le_refl _) (.cells tZ 45)) (Nat.le_refl _) (numT2 v q)
    have lC := (Lies.new w1 45 tZ).row (numT2 v q)
    have hbc : b < w1.heap.size := Nat.lt_of_lt_of_le lT.lt hb1.size
    have lT2 := (lT.on hb1).on hbY
    have hcw : w.heap.size ≤ w1.heap.size := Nat.le_trans hba.size hb1.size
    clear hb1 hbY
    generalize World.setRow _ _ _ = w2 at *
    generalize w1.heap.size = c at *
    have q6 := lC.cell 6
    simp only [List.getElem?_toArray, List.getElem?_cons_zero, List.getElem?_cons_succ] at q6
    have f6 := lC.frozen 6
    go_upto_region 10 with fail
    replace lT2 := lT2.far (p := ⟨c, 6, none⟩) (show b ≠ c by omega) (.int .i64 ((n : Int) + 1))
    replace lC : Lies (w2.setCell ⟨c, 6, none⟩ (.int .i64 ((n : Int) + 1))) c 45 #[.int .i64 1, .int .i64 v, .string ⟨#[]⟩, .slice none 0 0, .slice none 0 0, .int .i64 (q : Int), .int .i64 ((n : Int) + 1), .int .i64 0] := lC.put 6 (.int .i64 ((n : Int) + 1))
    replace hb2 := below_setC hb2 hcw 6 (.int .i64 ((n : Int) + 1))
    generalize World.setCell _ _ _ = w3 at *
    clear q6 f6
    go_wp2_with (first
      | ((with_reducible refine wpL_load c 45 #[.int .i64 1, .int .i64 v, .string ⟨#[]⟩, .slice none 0 0, .slice none 0 0, .int .i64 (q : Int), .int .i64 ((n : Int) + 1), .int .i64 0] 8 rowTT rfl lC ?_ ?_); rfl)
      | ((with_reducible refine wpL_store b 45 tZ #[.int .i64 1, .int .i64 v, .string ⟨#[]⟩, .slice none 0 0, .slice none 0 0, .int .i64 (q : Int), .int .i64 ((n : Int) + 1), .int .i64 0] 8 rowTT rfl rfl (tC_one _ _ _ _ _ _ _ _ _ _ _ _) lT2 ?_ ?_ ?_); rfl; rfl))
    refine bodyPost_ret (results_row Tryd.results17 rowTT rfl (lT2.row _) rfl) rfl ?_
    exact ⟨below_rowSet hb2 hbl _, .inr ⟨.mk 1 v [] [] [], 1, q, n + 1, none, 0, none, 0, by rw [HB.out, hX]; rfl, rfl, fun E _ => isVX_num E _ (num_fits hX), hpq, hq⟩⟩
set_option maxHeartbeats 6400000 in
theorem rval_numd (w : World) (s : ByteArray) (p L D n : Nat) (hL : D + (L + 1) = 12) (hn : n < 2000) (hp : p < s.size) (hs : s.size ≤ 70000) (hd : isDig s[p] = true) : Calls Tryd.prog 17 #[.string s, .int .i64 (p : Int), .int .i64 (D : Int), .int .i64 (n : Int)] w fun e w' => RValPost w s p (L + 1) n e w' := by
  have e1 : ((D : Int) == 12) = false := by rw [beq_eq_false_iff_ne]; omega
  have e2 : ((n : Int) == 2000) = false := by rw [beq_eq_false_iff_ne]; omega
  have HS := Lib.hid (fun (w : World) => by have h := refSign_any w s p (Nat.le_of_lt hp); rw [sign_at hp] at h; exact h)
  have HN := Lib.hid (fun (w : World) => refNum_any w s p hp hs)
  have lT := Lies.new w 45 tZ
  have hba := (RowKit.Below.refl w.heap.size w).alloc (Nat.le_refl _) (.cells tZ 45)
  have z2 : (48 : Int) ≤ (s[p].toNat : Int) ∧ (s[p].toNat : Int) ≤ 57 := by unfold isDig at hd; simp at hd; omega
  have z1 : ((s[p].toNat : Int) == 45) = false := by rw [beq_eq_false_iff_ne]; omega
  have z3 : (48 : Int) ≤ (s[p].toNat : Int) := z2.1
  have z4 : (s[p].toNat : Int) ≤ 57 := z2.2
  have hc : s[p] = 45 ∨ isDig s[p] = true := .inr hd
  clear hd
  have HB := Lib.hid (show rdV (L + 1) n (rest s p) = (rdN (rest s p)).map (fun z => (.mk 1 z [] [] [], n + 1)) by rw [rest_cons hp]; exact begin_num L n _ (by omega) hc)
  clear hc
  generalize (s[p].toNat : Int) = z at *
  obtain ⟨b, hb⟩ : ∃ b, w.heap.size = b := ⟨_, rfl⟩
  have hbl : w.heap.size ≤ b := Nat.le_of_eq hb
  rw [hb] at lT
  go_enter Tryd.func17, Tryd.ntmps17
  go_upto_region 9 with (first
    | (go_at_call 23; refine (HS.out _).mono ?_; rintro e w0 ⟨rfl, rfl⟩)
    | (go_at_call 24; refine (HN.out _).mono ?_; rintro e w1 ⟨hb1, ⟨er, hX, rfl⟩ | ⟨v, q, hX, rfl, hpq, hq⟩⟩)
    | ((with_reducible refine wpL_store w1.heap.size 45 tZ (errT er) 8 rowTT rfl rfl (tC_one _ _ _ _ _ _ _ _ _ _ _ _) (Lies.new w1 _ _) ?_ ?_ ?_); rfl; rfl)
    | ((with_reducible refine wpL_store w1.heap.size 45 tZ (numT2 v q) 8 rowTT rfl rfl (tC_one _ _ _ _ _ _ _ _ _ _ _ _) (Lies.new w1 _ _) ?_ ?_ ?_); rfl; rfl))
  · have hb2 := below_rowSet ((below_on hba hb1).alloc (Nat.le_trans hba.size hb1.size) (.cells tZ 45)) (Nat.le_trans hba.size hb1.size) (errT er)
    have hbY := below_rowSet ((RowKit.Below.refl w1.heap.size w1).alloc (Nat.le_refl _) (.cells tZ 45)) (Nat.le_refl _) (errT er)
    have lC := (Lies.new w1 45 tZ).row (errT er)
    have hbc : b < w1.heap.size := Nat.lt_of_lt_of_le lT.lt hb1.size
    have lT2 := (lT.on hb1).on hbY
    have hcw : w.heap.size ≤ w1.heap.size := Nat.le_trans hba.size hb1.size
    clear hb1 hbY
    generalize World.setRow _ _ _ = w2 at *
    generalize w1.heap.size = c at *
    have q6 := lC.cell 6
    simp only [List.getElem?_toArray, List.getElem?_cons_zero, List.getElem?_cons_succ] at q6
    have f6 := lC.frozen 6
    go_upto_region 10 with fail
    replace lT2 := lT2.far (p := ⟨c, 6, none⟩) (show b ≠ c by omega) (.int .i64 ((n : Int) + 1))
    replace lC : Lies (w2.setCell ⟨c, 6, none⟩ (.int .i64 ((n : Int) + 1))) c 45 #[.int .i64 0, .int .i64 0, .string ⟨#[]⟩, .slice none 0 0, .slice none 0 0, .int .i64 0, .int .i64 ((n : Int) + 1), .int .i64 er] := lC.put 6 (.int .i64 ((n : Int) + 1))
    replace hb2 := below_setC hb2 hcw 6 (.int .i64 ((n : Int) + 1))
    generalize World.setCell _ _ _ = w3 at *
    clear q6 f6
    go_wp2_with (first
      | ((with_reducible refine wpL_load c 45 #[.int .i64 0, .int .i64 0, .string ⟨#[]⟩, .slice none 0 0, .slice none 0 0, .int .i64 0, .int .i64 ((n : Int) + 1), .int .i64 er] 8 rowTT rfl lC ?_ ?_); rfl)
      | ((with_reducible refine wpL_store b 45 tZ #[.int .i64 0, .int .i64 0, .string ⟨#[]⟩, .slice none 0 0, .slice none 0 0, .int .i64 0, .int .i64 ((n : Int) + 1), .int .i64 er] 8 rowTT rfl rfl (tC_one _ _ _ _ _ _ _ _ _ _ _ _) lT2 ?_ ?_ ?_); rfl; rfl))
    refine bodyPost_ret (results_row Tryd.results17 rowTT rfl (lT2.row _) rfl) rfl ?_
    exact ⟨below_rowSet hb2 hbl _, .inl ⟨er, 0, 0, ⟨#[]⟩, 0, (n : Int) + 1, by rw [HB.out, hX]; rfl, rfl⟩⟩
  · have hb2 := below_rowSet ((below_on hba hb1).alloc (Nat.le_trans hba.size hb1.size) (.cells tZ 45)) (Nat.le_trans hba.size hb1.size) (numT2 v q)
    have hbY := below_rowSet ((RowKit.Below.refl w1.heap.size w1).alloc (Nat.le_refl _) (.cells tZ 45)) (Nat.le_refl _) (numT2 v q)
    have lC := (Lies.new w1 45 tZ).row (numT2 v q)
    have hbc : b < w1.heap.size := Nat.lt_of_lt_of_le lT.lt hb1.size
    have lT2 := (lT.on hb1).on hbY
    have hcw : w.heap.size ≤ w1.heap.size := Nat.le_trans hba.size hb1.size
    clear hb1 hbY
    generalize World.setRow _ _ _ = w2 at *
    generalize w1.heap.size = c at *
    have q6 := lC.cell 6
    simp only [List.getElem?_toArray, List.getElem?_cons_zero, List.getElem?_cons_succ] at q6
    have f6 := lC.frozen 6
    go_upto_region 10 with fail
    replace lT2 := lT2.far (p := ⟨c, 6, none⟩) (show b ≠ c by omega) (.int .i64 ((n : Int) + 1))
    replace lC : Lies (w2.setCell ⟨c, 6, none⟩ (.int .i64 ((n : Int) + 1))) c 45 #[.int .i64 1, .int .i64 v, .string ⟨#[]⟩, .slice none 0 0, .slice none 0 0, .int .i64 (q : Int), .int .i64 ((n : Int) + 1), .int .i64 0] := lC.put 6 (.int .i64 ((n : Int) + 1))
    replace hb2 := below_setC hb2 hcw 6 (.int .i64 ((n : Int) + 1))
    generalize World.setCell _ _ _ = w3 at *
    clear q6 f6
    go_wp2_with (first
      | ((with_reducible refine wpL_load c 45 #[.int .i64 1, .int .i64 v, .string ⟨#[]⟩, .slice none 0 0, .slice none 0 0, .int .i64 (q : Int), .int .i64 ((n : Int) + 1), .int .i64 0] 8 rowTT rfl lC ?_ ?_); rfl)
      | ((with_reducible refine wpL_store b 45 tZ #[.int .i64 1, .int .i64 v, .string ⟨#[]⟩, .slice none 0 0, .slice none 0 0, .int .i64 (q : Int), .int .i64 ((n : Int) + 1), .int .i64 0] 8 rowTT rfl rfl (tC_one _ _ _ _ _ _ _ _ _ _ _ _) lT2 ?_ ?_ ?_); rfl; rfl))
    refine bodyPost_ret (results_row Tryd.results17 rowTT rfl (lT2.row _) rfl) rfl ?_
    exact ⟨below_rowSet hb2 hbl _, .inr ⟨.mk 1 v [] [] [], 1, q, n + 1, none, 0, none, 0, by rw [HB.out, hX]; rfl, rfl, fun E _ => isVX_num E _ (num_fits hX), hpq, hq⟩⟩
theorem txt_fits {s k r : List UInt8} (h : rdT 0 s = .ok k r) : k.length ≤ maxLen := by
  have := (rdT_ok s.length s (Nat.le_refl _) 0 k r (by decide) h).2.2
  unfold maxLen
  omega
set_option maxHeartbeats 6400000 in
theorem rval_txt (w : World) (s : ByteArray) (p L D n : Nat) (hL : D + (L + 1) = 12) (hn : n < 2000) (hp : p < s.size) (hs : s.size ≤ 70000) (h34 : s[p] = 34) : Calls Tryd.prog 17 #[.string s, .int .i64 (p : Int), .int .i64 (D : Int), .int .i64 (n : Int)] w fun e w' => RValPost w s p (L + 1) n e w' := by
  have e1 : ((D : Int) == 12) = false := by rw [beq_eq_false_iff_ne]; omega
  have e2 : ((n : Int) == 2000) = false := by rw [beq_eq_false_iff_ne]; omega
  have HS := Lib.hid (fun (w : World) => by have h := refSign_any w s p (Nat.le_of_lt hp); rw [sign_at hp, h34] at h; exact h)
  have HN := Lib.hid (fun (w : World) => by have h := refTxt_any w s (p + 1) hp hs; rw [show ((p + 1 : Nat) : Int) = (p : Int) + 1 by omega] at h; exact h)
  have lT := Lies.new w 45 tZ
  have hba := (RowKit.Below.refl w.heap.size w).alloc (Nat.le_refl _) (.cells tZ 45)
  have HB := Lib.hid (show rdV (L + 1) n (rest s p) = (rdT 0 (rest s (p + 1))).map (fun w => (.mk 2 0 w [] [], n + 1)) by rw [rest_cons hp, h34]; exact begin_txt L n _ (by omega))
  clear h34
  obtain ⟨b, hb⟩ : ∃ b, w.heap.size = b := ⟨_, rfl⟩
  have hbl : w.heap.size ≤ b := Nat.le_of_eq hb
  rw [hb] at lT
  go_enter Tryd.func17, Tryd.ntmps17
  go_upto_region 13 with (first
    | (go_at_call 23; refine (HS.out _).mono ?_; rintro e w0 ⟨rfl, rfl⟩)
    | (go_at_call 25; refine (HN.out _).mono ?_; rintro e w1 ⟨hb1, ⟨er, hX, rfl⟩ | ⟨k, q, hX, rfl, hpq, hq⟩⟩)
    | ((with_reducible refine wpL_store w1.heap.size 45 tZ (errT er) 8 rowTT rfl rfl (tC_one _ _ _ _ _ _ _ _ _ _ _ _) (Lies.new w1 _ _) ?_ ?_ ?_); rfl; rfl)
    | ((with_reducible refine wpL_store w1.heap.size 45 tZ #[.int .i64 0, .int .i64 0, .string ⟨k.toArray⟩, .slice none 0 0, .slice none 0 0, .int .i64 (q : Int), .int .i64 0, .int .i64 0] 8 rowTT rfl rfl (tC_one _ _ _ _ _ _ _ _ _ _ _ _) (Lies.new w1 _ _) ?_ ?_ ?_); rfl; rfl))
  · have hb2 := below_rowSet ((below_on hba hb1).alloc (Nat.le_trans hba.size hb1.size) (.cells tZ 45)) (Nat.le_trans hba.size hb1.size) (errT er)
    have hbY := below_rowSet ((RowKit.Below.refl w1.heap.size w1).alloc (Nat.le_refl _) (.cells tZ 45)) (Nat.le_refl _) (errT er)
    have lC := (Lies.new w1 45 tZ).row (errT er)
    have hbc : b < w1.heap.size := Nat.lt_of_lt_of_le lT.lt hb1.size
    have lT2 := (lT.on hb1).on hbY
    have hcw : w.heap.size ≤ w1.heap.size := Nat.le_trans hba.size hb1.size
    clear hb1 hbY
    generalize World.setRow _ _ _ = w2 at *
    generalize w1.heap.size = c at *
    have q0 := lC.cell 0
    simp only [List.getElem?_toArray, List.getElem?_cons_zero] at q0
    have f0 := lC.frozen 0
    go_upto_region 14 with fail
    replace lT2 := lT2.far (p := ⟨c, 0, none⟩) (show b ≠ c by omega) (.int .i64 2)
    replace lC : Lies (w2.setCell ⟨c, 0, none⟩ (.int .i64 2)) c 45 #[.int .i64 2, .int .i64 0, .string ⟨#[]⟩, .slice none 0 0, .slice none 0 0, .int .i64 0, .int .i64 0, .int .i64 er] := lC.put 0 (.int .i64 2)
    replace hb2 := below_setC hb2 hcw 0 (.int .i64 2)
    generalize World.setCell _ _ _ = w3 at *
    clear q0 f0
    have q6 := lC.cell 6
    simp only [List.getElem?_toArray, List.getElem?_cons_zero, List.getElem?_cons_succ] at q6
    have f6 := lC.frozen 6
    go_upto_region 15 with fail
    replace lT2 := lT2.far (p := ⟨c, 6, none⟩) (show b ≠ c by omega) (.int .i64 ((n : Int) + 1))
    replace lC : Lies (w3.setCell ⟨c, 6, none⟩ (.int .i64 ((n : Int) + 1))) c 45 #[.int .i64 2, .int .i64 0, .string ⟨#[]⟩, .slice none 0 0, .slice none 0 0, .int .i64 0, .int .i64 ((n : Int) + 1), .int .i64 er] := lC.put 6 (.int .i64 ((n : Int) + 1))
    replace hb2 := below_setC hb2 hcw 6 (.int .i64 ((n : Int) + 1))
    generalize World.setCell _ _ _ = w4 at *
    clear q6 f6
    go_wp2_with (first
      | ((with_reducible refine wpL_load c 45 #[.int .i64 2, .int .i64 0, .string ⟨#[]⟩, .slice none 0 0, .slice none 0 0, .int .i64 0, .int .i64 ((n : Int) + 1), .int .i64 er] 8 rowTT rfl lC ?_ ?_); rfl)
      | ((with_reducible refine wpL_store b 45 tZ #[.int .i64 2, .int .i64 0, .string ⟨#[]⟩, .slice none 0 0, .slice none 0 0, .int .i64 0, .int .i64 ((n : Int) + 1), .int .i64 er] 8 rowTT rfl rfl (tC_one _ _ _ _ _ _ _ _ _ _ _ _) lT2 ?_ ?_ ?_); rfl; rfl))
    refine bodyPost_ret (results_row Tryd.results17 rowTT rfl (lT2.row _) rfl) rfl ?_
    exact ⟨below_rowSet hb2 hbl _, .inl ⟨er, 2, 0, ⟨#[]⟩, 0, (n : Int) + 1, by rw [HB.out, hX]; rfl, rfl⟩⟩
  · have hb2 := below_rowSet ((below_on hba hb1).alloc (Nat.le_trans hba.size hb1.size) (.cells tZ 45)) (Nat.le_trans hba.size hb1.size) #[.int .i64 0, .int .i64 0, .string ⟨k.toArray⟩, .slice none 0 0, .slice none 0 0, .int .i64 (q : Int), .int .i64 0, .int .i64 0]
    have hbY := below_rowSet ((RowKit.Below.refl w1.heap.size w1).alloc (Nat.le_refl _) (.cells tZ 45)) (Nat.le_refl _) #[.int .i64 0, .int .i64 0, .string ⟨k.toArray⟩, .slice none 0 0, .slice none 0 0, .int .i64 (q : Int), .int .i64 0, .int .i64 0]
    have lC := (Lies.new w1 45 tZ).row #[.int .i64 0, .int .i64 0, .string ⟨k.toArray⟩, .slice none 0 0, .slice none 0 0, .int .i64 (q : Int), .int .i64 0, .int .i64 0]
    have hbc : b < w1.heap.size := Nat.lt_of_lt_of_le lT.lt hb1.size
    have lT2 := (lT.on hb1).on hbY
    have hcw : w.heap.size ≤ w1.heap.size := Nat.le_trans hba.size hb1.size
    clear hb1 hbY
    generalize World.setRow _ _ _ = w2 at *
    generalize w1.heap.size = c at *
    have q0 := lC.cell 0
    simp only [List.getElem?_toArray, List.getElem?_cons_zero] at q0
    have f0 := lC.frozen 0
    go_upto_region 14 with fail
    replace lT2 := lT2.far (p := ⟨c, 0, none⟩) (show b ≠ c by omega) (.int .i64 2)
    replace lC : Lies (w2.setCell ⟨c, 0, none⟩ (.int .i64 2)) c 45 #[.int .i64 2, .int .i64 0, .string ⟨k.toArray⟩, .slice none 0 0, .slice none 0 0, .int .i64 (q : Int), .int .i64 0, .int .i64 0] := lC.put 0 (.int .i64 2)
    replace hb2 := below_setC hb2 hcw 0 (.int .i64 2)
    generalize World.setCell _ _ _ = w3 at *
    clear q0 f0
    have q6 := lC.cell 6
    simp only [List.getElem?_toArray, List.getElem?_cons_zero, List.getElem?_cons_succ] at q6
    have f6 := lC.frozen 6
    go_upto_region 15 with fail
    replace lT2 := lT2.far (p := ⟨c, 6, none⟩) (show b ≠ c by omega) (.int .i64 ((n : Int) + 1))
    replace lC : Lies (w3.setCell ⟨c, 6, none⟩ (.int .i64 ((n : Int) + 1))) c 45 #[.int .i64 2, .int .i64 0, .string ⟨k.toArray⟩, .slice none 0 0, .slice none 0 0, .int .i64 (q : Int), .int .i64 ((n : Int) + 1), .int .i64 0] := lC.put 6 (.int .i64 ((n : Int) + 1))
    replace hb2 := below_setC hb2 hcw 6 (.int .i64 ((n : Int) + 1))
    generalize World.setCell _ _ _ = w4 at *
    clear q6 f6
    go_wp2_with (first
      | ((with_reducible refine wpL_load c 45 #[.int .i64 2, .int .i64 0, .string ⟨k.toArray⟩, .slice none 0 0, .slice none 0 0, .int .i64 (q : Int), .int .i64 ((n : Int) + 1), .int .i64 0] 8 rowTT rfl lC ?_ ?_); rfl)
      | ((with_reducible refine wpL_store b 45 tZ #[.int .i64 2, .int .i64 0, .string ⟨k.toArray⟩, .slice none 0 0, .slice none 0 0, .int .i64 (q : Int), .int .i64 ((n : Int) + 1), .int .i64 0] 8 rowTT rfl rfl (tC_one _ _ _ _ _ _ _ _ _ _ _ _) lT2 ?_ ?_ ?_); rfl; rfl))
    refine bodyPost_ret (results_row Tryd.results17 rowTT rfl (lT2.row _) rfl) rfl ?_
    exact ⟨below_rowSet hb2 hbl _, .inr ⟨.mk 2 0 k [] [], 1, q, n + 1, none, 0, none, 0, by rw [HB.out, hX]; rfl, rfl, fun E _ => isVX_txt E _ (txt_fits hX), by omega, hq⟩⟩
end Go.Proofs.YtmbmeidkmhajbaaDoor.V

/- The reference's Less. -/
namespace Go.Proofs.YtmbmeidkmhajbaaDoor.V
open Go.RowKit Go.Sort
set_option maxRecDepth 100000

theorem lessL_drop {l m : List UInt8} {k : Nat} (hl : k < l.length) (hm : k < m.length) : lessL (l.drop k) (m.drop k) = if l[k] = m[k] then lessL (l.drop (k + 1)) (m.drop (k + 1)) else decide (l[k].toNat < m[k].toNat) := by
  rw [List.drop_eq_getElem_cons hl, List.drop_eq_getElem_cons hm, lessL]
theorem lessL_end {l m : List UInt8} {k : Nat} (h1 : k ≤ l.length) (h2 : k ≤ m.length) (h : l.length ≤ k ∨ m.length ≤ k) : lessL (l.drop k) (m.drop k) = decide (l.length < m.length) := by
  rcases h with h | h
  · rw [List.drop_eq_nil_of_le h]
    cases hd : m.drop k with
    | nil =>
      have := congrArg List.length hd
      simp at this
      rw [lessL, decide_eq_false (by omega)]
    | cons c r =>
      have := congrArg List.length hd
      simp at this
      rw [lessL, decide_eq_true (by omega)]
  · rw [List.drop_eq_nil_of_le h]
    cases hd : l.drop k with
    | nil => 
      have := congrArg List.length hd
      simp at this
      rw [lessL, decide_eq_false (by omega)]
    | cons c r => rw [lessL, decide_eq_false (by omega)]
set_option maxHeartbeats 1600000 in
theorem refLess_any (s t : ByteArray) (W : World) (hs : s.size ≤ maxLen) :
    Calls Tryd.prog 27 #[.string s, .string t] W fun e w' => e = .returned (.bool (lessL s.data.toList t.data.toList)) ∧ Below W.heap.size W w' := by
  unfold maxLen at hs
  have hl1 : s.data.toList.length = s.size := Array.length_toList
  have hl2 : t.data.toList.length = t.size := Array.length_toList
  go_enter Tryd.func27, Tryd.ntmps27
  go_wp2
  go_loopw [5] (fun iv wr => ∃ k : Nat, iv = .int .i64 k ∧ k ≤ s.size ∧ k ≤ t.size ∧ Hid (lessL s.data.toList t.data.toList = lessL (s.data.toList.drop k) (t.data.toList.drop k)) ∧ Below W.heap.size W wr) (fun iv _ => s.size - (intOf iv).toNat)
  case atStart => exact ⟨0, rfl, Nat.zero_le _, Nat.zero_le _, Lib.hid (by rw [List.drop_zero, List.drop_zero]), Below.refl _ _⟩
  case round =>
    obtain ⟨k, rfl, hk1, hk2, HS, hb⟩ := hrel
    by_cases hlt1 : k < s.size
    · have h1 : (k : Int) < (s.size : Int) := by omega
      by_cases hlt2 : k < t.size
      · have h2 : (k : Int) < (t.size : Int) := by omega
        have hS := HS.out
        have he : s.data.toList[k]'(by omega) = s[k] := rfl
        have he2 : t.data.toList[k]'(by omega) = t[k] := rfl
        rw [lessL_drop (by omega) (by omega), he, he2] at hS
        by_cases hne : s[k] = t[k]
        · rw [if_pos hne] at hS
          have HS2 := Lib.hid hS
          have h3 : ((s[k].toNat : Int) != (t[k].toNat : Int)) = false := by rw [hne]; simp
          clear HS hS he he2 
          go_wp2
          go_region
          go_wp2
          go_roundw
          case rel => exact ⟨k + 1, by go_num, by omega, by omega, HS2, hb.drew⟩
          case measure => simp [intOf]; omega
        · rw [if_neg hne] at hS
          have hr := Lib.hid hS
          have h3 : ((s[k].toNat : Int) != (t[k].toNat : Int)) = true := by
            simp only [bne_iff_ne, ne_eq]
            intro e
            exact hne (UInt8.toNat_inj.1 (by omega))
          clear HS hS he he2
          go_wp2
          go_region
          go_wp2
          go_region
          go_wp2
          go_ret
          exact ⟨ret1_of (by rw [hr.out]; simp), hb.drew.drew⟩
      · have h2 : ¬ (k : Int) < (t.size : Int) := by omega
        have hr := Lib.hid (show lessL s.data.toList t.data.toList = decide (s.size < t.size) by
          rw [HS.out, lessL_end (by omega) (by omega) (.inr (by omega)), hl1, hl2])
        clear HS
        go_wp2
        go_ret
        exact ⟨ret1_of (by rw [hr.out]; rfl), hb⟩
    · have h1 : ¬ (k : Int) < (s.size : Int) := by omega
      have hr := Lib.hid (show lessL s.data.toList t.data.toList = decide (s.size < t.size) by
        rw [HS.out, lessL_end (by omega) (by omega) (.inl (by omega)), hl1, hl2])
      clear HS
      go_wp2
      go_ret
      exact ⟨ret1_of (by rw [hr.out]; rfl), hb⟩
end Go.Proofs.YtmbmeidkmhajbaaDoor.V

/- The reference's Value: values by keys. -/
namespace Go.Proofs.YtmbmeidkmhajbaaDoor.V
set_option maxRecDepth 100000
open Go.RowKit Go.Sort Go.Joins

theorem refLess_2 (x y : List UInt8) (W : World) (hs : x.length ≤ maxLen) : Calls Tryd.prog 27 #[.string ⟨x.toArray⟩, .string ⟨y.toArray⟩] W fun e w' => e = .returned (.bool (lessL x y)) ∧ RowKit.Below W.heap.size W w' :=
  refLess_any ⟨x.toArray⟩ ⟨y.toArray⟩ W (by rw [str_size]; exact hs)
theorem key_odd {s : ByteArray} {q : Nat} {z : Int} (hz : signAt s q = z) (hq : q ≤ s.size) (prev : Option (List UInt8)) (h : ¬ s[q]? = some 34) : (z != 34) = true ∧ rdK prev (rest s q) = .bad (if rest s q = [] then 3 else 20) := by
  rcases Nat.lt_or_ge q s.size with hlt | hge
  · have n1 : s[q] ≠ 34 := fun e => h (by rw [getElem?_pos s q hlt, e])
    rw [sign_at hlt] at hz
    refine ⟨?_, ?_⟩
    · rw [← hz, bne_iff_ne]
      intro e
      exact n1 (UInt8.toNat_inj.1 (show s[q].toNat = 34 by omega))
    · rw [rest_cons hlt, if_neg (by simp), rdK, if_pos n1]
  · obtain rfl : q = s.size := by omega
    rw [sign_end] at hz
    refine ⟨by rw [← hz]; rfl, ?_⟩
    rw [rest_none, if_pos rfl]
    rfl
theorem colon_odd {s : ByteArray} {q : Nat} {z : Int} (hz : signAt s q = z) (hq : q ≤ s.size) (k : List UInt8) (h : ¬ s[q]? = some 58) : (z != 58) = true ∧ colon k (rest s q) = .bad (if rest s q = [] then 3 else 20) := by
  rcases Nat.lt_or_ge q s.size with hlt | hge
  · have n1 : s[q] ≠ 58 := fun e => h (by rw [getElem?_pos s q hlt, e])
    rw [sign_at hlt] at hz
    refine ⟨?_, ?_⟩
    · rw [← hz, bne_iff_ne]
      intro e
      exact n1 (UInt8.toNat_inj.1 (show s[q].toNat = 58 by omega))
    · rw [rest_cons hlt, if_neg (by simp)]
      exact if_pos n1
  · obtain rfl : q = s.size := by omega
    rw [sign_end] at hz
    refine ⟨by rw [← hz]; rfl, ?_⟩
    rw [rest_none, if_pos rfl]
    rfl
set_option maxHeartbeats 51200000 in
theorem rval_map (w : World) (s : ByteArray) (p L D n : Nat) (hL : D + (L + 1) = 12) (hn : n < 2000) (hp : p < s.size) (hs : s.size ≤ 70000) (h91 : s[p] = 123)
    (IH : ∀ (p n : Nat) (w : World), p ≤ s.size → n ≤ 2000 → Calls Tryd.prog 17 #[.string s, .int .i64 (p : Int), .int .i64 ((D : Int) + 1), .int .i64 (n : Int)] w fun e w' => RValPost w s p L n e w') :
    Calls Tryd.prog 17 #[.string s, .int .i64 (p : Int), .int .i64 (D : Int), .int .i64 (n : Int)] w fun e w' => RValPost w s p (L + 1) n e w' := by
  have e1 : ((D : Int) == 12) = false := by rw [beq_eq_false_iff_ne]; omega
  have e2 : ((n : Int) == 2000) = false := by rw [beq_eq_false_iff_ne]; omega
  have HS := Lib.hid (fun (w : World) => by have h := refSign_any w s p (Nat.le_of_lt hp); rw [sign_at hp, h91] at h; exact h)
  have HB := Lib.hid (show rdV (L + 1) n (rest s p) = if (rest s (p + 1)).head? = some 125 then .ok (.mk 4 0 [] [] [], n + 1) (rest s (p + 1)).tail else keyed L [] [] (rest s (p + 1)).length (n + 1) (rdK none (rest s (p + 1))) by rw [rest_cons hp, h91]; exact begin_map L n _ (by omega))
  clear h91
  have lT := Lies.new w 45 tZ
  have hba := (RowKit.Below.refl w.heap.size w).alloc (Nat.le_refl _) (.cells tZ 45)
  obtain ⟨b, hb⟩ : ∃ b, w.heap.size = b := ⟨_, rfl⟩
  have hza : (w.alloc (.cells tZ 45)).heap.size = b + 1 := by simp [hb]
  have lV := (Lies.new (w.alloc (.cells tZ 45)) 25 valZ).row #[.int .i64 3, .int .i64 0, .string ⟨#[]⟩, .slice none 0 0, .slice none 0 0]
  have hbY := below_rowSet ((RowKit.Below.refl _ (w.alloc (.cells tZ 45))).alloc (Nat.le_refl _) (.cells valZ 25)) (Nat.le_refl _) #[.int .i64 3, .int .i64 0, .string ⟨#[]⟩, .slice none 0 0, .slice none 0 0]
  have lT2 := lT.on hbY
  have hb2 := below_on hba hbY
  have lN := Lies.new (w.alloc (.cells tZ 45)) 25 valZ
  rw [hza] at lV lT2 hb2 lN
  rw [hb] at lT lT2
  clear hbY
  go_enter Tryd.func17, Tryd.ntmps17
  go_upto_region 19 with (first
    | (go_at_call 23; refine (HS.out _).mono ?_; rintro e w0 ⟨rfl, rfl⟩)
    | ((with_reducible refine wpL_store (b + 1) 25 valZ #[.int .i64 3, .int .i64 0, .string ⟨#[]⟩, .slice none 0 0, .slice none 0 0] 5 rowVal rfl rfl (valC_one _ _ _ _ _ _ _ _ _) lN ?_ ?_ ?_); rfl; rfl))
  generalize World.setRow _ _ _ = w2 at *
  clear lN lT hza hba
  have v0 : w2.cell? ⟨b + 1, 0, none⟩ = some (.int .i64 3) := lV.cell 0
  have f0 := lV.frozen 0
  go_upto_region 22 with fail
  replace lT2 := lT2.far (p := ⟨b + 1, 0, none⟩) (show b ≠ b + 1 by omega) (.int .i64 4)
  replace lV : Lies (w2.setCell ⟨b + 1, 0, none⟩ (.int .i64 4)) (b + 1) 25 #[.int .i64 4, .int .i64 0, .string ⟨#[]⟩, .slice none 0 0, .slice none 0 0] := lV.put 0 (.int .i64 4)
  replace hb2 := below_setC hb2 (show w.heap.size ≤ b + 1 by omega) 0 (.int .i64 4)
  clear v0 f0
  generalize World.setCell _ _ _ = w3 at *
  have hp1 : p + 1 ≤ s.size := hp
  obtain ⟨z1, hz1⟩ : ∃ z, signAt s (p + 1) = z := ⟨_, rfl⟩
  have HS1 := Lib.hid (fun (w : World) => by have h := refSign_any w s (p + 1) hp1; rw [hz1, show ((p + 1 : Nat) : Int) = (p : Int) + 1 by omega] at h; exact h)
  by_cases hcl : (rest s (p + 1)).head? = some 125
  · have hlt1 : p + 1 < s.size := by
      rcases Nat.lt_or_ge (p + 1) s.size with h | h
      · exact h
      · rw [show p + 1 = s.size by omega, rest_none] at hcl
        cases hcl
    have hz93 : z1 = 125 := by
      rw [← hz1]
      unfold signAt
      rw [hcl]
      rfl
    subst hz93
    have HX := Lib.hid (show rdV (L + 1) n (rest s p) = .ok (.mk 4 0 [] [] [], n + 1) (rest s (p + 2)) by rw [HB.out, if_pos hcl, rest_cons hlt1]; rfl)
    clear HB hcl hz1
    go_wp2_with (first
      | (go_at_call 23; refine (HS1.out _).mono ?_; rintro e w0 ⟨rfl, rfl⟩)
      | ((with_reducible refine wpL_load (b + 1) 25 #[.int .i64 4, .int .i64 0, .string ⟨#[]⟩, .slice none 0 0, .slice none 0 0] 5 rowVal rfl lV ?_ ?_); rfl)
      | ((with_reducible refine wpL_store b 45 tZ #[.int .i64 4, .int .i64 0, .string ⟨#[]⟩, .slice none 0 0, .slice none 0 0, .int .i64 ((p : Int) + 1 + 1), .int .i64 ((n : Int) + 1), .int .i64 0] 8 rowTT rfl rfl (tC_one _ _ _ _ _ _ _ _ _ _ _ _) lT2 ?_ ?_ ?_); rfl; rfl))
    refine bodyPost_ret (results_row Tryd.results17 rowTT rfl (lT2.row _) rfl) rfl ?_
    exact ⟨below_rowSet hb2 (Nat.le_of_eq hb) _, .inr ⟨.mk 4 0 [] [] [], 1, p + 2, n + 1, none, 0, none, 0, HX.out, rfl, fun E _ => isVX_none E _ 4 (.inr rfl), by omega, by omega⟩⟩
  · have hz93 : (z1 == 125) = false := by
      rw [beq_eq_false_iff_ne]
      intro e
      apply hcl
      rw [e] at hz1
      unfold signAt at hz1
      cases hh : (rest s (p + 1)).head? with
      | none => rw [hh] at hz1; cases hz1
      | some c =>
        rw [hh] at hz1
        have : c.toNat = 125 := by have : (c.toNat : Int) = 125 := hz1; omega
        rw [show c = 125 from UInt8.toNat_inj.1 this]
    replace HB := Lib.hid (show rdV (L + 1) n (rest s p) = keyed L [] [] (rest s (p + 1)).length (n + 1) (rdK none (rest s (p + 1))) by rw [HB.out, if_neg hcl])
    clear hz1 hcl
    have hS0 : RSt w w3 b b (b + 1) (p + 1) ⟨⟨true, [], [], (rest s (p + 1)).length⟩, .slice none 0 0, .slice none 0 0⟩ := RSt.start true _ lT2 lV (by omega) (Nat.le_refl _) (by omega) (by rw [← hb]; exact hb2) (Nat.le_of_lt lT2.lt)
    clear lT2 lV hb2
    go_upto_region 26 with ((go_at_call 23; refine (HS1.out _).mono ?_; rintro e w0 ⟨rfl, rfl⟩))
    go_loopw [1, 3, 14, 15] (fun av nv _ _ wr => ∃ (qa nn f : Nat) (it : List VT) (ks : List (List UInt8)) (vi vk : Value), av = .int .i64 (qa : Int) ∧ nv = .int .i64 (nn : Int) ∧ p < qa ∧ qa ≤ s.size ∧ nn ≤ 2000 ∧ s.size - qa ≤ f ∧ Hid (rdV (L + 1) n (rest s p) = keyed L it ks f nn (rdK ks.getLast? (rest s qa))) ∧ RSt w wr b b (b + 1) qa ⟨⟨true, it, ks, f⟩, vi, vk⟩) (fun av _ _ _ _ => s.size - (intOf av).toNat)
    case atStart => exact ⟨p + 1, n + 1, (rest s (p + 1)).length, [], [], .slice none 0 0, .slice none 0 0, by simp, by simp, by omega, hp1, by omega, by unfold rest; rw [List.length_drop, list_len']; exact Nat.le_refl _, HB, hS0⟩
    case round =>
      obtain ⟨qa, nn, f, it, ks, vi, vk, rfl, rfl, hpqa, hqa, hnn, hf0, HR, hS⟩ := hrel
      clear hS0 HB HS1 hz93
      have v0 : wr.cell? ⟨b + 1, 0, none⟩ = some (.int .i64 4) := hS.lV.cell 0
      obtain ⟨ak0, ck0, hvk⟩ : ∃ a c, vk = .slice a ks.length c := by
        obtain ⟨a, c, h, _⟩ := hS.fm.keys.form
        exact ⟨a, c, by rw [List.length_map] at h; exact h⟩
      subst hvk
      by_cases hq34 : s[qa]? = some 34
      case neg =>
        obtain ⟨z2, hz2⟩ : ∃ z, signAt s qa = z := ⟨_, rfl⟩
        have HSq := Lib.hid (fun (w : World) => by have h := refSign_any w s qa hqa; rw [hz2] at h; exact h)
        have HW := Lib.hid (fun (w : World) => wrong_any w s qa hqa)
        obtain ⟨o1, o2⟩ := key_odd hz2 hqa ks.getLast? hq34
        generalize (if rest s qa = [] then (3 : Int) else 20) = er at *
        have HX := Lib.hid (show rdV (L + 1) n (rest s p) = .bad er by rw [HR.out, o2]; rfl)
        have hTF := hS.lT
        have hbF := hS.hb
        have hsF := hS.size
        clear HR hz2 o2 hq34 hS
        go_wp2_with (first
          | (go_at_call 23; refine (HSq.out _).mono ?_; rintro e w0 ⟨rfl, rfl⟩)
          | (go_at_call 26; refine (HW.out _).mono ?_; rintro e wW ⟨rfl, hbW⟩)
          | ((with_reducible refine wpL_store b 45 tZ (errT er) 8 rowTT rfl rfl (tC_one _ _ _ _ _ _ _ _ _ _ _ _) (hTF.on hbW) ?_ ?_ ?_); rfl; rfl))
        refine bodyPost_ret (results_row Tryd.results17 rowTT rfl ((hTF.on hbW).row _) rfl) rfl ?_
        exact ⟨below_rowSet (by rw [hb]; exact hbF.trans (hbW.mono hsF)) (Nat.le_of_eq hb) _, .inl ⟨er, 0, 0, ⟨#[]⟩, 0, 0, HX.out, rfl⟩⟩
      have hlta : qa < s.size := (Array.getElem?_eq_some_iff.1 hq34).1
      have h34 : s[qa] = 34 := (Array.getElem?_eq_some_iff.1 hq34).2
      have HSq := Lib.hid (fun (w : World) => by have h := refSign_any w s qa hqa; rw [sign_at hlta, h34] at h; exact h)
      have HN := Lib.hid (fun (w : World) => by have h := refTxt_any w s (qa + 1) hlta hs; rw [show ((qa + 1 : Nat) : Int) = (qa : Int) + 1 by omega] at h; exact h)
      have hbb := hS.lV.lt
      go_upto_region 30 with (first
        | (go_at_call 23; refine (HSq.out _).mono ?_; rintro e w0 ⟨rfl, rfl⟩)
        | (go_at_call 25; refine (HN.out _).mono ?_; rintro e w1 ⟨hb1, ⟨er, hX, rfl⟩ | ⟨k, q1, hX, rfl, hpq1, hq1⟩⟩)
        | ((with_reducible refine wpL_store w1.heap.size 45 tZ (errT er) 8 rowTT rfl rfl (tC_one _ _ _ _ _ _ _ _ _ _ _ _) (Lies.new w1 _ _) ?_ ?_ ?_); rfl; rfl)
        | ((with_reducible refine wpL_store w1.heap.size 45 tZ #[.int .i64 0, .int .i64 0, .string ⟨k.toArray⟩, .slice none 0 0, .slice none 0 0, .int .i64 (q1 : Int), .int .i64 0, .int .i64 0] 8 rowTT rfl rfl (tC_one _ _ _ _ _ _ _ _ _ _ _ _) (Lies.new w1 _ _) ?_ ?_ ?_); rfl; rfl))
      · have hbY := below_rowSet ((RowKit.Below.refl w1.heap.size w1).alloc (Nat.le_refl _) (.cells tZ 45)) (Nat.le_refl _) (errT er)
        have lC := (Lies.new w1 45 tZ).row (errT er)
        have hS2 := (hS.on hb1 (Nat.le_refl _)).on hbY (Nat.le_refl _)
        have he : (er != 0) = true := bne_iff_ne.2 (by have h := nz_T (rest s (qa + 1)).length (rest s (qa + 1)) (Nat.le_refl _) 0; rw [hX] at h; exact h)
        have HX := Lib.hid (show rdV (L + 1) n (rest s p) = .bad er by rw [HR.out, rest_cons hlta, h34, rdK, if_neg (by decide), hX]; rfl)
        clear hb1 hbY HR hX hS hq34 h34
        generalize World.setRow _ _ _ = w2 at *
        generalize w1.heap.size = c at *
        have q7 : w2.cell? ⟨c, 7, none⟩ = some (.int .i64 er) := lC.cell 7
        have lTT := hS2.lT
        go_wp2_with (((with_reducible refine wpL_store b 45 tZ (errT er) 8 rowTT rfl rfl (tC_one _ _ _ _ _ _ _ _ _ _ _ _) lTT ?_ ?_ ?_); rfl; rfl))
        refine bodyPost_ret (results_row Tryd.results17 rowTT rfl (lTT.row _) rfl) rfl ?_
        exact ⟨below_rowSet (by rw [hb]; exact hS2.hb) (Nat.le_of_eq hb) _, .inl ⟨er, 0, 0, ⟨#[]⟩, 0, 0, HX.out, rfl⟩⟩
      have hbY := below_rowSet ((RowKit.Below.refl w1.heap.size w1).alloc (Nat.le_refl _) (.cells tZ 45)) (Nat.le_refl _) #[.int .i64 0, .int .i64 0, .string ⟨k.toArray⟩, .slice none 0 0, .slice none 0 0, .int .i64 (q1 : Int), .int .i64 0, .int .i64 0]
      have lC := (Lies.new w1 45 tZ).row #[.int .i64 0, .int .i64 0, .string ⟨k.toArray⟩, .slice none 0 0, .slice none 0 0, .int .i64 (q1 : Int), .int .i64 0, .int .i64 0]
      have hS2 := (hS.on hb1 (Nat.le_refl _)).on hbY (Nat.le_refl _)
      have hcb : b + 1 < w1.heap.size := Nat.lt_of_lt_of_le hbb hb1.size
      have hvc : w1.heap.size ∉ blks (.slice ak0 ks.length ck0) := fun hx => by
        have := (hS.on hb1 (Nat.le_refl _)).blocks _ (mem_rX.2 (.inr (.inr (.inr (.inl hx)))))
        omega
      have hk4 : k.length ≤ 4000 := by have := (rdT_ok (rest s (qa + 1)).length (rest s (qa + 1)) (Nat.le_refl _) 0 k _ (by decide) hX).2.2; omega
      obtain ⟨bad, hbad⟩ : ∃ bad, ks.getLast?.any (fun p => !lessL p k) = bad := ⟨_, rfl⟩
      have HK := Lib.hid (show rdV (L + 1) n (rest s p) = keyed L it ks f nn (if bad = true then .bad 23 else colon k (rest s q1)) by rw [HR.out, rest_cons hlta, h34, rdK_key hX, hbad])
      clear hb1 hbY hX hS HR hq34 h34 hbb
      generalize World.setRow _ _ _ = w2 at *
      generalize w1.heap.size = cB at *
      have q7 : w2.cell? ⟨cB, 7, none⟩ = some (.int .i64 0) := lC.cell 7
      have q2' : w2.cell? ⟨cB, 2, none⟩ = some (.string ⟨k.toArray⟩) := lC.cell 2
      have v4 : w2.cell? ⟨b + 1, 4, none⟩ = some (.slice ak0 ks.length ck0) := hS2.lV.cell 4
      have hko := hS2.fm.keys
      have hfewk : ks.length ≤ 70000 := Nat.le_trans hS2.fm.fewk (by omega)
      have hshort := hS2.fm.short
      go_upto_region 32 with fail
      go_cut [117] from 99 to 117 (fun v wx => v = .bool bad ∧ RowKit.Below w2.heap.size w2 wx)
      case first =>
        clear HK hS2 lC
        have u4 := cell_regrown v4
        have u2 := cell_regrown q2'
        rcases List.eq_nil_or_concat ks with hke | ⟨ks', last, hke⟩
        · subst hke
          obtain rfl : bad = false := by rw [← hbad]; rfl
          clear v4 q2' q7 hbad
          refine wp_region_quiet_below (by kernel_rfl) (by kernel_rfl) ?_
          repeat (go_big_quiet_step (fail))
          refine wpQuiet_nil ?_
          intro _ hw'
          obtain ⟨⟨dq, osq⟩, hw''⟩ := hw'
          subst hw''
          have hbb := below_regrown w2 dq osq
          go_wp2_with fail
          go_meet
          exact ⟨rfl, hbb⟩
        · have hlen : ks.length = ks'.length + 1 := by rw [hke]; simp
          rw [hke, List.concat_eq_append, List.getLast?_concat] at hbad
          have hbad : (!lessL last k) = bad := hbad
          have hlast : (ks.map fun k => [str k])[ks'.length]? = some [str last] := by rw [hke]; simp
          have hlk : last.length ≤ maxLen := by
            have := hshort last (by show last ∈ ks; rw [hke]; simp)
            unfold maxLen
            omega
          obtain ⟨kb, off, rfl, hkr, _⟩ := hko.read.at hlast
          have k0 := hkr 0 _ rfl
          rw [Nat.mul_one, Nat.add_zero] at k0
          replace k0 : w2.cell? ⟨kb, off + ks'.length, none⟩ = some (.string ⟨last.toArray⟩) := k0
          have uk := cell_regrown k0
          obtain ⟨nk, hnk⟩ : ∃ nk, ks.length = nk := ⟨_, rfl⟩
          rw [hnk] at u4 hlen
          subst hlen
          have i1 : (0 : Int) < ((ks'.length + 1 : Nat) : Int) := by omega
          have rL := Lib.hid (reg (W := w2) (fun w _ => refLess_2 last k w hlk))
          have hl2 : lessL last k = !bad := by rw [← hbad]; simp
          rw [hl2] at rL
          clear hko hkr hlast hke hbad v4 q2' q7 k0 hshort hl2
          refine wp_region_quiet_below (by kernel_rfl) (by kernel_rfl) ?_
          repeat (go_big_quiet_step (with_reducible exact rL.out _ _))
          refine wpQuiet_nil ?_
          intro _ hw'
          obtain ⟨⟨dq, osq⟩, hw''⟩ := hw'
          subst hw''
          have hbb := below_regrown w2 dq osq
          go_wp2_with fail
          go_meet
          exact ⟨by simp, hbb⟩
      obtain ⟨rfl, hbc⟩ := hcut
      replace hS2 := hS2.on hbc (Nat.le_refl _)
      replace lC := lC.on hbc
      clear hbc q7 q2' v4 hko hshort hbad
      cases bad with
      | true =>
        have HX := Lib.hid (show rdV (L + 1) n (rest s p) = .bad 23 by rw [HK.out, if_pos rfl]; rfl)
        have lTT := hS2.lT
        go_wp2_with (((with_reducible refine wpL_store b 45 tZ (errT 23) 8 rowTT rfl rfl (tC_one _ _ _ _ _ _ _ _ _ _ _ _) lTT ?_ ?_ ?_); rfl; rfl))
        refine bodyPost_ret (results_row Tryd.results17 rowTT rfl (lTT.row _) rfl) rfl ?_
        exact ⟨below_rowSet (by rw [hb]; exact hS2.hb) (Nat.le_of_eq hb) _, .inl ⟨23, 0, 0, ⟨#[]⟩, 0, 0, HX.out, rfl⟩⟩
      | false =>
        replace HK := Lib.hid (show rdV (L + 1) n (rest s p) = keyed L it ks f nn (colon k (rest s q1)) by rw [HK.out, if_neg (by decide)])
        have q2' : wc.cell? ⟨cB, 2, none⟩ = some (.string ⟨k.toArray⟩) := lC.cell 2
        have v4 : wc.cell? ⟨b + 1, 4, none⟩ = some (.slice ak0 ks.length ck0) := hS2.lV.cell 4
        have hko : OwnL wc b 9 1 (.slice ak0 ks.length ck0) (ks.map fun k => [str k]) := hS2.fm.keys
        have hcn : (ks.map fun k => [str k]).length ≤ 100000 := by rw [List.length_map]; omega
        have zb : RowKit.Below wc.heap.size wc (wc.alloc (.cells #[.string ⟨k.toArray⟩] 9)) := (RowKit.Below.refl _ _).alloc (Nat.le_refl _) _
        have zA := Lies.new wc 9 #[.string ⟨k.toArray⟩]
        have hkoA := hko.on zb
        have hBA : b ≤ (wc.alloc (.cells #[.string ⟨k.toArray⟩] 9)).heap.size := Nat.le_trans hS2.size zb.size
        have hgz := World.grownBy_alloc wc (.cells #[.string ⟨k.toArray⟩] 9) (Value.slice ak0 ks.length ck0).ownBlock
        have hnv : b + 1 ∉ blks (.slice ak0 ks.length ck0) := hS2.nV.2
        have hlA := (hS2.lV).on zb
        have lCA := lC.on zb
        go_upto_region 35 with (first
          | ((with_reducible refine wpL_putS b (.slice ak0 ks.length ck0) (ks.map fun k => [str k]) (.string ⟨k.toArray⟩) wc.heap.size hkoA rfl zA hcn hBA ?_ ?_ ?_); rfl; rfl; intro g0 cap0 w7 hown7 hgr7 hloc7; have hl7 := hlA.only hgr7 (own_ne hnv); have p3 : w7.cell? ⟨b + 1, 4, none⟩ = some (.slice ak0 ks.length ck0) := hl7.cell 4; have f3 := hl7.frozen 4; have hw7 := grown_two hgz hgr7))
        rw [List.length_map] at hown7
        have hloc := loc_of (n := ks.length + 1) (cap := cap0) hloc7 zb.size
        have PD := put_value (i := 4) hw7 hloc hS2.lV.lt hnv hown7
        have hS5 := RSt.key hS2 rfl hk4 PD (show qa < q1 by omega) f
        have lC9 := (lCA.only hgr7 (own_ne hvc)).far (p := ⟨b + 1, 4, none⟩) (show cB ≠ b + 1 by omega) (.slice (some ⟨g0, 0, none⟩) (ks.length + 1) cap0)
        clear PD hloc hl7 p3 f3 hw7 hown7 hgr7 hloc7 hlA lCA hkoA hBA hgz zb zA hko q2' v4 lC hnv hvc hcn
        generalize World.setCell _ _ _ = wK at *
        clear hS2
        have q5 : wK.cell? ⟨cB, 5, none⟩ = some (.int .i64 (q1 : Int)) := lC9.cell 5
        go_upto_region 36 with fail
        clear q5 lC9
        have hTF := hS5.lT
        by_cases hz : s[q1]? = some 58
        case neg =>
          obtain ⟨z2, hz2⟩ : ∃ z, signAt s q1 = z := ⟨_, rfl⟩
          have HS2 := Lib.hid (fun (w : World) => by have h := refSign_any w s q1 hq1; rw [hz2] at h; exact h)
          have HW := Lib.hid (fun (w : World) => wrong_any w s q1 hq1)
          obtain ⟨o1, o2⟩ := colon_odd hz2 hq1 k hz
          generalize (if rest s q1 = [] then (3 : Int) else 20) = er at *
          have HX := Lib.hid (show rdV (L + 1) n (rest s p) = .bad er by rw [HK.out, o2]; rfl)
          have hbF := hS5.hb
          have hsF := hS5.size
          clear HK hz2 o2 hz hS5
          go_wp2_with (first
            | (go_at_call 23; refine (HS2.out _).mono ?_; rintro e w0 ⟨rfl, rfl⟩)
            | (go_at_call 26; refine (HW.out _).mono ?_; rintro e wW ⟨rfl, hbW⟩)
            | ((with_reducible refine wpL_store b 45 tZ (errT er) 8 rowTT rfl rfl (tC_one _ _ _ _ _ _ _ _ _ _ _ _) (hTF.on hbW) ?_ ?_ ?_); rfl; rfl))
          refine bodyPost_ret (results_row Tryd.results17 rowTT rfl ((hTF.on hbW).row _) rfl) rfl ?_
          exact ⟨below_rowSet (by rw [hb]; exact hbF.trans (hbW.mono hsF)) (Nat.le_of_eq hb) _, .inl ⟨er, 0, 0, ⟨#[]⟩, 0, 0, HX.out, rfl⟩⟩
        have hlt1 : q1 < s.size := (Array.getElem?_eq_some_iff.1 hz).1
        have h58 : s[q1] = 58 := (Array.getElem?_eq_some_iff.1 hz).2
        have HS2 := Lib.hid (fun (w : World) => by have h := refSign_any w s q1 hq1; rw [sign_at hlt1, h58] at h; exact h)
        have HR := Lib.hid (show rdV (L + 1) n (rest s p) = (Fr.mk true it (ks ++ [k]) f).after L (rdV L nn (rest s (q1 + 1))) by rw [HK.out, rest_cons hlt1, h58]; rfl)
        clear HK hz h58 hTF
        go_upto_region 39 with ((go_at_call 23; refine (HS2.out _).mono ?_; rintro e w0 ⟨rfl, rfl⟩))
        obtain ⟨q, hqe⟩ : ∃ q, q = q1 + 1 := ⟨_, rfl⟩
        have hqc : (q1 : Int) + 1 = (q : Int) := by omega
        rw [hqc]
        have hS := hS5.on (RowKit.Below.refl _ _) (show q1 ≤ q by omega)
        rw [← hqe] at HR
        have hq : q ≤ s.size := by omega
        have hpq : p < q := by omega
        have hqaq : qa < q := by omega
        have hf : s.size - q ≤ f := by omega
        have hklen : (ks ++ [k]).length = ks.length + 1 := by simp
        clear hqc hqe hS5 HS2
        have HV := Lib.hid (fun w' => IH q nn w' hq hnn)
        have hblk := hS.blocks
        have hbb := hS.lV.lt
        go_upto_region 40 with (first
          | (go_at_call 17; refine (HV.out _).mono ?_; rintro e w1 ⟨hb1, ⟨er, kk, z, st, a9, n2, hX, rfl⟩ | ⟨t, d, q2, n2, ai, ci, ak, ck, hX, rfl, hx, hpq2, hq2⟩⟩)
          | ((with_reducible refine wpL_store w1.heap.size 45 tZ #[.int .i64 kk, .int .i64 z, .string st, .slice none 0 0, .slice none 0 0, .int .i64 a9, .int .i64 n2, .int .i64 er] 8 rowTT rfl rfl (tC_one _ _ _ _ _ _ _ _ _ _ _ _) (Lies.new w1 _ _) ?_ ?_ ?_); rfl; rfl)
          | ((with_reducible refine wpL_store w1.heap.size 45 tZ #[.int .i64 t.kind, .int .i64 t.num, .string ⟨t.txt.toArray⟩, .slice ai t.items.length ci, .slice ak t.keys.length ck, .int .i64 (q2 : Int), .int .i64 (n2 : Int), .int .i64 0] 8 rowTT rfl rfl (tC_one _ _ _ _ _ _ _ _ _ _ _ _) (Lies.new w1 _ _) ?_ ?_ ?_); rfl; rfl))
        · have hbY := below_rowSet ((RowKit.Below.refl w1.heap.size w1).alloc (Nat.le_refl _) (.cells tZ 45)) (Nat.le_refl _) #[.int .i64 kk, .int .i64 z, .string st, .slice none 0 0, .slice none 0 0, .int .i64 a9, .int .i64 n2, .int .i64 er]
          have lC := (Lies.new w1 45 tZ).row #[.int .i64 kk, .int .i64 z, .string st, .slice none 0 0, .slice none 0 0, .int .i64 a9, .int .i64 n2, .int .i64 er]
          have hS2 := (hS.on hb1 (Nat.le_refl _)).on hbY (Nat.le_refl _)
          have he : (er != 0) = true := bne_iff_ne.2 (rdV_code hX)
          have HX := Lib.hid (show rdV (L + 1) n (rest s p) = .bad er by rw [HR.out, hX]; rfl)
          clear hb1 hbY HR hX hS HV
          generalize World.setRow _ _ _ = w2 at *
          generalize w1.heap.size = c at *
          have q7 : w2.cell? ⟨c, 7, none⟩ = some (.int .i64 er) := lC.cell 7
          have lTT := hS2.lT
          go_wp2_with (((with_reducible refine wpL_store b 45 tZ (errT er) 8 rowTT rfl rfl (tC_one _ _ _ _ _ _ _ _ _ _ _ _) lTT ?_ ?_ ?_); rfl; rfl))
          refine bodyPost_ret (results_row Tryd.results17 rowTT rfl (lTT.row _) rfl) rfl ?_
          exact ⟨below_rowSet (by rw [hb]; exact hS2.hb) (Nat.le_of_eq hb) _, .inl ⟨er, 0, 0, ⟨#[]⟩, 0, 0, HX.out, rfl⟩⟩
        · have hbY := below_rowSet ((RowKit.Below.refl w1.heap.size w1).alloc (Nat.le_refl _) (.cells tZ 45)) (Nat.le_refl _) #[.int .i64 t.kind, .int .i64 t.num, .string ⟨t.txt.toArray⟩, .slice ai t.items.length ci, .slice ak t.keys.length ck, .int .i64 (q2 : Int), .int .i64 (n2 : Int), .int .i64 0]
          have lC := (Lies.new w1 45 tZ).row #[.int .i64 t.kind, .int .i64 t.num, .string ⟨t.txt.toArray⟩, .slice ai t.items.length ci, .slice ak t.keys.length ck, .int .i64 (q2 : Int), .int .i64 (n2 : Int), .int .i64 0]
          have hS2 := (hS.on hb1 (Nat.le_refl _)).on hbY (Nat.le_refl _)
          have hx2 := (hx (rX b b (b + 1) ⟨⟨true, it, (ks ++ [k]), f⟩, vi, (.slice (some ⟨g0, 0, none⟩) (ks.length + 1) cap0)⟩) hblk).turn (Turn.of_below hbY)
          have hcb : b + 1 < w1.heap.size := Nat.lt_of_lt_of_le hbb hb1.size
          have hvc : w1.heap.size ∉ blks vi := fun hx => by
            have := (hS.on hb1 (Nat.le_refl _)).blocks _ (mem_rX.2 (.inr (.inr (.inl hx))))
            omega
          have hn2 : n2 ≤ 2000 := (rdV_ok L nn _ t n2 _ hnn hX).2.2.2.2.1
          replace HR := Lib.hid (show rdV (L + 1) n (rest s p) = (Fr.mk true it (ks ++ [k]) f).after L (.ok (t, n2) (rest s q2)) by rw [HR.out, hX])
          clear hb1 hbY hX hS HV hx hblk hbb
          generalize World.setRow _ _ _ = w2 at *
          generalize w1.heap.size = c at *
          have q7 : w2.cell? ⟨c, 7, none⟩ = some (.int .i64 0) := lC.cell 7
          have q5 : w2.cell? ⟨c, 5, none⟩ = some (.int .i64 (q2 : Int)) := lC.cell 5
          have q6 : w2.cell? ⟨c, 6, none⟩ = some (.int .i64 (n2 : Int)) := lC.cell 6
          have hr5 : w2.rangeAt c 0 [.int .i64 t.kind, .int .i64 t.num, .string ⟨t.txt.toArray⟩, .slice ai t.items.length ci, .slice ak t.keys.length ck] := fun j v hv => by
            match j, hv with
            | 0, hv => rw [← hv]; exact lC.cell 0
            | 1, hv => rw [← hv]; exact lC.cell 1
            | 2, hv => rw [← hv]; exact lC.cell 2
            | 3, hv => rw [← hv]; exact lC.cell 3
            | 4, hv => rw [← hv]; exact lC.cell 4
            | j + 5, hv => simp at hv
          have v3 : w2.cell? ⟨b + 1, 3, none⟩ = some vi := hS2.lV.cell 3
          have hfm := hS2.fm
          obtain ⟨⟨ics, hown, hits⟩, _, _, hfew, _, _⟩ := hfm
          have hicl : ics.length ≤ 100000 := by rw [hits.1]; exact Nat.le_trans hfew (by omega)
          have zb : RowKit.Below w2.heap.size w2 (w2.alloc (.cells #[.int .i64 t.kind, .int .i64 t.num, .string ⟨t.txt.toArray⟩, .slice ai t.items.length ci, .slice ak t.keys.length ck] 25)) := (RowKit.Below.refl _ _).alloc (Nat.le_refl _) _
          have zA := Lies.new w2 25 #[.int .i64 t.kind, .int .i64 t.num, .string ⟨t.txt.toArray⟩, .slice ai t.items.length ci, .slice ak t.keys.length ck]
          have hownA := hown.on zb
          have hBA : b ≤ (w2.alloc (.cells #[.int .i64 t.kind, .int .i64 t.num, .string ⟨t.txt.toArray⟩, .slice ai t.items.length ci, .slice ak t.keys.length ck] 25)).heap.size := Nat.le_trans hS2.size zb.size
          have hgz := World.grownBy_alloc w2 (.cells #[.int .i64 t.kind, .int .i64 t.num, .string ⟨t.txt.toArray⟩, .slice ai t.items.length ci, .slice ak t.keys.length ck] 25) (vi).ownBlock
          have hnv : b + 1 ∉ blks vi := hS2.nV.1
          have hlA := (hS2.lV).on zb
          have lCA := lC.on zb
          have hone : ∀ u ∈ ([.int .i64 t.kind, .int .i64 t.num, .string ⟨t.txt.toArray⟩, .slice ai t.items.length ci, .slice ak t.keys.length ck] : List Value), u.oneCell' = true := by
            intro u hu
            simp only [List.mem_cons, List.not_mem_nil, or_false] at hu
            rcases hu with rfl | rfl | rfl | rfl | rfl <;> rfl
          go_upto_region 43 with (first
            | ((with_reducible refine wpL_loadMid c 0 [.int .i64 t.kind, .int .i64 t.num, .string ⟨t.txt.toArray⟩, .slice ai t.items.length ci, .slice ak t.keys.length ck] 5 rowVal rfl hr5 ?_ ?_); rfl)
            | ((with_reducible refine wpL_putV b vi ics [.int .i64 t.kind, .int .i64 t.num, .string ⟨t.txt.toArray⟩, .slice ai t.items.length ci, .slice ak t.keys.length ck] w2.heap.size hownA rfl hone zA hicl hBA ?_ ?_ ?_); rfl; rfl; intro g1 cap1 w7 hown7 hgr7 hloc7; have hl7 := hlA.only hgr7 (own_ne hnv); have p3 : w7.cell? ⟨b + 1, 3, none⟩ = some vi := hl7.cell 3; have f3 := hl7.frozen 3; have hw7 := grown_two hgz hgr7))
          have hloc := loc_of (n := ics.length + 1) (cap := cap1) hloc7 zb.size
          have PD := put_value (i := 3) hw7 hloc hS2.lV.lt hnv hown7
          have hS9 := fun f2 => RSt.item hS2 hits hx2 PD hpq2 f2
          have lC9 := (lCA.only hgr7 (own_ne hvc)).far (p := ⟨b + 1, 3, none⟩) (show c ≠ b + 1 by omega) (.slice (some ⟨g1, 0, none⟩) (ics.length + 1) cap1)
          have hlen : (it ++ [t]).length = ics.length + 1 := by rw [List.length_append, hits.1]; rfl
          clear PD hloc hl7 p3 f3 hw7 hown7 hgr7 hloc7 hlA lCA hownA hBA hgz zb zA hown hits hfew hr5 q5 q6 q7 v3 hx2 lC hone hnv hvc
          generalize World.setCell _ _ _ = wF at *
          clear hS2
          have q5 : wF.cell? ⟨c, 5, none⟩ = some (.int .i64 (q2 : Int)) := lC9.cell 5
          have q6 : wF.cell? ⟨c, 6, none⟩ = some (.int .i64 (n2 : Int)) := lC9.cell 6
          go_upto_region 45 with fail
          clear q5 q6 lC9
          have hTF := (hS9 0).lT
          have hVF : Lies wF (b + 1) 25 #[.int .i64 4, .int .i64 0, .string ⟨#[]⟩, .slice (some ⟨g1, 0, none⟩) (ics.length + 1) cap1, (.slice (some ⟨g0, 0, none⟩) (ks.length + 1) cap0)] := (hS9 0).lV
          by_cases hz : q2 < s.size ∧ (s[q2]? = some 125 ∨ s[q2]? = some 44)
          · obtain ⟨hlt, hz⟩ := hz
            have hget : s[q2]? = some s[q2] := getElem?_pos s q2 hlt
            rw [hget, Option.some.injEq, Option.some.injEq] at hz
            by_cases hl : s[q2] = 125
            · have HS2 := Lib.hid (fun (w : World) => by have h := refSign_any w s q2 hq2; rw [sign_at hlt, hl] at h; exact h)
              have HX := Lib.hid (show rdV (L + 1) n (rest s p) = .ok (.mk 4 0 [] (it ++ [t]) (ks ++ [k]), n2) (rest s (q2 + 1)) by rw [HR.out, rest_cons hlt, hl]; exact after_close L (Fr.mk true it (ks ++ [k]) f) t n2 _)
              obtain ⟨d9, hv⟩ := (hS9 0).value
              have hbF := (hS9 0).hb
              clear HR hS9 hl hz hget
              go_wp2_with (first
                | (go_at_call 23; refine (HS2.out _).mono ?_; rintro e w0 ⟨rfl, rfl⟩)
                | ((with_reducible refine wpL_load (b + 1) 25 #[.int .i64 4, .int .i64 0, .string ⟨#[]⟩, .slice (some ⟨g1, 0, none⟩) (ics.length + 1) cap1, (.slice (some ⟨g0, 0, none⟩) (ks.length + 1) cap0)] 5 rowVal rfl hVF ?_ ?_); rfl)
                | ((with_reducible refine wpL_store b 45 tZ #[.int .i64 4, .int .i64 0, .string ⟨#[]⟩, .slice (some ⟨g1, 0, none⟩) (ics.length + 1) cap1, (.slice (some ⟨g0, 0, none⟩) (ks.length + 1) cap0), .int .i64 ((q2 : Int) + 1), .int .i64 (n2 : Int), .int .i64 0] 8 rowTT rfl rfl (tC_one _ _ _ _ _ _ _ _ _ _ _ _) hTF ?_ ?_ ?_); rfl; rfl))
              refine bodyPost_ret (results_row Tryd.results17 rowTT rfl (hTF.row _) rfl) rfl ?_
              refine ⟨below_rowSet (by rw [hb]; exact hbF) (Nat.le_of_eq hb) _, .inr ⟨.mk 4 0 [] (it ++ [t]) (ks ++ [k]), d9, q2 + 1, n2, some ⟨g1, 0, none⟩, cap1, (some ⟨g0, 0, none⟩), cap0, HX.out, ?_, fun E hE => ?_, by omega, hlt⟩⟩
              · show _ = Ending.returned (.agg #[.int .i64 4, .int .i64 0, .string ⟨#[]⟩, .slice (some ⟨g1, 0, none⟩) (it ++ [t]).length cap1, .slice (some ⟨g0, 0, none⟩) ((ks ++ [k]) : List (List UInt8)).length cap0, .int .i64 ((q2 + 1 : Nat) : Int), .int .i64 (n2 : Int), .int .i64 0])
                rw [hlen, hklen]
                rfl
              · show IsVX E _ d9 [.int .i64 4, .int .i64 0, .string ⟨#[]⟩, .slice (some ⟨g1, 0, none⟩) (it ++ [t]).length cap1, .slice (some ⟨g0, 0, none⟩) ((ks ++ [k]) : List (List UInt8)).length cap0] _
                rw [hlen, hklen]
                have h9 := (hv E (fun k hk => by rw [← hb]; exact hE k hk)).turn (Turn.of_grown (X := b :: E) (grown_row b #[.int .i64 4, .int .i64 0, .string ⟨#[]⟩, .slice (some ⟨g1, 0, none⟩) (ics.length + 1) cap1, (.slice (some ⟨g0, 0, none⟩) (ks.length + 1) cap0), .int .i64 ((q2 : Int) + 1), .int .i64 (n2 : Int), .int .i64 0]) (List.mem_cons_self ..))
                exact h9.turn ((Turn.refl _ _).wide (fun k hk => hk) (fun k hk => .inl (List.mem_cons_of_mem _ hk)))
            · have h44 : s[q2] = 44 := hz.resolve_left hl
              have HS2 := Lib.hid (fun (w : World) => by have h := refSign_any w s q2 hq2; rw [sign_at hlt, h44] at h; exact h)
              obtain ⟨f2, hf2⟩ : ∃ f2, f = f2 + 1 := ⟨f - 1, by omega⟩
              have HX := Lib.hid (show rdV (L + 1) n (rest s p) = keyed L (it ++ [t]) (ks ++ [k]) f2 n2 (rdK (ks ++ [k]).getLast? (rest s (q2 + 1))) by rw [HR.out, rest_cons hlt, h44, hf2]; exact after_map L it (ks ++ [k]) f2 t n2 _)
              have hS10 := (hS9 f2).on (RowKit.Below.refl _ _) (Nat.le_succ q2)
              have hff : s.size - (q2 + 1) ≤ f2 := by omega
              clear HR hS9 hl hz hget h44 hTF hVF hlen
              go_wp2_with ((go_at_call 23; refine (HS2.out _).mono ?_; rintro e w0 ⟨rfl, rfl⟩))
              go_roundw
              case rel => exact ⟨q2 + 1, n2, f2, it ++ [t], ks ++ [k], _, _, by simp, rfl, by omega, by omega, hn2, hff, HX, hS10⟩
              case measure => simp [intOf]; omega
          · obtain ⟨z2, hz2⟩ : ∃ z, signAt s q2 = z := ⟨_, rfl⟩
            have HS2 := Lib.hid (fun (w : World) => by have h := refSign_any w s q2 hq2; rw [hz2] at h; exact h)
            have HW := Lib.hid (fun (w : World) => wrong_any w s q2 hq2)
            have hodd : (z2 == 125) = false ∧ (z2 != 44) = true ∧ (Fr.mk true it (ks ++ [k]) f).after L (.ok (t, n2) (rest s q2)) = .bad (if rest s q2 = [] then 3 else 20) := sign_odd hz2 hq2 (Fr.mk true it (ks ++ [k]) f) 125 rfl L t n2 hz
            obtain ⟨o1, o2, o3⟩ := hodd
            generalize (if rest s q2 = [] then (3 : Int) else 20) = er at *
            have HX := Lib.hid (show rdV (L + 1) n (rest s p) = .bad er by rw [HR.out]; exact o3)
            have hbF := (hS9 0).hb
            have hsF := (hS9 0).size
            clear HR hS9 hz hz2 o3
            go_wp2_with (first
              | (go_at_call 23; refine (HS2.out _).mono ?_; rintro e w0 ⟨rfl, rfl⟩)
              | (go_at_call 26; refine (HW.out _).mono ?_; rintro e wW ⟨rfl, hbW⟩)
              | ((with_reducible refine wpL_store b 45 tZ (errT er) 8 rowTT rfl rfl (tC_one _ _ _ _ _ _ _ _ _ _ _ _) (hTF.on hbW) ?_ ?_ ?_); rfl; rfl))
            refine bodyPost_ret (results_row Tryd.results17 rowTT rfl ((hTF.on hbW).row _) rfl) rfl ?_
            exact ⟨below_rowSet (by rw [hb]; exact hbF.trans (hbW.mono hsF)) (Nat.le_of_eq hb) _, .inl ⟨er, 0, 0, ⟨#[]⟩, 0, 0, HX.out, rfl⟩⟩
end Go.Proofs.YtmbmeidkmhajbaaDoor.V

