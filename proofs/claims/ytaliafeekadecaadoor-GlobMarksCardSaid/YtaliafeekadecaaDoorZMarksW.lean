/- The statement GlobMarks, walked. -/
import Derived.Test.YtaliafeekadecaaDoorZAlive
import Derived.Test.YtaliafeekadecaaDoorZWords
namespace Go.Proofs.YtaliafeekadecaaDoor.Z
open Go.RowKit Go.Shelf Go.Sort
open V (Lies OwnL RowL reg)
set_option maxRecDepth 100000

theorem at_in (a : Int) (n : Nat) (hn : n ≤ 1000) : ∃ k : Nat, (wrap64 (wrap64 (a.tmod ((n : Int) + 1) + (n : Int)) + 1)).tmod ((n : Int) + 1) = (k : Int) ∧ k ≤ n := by
  have h1 := Int.tmod_lt_of_pos a (show (0 : Int) < (n : Int) + 1 by omega)
  have h2 := Int.lt_tmod_of_pos a (show (0 : Int) < (n : Int) + 1 by omega)
  generalize a.tmod ((n : Int) + 1) = t at *
  have e1 : wrap64 (t + (n : Int)) = t + n := by unfold wrap64; omega
  have e2 : wrap64 (t + (n : Int) + 1) = t + n + 1 := by unfold wrap64; omega
  rw [e1, e2]
  have h3 := Int.tmod_lt_of_pos (t + (n : Int) + 1) (show (0 : Int) < (n : Int) + 1 by omega)
  have h4 := Int.tmod_nonneg (a := t + (n : Int) + 1) ((n : Int) + 1) (by omega)
  exact ⟨((t + (n : Int) + 1).tmod ((n : Int) + 1)).toNat, by omega, by omega⟩
theorem rep_marks : ∀ n : Nat, Lib.repeatL [63] n = List.replicate n (63 : UInt8) := by
  intro n
  induction n with
  | zero => rfl
  | succ n ih =>
    rw [List.replicate_succ, ← ih]
    rfl
theorem app_list (a b : ByteArray) : (a ++ b).data.toList = a.data.toList ++ b.data.toList := by rw [ByteArray.data_append, Array.toList_append]
theorem app_len (a b : ByteArray) : (a ++ b).size = a.size + b.size := by rw [← list_len, app_list, List.length_append, list_len, list_len]
theorem matchP_true {m p : List UInt8} (h1 : rightG true m = true) (h2 : rightG false p = true) (h3 : matchG m p = true) : matchP m p = true := by unfold matchP; rw [h1, h2, h3]; rfl
theorem matchP_false {m p : List UInt8} (h : matchG m p = false) : matchP m p = false := by unfold matchP; rw [h, Bool.and_false, Bool.and_false]
theorem saysM {b : Bool} {W : World} (m p : ByteArray) (hm : m.size ≤ 1000000) (hp : p.size ≤ 1000000) (h : matchP m.data.toList p.data.toList = b) :
    ∀ d os, Calls Tryd.prog 13 #[.string m, .string p] (grow (redrawn W d) os) fun e w'' => e = .returned (.bool b) ∧ ∃ q : Regrown, w'' = grow (redrawn W q.d) q.os :=
  reg (W := W) (fun w _ => by have h2 := match_any m p w hm hp; rw [h] at h2; exact h2)
set_option maxHeartbeats 6400000 in
theorem marks_walk (x : ByteArray) (a : Int) (W : World) : Calls Tryd.prog 5 #[.string x, .int .i64 a] W fun e w' => e = .returned (.bool true) ∧ Below W.heap.size W w' := by
  have HA := Lib.hid alive_any
  go_enter Tryd.func5, Tryd.ntmps5
  go_upto_region 2 with fail
  have hP9 := cut_size x 90 (by decide)
  generalize x.extract 0 (min (x.size : Int) 90).toNat = P at *
  have hPs : P.size ≤ 90 := by omega
  have HR := Lib.hid (fun (w : World) => refRight_any P false w (by omega))
  have HC := Lib.hid (fun (w : World) => Tryd.strings_Contains_one P 47 w)
  cases hr : rightG false P.data.toList with
  | false =>
    rw [hr] at HR
    go_wp2_with (first
      | (go_at_call 8; refine (HR.out _).mono ?_; rintro e w1 ⟨rfl, hb1⟩)
      | (go_at_call 14; refine (HA.out _).mono ?_; rintro e w2 ⟨rfl, hb2⟩))
    go_ret
    exact ⟨rfl, hb1.trans (hb2.mono hb1.size)⟩
  | true =>
    rw [hr] at HR
    rcases slash_at P with hsl | ⟨hsl, hno⟩
    · rw [hsl] at HC
      go_wp2_with (first
        | (go_at_call 8; refine (HR.out _).mono ?_; rintro e w1 ⟨rfl, hb1⟩)
        | (go_at_call 18; refine (HC.out _).mono ?_; rintro e w3 ⟨rfl, rfl⟩)
        | (go_at_call 14; refine (HA.out _).mono ?_; rintro e w2 ⟨rfl, hb2⟩))
      go_ret
      exact ⟨rfl, hb1.trans (hb2.mono hb1.size)⟩
    · rw [hsl] at HC
      have HN := Lib.hid hno
      have HV := Lib.hid hr
      clear hsl hno hr
      go_upto_region 6 with (first
        | (go_at_call 8; refine (HR.out _).mono ?_; rintro e w1 ⟨rfl, hb1⟩)
        | (go_at_call 18; refine (HC.out _).mono ?_; rintro e w3 ⟨rfl, rfl⟩)
        | (go_at_call 14; refine (HA.out _).mono ?_; rintro e w2 ⟨rfl, hb2⟩))
      obtain ⟨k, hk, hkn⟩ := at_in a P.size (by omega)
      rw [hk]
      clear hk
      obtain ⟨MK, hMKe⟩ : ∃ MK : ByteArray, (⟨(Lib.repeatL (⟨#[63]⟩ : ByteArray).data.toList P.size).toArray⟩ : ByteArray) = MK := ⟨_, rfl⟩
      have hMK : MK.data.toList = List.replicate P.size 63 := by rw [← hMKe]; exact rep_marks P.size
      have HRp := Lib.hid (fun (w : World) => by have h := Tryd.strings_Repeat ⟨#[63]⟩ P.size w (by omega) (by show 1 * P.size ≤ _; omega); rw [hMKe] at h; exact h)
      clear hMKe
      go_upto_region 7 with (go_at_call 15; refine (HRp.out _).mono ?_; rintro e w4 ⟨rfl, hb4⟩)
      have hb := (hb1.trans (hb2.mono hb1.size)).trans (hb4.mono (Nat.le_trans hb1.size hb2.size))
      have hMs : MK.size = P.size := by rw [← list_len, hMK, List.length_replicate]
      have hlP := list_len P
      have hl100 : P.data.toList.length ≤ 100 := by omega
      have hne : 0 < P.size := by
        have := right_not_nil HV.out
        rcases Nat.eq_zero_or_pos P.size with h | h
        · exact absurd (List.eq_nil_of_length_eq_zero (by omega)) this
        · exact h
      have hsplit : P.data.toList = (P.extract 0 k).data.toList ++ (P.extract k P.size).data.toList := by rw [take_data, extract_list, List.take_append_drop]
      have hs1 : (P.extract 0 k).size ≤ P.size := by simp only [ByteArray.size_extract]; omega
      have hs2 : (P.extract k P.size).size ≤ P.size := by simp only [ByteArray.size_extract]; omega
      have r1 := Lib.hid (saysM (W := w4) (b := true) MK P (by omega) (by omega) (by rw [hMK, ← hlP]; exact matchP_true (marks_self HV.out HN.out hl100).1 HV.out (marks_self HV.out HN.out hl100).2))
      have r2 := Lib.hid (saysM (W := w4) (b := false) (MK ++ ⟨#[63]⟩) P (by rw [app_len, hMs]; show P.size + 1 ≤ _; omega) (by omega) (matchP_false (by rw [app_list, hMK, show (⟨#[63]⟩ : ByteArray).data.toList = [63] from rfl, ← List.replicate_succ']; exact marks_other HN.out (by omega))))
      obtain ⟨A, hA⟩ : ∃ A, P.extract 0 k = A := ⟨_, rfl⟩
      obtain ⟨C, hC⟩ : ∃ C, P.extract k P.size = C := ⟨_, rfl⟩
      rw [hA] at hsplit hs1
      rw [hC] at hsplit hs2
      have r4 := Lib.hid (saysM (W := w4) (b := true) (A ++ ⟨#[42, 42, 42]⟩) P (by rw [app_len]; show _ + 3 ≤ _; omega) (by omega) (by
        have h := stars_between HV.out HN.out hl100 3 A.data.toList C.data.toList [] (by rw [List.append_nil]; exact hsplit) (by decide) (by decide)
        rw [app_list, show (⟨#[42, 42, 42]⟩ : ByteArray).data.toList = List.replicate 3 42 ++ [] from rfl]
        exact matchP_true h.1 HV.out h.2))
      have r5 := Lib.hid (saysM (W := w4) (b := true) (⟨#[42, 42]⟩ ++ C) P (by rw [app_len]; show 2 + _ ≤ _; omega) (by omega) (by
        have h := stars_between HV.out HN.out hl100 2 [] A.data.toList C.data.toList hsplit (by decide) (by decide)
        rw [app_list, show (⟨#[42, 42]⟩ : ByteArray).data.toList = List.replicate 2 42 from rfl]
        exact matchP_true h.1 HV.out h.2))
      obtain ⟨D, hD⟩ : ∃ D, A ++ ⟨#[42]⟩ = D := ⟨_, rfl⟩
      have hDs : D.size = A.size + 1 := by rw [← hD, app_len]; rfl
      have r6 := Lib.hid (saysM (W := w4) (b := true) (D ++ C) P (by rw [app_len]; omega) (by omega) (by
        have h := stars_between HV.out HN.out hl100 1 A.data.toList [] C.data.toList hsplit (by decide) (by decide)
        rw [app_list, ← hD, app_list, show (⟨#[42]⟩ : ByteArray).data.toList = List.replicate 1 42 from rfl, List.append_assoc]
        exact matchP_true h.1 HV.out h.2))
      have s1 : ¬ 9223372036854775807 < MK.size + 1 := by omega
      have s2 : ¬ 9223372036854775807 < A.size + 3 := by omega
      have s3 : ¬ 9223372036854775807 < 2 + C.size := by omega
      have s4 : ¬ 9223372036854775807 < A.size + 1 := by omega
      have s5 : ¬ 9223372036854775807 < D.size + C.size := by omega
      have t1 : (⟨#[63]⟩ : ByteArray).size = 1 := rfl
      have t2 : (⟨#[42, 42, 42]⟩ : ByteArray).size = 3 := rfl
      have t3 : (⟨#[42, 42]⟩ : ByteArray).size = 2 := rfl
      have t4 : (⟨#[42]⟩ : ByteArray).size = 1 := rfl
      clear hDs
      have h1k : (0 : Int) ≤ (k : Int) ∧ (k : Int) ≤ (P.size : Int) := by omega
      have h1M : (1 : Int) ≤ (MK.size : Int) := by omega
      by_cases hone : P.size = 1
      · have e1 : ((P.size : Int) == 1) = true := by rw [hone]; rfl
        have r3 := r1
        clear hone
        clear hsplit hs1 hs2 hMK hMs
        refine wp_region_quiet_below (by kernel_rfl) (by kernel_rfl) ?_
        repeat (go_big_quiet_step (first | with_reducible exact r1.out _ _ | with_reducible exact r2.out _ _ | with_reducible exact r3.out _ _ | with_reducible exact r4.out _ _ | with_reducible exact r5.out _ _ | with_reducible exact r6.out _ _))
        refine wpQuiet_nil ?_
        intro _ hw'
        obtain ⟨⟨dq, osq⟩, hw''⟩ := hw'
        subst hw''
        have hbb := below_regrown w4 dq osq
        go_wp2
        go_ret
        exact ⟨rfl, hb.trans (hbb.mono hb.size)⟩
      · have e1 : ((P.size : Int) == 1) = false := by rw [beq_eq_false_iff_ne]; omega
        have r3 := Lib.hid (saysM (W := w4) (b := false) (MK.extract 1 MK.size) P (by simp only [ByteArray.size_extract]; omega) (by omega) (matchP_false (by rw [extract_list, hMK, List.drop_replicate]; exact marks_other HN.out (by omega))))
        clear hsplit hs1 hs2 hMK hMs
        refine wp_region_quiet_below (by kernel_rfl) (by kernel_rfl) ?_
        repeat (go_big_quiet_step (first | with_reducible exact r1.out _ _ | with_reducible exact r2.out _ _ | with_reducible exact r3.out _ _ | with_reducible exact r4.out _ _ | with_reducible exact r5.out _ _ | with_reducible exact r6.out _ _))
        refine wpQuiet_nil ?_
        intro _ hw'
        obtain ⟨⟨dq, osq⟩, hw''⟩ := hw'
        subst hw''
        have hbb := below_regrown w4 dq osq
        go_wp2
        go_ret
        exact ⟨rfl, hb.trans (hbb.mono hb.size)⟩
end Go.Proofs.YtaliafeekadecaaDoor.Z
