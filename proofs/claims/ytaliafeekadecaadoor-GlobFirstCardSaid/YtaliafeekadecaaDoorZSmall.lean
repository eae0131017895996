/- The developers' small functions: whether a part is of these bytes; whether one pattern's part has it; a text cut at its first slash. -/
import Derived.Test.YtaliafeekadecaaDoorBase
import Derived.Test.YtaliafeekadecaaDoorZMath
import Derived.Test.YtaliafeekadecaaDoorShelfI
import Derived.Test.YtaliafeekadecaaDoorShelfC
import Derived.Test.YtaliafeekadecaaDoorShelfT
import Derived.Deep.Cut
import Derived.Deep.QuietTactic
import Derived.BigQuiet
import Derived.Lib.Hide
import Derived.Below
namespace Go.Proofs.YtaliafeekadecaaDoor.Z
open Go.RowKit
set_option maxRecDepth 100000

theorem below_drawn {B : Nat} {a w : World} (h : Below B a w) (n : Nat) : Below B a (w.drewN n) := ⟨h.os, h.tape, h.output, h.size, h.block⟩
theorem data_list (s : ByteArray) : (⟨s.data.toList.toArray⟩ : ByteArray) = s := by cases s; rfl
theorem list_len (s : ByteArray) : s.data.toList.length = s.size := Array.length_toList
theorem at_data {s : ByteArray} {k : Nat} (h : k < s.size) : s.data.toList[k]? = some s[k] := by
  rw [List.getElem?_eq_getElem (by rw [list_len]; exact h)]
  rfl
theorem ixB (t : ByteArray) (c : UInt8) (w : World) : Calls Tryd.prog 58 #[.string t, .int .u8 (c.toNat : Int)] w fun e w' => e = .returned (.int .i64 (Lib.indexByte t.data.toList c)) ∧ w' = w := by
  have h := Tryd.strings_IndexByte t (c.toNat : Int) w
  rw [show ((c.toNat : Int).toNat.toUInt8) = c by simp] at h
  exact h
set_option maxHeartbeats 1600000 in
theorem isOf_any (s t : ByteArray) (w : World) (hs : s.size ≤ 1000000) : Calls Tryd.prog 44 #[.string s, .string t] w fun e w' => e = .returned (.bool (s.data.toList.all fun c => decide (0 ≤ Lib.indexByte t.data.toList c))) ∧ w' = w := by
  have hl := list_len s
  obtain ⟨R, hR⟩ : ∃ R, (s.data.toList.all fun c => decide (0 ≤ Lib.indexByte t.data.toList c)) = R := ⟨_, rfl⟩
  rw [hR]
  go_enter Tryd.func44, Tryd.ntmps44
  have hR := Lib.hid hR
  go_wp2
  go_loopw [5, 8] (fun _ iv wr => ∃ k : Nat, iv = .int .i64 k ∧ k ≤ s.size ∧ Hid (R = ((s.data.toList.drop k).all fun c => decide (0 ≤ Lib.indexByte t.data.toList c))) ∧ wr = w) (fun _ iv _ => s.size - (intOf iv).toNat)
  case atStart => exact ⟨0, rfl, Nat.zero_le _, Lib.hid (by rw [List.drop_zero]; exact hR.out.symm), rfl⟩
  case round =>
    obtain ⟨k, rfl, hk, HS, rfl⟩ := hrel
    by_cases hlt : k < s.size
    · have h1 : (k : Int) < (s.size : Int) := by omega
      have hS := HS.out
      rw [List.drop_eq_getElem_cons (by omega), List.all_cons, show s.data.toList[k]'(by omega) = s[k] from rfl] at hS
      by_cases hb : Lib.indexByte t.data.toList s[k] < 0
      · rw [decide_eq_false (by omega), Bool.false_and] at hS
        have HS2 := Lib.hid hS
        clear HS hS
        go_wp2_with (go_at_call 58; refine (ixB _ _ _).mono ?_; rintro e w1 ⟨rfl, rfl⟩)
        go_ret
        exact ⟨by rw [HS2.out]; rfl, rfl⟩
      · rw [decide_eq_true (by omega), Bool.true_and] at hS
        have HS2 := Lib.hid hS
        clear HS hS
        go_wp2_with (go_at_call 58; refine (ixB _ _ _).mono ?_; rintro e w1 ⟨rfl, rfl⟩)
        go_roundw
        case rel => exact ⟨k + 1, by go_num, by omega, HS2, trivial⟩
        case measure => simp [intOf]; omega
    · obtain rfl : k = s.size := by omega
      have h1 : ¬ ((s.size : Int) < (s.size : Int)) := by omega
      have HS2 := Lib.hid (show R = true by rw [HS.out, List.drop_eq_nil_of_le (by omega)]; rfl)
      clear HS
      go_wp2
      go_ret
      exact ⟨by rw [HS2.out]; rfl, rfl⟩

/-! ### one part of one pattern's part -/
def starI : Option Nat → Int
  | none => -1
  | some t => (t : Int)
def meas (M S a n k : Nat) : Nat := (S - k) * (M + S + 2) + (M - a) + (S - n)
theorem meas_star {M S a n k : Nat} (h : a < M) (hk : k ≤ n) : meas M S (a + 1) n n < meas M S a n k := by
  unfold meas
  have : (S - n) * (M + S + 2) ≤ (S - k) * (M + S + 2) := Nat.mul_le_mul_right _ (by omega)
  omega
theorem meas_fits {M S a n k : Nat} (h : a < M) : meas M S (a + 1) (n + 1) k < meas M S a n k := by
  unfold meas
  omega
theorem meas_more {M S a n k t : Nat} (h : k < S) : meas M S (t + 1) (k + 1) (k + 1) < meas M S a n k := by
  unfold meas
  have : (S - k) * (M + S + 2) = (S - (k + 1)) * (M + S + 2) + (M + S + 2) := by
    rw [show S - k = S - (k + 1) + 1 by omega, Nat.add_mul, Nat.one_mul]
  omega
theorem byte_neI {a b : UInt8} (h : a ≠ b) : ((a.toNat : Int) == (b.toNat : Int)) = false := by
  rw [beq_eq_false_iff_ne]
  intro e
  exact h (UInt8.toNat_inj.1 (by omega))
theorem trimB_nil (l : List UInt8) (c : UInt8) : (Lib.trimB l c).isEmpty = l.all (fun x => decide (x = c)) := by
  unfold Lib.trimB Lib.trimLeftB Lib.trimRightB
  have h1 : ∀ m : List UInt8, (m.dropWhile (· == c)).isEmpty = m.all (fun x => decide (x = c)) := by
    intro m
    induction m with
    | nil => rfl
    | cons x m ih =>
      rw [List.dropWhile_cons, List.all_cons]
      by_cases hx : x = c
      · rw [if_pos (by simp [hx]), ih, decide_eq_true hx, Bool.true_and]
      · rw [if_neg (by simp [hx]), decide_eq_false hx]
        rfl
  rw [h1, List.all_reverse]
  have h2 : ∀ m : List UInt8, (m.dropWhile (· == c)).all (fun x => decide (x = c)) = m.all (fun x => decide (x = c)) := by
    intro m
    induction m with
    | nil => rfl
    | cons x m ih =>
      rw [List.dropWhile_cons, List.all_cons]
      by_cases hx : x = c
      · rw [if_pos (by simp [hx]), ih, decide_eq_true hx, Bool.true_and]
      · rw [if_neg (by simp [hx]), List.all_cons]
  rw [h2, List.all_reverse]
theorem extract_list (M : ByteArray) (a : Nat) : (M.extract a M.size).data.toList = M.data.toList.drop a := by
  rw [ByteArray.data_extract, Array.toList_extract, List.extract_eq_take_drop]
  apply List.take_of_length_le
  rw [List.length_drop, Array.length_toList]
  exact Nat.le_refl _
theorem trim_any (M : ByteArray) (a : Nat) (w : World) (hM : M.size ≤ 1000000) : Calls Tryd.prog 56 #[.string (M.extract a M.size), .string ⟨#[42]⟩] w fun e w' => ∃ l : List UInt8, e = .returned (.string ⟨l.toArray⟩) ∧ l.isEmpty = ((M.data.toList.drop a).all fun x => decide (x = 42)) ∧ Below w.heap.size w w' := by
  refine (Tryd.strings_Trim_one (M.extract a M.size) 42 (by decide) w ?_).mono ?_
  · have : (M.extract a M.size).size ≤ M.size := by simp [ByteArray.size_extract]
    omega
  · rintro e w' ⟨rfl, hw⟩
    refine ⟨_, rfl, by rw [extract_list, trimB_nil], ?_⟩
    rcases hw with rfl | rfl
    · exact Below.refl _ _
    · exact (Below.refl _ _).drew
set_option maxHeartbeats 6400000 in
theorem covers_any (M S : ByteArray) (w : World) (hM : M.size ≤ 1000000) (hS : S.size ≤ 1000000) : Calls Tryd.prog 42 #[.string M, .string S] w fun e w' => e = .returned (.bool (gm M.data.toList S.data.toList)) ∧ Below w.heap.size w w' := by
  have hlM := list_len M
  have hlS := list_len S
  obtain ⟨R, hR0⟩ : ∃ R, gm M.data.toList S.data.toList = R := ⟨_, rfl⟩
  rw [hR0]
  have hR := Lib.hid hR0
  clear hR0
  go_enter Tryd.func42, Tryd.ntmps42
  go_wp2
  go_loopw [5, 6, 7, 8] (fun av sv tv nv wr => ∃ (a n k : Nat) (st : Option Nat), av = .int .i64 a ∧ sv = .int .i64 (starI st) ∧ tv = .int .i64 k ∧ nv = .int .i64 n ∧ Hid (At M.data.toList S.data.toList a n st k) ∧ Below w.heap.size w wr) (fun av _ tv nv _ => meas M.size S.size (intOf av).toNat (intOf nv).toNat (intOf tv).toNat)
  case atStart => exact ⟨0, 0, 0, none, rfl, rfl, rfl, rfl, Lib.hid (At.start _ _), Below.refl _ _⟩
  case round =>
    obtain ⟨a, n, k, st, rfl, rfl, rfl, rfl, HA, hb⟩ := hrel
    have ha : a ≤ M.size := by have := HA.out.ha; omega
    have hn : n ≤ S.size := by have := HA.out.hn; omega
    have hk : k ≤ n := by
      cases st with
      | none => have := (HA.out.plain rfl).2; omega
      | some t => exact (HA.out.whole t rfl).2.2.1
    by_cases hlt : n < S.size
    case neg =>
      obtain rfl : n = S.size := by omega
      have h1 : ¬ ((S.size : Int) < (S.size : Int)) := by omega
      have h2 : (0 : Int) ≤ (a : Int) ∧ (a : Int) ≤ (M.size : Int) := by omega
      have HX := Lib.hid (show R = ((M.data.toList.drop a).all fun c => decide (c = 42)) by
        rw [← hR.out]
        have := HA.out
        rw [← hlS] at this
        exact this.done)
      clear HA hR
      go_wp2_with (go_at_call 56; refine (trim_any M a _ hM).mono ?_; rintro e w1 ⟨l, rfl, hl, hb1⟩)
      go_ret
      exact ⟨by rw [HX.out]; rfl, hb.trans (hb1.mono hb.size)⟩
    have h1 : (n : Int) < (S.size : Int) := by omega
    have hsn := at_data hlt
    by_cases ham : a < M.size
    case pos =>
      have h2 : (a : Int) < (M.size : Int) := by omega
      have hma := at_data ham
      by_cases h42 : M[a] = 42
      · have e42 : ((M[a].toNat : Int) == 42) = true := by rw [h42]; rfl
        have HB := Lib.hid (HA.out.star (by rw [hma, h42]))
        clear HA hma hsn
        go_wp2
        go_roundw
        case rel => exact ⟨a + 1, n, n, some a, by go_num, rfl, rfl, rfl, HB, hb⟩
        case measure => simp [intOf]; exact meas_star ham hk
      · have e42 : ((M[a].toNat : Int) == 42) = false := byte_neI h42
        by_cases hf : M[a] = 63 ∨ M[a] = S[n]
        · have HB := Lib.hid (HA.out.fits hma hsn h42 hf)
          by_cases h63 : M[a] = 63
          · have e63 : ((M[a].toNat : Int) == 63) = true := by rw [h63]; rfl
            clear HA hma hsn hf
            go_upto_region 8 with fail
            go_quiet (fail)
            go_wp2
            go_roundw
            case rel => exact ⟨a + 1, n + 1, k, st, by go_num, rfl, rfl, by go_num, HB, below_drawn hb _⟩
            case measure => simp [intOf]; exact meas_fits ham
          · have e63 : ((M[a].toNat : Int) == 63) = false := byte_neI h63
            have eb : ((M[a].toNat : Int) == (S[n].toNat : Int)) = true := by rw [hf.resolve_left h63]; exact beq_self_eq_true _
            clear HA hma hsn hf
            go_upto_region 8 with fail
            go_quiet (fail)
            go_wp2
            go_roundw
            case rel => exact ⟨a + 1, n + 1, k, st, by go_num, rfl, rfl, by go_num, HB, below_drawn hb _⟩
            case measure => simp [intOf]; exact meas_fits ham
        · have hno : ∀ c, M.data.toList[a]? = some c → c ≠ 42 ∧ c ≠ 63 ∧ c ≠ S[n] := fun c hc => by
            rw [hma] at hc
            cases hc
            exact ⟨h42, fun e => hf (.inl e), fun e => hf (.inr e)⟩
          have e63 : ((M[a].toNat : Int) == 63) = false := byte_neI (fun e => hf (.inl e))
          have eb : ((M[a].toNat : Int) == (S[n].toNat : Int)) = false := byte_neI (fun e => hf (.inr e))
          cases st with
          | none =>
            have HB := Lib.hid (show R = false by rw [← hR.out]; exact HA.out.none hsn hno)
            clear HA hma hsn hf hno hR
            simp only [starI]
            go_upto_region 8 with fail
            go_quiet (fail)
            go_wp2
            go_ret
            exact ⟨by rw [HB.out]; rfl, below_drawn hb _⟩
          | some t =>
            have HB := Lib.hid (HA.out.more hsn hno)
            have ht : t < a := (HA.out.whole t rfl).1
            have htI : (0 : Int) ≤ (t : Int) := by omega
            clear HA hma hsn hf hno
            simp only [starI]
            go_upto_region 8 with fail
            go_quiet (fail)
            go_wp2
            go_roundw
            case rel => exact ⟨t + 1, k + 1, k + 1, some t, by go_num, rfl, by go_num, by go_num, HB, below_drawn hb _⟩
            case measure => simp [intOf]; exact meas_more (by omega)
    case neg =>
      have h2 : ¬ ((a : Int) < (M.size : Int)) := by omega
      have hno : ∀ c, M.data.toList[a]? = some c → c ≠ 42 ∧ c ≠ 63 ∧ c ≠ S[n] := fun c hc => by
        rw [List.getElem?_eq_none (by omega)] at hc
        cases hc
      cases st with
      | none =>
        have HB := Lib.hid (show R = false by rw [← hR.out]; exact HA.out.none hsn hno)
        clear HA hsn hno hR
        simp only [starI]
        go_upto_region 8 with fail
        go_quiet (fail)
        go_wp2
        go_ret
        exact ⟨by rw [HB.out]; rfl, below_drawn hb _⟩
      | some t =>
        have HB := Lib.hid (HA.out.more hsn hno)
        have ht : t < a := (HA.out.whole t rfl).1
        have htI : (0 : Int) ≤ (t : Int) := by omega
        clear HA hsn hno
        simp only [starI]
        go_upto_region 8 with fail
        go_quiet (fail)
        go_wp2
        go_roundw
        case rel => exact ⟨t + 1, k + 1, k + 1, some t, by go_num, rfl, by go_num, by go_num, HB, below_drawn hb _⟩
        case measure => simp [intOf]; exact meas_more (by omega)
end Go.Proofs.YtaliafeekadecaaDoor.Z
