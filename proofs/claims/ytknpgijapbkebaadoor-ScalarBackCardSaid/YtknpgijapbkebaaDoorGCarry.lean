/- The contracts of the scalars' sums and differences of four words, and of a product of two words with two more. -/
import Derived.Test.YtknpgijapbkebaaDoorFLimbs
import Derived.Test.YtknpgijapbkebaaDoorFMulMath
import Derived.Test.YtknpgijapbkebaaDoorGBits
import Derived.Test.YtknpgijapbkebaaDoorShelf
import Derived.StillTailTactics
import Derived.Outline
import Derived.Deep.RegionWith
import Derived.BigRegion
namespace Go.Proofs.YtknpgijapbkebaaDoor.F
set_option maxRecDepth 100000
open Go.RowKit
attribute [local irreducible] feA

theorem wordsL_at (n i : Nat) (h : i < 4) : ((wordsL n).map w64).toArray[i]? = some (w64 ((wordsL n).getD i 0)) := by
  match i, h with
  | 0, _ | 1, _ | 2, _ | 3, _ => rfl
/-- one word of a sum, laid where the word was -/
theorem set_sum {l : List Nat} {i s x y c q A : Nat} (hl : i < l.length) (hx : l.getD i 0 = x) (h : valK l + 18446744073709551616 ^ i * c = A) (hs : s + 18446744073709551616 * q = x + y + c) :
    valK (l.set i s) + 18446744073709551616 ^ (i + 1) * q = A + 18446744073709551616 ^ i * y := by
  have h1 := valK_set l i s hl
  rw [hx] at h1
  have h2 : 18446744073709551616 ^ i * s + 18446744073709551616 ^ (i + 1) * q = 18446744073709551616 ^ i * x + 18446744073709551616 ^ i * y + 18446744073709551616 ^ i * c := by
    rw [Nat.pow_succ, Nat.mul_assoc, ← Nat.mul_add, hs, Nat.mul_add, Nat.mul_add]
  omega
/-- .. of a difference -/
theorem set_diff {l : List Nat} {i s x y c q A B : Nat} (hl : i < l.length) (hx : l.getD i 0 = x) (h : valK l + B = A + 18446744073709551616 ^ i * c) (hs : s + y + c = x + 18446744073709551616 * q) :
    valK (l.set i s) + (B + 18446744073709551616 ^ i * y) = A + 18446744073709551616 ^ (i + 1) * q := by
  have h1 := valK_set l i s hl
  rw [hx] at h1
  have h2 : 18446744073709551616 ^ i * s + 18446744073709551616 ^ i * y + 18446744073709551616 ^ i * c = 18446744073709551616 ^ i * x + 18446744073709551616 ^ (i + 1) * q := by
    rw [Nat.pow_succ, Nat.mul_assoc, ← Nat.mul_add, ← Nat.mul_add, ← Nat.mul_add, hs]
  omega

set_option maxRecDepth 100000 in
set_option maxHeartbeats 1600000 in
theorem plus_words (m n : Nat) (W : World) (hm : m < K256) (hn : n < K256) :
    Calls Tryd.prog 24 #[fe m, fe n] W fun e w' => e = .returned (.tuple #[fe ((m + n) % K256), w64 ((m + n) / K256)]) ∧ Below W.heap.size W w' := by
  have hmv := Lib.hid (wordsL_val hm)
  have hnv := Lib.hid (wordsL_val hn)
  have wm := wordsL_wd m
  have wn := wordsL_wd n
  rw [fe, fe, feA_wordsL m, feA_wordsL n]
  have hna := wordsL_at n
  have hml : (wordsL m).length = 4 := rfl
  have hnl : (wordsL n).length = 4 := rfl
  obtain ⟨Y, hY⟩ : ∃ Y, ((wordsL n).map w64).toArray = Y := ⟨_, rfl⟩
  rw [hY] at hna ⊢
  clear hY
  generalize hxs : wordsL m = xs at *
  generalize hys : wordsL n = ys at *
  clear hxs hys hm hn
  go_enter Tryd.func24, Tryd.ntmps24
  have hx := ((Lies.new W 24 (xs.map w64).toArray).alloc (.cells Y 24)).alloc (.cells fe0A 24)
  have hy : Lies ((W.alloc (.cells (xs.map w64).toArray 24)).alloc (.cells Y 24)) (W.heap.size + 1) 24 Y := heap_alloc2_new W _ _
  replace hy := hy.alloc (.cells fe0A 24)
  have hr := lies3 W (.cells (xs.map w64).toArray 24) (.cells Y 24) 24 fe0A
  have hB := (((Below.refl W.heap.size W).alloc (Nat.le_refl _) (.cells (xs.map w64).toArray 24)).alloc (by simp) (.cells Y 24)).alloc (by simp; omega) (.cells fe0A 24)
  go_upto_region 1 with fail
  generalize World.alloc (World.alloc (World.alloc W _) _) _ = w0 at *
  go_wp2_with fail
  go_loopw [6, 8] (fun cx ix wr => ∃ (i c : Nat) (l : List Nat), i ≤ 4 ∧ ix = .int .i64 i ∧ cx = w64 c ∧ c ≤ 1 ∧ l.length = 4 ∧ Wd l ∧ Hid (valK l + 18446744073709551616 ^ i * c = valK xs + valK (ys.take i)) ∧ Lies wr W.heap.size 24 (l.map w64).toArray ∧ Lies wr (W.heap.size + 1) 24 Y ∧ Lies wr (W.heap.size + 2) 24 fe0A ∧ Below W.heap.size W wr) (fun _ ix _ => 4 - (intOf ix).toNat)
  case atStart => exact ⟨0, 0, xs, by omega, rfl, rfl, by omega, hml, wm, Lib.hid rfl, hx, hy, hr, hB⟩
  case round =>
    clear hx hy hr hB
    obtain ⟨i, c, l, hi, rfl, rfl, hc, hl, hw, HV, hx, hy, hr, hB⟩ := hrel
    by_cases hlt : i < 4
    · have cx := (hx.cell i).trans (listA_at l i (by omega))
      have fx := hx.frozen i
      have cy := (hy.cell i).trans (hna i hlt)
      have bx := hw.at i
      have b_y := wn.at i
      have HP := Lib.hid (fun x => listA_set l i x)
      have HY := Lib.hid (valK_take_succ ys i)
      have HW := Lib.hid hw
      have HSt := Lib.hid (fun (s q x y : Nat) (hx : l.getD i 0 = x) => @set_sum l i s x y c q _ (by omega) hx HV.out)
      clear hw
      generalize hlx : l.getD i 0 = x at *
      generalize ys.getD i 0 = y at *
      have hadd := add64_run x y c hc
      have hsq : (x + y + c) % 18446744073709551616 + 18446744073709551616 * ((x + y + c) / 18446744073709551616) = x + y + c := Nat.mod_add_div _ _
      obtain ⟨s, hs⟩ : ∃ s, (x + y + c) % 18446744073709551616 = s := ⟨_, rfl⟩
      obtain ⟨q, hq⟩ : ∃ q, (x + y + c) / 18446744073709551616 = q := ⟨_, rfl⟩
      have hsK : s < 18446744073709551616 := by omega
      have hq1 : q ≤ 1 := by omega
      rw [hs, hq] at hadd hsq
      have HS := Lib.hid (HSt.out s q x y rfl hsq)
      clear hs hq bx b_y hsq HSt hlx
      have hi4 : (i : Int) < 4 := by omega
      go_upto_region 5 with fail
      go_region_with (fail)
      all_goals
        go_wp2_with fail
        go_roundw
        case rel => exact ⟨i + 1, q, l.set i s, by omega, by go_num, rfl, hq1, by rw [List.length_set]; exact hl, HW.out.set i hsK, Lib.hid (by rw [HY.out, ← Nat.add_assoc]; exact HS.out), by rw [← HP.out]; exact (hx.put i _).drew, (hy.far (by simp only; omega) _).drew, (hr.far (by simp only; omega) _).drew, (below_put hB (by omega) _ _).drew⟩
        case measure => simp [intOf]; omega
    · obtain rfl : i = 4 := by omega
      obtain ⟨hwe, hwK⟩ := words_feA l hl hw
      rw [hwe] at hx
      have hv := HV.out
      rw [List.take_of_length_le (by omega), hmv.out, hnv.out, show (18446744073709551616 : Nat) ^ 4 = K256 by decide] at hv
      have hvm : valK l = (m + n) % K256 := by rw [← hv, Nat.add_mul_mod_self_left, Nat.mod_eq_of_lt hwK]
      have hvd : c = (m + n) / K256 := by rw [← hv, Nat.add_mul_div_left _ _ (by decide), Nat.div_eq_of_lt hwK, Nat.zero_add]
      have HVM := Lib.hid hvm
      have HVD := Lib.hid hvd
      clear hv hvm hvd hwK hwe HV hw
      generalize valK l = V at *
      go_wp2_with (first
        | ((with_reducible refine wpL_load W.heap.size 24 (feA V) 4 rowFe (feA_size _) hx ?_ ?_); rfl)
        | ((with_reducible refine wpL_store (W.heap.size + 1 + 1) 24 _ (feA V) 4 rowFe rfl (feA_size _) (feA_one _) hr ?_ ?_ ?_); rfl; rfl))
      exact bodyPost_ret (results_row_tmp Tryd.results24 rowFe (feA_size _) (hr.row _) rfl rfl) rfl ⟨by rw [← HVM.out, ← HVD.out]; rfl, below_rowSet hB (by omega) _⟩

set_option maxRecDepth 100000 in
set_option maxHeartbeats 1600000 in
theorem minus_words (m n : Nat) (W : World) (hm : m < K256) (hn : n < K256) :
    Calls Tryd.prog 38 #[fe m, fe n] W fun e w' => e = .returned (fe ((m + K256 - n) % K256)) ∧ Below W.heap.size W w' := by
  have hmv := Lib.hid (wordsL_val hm)
  have hnv := Lib.hid (wordsL_val hn)
  have wm := wordsL_wd m
  have wn := wordsL_wd n
  rw [fe, fe, feA_wordsL m, feA_wordsL n]
  have hna := wordsL_at n
  have hml : (wordsL m).length = 4 := rfl
  have hnl : (wordsL n).length = 4 := rfl
  obtain ⟨Y, hY⟩ : ∃ Y, ((wordsL n).map w64).toArray = Y := ⟨_, rfl⟩
  rw [hY] at hna ⊢
  clear hY
  generalize hxs : wordsL m = xs at *
  generalize hys : wordsL n = ys at *
  clear hxs hys
  go_enter Tryd.func38, Tryd.ntmps38
  have hx := ((Lies.new W 24 (xs.map w64).toArray).alloc (.cells Y 24)).alloc (.cells fe0A 24)
  have hy : Lies ((W.alloc (.cells (xs.map w64).toArray 24)).alloc (.cells Y 24)) (W.heap.size + 1) 24 Y := heap_alloc2_new W _ _
  replace hy := hy.alloc (.cells fe0A 24)
  have hr := lies3 W (.cells (xs.map w64).toArray 24) (.cells Y 24) 24 fe0A
  have hB := (((Below.refl W.heap.size W).alloc (Nat.le_refl _) (.cells (xs.map w64).toArray 24)).alloc (by simp) (.cells Y 24)).alloc (by simp; omega) (.cells fe0A 24)
  go_upto_region 1 with fail
  generalize World.alloc (World.alloc (World.alloc W _) _) _ = w0 at *
  go_wp2_with fail
  go_loopw [5, 7] (fun cx ix wr => ∃ (i c : Nat) (l : List Nat), i ≤ 4 ∧ ix = .int .i64 i ∧ cx = w64 c ∧ c ≤ 1 ∧ l.length = 4 ∧ Wd l ∧ Hid (valK l + valK (ys.take i) = valK xs + 18446744073709551616 ^ i * c) ∧ Lies wr W.heap.size 24 (l.map w64).toArray ∧ Lies wr (W.heap.size + 1) 24 Y ∧ Lies wr (W.heap.size + 2) 24 fe0A ∧ Below W.heap.size W wr) (fun _ ix _ => 4 - (intOf ix).toNat)
  case atStart => exact ⟨0, 0, xs, by omega, rfl, rfl, by omega, hml, wm, Lib.hid rfl, hx, hy, hr, hB⟩
  case round =>
    clear hx hy hr hB
    obtain ⟨i, c, l, hi, rfl, rfl, hc, hl, hw, HV, hx, hy, hr, hB⟩ := hrel
    by_cases hlt : i < 4
    · have cx := (hx.cell i).trans (listA_at l i (by omega))
      have fx := hx.frozen i
      have cy := (hy.cell i).trans (hna i hlt)
      have bx := hw.at i
      have b_y := wn.at i
      have HP := Lib.hid (fun x => listA_set l i x)
      have HY := Lib.hid (valK_take_succ ys i)
      have HW := Lib.hid hw
      have HSt := Lib.hid (fun (s q x y : Nat) (hx : l.getD i 0 = x) => @set_diff l i s x y c q _ _ (by omega) hx HV.out)
      clear hw
      generalize hlx : l.getD i 0 = x at *
      generalize ys.getD i 0 = y at *
      have hadd := sub64_run x y c hc
      have hsq : (x + 18446744073709551616 - y - c) % 18446744073709551616 + y + c = x + 18446744073709551616 * (if x < y + c then 1 else 0) := by
        split <;> omega
      obtain ⟨s, hs⟩ : ∃ s, (x + 18446744073709551616 - y - c) % 18446744073709551616 = s := ⟨_, rfl⟩
      obtain ⟨q, hq⟩ : ∃ q, (if x < y + c then 1 else 0) = q := ⟨_, rfl⟩
      have hsK : s < 18446744073709551616 := by rw [← hs]; exact Nat.mod_lt _ (by decide)
      have hq1 : q ≤ 1 := by rw [← hq]; split <;> omega
      rw [hs, hq] at hadd hsq
      have HS := Lib.hid (HSt.out s q x y rfl hsq)
      clear hs hq bx b_y hsq HSt hlx
      have hi4 : (i : Int) < 4 := by omega
      go_upto_region 5 with fail
      go_region_with (fail)
      all_goals
        go_wp2_with fail
        go_roundw
        case rel => exact ⟨i + 1, q, l.set i s, by omega, by go_num, rfl, hq1, by rw [List.length_set]; exact hl, HW.out.set i hsK, Lib.hid (by rw [HY.out]; exact HS.out), by rw [← HP.out]; exact (hx.put i _).drew, (hy.far (by simp only; omega) _).drew, (hr.far (by simp only; omega) _).drew, (below_put hB (by omega) _ _).drew⟩
        case measure => simp [intOf]; omega
    · obtain rfl : i = 4 := by omega
      obtain ⟨hwe, hwK⟩ := words_feA l hl hw
      rw [hwe] at hx
      have hv := HV.out
      rw [List.take_of_length_le (by omega), hmv.out, hnv.out, show (18446744073709551616 : Nat) ^ 4 = K256 by decide] at hv
      have hvm : valK l = (m + K256 - n) % K256 := by
        unfold K256 at *
        omega
      have HVM := Lib.hid hvm
      clear hv hvm hwK hwe HV hw hm hn
      generalize valK l = V at *
      go_wp2_with (first
        | ((with_reducible refine wpL_load W.heap.size 24 (feA V) 4 rowFe (feA_size _) hx ?_ ?_); rfl)
        | ((with_reducible refine wpL_store (W.heap.size + 1 + 1) 24 _ (feA V) 4 rowFe rfl (feA_size _) (feA_one _) hr ?_ ?_ ?_); rfl; rfl))
      exact bodyPost_ret (results_row Tryd.results38 rowFe (feA_size _) (hr.row _) rfl) rfl ⟨by rw [← HVM.out], below_rowSet hB (by omega) _⟩

set_option maxHeartbeats 800000 in
theorem wordTimes_any (x y a b : Nat) (hx : x < 18446744073709551616) (hy : y < 18446744073709551616) (ha : a < 18446744073709551616) (hb : b < 18446744073709551616) :
    ∃ q s : Nat, q < 18446744073709551616 ∧ s < 18446744073709551616 ∧ s + 18446744073709551616 * q = x * y + a + b ∧
      ∀ W : World, Calls Tryd.prog 26 #[.int .u64 (x : Int), .int .u64 (y : Int), .int .u64 (a : Int), .int .u64 (b : Int)] W fun e w' => e = .returned (.tuple #[.int .u64 (q : Int), .int .u64 (s : Int)]) ∧ Below W.heap.size W w' := by
  obtain ⟨h, l, l2, m1, nw, m2, e1, e2, e3, e4, e5, e6, b1, b2, b3, b4, b5, b6, hsum⟩ := mul_step hx hy ha hb
  obtain ⟨h2, hh2⟩ : ∃ h2, h + m1 = h2 := ⟨_, rfl⟩
  obtain ⟨q, hqq⟩ : ∃ q, h2 + m2 = q := ⟨_, rfl⟩
  rw [hh2, hqq] at b5 hsum
  rw [hh2] at b4
  refine ⟨q, nw, b5, b6, hsum, fun W => ?_⟩
  have HM := Lib.hid (fun w => Tryd.bits_Mul64 x y hx hy w)
  rw [e1, e2] at HM
  have hA1 : ∀ w, (callFunc 35 #[.int .u64 (l : Int), .int .u64 (a : Int), .int .u64 0]).run Tryd.prog w = .ok (.value (.tuple #[w64 l2, w64 m1])) w := fun w => by rw [← e3, ← e4]; exact add64_run l a 0 (by decide) w
  have hA2 : ∀ w, (callFunc 35 #[.int .u64 (l2 : Int), .int .u64 (b : Int), .int .u64 0]).run Tryd.prog w = .ok (.value (.tuple #[w64 nw, w64 m2])) w := fun w => by rw [← e5, ← e6, Nat.add_comm b l2]; exact add64_run l2 b 0 (by decide) w
  have hadd1 : IntKind.u64.wrap (h2 : Int) = (h2 : Int) := by rw [IntKind.wrap_u64]; omega
  have hc1 : (h : Int) + (m1 : Int) = (h2 : Int) := by omega
  have hadd2 : IntKind.u64.wrap (q : Int) = (q : Int) := by rw [IntKind.wrap_u64]; omega
  have hc2 : (h2 : Int) + (m2 : Int) = (q : Int) := by omega
  clear e1 e2 e3 e4 e5 e6 hsum hh2 hqq b1 b2 b3 b4 b5 b6 hx hy ha hb
  go_enter Tryd.func26, Tryd.ntmps26
  go_wp2_with (go_at_call 37; refine (HM.out _).mono ?_; rintro e w1 ⟨rfl, rfl⟩)
  go_ret2
  exact ⟨rfl, Below.refl _ _⟩
end Go.Proofs.YtknpgijapbkebaaDoor.F
