/- Texts that stand on one another, put together: FBits, Shelf, FCarry, FLeast. -/
import Derived.Test.YtmekmlgpkbfjpaaGreatDoorK2
import Derived.BigRegion
import Derived.Deep.RegionWith
import Derived.Laws.Externs
import Derived.Outline
import Derived.Shelf.Bits.Mul64
import Derived.Shelf.Small.Strs
import Derived.Shelf.Strings.Search1
import Derived.StillTailTactics
import Derived.Test.YtmekmlgpkbfjpaaGreatDoorProg
/- The contracts of the library's calls on whole words: a sum with a carry, a difference with a borrow. -/
namespace Go.Proofs.YtmekmlgpkbfjpaaGreatDoor.F
set_option maxRecDepth 100000
open Go.RowKit

theorem add64_run (x y c : Nat) (hc : c ≤ 1) (w : World) : (callFunc 132 #[.int .u64 (x : Int), .int .u64 (y : Int), .int .u64 (c : Int)]).run Tryz.prog w = .ok (.value (.tuple #[w64 ((x + y + c) % 18446744073709551616), w64 ((x + y + c) / 18446744073709551616)])) w := by
  rw [run_callFunc_extern Tryz.func132 (by kernel_rfl) (by kernel_rfl) (by kernel_rfl) (e := add64Entry) (by kernel_rfl), run_add64 x y c (by omega) (by omega) (by omega) (by omega)]
  simp only [Result.andThen]
  congr 5 <;> omega
theorem sub64_run (x y c : Nat) (hc : c ≤ 1) (w : World) : (callFunc 172 #[.int .u64 (x : Int), .int .u64 (y : Int), .int .u64 (c : Int)]).run Tryz.prog w = .ok (.value (.tuple #[w64 ((x + 18446744073709551616 - y - c) % 18446744073709551616), w64 (if x < y + c then 1 else 0)])) w := by
  have hr : ∀ w, ((Extern.MathBitsCarry.rows[1]'(by decide)).2 #[.int .u64 (x : Int), .int .u64 (y : Int), .int .u64 (c : Int)]).run Tryz.prog w = .ok (.tuple #[w64 ((x + 18446744073709551616 - y - c) % 18446744073709551616), w64 (if x < y + c then 1 else 0)]) w := fun w => by
    have : c = 0 ∨ c = 1 := by omega
    rcases this with rfl | rfl <;> rfl
  rw [run_callFunc_extern Tryz.func172 (by kernel_rfl) (by kernel_rfl) (by kernel_rfl) (e := (Extern.MathBitsCarry.rows[1]'(by decide)).2) (by kernel_rfl), hr]
  rfl
end Go.Proofs.YtmekmlgpkbfjpaaGreatDoor.F

/- The library's own contracts laid at this program: one application each. -/
namespace Go.Proofs
open Go.Shelf
def Tryz.lays264_ren : Go.Shelf.Ren := ⟨fun | 264 => 134 | n => n, fun | 53 => 65 | 46 => 85 | n => n, fun | n => n⟩
theorem Tryz.lays264 : Go.Proofs.Lays.n264 Tryz.prog Tryz.lays264_ren := {
  mixed := by kernel_rfl
  f264 := Tryz.func134.trans (congrArg some (by kernel_rfl))
  t46 := Tryz.underlying85
  a46 := Tryz.isAgg85
  z46 := Tryz.sizeOf85
  v46 := Tryz.zeroValue85
  t53 := Tryz.underlying65
  a53 := Tryz.isAgg65
  z53 := Tryz.sizeOf65
  v53 := Tryz.zeroValue65 }
open Go.RowKit Go.Lib in
theorem Tryz.bits_Mul64 (x y : Nat) (hx : x < 18446744073709551616) (hy : y < 18446744073709551616) (w : World) :
    Calls Tryz.prog 134 #[.int .u64 x, .int .u64 y] w fun e w' => e = .returned (.tuple #[.int .u64 ((x * y / 18446744073709551616 : Nat) : Int), .int .u64 ((x * y % 18446744073709551616 : Nat) : Int)]) ∧ w' = w := Any.bits_Mul64 Tryz.lays264 x y hx hy w
end Go.Proofs

/- The contracts of the program's sums and differences of four words, and of a product of two words with two more. -/
namespace Go.Proofs.YtmekmlgpkbfjpaaGreatDoor.F
set_option maxRecDepth 100000
open Go.RowKit
attribute [local irreducible] feA
theorem wordsL_at (n i : Nat) (h : i < 4) : ((wordsL n).map w64).toArray[i]? = some (w64 ((wordsL n).getD i 0)) := by
  match i, h with
  | 0, _ | 1, _ | 2, _ | 3, _ => rfl
/-- one word of a sum, laid where the word was -/
theorem set_sum {l : List Nat} {i s x y c q A : Nat} (hl : i < l.length) (hx : l.getD i 0 = x) (h : valK l + 18446744073709551616 ^ i * c = A) (hs : s + 18446744073709551616 * q = x + y + c) :
    valK (l.set i s) + 18446744073709551616 ^ (i + 1) * q = A + 18446744073709551616 ^ i * y := by
  have h1 := valK_set l i s hl
  rw [hx] at h1
  have h2 : 18446744073709551616 ^ i * s + 18446744073709551616 ^ (i + 1) * q = 18446744073709551616 ^ i * x + 18446744073709551616 ^ i * y + 18446744073709551616 ^ i * c := by
    rw [Nat.pow_succ, Nat.mul_assoc, ← Nat.mul_add, hs, Nat.mul_add, Nat.mul_add]
  omega
/-- .. of a difference -/
theorem set_diff {l : List Nat} {i s x y c q A B : Nat} (hl : i < l.length) (hx : l.getD i 0 = x) (h : valK l + B = A + 18446744073709551616 ^ i * c) (hs : s + y + c = x + 18446744073709551616 * q) :
    valK (l.set i s) + (B + 18446744073709551616 ^ i * y) = A + 18446744073709551616 ^ (i + 1) * q := by
  have h1 := valK_set l i s hl
  rw [hx] at h1
  have h2 : 18446744073709551616 ^ i * s + 18446744073709551616 ^ i * y + 18446744073709551616 ^ i * c = 18446744073709551616 ^ i * x + 18446744073709551616 ^ (i + 1) * q := by
    rw [Nat.pow_succ, Nat.mul_assoc, ← Nat.mul_add, ← Nat.mul_add, ← Nat.mul_add, hs]
  omega

set_option maxRecDepth 100000 in
set_option maxHeartbeats 1600000 in
theorem plus_words (m n : Nat) (W : World) (hm : m < K256) (hn : n < K256) :
    Calls Tryz.prog 138 #[fe m, fe n] W fun e w' => e = .returned (.tuple #[fe ((m + n) % K256), w64 ((m + n) / K256)]) ∧ Below W.heap.size W w' := by
  have hmv := Lib.hid (wordsL_val hm)
  have hnv := Lib.hid (wordsL_val hn)
  have wm := wordsL_wd m
  have wn := wordsL_wd n
  rw [fe, fe, feA_wordsL m, feA_wordsL n]
  have hna := wordsL_at n
  have hml : (wordsL m).length = 4 := rfl
  have hnl : (wordsL n).length = 4 := rfl
  obtain ⟨Y, hY⟩ : ∃ Y, ((wordsL n).map w64).toArray = Y := ⟨_, rfl⟩
  rw [hY] at hna ⊢
  clear hY
  generalize hxs : wordsL m = xs at *
  generalize hys : wordsL n = ys at *
  clear hxs hys hm hn
  go_enter Tryz.func138, Tryz.ntmps138
  have hx := ((Lies.new W 72 (xs.map w64).toArray).alloc (.cells Y 72)).alloc (.cells fe0A 72)
  have hy : Lies ((W.alloc (.cells (xs.map w64).toArray 72)).alloc (.cells Y 72)) (W.heap.size + 1) 72 Y := heap_alloc2_new W _ _
  replace hy := hy.alloc (.cells fe0A 72)
  have hr := lies3 W (.cells (xs.map w64).toArray 72) (.cells Y 72) 72 fe0A
  have hB := (((Below.refl W.heap.size W).alloc (Nat.le_refl _) (.cells (xs.map w64).toArray 72)).alloc (by simp) (.cells Y 72)).alloc (by simp; omega) (.cells fe0A 72)
  go_upto_region 1 with fail
  generalize World.alloc (World.alloc (World.alloc W _) _) _ = w0 at *
  go_wp2_with fail
  go_loopw [6, 8] (fun cx ix wr => ∃ (i c : Nat) (l : List Nat), i ≤ 4 ∧ ix = .int .i64 i ∧ cx = w64 c ∧ c ≤ 1 ∧ l.length = 4 ∧ Wd l ∧ Hid (valK l + 18446744073709551616 ^ i * c = valK xs + valK (ys.take i)) ∧ Lies wr W.heap.size 72 (l.map w64).toArray ∧ Lies wr (W.heap.size + 1) 72 Y ∧ Lies wr (W.heap.size + 2) 72 fe0A ∧ Below W.heap.size W wr) (fun _ ix _ => 4 - (intOf ix).toNat)
  case atStart => exact ⟨0, 0, xs, by omega, rfl, rfl, by omega, hml, wm, Lib.hid rfl, hx, hy, hr, hB⟩
  case round =>
    clear hx hy hr hB
    obtain ⟨i, c, l, hi, rfl, rfl, hc, hl, hw, HV, hx, hy, hr, hB⟩ := hrel
    by_cases hlt : i < 4
    · have cx := (hx.cell i).trans (listA_at l i (by omega))
      have fx := hx.frozen i
      have cy := (hy.cell i).trans (hna i hlt)
      have bx := hw.at i
      have b_y := wn.at i
      have HP := Lib.hid (fun x => listA_set l i x)
      have HY := Lib.hid (valK_take_succ ys i)
      have HW := Lib.hid hw
      have HSt := Lib.hid (fun (s q x y : Nat) (hx : l.getD i 0 = x) => @set_sum l i s x y c q _ (by omega) hx HV.out)
      clear hw
      generalize hlx : l.getD i 0 = x at *
      generalize ys.getD i 0 = y at *
      have hadd := add64_run x y c hc
      have hsq : (x + y + c) % 18446744073709551616 + 18446744073709551616 * ((x + y + c) / 18446744073709551616) = x + y + c := Nat.mod_add_div _ _
      obtain ⟨s, hs⟩ : ∃ s, (x + y + c) % 18446744073709551616 = s := ⟨_, rfl⟩
      obtain ⟨q, hq⟩ : ∃ q, (x + y + c) / 18446744073709551616 = q := ⟨_, rfl⟩
      have hsK : s < 18446744073709551616 := by omega
      have hq1 : q ≤ 1 := by omega
      rw [hs, hq] at hadd hsq
      have HS := Lib.hid (HSt.out s q x y rfl hsq)
      clear hs hq bx b_y hsq HSt hlx
      have hi4 : (i : Int) < 4 := by omega
      go_upto_region 5 with fail
      go_region_with (fail)
      all_goals
        go_wp2_with fail
        go_roundw
        case rel => exact ⟨i + 1, q, l.set i s, by omega, by go_num, rfl, hq1, by rw [List.length_set]; exact hl, HW.out.set i hsK, Lib.hid (by rw [HY.out, ← Nat.add_assoc]; exact HS.out), by rw [← HP.out]; exact (hx.put i _).drew, (hy.far (by simp only; omega) _).drew, (hr.far (by simp only; omega) _).drew, (below_put hB (by omega) _ _).drew⟩
        case measure => simp [intOf]; omega
    · obtain rfl : i = 4 := by omega
      obtain ⟨hwe, hwK⟩ := words_feA l hl hw
      rw [hwe] at hx
      have hv := HV.out
      rw [List.take_of_length_le (by omega), hmv.out, hnv.out, show (18446744073709551616 : Nat) ^ 4 = K256 by decide] at hv
      have hvm : valK l = (m + n) % K256 := by rw [← hv, Nat.add_mul_mod_self_left, Nat.mod_eq_of_lt hwK]
      have hvd : c = (m + n) / K256 := by rw [← hv, Nat.add_mul_div_left _ _ (by decide), Nat.div_eq_of_lt hwK, Nat.zero_add]
      have HVM := Lib.hid hvm
      have HVD := Lib.hid hvd
      clear hv hvm hvd hwK hwe HV hw
      generalize valK l = V at *
      go_wp2_with (first
        | ((with_reducible refine wpL_load W.heap.size 72 (feA V) 4 rowFe (feA_size _) hx ?_ ?_); rfl)
        | ((with_reducible refine wpL_store (W.heap.size + 1 + 1) 72 _ (feA V) 4 rowFe rfl (feA_size _) (feA_one _) hr ?_ ?_ ?_); rfl; rfl))
      exact bodyPost_ret (results_row_tmp Tryz.results138 rowFe (feA_size _) (hr.row _) rfl rfl) rfl ⟨by rw [← HVM.out, ← HVD.out]; rfl, below_rowSet hB (by omega) _⟩

set_option maxRecDepth 100000 in
set_option maxHeartbeats 1600000 in
theorem minus_words (m n : Nat) (W : World) (hm : m < K256) (hn : n < K256) :
    Calls Tryz.prog 135 #[fe m, fe n] W fun e w' => e = .returned (.tuple #[fe ((m + K256 - n) % K256), .bool (decide (m < n))]) ∧ Below W.heap.size W w' := by
  have hmv := Lib.hid (wordsL_val hm)
  have hnv := Lib.hid (wordsL_val hn)
  have wm := wordsL_wd m
  have wn := wordsL_wd n
  rw [fe, fe, feA_wordsL m, feA_wordsL n]
  have hna := wordsL_at n
  have hml : (wordsL m).length = 4 := rfl
  have hnl : (wordsL n).length = 4 := rfl
  obtain ⟨Y, hY⟩ : ∃ Y, ((wordsL n).map w64).toArray = Y := ⟨_, rfl⟩
  rw [hY] at hna ⊢
  clear hY
  generalize hxs : wordsL m = xs at *
  generalize hys : wordsL n = ys at *
  clear hxs hys
  go_enter Tryz.func135, Tryz.ntmps135
  have hx := ((Lies.new W 72 (xs.map w64).toArray).alloc (.cells Y 72)).alloc (.cells fe0A 72)
  have hy : Lies ((W.alloc (.cells (xs.map w64).toArray 72)).alloc (.cells Y 72)) (W.heap.size + 1) 72 Y := heap_alloc2_new W _ _
  replace hy := hy.alloc (.cells fe0A 72)
  have hr := lies3 W (.cells (xs.map w64).toArray 72) (.cells Y 72) 72 fe0A
  have hB := (((Below.refl W.heap.size W).alloc (Nat.le_refl _) (.cells (xs.map w64).toArray 72)).alloc (by simp) (.cells Y 72)).alloc (by simp; omega) (.cells fe0A 72)
  go_upto_region 1 with fail
  generalize World.alloc (World.alloc (World.alloc W _) _) _ = w0 at *
  go_wp2_with fail
  go_loopw [6, 8] (fun cx ix wr => ∃ (i c : Nat) (l : List Nat), i ≤ 4 ∧ ix = .int .i64 i ∧ cx = w64 c ∧ c ≤ 1 ∧ l.length = 4 ∧ Wd l ∧ Hid (valK l + valK (ys.take i) = valK xs + 18446744073709551616 ^ i * c) ∧ Lies wr W.heap.size 72 (l.map w64).toArray ∧ Lies wr (W.heap.size + 1) 72 Y ∧ Lies wr (W.heap.size + 2) 72 fe0A ∧ Below W.heap.size W wr) (fun _ ix _ => 4 - (intOf ix).toNat)
  case atStart => exact ⟨0, 0, xs, by omega, rfl, rfl, by omega, hml, wm, Lib.hid rfl, hx, hy, hr, hB⟩
  case round =>
    clear hx hy hr hB
    obtain ⟨i, c, l, hi, rfl, rfl, hc, hl, hw, HV, hx, hy, hr, hB⟩ := hrel
    by_cases hlt : i < 4
    · have cx := (hx.cell i).trans (listA_at l i (by omega))
      have fx := hx.frozen i
      have cy := (hy.cell i).trans (hna i hlt)
      have bx := hw.at i
      have b_y := wn.at i
      have HP := Lib.hid (fun x => listA_set l i x)
      have HY := Lib.hid (valK_take_succ ys i)
      have HW := Lib.hid hw
      have HSt := Lib.hid (fun (s q x y : Nat) (hx : l.getD i 0 = x) => @set_diff l i s x y c q _ _ (by omega) hx HV.out)
      clear hw
      generalize hlx : l.getD i 0 = x at *
      generalize ys.getD i 0 = y at *
      have hadd := sub64_run x y c hc
      have hsq : (x + 18446744073709551616 - y - c) % 18446744073709551616 + y + c = x + 18446744073709551616 * (if x < y + c then 1 else 0) := by
        split <;> omega
      obtain ⟨s, hs⟩ : ∃ s, (x + 18446744073709551616 - y - c) % 18446744073709551616 = s := ⟨_, rfl⟩
      obtain ⟨q, hq⟩ : ∃ q, (if x < y + c then 1 else 0) = q := ⟨_, rfl⟩
      have hsK : s < 18446744073709551616 := by rw [← hs]; exact Nat.mod_lt _ (by decide)
      have hq1 : q ≤ 1 := by rw [← hq]; split <;> omega
      rw [hs, hq] at hadd hsq
      have HS := Lib.hid (HSt.out s q x y rfl hsq)
      clear hs hq bx b_y hsq HSt hlx
      have hi4 : (i : Int) < 4 := by omega
      go_upto_region 5 with fail
      go_region_with (fail)
      all_goals
        go_wp2_with fail
        go_roundw
        case rel => exact ⟨i + 1, q, l.set i s, by omega, by go_num, rfl, hq1, by rw [List.length_set]; exact hl, HW.out.set i hsK, Lib.hid (by rw [HY.out]; exact HS.out), by rw [← HP.out]; exact (hx.put i _).drew, (hy.far (by simp only; omega) _).drew, (hr.far (by simp only; omega) _).drew, (below_put hB (by omega) _ _).drew⟩
        case measure => simp [intOf]; omega
    · obtain rfl : i = 4 := by omega
      obtain ⟨hwe, hwK⟩ := words_feA l hl hw
      rw [hwe] at hx
      have hv := HV.out
      rw [List.take_of_length_le (by omega), hmv.out, hnv.out, show (18446744073709551616 : Nat) ^ 4 = K256 by decide] at hv
      have hvm : valK l = (m + K256 - n) % K256 := by
        unfold K256 at *
        omega
      have HVM := Lib.hid hvm
      have hc01 : (m < n ∧ c = 1) ∨ (¬ m < n ∧ c = 0) := by
        unfold K256 at *
        omega
      clear hv hvm hwK hwe HV hw hm hn
      generalize valK l = V at *
      rcases hc01 with ⟨hmn, rfl⟩ | ⟨hmn, rfl⟩
      · have HD := Lib.hid (decide_eq_true hmn)
        clear hmn
        go_wp2_with (first
          | ((with_reducible refine wpL_load W.heap.size 72 (feA V) 4 rowFe (feA_size _) hx ?_ ?_); rfl)
          | ((with_reducible refine wpL_store (W.heap.size + 1 + 1) 72 _ (feA V) 4 rowFe rfl (feA_size _) (feA_one _) hr ?_ ?_ ?_); rfl; rfl))
        exact bodyPost_ret (results_row_tmp Tryz.results135 rowFe (feA_size _) (hr.row _) rfl rfl) rfl ⟨by rw [← HVM.out, HD.out]; rfl, below_rowSet hB (by omega) _⟩
      · have HD := Lib.hid (decide_eq_false hmn)
        clear hmn
        go_wp2_with (first
          | ((with_reducible refine wpL_load W.heap.size 72 (feA V) 4 rowFe (feA_size _) hx ?_ ?_); rfl)
          | ((with_reducible refine wpL_store (W.heap.size + 1 + 1) 72 _ (feA V) 4 rowFe rfl (feA_size _) (feA_one _) hr ?_ ?_ ?_); rfl; rfl))
        exact bodyPost_ret (results_row_tmp Tryz.results135 rowFe (feA_size _) (hr.row _) rfl rfl) rfl ⟨by rw [← HVM.out, HD.out]; rfl, below_rowSet hB (by omega) _⟩

set_option maxHeartbeats 800000 in
theorem wordTimes_any (x y a b : Nat) (hx : x < 18446744073709551616) (hy : y < 18446744073709551616) (ha : a < 18446744073709551616) (hb : b < 18446744073709551616) :
    ∃ q s : Nat, q < 18446744073709551616 ∧ s < 18446744073709551616 ∧ s + 18446744073709551616 * q = x * y + a + b ∧
      ∀ W : World, Calls Tryz.prog 136 #[.int .u64 (x : Int), .int .u64 (y : Int), .int .u64 (a : Int), .int .u64 (b : Int)] W fun e w' => e = .returned (.tuple #[.int .u64 (q : Int), .int .u64 (s : Int)]) ∧ Below W.heap.size W w' := by
  obtain ⟨h, l, l2, m1, nw, m2, e1, e2, e3, e4, e5, e6, b1, b2, b3, b4, b5, b6, hsum⟩ := mul_step hx hy ha hb
  obtain ⟨h2, hh2⟩ : ∃ h2, h + m1 = h2 := ⟨_, rfl⟩
  obtain ⟨q, hqq⟩ : ∃ q, h2 + m2 = q := ⟨_, rfl⟩
  rw [hh2, hqq] at b5 hsum
  rw [hh2] at b4
  refine ⟨q, nw, b5, b6, hsum, fun W => ?_⟩
  have HM := Lib.hid (fun w => Tryz.bits_Mul64 x y hx hy w)
  rw [e1, e2] at HM
  have hA1 : ∀ w, (callFunc 132 #[.int .u64 (l : Int), .int .u64 (a : Int), .int .u64 0]).run Tryz.prog w = .ok (.value (.tuple #[w64 l2, w64 m1])) w := fun w => by rw [← e3, ← e4]; exact add64_run l a 0 (by decide) w
  have hA2 : ∀ w, (callFunc 132 #[.int .u64 (l2 : Int), .int .u64 (b : Int), .int .u64 0]).run Tryz.prog w = .ok (.value (.tuple #[w64 nw, w64 m2])) w := fun w => by rw [← e5, ← e6, Nat.add_comm b l2]; exact add64_run l2 b 0 (by decide) w
  have hadd1 : IntKind.u64.wrap (h2 : Int) = (h2 : Int) := by rw [IntKind.wrap_u64]; omega
  have hc1 : (h : Int) + (m1 : Int) = (h2 : Int) := by omega
  have hadd2 : IntKind.u64.wrap (q : Int) = (q : Int) := by rw [IntKind.wrap_u64]; omega
  have hc2 : (h2 : Int) + (m2 : Int) = (q : Int) := by omega
  clear e1 e2 e3 e4 e5 e6 hsum hh2 hqq b1 b2 b3 b4 b5 b6 hx hy ha hb
  go_enter Tryz.func136, Tryz.ntmps136
  go_wp2_with (go_at_call 134; refine (HM.out _).mono ?_; rintro e w1 ⟨rfl, rfl⟩)
  go_ret2
  exact ⟨rfl, Below.refl _ _⟩
end Go.Proofs.YtmekmlgpkbfjpaaGreatDoor.F

/- The contracts of the program's Of, Least, reduced, Add and Sub. -/
namespace Go.Proofs.YtmekmlgpkbfjpaaGreatDoor.F
set_option maxRecDepth 100000
open Go.RowKit
attribute [local irreducible] feA
section
variable {P : Program} {ops : Array Oper} {rest : List Oper} {a : Act} {w : World} {Q : Exit → Act → World → Prop} {t' : TypeId} {pos : String} {after : Array Edge}
/-- a package-level variable of rows is read -/
theorem wpL_loadGlobal {d : Option Tmp} {x : Operand} {ty : TypeId} (g o : Nat) (cs : List Value) (n : Nat) (hT : RowT P ty n) (hn : cs.length = n) (hg : w.rangeAt g o cs)
    (hx : a.eval x = .pointer (some ⟨g, o, none⟩)) (h : wpList P ops Q rest (a.put d (.agg cs.toArray)) w) : wpList P ops Q (⟨d, .load ty x, t', pos, after, none⟩ :: rest) a w := by
  obtain ⟨⟨ds, hu, hd⟩, hi⟩ := hT
  exact wpList_load_mid (op := ⟨d, .load ty x, t', pos, after, none⟩) rfl ty x rfl g o hx cs ds hg hu hd (by rw [hi, hn]) h
end
theorem Tab.prime {w : World} (h : Tab w) : w.rangeAt 6 0 (feA p25).toList := fun j v hv => by
  rw [Nat.zero_add]
  rw [feA_words] at hv
  match j, hv with
  | 0, hv | 1, hv | 2, hv | 3, hv => exact (h _ (by decide)).trans hv
theorem TabR.root {w : World} (h : TabR w) : w.rangeAt 7 0 (feA i25).toList := fun j v hv => by
  rw [Nat.zero_add]
  rw [feA_words] at hv
  match j, hv with
  | 0, hv | 1, hv | 2, hv | 3, hv => exact (h _ (by decide)).trans hv

theorem of_any (n : Nat) (w : World) (hn : n < 18446744073709551616) : Calls Tryz.prog 96 #[.int .u64 (n : Int)] w fun e w' => e = .returned (fe n) ∧ Below w.heap.size w w' := by
  rw [fe_word n hn]
  go_enter Tryz.func96, Tryz.ntmps96
  go_wp2
  exact bodyPost_ret (results_row Tryz.results96 rowFe rfl (Lies.new w _ #[.int .u64 (n : Int), .int .u64 0, .int .u64 0, .int .u64 0]) rfl) rfl ⟨rfl, (Below.refl _ w).alloc (Nat.le_refl _) _⟩

set_option maxRecDepth 100000 in
set_option maxHeartbeats 800000 in
theorem least_any (n : Nat) (W : World) (hn : n < K256) (hT : Tab W) :
    Calls Tryz.prog 93 #[fe n] W fun e w' => e = .returned (fe (n % p25)) ∧ Below W.heap.size W w' := by
  have hT0 := Lib.hid hT
  go_enter Tryz.func93, Tryz.ntmps93
  have hx := (Lies.new W 72 (feA n)).alloc (.cells fe0A 72)
  have hr : Lies ((W.alloc (.cells (feA n) 72)).alloc (.cells fe0A 72)) (W.heap.size + 1) 72 fe0A := heap_alloc2_new W _ _
  have hB := ((Below.refl W.heap.size W).alloc (Nat.le_refl _) (.cells (feA n) 72)).alloc (by simp) (.cells fe0A 72)
  go_upto_region 1 with fail
  generalize World.alloc (World.alloc W _) _ = w0 at *
  go_wp2_with fail
  go_loopw [5] (fun ix wr => ∃ i v : Nat, i ≤ 2 ∧ ix = .int .i64 i ∧ Hid (v % p25 = n % p25 ∧ v < (3 - i) * p25 ∧ v < K256) ∧ Lies wr W.heap.size 72 (feA v) ∧ Lies wr (W.heap.size + 1) 72 fe0A ∧ Below W.heap.size W wr) (fun ix _ => 2 - (intOf ix).toNat)
  case atStart => exact ⟨0, n, by omega, rfl, Lib.hid ⟨rfl, Nat.lt_of_lt_of_le hn (by decide), hn⟩, hx, hr, hB⟩
  case round =>
    clear hx hr hB hT
    obtain ⟨i, v, hi, rfl, HV, hx, hr, hB⟩ := hrel
    by_cases hlt : i < 2
    · have hT := hT0.out.on hB
      have HM := Lib.hid (fun w => minus_words v p25 w HV.out.2.2 (by decide))
      have hii : (i : Int) < 2 := by omega
      by_cases hv : v < p25
      · rw [decide_eq_true hv] at HM
        have HVn : Hid (v = n % p25) := Lib.hid (by rw [← HV.out.1, Nat.mod_eq_of_lt hv])
        generalize (v + K256 - p25) % K256 = y at HM
        clear hv HV
        go_wp2_with (first
          | ((with_reducible refine wpL_load W.heap.size 72 (feA v) 4 rowFe (feA_size _) hx ?_ ?_); rfl)
          | ((with_reducible refine wpL_loadGlobal 6 0 (feA p25).toList 4 rowFe (by rw [Array.length_toList]; exact feA_size _) hT.prime ?_ ?_); rfl; rw [Array.toArray_toList])
          | (go_at_call 135; refine (HM.out _).mono ?_; rintro e w1 ⟨rfl, hb⟩; replace hx := (hx.on hb).on (newly w1 (.cells fe0A 72) (feA y)); replace hr := (hr.on hb).on (newly w1 (.cells fe0A 72) (feA y)); replace hB := below_on (below_on hB hb) (newly w1 (.cells fe0A 72) (feA y)); clear hb hT)
          | ((with_reducible refine wpL_store w1.heap.size 72 _ (feA y) 4 rowFe ?_ (feA_size _) (feA_one _) (Lies.new w1 _ _) ?_ ?_ ?_); rfl; rfl; rfl)
          | ((with_reducible refine wpL_store (W.heap.size + 1) 72 _ (feA v) 4 rowFe rfl (feA_size _) (feA_one _) hr ?_ ?_ ?_); rfl; rfl))
        exact bodyPost_ret (results_row Tryz.results93 rowFe (feA_size _) (hr.row _) rfl) rfl ⟨by rw [← HVn.out], below_rowSet hB (Nat.le_succ _) _⟩
      · rw [decide_eq_false hv] at HM
        have hle : p25 ≤ v := by omega
        have hyv : (v + K256 - p25) % K256 = v - p25 := by
          have := HV.out.2.2
          rw [show v + K256 - p25 = v - p25 + K256 by omega, Nat.add_mod_right, Nat.mod_eq_of_lt (by omega)]
        have HS : Hid ((v - p25) % p25 = n % p25 ∧ v - p25 < (3 - (i + 1)) * p25 ∧ v - p25 < K256) := Lib.hid ⟨by rw [← HV.out.1, ← Nat.mod_eq_sub_mod hle], by
          have h1 := HV.out.2.1
          rw [show 3 - i = (3 - (i + 1)) + 1 by omega, Nat.succ_mul] at h1
          omega, by have := HV.out.2.2; omega⟩
        rw [hyv] at HM
        generalize v - p25 = y at HM HS
        clear hv HV hyv hle
        go_wp2_with (first
          | ((with_reducible refine wpL_load W.heap.size 72 (feA v) 4 rowFe (feA_size _) hx ?_ ?_); rfl)
          | ((with_reducible refine wpL_loadGlobal 6 0 (feA p25).toList 4 rowFe (by rw [Array.length_toList]; exact feA_size _) hT.prime ?_ ?_); rfl; rw [Array.toArray_toList])
          | (go_at_call 135; refine (HM.out _).mono ?_; rintro e w1 ⟨rfl, hb⟩; replace hx := (hx.on hb).on (newly w1 (.cells fe0A 72) (feA y)); replace hr := (hr.on hb).on (newly w1 (.cells fe0A 72) (feA y)); replace hB := below_on (below_on hB hb) (newly w1 (.cells fe0A 72) (feA y)); clear hb hT; have hz := newly_lies w1 72 fe0A (feA y))
          | ((with_reducible refine wpL_store w1.heap.size 72 _ (feA y) 4 rowFe ?_ (feA_size _) (feA_one _) (Lies.new w1 _ _) ?_ ?_ ?_); rfl; rfl; rfl)
          | ((with_reducible refine wpL_load w1.heap.size 72 (feA y) 4 rowFe (feA_size _) hz ?_ ?_); rfl)
          | ((with_reducible refine wpL_store W.heap.size 72 _ (feA y) 4 rowFe (feA_size _) (feA_size _) (feA_one _) hx ?_ ?_ ?_); rfl; rfl))
        go_roundw
        case rel => exact ⟨i + 1, y, by omega, by go_num, HS, hx.row _, hr.rowFar (by omega) _, below_rowSet hB (Nat.le_refl _) _⟩
        case measure => simp [intOf]; omega
    · obtain rfl : i = 2 := by omega
      have hv : v = n % p25 := by rw [← HV.out.1, Nat.mod_eq_of_lt (by have := HV.out.2.1; omega)]
      have HVn := Lib.hid hv
      clear HV hv
      go_wp2_with (first
        | ((with_reducible refine wpL_load W.heap.size 72 (feA v) 4 rowFe (feA_size _) hx ?_ ?_); rfl)
        | ((with_reducible refine wpL_store (W.heap.size + 1) 72 _ (feA v) 4 rowFe rfl (feA_size _) (feA_one _) hr ?_ ?_ ?_); rfl; rfl))
      exact bodyPost_ret (results_row Tryz.results93 rowFe (feA_size _) (hr.row _) rfl) rfl ⟨by rw [← HVn.out], below_rowSet hB (Nat.le_succ _) _⟩

/-- the number that lies in a block -/
def numB (w : World) (g : Nat) : Nat := match w.heap[g]? with
  | some (.cells cs _ _) => valK (cs.toList.map fun v => (intOf v).toNat)
  | _ => 0
theorem Lies.numB {w : World} {g t v : Nat} (h : Lies w g t (feA v)) (hv : v < K256) : numB w g = v := by
  unfold Lies at h
  unfold F.numB
  rw [h]
  show valK ((feA v).toList.map fun v => (intOf v).toNat) = v
  rw [feA_wordsL, List.map_map]
  have e : (wordsL v).map ((fun v => (intOf v).toNat) ∘ w64) = wordsL v := by
    conv => rhs; rw [← List.map_id (wordsL v)]
    exact List.map_congr_left fun x _ => by simp [intOf]
  rw [e, wordsL_val hv]

set_option maxRecDepth 100000 in
set_option maxHeartbeats 800000 in
/-- what four words, and so many times 2^256, leave -/
theorem reduced_any (z h : Nat) (W : World) (hz : z < K256) (hh : h < 1000) (hT : Tab W) :
    Calls Tryz.prog 137 #[fe z, .int .u64 (h : Int)] W fun e w' => e = .returned (fe ((z + h * K256) % p25)) ∧ Below W.heap.size W w' := by
  have hT0 := Lib.hid hT
  clear hT
  go_enter Tryz.func137, Tryz.ntmps137
  have hx := (Lies.new W 72 (feA z)).alloc (.cells fe0A 72)
  have hr : Lies ((W.alloc (.cells (feA z) 72)).alloc (.cells fe0A 72)) (W.heap.size + 1) 72 fe0A := heap_alloc2_new W _ _
  have hB := ((Below.refl W.heap.size W).alloc (Nat.le_refl _) (.cells (feA z) 72)).alloc (by simp) (.cells fe0A 72)
  go_upto_region 1 with fail
  generalize World.alloc (World.alloc W _) _ = w0 at *
  go_loopw [1] (fun hx wr => ∃ v k : Nat, hx = w64 k ∧ k < 1000 ∧ v < K256 ∧ Hid ((v + k * K256) % p25 = (z + h * K256) % p25) ∧ Lies wr W.heap.size 72 (feA v) ∧ Lies wr (W.heap.size + 1) 72 fe0A ∧ Below W.heap.size W wr) (fun hx wr => (intOf hx).toNat * K256 + numB wr W.heap.size)
  case atStart => exact ⟨z, h, rfl, hh, hz, Lib.hid rfl, hx, hr, hB⟩
  case round =>
    clear hx hr hB hz hh
    obtain ⟨v, k, rfl, hk, hv, HV, hx, hr, hB⟩ := hrel
    by_cases h0 : k = 0
    · subst h0
      have HL := Lib.hid (fun w hT => least_any v w hv hT)
      have HS := Lib.hid HV.out
      rw [Nat.zero_mul, Nat.add_zero] at HS
      rw [HS.out] at HL
      have hT := hT0.out.on hB
      clear HV HS
      obtain ⟨q, hq⟩ : ∃ q, (z + h * K256) % p25 = q := ⟨_, rfl⟩
      rw [hq] at HL
      have HQ := Lib.hid hq
      clear hq
      go_wp2_with (first
        | ((with_reducible refine wpL_load W.heap.size 72 (feA v) 4 rowFe (feA_size _) hx ?_ ?_); rfl)
        | (go_at_call 93; refine (HL.out _ hT).mono ?_; rintro e w1 ⟨rfl, hb⟩; replace hr := hr.on hb; replace hB := below_on hB hb; clear hb)
        | ((with_reducible refine wpL_store (W.heap.size + 1) 72 _ (feA q) 4 rowFe rfl (feA_size _) (feA_one _) hr ?_ ?_ ?_); rfl; rfl))
      exact bodyPost_ret (results_row Tryz.results137 rowFe (feA_size _) (hr.row _) rfl) rfl ⟨by rw [HQ.out], below_rowSet hB (Nat.le_succ _) _⟩
    · have hb38 : k * 38 < 18446744073709551616 := by omega
      have hnb := Lib.hid (hx.numB hv)
      have HVv := Lib.hid (wordsL_val hv)
      have hll : (wordsL v).length = 4 := rfl
      have hwl := wordsL_wd v
      rw [feA_wordsL v] at hx
      obtain ⟨k38, hk38⟩ : ∃ k38, k * 38 = k38 := ⟨_, rfl⟩
      have hmul : IntKind.u64.wrap ((k : Int) * 38) = (k38 : Int) := by rw [IntKind.wrap_u64]; omega
      have hcast : (k : Int) * 38 = (k38 : Int) := by omega
      have hk0 : ¬ (k : Int) = 0 := by omega
      have Hk38 := Lib.hid hk38
      rw [hk38] at hb38
      clear hk38
      generalize wordsL v = l0 at *
      obtain ⟨wq, hwq⟩ : ∃ wq, wq = wr := ⟨_, rfl⟩
      subst hwq
      go_wp2_with fail
      go_loopw [5, 11] (fun cx ix wv => ∃ (i c : Nat) (l : List Nat), i ≤ 4 ∧ ix = .int .i64 i ∧ cx = w64 c ∧ c < 18446744073709551616 ∧ l.length = 4 ∧ Wd l ∧ Hid (valK l + 18446744073709551616 ^ i * c = v + k38) ∧ Lies wv W.heap.size 72 (l.map w64).toArray ∧ Lies wv (W.heap.size + 1) 72 fe0A ∧ Below W.heap.size W wv) (fun _ ix _ => 4 - (intOf ix).toNat)
      case atStart => exact ⟨0, k38, l0, by omega, rfl, rfl, hb38, hll, hwl, Lib.hid (by rw [HVv.out]; simp), hx, hr, hB⟩
      case round =>
        clear hx hr hB hb38 hmul hcast hll hwl
        obtain ⟨i, c, l, hi, rfl, rfl, hc, hl, hw, HS, hx, hr, hB⟩ := hrel
        by_cases hlt : i < 4
        · have cx := (hx.cell i).trans (listA_at l i (by omega))
          have fx := hx.frozen i
          have bx := hw.at i
          have HP := Lib.hid (fun x => listA_set l i x)
          have HW := Lib.hid hw
          have HSt := Lib.hid (fun (s q x : Nat) (hx : l.getD i 0 = x) => @set_sum l i s x 0 c q _ (by omega) hx HS.out)
          clear hw
          generalize hlx : l.getD i 0 = x at *
          have hadd : ∀ w, (callFunc 132 #[.int .u64 (x : Int), .int .u64 (c : Int), .int .u64 0]).run Tryz.prog w = .ok (.value (.tuple #[w64 ((x + c) % 18446744073709551616), w64 ((x + c) / 18446744073709551616)])) w := fun w => add64_run x c 0 (by decide) w
          have hsq : (x + c) % 18446744073709551616 + 18446744073709551616 * ((x + c) / 18446744073709551616) = x + 0 + c := by omega
          obtain ⟨s, hs⟩ : ∃ s, (x + c) % 18446744073709551616 = s := ⟨_, rfl⟩
          obtain ⟨q, hq⟩ : ∃ q, (x + c) / 18446744073709551616 = q := ⟨_, rfl⟩
          have hsK : s < 18446744073709551616 := by omega
          have hq1 : q < 18446744073709551616 := by omega
          rw [hs, hq] at hadd hsq
          have HT := Lib.hid (HSt.out s q x rfl hsq)
          clear hs hq bx hsq HSt hlx
          have hi4 : (i : Int) < 4 := by omega
          go_wp2_with fail
          go_roundw
          case rel => exact ⟨i + 1, q, l.set i s, by omega, by go_num, rfl, hq1, by rw [List.length_set]; exact hl, HW.out.set i hsK, Lib.hid (by have h := HT.out; rwa [Nat.mul_zero, Nat.add_zero] at h), by rw [← HP.out]; exact hx.put i _, hr.far (by simp only; omega) _, below_put hB (by omega) _ _⟩
          case measure => simp [intOf]; omega
        · obtain rfl : i = 4 := by omega
          rw [show ((4 : Nat) : Int) = 4 from rfl]
          obtain ⟨hwe, hwK⟩ := words_feA l hl hw
          rw [hwe] at hx
          have hv4 := HS.out
          rw [show (18446744073709551616 : Nat) ^ 4 = K256 by decide] at hv4
          have hk38 := Hk38.out
          have hqs : c < 1000 := by
            unfold K256 at *
            omega
          have hmeas : c * K256 + valK l < k * K256 + v := by
            unfold K256 at *
            omega
          have HR : Hid ((valK l + c * K256) % p25 = (z + h * K256) % p25) := Lib.hid (by
            rw [← HV.out, show v + k * K256 = (valK l + c * K256) + p25 * (2 * k) by unfold K256 p25 at *; omega, Nat.add_mul_mod_self_left])
          have HM := Lib.hid hmeas
          clear hv4 hk38 hmeas HS HV Hk38 hw
          generalize valK l = V at *
          go_wp2_with fail
          go_roundw
          case rel => exact ⟨V, c, rfl, hqs, hwK, HR, hx, hr, hB⟩
          case measure =>
            rw [hnb.out, hx.numB hwK]
            simp only [intOf, Int.toNat_natCast]
            exact HM.out

set_option maxRecDepth 100000 in
set_option maxHeartbeats 800000 in
theorem add_any (m n : Nat) (W : World) (hm : m < K256) (hn : n < K256) (hT : Tab W) :
    Calls Tryz.prog 97 #[fe m, fe n] W fun e w' => e = .returned (fe ((m + n) % p25)) ∧ Below W.heap.size W w' := by
  have HP := Lib.hid (fun w => plus_words m n w hm hn)
  obtain ⟨y, hy⟩ : ∃ y, (m + n) % K256 = y := ⟨_, rfl⟩
  obtain ⟨q, hq⟩ : ∃ q, (m + n) / K256 = q := ⟨_, rfl⟩
  have hyK : y < K256 := by rw [← hy]; exact Nat.mod_lt _ (by decide)
  have hyq : y + q * K256 = m + n := by rw [← hy, ← hq]; exact Nat.mod_add_div' _ _
  have hq1 : q < 1000 := by
    unfold K256 at *
    omega
  have HF := Lib.hid (fun w hT => reduced_any y q w hyK hq1 hT)
  rw [hyq] at HF
  rw [hy, hq] at HP
  clear hy hq hyq
  have hT0 := Lib.hid hT
  clear hT
  obtain ⟨r, hr⟩ : ∃ r, (m + n) % p25 = r := ⟨_, rfl⟩
  rw [hr] at HF ⊢
  clear hr
  go_enter Tryz.func97, Tryz.ntmps97
  have hx := ((Lies.new W 72 (feA m)).alloc (.cells (feA n) 72)).alloc (.cells fe0A 72)
  have hy : Lies ((W.alloc (.cells (feA m) 72)).alloc (.cells (feA n) 72)) (W.heap.size + 1) 72 (feA n) := heap_alloc2_new W _ _
  replace hy := hy.alloc (.cells fe0A 72)
  have hr := lies3 W (.cells (feA m) 72) (.cells (feA n) 72) 72 fe0A
  have hB := (((Below.refl W.heap.size W).alloc (Nat.le_refl _) (.cells (feA m) 72)).alloc (by simp) (.cells (feA n) 72)).alloc (by simp; omega) (.cells fe0A 72)
  go_upto_region 1 with fail
  generalize World.alloc (World.alloc (World.alloc W _) _) _ = w0 at *
  go_upto_region 2 with (first
    | ((with_reducible refine wpL_load W.heap.size 72 (feA m) 4 rowFe (feA_size _) hx ?_ ?_); rfl)
    | ((with_reducible refine wpL_load (W.heap.size + 1) 72 (feA n) 4 rowFe (feA_size _) hy ?_ ?_); rfl)
    | (go_at_call 138; refine (HP.out _).mono ?_; rintro e w1 ⟨rfl, hb⟩; replace hr := hr.on hb; replace hB := below_on hB hb; clear hb)
    | ((with_reducible refine wpL_store w1.heap.size 72 _ (feA y) 4 rowFe ?_ (feA_size _) (feA_one _) (Lies.new w1 _ _) ?_ ?_ ?_); rfl; rfl; rfl))
  have hz := newly_lies w1 72 fe0A (feA y)
  have hnw := newly w1 (.cells fe0A 72) (feA y)
  replace hr := hr.on hnw
  replace hB := below_on hB hnw
  have hT := hT0.out.on hB
  clear hnw HP
  generalize World.setRow _ _ _ = w2 at *
  generalize w1.heap.size = gz at *
  go_wp2_with (first
    | ((with_reducible refine wpL_load gz 72 (feA y) 4 rowFe (feA_size _) hz ?_ ?_); rfl)
    | (go_at_call 137; refine (HF.out _ hT).mono ?_; rintro e w3 ⟨rfl, hb⟩; replace hr := hr.on hb; replace hB := below_on hB hb; clear hb)
    | ((with_reducible refine wpL_store (W.heap.size + 1 + 1) 72 _ (feA r) 4 rowFe rfl (feA_size _) (feA_one _) hr ?_ ?_ ?_); rfl; rfl))
  exact bodyPost_ret (results_row Tryz.results97 rowFe (feA_size _) (hr.row _) rfl) rfl ⟨rfl, below_rowSet hB (by omega) _⟩
end Go.Proofs.YtmekmlgpkbfjpaaGreatDoor.F

