/- The contract of the scalars' Mul. -/
import Derived.Test.YtknpgijapbkebaaDoorGLong
namespace Go.Proofs.YtknpgijapbkebaaDoor.F
set_option maxRecDepth 100000
open Go.RowKit Go.Sort
attribute [local irreducible] feA

abbrev z8A : Array Value := #[.int .u64 0, .int .u64 0, .int .u64 0, .int .u64 0, .int .u64 0, .int .u64 0, .int .u64 0, .int .u64 0]
set_option maxRecDepth 100000 in
set_option maxHeartbeats 3200000 in
theorem sMul_any (m n : Nat) (W : World) (hm : m < K256) (hn : n < K256) (hT : Tab W) :
    Calls Tryd.prog 13 #[fe m, fe n] W fun e w' => e = .returned (fe (m * n % l25)) ∧ Below W.heap.size W w' := by
  have hT0 := Lib.hid hT
  have hmv := Lib.hid (wordsL_val hm)
  have hnv := Lib.hid (wordsL_val hn)
  have wm := wordsL_wd m
  have wn := wordsL_wd n
  rw [fe, fe, feA_wordsL m, feA_wordsL n]
  have hma := wordsL_at m
  have hna := wordsL_at n
  have hml : (wordsL m).length = 4 := rfl
  have hnl : (wordsL n).length = 4 := rfl
  obtain ⟨X, hX⟩ : ∃ X, ((wordsL m).map w64).toArray = X := ⟨_, rfl⟩
  obtain ⟨Y, hY⟩ : ∃ Y, ((wordsL n).map w64).toArray = Y := ⟨_, rfl⟩
  rw [hX] at hma ⊢
  rw [hY] at hna ⊢
  clear hX hY hT
  generalize hxs : wordsL m = xs at *
  generalize hys : wordsL n = ys at *
  clear hxs hys hm hn
  go_enter Tryd.func13, Tryd.ntmps13
  have hx := ((Lies.new W 24 X).alloc (.cells Y 24)).alloc (.cells fe0A 24)
  have hy : Lies ((W.alloc (.cells X 24)).alloc (.cells Y 24)) (W.heap.size + 1) 24 Y := heap_alloc2_new W _ _
  replace hy := hy.alloc (.cells fe0A 24)
  have hr := lies3 W (.cells X 24) (.cells Y 24) 24 fe0A
  have hB := (((Below.refl W.heap.size W).alloc (Nat.le_refl _) (.cells X 24)).alloc (by simp) (.cells Y 24)).alloc (by simp; omega) (.cells fe0A 24)
  go_upto_region 1 with fail
  generalize World.alloc (World.alloc (World.alloc W _) _) _ = w0 at *
  have ha : Lies (w0.alloc (.cells z8A 46)) w0.heap.size 46 (((List.replicate 8 0).map w64).toArray) := Lies.new w0 46 z8A
  replace hx := hx.alloc (.cells z8A 46)
  replace hy := hy.alloc (.cells z8A 46)
  have hrlt := hr.lt
  replace hr := hr.alloc (.cells z8A 46)
  have hBz := hB.size
  replace hB := hB.alloc hBz (.cells z8A 46)
  go_upto_region 2 with fail
  generalize World.alloc w0 _ = w1 at *
  generalize w0.heap.size = ga at *
  go_wp2_with fail
  go_loopw [9] (fun ix wr => ∃ (i : Nat) (al : List Nat), i ≤ 4 ∧ ix = .int .i64 i ∧ al.length = 8 ∧ Wd al ∧ (∀ j, i + 4 ≤ j → al.getD j 0 = 0) ∧ Hid (valK al = valK (xs.take i) * n) ∧ Lies wr ga 46 ((al.map w64).toArray) ∧ Lies wr W.heap.size 24 X ∧ Lies wr (W.heap.size + 1) 24 Y ∧ Lies wr (W.heap.size + 2) 24 fe0A ∧ Below W.heap.size W wr) (fun ix _ => 4 - (intOf ix).toNat)
  case atStart => exact ⟨0, List.replicate 8 0, by omega, rfl, rfl, (fun d hd => by rw [List.mem_replicate] at hd; omega), (fun j _ => by rw [List.getD_eq_getElem?_getD, List.getElem?_replicate]; split <;> rfl), Lib.hid (by rw [valK_zeros, List.take_zero]; simp [valK]), ha, hx, hy, hr, hB⟩
  case round =>
    clear ha hx hy hr hB
    obtain ⟨i, al, hi, rfl, hl8, hw, hz, HV, ha, hx, hy, hr, hB⟩ := hrel
    by_cases hlt : i < 4
    · have HZ := Lib.hid hz
      have hxi := hma i hlt
      have bx := wm.at i
      have HX := Lib.hid (valK_take_succ xs i)
      generalize xs.getD i 0 = x at *
      clear hz
      obtain ⟨wq, hwq⟩ : ∃ wq, wq = wr := ⟨_, rfl⟩
      subst hwq
      go_wp2_with fail
      go_loopw [7, 12] (fun cx kx wv => ∃ (k c : Nat) (al : List Nat), k ≤ 4 ∧ kx = .int .i64 k ∧ cx = w64 c ∧ c < 18446744073709551616 ∧ al.length = 8 ∧ Wd al ∧ Hid (∀ j, i + 4 ≤ j → al.getD j 0 = 0) ∧ Hid (valK al + 18446744073709551616 ^ (i + k) * c = valK (xs.take i) * n + 18446744073709551616 ^ i * (x * valK (ys.take k))) ∧ Lies wv ga 46 ((al.map w64).toArray) ∧ Lies wv W.heap.size 24 X ∧ Lies wv (W.heap.size + 1) 24 Y ∧ Lies wv (W.heap.size + 2) 24 fe0A ∧ Below W.heap.size W wv) (fun _ kx _ => 4 - (intOf kx).toNat)
      case atStart => exact ⟨0, 0, al, by omega, rfl, rfl, by decide, hl8, hw, HZ, Lib.hid (by rw [HV.out]; simp [valK]), ha, hx, hy, hr, hB⟩
      case round =>
        clear ha hx hy hr hB HV HZ hw hl8
        obtain ⟨k, c, al, hk, rfl, rfl, hc, hl8, hw, HZ, HV, ha, hx, hy, hr, hB⟩ := hrel
        by_cases hltk : k < 4
        · have cx := cell_regrown ((hx.cell i).trans hxi)
          have cy := cell_regrown ((hy.cell k).trans (hna k hltk))
          obtain ⟨j, hj⟩ : ∃ j, i + k = j := ⟨_, rfl⟩
          have hj8 : j < 8 := by omega
          have ca := cell_regrown ((ha.cell j).trans (listA_at al j (by omega)))
          have b_y := wn.at k
          have bo := hw.at j
          have HY := Lib.hid (valK_take_succ ys k)
          have HSt := Lib.hid (fun (o nw q y : Nat) (ho : al.getD (i + k) 0 = o) => @inner_step al (valK (xs.take i) * n) (valK (ys.take k)) x y c o nw q i k (by omega) ho HV.out)
          rw [hj] at HSt
          generalize ys.getD k 0 = y at *
          generalize hao : al.getD j 0 = o at *
          clear hao
          obtain ⟨q, nw, b5, b6, hsum, HM⟩ := wordTimes_any x y o c bx b_y bo hc
          have hsum' : nw + 18446744073709551616 * q = x * y + c + o := by rw [hsum]; omega
          have HSum := Lib.hid hsum'
          have cM := reg (W := wr) (fun w _ => HM w)
          have HW := Lib.hid hw
          have HBs := Lib.hid (And.intro b5 b6)
          clear hw hsum hsum' HM b_y bo
          have hji : IntKind.i64.wrap ((i : Int) + (k : Int)) = (j : Int) := by rw [IntWalk.i64_in _ (by omega)]; omega
          have hjc : (i : Int) + (k : Int) = (j : Int) := by omega
          have hj8i : (j : Int) < 8 := by omega
          go_upto_region 9 with fail
          refine wp_region_below_tail 21 (by kernel_rfl) (by kernel_rfl) ?_
          simp only [List.take_succ_cons, List.take_zero, List.drop_succ_cons, List.drop_zero]
          repeat (go_big_quiet_step (with_reducible exact cM _ _))
          refine wpQuiet_nil ?_
          intro w3 hw3
          have hb : Below wr.heap.size wr w3 := by obtain ⟨⟨dq, osq⟩, rfl⟩ := hw3; exact below_regrown wr dq osq
          clear hw3 cx cy ca cM
          replace hx := hx.on hb
          replace hy := hy.on hb
          replace hr := hr.on hb
          replace ha := ha.on hb
          replace hB := below_on hB hb
          clear hb
          have ca := (ha.cell j).trans (listA_at al j (by omega))
          have fa := ha.frozen j
          generalize al.getD j 0 = o2 at ca
          go_wp2_with fail
          go_roundw
          case rel => exact ⟨k + 1, q, al.set j nw, by omega, by go_num, rfl, HBs.out.1, by rw [List.length_set]; exact hl8, HW.out.set j HBs.out.2, Lib.hid (fun t ht => by rw [set_getD _ _ _ _ (by omega)]; exact HZ.out t ht), Lib.hid (by rw [HY.out]; exact HSt.out o nw q y rfl HSum.out), by rw [← listA_set]; exact ha.put j _, hx.far (by simp only; omega) _, hy.far (by simp only; omega) _, hr.far (by simp only; omega) _, below_put hB (by omega) _ _⟩
          case measure => simp [intOf]; omega
        · obtain rfl : k = 4 := by omega
          have hi4 : i + 4 < al.length := by omega
          have ca := (ha.cell (i + 4)).trans (listA_at al (i + 4) hi4)
          have fa := ha.frozen (i + 4)
          have HR := Lib.hid (row_step hi4 (HZ.out (i + 4) (Nat.le_refl _)) (by
            have h := HV.out
            rw [List.take_of_length_le (show ys.length ≤ 4 by omega), hnv.out] at h
            exact h))
          have hji : IntKind.i64.wrap ((i : Int) + 4) = (i : Int) + 4 := by rw [IntWalk.i64_in _ (by omega)]
          generalize al.getD (i + 4) 0 = o at ca
          clear HV
          go_wp2_with fail
          go_roundw
          case rel => exact ⟨i + 1, al.set (i + 4) c, by omega, by go_num, by rw [List.length_set]; exact hl8, hw.set _ hc, (fun t ht => by rw [set_getD _ _ _ _ (by omega)]; exact HZ.out t (by omega)), Lib.hid (by rw [HX.out]; exact HR.out), by rw [← listA_set]; exact ha.put (i + 4) _, hx.far (by simp only; omega) _, hy.far (by simp only; omega) _, hr.far (by simp only; omega) _, below_put hB (by omega) _ _⟩
          case measure => simp [intOf]; omega
    · obtain rfl : i = 4 := by omega
      rw [show ((4 : Nat) : Int) = 4 from rfl]
      have hmn : valK al = m * n := by
        have h := HV.out
        rwa [List.take_of_length_le (by omega), hmv.out] at h
      have HMN := Lib.hid hmn
      have HW := Lib.hid hw
      have hLw := HW.out
      have HL := Lib.hid (fun (w : World) g (hd : Wrd w g 0 al) (hT : Tab w) => long_any al g 0 8 w (by omega) hLw hd hT)
      rw [hmn, hl8] at HL
      have hd := lies_wrd ha
      have hT := hT0.out.on hB
      obtain ⟨V, hV⟩ : ∃ V, m * n % l25 = V := ⟨_, rfl⟩
      rw [hV] at HL
      have HV2 := Lib.hid hV
      clear hV
      clear hw hz HV hx hy hmn hma hna wm wn hml hnl hmv hnv HMN HW hLw ha hl8
      go_wp2_with (first
        | (go_at_call 21; refine (HL.out _ _ hd hT).mono ?_; rintro e w3 ⟨rfl, hb⟩; replace hr := hr.on hb; replace hB := below_on hB hb; clear hb)
        | ((with_reducible refine wpL_store (W.heap.size + 1 + 1) 24 _ (feA V) 4 rowFe rfl (feA_size _) (feA_one _) hr ?_ ?_ ?_); rfl; rfl))
      exact bodyPost_ret (results_row Tryd.results13 rowFe (feA_size _) (hr.row _) rfl) rfl ⟨by rw [HV2.out], below_rowSet hB (by omega) _⟩
end Go.Proofs.YtknpgijapbkebaaDoor.F
