/- The contract of the program's Mul. -/
import Derived.Test.YtlbhlklgliblgaaDoorFLeast
import Derived.Test.YtlbhlklgliblgaaDoorRegion
namespace Go.Proofs.YtlbhlklgliblgaaDoor.F
open Go.RowKit Go.Sort
attribute [local irreducible] feA

abbrev z8A : Array Value := #[.int .u64 0, .int .u64 0, .int .u64 0, .int .u64 0, .int .u64 0, .int .u64 0, .int .u64 0, .int .u64 0]
/-- some words, zeros behind them -/
def padA (ws : List Nat) (n : Nat) : Array Value := ((ws ++ List.replicate (n - ws.length) 0).map w64).toArray
theorem padA_at (ws : List Nat) (n i : Nat) (hi : i < n) : (padA ws n)[i]? = some (w64 ((ws ++ List.replicate (n - ws.length) 0).getD i 0)) := by
  unfold padA
  rw [List.getElem?_toArray, List.getElem?_map, List.getElem?_eq_getElem (by simp; omega), List.getD_eq_getElem?_getD, List.getElem?_eq_getElem (by simp; omega)]
  rfl
theorem padA_set (ws : List Nat) (n i x : Nat) (hl : ws.length = i) (hi : i < n) : (padA ws n).setIfInBounds i (w64 x) = padA (ws ++ [x]) n := by
  unfold padA
  rw [List.setIfInBounds_toArray, ← List.map_set, hl, pre_set ws n i x hl hi, List.length_append, hl]
  rfl
theorem padA_full (ws : List Nat) (n : Nat) (h : ws.length = n) : padA ws n = (ws.map w64).toArray := by
  unfold padA
  rw [h, Nat.sub_self, List.replicate_zero, List.append_nil]

set_option maxRecDepth 100000 in
set_option maxHeartbeats 3200000 in
theorem mul_any (m n : Nat) (W : World) (hm : m < K256) (hn : n < K256) (hT : Tab W) :
    Calls Tryd.prog 17 #[fe m, fe n] W fun e w' => e = .returned (fe (m * n % p25)) ∧ Below W.heap.size W w' := by
  have hT0 := Lib.hid hT
  have hmv := Lib.hid (wordsL_val hm)
  have hnv := Lib.hid (wordsL_val hn)
  have wm := wordsL_wd m
  have wn := wordsL_wd n
  rw [fe, fe, feA_wordsL m, feA_wordsL n]
  have hma := wordsL_at m
  have hna := wordsL_at n
  have hml : (wordsL m).length = 4 := rfl
  have hnl : (wordsL n).length = 4 := rfl
  obtain ⟨X, hX⟩ : ∃ X, ((wordsL m).map w64).toArray = X := ⟨_, rfl⟩
  obtain ⟨Y, hY⟩ : ∃ Y, ((wordsL n).map w64).toArray = Y := ⟨_, rfl⟩
  rw [hX] at hma ⊢
  rw [hY] at hna ⊢
  clear hX hY hT
  generalize hxs : wordsL m = xs at *
  generalize hys : wordsL n = ys at *
  clear hxs hys hm hn
  go_enter Tryd.func17, Tryd.ntmps17
  have hx := ((Lies.new W 24 X).alloc (.cells Y 24)).alloc (.cells fe0A 24)
  have hy : Lies ((W.alloc (.cells X 24)).alloc (.cells Y 24)) (W.heap.size + 1) 24 Y := heap_alloc2_new W _ _
  replace hy := hy.alloc (.cells fe0A 24)
  have hr := lies3 W (.cells X 24) (.cells Y 24) 24 fe0A
  have hB := (((Below.refl W.heap.size W).alloc (Nat.le_refl _) (.cells X 24)).alloc (by simp) (.cells Y 24)).alloc (by simp; omega) (.cells fe0A 24)
  go_upto_region 1 with fail
  generalize World.alloc (World.alloc (World.alloc W _) _) _ = w0 at *
  have ha : Lies (w0.alloc (.cells z8A 50)) w0.heap.size 50 (((List.replicate 8 0).map w64).toArray) := Lies.new w0 50 z8A
  replace hx := hx.alloc (.cells z8A 50)
  replace hy := hy.alloc (.cells z8A 50)
  have hrlt := hr.lt
  replace hr := hr.alloc (.cells z8A 50)
  have hBz := hB.size
  replace hB := hB.alloc hBz (.cells z8A 50)
  go_upto_region 2 with fail
  generalize World.alloc w0 _ = w1 at *
  generalize w0.heap.size = ga at *
  go_wp2_with fail
  go_loopw [12] (fun ix wr => ∃ (i : Nat) (al : List Nat), i ≤ 4 ∧ ix = .int .i64 i ∧ al.length = 8 ∧ Wd al ∧ (∀ j, i + 4 ≤ j → al.getD j 0 = 0) ∧ Hid (valK al = valK (xs.take i) * n) ∧ Lies wr ga 50 ((al.map w64).toArray) ∧ Lies wr W.heap.size 24 X ∧ Lies wr (W.heap.size + 1) 24 Y ∧ Lies wr (W.heap.size + 2) 24 fe0A ∧ Below W.heap.size W wr) (fun ix _ => 4 - (intOf ix).toNat)
  case atStart => exact ⟨0, List.replicate 8 0, by omega, rfl, rfl, (fun d hd => by rw [List.mem_replicate] at hd; omega), (fun j _ => by rw [List.getD_eq_getElem?_getD, List.getElem?_replicate]; split <;> rfl), Lib.hid (by rw [valK_zeros, List.take_zero]; simp [valK]), ha, hx, hy, hr, hB⟩
  case round =>
    clear ha hx hy hr hB
    obtain ⟨i, al, hi, rfl, hl8, hw, hz, HV, ha, hx, hy, hr, hB⟩ := hrel
    by_cases hlt : i < 4
    · have HZ := Lib.hid hz
      have hxi := hma i hlt
      have bx := wm.at i
      have HX := Lib.hid (valK_take_succ xs i)
      generalize xs.getD i 0 = x at *
      clear hz
      obtain ⟨wq, hwq⟩ : ∃ wq, wq = wr := ⟨_, rfl⟩
      subst hwq
      go_wp2_with fail
      go_loopw [7, 15] (fun cx kx wv => ∃ (k c : Nat) (al : List Nat), k ≤ 4 ∧ kx = .int .i64 k ∧ cx = w64 c ∧ c < 18446744073709551616 ∧ al.length = 8 ∧ Wd al ∧ Hid (∀ j, i + 4 ≤ j → al.getD j 0 = 0) ∧ Hid (valK al + 18446744073709551616 ^ (i + k) * c = valK (xs.take i) * n + 18446744073709551616 ^ i * (x * valK (ys.take k))) ∧ Lies wv ga 50 ((al.map w64).toArray) ∧ Lies wv W.heap.size 24 X ∧ Lies wv (W.heap.size + 1) 24 Y ∧ Lies wv (W.heap.size + 2) 24 fe0A ∧ Below W.heap.size W wv) (fun _ kx _ => 4 - (intOf kx).toNat)
      case atStart => exact ⟨0, 0, al, by omega, rfl, rfl, by decide, hl8, hw, HZ, Lib.hid (by rw [HV.out]; simp [valK]), ha, hx, hy, hr, hB⟩
      case round =>
        clear ha hx hy hr hB HV HZ hw hl8
        obtain ⟨k, c, al, hk, rfl, rfl, hc, hl8, hw, HZ, HV, ha, hx, hy, hr, hB⟩ := hrel
        by_cases hltk : k < 4
        · have cx := cell_regrown ((hx.cell i).trans hxi)
          have cy := cell_regrown ((hy.cell k).trans (hna k hltk))
          obtain ⟨j, hj⟩ : ∃ j, i + k = j := ⟨_, rfl⟩
          have hj8 : j < 8 := by omega
          have ca := cell_regrown ((ha.cell j).trans (listA_at al j (by omega)))
          have b_y := wn.at k
          have bo := hw.at j
          have HY := Lib.hid (valK_take_succ ys k)
          have HSt := Lib.hid (fun (o nw q y : Nat) (ho : al.getD (i + k) 0 = o) => @inner_step al (valK (xs.take i) * n) (valK (ys.take k)) x y c o nw q i k (by omega) ho HV.out)
          rw [hj] at HSt
          generalize ys.getD k 0 = y at *
          generalize hao : al.getD j 0 = o at *
          clear hao
          obtain ⟨q, nw, b5, b6, hsum, HM⟩ := wordTimes_any x y o c bx b_y bo hc
          have hsum' : nw + 18446744073709551616 * q = x * y + c + o := by rw [hsum]; omega
          have HSum := Lib.hid hsum'
          have cM := reg (W := wr) (fun w _ => HM w)
          have HW := Lib.hid hw
          have HBs := Lib.hid (And.intro b5 b6)
          clear hw hsum hsum' HM b_y bo
          have hji : IntKind.i64.wrap ((i : Int) + (k : Int)) = (j : Int) := by rw [IntWalk.i64_in _ (by omega)]; omega
          have hjc : (i : Int) + (k : Int) = (j : Int) := by omega
          have hj8i : (j : Int) < 8 := by omega
          go_upto_region 9 with fail
          refine wp_region_below_tail 21 (by kernel_rfl) (by kernel_rfl) ?_
          simp only [List.take_succ_cons, List.take_zero, List.drop_succ_cons, List.drop_zero]
          repeat (go_big_quiet_step (with_reducible exact cM _ _))
          refine wpQuiet_nil ?_
          intro w3 hw3
          have hb : Below wr.heap.size wr w3 := by obtain ⟨⟨dq, osq⟩, rfl⟩ := hw3; exact below_regrown wr dq osq
          clear hw3 cx cy ca cM
          replace hx := hx.on hb
          replace hy := hy.on hb
          replace hr := hr.on hb
          replace ha := ha.on hb
          replace hB := below_on hB hb
          clear hb
          have ca := (ha.cell j).trans (listA_at al j (by omega))
          have fa := ha.frozen j
          generalize al.getD j 0 = o2 at ca
          go_wp2_with fail
          go_roundw
          case rel => exact ⟨k + 1, q, al.set j nw, by omega, by go_num, rfl, HBs.out.1, by rw [List.length_set]; exact hl8, HW.out.set j HBs.out.2, Lib.hid (fun t ht => by rw [set_getD _ _ _ _ (by omega)]; exact HZ.out t ht), Lib.hid (by rw [HY.out]; exact HSt.out o nw q y rfl HSum.out), by rw [← listA_set]; exact ha.put j _, hx.far (by simp only; omega) _, hy.far (by simp only; omega) _, hr.far (by simp only; omega) _, below_put hB (by omega) _ _⟩
          case measure => simp [intOf]; omega
        · obtain rfl : k = 4 := by omega
          have hi4 : i + 4 < al.length := by omega
          have ca := (ha.cell (i + 4)).trans (listA_at al (i + 4) hi4)
          have fa := ha.frozen (i + 4)
          have HR := Lib.hid (row_step hi4 (HZ.out (i + 4) (Nat.le_refl _)) (by
            have h := HV.out
            rw [List.take_of_length_le (show ys.length ≤ 4 by omega), hnv.out] at h
            exact h))
          have hji : IntKind.i64.wrap ((i : Int) + 4) = (i : Int) + 4 := by rw [IntWalk.i64_in _ (by omega)]
          generalize al.getD (i + 4) 0 = o at ca
          clear HV
          go_wp2_with fail
          go_roundw
          case rel => exact ⟨i + 1, al.set (i + 4) c, by omega, by go_num, by rw [List.length_set]; exact hl8, hw.set _ hc, (fun t ht => by rw [set_getD _ _ _ _ (by omega)]; exact HZ.out t (by omega)), Lib.hid (by rw [HX.out]; exact HR.out), by rw [← listA_set]; exact ha.put (i + 4) _, hx.far (by simp only; omega) _, hy.far (by simp only; omega) _, hr.far (by simp only; omega) _, below_put hB (by omega) _ _⟩
          case measure => simp [intOf]; omega
    · obtain rfl : i = 4 := by omega
      rw [show ((4 : Nat) : Int) = 4 from rfl]
      have hmn : valK al = m * n := by
        have h := HV.out
        rwa [List.take_of_length_le (by omega), hmv.out] at h
      have HMN := Lib.hid hmn
      have HW := Lib.hid hw
      have hnw := (Below.refl wr.heap.size wr).alloc (Nat.le_refl _) (.cells fe0A 24)
      have hzz := Lies.new wr 24 fe0A
      have halt := ha.lt
      have hrlt2 := hr.lt
      replace ha := ha.on hnw
      replace hr := hr.on hnw
      replace hB := below_on hB hnw
      clear hw hz HV hx hy hmn hnw hma hna wm wn hml hnl hmv hnv
      go_upto_region 14 with fail
      generalize World.alloc wr _ = w2 at *
      generalize wr.heap.size = gz at *
      go_wp2_with fail
      go_loopw [10, 44] (fun cx ix wr => ∃ (i c : Nat) (ws : List Nat), i ≤ 4 ∧ ix = .int .i64 i ∧ cx = w64 c ∧ c < 18446744073709551616 ∧ ws.length = i ∧ Wd ws ∧ Hid (valK ws + 18446744073709551616 ^ i * c = valK (al.take i) + 38 * valK ((al.drop 4).take i)) ∧ Lies wr gz 24 (padA ws 4) ∧ Lies wr ga 50 ((al.map w64).toArray) ∧ Lies wr (W.heap.size + 2) 24 fe0A ∧ Below W.heap.size W wr) (fun _ ix _ => 4 - (intOf ix).toNat)
      case atStart => exact ⟨0, 0, [], by omega, rfl, rfl, by decide, rfl, (fun d hd => by cases hd), Lib.hid rfl, hzz, ha, hr, hB⟩
      case round =>
        clear hzz ha hr hB
        obtain ⟨i, c, ws, hi, rfl, rfl, hc, hl, hw, HV, hz, ha, hr, hB⟩ := hrel
        by_cases hlt2 : i < 4
        · have ca := cell_regrown ((ha.cell i).trans (listA_at al i (by omega)))
          have cb := cell_regrown ((ha.cell (i + 4)).trans (listA_at al (i + 4) (by omega)))
          have bo := HW.out.at i
          have bx := HW.out.at (i + 4)
          have HP := Lib.hid (fun x => padA_set ws 4 i x hl hlt2)
          have HA := Lib.hid (valK_take_succ al i)
          have HH : Hid (valK ((al.drop 4).take (i + 1)) = valK ((al.drop 4).take i) + 18446744073709551616 ^ i * al.getD (i + 4) 0) := Lib.hid (by
            rw [valK_take_succ, List.getD_eq_getElem?_getD, List.getElem?_drop, ← List.getD_eq_getElem?_getD, Nat.add_comm 4 i])
          have HW2 := Lib.hid hw
          clear hw
          generalize al.getD i 0 = o at *
          generalize al.getD (i + 4) 0 = x at *
          obtain ⟨q, nw, b5, b6, hsum, HM⟩ := wordTimes_any x 38 o c bx (by decide) bo hc
          have hsum' : nw + 18446744073709551616 * q = x * 38 + c + o := by rw [hsum]; omega
          have cM : ∀ d os, Calls Tryd.prog 34 #[.int .u64 (x : Int), .int .u64 38, .int .u64 (o : Int), .int .u64 (c : Int)] (grow (redrawn wr d) os) fun e w'' => e = .returned (.tuple #[.int .u64 (q : Int), .int .u64 (nw : Int)]) ∧ ∃ p : Regrown, w'' = grow (redrawn wr p.d) p.os := reg (W := wr) (fun w _ => HM w)
          have HS := Lib.hid (high_step HV.out hsum')
          have HBs := Lib.hid (And.intro b5 b6)
          have hji : IntKind.i64.wrap ((i : Int) + 4) = (i : Int) + 4 := by rw [IntWalk.i64_in _ (by omega)]
          have hii : (i : Int) < 4 := by omega
          clear hsum hsum' HM bo bx
          go_upto_region 18 with fail
          refine wp_region_below_tail 15 (by kernel_rfl) (by kernel_rfl) ?_
          simp only [List.take_succ_cons, List.take_zero, List.drop_succ_cons, List.drop_zero]
          repeat (go_big_quiet_step (with_reducible exact cM _ _))
          refine wpQuiet_nil ?_
          intro w3 hw3
          have hb : Below wr.heap.size wr w3 := by obtain ⟨⟨dq, osq⟩, rfl⟩ := hw3; exact below_regrown wr dq osq
          clear hw3 ca cb cM
          replace hr := hr.on hb
          replace ha := ha.on hb
          replace hz := hz.on hb
          replace hB := below_on hB hb
          clear hb
          have cz := (hz.cell i).trans (padA_at ws 4 i hlt2)
          have fz := hz.frozen i
          generalize (ws ++ List.replicate (4 - ws.length) 0).getD i 0 = z at cz
          go_wp2_with fail
          go_roundw
          case rel => exact ⟨i + 1, q, ws ++ [nw], by omega, by go_num, rfl, HBs.out.1, by rw [List.length_append, hl]; rfl, HW2.out.snoc HBs.out.2, Lib.hid (by rw [valK_snoc, hl, HA.out, HH.out]; exact HS.out), by rw [← HP.out]; exact hz.put i _, ha.far (by simp only; omega) _, hr.far (by simp only; omega) _, below_put hB (by omega) _ _⟩
          case measure => simp [intOf]; omega
        · obtain rfl : i = 4 := by omega
          obtain ⟨hwe, hwK⟩ := words_feA ws hl hw
          rw [padA_full ws 4 hl, hwe] at hz
          have hv := HV.out
          have hd4 : (al.drop 4).length = 4 := by rw [List.length_drop, hl8]
          rw [List.take_of_length_le (show (al.drop 4).length ≤ 4 by omega), show (18446744073709551616 : Nat) ^ 4 = K256 by decide] at hv
          have hsp := valK_append (al.take 4) (al.drop 4)
          rw [List.take_append_drop, HMN.out, List.length_take, hl8, show min 4 8 = 4 by decide, show (18446744073709551616 : Nat) ^ 4 = K256 by decide] at hsp
          have hLb := valK_lt (l := al.take 4) (fun d hd => HW.out d (List.mem_of_mem_take hd))
          have hHb := valK_lt (l := al.drop 4) (fun d hd => HW.out d (List.mem_of_mem_drop hd))
          rw [List.length_take, hl8, show min 4 8 = 4 by decide, show (18446744073709551616 : Nat) ^ 4 = K256 by decide] at hLb
          rw [hd4, show (18446744073709551616 : Nat) ^ 4 = K256 by decide] at hHb
          generalize valK (al.take 4) = Lo at hv hsp hLb
          generalize valK (al.drop 4) = Hi at hv hsp hHb
          have hc1000 : c < 1000 := by
            unfold K256 at *
            omega
          have hmod : (valK ws + c * K256) % p25 = m * n % p25 := by
            rw [Nat.mul_comm c, hv, hsp, show Lo + K256 * Hi = Lo + 38 * Hi + p25 * (2 * Hi) by unfold K256 p25; omega, Nat.add_mul_mod_self_left]
          have HF := Lib.hid (fun w hT => reduced_any (valK ws) c w hwK hc1000 hT)
          rw [hmod] at HF
          have hT := hT0.out.on hB
          obtain ⟨r, hrr⟩ : ∃ r, m * n % p25 = r := ⟨_, rfl⟩
          rw [hrr] at HF
          have HRR := Lib.hid hrr
          clear hv hsp hLb hHb hmod hwe hwK HV HMN HW hw hrr
          generalize valK ws = V at *
          go_wp2_with (first
            | ((with_reducible refine wpL_load gz 24 (feA V) 4 rowFe (feA_size _) hz ?_ ?_); rfl)
            | (go_at_call 29; refine (HF.out _ hT).mono ?_; rintro e w3 ⟨rfl, hb⟩; replace hr := hr.on hb; replace hB := below_on hB hb; clear hb)
            | ((with_reducible refine wpL_store (W.heap.size + 1 + 1) 24 _ (feA r) 4 rowFe rfl (feA_size _) (feA_one _) hr ?_ ?_ ?_); rfl; rfl))
          exact bodyPost_ret (results_row Tryd.results17 rowFe (feA_size _) (hr.row _) rfl) rfl ⟨by rw [HRR.out], below_rowSet hB (by omega) _⟩
end Go.Proofs.YtlbhlklgliblgaaDoor.F
