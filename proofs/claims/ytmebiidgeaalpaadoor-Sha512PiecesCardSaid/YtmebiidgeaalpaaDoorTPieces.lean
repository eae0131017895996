/- What is proved: whatever text and cuts the statement of pieces is called with, it answers true; no condition. -/
import Derived.Test.YtmebiidgeaalpaaDoorTBlocks
import Derived.Maps.AppendAt
import Derived.Lib.AppendZeros
namespace Go.Proofs.YtmebiidgeaalpaaDoor.T
open Go.RowKit

theorem info3 : (Tryd.prog.info? 3).map (fun i => (i.zero, i.size, i.bytes)) = some (some (.int .i64 0), 1, 8) := by kernel_rfl
theorem info9s : (Tryd.prog.info? 9).map (fun i => (i.zero, i.size, i.bytes)) = some (some (.string { data := #[] }), 1, 16) := by kernel_rfl
/-- a slice of ints reads as these -/
def IntsAt (w : World) (A : Option Addr) (zs : List Int) : Prop := 0 < zs.length → ∃ ad : Addr, A = some ad ∧ ∀ i, i < zs.length → w.cell? (ad.add i) = some (.int .i64 (zs.getD i 0))
theorem add_block (a : Addr) (n : Nat) : (a.add n).block = a.block := by unfold Addr.add; split <;> rfl
theorem IntsAt.on {w w' : World} {A : Option Addr} {zs : List Int} (h : IntsAt w A zs) (hb : Below w.heap.size w w') : IntsAt w' A zs := fun h0 => by
  obtain ⟨ad, e, hc⟩ := h h0
  exact ⟨ad, e, fun i hi => (hb.cell (World.block_lt_of_cell? w _ (hc i hi))).trans (hc i hi)⟩

/-- the first of some cuts go into a new row -/
theorem append_cuts (W : World) (B g m c : Nat) (A : Option Addr) (zs : List Int) (hm : m ≤ zs.length) (hm2 : m ≤ 20) (hI : IntsAt W A zs) (hB : B ≤ g) (hl : Lies W g 3 #[]) :
    ∃ v w', (Builtin.append_ #[44, 44] 44 #[.slice (some ⟨g, 0, none⟩) 0 0, .slice A m c]).run Tryd.prog W = .ok v w' ∧ w'.ownsRow B 3 1 v m ((zs.take m).map (Value.int .i64)) ∧ Below B W w' := by
  obtain ⟨i0, hi, hz0, hz1, hz2⟩ := info_parts info3
  have hlt := hl.lt
  have hown : W.ownsRow B 3 1 (.slice (some ⟨g, 0, none⟩) 0 0) 0 [] := ⟨rfl, .inr ⟨g, 0, #[], rfl, hB, hl, Nat.le_refl _, Nat.zero_le _, rfl, rfl⟩⟩
  rcases Nat.eq_zero_or_pos m with h0 | h0
  · subst h0
    refine ⟨.slice (some ⟨g, 0, none⟩) 0 0, W, ?_, by simpa using hown, Below.refl _ _⟩
    cases A <;> simp [Builtin.append_, run_underlying Tryd.underlying44, sizeOf, typeInfo, hi, Builtin.lenOf, Builtin.firstCells, storeCells, loadCells, loadCellsFrom]
  · obtain ⟨ad, rfl, hc⟩ := hI (by omega)
    obtain ⟨v', w', hr, h2, h3, _⟩ := run_append_own_at (P := Tryd.prog) W B 44 44 3 i0 (.int .i64 0) 1 8 Tryd.underlying44 hi hz0 hz1 hz2 rfl (by decide) _ 0 [] hown ad m c ((zs.take m).map (Value.int .i64)) (by simp; omega) (fun j u hj => by
      rw [List.getElem?_map, List.getElem?_take] at hj
      split at hj
      · rename_i hjm
        rw [hc j (by omega), List.getD_eq_getElem?_getD]
        rw [List.getElem?_eq_getElem (by omega)] at hj ⊢
        simpa using hj
      · cases hj) (fun u hu => by
      obtain ⟨z, _, rfl⟩ := List.mem_map.1 hu
      rfl) (by unfold maxLen; omega) (by omega) (by omega)
    rw [Nat.zero_add, List.nil_append] at h2
    exact ⟨v', w', hr, h2, (Below.refl B W).grown h3 (by omega) (fun k hk => by cases hk; exact hB)⟩

/-- all places at which a text is cut -/
def cutsL (zs : List Int) (m n : Nat) : List Int := zs.take m ++ [(n : Int)]
theorem cutsL_at (zs : List Int) (m n j : Nat) (hm : m ≤ zs.length) (hj : j < m + 1) : ∃ k : Int, (cutsL zs m n)[j]? = some k ∧ (j = m → k = n) := by
  have hl : (cutsL zs m n).length = m + 1 := by simp [cutsL]; omega
  refine ⟨(cutsL zs m n)[j]'(by omega), List.getElem?_eq_getElem (by omega), fun e => ?_⟩
  subst e
  simp only [cutsL]
  rw [List.getElem_append_right (by simp; omega)]
  simp

/-- a piece goes into the sum of what is ahead of it -/
theorem write_piece (t : ByteArray) (a z : Nat) (K : H8) (b : ByteArray) (w : World) (hK : K = feed h0 (t.data.toList.take a)) (hb : b = bytesOf (tailB (t.data.toList.take a))) (h1 : a ≤ z) (h2 : z ≤ t.size) (h3 : t.size ≤ 2000) (hT : Tab w) :
    Calls Tryd.prog 18 #[.agg (sumA K b a), .string (t.extract a z)] w fun e w' => e = .returned (.tuple #[.agg (sumA (feed h0 (t.data.toList.take z)) (bytesOf (tailB (t.data.toList.take z))) z), .int .i64 0]) ∧ Below w.heap.size w w' := by
  have hl : t.data.toList.length = t.size := (Lib.size_eq t).symm
  have hsz : (t.extract a z).size = z - a := extract_size t a z h2
  have hr : rightB b.size a = true := by
    rw [hb, bytes_size, tail_length, List.length_take, hl]
    simp [rightB]
    omega
  have hw := write_yes K b (t.extract a z) a w hr (by rw [hsz]; omega) hT (by rw [hK]; exact feed_ok' h0_ok _)
  have ht : t.data.toList.take z = t.data.toList.take a ++ (t.extract a z).data.toList := by
    rw [extract_list, ← List.take_add, show a + (z - a) = z by omega]
  rw [show b.data.toList = tailB (t.data.toList.take a) by rw [hb]; rfl, hK, ← feed_append _ _ _ _ (Nat.le_refl _), ← tail_append _ _ _ (Nat.le_refl _), ← ht, hsz, show a + (z - a) = z by omega] at hw
  rw [hK]
  exact hw

theorem right_piece (t : ByteArray) (z : Nat) (K : H8) (b : ByteArray) (w : World) (hb : bytesOf (tailB (t.data.toList.take z)) = b) (h2 : z ≤ t.size) (h3 : t.size ≤ 2000) :
    Calls Tryd.prog 20 #[.agg (sumA K b z)] w fun e w' => e = .returned (.bool true) ∧ Below w.heap.size w w' := by
  have hl : t.data.toList.length = t.size := (Lib.size_eq t).symm
  have hs : b.size = z % 128 := by rw [← hb, bytes_size, tail_length, List.length_take, hl, Nat.min_eq_left h2]
  have h := right2_any K b z w (by rw [hs]; omega)
  rw [show rightB b.size z = true by rw [hs]; simp [rightB]; omega] at h
  exact h

/-- what is left at the end of a text whose pieces were all written -/
theorem end_text (t : ByteArray) (K : H8) (b : ByteArray) (w : World) (hK : K = feed h0 (t.data.toList.take t.size)) (hb : b = bytesOf (tailB (t.data.toList.take t.size))) (h3 : t.size ≤ 2000) (hT : Tab w) :
    Calls Tryd.prog 19 #[.agg (sumA K b t.size)] w fun e w' => e = .returned (.tuple #[.string (bytesOf (sumT t.data.toList)), .int .i64 0]) ∧ Below w.heap.size w w' := by
  have hl : t.data.toList.length = t.size := (Lib.size_eq t).symm
  rw [List.take_of_length_le (by omega)] at hK hb
  have hr : rightB b.size t.size = true := by
    rw [hb, bytes_size, tail_length, hl]
    simp [rightB]
    omega
  have h := end2_yes K b t.size w hr hT (by rw [hK]; exact feed_ok' h0_ok _)
  have e1 : endT K b.data.toList t.size = sumT t.data.toList := by
    rw [hK, hb, show (bytesOf (tailB t.data.toList)).data.toList = tailB t.data.toList from rfl, ← hl]
    exact end_sum _
  rw [e1] at h
  exact h
theorem sum_str (t : ByteArray) (w : World) (h3 : t.size ≤ 1000000000) (hT : Tab w) :
    Calls Tryd.prog 8 #[.slice (some ⟨w.heap.size, 0, none⟩) 1 1] (w.alloc (.cells #[.string t] 9)) fun e w' => e = .returned (.string (bytesOf (sumT t.data.toList))) ∧ Below w.heap.size w w' := by
  have h := sum_one w t.data.toList (by rw [← Lib.size_eq]; exact h3) hT
  rw [show (⟨t.data.toList.toArray⟩ : ByteArray) = t from Lib.mk_data t] at h
  exact h
theorem sum_parts (t : ByteArray) (w : World) (B : Nat) (v : Value) (ps : List (List UInt8)) (ho : w.ownsRow B 9 1 v ps.length (ps.map str)) (hf : ps.flatten = t.data.toList) (h3 : t.size ≤ 1000000000) (hT : Tab w) :
    Calls Tryd.prog 8 #[v] w fun e w' => e = .returned (.string (bytesOf (sumT t.data.toList))) ∧ Below w.heap.size w w' := by
  have h := sum_any w v ps (Strs.owned ho) (by rw [hf, ← Lib.size_eq]; exact h3) hT
  rw [hf] at h
  exact h

set_option maxRecDepth 100000 in
set_option maxHeartbeats 1600000 in
theorem pieces_walk (s : ByteArray) (A : Option Addr) (zs : List Int) (cap : Nat) (W : World) (hs : s.size ≤ maxLen) (hlen : zs.length ≤ cap) (hcap : cap ≤ maxLen) (hI : IntsAt W A zs) (hT : Tab W) :
    Calls Tryd.prog 5 #[.string s, .slice A zs.length cap] W fun e W' => e = .returned (.bool true) ∧ Below W.heap.size W W' := by
  unfold maxLen at hs hcap
  obtain ⟨i0, hi, hz0, hz1, hz2⟩ := info_parts info3
  obtain ⟨m, hm, hm2, em⟩ : ∃ m : Nat, m ≤ zs.length ∧ m ≤ 20 ∧ min (zs.length : Int) 20 = (m : Int) := ⟨min zs.length 20, by omega, by omega, by omega⟩
  obtain ⟨j0, ki, kz0, kz1, kz2⟩ := info_parts info9s
  have hs2 : (s.extract 0 (min (s.size : Int) 2000).toNat).size ≤ 2000 := by rw [ByteArray.size_extract]; omega
  go_enter Tryd.func5, Tryd.ntmps5
  go_upto_region 2 with fail
  generalize s.extract 0 (min (s.size : Int) 2000).toNat = t at *
  have HN := Lib.hid (new_any W hT)
  go_upto_region 4 with (go_at_call 10; refine HN.out.mono ?_; rintro e w1 ⟨rfl, hb1⟩; have hst1 := store_new h0 noBytes 0 w1)
  have hx0 := Lies.new w1 28 (sumA h0 noBytes 0)
  have hb2 := hb1.alloc hb1.size (.cells (sumA h0 noBytes 0) 28)
  have hgx := hb1.size
  clear hst1
  generalize hW : w1.alloc (.cells (sumA h0 noBytes 0) 28) = w2 at *
  generalize w1.heap.size = gx at *
  clear hW hb1
  go_cut [31, 32, 33] from 21 to 33 (fun s31 s32 s33 wx => ∃ g4 cap4 : Nat, s31 = .slice (some ⟨g4, 0, none⟩) (m + 1) cap4 ∧ s32 = .int .i64 ((m : Int) + 1) ∧ s33 = .int .i64 0 ∧ wx.ownsRow W.heap.size 3 1 (.slice (some ⟨g4, 0, none⟩) (m + 1) cap4) (m + 1) ((cutsL zs m t.size).map (Value.int .i64)) ∧ Below w2.heap.size w2 wx)
  case first =>
    have HC := append_cuts (w2.alloc (.cells #[] 3)) w2.heap.size w2.heap.size m cap A zs hm hm2 (hI.on (hb2.alloc hb2.size _)) (Nat.le_refl _) (Lies.new _ _ _)
    obtain ⟨v3, w3, hr3, ho3, hb3⟩ := HC
    have HR3 := Lib.hid hr3
    clear hr3
    replace hb3 := ((Below.refl _ w2).alloc (Nat.le_refl _) _).trans hb3
    have hB3 := hb3.size
    have hB2 := hb2.size
    have hl3 : ((zs.take m).map (Value.int .i64)).length = m := by simp; omega
    go_wp2_with (first | (refine Lib.wpList_append_run (o := ⟨some 27, _, _, _, _, _⟩) _ rfl _ _ 44 44 (by rfl) _ _ (by rfl) (by rfl) _ _ HR3.out ?_) | (refine wpList_append_lies (o := ⟨some 31, _, _, _, _, _⟩) _ rfl _ _ 44 (by rfl) w2.heap.size 3 i0 _ 1 8 Tryd.underlying44 hi hz0 hz1 hz2 rfl (by omega) _ m _ (by rfl) (ho3.alloc _) ⟨w3.heap.size, 0, none⟩ 1 1 _ (by rfl) (by rfl) (World.news_of_block (t := 3) (fr := (0, 0)) (heap_alloc_new w3 _)) (by simp [Value.oneCell']) (by omega) (by unfold maxLen; omega) (by omega) (by simp; omega) (w3.heap.size + 1) (by simp) ?_; intro g4 cap4 w4 ho4 hgrow4 hat4 hlt4))
    go_meet
    exact ⟨g4, cap4, rfl, rfl, rfl, own_less (by simpa [cutsL] using ho4) hB2, (hb3.alloc hB3 _).grown hgrow4 (by simp; omega) (fun j hj => (ho3.lt j hj).1)⟩
  case rest =>
    obtain ⟨g4, cap4, rfl, rfl, rfl, ho4, hb4⟩ := hcut
    have hb5 := below_on hb2 hb4
    have hx5 := hx0.on hb4
    clear hx0 hb2 hb4 hI hi hz0 hz1 hz2 em
    go_wp2_with fail
    go_loopw [6, 7, 33] (fun at_ parts i wr => ∃ (j a : Nat) (ps : List (List UInt8)) (K : H8) (b : ByteArray), j ≤ m + 1 ∧ i = .int .i64 j ∧ at_ = .int .i64 a ∧ a ≤ t.size ∧ Hid (j = m + 1 → a = t.size) ∧ wr.ownsRow W.heap.size 9 1 parts ps.length (ps.map str) ∧ Hid (ps.length = j) ∧ Hid (ps.flatten = t.data.toList.take a) ∧ Hid (K = feed h0 (t.data.toList.take a)) ∧ Hid (b = bytesOf (tailB (t.data.toList.take a))) ∧ Lies wr gx 28 (sumA K b a) ∧ wr.ownsRow W.heap.size 3 1 (.slice (some ⟨g4, 0, none⟩) (m + 1) cap4) (m + 1) ((cutsL zs m t.size).map (Value.int .i64)) ∧ Below W.heap.size W wr) (fun _ _ i _ => m + 1 - (intOf i).toNat)
    case atStart => exact ⟨0, 0, [], h0, noBytes, by omega, rfl, rfl, by omega, Lib.hid (by omega), World.ownsRow_nil _ _ _ _, Lib.hid rfl, Lib.hid rfl, Lib.hid (by rw [List.take_zero, feed_short _ _ (by decide)]), Lib.hid (by rw [List.take_zero, tail_short _ (by decide)]; rfl), hx5, ho4, hb5⟩
    case round =>
      clear hx5 ho4 hb5
      obtain ⟨j, a, ps, K, b, hj, rfl, rfl, ha, HE, hop, HP1, HP2, HK, HB, hx, hoc, hb⟩ := hrel
      by_cases hlt : j < m + 1
      · obtain ⟨k, hk, hkl⟩ := cutsL_at zs m t.size j hm hlt
        have hcell : wr.cell? ⟨g4, j, none⟩ = some (.int .i64 k) := (hoc.cellAt j (by omega)).trans (by rw [List.getElem?_map, hk]; rfl)
        have HKL := Lib.hid hkl
        clear hk hkl
        obtain ⟨z, hz1, hz2, ez⟩ : ∃ z : Nat, a ≤ z ∧ z ≤ t.size ∧ min (max k (a : Int)) (t.size : Int) = (z : Int) := ⟨(min (max k (a : Int)) (t.size : Int)).toNat, by omega, by omega, by omega⟩
        go_upto_region 8 with fail
        obtain ⟨x0, x1, x2, x3, x4, x5, x6, x7⟩ := hx.eight
        have x8 := hx.c8
        have x9 := hx.c9
        have hT1 : Tab wr.drew := hT.below hb.drew
        have hTA : ∀ o : Obj, Tab (wr.alloc o).drew := fun o => (hT.below hb).below ((Below.refl _ _).alloc (Nat.le_refl _) o).drew
        have HTA := Lib.hid hTA
        clear hTA
        have HW : Hid (∀ w, Tab w → Calls Tryd.prog 18 #[.agg #[.int .u64 (K.a : Int), .int .u64 (K.b : Int), .int .u64 (K.c : Int), .int .u64 (K.d : Int), .int .u64 (K.e : Int), .int .u64 (K.f : Int), .int .u64 (K.g : Int), .int .u64 (K.h : Int), .string b, .int .u64 (a : Int)], .string (t.extract a z)] w fun e w' => e = .returned (.tuple #[.agg (sumA (feed h0 (t.data.toList.take z)) (bytesOf (tailB (t.data.toList.take z))) z), .int .i64 0]) ∧ Below w.heap.size w w') := Lib.hid (fun w hw => write_piece t a z K b w HK.out HB.out hz1 hz2 hs2 hw)
        have hgl := hx.lt
        generalize hK2 : feed h0 (t.data.toList.take z) = K2 at *
        generalize hB2 : bytesOf (tailB (t.data.toList.take z)) = b2 at *
        have HK2 := Lib.hid hK2
        have HB2 := Lib.hid hB2
        clear hK2 hB2
        have hst1 := store_new K2 b2 z
        go_cut [11, 12] from 34 to 51 (fun s11 s12 wx => ∃ g9 : Nat, s11 = .pointer (some ⟨g9, 0, none⟩) ∧ s12 = .int .i64 0 ∧ Lies wx g9 28 (sumA K2 b2 z) ∧ wr.heap.size ≤ g9 ∧ Below wr.heap.size wr wx)
        case first =>
          go_region_with (go_at_call 18; first | ((with_reducible refine (HW.out wr.drew hT1).mono ?_); rintro e w6 ⟨rfl, hb6⟩; have hb7 : Below wr.heap.size wr w6 := (Below.refl _ wr).drew.trans hb6) | ((with_reducible refine (HW.out (wr.alloc _).drew (HTA.out _)).mono ?_); rintro e w6 ⟨rfl, hb6⟩; have hz6 := Lies.on (Lies.new wr 28 (sumA h8zero noBytes 0)).drew hb6; have hb7 := below_on (((Below.refl _ wr).alloc (Nat.le_refl _) _).drew) hb6; have hst3 := store_old (K := K2) (b := b2) (n := z) hz6))
          all_goals
            go_wp2_with fail
            go_meet
            first | exact ⟨_, rfl, rfl, Lies.new _ _ _, hb7.size, hb7.alloc hb7.size _⟩ | exact ⟨_, rfl, rfl, hz6.row _, Nat.le_refl _, below_rowSet hb7 (Nat.le_refl _) _⟩
        case rest =>
          obtain ⟨g9, rfl, rfl, hy, hg9, hbw⟩ := hcut
          replace hx := hx.on hbw
          replace hoc := own_on hoc hbw
          replace hop := own_on hop hbw
          replace hb := below_on hb hbw
          clear x0 x1 x2 x3 x4 x5 x6 x7 x8 x9 hcell hst1 hgl hT1 HTA HW hbw
          obtain ⟨y0, y1, y2, y3, y4, y5, y6, y7⟩ := hy.eight
          have y8 := hy.c8
          have y9 := hy.c9
          have HRt : Hid (∀ w, Calls Tryd.prog 20 #[.agg #[.int .u64 (K2.a : Int), .int .u64 (K2.b : Int), .int .u64 (K2.c : Int), .int .u64 (K2.d : Int), .int .u64 (K2.e : Int), .int .u64 (K2.f : Int), .int .u64 (K2.g : Int), .int .u64 (K2.h : Int), .string b2, .int .u64 (z : Int)]] w fun e w' => e = .returned (.bool true) ∧ Below w.heap.size w w') := Lib.hid (fun w => right_piece t z K2 b2 w HB2.out hz2 hs2)
          go_upto_region 11 with (go_at_call 20; refine (HRt.out wc).mono ?_; rintro e wd ⟨rfl, hbd⟩; replace hx := hx.on hbd; replace hoc := own_on hoc hbd; replace hop := own_on hop hbd; replace hb := below_on hb hbd; replace hy := hy.on hbd; replace y9 := hy.c9)
          have hlp := HP1.out
          have hgz := hb.size
          have hrow1 := own_far hop hx (by decide)
          have hrow2 := own_far hop hy (by decide)
          have hap := own_apart hoc hop (by decide)
          go_wp2_with (first | ((with_reducible refine wpL_append W.heap.size 9 j0 (.string { data := #[] }) 16 Tryd.underlying45 ki kz0 kz1 kz2 rfl _ ps.length _ (hop.alloc _) wd.heap.size (.string (t.extract a z)) (Lies.new wd _ _) rfl (by unfold maxLen; omega) (by omega) (by simp; omega) ?_ ?_ ?_); rfl; rfl; intro g6 cap6 w6 ho6 hgrow6; have hx6 := (hx.alloc _).only hgrow6 hrow1.symm; have hy6 := (hy.alloc _).only hgrow6 hrow2.symm; have hoc6 := own_grown (hoc.alloc _) hgrow6 (fun g hv e => hap g hv e); have hb6 := (hb.alloc hb.size _).grown hgrow6 (by simp; omega) (fun k hk => (hop.lt k hk).1)) | ((with_reducible refine wpL_load g9 28 (sumA K2 b2 z) 10 row29 rfl hy6 ?_ ?_); rfl) | ((with_reducible refine wpL_store gx 28 (sumA K b a) (sumA K2 b2 z) 10 row29 rfl rfl (sumA_one _ _ _) hx6 ?_ ?_ ?_); rfl; rfl))
          go_roundw
          case rel =>
            refine ⟨j + 1, z, ps ++ [(t.extract a z).data.toList], K2, b2, by omega, by go_num, rfl, hz2, Lib.hid (fun e => ?_), ?_, Lib.hid (by simp; exact hlp), Lib.hid ?_, Lib.hid HK2.out.symm, Lib.hid HB2.out.symm, hx6.row _, ?_, below_rowSet hb6 hgx _⟩
            · have := HKL.out (by omega)
              omega
            · have h := own_grown ho6 (Only.row (Only.refl w6 gx) (Or.inl rfl) (sumA K2 b2 z)) (fun g hv e => own_far ho6 hx6 (by decide) (by rw [hv]; exact e.symm))
              have e : (ps ++ [(t.extract a z).data.toList]).map str = ps.map str ++ [.string (t.extract a z)] := by
                rw [List.map_append, List.map_cons, List.map_nil, show str (t.extract a z).data.toList = .string (t.extract a z) by unfold str; rw [Lib.mk_data]]
              simpa only [e, List.length_append, List.length_cons, List.length_nil, Nat.zero_add, hlp] using h
            · rw [List.flatten_append, HP2.out, List.flatten_singleton, extract_list, ← List.take_add, show a + (z - a) = z by omega]
            · exact own_grown hoc6 (Only.row (Only.refl w6 gx) (Or.inl rfl) (sumA K2 b2 z)) (fun g hv e => own_far hoc6 hx6 (by decide) (by rw [hv]; exact e.symm))
          case measure => simp [intOf]; omega
      · obtain rfl : j = m + 1 := by omega
        obtain rfl : a = t.size := HE.out rfl
        have HF : Hid (ps.flatten = t.data.toList) := Lib.hid (by rw [HP2.out, List.take_of_length_le (by rw [← Lib.size_eq]; exact Nat.le_refl _)])
        have HEn : Hid (∀ w, Tab w → Calls Tryd.prog 19 #[.agg (sumA K b t.size)] w fun e w' => e = .returned (.tuple #[.string (bytesOf (sumT t.data.toList)), .int .i64 0]) ∧ Below w.heap.size w w') := Lib.hid (fun w hw => end_text t K b w HK.out HB.out hs2 hw)
        have HSu : Hid (∀ w, Tab w → Calls Tryd.prog 8 #[.slice (some ⟨w.heap.size, 0, none⟩) 1 1] (w.alloc (.cells #[.string t] 9)) fun e w' => e = .returned (.string (bytesOf (sumT t.data.toList))) ∧ Below w.heap.size w w') := Lib.hid (fun w hw => sum_str t w (by omega) hw)
        have HPs : Hid (∀ w B v, w.ownsRow B 9 1 v ps.length (ps.map str) → Tab w → Calls Tryd.prog 8 #[v] w fun e w' => e = .returned (.string (bytesOf (sumT t.data.toList))) ∧ Below w.heap.size w w') := Lib.hid (fun w B v ho hw => sum_parts t w B v ps ho HF.out (by omega) hw)
        have hS : ((bytesOf (sumT t.data.toList)).size : Int) = 64 := by rw [bytes_size, sumT_length]; rfl
        generalize bytesOf (sumT t.data.toList) = S at HEn HSu HPs hS
        have hT1 := hT.below hb
        clear hoc HK HB HP1 HP2 HE
        go_wp2_with (first | ((with_reducible refine wpL_load gx 28 (sumA K b t.size) 10 row29 rfl hx ?_ ?_); rfl) | (go_at_call 19; refine (HEn.out wr hT1).mono ?_; rintro e wa ⟨rfl, hba⟩; replace hb := below_on hb hba; replace hop := own_on hop hba; clear hba hT1; have hTa := hT.below hb) | (go_at_call 7; refine (alive_any wa hTa).mono ?_; rintro e wb ⟨rfl, hbb⟩; replace hb := below_on hb hbb; replace hop := own_on hop hbb; clear hbb; have hTb := hT.below hb) | (go_at_call 8; first | ((with_reducible refine (HSu.out wb hTb).mono ?_); rintro e wc ⟨rfl, hbc⟩; replace hb := below_on hb hbc; replace hop := own_on hop hbc; clear hbc; have hTc := hT.below hb) | ((with_reducible refine (HPs.out wc _ _ hop hTc).mono ?_); rintro e wd ⟨rfl, hbd⟩; replace hb := below_on hb hbd)))
        go_ret
        exact ⟨ret1_of rfl, hb⟩
end Go.Proofs.YtmebiidgeaalpaaDoor.T
