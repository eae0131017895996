/- The statement ParseKeys, walked. -/
import Derived.Test.YtmbmeidkmhajbaaDoorL8
import Derived.Deep.Cut
import Derived.Deep.QuietTactic
import Derived.BigQuiet
import Derived.Laws.BytesArg
namespace Go.Proofs.YtmbmeidkmhajbaaDoor.V
open Go.RowKit Go.Sort Go.Joins
set_option maxRecDepth 100000

theorem bytes_takeK (x : List UInt8) (k : Nat) : (⟨x.toArray⟩ : ByteArray).extract 0 k = ⟨(x.take k).toArray⟩ := by
  apply ByteArray.ext
  apply Array.ext'
  simp
theorem sliceK (x : List UInt8) (k : Nat) (z : Int) (hz : z = (k : Int)) : (⟨x.toArray⟩ : ByteArray).extract 0 (min (x.length : Int) z).toNat = ⟨(x.take k).toArray⟩ := by
  subst hz
  have hm : (min (x.length : Int) (k : Int)).toNat = min x.length k := by omega
  rw [bytes_takeK, hm]
  congr 2
  by_cases h : x.length ≤ k
  · rw [Nat.min_eq_left h, List.take_of_length_le h, List.take_length]
  · rw [Nat.min_eq_right (by omega)]
theorem isV_txtK (w : World) (s : List UInt8) (h : s.length ≤ maxLen) : IsV w 1 [.int .i64 2, .int .i64 0, .string ⟨s.toArray⟩, .slice none 0 0, .slice none 0 0] (.mk 2 0 s [] []) :=
  isV_make (s := s) (css := []) (RowL.nil w 5) rfl (fun i cs h => by simp at h) (Strs.nil w) ⟨(show -9223372036854775808 ≤ (2 : Int) ∧ (2 : Int) ≤ 9223372036854775807 by decide), (show -9223372036854775808 ≤ (0 : Int) ∧ (0 : Int) ≤ 9223372036854775807 by decide), h, fun x h => by cases h⟩
theorem below_drawnK {B : Nat} {a w : World} (h : RowKit.Below B a w) (n : Nat) : RowKit.Below B a (w.drewN n) := ⟨h.os, h.tape, h.output, h.size, h.block⟩
theorem txt_okB (k : List UInt8) : (VT.mk 2 0 k [] []).okB = textOk k := by
  unfold VT.okB
  rw [count_eq, countL_nil, depth_eq, depthL_nil, each_eq, eachL_nil]
  cases h : textOk k with
  | true => rw [List.length_nil, oneB_txt h]; rfl
  | false => simp [oneB, h]
/-- Print of a text -/
theorem printTxt (k : List UInt8) (w : World) (hk : k.length ≤ maxLen) (hM : MaxAt w) (hT : Tab w) :
    Calls Tryd.prog 14 #[.agg #[.int .i64 2, .int .i64 0, .string ⟨k.toArray⟩, .slice none 0 0, .slice none 0 0]] w fun e w' => e = .returned (.tuple #[.string (if textOk k then ⟨(quotL k).toArray⟩ else ⟨#[]⟩), .int .i64 (if textOk k then 0 else 1)]) ∧ Below w.heap.size w w' := by
  cases h : textOk k with
  | true =>
    have h1 := print_yes 1 _ _ w (isV_txtK w k hk) (by rw [txt_okB]; exact h) hM hT
    rw [wr_eq, if_neg (by decide), if_pos rfl] at h1
    exact h1
  | false => exact print_no 1 _ _ w (isV_txtK w k hk) (by rw [txt_okB]; exact h)
theorem conv_one (w : World) (z : Int) :
    (convert 42 9 (.slice (some ⟨w.heap.size, 0, none⟩) 1 1)).run Tryd.prog (w.alloc (.cells #[.int .u8 z] 5)) = .ok (.string ⟨#[UInt8.ofNat z.toNat]⟩) (w.alloc (.cells #[.int .u8 z] 5)) :=
  run_convert_bytes_arg (P := Tryd.prog) _ 42 5 Tryd.underlying42 Tryd.underlying5 w.heap.size 0 1 1 [z] rfl (fun i hi => by
    obtain rfl : i = 0 := by omega
    exact (Lies.new w 5 #[.int .u8 z]).cell 0) 9 Tryd.underlying9
theorem str_zero (T q : List UInt8) : Value.string (⟨T.toArray⟩ ++ (⟨q.toArray⟩ ++ ⟨#[58]⟩ ++ ⟨#[48]⟩)) = .string ⟨(T ++ (q ++ [58, 48])).toArray⟩ := by
  congr 1
  apply ByteArray.ext
  apply Array.ext'
  simp [ByteArray.data_append]
theorem str_succ (T q : List UInt8) (j : Nat) : Value.string (⟨T.toArray⟩ ++ ⟨#[44]⟩ ++ (⟨q.toArray⟩ ++ ⟨#[58]⟩ ++ ⟨#[48 + (UInt8.ofNat j + 1)]⟩)) = .string ⟨(T ++ ([44] ++ (q ++ [58, UInt8.ofNat (48 + (j + 1))]))).toArray⟩ := by
  have hD : (48 + (UInt8.ofNat j + 1) : UInt8) = UInt8.ofNat (48 + (j + 1)) := by rw [UInt8.ofNat_add, UInt8.ofNat_add]; rfl
  rw [hD]
  congr 1
  apply ByteArray.ext
  apply Array.ext'
  simp [ByteArray.data_append]
def CK (L : List (List UInt8)) (j : Nat) : List (List UInt8) := (L.take j).map fun x => x.take 20
theorem CK_len {L : List (List UInt8)} {j : Nat} (h : j ≤ L.length) : (CK L j).length = j := by unfold CK; simp; omega
theorem CK_succ {L : List (List UInt8)} {j : Nat} {x : List UInt8} (h : L[j]? = some x) : CK L (j + 1) = CK L j ++ [x.take 20] := by
  unfold CK
  rw [List.take_add_one (l := L), h, List.map_append]
  rfl
/-- what stands written when j of them were -/
def txtK (L : List (List UInt8)) (j : Nat) : List UInt8 := 123 :: wrM true (numsK j) (CK L j)
theorem txtK_succ {L : List (List UInt8)} {j : Nat} {x : List UInt8} (hj : j < 10) (h : L[j]? = some x) : txtK L (j + 1) = txtK L j ++ ((if j = 0 then [] else [44]) ++ (quotL (x.take 20) ++ [58, UInt8.ofNat (48 + j)])) := by
  unfold txtK
  rw [CK_succ h, keys_text hj (CK_len (by have := (List.getElem?_eq_some_iff.1 h).1; omega))]
  rfl
theorem txtK_len {L : List (List UInt8)} : ∀ j : Nat, j ≤ L.length → j ≤ 9 → (txtK L j).length ≤ 45 * j + 1 := by
  intro j
  induction j with
  | zero => intro _ _; unfold txtK; rw [show numsK 0 = [] from rfl, wrM_nil]; simp
  | succ j ih =>
    intro h h9
    rw [txtK_succ (by omega) (List.getElem?_eq_getElem (by omega))]
    have h1 := ih (by omega) (by omega)
    have h2 := quotL_len (L[j].take 20)
    have h3 : (L[j].take 20).length ≤ 20 := by rw [List.length_take]; omega
    simp only [List.length_append, List.length_cons, List.length_nil]
    split <;> simp <;> omega
set_option maxHeartbeats 12800000 in
theorem keys12_walk (v : Value) (S : List (List UInt8)) (W : World) (hv : Strs W v S) (hM : MaxAt W) (hT : Tab W) (her : ErrAt W) :
    Calls Tryd.prog 5 #[v] W fun e w' => e = .returned (.bool true) ∧ Below W.heap.size W w' := by
  obtain ⟨i0, hi, hz0, hz1, hz2⟩ := info_parts infoST
  have HAl := Lib.hid (fun (w1 : World) (hb : Below W.heap.size W w1) => alive12_any w1 (her.below hb))
  have HPr := Lib.hid (fun (k : List UInt8) (w1 : World) (hb : Below W.heap.size W w1) (hk : k.length ≤ maxLen) => printTxt k w1 hk (hM.below hb) (hT.below hb))
  have HEr := Lib.hid (fun (w1 : World) (hb : Below W.heap.size W w1) => her.below hb)
  clear hM hT her
  have hrow := strs_row hv
  obtain ⟨a0, c0, rfl, hc0, hm0, hn0⟩ := hrow.form
  clear hv
  rw [List.length_map] at hrow hc0 ⊢
  obtain ⟨r, hr⟩ : ∃ r : Nat, r = min S.length 8 := ⟨_, rfl⟩
  have hrI : min (S.length : Int) 8 = (r : Int) := by omega
  have hrS : r ≤ S.length := by omega
  have hr8 : r ≤ 8 := by omega
  obtain ⟨L, hL⟩ : ∃ L, S.take r = L := ⟨_, rfl⟩
  have hLl : L.length = r := by rw [← hL, List.length_take]; omega
  clear hr
  have hcap : S.length ≤ 9223372036854775807 := by unfold maxLen at hm0; omega
  have hoM := OwnL.made W W.heap.size 9 1 (Nat.le_refl _)
  have hb0 := (RowKit.Below.refl W.heap.size W).alloc (Nat.le_refl _) (.cells #[] 9)
  have hrow1 := hrow.below ((RowKit.Below.refl W.heap.size W).alloc (Nat.le_refl _) (.cells #[] 9))
  clear hrow
  have hu : ∀ u ∈ (L.map oneL).flatten, u.oneCell' = true := rowOnes L
  have h63 : ([] : List (List Value)).length + (L.map oneL).length ≤ maxLen := by rw [List.length_map, hLl]; unfold maxLen; simp; omega
  have h64 : (([] : List (List Value)).length + (L.map oneL).length) * 16 ≤ 140737488355328 := by rw [List.length_map, hLl]; simp; omega
  have hrc : ([] ++ L.map oneL).length = r := by rw [List.nil_append, List.length_map, hLl]
  have hbs : W.heap.size ≤ (W.alloc (.cells #[] 9)).heap.size := by simp
  go_enter Tryd.func5, Tryd.ntmps5
  go_upto_region 2 with ((with_reducible refine wpL_cutR a0 S.length c0 r _ hrow1 hrS ?_ ?_ ?_); rfl; (first | rfl | (show Value.int .i64 (min (S.length : Int) 8) = _; rw [hrI])); intro v8 hR8; rw [← List.map_take, hL] at hR8; obtain ⟨a8, c8, rfl, _, _, _⟩ := hR8.form; rw [List.length_map, hLl] at hR8 ⊢; refine wpL_appendL W.heap.size 9 i0 _ 1 16 Tryd.underlying23 hi hz0 hz1 hz2 rfl (by decide) _ [] hoM _ (L.map oneL) hR8 hu h63 h64 hbs ?_ ?_ ?_; rfl; rfl; intro v9 w1 ho1 hg1; obtain ⟨b1, c1, rfl, hbc1, _, _⟩ := ho1.read.form; rw [hrc] at ho1 ⊢)
  have hb : RowKit.Below W.heap.size W w1 := hb0.grown hg1 hbs (fun k hk => hoM.lt k hk)
  have ho : OwnL w1 W.heap.size 9 1 (.slice b1 r c1) ((cutRow L 0).map oneL) := by
    have h := ho1
    rw [List.nil_append] at h
    exact h
  clear ho1 hg1 hbs hb0 hoM hrow1 hR8 hu h63 h64 hrc hrI hrS hcap hn0 hm0 hc0 hL hi hz0 hz1 hz2
  go_wp2
  go_loopw [3, 4, 5, 6, 7, 8, 24] (fun sv ov _ _ _ _ iv wr => ∃ j : Nat, iv = .int .i64 (j : Int) ∧ j ≤ r ∧ sv = .string ⟨(txtK L j).toArray⟩ ∧ ov = .bool (ordB none (CK L j)) ∧ Hid (∀ k ∈ CK L j, textOk k = true) ∧ OwnL wr W.heap.size 9 1 (.slice b1 r c1) ((cutRow L j).map oneL) ∧ RowKit.Below W.heap.size W wr) (fun _ _ _ _ _ _ iv _ => r - (intOf iv).toNat)
  case atStart =>
    refine ⟨0, rfl, Nat.zero_le _, ?_, ?_, Lib.hid (fun k hk => by cases hk), ho, hb⟩
    · unfold txtK
      rw [show numsK 0 = [] from rfl, wrM_nil]
    · rw [show CK L 0 = [] from rfl, ordB]
  case round =>
    clear ho hb
    obtain ⟨j, rfl, hj, rfl, rfl, HTx, ho, hb⟩ := hrel
    obtain ⟨O, hO⟩ : ∃ O, ordB none (CK L j) = O := ⟨_, rfl⟩
    rw [hO]
    by_cases hlt : j < r
    case neg =>
      obtain rfl : j = r := by omega
      have i1 : ¬ (j : Int) < (j : Int) := by omega
      have hlen := txtK_len (L := L) j (by omega) (by omega)
      have hkl : (CK L j).length = (numsK j).length := by rw [CK_len (by omega), numsK_len]
      have hl2 : (123 :: (wrM true (numsK j) (CK L j) ++ [125])).length ≤ 65536 := by
        unfold txtK at hlen
        simp only [List.length_cons, List.length_append, List.length_nil] at hlen ⊢
        omega
      have s1 : ¬ 9223372036854775807 < (txtK L j).length + 1 := by omega
      have hcat : (⟨(txtK L j).toArray⟩ : ByteArray) ++ ⟨#[125]⟩ = ⟨(123 :: (wrM true (numsK j) (CK L j) ++ [125])).toArray⟩ := by
        apply ByteArray.ext
        apply Array.ext'
        unfold txtK
        simp [ByteArray.data_append]
      have hct := numsK_count j
      have hdp := numsK_depth j
      rw [← hLl, cutRow_all, hLl] at ho
      have hCKL : L.map (fun x => x.take 20) = CK L j := by unfold CK; rw [← hLl, List.take_length]
      rw [hCKL] at ho
      cases O with
      | false =>
        have HPa := Lib.hid (fun (w1 : World) (hb : RowKit.Below W.heap.size W w1) => by
          have h := parse_bad w1 (HEr.out w1 hb) (rdP_order (numsK_each j (by omega)) (by omega) (by omega) hkl HTx.out hO hl2)
          rw [← hcat] at h
          exact h)
        clear hcat hl2 hct hdp hkl hCKL hO HTx HPr HEr ho hlen
        go_upto_region 16 with (first
          | (go_at_call 6; refine (HPa.out _ hb).mono ?_; rintro e w2 ⟨rfl, hb2⟩; replace hb := hb.trans (hb2.mono hb.size))
          | ((with_reducible refine wpL_store w2.heap.size 25 valZ valZ 5 rowVal rfl rfl (valC_one _ _ _ _ _ _ _ _ _) (Lies.new w2 _ _) ?_ ?_ ?_); rfl; rfl))
        have hbY := below_rowSet ((RowKit.Below.refl w2.heap.size w2).alloc (Nat.le_refl _) (.cells valZ 25)) (Nat.le_refl _) valZ
        replace hb := hb.trans (hbY.mono hb.size)
        generalize World.setRow _ _ _ = w3 at *
        go_wp2_with (go_at_call 8; refine (HAl.out _ hb).mono ?_; rintro e w6 ⟨rfl, hb6⟩; replace hb := hb.trans (hb6.mono hb.size))
        go_ret
        exact ⟨rfl, hb⟩
      | true =>
        have HPa := Lib.hid (fun (w1 : World) (hb : RowKit.Below W.heap.size W w1) => by
          have h := parse_ok w1 (HEr.out w1 hb) (rdP_keys (numsK_each j (by omega)) (by omega) (by omega) hkl HTx.out hO hl2)
          rw [← hcat] at h
          exact h)
        have HFi := Lib.hid (fun (i : Nat) (k : List UInt8) (hk : (CK L j)[i]? = some k) => keysT_field (CK_len (by omega)) hO hk)
        clear hcat hl2 hct hdp hkl hCKL hO HTx HPr HEr hlen
        have hCl := CK_len (L := L) (j := j) (by omega)
        obtain ⟨ks, hks⟩ : ∃ ks, CK L j = ks := ⟨_, rfl⟩
        rw [hks] at HPa HFi ho hCl
        clear hks
        go_upto_region 16 with (first
          | (go_at_call 6; refine (HPa.out _ hb).mono ?_; rintro e w2 ⟨cs, d, rfl, hx, hb2⟩; replace hb := hb.trans (hb2.mono hb.size); replace ho := ho.on hb2)
          | ((with_reducible refine wpL_store w2.heap.size 25 valZ cs.toArray 5 rowVal rfl (isV_onesG hx).1 (isV_onesG hx).2 (Lies.new w2 _ _) ?_ ?_ ?_); rfl; rfl))
        have hbY := below_rowSet ((RowKit.Below.refl w2.heap.size w2).alloc (Nat.le_refl _) (.cells valZ 25)) (Nat.le_refl _) cs.toArray
        have lA := (Lies.new w2 25 valZ).row cs.toArray
        replace hb := hb.trans (hbY.mono hb.size)
        replace ho := ho.on hbY
        replace hx := hx.below hbY
        clear HPa hb2
        generalize World.setRow _ _ _ = w3 at *
        generalize w2.heap.size = b at *
        clear hbY
        obtain ⟨d, rfl⟩ : ∃ e, d = e + 1 := ⟨d - 1, by
          have := hx.deep
          rw [depth_eq] at this
          omega⟩
        have hc5 := (isV_onesG hx).1
        have HX := Lib.hid (fun (w : World) (hw : RowKit.Below w3.heap.size w3 w) (i : Nat) (k : List UInt8) (hk : ks[i]? = some k) => (show Calls Tryd.prog 11 #[.agg cs.toArray, .string ⟨k.toArray⟩, .int .i64 1] w fun e w' => FieldPost w d (some (numK i)) e w' from by
          have h := field_any d cs _ k 1 w (hx.below hw)
          rw [show fieldV (VT.mk 4 0 [] (numsK j) ks) k 1 = some (numK i) from HFi.out i k hk] at h
          exact h))
        have HLa := Lib.hid (fun (w : World) (hw : RowKit.Below w3.heap.size w3 w) => lA.on hw)
        have HRow := Lib.hid (fun (w : World) (hw : RowKit.Below w3.heap.size w3 w) => (ho.on hw).read)
        have q4 : ∃ ak ck, ∀ w, RowKit.Below w3.heap.size w3 w → w.cell? ⟨b, 4, none⟩ = some (.slice ak j ck) := by
          obtain ⟨ai, ci, ak, ck, hcs⟩ := hx.form
          refine ⟨ak, ck, fun w hw => ?_⟩
          have h := (lA.on hw).cell 4
          rw [hcs] at h
          rw [← hCl]
          exact h
        obtain ⟨ak, ck, q4⟩ := q4
        have HQ := Lib.hid q4
        clear q4 hx lA ho
        go_wp2
        go_loopw [11, 12, 13, 14, 92] (fun _ _ _ _ iv wr => ∃ i : Nat, iv = .int .i64 (i : Int) ∧ i ≤ j ∧ RowKit.Below w3.heap.size w3 wr) (fun _ _ _ _ iv _ => j - (intOf iv).toNat)
        case atStart => exact ⟨0, rfl, Nat.zero_le _, RowKit.Below.refl _ _⟩
        case round =>
          obtain ⟨i, rfl, hi, hbr⟩ := hrel
          by_cases hlt : i < j
          case neg =>
            obtain rfl : i = j := by omega
            have q4 := HQ.out _ hbr
            have hbe := hb.trans (hbr.mono hb.size)
            clear HX HLa HRow HFi hc5 hCl hlt hi
            go_wp2_with (go_at_call 8; refine (HAl.out _ hbe).mono ?_; rintro e w6 ⟨rfl, hb6⟩; replace q4 := HQ.out _ (hbr.trans (hb6.mono hbr.size)))
            go_ret
            exact ⟨rfl, hbe.trans (hb6.mono hbe.size)⟩
          obtain ⟨k, hk⟩ : ∃ k, ks[i]? = some k := ⟨_, List.getElem?_eq_getElem (by omega)⟩
          obtain ⟨bb, off, rfl, hr, _⟩ := (HRow.out _ hbr).at (i := i) (cs := oneL k) (by rw [List.getElem?_map, hk]; rfl)
          have q0 := hr 0 (.string ⟨k.toArray⟩) rfl
          rw [Nat.mul_one, Nat.add_zero] at q0
          have i2 : (i : Int) < (j : Int) := by omega
          have i3 : (0 : Int) ≤ (i : Int) := by omega
          have HC := Lib.hid (HX.out _ hbr i k hk)
          have lB := HLa.out _ hbr
          clear HX HFi HQ hr hk hCl hlt HLa
          go_upto_region 22 with (first
            | ((with_reducible refine wpL_load b 25 cs.toArray 5 rowVal hc5 lB ?_ ?_); rfl)
            | (go_at_call 11; refine (HC.out).mono ?_; rintro e w4 ⟨cs1, rfl, HN, hb4⟩; have hy := HN.out _ hb4)
            | ((with_reducible refine wpL_store w4.heap.size 25 valZ cs1.toArray 5 rowVal rfl (isV_onesG hy).1 (isV_onesG hy).2 (Lies.new w4 _ _) ?_ ?_ ?_); rfl; rfl))
          have hbY := below_rowSet ((RowKit.Below.refl w4.heap.size w4).alloc (Nat.le_refl _) (.cells valZ 25)) (Nat.le_refl _) cs1.toArray
          have lC := (Lies.new w4 25 valZ).row cs1.toArray
          have hbn := (hbr.trans (hb4.mono hbr.size)).trans (hbY.mono (Nat.le_trans hbr.size hb4.size))
          generalize World.setRow _ _ _ = w5 at *
          generalize w4.heap.size = c at *
          have q1 : w5.cell? ⟨c, 1, none⟩ = some (.int .i64 (i : Int)) := by
            obtain ⟨ai, ci, ak, ck, hcs⟩ := hy.form
            rw [hcs] at lC
            exact lC.cell 1
          clear lC hy HN hbY hb4
          go_wp2
          go_roundw
          case rel => exact ⟨i + 1, by go_num, by omega, hbn⟩
          case measure => simp [intOf]; omega
    have hjL : j < L.length := by omega
    obtain ⟨x, hx⟩ : ∃ x, L[j]? = some x := ⟨_, List.getElem?_eq_getElem hjL⟩
    obtain ⟨k, hk⟩ : ∃ k, x.take 20 = k := ⟨_, rfl⟩
    have hk20 : k.length ≤ 20 := by rw [← hk, List.length_take]; omega
    have hTs := txtK_succ (L := L) (by omega) hx
    have hTl := txtK_len (L := L) j (by omega) (by omega)
    rw [hk] at hTs
    obtain ⟨T, hT0⟩ : ∃ T, txtK L j = T := ⟨_, rfl⟩
    rw [hT0] at hTs hTl ⊢
    clear hT0
    have hql := quotL_len k
    have hsl := sliceK x 20 20 rfl
    rw [hk] at hsl
    have hnew := cutRow_new hx
    rw [hk] at hnew
    have hCs := CK_succ hx
    rw [hk] at hCs
    have hCl := CK_len (L := L) (j := j) (by omega)
    rcases own_at ho with ⟨_, hnil⟩ | ⟨g, cc, hv, hBg, hgl, hcc, hcm, hcell, hset⟩
    · have := cutRow_len L j
      rw [hnil] at this
      simp at this
      omega
    rw [cutRow_len] at hv hset
    injection hv with hv1 hv2 hv3
    subst hv1 hv3
    obtain ⟨q0, f0⟩ := hcell j x (cutRow_at hx)
    have ho2 : OwnL (wr.setCell ⟨g, j, none⟩ (.string ⟨k.toArray⟩)) W.heap.size 9 1 (.slice (some ⟨g, 0, none⟩) r c1) ((cutRow L (j + 1)).map oneL) := by
      have h := hset j k hjL
      rw [← hk, cutRow_set hx, hk] at h
      exact h
    have hb2 : RowKit.Below W.heap.size W (wr.setCell ⟨g, j, none⟩ (.string ⟨k.toArray⟩)) := hb.setCell (p := ⟨g, j, none⟩) hBg _
    have i1 : (j : Int) < (r : Int) := by omega
    have i2 : (0 : Int) ≤ (j : Int) := by omega
    clear hcell hset hcc hcm ho hb hv2 hk
    go_upto_region 7 with fail
    generalize wr.setCell ⟨g, j, none⟩ (.string ⟨k.toArray⟩) = w3 at *
    clear q0 f0 hsl
    have q1 := own_cell ho2 hnew
    have HP := Lib.hid (fun (w1 : World) (hb : RowKit.Below W.heap.size W w1) => HPr.out k w1 hb (by unfold maxLen; omega))
    cases htk : textOk k with
    | false =>
      rw [htk] at HP
      clear hCs hCl hnew hx
      go_wp2_with (first
        | (go_at_call 15; refine (text_any ⟨k.toArray⟩ _).mono ?_; rintro e w4 ⟨rfl, hb4⟩; replace hb2 := hb2.trans (hb4.mono hb2.size))
        | (go_at_call 14; refine (HP.out _ hb2).mono ?_; rintro e w5 ⟨rfl, hb5⟩; replace hb2 := hb2.trans (hb5.mono hb2.size))
        | (go_at_call 8; refine (HAl.out _ hb2).mono ?_; rintro e w6 ⟨rfl, hb6⟩; replace hb2 := hb2.trans (hb6.mono hb2.size)))
      go_ret
      exact ⟨rfl, hb2⟩
    | true =>
      rw [htk] at HP
      have HTx2 := Lib.hid (show ∀ q ∈ CK L (j + 1), textOk q = true from fun q hq => by
        rw [hCs] at hq
        rcases List.mem_append.1 hq with hq | hq
        · exact HTx.out q hq
        · rw [List.mem_singleton.1 hq]; exact htk)
      go_upto_region 10 with (first
        | (go_at_call 15; refine (text_any ⟨k.toArray⟩ _).mono ?_; rintro e w4 ⟨rfl, hb4⟩; replace ho2 := ho2.on hb4; replace hb2 := hb2.trans (hb4.mono hb2.size))
        | (go_at_call 14; refine (HP.out _ hb2).mono ?_; rintro e w5 ⟨rfl, hb5⟩; replace ho2 := ho2.on hb5; replace hb2 := hb2.trans (hb5.mono hb2.size)))
      clear HP HTx htk hb4 hb5
      replace q1 := own_cell ho2 hnew
      have s1 : ¬ 9223372036854775807 < (quotL k).length + 1 := by omega
      have s2 : ¬ 9223372036854775807 < (quotL k).length + 1 + 1 := by omega
      have s3 : ¬ 9223372036854775807 < T.length + ((quotL k).length + 1 + 1) := by omega
      have s4 : ¬ 9223372036854775807 < T.length + 1 := by omega
      have s5 : ¬ 9223372036854775807 < T.length + 1 + ((quotL k).length + 1 + 1) := by omega
      have HTs := Lib.hid hTs
      clear hTs
      cases j with
      | zero =>
        have HO := Lib.hid (show ordB none (CK L (0 + 1)) = O by
          rw [hCs, show CK L 0 = [] from rfl, List.nil_append, ordB, ordB]
          rw [show CK L 0 = [] from rfl, ordB] at hO
          rw [← hO]; rfl)
        clear hO hCs hCl hTl hnew hx hql hk20
        go_upto_region 13 with fail
        have hcv := conv_one w5 48
        go_wp2
        go_roundw
        case rel =>
          have hba := (RowKit.Below.refl w5.heap.size w5).alloc (Nat.le_refl _) (.cells #[.int .u8 48] 5)
          refine ⟨1, rfl, by omega, ?_, congrArg Value.bool HO.out.symm, HTx2, ho2.on hba, hb2.trans (hba.mono hb2.size)⟩
          rw [show txtK L 1 = T ++ (quotL k ++ [58, 48]) from by rw [HTs.out]; rfl]
          exact str_zero T (quotL k)
        case measure => simp [intOf]; omega
      | succ j =>
        obtain ⟨p, hp⟩ : ∃ p, (CK L (j + 1))[j]? = some p := ⟨_, List.getElem?_eq_getElem (by omega)⟩
        have HO := Lib.hid (show ordB none (CK L (j + 1 + 1)) = (O && lessL p k) by
          rw [hCs, ordB_snoc, hO, lastK_at hCl none hp]
          rfl)
        have q2 : w5.cell? ⟨g, j, none⟩ = some (.string ⟨p.toArray⟩) := by
          refine own_cell ho2 ?_
          rw [cutRow_old (by omega) (by omega)]
          show (CK L (j + 1 + 1))[j]? = some p
          rw [hCs, List.getElem?_append_left (by omega), hp]
        have i3 : (j : Int) < (r : Int) := by omega
        have i4 : (0 : Int) ≤ (j : Int) := by omega
        clear hO hCs hCl hTl hnew hx hql hk20 hp
        go_upto_region 12 with fail
        cases O with
        | true =>
          go_quiet (fail)
          have hb3 : RowKit.Below W.heap.size W (w5.drewN nq) := below_drawnK hb2 _
          replace ho2 : OwnL (w5.drewN nq) W.heap.size 9 1 (.slice (some ⟨g, 0, none⟩) r c1) ((cutRow L (j + 1 + 1)).map oneL) := ho2.on (below_drawnK (RowKit.Below.refl _ _) _)
          clear hb2 q1 q2
          generalize w5.drewN nq = w6 at *
          have hcv := conv_one w6 (48 + ((j : Int) + 1))
          go_wp2
          go_roundw
          case rel =>
            have hba := (RowKit.Below.refl w6.heap.size w6).alloc (Nat.le_refl _) (.cells #[.int .u8 (48 + ((j : Int) + 1))] 5)
            refine ⟨j + 1 + 1, by go_num, by omega, ?_, ?_, HTx2, ho2.on hba, hb3.trans (hba.mono hb3.size)⟩
            · rw [show txtK L (j + 1 + 1) = T ++ ([44] ++ (quotL k ++ [58, UInt8.ofNat (48 + (j + 1))])) from by rw [HTs.out]; simp]
              exact str_succ T (quotL k) j
            · rw [HO.out, bytesLess_is]; rfl
          case measure => simp [intOf]; omega
        | false =>
          go_quiet (fail)
          have hb3 : RowKit.Below W.heap.size W (w5.drewN nq) := below_drawnK hb2 _
          replace ho2 : OwnL (w5.drewN nq) W.heap.size 9 1 (.slice (some ⟨g, 0, none⟩) r c1) ((cutRow L (j + 1 + 1)).map oneL) := ho2.on (below_drawnK (RowKit.Below.refl _ _) _)
          clear hb2 q1 q2
          generalize w5.drewN nq = w6 at *
          have hcv := conv_one w6 (48 + ((j : Int) + 1))
          go_wp2
          go_roundw
          case rel =>
            have hba := (RowKit.Below.refl w6.heap.size w6).alloc (Nat.le_refl _) (.cells #[.int .u8 (48 + ((j : Int) + 1))] 5)
            refine ⟨j + 1 + 1, by go_num, by omega, ?_, ?_, HTx2, ho2.on hba, hb3.trans (hba.mono hb3.size)⟩
            · rw [show txtK L (j + 1 + 1) = T ++ ([44] ++ (quotL k ++ [58, UInt8.ofNat (48 + (j + 1))])) from by rw [HTs.out]; simp]
              exact str_succ T (quotL k) j
            · rw [HO.out]; rfl
          case measure => simp [intOf]; omega
end Go.Proofs.YtmbmeidkmhajbaaDoor.V
