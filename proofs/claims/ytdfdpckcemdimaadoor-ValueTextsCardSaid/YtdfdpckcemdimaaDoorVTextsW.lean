/- The walk of the statement of the texts of texts and of numbers: whatever text and number, it answers true. -/
import Derived.Test.YtdfdpckcemdimaaDoorVOneW
namespace Go.Proofs.YtdfdpckcemdimaaDoor.V
open Go.RowKit Go.Sort Go.Joins
set_option maxRecDepth 100000

theorem txt_okB (s : List UInt8) : (txtT s).okB = textOk s := by
  unfold VT.okB txtT
  simp [count_eq, countL_nil, depth_eq, depthL_nil, each_eq, eachL_nil, oneB, keysOk_nil]
theorem num_okB {n : Int} (h : -999 ≤ n ∧ n ≤ 999) : (numT n).okB = true := by
  unfold VT.okB numT
  simp [count_eq, countL_nil, depth_eq, depthL_nil, each_eq, eachL_nil, oneB, keysOk_nil, textOk]
  omega
theorem txt_wr (s : List UInt8) : (txtT s).wr = quotL s := by unfold txtT; rw [wr_eq, if_neg (by decide), if_pos rfl]
theorem num_wr (n : Int) : (numT n).wr = Lib.itoa n := by unfold numT; rw [wr_eq, if_pos rfl]
/-- so many marks, in the first j bytes, all of which may be -/
def MarkTo (s : List UInt8) (j m : Nat) : Prop := (escL (s.take j)).length = j + m ∧ (s.take j).all (fun c => decide (32 ≤ c.toNat)) = true
theorem MarkTo.zero (s : List UInt8) : MarkTo s 0 0 := ⟨by rw [List.take_zero]; rfl, by rw [List.take_zero]; rfl⟩
theorem MarkTo.next {s : List UInt8} {j m : Nat} (h : MarkTo s j m) (hj : j < s.length) (h32 : 32 ≤ s[j].toNat) : MarkTo s (j + 1) (m + (if s[j] = 34 ∨ s[j] = 92 then 1 else 0)) := by
  refine ⟨?_, ?_⟩
  · rw [List.take_succ_eq_append_getElem hj, escL_snoc, List.length_append, h.1]
    split <;> simp <;> omega
  · rw [List.take_succ_eq_append_getElem hj, List.all_append, h.2]
    simpa using h32
/-- so many digits are counted, and so many left -/
def DigTo (u k g : Nat) : Prop := g + (Lib.decDigits k).length = 1 + (Lib.decDigits u).length
theorem DigTo.next {u k g : Nat} (h : DigTo u k g) (hk : 10 ≤ k) : DigTo u (k / 10) (g + 1) := by
  unfold DigTo at *
  have e : Lib.decDigits k = Lib.decDigits (k / 10) ++ [UInt8.ofNat (48 + k % 10)] := by rw [Lib.decDigits, dif_neg (by omega)]
  rw [e, List.length_append, List.length_singleton] at h
  omega
theorem DigTo.last {u k g : Nat} (h : DigTo u k g) (hk : k < 10) : g = (Lib.decDigits u).length := by
  unfold DigTo at h
  rw [Lib.decDigits_one hk, List.length_singleton] at h
  omega
theorem itoa_digits (n : Int) : (Lib.itoa n).length = (Lib.decDigits n.natAbs).length + (if n < 0 then 1 else 0) := by
  unfold Lib.itoa
  split
  · rw [List.length_cons]
  · rw [Nat.add_zero, show n.toNat = n.natAbs by omega]
theorem take_bytes (x : List UInt8) (k : Nat) : (⟨x.toArray⟩ : ByteArray).extract 0 k = ⟨(x.take k).toArray⟩ := by
  apply ByteArray.ext
  apply Array.ext'
  simp [ByteArray.data_extract]
set_option maxHeartbeats 6400000 in
theorem textsV_walk (x : List UInt8) (n : Int) (W : World) (hx : x.length ≤ maxLen) (hM : MaxAt W) (hT : Tab W) :
    Calls Tryd.prog 8 #[.string ⟨x.toArray⟩, .int .i64 n] W fun e w' => e = .returned (.bool true) ∧ Below W.heap.size W w' := by
  have hsz := str_size x
  unfold maxLen at hx
  go_enter Tryd.func8, Tryd.ntmps8
  go_upto_region 2 with fail
  have hsl : ((⟨x.toArray⟩ : ByteArray).extract 0 (min (x.length : Int) 300).toNat).size ≤ 300 := by
    rw [take_bytes, str_size, List.length_take]; omega
  have hmn : -999 ≤ n.tmod 1000 ∧ n.tmod 1000 ≤ 999 := by
    have h1 : (n.tmod 1000).natAbs = n.natAbs % 1000 := Int.natAbs_tmod n 1000
    have h2 := Nat.mod_lt n.natAbs (show 0 < 1000 by decide)
    omega
  generalize (⟨x.toArray⟩ : ByteArray).extract 0 (min (x.length : Int) 300).toNat = sb at *
  generalize n.tmod 1000 = m at *
  have hll : sb.data.toList.length = sb.size := Array.length_toList
  have hse : (⟨sb.data.toList.toArray⟩ : ByteArray) = sb := rfl
  have HAl := Lib.hid (fun (w1 : World) (hb : Below W.heap.size W w1) => alive_any w1 (hM.below hb) (hT.below hb))
  have HTx := Lib.hid (fun w1 => text_any sb w1)
  have HNm := Lib.hid (fun w1 => number_any m w1)
  have HPt := Lib.hid (fun (w1 : World) (hb : Below W.heap.size W w1) => print_any 1 [.int .i64 2, .int .i64 0, .string sb, .slice none 0 0, .slice none 0 0] (txtT sb.data.toList) w1 (isV_txt w1 sb.data.toList (by unfold maxLen; omega)) (hM.below hb) (hT.below hb))
  have HPn := Lib.hid (fun (w1 : World) (hb : Below W.heap.size W w1) => print_any 1 _ (numT m) w1 (isV_num w1 m (by omega)) (hM.below hb) (hT.below hb))
  have hpt : printT (numT m) = Lib.itoa m ∧ printE (numT m) = 0 := by
    unfold printT printE
    rw [num_okB hmn, num_wr]
    exact ⟨rfl, rfl⟩
  rw [hpt.1, hpt.2] at HPn
  clear hpt hse hx hsz hM hT
  go_wp2
  go_loopw [5, 24] (fun mv iv wr => ∃ (j g : Nat), mv = .int .i64 g ∧ iv = .int .i64 j ∧ j ≤ sb.size ∧ g ≤ j ∧ Hid (MarkTo sb.data.toList j g) ∧ Below W.heap.size W wr) (fun _ iv _ => sb.size - (intOf iv).toNat)
  case atStart => exact ⟨0, 0, rfl, rfl, Nat.zero_le _, Nat.le_refl _, Lib.hid (MarkTo.zero _), Below.refl _ _⟩
  case round =>
    obtain ⟨j, g, rfl, rfl, hj, hg, HS, hb⟩ := hrel
    by_cases hlt : j < sb.size
    · have he : sb.data.toList[j]'(by omega) = sb[j] := rfl
      have h1 : (j : Int) < (sb.size : Int) := by omega
      by_cases h32 : sb[j].toNat < 32
      · have h33 : (sb[j].toNat : Int) < 32 := by omega
        have hno : printE (txtT sb.data.toList) = 1 := by
          unfold printE
          rw [txt_okB, if_neg ?_]
          unfold textOk
          rw [Bool.and_eq_true, List.all_eq_true]
          intro h
          have := h.1 sb[j] (by rw [← he]; exact List.getElem_mem _)
          simp at this
          omega
        rw [hno] at HPt
        generalize printT (txtT sb.data.toList) = tx at *
        clear HS hno he
        go_wp2_with (first | (go_at_call 23; (with_reducible refine (HTx.out _).mono ?_); rintro e w1 ⟨rfl, hb1⟩; replace hb := below_on hb hb1) | (go_at_call 11; (with_reducible refine (HPt.out _ hb).mono ?_); rintro e w2 ⟨rfl, hb2⟩; replace hb := below_on hb hb2) | (go_at_call 10; (with_reducible refine (HAl.out _ hb).mono ?_); rintro e w3 ⟨rfl, hb3⟩; replace hb := below_on hb hb3))
        go_ret
        exact ⟨rfl, hb⟩
      · have h33 : ¬ (sb[j].toNat : Int) < 32 := by omega
        have HS2 := HS.out.next (by omega) (by rw [he]; omega)
        rw [he] at HS2
        clear HS he
        by_cases hq : sb[j] = 34
        · rw [if_pos (.inl hq)] at HS2
          have HS3 := Lib.hid HS2
          have h34 : ((sb[j].toNat : Int) == 34) = true := by rw [hq]; rfl
          clear HS2 hq
          go_wp2
          go_roundw
          case rel => exact ⟨j + 1, g + 1, by go_num, by go_num, by omega, by omega, HS3, hb⟩
          case measure => simp [intOf]; omega
        · have h34 : ((sb[j].toNat : Int) == 34) = false := by
            simp only [beq_eq_false_iff_ne, ne_eq]
            intro e
            exact hq (UInt8.toNat_inj.1 (by show sb[j].toNat = 34; omega))
          by_cases hq2 : sb[j] = 92
          · rw [if_pos (.inr hq2)] at HS2
            have HS3 := Lib.hid HS2
            have h92 : ((sb[j].toNat : Int) == 92) = true := by rw [hq2]; rfl
            clear HS2 hq hq2
            go_wp2
            go_roundw
            case rel => exact ⟨j + 1, g + 1, by go_num, by go_num, by omega, by omega, HS3, hb⟩
            case measure => simp [intOf]; omega
          · rw [if_neg (by simp [hq, hq2])] at HS2
            have HS3 := Lib.hid HS2
            have h92 : ((sb[j].toNat : Int) == 92) = false := by
              simp only [beq_eq_false_iff_ne, ne_eq]
              intro e
              exact hq2 (UInt8.toNat_inj.1 (by show sb[j].toNat = 92; omega))
            clear HS2 hq hq2
            go_wp2
            go_roundw
            case rel => exact ⟨j + 1, g, by go_num, by go_num, by omega, by omega, HS3, hb⟩
            case measure => simp [intOf]; omega
    · obtain rfl : j = sb.size := by omega
      have HM := HS.out
      unfold MarkTo at HM
      rw [List.take_of_length_le (by omega)] at HM
      have hok : textOk sb.data.toList = true := by
        unfold textOk
        rw [HM.2, decide_eq_true (by omega)]
        rfl
      have hpt : printT (txtT sb.data.toList) = quotL sb.data.toList ∧ printE (txtT sb.data.toList) = 0 := by
        unfold printT printE
        rw [txt_okB, hok, txt_wr]
        exact ⟨rfl, rfl⟩
      rw [hpt.1, hpt.2] at HPt
      have hql : (quotL sb.data.toList).length = sb.size + g + 2 := by unfold quotL; simp; omega
      have hqa : ∃ r : List UInt8, quotL sb.data.toList = 34 :: (r ++ [34]) := ⟨_, rfl⟩
      have hua : max m (-m) = (m.natAbs : Int) := by omega
      have hul := dec_len 3 m.natAbs (by omega)
      have hil := itoa_digits m
      clear HM hpt hok HS
      generalize quotL sb.data.toList = qa at *
      generalize Lib.itoa m = ia at *
      go_wp2
      go_loopw [9, 10] (fun gv kv wr => ∃ (k e : Nat), gv = .int .i64 e ∧ kv = .int .i64 k ∧ k ≤ 999 ∧ 1 ≤ e ∧ e ≤ 4 ∧ Hid (DigTo m.natAbs k e) ∧ Below W.heap.size W wr) (fun _ kv _ => (intOf kv).toNat)
      case atStart => exact ⟨m.natAbs, 1, rfl, by rw [← hua], by omega, by omega, by omega, Lib.hid (by unfold DigTo; omega), hb⟩
      case round =>
        clear hb
        obtain ⟨k, e, rfl, rfl, hk, he1, he2, HS, hb⟩ := hrel
        by_cases h10 : 10 ≤ k
        · have h11 : (k : Int) ≥ 10 := by omega
          have HS2 := HS.out.next h10
          have hdl : 1 ≤ (Lib.decDigits (k / 10)).length := List.length_pos_iff.2 (dec_ne _)
          have he3 : e + 1 ≤ 4 := by unfold DigTo at HS2; omega
          have HS3 := Lib.hid HS2
          clear HS HS2 hdl hil
          go_wp2
          go_roundw
          case rel => exact ⟨k / 10, e + 1, by go_num, congrArg (Value.int .i64) (by omega), by omega, by omega, he3, HS3, hb⟩
          case measure => simp only [intOf]; omega
        · have h11 : ¬ (k : Int) ≥ 10 := by omega
          have hel := HS.out.last (by omega)
          obtain ⟨r, hqr⟩ := hqa
          have hqs : (⟨qa.toArray⟩ : ByteArray).size = sb.size + g + 2 := by rw [str_size, hql]
          have hq0 : (⟨qa.toArray⟩ : ByteArray).data.toList[0]? = some 34 := by rw [hqr]; simp
          have hq1 : (⟨qa.toArray⟩ : ByteArray).data.toList[sb.size + g + 1]? = some 34 := by
            have h1 : r.length + 2 = sb.size + g + 2 := by rw [← hql, hqr]; simp
            rw [hqr]
            simp only [List.getElem?_cons_succ]
            rw [show sb.size + g = r.length by omega]
            simp
          clear hqr hql
          have his0 : (⟨ia.toArray⟩ : ByteArray).size = ia.length := str_size ia
          generalize (⟨qa.toArray⟩ : ByteArray) = qb at *
          generalize (⟨ia.toArray⟩ : ByteArray) = ib at *
          have z0 : 0 < qb.size := by omega
          have z1 : sb.size + g + 1 < qb.size := by omega
          have f0 : (((qb[0]'z0).toNat : Nat) : Int) = 34 := by
            have h1 : qb[0]'z0 = 34 := (List.getElem?_eq_some_iff.1 hq0).2
            rw [h1]; rfl
          have f1 : (((qb[sb.size + g + 1]'z1).toNat : Nat) : Int) = 34 := by
            have h1 : qb[sb.size + g + 1]'z1 = 34 := (List.getElem?_eq_some_iff.1 hq1).2
            rw [h1]; rfl
          have hqz : (qb.size : Int) = (sb.size : Int) + (g : Int) + 2 := by omega
          by_cases hm0 : m < 0
          · rw [if_pos hm0] at hil
            have his : (ib.size : Int) = (e : Int) + 1 := by omega
            clear HS hel hil his0 hqs hq0 hq1
            go_wp2_with (first | (go_at_call 23; (with_reducible refine (HTx.out _).mono ?_); rintro e w1 ⟨rfl, hb1⟩; replace hb := below_on hb hb1) | (go_at_call 24; (with_reducible refine (HNm.out _).mono ?_); rintro e w4 ⟨rfl, hb4⟩; replace hb := below_on hb hb4) | (go_at_call 11; (with_reducible refine (HPt.out _ hb).mono ?_); rintro e w2 ⟨rfl, hb2⟩; replace hb := below_on hb hb2) | (go_at_call 11; (with_reducible refine (HPn.out _ hb).mono ?_); rintro e w5 ⟨rfl, hb5⟩; replace hb := below_on hb hb5) | (go_at_call 10; (with_reducible refine (HAl.out _ hb).mono ?_); rintro e w3 ⟨rfl, hb3⟩; replace hb := below_on hb hb3))
            go_ret
            exact ⟨rfl, hb⟩
          · rw [if_neg hm0] at hil
            have his : (ib.size : Int) = (e : Int) := by omega
            clear HS hel hil his0 hqs hq0 hq1
            go_wp2_with (first | (go_at_call 23; (with_reducible refine (HTx.out _).mono ?_); rintro e w1 ⟨rfl, hb1⟩; replace hb := below_on hb hb1) | (go_at_call 24; (with_reducible refine (HNm.out _).mono ?_); rintro e w4 ⟨rfl, hb4⟩; replace hb := below_on hb hb4) | (go_at_call 11; (with_reducible refine (HPt.out _ hb).mono ?_); rintro e w2 ⟨rfl, hb2⟩; replace hb := below_on hb hb2) | (go_at_call 11; (with_reducible refine (HPn.out _ hb).mono ?_); rintro e w5 ⟨rfl, hb5⟩; replace hb := below_on hb hb5) | (go_at_call 10; (with_reducible refine (HAl.out _ hb).mono ?_); rintro e w3 ⟨rfl, hb3⟩; replace hb := below_on hb hb3))
            go_ret
            exact ⟨rfl, hb⟩
end Go.Proofs.YtdfdpckcemdimaaDoor.V
