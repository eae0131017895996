/- The reader's digits. -/
import Derived.Test.YtnloimanklkigaaDoorYHere
import Derived.Lib.QuietBelow
import Derived.Lib.Hide
namespace Go.Proofs.YtnloimanklkigaaDoor.V
set_option maxRecDepth 100000
open Go.RowKit Go.Sort Go.Joins

/-- the reader's place -/
def placeOf (w : World) (g : Nat) : Nat := match w.cell? ⟨g, 1, none⟩ with
  | some v => (intOf v).toNat
  | none => 0
theorem placeOf_rd {w : World} {g : Nat} {s : ByteArray} {p n : Nat} {vo : Value} (h : Lies w g 77 (rdC s p n vo)) : placeOf w g = p := by
  unfold placeOf
  rw [rd_c1 h]
  simp [intOf]
/-- all from p to q are digits -/
def DigTo (s : ByteArray) (p q : Nat) : Prop := p ≤ q ∧ q ≤ s.size ∧ ∃ d, rest s p = d ++ rest s q ∧ (∀ c ∈ d, isDig c = true) ∧ d.length = q - p
theorem DigTo.next {s : ByteArray} {p q : Nat} (h : DigTo s p q) (hq : q < s.size) (hd : isDig s[q] = true) : DigTo s p (q + 1) := by
  obtain ⟨h1, h2, d, h3, h4, h5⟩ := h
  refine ⟨by omega, by omega, d ++ [s[q]], ?_, fun c hc => ?_, by rw [List.length_append, List.length_singleton]; omega⟩
  · rw [h3, rest_cons hq]; simp
  · rcases List.mem_append.1 hc with hc | hc
    · exact h4 c hc
    · rw [List.mem_singleton.1 hc]; exact hd
theorem DigTo.done {s : ByteArray} {p q : Nat} (h : DigTo s p q) (hd : Delim (rest s q)) : (rest s p).takeWhile isDig = (s.extract p q).data.toList ∧ (rest s p).dropWhile isDig = rest s q := by
  obtain ⟨h1, h2, d, h3, h4, h5⟩ := h
  obtain ⟨w1, w2⟩ := while_append d (rest s q) h4 hd
  rw [h3, w1, w2]
  refine ⟨?_, rfl⟩
  have e1 : (s.extract p q).data.toList = (rest s p).take (q - p) := by
    unfold rest
    rw [ByteArray.data_extract, Array.toList_extract, List.extract_eq_take_drop]
  rw [e1, h3, List.take_append_of_le_length (by omega), List.take_of_length_le (by omega)]
set_option maxHeartbeats 3200000 in
theorem digits_any (w : World) (g : Nat) (s : ByteArray) (p n : Nat) (vo : Value) (hl : Lies w g 77 (rdC s p n vo)) (hp : p ≤ s.size) (hs : s.size ≤ 65536) :
    Calls Tryd.prog 77 #[.pointer (some ⟨g, 0, none⟩)] w fun e w' => ∃ q, e = .returned (.string (s.extract p q)) ∧ DigTo s p q ∧ Delim (rest s q) ∧ Lies w' g 77 (rdC s q n vo) ∧ w.grownBy w' (some g) := by
  have c1 := rd_c1 hl
  go_enter Tryd.func77, Tryd.ntmps77
  go_wp2_with fail
  go_loopw [29] (fun _ wr => ∃ q, Hid (DigTo s p q) ∧ Lies wr g 77 (rdC s q n vo) ∧ w.grownBy wr (some g)) (fun _ wr => s.size - placeOf wr g)
  case atStart => exact ⟨p, Lib.hid ⟨Nat.le_refl _, hp, [], rfl, (fun c h => by cases h), by simp⟩, hl, grown_of g (Below.refl _ _)⟩
  case round =>
    obtain ⟨q, HD, hl1, hb1⟩ := hrel
    have hl0 := hl1
    have hq := HD.out.2.1
    have hpq := HD.out.1
    have c0 := rd_c0 hl1
    have c1 := rd_c1 hl1
    have k0 := cell_regrown c0
    have k1 := cell_regrown c1
    by_cases hlt : q < s.size
    · have H := reg (W := wr) (fun w1 _ => isDigit_any s[q] w1)
      cases hd : isDig s[q] with
      | true =>
        rw [hd] at H
        have HD1 := Lib.hid (HD.out.next hlt hd)
        clear c0 c1
        go_upto_region 2 with fail
        refine wp_region_quiet_below (by kernel_rfl) (by kernel_rfl) ?_
        repeat (go_big_quiet_step (first | exact H _ _))
        refine wpQuiet_nil ?_
        intro w3 hw'
        obtain ⟨⟨dq, osq⟩, hw''⟩ := hw'
        subst hw''
        have hb3 := below_regrown wr dq osq
        replace hl1 := hl1.on hb3
        replace hb1 := grown_two hb1 (grown_of g hb3)
        clear hb3 k0 k1 H
        generalize grow _ _ = w3 at *
        have d1 := rd_c1 hl1
        have f1 := hl1.frozen 1
        go_wp2
        go_roundw
        case rel => exact ⟨q + 1, HD1, rd_at hl1 (q + 1) (by omega), grown_two hb1 (grown_set g (Below.refl _ _) 1 _)⟩
        case measure =>
          rw [placeOf_rd (rd_at hl1 (q + 1) (by omega)), placeOf_rd hl0]
          omega
      | false =>
        rw [hd] at H
        have HE := Lib.hid (show Delim (rest s q) by rw [rest_cons hlt]; exact delim_at hd)
        clear c0 c1
        go_upto_region 2 with fail
        refine wp_region_quiet_below (by kernel_rfl) (by kernel_rfl) ?_
        repeat (go_big_quiet_step (first | exact H _ _))
        refine wpQuiet_nil ?_
        intro w3 hw'
        obtain ⟨⟨dq, osq⟩, hw''⟩ := hw'
        subst hw''
        have hb3 := below_regrown wr dq osq
        replace hl1 := hl1.on hb3
        replace hb1 := grown_two hb1 (grown_of g hb3)
        clear hb3 k0 k1 H
        generalize grow _ _ = w3 at *
        have d0 := rd_c0 hl1
        have d1 := rd_c1 hl1
        go_upto_region 4 with fail
        go_quiet (fail)
        go_wp2
        go_ret
        exact ⟨q, rfl, HD.out, HE.out, hl1.drewN _, grown_two hb1 (grown_of g (below_drawn (Below.refl _ _) _))⟩
    · obtain rfl : q = s.size := by omega
      have HE := Lib.hid (show Delim (rest s s.size) by rw [rest_none]; exact fun c t e => by cases e)
      clear c0 c1
      go_upto_region 2 with fail
      refine wp_region_quiet_below (by kernel_rfl) (by kernel_rfl) ?_
      repeat (go_big_quiet_step (first | fail))
      refine wpQuiet_nil ?_
      intro w3 hw'
      obtain ⟨⟨dq, osq⟩, hw''⟩ := hw'
      subst hw''
      have hb3 := below_regrown wr dq osq
      replace hl1 := hl1.on hb3
      replace hb1 := grown_two hb1 (grown_of g hb3)
      clear hb3 k0 k1
      generalize grow _ _ = w3 at *
      have d0 := rd_c0 hl1
      have d1 := rd_c1 hl1
      go_upto_region 4 with fail
      go_quiet (fail)
      go_wp2
      go_ret
      exact ⟨s.size, rfl, HD.out, HE.out, hl1.drewN _, grown_two hb1 (grown_of g (below_drawn (Below.refl _ _) _))⟩
end Go.Proofs.YtnloimanklkigaaDoor.V
