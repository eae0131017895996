/- The contract of the reference's Pack. -/
import Derived.Test.YtckamablodhecaaPack
namespace Go.Proofs.Ytckamablodhecaa
open Go.RowKit

theorem refPack_many (w : World) (v : Value) (l : List (List UInt8)) (hl : Strs w v l) (h : 64 < l.length) :
    Calls Try.prog 21 #[v] w fun e w' => e = .returned (.tuple #[.string ByteArray.empty, .int .i64 22]) ∧ Below w.heap.size w w' := by
  obtain ⟨a, c, rfl, hc, hm, hn, hl⟩ := hl
  unfold maxLen at hm
  go_enter Try.func21, Try.ntmps21
  go_wp2
  go_ret2
  exact ⟨rfl, Below.refl _ _⟩

set_option maxRecDepth 100000 in
set_option maxHeartbeats 1600000 in
theorem refPack_in (w : World) (v : Value) (l : List (List UInt8)) (hl : Strs w v l) (h : l.length ≤ 64) (hx : ∀ x ∈ l, x.length ≤ 1000000) :
    Calls Try.prog 21 #[v] w fun e w' => e = .returned (.tuple #[.string (packS l), .int .i64 (packE l)]) ∧ Below w.heap.size w w' := by
  obtain ⟨a, c, rfl, hc, hm, hn, hl⟩ := hl
  unfold maxLen at hm
  go_enter Try.func21, Try.ntmps21
  go_wp2
  go_loopw [4, 12] (fun o i wr => ∃ k : Nat, k ≤ l.length ∧ i = .int .i64 k ∧ o = .string ⟨(packL (l.take k)).toArray⟩ ∧ (packL (l.take k)).length ≤ 65536 ∧ Below w.heap.size w wr) (fun _ i _ => l.length - (intOf i).toNat)
  case atStart => exact ⟨0, Nat.zero_le _, rfl, rfl, by simp [packL], Below.refl _ _⟩
  case round =>
    obtain ⟨k, hk, rfl, rfl, ho, hb⟩ := hrel
    have hB := hb.size
    by_cases hlt : k < l.length
    · obtain ⟨b, off, rfl, hcell⟩ := hl (by intro h; subst h; simp at hlt)
      obtain ⟨x, hxk⟩ : ∃ x, l[k]? = some x := ⟨l[k], List.getElem?_eq_getElem hlt⟩
      have g1 := hcell k x hxk
      have hc1 : wr.cell? ⟨b, off + k, none⟩ = some (.string ⟨x.toArray⟩) := (hb.cell (p := ⟨b, off + k, none⟩) (World.block_lt_of_cell? w _ g1)).trans g1
      have hxl := hx x (List.mem_of_getElem? hxk)
      have HT := Lib.hid (take_frames hxk)
      have HL := Lib.hid (show (packL (l.take (k + 1))).length = (packL (l.take k)).length + 4 + x.length by rw [HT.out, List.length_append, List.length_append, bigL_length])
      have hm1 := take_packed l (k + 1)
      clear hxk hcell g1 hl hx
      by_cases hlong : 65536 < (packL (l.take k)).length + 4 + x.length
      · have h2 : packE l = 2 := packE_long h (by
          cases hf : fitR 65536 l
          · rfl
          · have h3 := (fitR_iff l 65536 (by omega)).1 hf
            have h4 := HL.out
            omega)
        have HS := Lib.hid (packS_no (l := l) (by rw [h2]; decide))
        have HE := Lib.hid h2
        clear h2 hm1
        by_cases hx1 : 65536 < x.length
        all_goals
          go_wp2
          go_ret2
          exact ⟨ret2_of (by rw [HS.out]; rfl) (by rw [HE.out]; rfl), hb⟩
      · have hx1 : ¬ 65536 < x.length := by omega
        have hbl : (bigL x.length 4).length ≤ 4 := by rw [bigL_length]; omega
        clear hm1
        go_wp2_with (go_at_call 16; refine (refBig_any _ _ _ (by omega) (by decide)).mono ?_; rintro e w1 ⟨rfl, hb1⟩; replace hb := below_on hb hb1; clear hb1)
        go_roundw
        case rel => exact ⟨k + 1, by omega, by go_num, by rw [cat_two, cat_two, HT.out]; simp, by have := HL.out; omega, hb⟩
        case measure => simp [intOf]; omega
    · have HT := Lib.hid (show l.take k = l from List.take_of_length_le (by omega))
      rw [HT.out] at ho
      have h0 := packE_ok h ho
      have HS := Lib.hid (packS_ok h0)
      have HE := Lib.hid h0
      clear h0 ho
      go_wp2
      go_ret2
      exact ⟨ret2_of (by rw [HS.out, HT.out]; rfl) (by rw [HE.out]; rfl), hb⟩

/-- the reference's Pack: the text, or an error -/
theorem refPack_any (w : World) (v : Value) (l : List (List UInt8)) (hl : Strs w v l) (hx : ∀ x ∈ l, x.length ≤ 1000000) :
    Calls Try.prog 21 #[v] w fun e w' => e = .returned (.tuple #[.string (packS l), .int .i64 (packE l)]) ∧ Below w.heap.size w w' := by
  by_cases h : 64 < l.length
  · rw [packS_no (by rw [packE_many h]; decide), packE_many h]
    exact refPack_many w v l hl h
  · exact refPack_in w v l hl (by omega) hx
end Go.Proofs.Ytckamablodhecaa
