/- The contract of the statements' own call that asks for a known sum. -/
import Derived.Test.YtmebiidgeaalpaaDoorTSum
namespace Go.Proofs.YtmebiidgeaalpaaDoor.T
open Go.RowKit

/-- one text as a row that was just laid -/
theorem strs_one (w : World) (x : List UInt8) : Strs (w.alloc (.cells #[.string ⟨x.toArray⟩] 9)) (.slice (some ⟨w.heap.size, 0, none⟩) 1 1) [x] := by
  refine ⟨some ⟨w.heap.size, 0, none⟩, 1, rfl, Nat.le_refl _, by unfold maxLen; omega, (fun h => by cases h), fun _ => ⟨w.heap.size, 0, rfl, fun i y hi => ?_⟩⟩
  match i, hi with
  | 0, hi =>
    have : x = y := by simpa using hi
    subst this
    rw [World.cell?_alloc_new]
    rfl
theorem sum_one (w : World) (x : List UInt8) (hx : x.length ≤ 1000000000) (hT : Tab w) :
    Calls Tryd.prog 8 #[.slice (some ⟨w.heap.size, 0, none⟩) 1 1] (w.alloc (.cells #[.string ⟨x.toArray⟩] 9)) fun e w' => e = .returned (.string (bytesOf (sumT x))) ∧ Below w.heap.size w w' := by
  have hb := (Below.refl w.heap.size w).alloc (Nat.le_refl _) (.cells #[.string ⟨x.toArray⟩] 9)
  have h := sum_any _ _ [x] (strs_one w x) (by simpa using hx) (hT.below hb)
  rw [List.flatten_singleton] at h
  exact h.mono fun e w' ⟨he, hb2⟩ => ⟨he, below_on hb hb2⟩

set_option maxHeartbeats 400000 in
theorem alive_any (w : World) (hT : Tab w) : Calls Tryd.prog 7 #[] w fun e w' => e = .returned (.bool true) ∧ Below w.heap.size w w' := by
  have H := Lib.hid (sum_one w [97, 98, 99] (by decide) hT)
  have h64 : ((bytesOf (sumT [97, 98, 99])).size : Int) = 64 := by rw [bytes_size, sumT_length]; rfl
  have h4 : (bytesOf (sumT [97, 98, 99])).extract 0 4 = { data := #[221, 175, 53, 161] } := by
    rw [← Lib.mk_data ((bytesOf (sumT [97, 98, 99])).extract 0 4), head_list, show (bytesOf (sumT [97, 98, 99])).data.toList = sumT [97, 98, 99] from rfl, abc_sum]
  have h5 : 4 ≤ (bytesOf (sumT [97, 98, 99])).size := by rw [bytes_size, sumT_length]; decide
  generalize bytesOf (sumT [97, 98, 99]) = t at H h64 h4 h5
  go_enter Tryd.func7, Tryd.ntmps7
  go_wp2_with (go_at_call 8; refine H.out.mono ?_; rintro e w1 ⟨rfl, hb1⟩)
  go_ret
  exact ⟨rfl, hb1⟩
end Go.Proofs.YtmebiidgeaalpaaDoor.T
