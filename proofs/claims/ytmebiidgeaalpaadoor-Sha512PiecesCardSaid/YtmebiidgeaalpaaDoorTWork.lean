/- The contracts of the program's calls on a sum that works: it is laid, asked, ended. -/
import Derived.Test.YtmebiidgeaalpaaDoorTTake
import Derived.Test.YtmebiidgeaalpaaDoorTPad
import Derived.Test.YtmebiidgeaalpaaDoorTText
namespace Go.Proofs.YtmebiidgeaalpaaDoor.T
open Go.RowKit

set_option maxHeartbeats 400000 in
theorem workOn_any (H : H8) (buf : ByteArray) (n : Nat) (w : World) :
    Calls Tryd.prog 24 #[.agg (sumA H buf n)] w fun e w' => ∃ g, e = .returned (.pointer (some ⟨g, 0, none⟩)) ∧ w.heap.size ≤ g ∧ Lies w' g 58 (sumA H buf n) ∧ Below w.heap.size w w' := by
  unfold sumA
  go_enter Tryd.func24, Tryd.ntmps24
  go_wp2
  go_ret
  refine ⟨_, rfl, ?_, heap_alloc2_new w _ _, ((Below.refl _ w).alloc (Nat.le_refl _) _).alloc (by simp) _⟩
  simp

set_option maxHeartbeats 400000 in
theorem end_any (g : Nat) (H : H8) (buf : ByteArray) (n : Nat) (w : World) (hb : buf.size < 128) (hn : n < 1152921504606846976) (hg : 2 ≤ g) (hT : Tab w) (hl : Lies w g 58 (sumA H buf n)) (hok : H.Ok) :
    Calls Tryd.prog 26 #[.pointer (some ⟨g, 0, none⟩)] w fun e w' => e = .returned (.string (bytesOf (endT H buf.data.toList n))) ∧ Only g w w' := by
  have k9 := hl.c9
  have hp : (bytesOf (pad n)).size ≤ 144 := by
    rw [Lib.size_eq]
    show (pad n).length ≤ 144
    rw [pad_length]
    omega
  have hp2 : (bytesOf (pad n)).data.toList = pad n := rfl
  go_enter Tryd.func26, Tryd.ntmps26
  go_wp2_with (first | (go_at_call 33; refine (padding_any n _ (by omega)).mono ?_; rintro e w1 ⟨rfl, hb1⟩; have HK := Lib.hid (take_any g H buf (bytesOf (pad n)) n w1 hb (by omega) (by omega) hg (hT.below hb1) (hl.on hb1) hok)) | (go_at_call 25; refine HK.out.mono ?_; rintro e w2 ⟨rfl, hl2, hO2⟩) | (go_at_call 34; refine (text_any g _ _ _ _ hl2 (feed_ok' hok _)).mono ?_; rintro e w3 ⟨rfl, hb3⟩))
  go_ret
  exact ⟨rfl, ((Only.of_below hb1 g).trans hO2).on hb3⟩
theorem val_bool {a b : Bool} (h : a = b) : Value.bool a = Value.bool b := by rw [h]
/-- may a sum be? -/
def rightB (b n : Nat) : Bool := decide (n ≤ 1099511627776) && decide (n % 128 = b)

set_option maxHeartbeats 800000 in
theorem right_any (g : Nat) (H : H8) (buf : ByteArray) (n : Nat) (w : World) (hb : buf.size ≤ 140737488355328) (hl : Lies w g 58 (sumA H buf n)) :
    Calls Tryd.prog 29 #[.pointer (some ⟨g, 0, none⟩)] w fun e w' => e = .returned (.bool (rightB buf.size n)) ∧ Below w.heap.size w w' := by
  have k8 := hl.c8
  have k9 := hl.c9
  by_cases h1 : n ≤ 1099511627776
  · have hd : decide ((n : Int) ≤ 1099511627776) = true := by simp; omega
    go_enter Tryd.func29, Tryd.ntmps29
    go_wp2
    go_quiet (fail)
    go_wp2
    go_ret
    exact ⟨ret1_of (val_bool (by rw [Bool.eq_iff_iff]; simp [rightB, h1]; omega)), below_drawn (Below.refl _ _) _⟩
  · have hd : decide ((n : Int) ≤ 1099511627776) = false := by simp; omega
    go_enter Tryd.func29, Tryd.ntmps29
    go_wp2
    go_quiet (fail)
    go_wp2
    go_ret
    exact ⟨ret1_of (val_bool (by simp [rightB, h1])), below_drawn (Below.refl _ _) _⟩
end Go.Proofs.YtmebiidgeaalpaaDoor.T
