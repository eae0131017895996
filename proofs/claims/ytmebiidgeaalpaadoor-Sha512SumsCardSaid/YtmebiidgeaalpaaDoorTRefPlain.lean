/- The contracts of the reference's Keys and Right, and of the statement's few. -/
import Derived.Test.YtmebiidgeaalpaaDoorTRefMix
import Derived.Test.YtmebiidgeaalpaaDoorTCalls
namespace Go.Proofs.YtmebiidgeaalpaaDoor.T
open Go.RowKit

set_option maxRecDepth 100000 in
set_option maxHeartbeats 800000 in
theorem keys_any (w : World) :
    Calls Tryd.prog 13 #[] w fun e w' => ∃ g, e = .returned (.slice (some ⟨g, 0, none⟩) 80 80) ∧ w.heap.size ≤ g ∧ Keysat w' g ∧ Below w.heap.size w w' := by
  go_enter Tryd.func13, Tryd.ntmps13
  go_wp2
  go_ret
  exact ⟨_, rfl, Nat.le_refl _, Lies.new w 25 ksA, (Below.refl _ w).alloc (Nat.le_refl _) _⟩

set_option maxRecDepth 100000 in
set_option maxHeartbeats 800000 in
theorem refRight_any (H : H8) (buf : ByteArray) (n : Nat) (w : World) (hb : buf.size ≤ 140737488355328) :
    Calls Tryd.prog 21 #[.agg (sumA H buf n)] w fun e w' => e = .returned (.bool (rightB buf.size n)) ∧ Below w.heap.size w w' := by
  by_cases h0 : buf.size < 128
  · by_cases h1 : n ≤ 1099511627776
    · have hd : decide ((n : Int) ≤ 1099511627776) = true := by simp; omega
      unfold sumA
      go_enter Tryd.func21, Tryd.ntmps21
      go_wp2
      go_ret
      exact ⟨ret1_of (val_bool (by rw [Bool.eq_iff_iff]; simp [rightB, h1]; omega)), (Below.refl _ w).alloc (Nat.le_refl _) _⟩
    · have hd : decide ((n : Int) ≤ 1099511627776) = false := by simp; omega
      unfold sumA
      go_enter Tryd.func21, Tryd.ntmps21
      go_wp2
      go_ret
      exact ⟨ret1_of (val_bool (by simp [rightB, h1])), (Below.refl _ w).alloc (Nat.le_refl _) _⟩
  · have hm : ¬ n % 128 = buf.size := by omega
    unfold sumA
    go_enter Tryd.func21, Tryd.ntmps21
    go_wp2
    go_ret
    exact ⟨ret1_of (val_bool (by simp [rightB, hm])), (Below.refl _ w).alloc (Nat.le_refl _) _⟩

set_option maxHeartbeats 800000 in
theorem few_any (H : H8) (buf : ByteArray) (n : Nat) (w : World) (hb : buf.size ≤ 9223372036854775807) :
    Calls Tryd.prog 17 #[.agg (sumA H buf n)] w fun e w' => ∃ b : ByteArray, b.size ≤ 200 ∧ e = .returned (.agg (sumA H b n)) ∧ Below w.heap.size w w' := by
  have hx : Lies ((w.alloc (.cells (sumA H buf n) 28)).alloc (.cells (sumA h8zero noBytes 0) 28)) w.heap.size 28 (sumA H buf n) := heap_alloc2_old w _ _
  have hz : Lies ((w.alloc (.cells (sumA H buf n) 28)).alloc (.cells (sumA h8zero noBytes 0) 28)) (w.heap.size + 1) 28 (sumA h8zero noBytes 0) := heap_alloc2_new w _ _
  have hb2 := ((Below.refl w.heap.size w).alloc (Nat.le_refl _) (.cells (sumA H buf n) 28)).alloc (by simp) (.cells (sumA h8zero noBytes 0) 28)
  go_enter Tryd.func17, Tryd.ntmps17
  unfold sumA at hx hz hb2 ⊢
  go_upto_region 1 with fail
  generalize World.alloc (World.alloc w _) _ = w2 at *
  have k8 := Lies.c8 hx
  have f8 := Lies.frozen hx 8
  go_upto_region 2 with fail
  have hr63 : (buf.extract 0 (min (buf.size : Int) 200).toNat).size ≤ 200 := by rw [ByteArray.size_extract]; omega
  generalize buf.extract 0 (min (buf.size : Int) 200).toNat = r at hr63 ⊢
  have hx2 := Lies.buf hx r
  have hz2 := hz.far (p := ⟨w.heap.size, 8, none⟩) (by simp) (.string r)
  have hb3 := hb2.setCell (p := ⟨w.heap.size, 8, none⟩) (Nat.le_refl _) (.string r)
  generalize World.setCell w2 _ _ = w3 at *
  go_wp2_with (first | ((with_reducible refine wpL_load w.heap.size 28 (sumA H r n) 10 row29 rfl hx2 ?_ ?_); rfl) | ((with_reducible refine wpL_store (w.heap.size + 1) 28 _ (sumA H r n) 10 row29 rfl rfl (sumA_one _ _ _) hz2 ?_ ?_ ?_); rfl; rfl))
  exact bodyPost_ret (results_row Tryd.results17 row29 rfl (hz2.row _) rfl) rfl ⟨r, hr63, rfl, below_rowSet hb3 (by omega) _⟩
end Go.Proofs.YtmebiidgeaalpaaDoor.T
