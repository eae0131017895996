/- What is proved: whatever two numbers the statement of reckoning is called with, it answers true, if the scalars' functions keep their contracts. -/
import Derived.Test.YtknpgijapbkebaaDoorGOk
import Derived.Test.YtknpgijapbkebaaDoorGRefAdd
import Derived.Test.YtknpgijapbkebaaDoorGRefMul
namespace Go.Proofs.YtknpgijapbkebaaDoor.F
open Go.RowKit Go.Sort
attribute [local irreducible] feA

set_option maxRecDepth 100000 in
set_option maxHeartbeats 1600000 in
theorem reckons_walk (F : ScalarOk) (m n : Nat) (hm : m < K256) (hn : n < K256) (W : World) (hT : Tab W) :
    Calls Tryd.prog 3 #[fe m, fe n] W fun e w' => e = .returned (.bool true) ∧ Below W.heap.size W w' := by
  have hb0 := ((Below.refl W.heap.size W).alloc (Nat.le_refl _) (.cells (feA m) 24)).alloc (by simp) (.cells (feA n) 24)
  have hx : Lies ((W.alloc (.cells (feA m) 24)).alloc (.cells (feA n) 24)) W.heap.size 24 (feA m) := heap_alloc2_old W _ _
  have hy : Lies ((W.alloc (.cells (feA m) 24)).alloc (.cells (feA n) 24)) (W.heap.size + 1) 24 (feA n) := heap_alloc2_new W _ _
  have hT0 := hT.on hb0
  have hE := fun j w => eql_self j w
  obtain ⟨a0, a1, a2, a3, ha⟩ := fe_four m
  obtain ⟨b0, b1, b2, b3, hb⟩ := fe_four n
  have e1 : fe m = .agg #[w64 a0, w64 a1, w64 a2, w64 a3] := by rw [fe, ha]
  have e2 : fe n = .agg #[w64 b0, w64 b1, w64 b2, w64 b3] := by rw [fe, hb]
  rw [ha, hb] at hb0 hx hy hT0
  have cA := fun (W1 : World) (h : Tab W1) => reg (fun w hw => alive_any F w (h.on hw))
  have cL := fun (W1 : World) (h : Tab W1) => reg (fun w hw => F.least m w hm (h.on hw))
  have cP := fun (W1 : World) (h : Tab W1) => reg (fun w hw => F.add m n w hm hn (h.on hw))
  have cM := fun (W1 : World) (h : Tab W1) => reg (fun w hw => F.mul m n w hm hn (h.on hw))
  have rL := fun (W1 : World) => reg (W := W1) (fun w _ => refLeast_any m w hm)
  have rP := fun (W1 : World) => reg (W := W1) (fun w _ => refAdd_any m n w hm hn)
  have rM := fun (W1 : World) => reg (W := W1) (fun w _ => refMul_any m n w hm hn)
  rw [e1, e2] at *
  go_enter Tryd.func3, Tryd.ntmps3
  go_upto_region 1 with fail
  generalize World.alloc (World.alloc W _) _ = w0 at *
  obtain ⟨x0, x1, x2, x3⟩ := hx.four
  obtain ⟨y0, y1, y2, y3⟩ := hy.four
  have k0 := cell_regrown x0
  have k1 := cell_regrown x1
  have k2 := cell_regrown x2
  have k3 := cell_regrown x3
  have l0 := cell_regrown y0
  have l1 := cell_regrown y1
  have l2 := cell_regrown y2
  have l3 := cell_regrown y3
  clear x0 x1 x2 x3 y0 y1 y2 y3
  refine wp_region_quiet_below (by kernel_rfl) (by kernel_rfl) ?_
  repeat (go_big_quiet_step (first | with_reducible exact cA _ hT0 _ _ | with_reducible exact cL _ hT0 _ _ | with_reducible exact cP _ hT0 _ _ | with_reducible exact cM _ hT0 _ _ | with_reducible exact rL _ _ _ | with_reducible exact rP _ _ _ | with_reducible exact rM _ _ _))
  refine wpQuiet_nil ?_
  intro _ hw'
  obtain ⟨⟨dq, osq⟩, hw''⟩ := hw'
  subst hw''
  go_wp2_with fail
  go_ret
  exact ⟨rfl, below_on hb0 (below_regrown w0 dq osq)⟩
end Go.Proofs.YtknpgijapbkebaaDoor.F
