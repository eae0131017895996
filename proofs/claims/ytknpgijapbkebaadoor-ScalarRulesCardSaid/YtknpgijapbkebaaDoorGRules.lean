/- What is proved: whatever three numbers the statement of rules is called with, it answers true, if the scalars' functions keep their contracts. -/
import Derived.Test.YtknpgijapbkebaaDoorGNum
namespace Go.Proofs.YtknpgijapbkebaaDoor.F
open Go.RowKit Go.Sort
attribute [local irreducible] feA

set_option maxRecDepth 100000 in
set_option maxHeartbeats 3200000 in
theorem rules_walk (F : ScalarOk) (m n k : Nat) (hm : m < K256) (hn : n < K256) (hk : k < K256) (W : World) (hT : Tab W) :
    Calls Tryd.prog 6 #[fe m, fe n, fe k] W fun e w' => e = .returned (.bool true) ∧ Below W.heap.size W w' := by
  obtain ⟨S1, hS1⟩ : ∃ S1, (m + n) % l25 = S1 := ⟨_, rfl⟩
  obtain ⟨S2, hS2⟩ : ∃ S2, (n + k) % l25 = S2 := ⟨_, rfl⟩
  obtain ⟨P1, hP1⟩ : ∃ P1, m * n % l25 = P1 := ⟨_, rfl⟩
  obtain ⟨P2, hP2⟩ : ∃ P2, n * k % l25 = P2 := ⟨_, rfl⟩
  obtain ⟨P3, hP3⟩ : ∃ P3, m * k % l25 = P3 := ⟨_, rfl⟩
  obtain ⟨A3, hA3⟩ : ∃ A3, (S1 + k) % l25 = A3 := ⟨_, rfl⟩
  obtain ⟨M3, hM3⟩ : ∃ M3, P1 * k % l25 = M3 := ⟨_, rfl⟩
  obtain ⟨D, hD⟩ : ∃ D, m * S2 % l25 = D := ⟨_, rfl⟩
  have hA4 : (m + S2) % l25 = A3 := by rw [← hS2, ← add_assoc_mod, hS1, hA3]
  have hM4 : m * P2 % l25 = M3 := by rw [← hP2, ← mul_assoc_mod, hP1, hM3]
  have hD2 : (P1 + P3) % l25 = D := by rw [← hP1, ← hP3, ← mul_add_mod', hS2, hD]
  have hyx : (n + m) % l25 = S1 := by rw [Nat.add_comm, hS1]
  have hmyx : n * m % l25 = P1 := by rw [Nat.mul_comm, hP1]
  have hm1 : m * 1 % l25 = m % l25 := by rw [Nat.mul_one]
  have kS1 : S1 < K256 := by rw [← hS1]; exact modL_K _
  have kS2 : S2 < K256 := by rw [← hS2]; exact modL_K _
  have kP1 : P1 < K256 := by rw [← hP1]; exact modL_K _
  have kP2 : P2 < K256 := by rw [← hP2]; exact modL_K _
  have kP3 : P3 < K256 := by rw [← hP3]; exact modL_K _
  have cA := fun (W1 : World) (h : Tab W1) => reg (fun w hw => alive_any F w (h.on hw))
  have c1 := fun (W1 : World) (h : Tab W1) => reg (fun w hw => hS1 ▸ F.add m n w hm hn (h.on hw))
  have c2 := fun (W1 : World) (h : Tab W1) => reg (fun w hw => hyx ▸ F.add n m w hn hm (h.on hw))
  have c3 := fun (W1 : World) (h : Tab W1) => reg (fun w hw => hP1 ▸ F.mul m n w hm hn (h.on hw))
  have c4 := fun (W1 : World) (h : Tab W1) => reg (fun w hw => hmyx ▸ F.mul n m w hn hm (h.on hw))
  have c5 := fun (W1 : World) (h : Tab W1) => reg (fun w hw => hA3 ▸ F.add S1 k w kS1 hk (h.on hw))
  have c6 := fun (W1 : World) (h : Tab W1) => reg (fun w hw => hS2 ▸ F.add n k w hn hk (h.on hw))
  have c7 := fun (W1 : World) (h : Tab W1) => reg (fun w hw => hA4 ▸ F.add m S2 w hm kS2 (h.on hw))
  have c8 := fun (W1 : World) (h : Tab W1) => reg (fun w hw => hM3 ▸ F.mul P1 k w kP1 hk (h.on hw))
  have c9 := fun (W1 : World) (h : Tab W1) => reg (fun w hw => hP2 ▸ F.mul n k w hn hk (h.on hw))
  have d1 := fun (W1 : World) (h : Tab W1) => reg (fun w hw => hM4 ▸ F.mul m P2 w hm kP2 (h.on hw))
  have d2 := fun (W1 : World) (h : Tab W1) => reg (fun w hw => hD ▸ F.mul m S2 w hm kS2 (h.on hw))
  have d3 := fun (W1 : World) (h : Tab W1) => reg (fun w hw => hP3 ▸ F.mul m k w hm hk (h.on hw))
  have d4 := fun (W1 : World) (h : Tab W1) => reg (fun w hw => hD2 ▸ F.add P1 P3 w kP1 kP3 (h.on hw))
  have d5 := fun (W1 : World) (h : Tab W1) => reg (fun w hw => mul_p_mod m ▸ F.mul m l25 w hm l25_K (h.on hw))
  have d6 := fun (W1 : World) => reg (W := W1) (fun w _ => refLeast_any m w hm)
  have d7 := fun (W1 : World) (h : Tab W1) => reg (fun w hw => hm1 ▸ F.mul m 1 w hm (by decide) (h.on hw))
  have d8 := fun (W1 : World) (h : Tab W1) => reg (fun w hw => add_p_mod m ▸ F.add m l25 w hm l25_K (h.on hw))
  rw [fe_one] at d7
  rw [fe_l25] at d5 d8
  have hZ : ∀ w, (binOp .eql 24 (fe 0) (.agg #[.int .u64 0, .int .u64 0, .int .u64 0, .int .u64 0])).run Tryd.prog w = .ok (.bool true) w := fun w => zero_four 0 (by decide) w
  have hE := fun j w => eql_self j w
  have hN := fun j w => neq_self j w
  clear hS1 hS2 hP1 hP2 hP3 hA3 hM3 hD hA4 hM4 hD2 hyx hmyx hm1 kS1 kS2 kP1 kP2 kP3
  obtain ⟨x0, x1, x2, x3, hx⟩ := fe_four m
  obtain ⟨y0, y1, y2, y3, hy⟩ := fe_four n
  obtain ⟨z0, z1, z2, z3, hz⟩ := fe_four k
  have e1 : fe m = .agg #[w64 x0, w64 x1, w64 x2, w64 x3] := by rw [fe, hx]
  have e2 : fe n = .agg #[w64 y0, w64 y1, w64 y2, w64 y3] := by rw [fe, hy]
  have e3 : fe k = .agg #[w64 z0, w64 z1, w64 z2, w64 z3] := by rw [fe, hz]
  have hX := ((Lies.new W 24 #[w64 x0, w64 x1, w64 x2, w64 x3]).alloc (.cells #[w64 y0, w64 y1, w64 y2, w64 y3] 24)).alloc (.cells #[w64 z0, w64 z1, w64 z2, w64 z3] 24)
  have hY : Lies ((W.alloc (.cells #[w64 x0, w64 x1, w64 x2, w64 x3] 24)).alloc (.cells #[w64 y0, w64 y1, w64 y2, w64 y3] 24)) (W.heap.size + 1) 24 #[w64 y0, w64 y1, w64 y2, w64 y3] := heap_alloc2_new W _ _
  replace hY := hY.alloc (.cells #[w64 z0, w64 z1, w64 z2, w64 z3] 24)
  have hZz := lies3 W (.cells #[w64 x0, w64 x1, w64 x2, w64 x3] 24) (.cells #[w64 y0, w64 y1, w64 y2, w64 y3] 24) 24 #[w64 z0, w64 z1, w64 z2, w64 z3]
  have hB := (((Below.refl W.heap.size W).alloc (Nat.le_refl _) (.cells #[w64 x0, w64 x1, w64 x2, w64 x3] 24)).alloc (by simp) (.cells #[w64 y0, w64 y1, w64 y2, w64 y3] 24)).alloc (by simp; omega) (.cells #[w64 z0, w64 z1, w64 z2, w64 z3] 24)
  replace hT := hT.on hB
  rw [e1] at c1 c2 c3 c4 c7 d1 d2 d3 d5 d6 d7 d8
  rw [e2] at c1 c2 c3 c4 c6 c9
  rw [e3] at c5 c6 c8 c9 d3
  rw [e1, e2, e3]
  clear e1 e2 e3 hx hy hz hm hn hk
  go_enter Tryd.func6, Tryd.ntmps6
  go_upto_region 2 with fail
  generalize World.alloc (World.alloc (World.alloc W _) _) _ = w0 at *
  obtain ⟨s0, s1, s2, s3⟩ := hX.four
  obtain ⟨t0, t1, t2, t3⟩ := hY.four
  obtain ⟨r0, r1, r2, r3⟩ := hZz.four
  have k0 := cell_regrown s0
  have k1 := cell_regrown s1
  have k2 := cell_regrown s2
  have k3 := cell_regrown s3
  have l0 := cell_regrown t0
  have l1 := cell_regrown t1
  have l2 := cell_regrown t2
  have l3 := cell_regrown t3
  have m0 := cell_regrown r0
  have m1 := cell_regrown r1
  have m2 := cell_regrown r2
  have m3 := cell_regrown r3
  clear s0 s1 s2 s3 t0 t1 t2 t3 r0 r1 r2 r3
  refine wp_region_quiet_below (by kernel_rfl) (by kernel_rfl) ?_
  repeat (go_big_quiet_step (first | with_reducible exact cA _ hT _ _ | with_reducible exact c1 _ hT _ _ | with_reducible exact c2 _ hT _ _ | with_reducible exact c3 _ hT _ _ | with_reducible exact c4 _ hT _ _ | with_reducible exact c5 _ hT _ _ | with_reducible exact c6 _ hT _ _ | with_reducible exact c7 _ hT _ _ | with_reducible exact c8 _ hT _ _ | with_reducible exact c9 _ hT _ _ | with_reducible exact d1 _ hT _ _))
  refine wpQuiet_nil ?_
  intro w1 hw'
  obtain ⟨⟨dq, osq⟩, hw''⟩ := hw'
  have hb2 : Below w0.heap.size w0 w1 := by rw [hw'']; exact below_regrown w0 dq osq
  clear hw''
  replace hX := hX.on hb2
  replace hY := hY.on hb2
  replace hZz := hZz.on hb2
  replace hT := hT.on hb2
  replace hB := below_on hB hb2
  clear hb2 k0 k1 k2 k3 l0 l1 l2 l3 m0 m1 m2 m3 c2 c4 c5 c7 c8 c9 d1
  have hO := Lies.new w1 24 oA
  have hba := (Below.refl w1.heap.size w1).alloc (Nat.le_refl _) (.cells oA 24)
  replace hX := hX.on hba
  replace hY := hY.on hba
  replace hZz := hZz.on hba
  replace hT := hT.on hba
  replace hB := below_on hB hba
  clear hba
  go_upto_region 5 with fail
  generalize World.alloc w1 _ = w9 at *
  generalize w1.heap.size = go_ at *
  obtain ⟨s0, s1, s2, s3⟩ := hX.four
  obtain ⟨t0, t1, t2, t3⟩ := hY.four
  obtain ⟨r0, r1, r2, r3⟩ := hZz.four
  have k0 := cell_regrown s0
  have k1 := cell_regrown s1
  have k2 := cell_regrown s2
  have k3 := cell_regrown s3
  have l0 := cell_regrown t0
  have l1 := cell_regrown t1
  have l2 := cell_regrown t2
  have l3 := cell_regrown t3
  have m0 := cell_regrown r0
  have m1 := cell_regrown r1
  have m2 := cell_regrown r2
  have m3 := cell_regrown r3
  obtain ⟨o0, o1, o2, o3⟩ := hO.four
  have n0 := cell_regrown o0
  have n1 := cell_regrown o1
  have n2 := cell_regrown o2
  have n3 := cell_regrown o3
  clear o0 o1 o2 o3
  clear s0 s1 s2 s3 t0 t1 t2 t3 r0 r1 r2 r3
  refine wp_region_quiet_below (by kernel_rfl) (by kernel_rfl) ?_
  repeat (go_big_quiet_step (first | with_reducible exact c1 _ hT _ _ | with_reducible exact c3 _ hT _ _ | with_reducible exact c6 _ hT _ _ | with_reducible exact d2 _ hT _ _ | with_reducible exact d3 _ hT _ _ | with_reducible exact d4 _ hT _ _ | with_reducible exact d5 _ hT _ _ | with_reducible exact d6 _ _ _ | with_reducible exact d7 _ hT _ _ | with_reducible exact d8 _ hT _ _))
  refine wpQuiet_nil ?_
  intro _ hw'
  obtain ⟨⟨dr, osr⟩, hw''⟩ := hw'
  subst hw''
  go_wp2_with fail
  go_ret
  exact ⟨rfl, below_on hB (below_regrown _ dr osr)⟩
end Go.Proofs.YtknpgijapbkebaaDoor.F
