/- What is proved: whatever number the statement of inverses is called with, it answers true, if the field's functions keep their contracts. -/
import Derived.Test.YtlbhlklgliblgaaDoorFNum
namespace Go.Proofs.YtlbhlklgliblgaaDoor.F
open Go.RowKit Go.Sort
attribute [local irreducible] feA

/-- a new variable, and what goes into it -/
theorem newly (w : World) (o : Obj) (cs : Array Value) : Below w.heap.size w ((w.alloc o).setRow w.heap.size cs) := below_rowSet ((Below.refl _ w).alloc (Nat.le_refl _) o) (Nat.le_refl _) cs
theorem newly_lies (w : World) (t : TypeId) (cs cs' : Array Value) : Lies ((w.alloc (.cells cs t)).setRow w.heap.size cs') w.heap.size t cs' := (Lies.new w t cs).row _

set_option maxRecDepth 100000 in
set_option maxHeartbeats 400000 in
theorem inverts_walk (F : FieldOk) (n : Nat) (hn : n < K256) (W : World) (hT : Tab W) :
    Calls Tryd.prog 5 #[fe n] W fun e w' => e = .returned (.bool true) ∧ Below W.heap.size W w' := by
  obtain ⟨I, hI⟩ : ∃ I, invN n = I := ⟨_, rfl⟩
  have hIp : I < p25 := by rw [← hI]; exact invN_lt n
  have hIK := lt_K hIp
  have HInv := Lib.hid (fun w => F.inv n w hn)
  rw [hI] at HInv
  have HL := Lib.hid (fun w => refLeast_any n w hn)
  have HA := Lib.hid (fun w => alive_any F w)
  have hz := fun w => zero_four (n % p25) (mod_K n) w
  have hx := Lies.new W 24 (feA n)
  have hB := (Below.refl W.heap.size W).alloc (Nat.le_refl _) (.cells (feA n) 24)
  replace hT := hT.on hB
  go_enter Tryd.func5, Tryd.ntmps5
  go_upto_region 1 with fail
  generalize World.alloc W _ = w0 at *
  have hst0 := fun w => zero_four I hIK w
  have HIp := Lib.hid hIp
  have HIK := Lib.hid hIK
  have HI := Lib.hid hI
  clear hIp hIK hI
  go_upto_region 2 with (first
      | ((with_reducible refine wpL_load W.heap.size 24 (feA n) 4 rowFe (feA_size _) hx ?_ ?_); rfl)
      | (go_at_call 23; refine (HInv.out _ hT).mono ?_; rintro e w1 ⟨rfl, hb⟩; replace hx := hx.on hb; replace hT := hT.on hb; replace hB := below_on hB hb; clear hb)
      | ((with_reducible refine wpL_store w1.heap.size 24 _ (feA I) 4 rowFe ?_ (feA_size _) (feA_one _) (Lies.new w1 _ _) ?_ ?_ ?_); rfl; rfl; rfl))
  have hxy := hx.on (newly w1 (.cells fe0A 24) (feA I))
  have hTy := hT.on (newly w1 (.cells fe0A 24) (feA I))
  have hBy := below_on hB (newly w1 (.cells fe0A 24) (feA I))
  have hy := newly_lies w1 24 fe0A (feA I)
  clear hx hT hB
  generalize World.setRow _ _ _ = w2 at *
  generalize w1.heap.size = gy at *
  by_cases h0 : n % p25 = 0
  · rw [decide_eq_true h0] at hz
    rw [decide_eq_true (show I = 0 by rw [← HI.out]; exact invN_zero h0)] at hst0
    clear h0
    obtain ⟨b0, b1, b2, b3, hb⟩ := fe_four I
    have e2 : fe I = .agg #[w64 b0, w64 b1, w64 b2, w64 b3] := by rw [fe, hb]
    rw [e2] at hst0 ⊢
    rw [hb] at hy
    clear hb e2
    go_wp2_with (first
      | ((with_reducible refine wpL_load W.heap.size 24 (feA n) 4 rowFe (feA_size _) hxy ?_ ?_); rfl)
      | (go_at_call 12; refine (HL.out _).mono ?_; rintro e w3 ⟨rfl, hb⟩; replace hy := hy.on hb; replace hTy := hTy.on hb; replace hBy := below_on hBy hb; clear hb)
      | (go_at_call 9; refine (HA.out _ hTy).mono ?_; rintro e w4 ⟨rfl, hb⟩; replace hy := hy.on hb; replace hTy := hTy.on hb; replace hBy := below_on hBy hb; clear hb; obtain ⟨y0, y1, y2, y3⟩ := hy.four))
    go_ret
    exact ⟨rfl, hBy⟩
  · rw [decide_eq_false h0] at hz
    have H0 := Lib.hid h0
    clear h0
    go_upto_region 4 with (first
      | ((with_reducible refine wpL_load W.heap.size 24 (feA n) 4 rowFe (feA_size _) hxy ?_ ?_); rfl)
      | (go_at_call 12; refine (HL.out _).mono ?_; rintro e w3 ⟨rfl, hb⟩; replace hxy := hxy.on hb; replace hy := hy.on hb; replace hTy := hTy.on hb; replace hBy := below_on hBy hb; clear hb))
    clear hz hst0
    have cA := reg (fun w hw => alive_any F w (hTy.on hw))
    have cM := reg (fun w hw => F.mul n I w hn HIK.out (hTy.on hw))
    have cI := reg (fun w hw => F.inv I w HIK.out (hTy.on hw))
    have rL := reg (W := w3) (fun w _ => refLeast_any n w hn)
    have rI := reg (W := w3) (fun w _ => refLeast_any I w HIK.out)
    rw [← HI.out, mul_invN H0.out] at cM
    rw [HI.out] at cM
    rw [← HI.out, invN_invN H0.out, HI.out] at cI
    rw [Nat.mod_eq_of_lt HIp.out] at rI
    have h1 := one_four
    have hE := eql_self (n % p25)
    obtain ⟨a0, a1, a2, a3, ha⟩ := fe_four n
    obtain ⟨b0, b1, b2, b3, hb⟩ := fe_four I
    have e1 : fe n = .agg #[w64 a0, w64 a1, w64 a2, w64 a3] := by rw [fe, ha]
    have e2 : fe I = .agg #[w64 b0, w64 b1, w64 b2, w64 b3] := by rw [fe, hb]
    have hS := same_four b0 b1 b2 b3
    rw [ha] at hxy
    rw [hb] at hy
    rw [e1] at cM rL
    rw [e2] at cM cI rI
    rw [e1, e2]
    obtain ⟨x0, x1, x2, x3⟩ := hxy.four
    obtain ⟨y0, y1, y2, y3⟩ := hy.four
    have k0 := cell_regrown x0
    have k1 := cell_regrown x1
    have k2 := cell_regrown x2
    have k3 := cell_regrown x3
    have l0 := cell_regrown y0
    have l1 := cell_regrown y1
    have l2 := cell_regrown y2
    have l3 := cell_regrown y3
    clear x0 x1 x2 x3 y0 y1 y2 y3 e1 e2 ha hb HI HIp HIK HInv HL HA
    refine wp_region_quiet_below (by kernel_rfl) (by kernel_rfl) ?_
    repeat (go_big_quiet_step (first | exact cA _ _ | exact cM _ _ | exact cI _ _ | exact rL _ _ | exact rI _ _))
    refine wpQuiet_nil ?_
    intro _ hw'
    obtain ⟨⟨dq, osq⟩, hw''⟩ := hw'
    subst hw''
    go_wp2_with fail
    go_ret
    exact ⟨rfl, below_on hBy (below_regrown w3 dq osq)⟩
end Go.Proofs.YtlbhlklgliblgaaDoor.F
