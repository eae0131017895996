/- What is proved: whatever number the statement of halves is called with, it answers true, if the field's functions keep their contracts. -/
import Derived.Test.YtlbhlklgliblgaaDoorFInverts
import Derived.Deep.RegionWith
import Derived.Deep.CutRange
namespace Go.Proofs.YtlbhlklgliblgaaDoor.F
open Go.RowKit Go.Sort
attribute [local irreducible] feA

abbrev pA : Array Value := #[.int .u64 18446744073709551597, .int .u64 18446744073709551615, .int .u64 18446744073709551615, .int .u64 9223372036854775807]
theorem p25_K : p25 < K256 := by decide
theorem fe_p25 : fe p25 = .agg pA := by unfold fe feA; rfl

set_option maxRecDepth 100000 in
set_option maxHeartbeats 6400000 in
theorem halves_walk (F : FieldOk) (n : Nat) (hn : n < K256) (W : World) (hT : Tab W) :
    Calls Tryd.prog 8 #[fe n] W fun e w' => e = .returned (.bool true) ∧ Below W.heap.size W w' := by
  obtain ⟨I, hI⟩ : ∃ I, invN 2 = I := ⟨_, rfl⟩
  have hIK : I < K256 := by rw [← hI]; exact lt_K (invN_lt 2)
  obtain ⟨H, hH⟩ : ∃ H, n * I % p25 = H := ⟨_, rfl⟩
  have hHK : H < K256 := by rw [← hH]; exact mod_K _
  have hHH : Hid ((H + H) % p25 = n % p25) := Lib.hid (by rw [← hH, ← hI]; exact halves n)
  have HO : Hid (∀ w, Tab w → Calls Tryd.prog 10 #[.int .u64 2] w fun e w' => e = .returned (fe 2) ∧ Below w.heap.size w w') := Lib.hid (fun w => F.of 2 w (by decide))
  have HI := Lib.hid (fun w => F.inv 2 w (by decide))
  have HM := Lib.hid (fun w => F.mul n I w hn hIK)
  rw [hI] at HI
  rw [hH] at HM
  clear hI hH
  have HIK := Lib.hid hIK
  have HHK := Lib.hid hHK
  have HNK := Lib.hid hn
  clear hIK hHK hn
  obtain ⟨a0, a1, a2, a3, ha⟩ := fe_four n
  have e1 : fe n = .agg #[w64 a0, w64 a1, w64 a2, w64 a3] := by rw [fe, ha]
  rw [e1] at HM
  rw [e1]
  have hT0 := Lib.hid hT
  have hx := Lies.new W 24 #[w64 a0, w64 a1, w64 a2, w64 a3]
  have hB := (Below.refl W.heap.size W).alloc (Nat.le_refl _) (.cells #[w64 a0, w64 a1, w64 a2, w64 a3] 24)
  replace hT := hT.on hB
  have HE1 := Lib.hid e1
  clear e1 ha
  go_enter Tryd.func8, Tryd.ntmps8
  go_upto_region 1 with fail
  generalize World.alloc W _ = w0 at *
  obtain ⟨x0, x1, x2, x3⟩ := hx.four
  go_cut [3] from 5 to 8 (fun s3 wx => ∃ g, s3 = .pointer (some ⟨g, 0, none⟩) ∧ Lies wx g 24 (feA H) ∧ Lies wx W.heap.size 24 #[w64 a0, w64 a1, w64 a2, w64 a3] ∧ Tab wx ∧ Below W.heap.size W wx)
  case first =>
    have hlt : W.heap.size < w0.heap.size := hx.lt
    replace hx := hx.drew
    replace hB := hB.drew
    replace hT : Tab w0.drew := hT
    obtain ⟨z0, z1, z2, z3⟩ := (hx.alloc (.cells fe0A 24)).four
    go_region_with (first
      | (go_at_call 10; first
        | (refine (HO.out _ hT).mono ?_; rintro e w1 ⟨rfl, hb⟩; replace hT := hT.on hb; replace hB := below_on hB hb; replace hx := hx.on hb; clear hb x0 x1 x2 x3 z0 z1 z2 z3; obtain ⟨x0, x1, x2, x3⟩ := hx.four; obtain ⟨z0, z1, z2, z3⟩ := (hx.alloc (.cells fe0A 24)).four)
        | (refine (HO.out _ (hT.on ((Below.refl _ _).alloc (Nat.le_refl _) (.cells fe0A 24)))).mono ?_; rintro e w1 ⟨rfl, hb⟩; have hz : Lies w1 w0.heap.size 24 fe0A := (Lies.new w0.drew 24 fe0A).on hb; replace hT := (hT.on ((Below.refl _ _).alloc (Nat.le_refl _) (.cells fe0A 24))).on hb; replace hB := below_on (hB.alloc hB.size (.cells fe0A 24)) hb; replace hx := (hx.alloc (.cells fe0A 24)).on hb; clear hb x0 x1 x2 x3 z0 z1 z2 z3; obtain ⟨x0, x1, x2, x3⟩ := hx.four))
      | (go_at_call 23; first
        | (refine (HI.out _ hT).mono ?_; rintro e w2 ⟨rfl, hb⟩; replace hT := hT.on hb; replace hB := below_on hB hb; replace hx := hx.on hb; (try replace hz := hz.on hb); clear hb; obtain ⟨x0, x1, x2, x3⟩ := hx.four; obtain ⟨z0, z1, z2, z3⟩ := (hx.alloc (.cells fe0A 24)).four)
        | (refine (HI.out _ (hT.on ((Below.refl _ _).alloc (Nat.le_refl _) (.cells fe0A 24)))).mono ?_; rintro e w2 ⟨rfl, hb⟩; have hg := hx.lt; have hz := (Lies.new _ 24 fe0A).on hb; replace hT := (hT.on ((Below.refl _ _).alloc (Nat.le_refl _) (.cells fe0A 24))).on hb; replace hB := below_on (hB.alloc hB.size (.cells fe0A 24)) hb; replace hx := (hx.alloc (.cells fe0A 24)).on hb; clear hb; obtain ⟨x0, x1, x2, x3⟩ := hx.four))
      | (go_at_call 17; first
        | (refine (HM.out _ hT).mono ?_; rintro e w3 ⟨rfl, hb⟩; replace hT := hT.on hb; replace hB := below_on hB hb; replace hx := hx.on hb; (try (replace hz := hz.on hb; have hst := hz.storeFe H)); clear hb; have hst2 := (Lies.new w3 24 fe0A).storeFe H; have hsz := feA_size H)
        | (refine (HM.out _ (hT.on ((Below.refl _ _).alloc (Nat.le_refl _) (.cells fe0A 24)))).mono ?_; rintro e w3 ⟨rfl, hb⟩; have hg := hx.lt; have hz := (Lies.new _ 24 fe0A).on hb; replace hT := (hT.on ((Below.refl _ _).alloc (Nat.le_refl _) (.cells fe0A 24))).on hb; replace hB := below_on (hB.alloc hB.size (.cells fe0A 24)) hb; replace hx := (hx.alloc (.cells fe0A 24)).on hb; clear hb; have hst := hz.storeFe H; have hsz := feA_size H)))
    all_goals
      go_wp2_with fail
      go_meet
      first
        | (have hB9 := below_rowSet hB (show W.heap.size ≤ _ by first | exact Nat.le_of_lt hg | exact Nat.le_of_lt hlt) (feA H); exact ⟨_, rfl, hz.row _, hx.rowFar (by omega) _, hT0.out.on hB9, hB9⟩)
        | (have hB9 := below_rowSet (hB.alloc hB.size (.cells fe0A 24)) hB.size (feA H); exact ⟨_, rfl, (Lies.new w3 24 fe0A).row _, (hx.alloc _).rowFar (by have := hx.lt; omega) _, hT0.out.on hB9, hB9⟩)
  case rest =>
    clear x0 x1 x2 x3 hx hB hT HO HI HM hT0
    obtain ⟨gh, rfl, hh, hx, hT, hB⟩ := hcut
    have hp := Lies.new wc 24 pA
    have hba := (Below.refl wc.heap.size wc).alloc (Nat.le_refl _) (.cells pA 24)
    replace hh := hh.on hba
    replace hx := hx.on hba
    replace hT := hT.on hba
    replace hB := below_on hB hba
    clear hba
    go_upto_region 3 with fail
    generalize World.alloc wc _ = w1 at *
    generalize wc.heap.size = gp at *
    have hn := HNK.out
    have hH := HHK.out
    have cA := reg (fun w hw => alive_any F w (hT.on hw))
    have cH := reg (fun w hw => F.add H H w hH hH (hT.on hw))
    have rL := reg (W := w1) (fun w _ => refLeast_any n w hn)
    have cS := reg (fun w hw => F.sub n n w hn hn (hT.on hw))
    have cP := reg (fun w hw => F.add n p25 w hn p25_K (hT.on hw))
    have cM := reg (fun w hw => F.mul n p25 w hn p25_K (hT.on hw))
    have cL := reg (fun w hw => F.least p25 w p25_K (hT.on hw))
    rw [hHH.out] at cH
    rw [sub_self_mod] at cS
    rw [add_p_mod] at cP
    rw [mul_p_mod] at cM
    rw [Nat.mod_self] at cL
    have hE := eql_self (n % p25)
    have hZ : ∀ w, (binOp .eql 24 (fe 0) (.agg #[.int .u64 0, .int .u64 0, .int .u64 0, .int .u64 0])).run Tryd.prog w = .ok (.bool true) w := fun w => zero_four 0 (by decide) w
    obtain ⟨b0, b1, b2, b3, hb⟩ := fe_four H
    have e2 : fe H = .agg #[w64 b0, w64 b1, w64 b2, w64 b3] := by rw [fe, hb]
    rw [hb] at hh
    rw [e2] at cH
    rw [HE1.out] at rL cS cP cM
    rw [fe_p25] at cP cM cL
    obtain ⟨x0, x1, x2, x3⟩ := hx.four
    obtain ⟨y0, y1, y2, y3⟩ := hh.four
    obtain ⟨z0, z1, z2, z3⟩ := hp.four
    have k0 := cell_regrown x0
    have k1 := cell_regrown x1
    have k2 := cell_regrown x2
    have k3 := cell_regrown x3
    have l0 := cell_regrown y0
    have l1 := cell_regrown y1
    have l2 := cell_regrown y2
    have l3 := cell_regrown y3
    have m0 := cell_regrown z0
    have m1 := cell_regrown z1
    have m2 := cell_regrown z2
    have m3 := cell_regrown z3
    clear x0 x1 x2 x3 y0 y1 y2 y3 z0 z1 z2 z3 e2 hb hH hn HE1 HIK HHK HNK hHH
    refine wp_region_quiet_below (by kernel_rfl) (by kernel_rfl) ?_
    repeat (go_big_quiet_step (first | with_reducible exact cA _ _ | with_reducible exact cH _ _ | with_reducible exact rL _ _ | with_reducible exact cS _ _ | with_reducible exact cP _ _ | with_reducible exact cM _ _ | with_reducible exact cL _ _ ))
    refine wpQuiet_nil ?_
    intro _ hw'
    obtain ⟨⟨dq, osq⟩, hw''⟩ := hw'
    subst hw''
    go_wp2_with fail
    go_ret
    exact ⟨rfl, below_on hB (below_regrown w1 dq osq)⟩
end Go.Proofs.YtlbhlklgliblgaaDoor.F
