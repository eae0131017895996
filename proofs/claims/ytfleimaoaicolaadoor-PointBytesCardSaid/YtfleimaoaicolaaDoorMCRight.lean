/- The contract of the reference's Right. -/
import Derived.Test.YtfleimaoaicolaaDoorLot12
namespace Go.Proofs.YtfleimaoaicolaaDoor.C
open Go.RowKit Go.Sort Go.Proofs.YtfleimaoaicolaaDoor.F
set_option maxRecDepth 100000

/-- the frame is worked out by itself -/
theorem qAr {P : Program} {ops : Array Oper} {C : World → Prop} {Q : Act → Prop} {rest : List Oper} {a a' : Act} (h : wpQuiet P ops C Q rest a') (ha : a = a') : wpQuiet P ops C Q rest a := ha ▸ h
/-- a number that is a field is read -/
theorem wpQg_mid {w0 : World} {ops : Array Oper} {Q : Act → Prop} {a : Act} {rest : List Oper} {t' : TypeId} {pos : String} {after : Array Edge} {gd : Option (Nat × Bool)} {d : Option Tmp} {x : Operand} (g o n : Nat) (hr : w0.rangeAt g o (feA n).toList) (hx : a.eval x = .pointer (some ⟨g, o, none⟩)) (hw : Region.wanted ⟨d, .load 24 x, t', pos, after, gd⟩ (yielded ops a.tmps) = true)
    (h : wpQuiet Tryd.prog ops (Gr w0) Q rest (a.put d (fe n))) : wpQuiet Tryd.prog ops (Gr w0) Q (⟨d, .load 24 x, t', pos, after, gd⟩ :: rest) a :=
  wpQg_run (fe n) hw (fun w hw => by
    have hr' : w.rangeAt g o (feA n).toList := fun j v hv => by
      have h1 := hr j v hv
      exact (hw.cell (p := ⟨g, o + j, none⟩) (World.block_lt_of_cell? w0 _ h1)).trans h1
    unfold execOp
    simp only [hx, Instr.loadAt, Instr.sureAddr, Sem.run_bind, Sem.run_pure, Result.andThen_ok, run_loadVar_mid w g o 24 (feA n).toList _ hr' Tryd.underlying24 rfl (by rw [Array.length_toList, feA_size]; exact rowFe.2), Array.toArray_toList]) h
abbrev z8F : Array Value := #[.int .u64 0, .int .u64 0, .int .u64 0, .int .u64 0, .int .u64 0, .int .u64 0, .int .u64 0, .int .u64 0]
theorem least_neq (n : Nat) : (!decide (n % p25 = n)) = !decide (n < p25) := by
  by_cases h : n < p25
  · rw [decide_eq_true h, decide_eq_true (Nat.mod_eq_of_lt h)]
  · rw [decide_eq_false h, decide_eq_false]
    intro e
    have := Nat.mod_lt n p25_pos
    omega
theorem right_parts (u : N4) : u.right = (!(!decide (u.X < p25)) && !(!decide (u.Y < p25)) && !(!decide (u.Z < p25)) && !(!decide (u.T < p25)) && !(decide (u.Z = 0)) && !(!decide (u.X * u.Y % p25 = u.Z * u.T % p25)) && onB (u.X * invN u.Z % p25) (u.Y * invN u.Z % p25)) := by
  unfold N4.right
  simp only [Bool.not_not, ne_eq, decide_not]
attribute [local irreducible] feA ptA wpQuiet

set_option maxHeartbeats 1600000 in
theorem right_way0 (u : N4) (hu : u.Lt) (hX : (!decide (u.X < p25)) = true) (W : World) :
    Calls Tryd.prog 13 #[pt u] W fun e w' => e = .returned (.bool false) ∧ Below W.heap.size W w' := by
  replace hX := Lib.hid hX
  have HX := Lib.hid (fun w => refLeast_any u.X w hu.X)
  have kX := hu.X
  have lX := mod_K u.X
  have bX := least_neq u.X
  generalize u.X % p25 = mX at *
  have HY := Lib.hid (fun w => refLeast_any u.Y w hu.Y)
  have kY := hu.Y
  have lY := mod_K u.Y
  have bY := least_neq u.Y
  generalize u.Y % p25 = mY at *
  have HZ := Lib.hid (fun w => refLeast_any u.Z w hu.Z)
  have kZ := hu.Z
  have lZ := mod_K u.Z
  have bZ := least_neq u.Z
  generalize u.Z % p25 = mZ at *
  have HT := Lib.hid (fun w => refLeast_any u.T w hu.T)
  have kT := hu.T
  have lT := mod_K u.T
  have bT := least_neq u.T
  generalize u.T % p25 = mT at *
  have HXY := Lib.hid (fun w => refMul_any u.X u.Y w kX kY)
  have kXY := mod_K (u.X * u.Y)
  have HZT := Lib.hid (fun w => refMul_any u.Z u.T w kZ kT)
  have kZT := mod_K (u.Z * u.T)
  generalize u.X * u.Y % p25 = xy at *
  generalize u.Z * u.T % p25 = zt at *
  have HA := Lib.hid (fun w => refAffine_any u w kX kY kZ)
  have kax := mod_K (u.X * invN u.Z)
  have kay := mod_K (u.Y * invN u.Z)
  generalize u.X * invN u.Z % p25 = ax at *
  generalize u.Y * invN u.Z % p25 = ay at *
  have HD := Lib.hid (fun w => refD_any w)
  have HO := Lib.hid (fun w => refOn_any ax ay w kax kay)
  have BX := Lib.hid bX
  clear bX
  have BY := Lib.hid bY
  clear bY
  have BZ := Lib.hid bZ
  clear bZ
  have BT := Lib.hid bT
  clear bT
  go_enter Tryd.func13, Tryd.ntmps13
  have hp := Lies.new W 26 (ptA u)
  have hB := (Below.refl W.heap.size W).alloc (Nat.le_refl _) (.cells (ptA u) 26)
  go_upto_region 1 with fail
  generalize World.alloc W _ = w0 at *
  have hpX := pt_X hp
  have hpY := pt_Y hp
  have hpZ := pt_Z hp
  have hpT := pt_T hp
  refine wp_region_all_g (by kernel_rfl) (by kernel_rfl) ?_
  refine wpQg_run (.pointer (some ⟨W.heap.size, 0, none⟩)) rfl (fun _ _ => by kernel_rfl) (qAr ?_ (by simp only [Act.put, List.setIfInBounds_toArray, List.set_cons_succ, List.set_cons_zero]; rfl))
  refine wpQg_mid W.heap.size 0 u.X hpX rfl rfl (qAr ?_ (by simp only [Act.put, List.setIfInBounds_toArray, List.set_cons_succ, List.set_cons_zero]; rfl))
  refine wpQg_call 33 #[fe u.X] (fe mX) rfl rfl (fun _ => by kernel_rfl) (fun w _ => HX.out w) (qAr ?_ (by simp only [Act.put, List.setIfInBounds_toArray, List.set_cons_succ, List.set_cons_zero]; rfl))
  refine wpQg_run (.pointer (some ⟨W.heap.size, 0, none⟩)) rfl (fun _ _ => by kernel_rfl) (qAr ?_ (by simp only [Act.put, List.setIfInBounds_toArray, List.set_cons_succ, List.set_cons_zero]; rfl))
  refine wpQg_mid W.heap.size 0 u.X hpX rfl rfl (qAr ?_ (by simp only [Act.put, List.setIfInBounds_toArray, List.set_cons_succ, List.set_cons_zero]; rfl))
  refine wpQg_run (.bool true) rfl (fun w _ => (neq_exec rfl mX u.X lX kX rfl rfl w).trans (by rw [BX.out, hX.out])) (qAr ?_ (by simp only [Act.put, List.setIfInBounds_toArray, List.set_cons_succ, List.set_cons_zero]; rfl))
  refine wpQg_run (.bool true) rfl (fun _ _ => rfl) (qAr ?_ (by simp only [Act.put, List.setIfInBounds_toArray, List.set_cons_succ, List.set_cons_zero]; rfl))
  refine wpQg_skip rfl (qAr ?_ (by simp only [Act.put, List.setIfInBounds_toArray, List.set_cons_succ, List.set_cons_zero]; rfl))
  refine wpQg_skip rfl (qAr ?_ (by simp only [Act.put, List.setIfInBounds_toArray, List.set_cons_succ, List.set_cons_zero]; rfl))
  refine wpQg_skip rfl (qAr ?_ (by simp only [Act.put, List.setIfInBounds_toArray, List.set_cons_succ, List.set_cons_zero]; rfl))
  refine wpQg_skip rfl (qAr ?_ (by simp only [Act.put, List.setIfInBounds_toArray, List.set_cons_succ, List.set_cons_zero]; rfl))
  refine wpQg_skip rfl (qAr ?_ (by simp only [Act.put, List.setIfInBounds_toArray, List.set_cons_succ, List.set_cons_zero]; rfl))
  refine wpQg_skip rfl (qAr ?_ (by simp only [Act.put, List.setIfInBounds_toArray, List.set_cons_succ, List.set_cons_zero]; rfl))
  refine wpQg_run (.bool true) rfl (fun _ _ => by kernel_rfl) (qAr ?_ (by simp only [Act.put, List.setIfInBounds_toArray, List.set_cons_succ, List.set_cons_zero]; rfl))
  refine wpQg_run (.bool true) rfl (fun _ _ => rfl) (qAr ?_ (by simp only [Act.put, List.setIfInBounds_toArray, List.set_cons_succ, List.set_cons_zero]; rfl))
  refine wpQg_skip rfl (qAr ?_ (by simp only [Act.put, List.setIfInBounds_toArray, List.set_cons_succ, List.set_cons_zero]; rfl))
  refine wpQg_skip rfl (qAr ?_ (by simp only [Act.put, List.setIfInBounds_toArray, List.set_cons_succ, List.set_cons_zero]; rfl))
  refine wpQg_skip rfl (qAr ?_ (by simp only [Act.put, List.setIfInBounds_toArray, List.set_cons_succ, List.set_cons_zero]; rfl))
  refine wpQg_skip rfl (qAr ?_ (by simp only [Act.put, List.setIfInBounds_toArray, List.set_cons_succ, List.set_cons_zero]; rfl))
  refine wpQg_skip rfl (qAr ?_ (by simp only [Act.put, List.setIfInBounds_toArray, List.set_cons_succ, List.set_cons_zero]; rfl))
  refine wpQg_skip rfl (qAr ?_ (by simp only [Act.put, List.setIfInBounds_toArray, List.set_cons_succ, List.set_cons_zero]; rfl))
  refine wpQg_run (.bool true) rfl (fun _ _ => by kernel_rfl) (qAr ?_ (by simp only [Act.put, List.setIfInBounds_toArray, List.set_cons_succ, List.set_cons_zero]; rfl))
  refine wpQg_run (.bool true) rfl (fun _ _ => rfl) (qAr ?_ (by simp only [Act.put, List.setIfInBounds_toArray, List.set_cons_succ, List.set_cons_zero]; rfl))
  refine wpQg_skip rfl (qAr ?_ (by simp only [Act.put, List.setIfInBounds_toArray, List.set_cons_succ, List.set_cons_zero]; rfl))
  refine wpQg_skip rfl (qAr ?_ (by simp only [Act.put, List.setIfInBounds_toArray, List.set_cons_succ, List.set_cons_zero]; rfl))
  refine wpQg_skip rfl (qAr ?_ (by simp only [Act.put, List.setIfInBounds_toArray, List.set_cons_succ, List.set_cons_zero]; rfl))
  refine wpQg_skip rfl (qAr ?_ (by simp only [Act.put, List.setIfInBounds_toArray, List.set_cons_succ, List.set_cons_zero]; rfl))
  refine wpQg_skip rfl (qAr ?_ (by simp only [Act.put, List.setIfInBounds_toArray, List.set_cons_succ, List.set_cons_zero]; rfl))
  refine wpQg_skip rfl (qAr ?_ (by simp only [Act.put, List.setIfInBounds_toArray, List.set_cons_succ, List.set_cons_zero]; rfl))
  refine wpQg_run (.bool true) rfl (fun _ _ => by kernel_rfl) (qAr ?_ (by simp only [Act.put, List.setIfInBounds_toArray, List.set_cons_succ, List.set_cons_zero]; rfl))
  refine wpQuiet_nil ?_
  intro w1 hb
  replace hB := below_on hB hb
  go_wp2_with fail
  go_ret
  exact ⟨rfl, hB⟩

set_option maxHeartbeats 1600000 in
theorem right_way1 (u : N4) (hu : u.Lt) (hX : (!decide (u.X < p25)) = false) (hY : (!decide (u.Y < p25)) = true) (W : World) :
    Calls Tryd.prog 13 #[pt u] W fun e w' => e = .returned (.bool false) ∧ Below W.heap.size W w' := by
  replace hX := Lib.hid hX
  replace hY := Lib.hid hY
  have HX := Lib.hid (fun w => refLeast_any u.X w hu.X)
  have kX := hu.X
  have lX := mod_K u.X
  have bX := least_neq u.X
  generalize u.X % p25 = mX at *
  have HY := Lib.hid (fun w => refLeast_any u.Y w hu.Y)
  have kY := hu.Y
  have lY := mod_K u.Y
  have bY := least_neq u.Y
  generalize u.Y % p25 = mY at *
  have HZ := Lib.hid (fun w => refLeast_any u.Z w hu.Z)
  have kZ := hu.Z
  have lZ := mod_K u.Z
  have bZ := least_neq u.Z
  generalize u.Z % p25 = mZ at *
  have HT := Lib.hid (fun w => refLeast_any u.T w hu.T)
  have kT := hu.T
  have lT := mod_K u.T
  have bT := least_neq u.T
  generalize u.T % p25 = mT at *
  have HXY := Lib.hid (fun w => refMul_any u.X u.Y w kX kY)
  have kXY := mod_K (u.X * u.Y)
  have HZT := Lib.hid (fun w => refMul_any u.Z u.T w kZ kT)
  have kZT := mod_K (u.Z * u.T)
  generalize u.X * u.Y % p25 = xy at *
  generalize u.Z * u.T % p25 = zt at *
  have HA := Lib.hid (fun w => refAffine_any u w kX kY kZ)
  have kax := mod_K (u.X * invN u.Z)
  have kay := mod_K (u.Y * invN u.Z)
  generalize u.X * invN u.Z % p25 = ax at *
  generalize u.Y * invN u.Z % p25 = ay at *
  have HD := Lib.hid (fun w => refD_any w)
  have HO := Lib.hid (fun w => refOn_any ax ay w kax kay)
  have BX := Lib.hid bX
  clear bX
  have BY := Lib.hid bY
  clear bY
  have BZ := Lib.hid bZ
  clear bZ
  have BT := Lib.hid bT
  clear bT
  go_enter Tryd.func13, Tryd.ntmps13
  have hp := Lies.new W 26 (ptA u)
  have hB := (Below.refl W.heap.size W).alloc (Nat.le_refl _) (.cells (ptA u) 26)
  go_upto_region 1 with fail
  generalize World.alloc W _ = w0 at *
  have hpX := pt_X hp
  have hpY := pt_Y hp
  have hpZ := pt_Z hp
  have hpT := pt_T hp
  refine wp_region_all_g (by kernel_rfl) (by kernel_rfl) ?_
  refine wpQg_run (.pointer (some ⟨W.heap.size, 0, none⟩)) rfl (fun _ _ => by kernel_rfl) (qAr ?_ (by simp only [Act.put, List.setIfInBounds_toArray, List.set_cons_succ, List.set_cons_zero]; rfl))
  refine wpQg_mid W.heap.size 0 u.X hpX rfl rfl (qAr ?_ (by simp only [Act.put, List.setIfInBounds_toArray, List.set_cons_succ, List.set_cons_zero]; rfl))
  refine wpQg_call 33 #[fe u.X] (fe mX) rfl rfl (fun _ => by kernel_rfl) (fun w _ => HX.out w) (qAr ?_ (by simp only [Act.put, List.setIfInBounds_toArray, List.set_cons_succ, List.set_cons_zero]; rfl))
  refine wpQg_run (.pointer (some ⟨W.heap.size, 0, none⟩)) rfl (fun _ _ => by kernel_rfl) (qAr ?_ (by simp only [Act.put, List.setIfInBounds_toArray, List.set_cons_succ, List.set_cons_zero]; rfl))
  refine wpQg_mid W.heap.size 0 u.X hpX rfl rfl (qAr ?_ (by simp only [Act.put, List.setIfInBounds_toArray, List.set_cons_succ, List.set_cons_zero]; rfl))
  refine wpQg_run (.bool false) rfl (fun w _ => (neq_exec rfl mX u.X lX kX rfl rfl w).trans (by rw [BX.out, hX.out])) (qAr ?_ (by simp only [Act.put, List.setIfInBounds_toArray, List.set_cons_succ, List.set_cons_zero]; rfl))
  refine wpQg_run (.bool false) rfl (fun _ _ => rfl) (qAr ?_ (by simp only [Act.put, List.setIfInBounds_toArray, List.set_cons_succ, List.set_cons_zero]; rfl))
  refine wpQg_run (.pointer (some ⟨W.heap.size, 4, none⟩)) rfl (fun _ _ => by kernel_rfl) (qAr ?_ (by simp only [Act.put, List.setIfInBounds_toArray, List.set_cons_succ, List.set_cons_zero]; rfl))
  refine wpQg_mid W.heap.size 4 u.Y hpY rfl rfl (qAr ?_ (by simp only [Act.put, List.setIfInBounds_toArray, List.set_cons_succ, List.set_cons_zero]; rfl))
  refine wpQg_call 33 #[fe u.Y] (fe mY) rfl rfl (fun _ => by kernel_rfl) (fun w _ => HY.out w) (qAr ?_ (by simp only [Act.put, List.setIfInBounds_toArray, List.set_cons_succ, List.set_cons_zero]; rfl))
  refine wpQg_run (.pointer (some ⟨W.heap.size, 4, none⟩)) rfl (fun _ _ => by kernel_rfl) (qAr ?_ (by simp only [Act.put, List.setIfInBounds_toArray, List.set_cons_succ, List.set_cons_zero]; rfl))
  refine wpQg_mid W.heap.size 4 u.Y hpY rfl rfl (qAr ?_ (by simp only [Act.put, List.setIfInBounds_toArray, List.set_cons_succ, List.set_cons_zero]; rfl))
  refine wpQg_run (.bool true) rfl (fun w _ => (neq_exec rfl mY u.Y lY kY rfl rfl w).trans (by rw [BY.out, hY.out])) (qAr ?_ (by simp only [Act.put, List.setIfInBounds_toArray, List.set_cons_succ, List.set_cons_zero]; rfl))
  refine wpQg_run (.bool true) rfl (fun _ _ => by kernel_rfl) (qAr ?_ (by simp only [Act.put, List.setIfInBounds_toArray, List.set_cons_succ, List.set_cons_zero]; rfl))
  refine wpQg_run (.bool true) rfl (fun _ _ => rfl) (qAr ?_ (by simp only [Act.put, List.setIfInBounds_toArray, List.set_cons_succ, List.set_cons_zero]; rfl))
  refine wpQg_skip rfl (qAr ?_ (by simp only [Act.put, List.setIfInBounds_toArray, List.set_cons_succ, List.set_cons_zero]; rfl))
  refine wpQg_skip rfl (qAr ?_ (by simp only [Act.put, List.setIfInBounds_toArray, List.set_cons_succ, List.set_cons_zero]; rfl))
  refine wpQg_skip rfl (qAr ?_ (by simp only [Act.put, List.setIfInBounds_toArray, List.set_cons_succ, List.set_cons_zero]; rfl))
  refine wpQg_skip rfl (qAr ?_ (by simp only [Act.put, List.setIfInBounds_toArray, List.set_cons_succ, List.set_cons_zero]; rfl))
  refine wpQg_skip rfl (qAr ?_ (by simp only [Act.put, List.setIfInBounds_toArray, List.set_cons_succ, List.set_cons_zero]; rfl))
  refine wpQg_skip rfl (qAr ?_ (by simp only [Act.put, List.setIfInBounds_toArray, List.set_cons_succ, List.set_cons_zero]; rfl))
  refine wpQg_run (.bool true) rfl (fun _ _ => by kernel_rfl) (qAr ?_ (by simp only [Act.put, List.setIfInBounds_toArray, List.set_cons_succ, List.set_cons_zero]; rfl))
  refine wpQg_run (.bool true) rfl (fun _ _ => rfl) (qAr ?_ (by simp only [Act.put, List.setIfInBounds_toArray, List.set_cons_succ, List.set_cons_zero]; rfl))
  refine wpQg_skip rfl (qAr ?_ (by simp only [Act.put, List.setIfInBounds_toArray, List.set_cons_succ, List.set_cons_zero]; rfl))
  refine wpQg_skip rfl (qAr ?_ (by simp only [Act.put, List.setIfInBounds_toArray, List.set_cons_succ, List.set_cons_zero]; rfl))
  refine wpQg_skip rfl (qAr ?_ (by simp only [Act.put, List.setIfInBounds_toArray, List.set_cons_succ, List.set_cons_zero]; rfl))
  refine wpQg_skip rfl (qAr ?_ (by simp only [Act.put, List.setIfInBounds_toArray, List.set_cons_succ, List.set_cons_zero]; rfl))
  refine wpQg_skip rfl (qAr ?_ (by simp only [Act.put, List.setIfInBounds_toArray, List.set_cons_succ, List.set_cons_zero]; rfl))
  refine wpQg_skip rfl (qAr ?_ (by simp only [Act.put, List.setIfInBounds_toArray, List.set_cons_succ, List.set_cons_zero]; rfl))
  refine wpQg_run (.bool true) rfl (fun _ _ => by kernel_rfl) (qAr ?_ (by simp only [Act.put, List.setIfInBounds_toArray, List.set_cons_succ, List.set_cons_zero]; rfl))
  refine wpQuiet_nil ?_
  intro w1 hb
  replace hB := below_on hB hb
  go_wp2_with fail
  go_ret
  exact ⟨rfl, hB⟩

set_option maxHeartbeats 1600000 in
theorem right_way2 (u : N4) (hu : u.Lt) (hX : (!decide (u.X < p25)) = false) (hY : (!decide (u.Y < p25)) = false) (hZ : (!decide (u.Z < p25)) = true) (W : World) :
    Calls Tryd.prog 13 #[pt u] W fun e w' => e = .returned (.bool false) ∧ Below W.heap.size W w' := by
  replace hX := Lib.hid hX
  replace hY := Lib.hid hY
  replace hZ := Lib.hid hZ
  have HX := Lib.hid (fun w => refLeast_any u.X w hu.X)
  have kX := hu.X
  have lX := mod_K u.X
  have bX := least_neq u.X
  generalize u.X % p25 = mX at *
  have HY := Lib.hid (fun w => refLeast_any u.Y w hu.Y)
  have kY := hu.Y
  have lY := mod_K u.Y
  have bY := least_neq u.Y
  generalize u.Y % p25 = mY at *
  have HZ := Lib.hid (fun w => refLeast_any u.Z w hu.Z)
  have kZ := hu.Z
  have lZ := mod_K u.Z
  have bZ := least_neq u.Z
  generalize u.Z % p25 = mZ at *
  have HT := Lib.hid (fun w => refLeast_any u.T w hu.T)
  have kT := hu.T
  have lT := mod_K u.T
  have bT := least_neq u.T
  generalize u.T % p25 = mT at *
  have HXY := Lib.hid (fun w => refMul_any u.X u.Y w kX kY)
  have kXY := mod_K (u.X * u.Y)
  have HZT := Lib.hid (fun w => refMul_any u.Z u.T w kZ kT)
  have kZT := mod_K (u.Z * u.T)
  generalize u.X * u.Y % p25 = xy at *
  generalize u.Z * u.T % p25 = zt at *
  have HA := Lib.hid (fun w => refAffine_any u w kX kY kZ)
  have kax := mod_K (u.X * invN u.Z)
  have kay := mod_K (u.Y * invN u.Z)
  generalize u.X * invN u.Z % p25 = ax at *
  generalize u.Y * invN u.Z % p25 = ay at *
  have HD := Lib.hid (fun w => refD_any w)
  have HO := Lib.hid (fun w => refOn_any ax ay w kax kay)
  have BX := Lib.hid bX
  clear bX
  have BY := Lib.hid bY
  clear bY
  have BZ := Lib.hid bZ
  clear bZ
  have BT := Lib.hid bT
  clear bT
  go_enter Tryd.func13, Tryd.ntmps13
  have hp := Lies.new W 26 (ptA u)
  have hB := (Below.refl W.heap.size W).alloc (Nat.le_refl _) (.cells (ptA u) 26)
  go_upto_region 1 with fail
  generalize World.alloc W _ = w0 at *
  have hpX := pt_X hp
  have hpY := pt_Y hp
  have hpZ := pt_Z hp
  have hpT := pt_T hp
  refine wp_region_all_g (by kernel_rfl) (by kernel_rfl) ?_
  refine wpQg_run (.pointer (some ⟨W.heap.size, 0, none⟩)) rfl (fun _ _ => by kernel_rfl) (qAr ?_ (by simp only [Act.put, List.setIfInBounds_toArray, List.set_cons_succ, List.set_cons_zero]; rfl))
  refine wpQg_mid W.heap.size 0 u.X hpX rfl rfl (qAr ?_ (by simp only [Act.put, List.setIfInBounds_toArray, List.set_cons_succ, List.set_cons_zero]; rfl))
  refine wpQg_call 33 #[fe u.X] (fe mX) rfl rfl (fun _ => by kernel_rfl) (fun w _ => HX.out w) (qAr ?_ (by simp only [Act.put, List.setIfInBounds_toArray, List.set_cons_succ, List.set_cons_zero]; rfl))
  refine wpQg_run (.pointer (some ⟨W.heap.size, 0, none⟩)) rfl (fun _ _ => by kernel_rfl) (qAr ?_ (by simp only [Act.put, List.setIfInBounds_toArray, List.set_cons_succ, List.set_cons_zero]; rfl))
  refine wpQg_mid W.heap.size 0 u.X hpX rfl rfl (qAr ?_ (by simp only [Act.put, List.setIfInBounds_toArray, List.set_cons_succ, List.set_cons_zero]; rfl))
  refine wpQg_run (.bool false) rfl (fun w _ => (neq_exec rfl mX u.X lX kX rfl rfl w).trans (by rw [BX.out, hX.out])) (qAr ?_ (by simp only [Act.put, List.setIfInBounds_toArray, List.set_cons_succ, List.set_cons_zero]; rfl))
  refine wpQg_run (.bool false) rfl (fun _ _ => rfl) (qAr ?_ (by simp only [Act.put, List.setIfInBounds_toArray, List.set_cons_succ, List.set_cons_zero]; rfl))
  refine wpQg_run (.pointer (some ⟨W.heap.size, 4, none⟩)) rfl (fun _ _ => by kernel_rfl) (qAr ?_ (by simp only [Act.put, List.setIfInBounds_toArray, List.set_cons_succ, List.set_cons_zero]; rfl))
  refine wpQg_mid W.heap.size 4 u.Y hpY rfl rfl (qAr ?_ (by simp only [Act.put, List.setIfInBounds_toArray, List.set_cons_succ, List.set_cons_zero]; rfl))
  refine wpQg_call 33 #[fe u.Y] (fe mY) rfl rfl (fun _ => by kernel_rfl) (fun w _ => HY.out w) (qAr ?_ (by simp only [Act.put, List.setIfInBounds_toArray, List.set_cons_succ, List.set_cons_zero]; rfl))
  refine wpQg_run (.pointer (some ⟨W.heap.size, 4, none⟩)) rfl (fun _ _ => by kernel_rfl) (qAr ?_ (by simp only [Act.put, List.setIfInBounds_toArray, List.set_cons_succ, List.set_cons_zero]; rfl))
  refine wpQg_mid W.heap.size 4 u.Y hpY rfl rfl (qAr ?_ (by simp only [Act.put, List.setIfInBounds_toArray, List.set_cons_succ, List.set_cons_zero]; rfl))
  refine wpQg_run (.bool false) rfl (fun w _ => (neq_exec rfl mY u.Y lY kY rfl rfl w).trans (by rw [BY.out, hY.out])) (qAr ?_ (by simp only [Act.put, List.setIfInBounds_toArray, List.set_cons_succ, List.set_cons_zero]; rfl))
  refine wpQg_run (.bool false) rfl (fun _ _ => by kernel_rfl) (qAr ?_ (by simp only [Act.put, List.setIfInBounds_toArray, List.set_cons_succ, List.set_cons_zero]; rfl))
  refine wpQg_run (.bool false) rfl (fun _ _ => rfl) (qAr ?_ (by simp only [Act.put, List.setIfInBounds_toArray, List.set_cons_succ, List.set_cons_zero]; rfl))
  refine wpQg_run (.pointer (some ⟨W.heap.size, 8, none⟩)) rfl (fun _ _ => by kernel_rfl) (qAr ?_ (by simp only [Act.put, List.setIfInBounds_toArray, List.set_cons_succ, List.set_cons_zero]; rfl))
  refine wpQg_mid W.heap.size 8 u.Z hpZ rfl rfl (qAr ?_ (by simp only [Act.put, List.setIfInBounds_toArray, List.set_cons_succ, List.set_cons_zero]; rfl))
  refine wpQg_call 33 #[fe u.Z] (fe mZ) rfl rfl (fun _ => by kernel_rfl) (fun w _ => HZ.out w) (qAr ?_ (by simp only [Act.put, List.setIfInBounds_toArray, List.set_cons_succ, List.set_cons_zero]; rfl))
  refine wpQg_run (.pointer (some ⟨W.heap.size, 8, none⟩)) rfl (fun _ _ => by kernel_rfl) (qAr ?_ (by simp only [Act.put, List.setIfInBounds_toArray, List.set_cons_succ, List.set_cons_zero]; rfl))
  refine wpQg_mid W.heap.size 8 u.Z hpZ rfl rfl (qAr ?_ (by simp only [Act.put, List.setIfInBounds_toArray, List.set_cons_succ, List.set_cons_zero]; rfl))
  refine wpQg_run (.bool true) rfl (fun w _ => (neq_exec rfl mZ u.Z lZ kZ rfl rfl w).trans (by rw [BZ.out, hZ.out])) (qAr ?_ (by simp only [Act.put, List.setIfInBounds_toArray, List.set_cons_succ, List.set_cons_zero]; rfl))
  refine wpQg_run (.bool true) rfl (fun _ _ => by kernel_rfl) (qAr ?_ (by simp only [Act.put, List.setIfInBounds_toArray, List.set_cons_succ, List.set_cons_zero]; rfl))
  refine wpQg_run (.bool true) rfl (fun _ _ => rfl) (qAr ?_ (by simp only [Act.put, List.setIfInBounds_toArray, List.set_cons_succ, List.set_cons_zero]; rfl))
  refine wpQg_skip rfl (qAr ?_ (by simp only [Act.put, List.setIfInBounds_toArray, List.set_cons_succ, List.set_cons_zero]; rfl))
  refine wpQg_skip rfl (qAr ?_ (by simp only [Act.put, List.setIfInBounds_toArray, List.set_cons_succ, List.set_cons_zero]; rfl))
  refine wpQg_skip rfl (qAr ?_ (by simp only [Act.put, List.setIfInBounds_toArray, List.set_cons_succ, List.set_cons_zero]; rfl))
  refine wpQg_skip rfl (qAr ?_ (by simp only [Act.put, List.setIfInBounds_toArray, List.set_cons_succ, List.set_cons_zero]; rfl))
  refine wpQg_skip rfl (qAr ?_ (by simp only [Act.put, List.setIfInBounds_toArray, List.set_cons_succ, List.set_cons_zero]; rfl))
  refine wpQg_skip rfl (qAr ?_ (by simp only [Act.put, List.setIfInBounds_toArray, List.set_cons_succ, List.set_cons_zero]; rfl))
  refine wpQg_run (.bool true) rfl (fun _ _ => by kernel_rfl) (qAr ?_ (by simp only [Act.put, List.setIfInBounds_toArray, List.set_cons_succ, List.set_cons_zero]; rfl))
  refine wpQuiet_nil ?_
  intro w1 hb
  replace hB := below_on hB hb
  go_wp2_with fail
  go_ret
  exact ⟨rfl, hB⟩

set_option maxHeartbeats 1600000 in
theorem right_way3 (u : N4) (hu : u.Lt) (hX : (!decide (u.X < p25)) = false) (hY : (!decide (u.Y < p25)) = false) (hZ : (!decide (u.Z < p25)) = false) (hT : (!decide (u.T < p25)) = true) (W : World) :
    Calls Tryd.prog 13 #[pt u] W fun e w' => e = .returned (.bool false) ∧ Below W.heap.size W w' := by
  replace hX := Lib.hid hX
  replace hY := Lib.hid hY
  replace hZ := Lib.hid hZ
  replace hT := Lib.hid hT
  have HX := Lib.hid (fun w => refLeast_any u.X w hu.X)
  have kX := hu.X
  have lX := mod_K u.X
  have bX := least_neq u.X
  generalize u.X % p25 = mX at *
  have HY := Lib.hid (fun w => refLeast_any u.Y w hu.Y)
  have kY := hu.Y
  have lY := mod_K u.Y
  have bY := least_neq u.Y
  generalize u.Y % p25 = mY at *
  have HZ := Lib.hid (fun w => refLeast_any u.Z w hu.Z)
  have kZ := hu.Z
  have lZ := mod_K u.Z
  have bZ := least_neq u.Z
  generalize u.Z % p25 = mZ at *
  have HT := Lib.hid (fun w => refLeast_any u.T w hu.T)
  have kT := hu.T
  have lT := mod_K u.T
  have bT := least_neq u.T
  generalize u.T % p25 = mT at *
  have HXY := Lib.hid (fun w => refMul_any u.X u.Y w kX kY)
  have kXY := mod_K (u.X * u.Y)
  have HZT := Lib.hid (fun w => refMul_any u.Z u.T w kZ kT)
  have kZT := mod_K (u.Z * u.T)
  generalize u.X * u.Y % p25 = xy at *
  generalize u.Z * u.T % p25 = zt at *
  have HA := Lib.hid (fun w => refAffine_any u w kX kY kZ)
  have kax := mod_K (u.X * invN u.Z)
  have kay := mod_K (u.Y * invN u.Z)
  generalize u.X * invN u.Z % p25 = ax at *
  generalize u.Y * invN u.Z % p25 = ay at *
  have HD := Lib.hid (fun w => refD_any w)
  have HO := Lib.hid (fun w => refOn_any ax ay w kax kay)
  have BX := Lib.hid bX
  clear bX
  have BY := Lib.hid bY
  clear bY
  have BZ := Lib.hid bZ
  clear bZ
  have BT := Lib.hid bT
  clear bT
  go_enter Tryd.func13, Tryd.ntmps13
  have hp := Lies.new W 26 (ptA u)
  have hB := (Below.refl W.heap.size W).alloc (Nat.le_refl _) (.cells (ptA u) 26)
  go_upto_region 1 with fail
  generalize World.alloc W _ = w0 at *
  have hpX := pt_X hp
  have hpY := pt_Y hp
  have hpZ := pt_Z hp
  have hpT := pt_T hp
  refine wp_region_all_g (by kernel_rfl) (by kernel_rfl) ?_
  refine wpQg_run (.pointer (some ⟨W.heap.size, 0, none⟩)) rfl (fun _ _ => by kernel_rfl) (qAr ?_ (by simp only [Act.put, List.setIfInBounds_toArray, List.set_cons_succ, List.set_cons_zero]; rfl))
  refine wpQg_mid W.heap.size 0 u.X hpX rfl rfl (qAr ?_ (by simp only [Act.put, List.setIfInBounds_toArray, List.set_cons_succ, List.set_cons_zero]; rfl))
  refine wpQg_call 33 #[fe u.X] (fe mX) rfl rfl (fun _ => by kernel_rfl) (fun w _ => HX.out w) (qAr ?_ (by simp only [Act.put, List.setIfInBounds_toArray, List.set_cons_succ, List.set_cons_zero]; rfl))
  refine wpQg_run (.pointer (some ⟨W.heap.size, 0, none⟩)) rfl (fun _ _ => by kernel_rfl) (qAr ?_ (by simp only [Act.put, List.setIfInBounds_toArray, List.set_cons_succ, List.set_cons_zero]; rfl))
  refine wpQg_mid W.heap.size 0 u.X hpX rfl rfl (qAr ?_ (by simp only [Act.put, List.setIfInBounds_toArray, List.set_cons_succ, List.set_cons_zero]; rfl))
  refine wpQg_run (.bool false) rfl (fun w _ => (neq_exec rfl mX u.X lX kX rfl rfl w).trans (by rw [BX.out, hX.out])) (qAr ?_ (by simp only [Act.put, List.setIfInBounds_toArray, List.set_cons_succ, List.set_cons_zero]; rfl))
  refine wpQg_run (.bool false) rfl (fun _ _ => rfl) (qAr ?_ (by simp only [Act.put, List.setIfInBounds_toArray, List.set_cons_succ, List.set_cons_zero]; rfl))
  refine wpQg_run (.pointer (some ⟨W.heap.size, 4, none⟩)) rfl (fun _ _ => by kernel_rfl) (qAr ?_ (by simp only [Act.put, List.setIfInBounds_toArray, List.set_cons_succ, List.set_cons_zero]; rfl))
  refine wpQg_mid W.heap.size 4 u.Y hpY rfl rfl (qAr ?_ (by simp only [Act.put, List.setIfInBounds_toArray, List.set_cons_succ, List.set_cons_zero]; rfl))
  refine wpQg_call 33 #[fe u.Y] (fe mY) rfl rfl (fun _ => by kernel_rfl) (fun w _ => HY.out w) (qAr ?_ (by simp only [Act.put, List.setIfInBounds_toArray, List.set_cons_succ, List.set_cons_zero]; rfl))
  refine wpQg_run (.pointer (some ⟨W.heap.size, 4, none⟩)) rfl (fun _ _ => by kernel_rfl) (qAr ?_ (by simp only [Act.put, List.setIfInBounds_toArray, List.set_cons_succ, List.set_cons_zero]; rfl))
  refine wpQg_mid W.heap.size 4 u.Y hpY rfl rfl (qAr ?_ (by simp only [Act.put, List.setIfInBounds_toArray, List.set_cons_succ, List.set_cons_zero]; rfl))
  refine wpQg_run (.bool false) rfl (fun w _ => (neq_exec rfl mY u.Y lY kY rfl rfl w).trans (by rw [BY.out, hY.out])) (qAr ?_ (by simp only [Act.put, List.setIfInBounds_toArray, List.set_cons_succ, List.set_cons_zero]; rfl))
  refine wpQg_run (.bool false) rfl (fun _ _ => by kernel_rfl) (qAr ?_ (by simp only [Act.put, List.setIfInBounds_toArray, List.set_cons_succ, List.set_cons_zero]; rfl))
  refine wpQg_run (.bool false) rfl (fun _ _ => rfl) (qAr ?_ (by simp only [Act.put, List.setIfInBounds_toArray, List.set_cons_succ, List.set_cons_zero]; rfl))
  refine wpQg_run (.pointer (some ⟨W.heap.size, 8, none⟩)) rfl (fun _ _ => by kernel_rfl) (qAr ?_ (by simp only [Act.put, List.setIfInBounds_toArray, List.set_cons_succ, List.set_cons_zero]; rfl))
  refine wpQg_mid W.heap.size 8 u.Z hpZ rfl rfl (qAr ?_ (by simp only [Act.put, List.setIfInBounds_toArray, List.set_cons_succ, List.set_cons_zero]; rfl))
  refine wpQg_call 33 #[fe u.Z] (fe mZ) rfl rfl (fun _ => by kernel_rfl) (fun w _ => HZ.out w) (qAr ?_ (by simp only [Act.put, List.setIfInBounds_toArray, List.set_cons_succ, List.set_cons_zero]; rfl))
  refine wpQg_run (.pointer (some ⟨W.heap.size, 8, none⟩)) rfl (fun _ _ => by kernel_rfl) (qAr ?_ (by simp only [Act.put, List.setIfInBounds_toArray, List.set_cons_succ, List.set_cons_zero]; rfl))
  refine wpQg_mid W.heap.size 8 u.Z hpZ rfl rfl (qAr ?_ (by simp only [Act.put, List.setIfInBounds_toArray, List.set_cons_succ, List.set_cons_zero]; rfl))
  refine wpQg_run (.bool false) rfl (fun w _ => (neq_exec rfl mZ u.Z lZ kZ rfl rfl w).trans (by rw [BZ.out, hZ.out])) (qAr ?_ (by simp only [Act.put, List.setIfInBounds_toArray, List.set_cons_succ, List.set_cons_zero]; rfl))
  refine wpQg_run (.bool false) rfl (fun _ _ => by kernel_rfl) (qAr ?_ (by simp only [Act.put, List.setIfInBounds_toArray, List.set_cons_succ, List.set_cons_zero]; rfl))
  refine wpQg_run (.bool false) rfl (fun _ _ => rfl) (qAr ?_ (by simp only [Act.put, List.setIfInBounds_toArray, List.set_cons_succ, List.set_cons_zero]; rfl))
  refine wpQg_run (.pointer (some ⟨W.heap.size, 12, none⟩)) rfl (fun _ _ => by kernel_rfl) (qAr ?_ (by simp only [Act.put, List.setIfInBounds_toArray, List.set_cons_succ, List.set_cons_zero]; rfl))
  refine wpQg_mid W.heap.size 12 u.T hpT rfl rfl (qAr ?_ (by simp only [Act.put, List.setIfInBounds_toArray, List.set_cons_succ, List.set_cons_zero]; rfl))
  refine wpQg_call 33 #[fe u.T] (fe mT) rfl rfl (fun _ => by kernel_rfl) (fun w _ => HT.out w) (qAr ?_ (by simp only [Act.put, List.setIfInBounds_toArray, List.set_cons_succ, List.set_cons_zero]; rfl))
  refine wpQg_run (.pointer (some ⟨W.heap.size, 12, none⟩)) rfl (fun _ _ => by kernel_rfl) (qAr ?_ (by simp only [Act.put, List.setIfInBounds_toArray, List.set_cons_succ, List.set_cons_zero]; rfl))
  refine wpQg_mid W.heap.size 12 u.T hpT rfl rfl (qAr ?_ (by simp only [Act.put, List.setIfInBounds_toArray, List.set_cons_succ, List.set_cons_zero]; rfl))
  refine wpQg_run (.bool true) rfl (fun w _ => (neq_exec rfl mT u.T lT kT rfl rfl w).trans (by rw [BT.out, hT.out])) (qAr ?_ (by simp only [Act.put, List.setIfInBounds_toArray, List.set_cons_succ, List.set_cons_zero]; rfl))
  refine wpQg_run (.bool true) rfl (fun _ _ => by kernel_rfl) (qAr ?_ (by simp only [Act.put, List.setIfInBounds_toArray, List.set_cons_succ, List.set_cons_zero]; rfl))
  refine wpQuiet_nil ?_
  intro w1 hb
  replace hB := below_on hB hb
  go_wp2_with fail
  go_ret
  exact ⟨rfl, hB⟩

set_option maxHeartbeats 1600000 in
theorem right_way4 (u : N4) (hu : u.Lt) (hX : (!decide (u.X < p25)) = false) (hY : (!decide (u.Y < p25)) = false) (hZ : (!decide (u.Z < p25)) = false) (hT : (!decide (u.T < p25)) = false) (hz0 : decide (u.Z = 0) = true) (W : World) :
    Calls Tryd.prog 13 #[pt u] W fun e w' => e = .returned (.bool false) ∧ Below W.heap.size W w' := by
  replace hX := Lib.hid hX
  replace hY := Lib.hid hY
  replace hZ := Lib.hid hZ
  replace hT := Lib.hid hT
  replace hz0 := Lib.hid hz0
  have HX := Lib.hid (fun w => refLeast_any u.X w hu.X)
  have kX := hu.X
  have lX := mod_K u.X
  have bX := least_neq u.X
  generalize u.X % p25 = mX at *
  have HY := Lib.hid (fun w => refLeast_any u.Y w hu.Y)
  have kY := hu.Y
  have lY := mod_K u.Y
  have bY := least_neq u.Y
  generalize u.Y % p25 = mY at *
  have HZ := Lib.hid (fun w => refLeast_any u.Z w hu.Z)
  have kZ := hu.Z
  have lZ := mod_K u.Z
  have bZ := least_neq u.Z
  generalize u.Z % p25 = mZ at *
  have HT := Lib.hid (fun w => refLeast_any u.T w hu.T)
  have kT := hu.T
  have lT := mod_K u.T
  have bT := least_neq u.T
  generalize u.T % p25 = mT at *
  have HXY := Lib.hid (fun w => refMul_any u.X u.Y w kX kY)
  have kXY := mod_K (u.X * u.Y)
  have HZT := Lib.hid (fun w => refMul_any u.Z u.T w kZ kT)
  have kZT := mod_K (u.Z * u.T)
  generalize u.X * u.Y % p25 = xy at *
  generalize u.Z * u.T % p25 = zt at *
  have HA := Lib.hid (fun w => refAffine_any u w kX kY kZ)
  have kax := mod_K (u.X * invN u.Z)
  have kay := mod_K (u.Y * invN u.Z)
  generalize u.X * invN u.Z % p25 = ax at *
  generalize u.Y * invN u.Z % p25 = ay at *
  have HD := Lib.hid (fun w => refD_any w)
  have HO := Lib.hid (fun w => refOn_any ax ay w kax kay)
  have BX := Lib.hid bX
  clear bX
  have BY := Lib.hid bY
  clear bY
  have BZ := Lib.hid bZ
  clear bZ
  have BT := Lib.hid bT
  clear bT
  go_enter Tryd.func13, Tryd.ntmps13
  have hp := Lies.new W 26 (ptA u)
  have hB := (Below.refl W.heap.size W).alloc (Nat.le_refl _) (.cells (ptA u) 26)
  go_upto_region 1 with fail
  generalize World.alloc W _ = w0 at *
  have hpX := pt_X hp
  have hpY := pt_Y hp
  have hpZ := pt_Z hp
  have hpT := pt_T hp
  refine wp_region_all_g (by kernel_rfl) (by kernel_rfl) ?_
  refine wpQg_run (.pointer (some ⟨W.heap.size, 0, none⟩)) rfl (fun _ _ => by kernel_rfl) (qAr ?_ (by simp only [Act.put, List.setIfInBounds_toArray, List.set_cons_succ, List.set_cons_zero]; rfl))
  refine wpQg_mid W.heap.size 0 u.X hpX rfl rfl (qAr ?_ (by simp only [Act.put, List.setIfInBounds_toArray, List.set_cons_succ, List.set_cons_zero]; rfl))
  refine wpQg_call 33 #[fe u.X] (fe mX) rfl rfl (fun _ => by kernel_rfl) (fun w _ => HX.out w) (qAr ?_ (by simp only [Act.put, List.setIfInBounds_toArray, List.set_cons_succ, List.set_cons_zero]; rfl))
  refine wpQg_run (.pointer (some ⟨W.heap.size, 0, none⟩)) rfl (fun _ _ => by kernel_rfl) (qAr ?_ (by simp only [Act.put, List.setIfInBounds_toArray, List.set_cons_succ, List.set_cons_zero]; rfl))
  refine wpQg_mid W.heap.size 0 u.X hpX rfl rfl (qAr ?_ (by simp only [Act.put, List.setIfInBounds_toArray, List.set_cons_succ, List.set_cons_zero]; rfl))
  refine wpQg_run (.bool false) rfl (fun w _ => (neq_exec rfl mX u.X lX kX rfl rfl w).trans (by rw [BX.out, hX.out])) (qAr ?_ (by simp only [Act.put, List.setIfInBounds_toArray, List.set_cons_succ, List.set_cons_zero]; rfl))
  refine wpQg_run (.bool false) rfl (fun _ _ => rfl) (qAr ?_ (by simp only [Act.put, List.setIfInBounds_toArray, List.set_cons_succ, List.set_cons_zero]; rfl))
  refine wpQg_run (.pointer (some ⟨W.heap.size, 4, none⟩)) rfl (fun _ _ => by kernel_rfl) (qAr ?_ (by simp only [Act.put, List.setIfInBounds_toArray, List.set_cons_succ, List.set_cons_zero]; rfl))
  refine wpQg_mid W.heap.size 4 u.Y hpY rfl rfl (qAr ?_ (by simp only [Act.put, List.setIfInBounds_toArray, List.set_cons_succ, List.set_cons_zero]; rfl))
  refine wpQg_call 33 #[fe u.Y] (fe mY) rfl rfl (fun _ => by kernel_rfl) (fun w _ => HY.out w) (qAr ?_ (by simp only [Act.put, List.setIfInBounds_toArray, List.set_cons_succ, List.set_cons_zero]; rfl))
  refine wpQg_run (.pointer (some ⟨W.heap.size, 4, none⟩)) rfl (fun _ _ => by kernel_rfl) (qAr ?_ (by simp only [Act.put, List.setIfInBounds_toArray, List.set_cons_succ, List.set_cons_zero]; rfl))
  refine wpQg_mid W.heap.size 4 u.Y hpY rfl rfl (qAr ?_ (by simp only [Act.put, List.setIfInBounds_toArray, List.set_cons_succ, List.set_cons_zero]; rfl))
  refine wpQg_run (.bool false) rfl (fun w _ => (neq_exec rfl mY u.Y lY kY rfl rfl w).trans (by rw [BY.out, hY.out])) (qAr ?_ (by simp only [Act.put, List.setIfInBounds_toArray, List.set_cons_succ, List.set_cons_zero]; rfl))
  refine wpQg_run (.bool false) rfl (fun _ _ => by kernel_rfl) (qAr ?_ (by simp only [Act.put, List.setIfInBounds_toArray, List.set_cons_succ, List.set_cons_zero]; rfl))
  refine wpQg_run (.bool false) rfl (fun _ _ => rfl) (qAr ?_ (by simp only [Act.put, List.setIfInBounds_toArray, List.set_cons_succ, List.set_cons_zero]; rfl))
  refine wpQg_run (.pointer (some ⟨W.heap.size, 8, none⟩)) rfl (fun _ _ => by kernel_rfl) (qAr ?_ (by simp only [Act.put, List.setIfInBounds_toArray, List.set_cons_succ, List.set_cons_zero]; rfl))
  refine wpQg_mid W.heap.size 8 u.Z hpZ rfl rfl (qAr ?_ (by simp only [Act.put, List.setIfInBounds_toArray, List.set_cons_succ, List.set_cons_zero]; rfl))
  refine wpQg_call 33 #[fe u.Z] (fe mZ) rfl rfl (fun _ => by kernel_rfl) (fun w _ => HZ.out w) (qAr ?_ (by simp only [Act.put, List.setIfInBounds_toArray, List.set_cons_succ, List.set_cons_zero]; rfl))
  refine wpQg_run (.pointer (some ⟨W.heap.size, 8, none⟩)) rfl (fun _ _ => by kernel_rfl) (qAr ?_ (by simp only [Act.put, List.setIfInBounds_toArray, List.set_cons_succ, List.set_cons_zero]; rfl))
  refine wpQg_mid W.heap.size 8 u.Z hpZ rfl rfl (qAr ?_ (by simp only [Act.put, List.setIfInBounds_toArray, List.set_cons_succ, List.set_cons_zero]; rfl))
  refine wpQg_run (.bool false) rfl (fun w _ => (neq_exec rfl mZ u.Z lZ kZ rfl rfl w).trans (by rw [BZ.out, hZ.out])) (qAr ?_ (by simp only [Act.put, List.setIfInBounds_toArray, List.set_cons_succ, List.set_cons_zero]; rfl))
  refine wpQg_run (.bool false) rfl (fun _ _ => by kernel_rfl) (qAr ?_ (by simp only [Act.put, List.setIfInBounds_toArray, List.set_cons_succ, List.set_cons_zero]; rfl))
  refine wpQg_run (.bool false) rfl (fun _ _ => rfl) (qAr ?_ (by simp only [Act.put, List.setIfInBounds_toArray, List.set_cons_succ, List.set_cons_zero]; rfl))
  refine wpQg_run (.pointer (some ⟨W.heap.size, 12, none⟩)) rfl (fun _ _ => by kernel_rfl) (qAr ?_ (by simp only [Act.put, List.setIfInBounds_toArray, List.set_cons_succ, List.set_cons_zero]; rfl))
  refine wpQg_mid W.heap.size 12 u.T hpT rfl rfl (qAr ?_ (by simp only [Act.put, List.setIfInBounds_toArray, List.set_cons_succ, List.set_cons_zero]; rfl))
  refine wpQg_call 33 #[fe u.T] (fe mT) rfl rfl (fun _ => by kernel_rfl) (fun w _ => HT.out w) (qAr ?_ (by simp only [Act.put, List.setIfInBounds_toArray, List.set_cons_succ, List.set_cons_zero]; rfl))
  refine wpQg_run (.pointer (some ⟨W.heap.size, 12, none⟩)) rfl (fun _ _ => by kernel_rfl) (qAr ?_ (by simp only [Act.put, List.setIfInBounds_toArray, List.set_cons_succ, List.set_cons_zero]; rfl))
  refine wpQg_mid W.heap.size 12 u.T hpT rfl rfl (qAr ?_ (by simp only [Act.put, List.setIfInBounds_toArray, List.set_cons_succ, List.set_cons_zero]; rfl))
  refine wpQg_run (.bool false) rfl (fun w _ => (neq_exec rfl mT u.T lT kT rfl rfl w).trans (by rw [BT.out, hT.out])) (qAr ?_ (by simp only [Act.put, List.setIfInBounds_toArray, List.set_cons_succ, List.set_cons_zero]; rfl))
  refine wpQg_run (.bool false) rfl (fun _ _ => by kernel_rfl) (qAr ?_ (by simp only [Act.put, List.setIfInBounds_toArray, List.set_cons_succ, List.set_cons_zero]; rfl))
  refine wpQuiet_nil ?_
  intro w1 hb
  replace hB := below_on hB hb
  replace hp := hp.on hb
  clear hb hpX hpY hpZ hpT HX HY HZ HT
  go_upto_region 4 with ((with_reducible refine wpL_store w1.heap.size 24 _ fe0A 4 rowFe ?_ rfl fe0A_one (Lies.new w1 _ _) ?_ ?_ ?_); rfl; rfl; rfl)
  have hz := newly_lies w1 24 fe0A fe0A
  have hnw := newly w1 (.cells fe0A 24) fe0A
  replace hp := hp.on hnw
  replace hB := below_on hB hnw
  clear hnw
  generalize World.setRow _ _ _ = w2 at *
  generalize w1.heap.size = gz at *
  rw [fe0A_is] at hz
  have hpX := pt_X hp
  have hpY := pt_Y hp
  have hpZ := pt_Z hp
  have hpT := pt_T hp
  refine wp_region_all_g (by kernel_rfl) (by kernel_rfl) ?_
  refine wpQg_run (.pointer (some ⟨W.heap.size, 8, none⟩)) rfl (fun _ _ => by kernel_rfl) (qAr ?_ (by simp only [Act.put, List.setIfInBounds_toArray, List.set_cons_succ, List.set_cons_zero]; rfl))
  refine wpQg_mid W.heap.size 8 u.Z hpZ rfl rfl (qAr ?_ (by simp only [Act.put, List.setIfInBounds_toArray, List.set_cons_succ, List.set_cons_zero]; rfl))
  refine wpQg_fe gz 0 hz rfl rfl (qAr ?_ (by simp only [Act.put, List.setIfInBounds_toArray, List.set_cons_succ, List.set_cons_zero]; rfl))
  refine wpQg_run (.bool true) rfl (fun w _ => (eql_exec rfl u.Z 0 kZ (by decide) rfl rfl w).trans (by rw [hz0.out])) (qAr ?_ (by simp only [Act.put, List.setIfInBounds_toArray, List.set_cons_succ, List.set_cons_zero]; rfl))
  refine wpQg_run (.bool true) rfl (fun _ _ => rfl) (qAr ?_ (by simp only [Act.put, List.setIfInBounds_toArray, List.set_cons_succ, List.set_cons_zero]; rfl))
  refine wpQg_skip rfl (qAr ?_ (by simp only [Act.put, List.setIfInBounds_toArray, List.set_cons_succ, List.set_cons_zero]; rfl))
  refine wpQg_skip rfl (qAr ?_ (by simp only [Act.put, List.setIfInBounds_toArray, List.set_cons_succ, List.set_cons_zero]; rfl))
  refine wpQg_skip rfl (qAr ?_ (by simp only [Act.put, List.setIfInBounds_toArray, List.set_cons_succ, List.set_cons_zero]; rfl))
  refine wpQg_skip rfl (qAr ?_ (by simp only [Act.put, List.setIfInBounds_toArray, List.set_cons_succ, List.set_cons_zero]; rfl))
  refine wpQg_skip rfl (qAr ?_ (by simp only [Act.put, List.setIfInBounds_toArray, List.set_cons_succ, List.set_cons_zero]; rfl))
  refine wpQg_skip rfl (qAr ?_ (by simp only [Act.put, List.setIfInBounds_toArray, List.set_cons_succ, List.set_cons_zero]; rfl))
  refine wpQg_skip rfl (qAr ?_ (by simp only [Act.put, List.setIfInBounds_toArray, List.set_cons_succ, List.set_cons_zero]; rfl))
  refine wpQg_skip rfl (qAr ?_ (by simp only [Act.put, List.setIfInBounds_toArray, List.set_cons_succ, List.set_cons_zero]; rfl))
  refine wpQg_skip rfl (qAr ?_ (by simp only [Act.put, List.setIfInBounds_toArray, List.set_cons_succ, List.set_cons_zero]; rfl))
  refine wpQg_skip rfl (qAr ?_ (by simp only [Act.put, List.setIfInBounds_toArray, List.set_cons_succ, List.set_cons_zero]; rfl))
  refine wpQg_skip rfl (qAr ?_ (by simp only [Act.put, List.setIfInBounds_toArray, List.set_cons_succ, List.set_cons_zero]; rfl))
  refine wpQg_run (.bool true) rfl (fun _ _ => by kernel_rfl) (qAr ?_ (by simp only [Act.put, List.setIfInBounds_toArray, List.set_cons_succ, List.set_cons_zero]; rfl))
  refine wpQuiet_nil ?_
  intro w3 hb
  replace hB := below_on hB hb
  go_wp2_with fail
  go_ret
  exact ⟨rfl, hB⟩

set_option maxHeartbeats 1600000 in
theorem right_way5 (u : N4) (hu : u.Lt) (hX : (!decide (u.X < p25)) = false) (hY : (!decide (u.Y < p25)) = false) (hZ : (!decide (u.Z < p25)) = false) (hT : (!decide (u.T < p25)) = false) (hz0 : decide (u.Z = 0) = false) (hm0 : (!decide (u.X * u.Y % p25 = u.Z * u.T % p25)) = true) (W : World) :
    Calls Tryd.prog 13 #[pt u] W fun e w' => e = .returned (.bool false) ∧ Below W.heap.size W w' := by
  replace hX := Lib.hid hX
  replace hY := Lib.hid hY
  replace hZ := Lib.hid hZ
  replace hT := Lib.hid hT
  replace hz0 := Lib.hid hz0
  have HX := Lib.hid (fun w => refLeast_any u.X w hu.X)
  have kX := hu.X
  have lX := mod_K u.X
  have bX := least_neq u.X
  generalize u.X % p25 = mX at *
  have HY := Lib.hid (fun w => refLeast_any u.Y w hu.Y)
  have kY := hu.Y
  have lY := mod_K u.Y
  have bY := least_neq u.Y
  generalize u.Y % p25 = mY at *
  have HZ := Lib.hid (fun w => refLeast_any u.Z w hu.Z)
  have kZ := hu.Z
  have lZ := mod_K u.Z
  have bZ := least_neq u.Z
  generalize u.Z % p25 = mZ at *
  have HT := Lib.hid (fun w => refLeast_any u.T w hu.T)
  have kT := hu.T
  have lT := mod_K u.T
  have bT := least_neq u.T
  generalize u.T % p25 = mT at *
  have HXY := Lib.hid (fun w => refMul_any u.X u.Y w kX kY)
  have kXY := mod_K (u.X * u.Y)
  have HZT := Lib.hid (fun w => refMul_any u.Z u.T w kZ kT)
  have kZT := mod_K (u.Z * u.T)
  generalize u.X * u.Y % p25 = xy at *
  generalize u.Z * u.T % p25 = zt at *
  replace hm0 := Lib.hid hm0
  have HA := Lib.hid (fun w => refAffine_any u w kX kY kZ)
  have kax := mod_K (u.X * invN u.Z)
  have kay := mod_K (u.Y * invN u.Z)
  generalize u.X * invN u.Z % p25 = ax at *
  generalize u.Y * invN u.Z % p25 = ay at *
  have HD := Lib.hid (fun w => refD_any w)
  have HO := Lib.hid (fun w => refOn_any ax ay w kax kay)
  have BX := Lib.hid bX
  clear bX
  have BY := Lib.hid bY
  clear bY
  have BZ := Lib.hid bZ
  clear bZ
  have BT := Lib.hid bT
  clear bT
  go_enter Tryd.func13, Tryd.ntmps13
  have hp := Lies.new W 26 (ptA u)
  have hB := (Below.refl W.heap.size W).alloc (Nat.le_refl _) (.cells (ptA u) 26)
  go_upto_region 1 with fail
  generalize World.alloc W _ = w0 at *
  have hpX := pt_X hp
  have hpY := pt_Y hp
  have hpZ := pt_Z hp
  have hpT := pt_T hp
  refine wp_region_all_g (by kernel_rfl) (by kernel_rfl) ?_
  refine wpQg_run (.pointer (some ⟨W.heap.size, 0, none⟩)) rfl (fun _ _ => by kernel_rfl) (qAr ?_ (by simp only [Act.put, List.setIfInBounds_toArray, List.set_cons_succ, List.set_cons_zero]; rfl))
  refine wpQg_mid W.heap.size 0 u.X hpX rfl rfl (qAr ?_ (by simp only [Act.put, List.setIfInBounds_toArray, List.set_cons_succ, List.set_cons_zero]; rfl))
  refine wpQg_call 33 #[fe u.X] (fe mX) rfl rfl (fun _ => by kernel_rfl) (fun w _ => HX.out w) (qAr ?_ (by simp only [Act.put, List.setIfInBounds_toArray, List.set_cons_succ, List.set_cons_zero]; rfl))
  refine wpQg_run (.pointer (some ⟨W.heap.size, 0, none⟩)) rfl (fun _ _ => by kernel_rfl) (qAr ?_ (by simp only [Act.put, List.setIfInBounds_toArray, List.set_cons_succ, List.set_cons_zero]; rfl))
  refine wpQg_mid W.heap.size 0 u.X hpX rfl rfl (qAr ?_ (by simp only [Act.put, List.setIfInBounds_toArray, List.set_cons_succ, List.set_cons_zero]; rfl))
  refine wpQg_run (.bool false) rfl (fun w _ => (neq_exec rfl mX u.X lX kX rfl rfl w).trans (by rw [BX.out, hX.out])) (qAr ?_ (by simp only [Act.put, List.setIfInBounds_toArray, List.set_cons_succ, List.set_cons_zero]; rfl))
  refine wpQg_run (.bool false) rfl (fun _ _ => rfl) (qAr ?_ (by simp only [Act.put, List.setIfInBounds_toArray, List.set_cons_succ, List.set_cons_zero]; rfl))
  refine wpQg_run (.pointer (some ⟨W.heap.size, 4, none⟩)) rfl (fun _ _ => by kernel_rfl) (qAr ?_ (by simp only [Act.put, List.setIfInBounds_toArray, List.set_cons_succ, List.set_cons_zero]; rfl))
  refine wpQg_mid W.heap.size 4 u.Y hpY rfl rfl (qAr ?_ (by simp only [Act.put, List.setIfInBounds_toArray, List.set_cons_succ, List.set_cons_zero]; rfl))
  refine wpQg_call 33 #[fe u.Y] (fe mY) rfl rfl (fun _ => by kernel_rfl) (fun w _ => HY.out w) (qAr ?_ (by simp only [Act.put, List.setIfInBounds_toArray, List.set_cons_succ, List.set_cons_zero]; rfl))
  refine wpQg_run (.pointer (some ⟨W.heap.size, 4, none⟩)) rfl (fun _ _ => by kernel_rfl) (qAr ?_ (by simp only [Act.put, List.setIfInBounds_toArray, List.set_cons_succ, List.set_cons_zero]; rfl))
  refine wpQg_mid W.heap.size 4 u.Y hpY rfl rfl (qAr ?_ (by simp only [Act.put, List.setIfInBounds_toArray, List.set_cons_succ, List.set_cons_zero]; rfl))
  refine wpQg_run (.bool false) rfl (fun w _ => (neq_exec rfl mY u.Y lY kY rfl rfl w).trans (by rw [BY.out, hY.out])) (qAr ?_ (by simp only [Act.put, List.setIfInBounds_toArray, List.set_cons_succ, List.set_cons_zero]; rfl))
  refine wpQg_run (.bool false) rfl (fun _ _ => by kernel_rfl) (qAr ?_ (by simp only [Act.put, List.setIfInBounds_toArray, List.set_cons_succ, List.set_cons_zero]; rfl))
  refine wpQg_run (.bool false) rfl (fun _ _ => rfl) (qAr ?_ (by simp only [Act.put, List.setIfInBounds_toArray, List.set_cons_succ, List.set_cons_zero]; rfl))
  refine wpQg_run (.pointer (some ⟨W.heap.size, 8, none⟩)) rfl (fun _ _ => by kernel_rfl) (qAr ?_ (by simp only [Act.put, List.setIfInBounds_toArray, List.set_cons_succ, List.set_cons_zero]; rfl))
  refine wpQg_mid W.heap.size 8 u.Z hpZ rfl rfl (qAr ?_ (by simp only [Act.put, List.setIfInBounds_toArray, List.set_cons_succ, List.set_cons_zero]; rfl))
  refine wpQg_call 33 #[fe u.Z] (fe mZ) rfl rfl (fun _ => by kernel_rfl) (fun w _ => HZ.out w) (qAr ?_ (by simp only [Act.put, List.setIfInBounds_toArray, List.set_cons_succ, List.set_cons_zero]; rfl))
  refine wpQg_run (.pointer (some ⟨W.heap.size, 8, none⟩)) rfl (fun _ _ => by kernel_rfl) (qAr ?_ (by simp only [Act.put, List.setIfInBounds_toArray, List.set_cons_succ, List.set_cons_zero]; rfl))
  refine wpQg_mid W.heap.size 8 u.Z hpZ rfl rfl (qAr ?_ (by simp only [Act.put, List.setIfInBounds_toArray, List.set_cons_succ, List.set_cons_zero]; rfl))
  refine wpQg_run (.bool false) rfl (fun w _ => (neq_exec rfl mZ u.Z lZ kZ rfl rfl w).trans (by rw [BZ.out, hZ.out])) (qAr ?_ (by simp only [Act.put, List.setIfInBounds_toArray, List.set_cons_succ, List.set_cons_zero]; rfl))
  refine wpQg_run (.bool false) rfl (fun _ _ => by kernel_rfl) (qAr ?_ (by simp only [Act.put, List.setIfInBounds_toArray, List.set_cons_succ, List.set_cons_zero]; rfl))
  refine wpQg_run (.bool false) rfl (fun _ _ => rfl) (qAr ?_ (by simp only [Act.put, List.setIfInBounds_toArray, List.set_cons_succ, List.set_cons_zero]; rfl))
  refine wpQg_run (.pointer (some ⟨W.heap.size, 12, none⟩)) rfl (fun _ _ => by kernel_rfl) (qAr ?_ (by simp only [Act.put, List.setIfInBounds_toArray, List.set_cons_succ, List.set_cons_zero]; rfl))
  refine wpQg_mid W.heap.size 12 u.T hpT rfl rfl (qAr ?_ (by simp only [Act.put, List.setIfInBounds_toArray, List.set_cons_succ, List.set_cons_zero]; rfl))
  refine wpQg_call 33 #[fe u.T] (fe mT) rfl rfl (fun _ => by kernel_rfl) (fun w _ => HT.out w) (qAr ?_ (by simp only [Act.put, List.setIfInBounds_toArray, List.set_cons_succ, List.set_cons_zero]; rfl))
  refine wpQg_run (.pointer (some ⟨W.heap.size, 12, none⟩)) rfl (fun _ _ => by kernel_rfl) (qAr ?_ (by simp only [Act.put, List.setIfInBounds_toArray, List.set_cons_succ, List.set_cons_zero]; rfl))
  refine wpQg_mid W.heap.size 12 u.T hpT rfl rfl (qAr ?_ (by simp only [Act.put, List.setIfInBounds_toArray, List.set_cons_succ, List.set_cons_zero]; rfl))
  refine wpQg_run (.bool false) rfl (fun w _ => (neq_exec rfl mT u.T lT kT rfl rfl w).trans (by rw [BT.out, hT.out])) (qAr ?_ (by simp only [Act.put, List.setIfInBounds_toArray, List.set_cons_succ, List.set_cons_zero]; rfl))
  refine wpQg_run (.bool false) rfl (fun _ _ => by kernel_rfl) (qAr ?_ (by simp only [Act.put, List.setIfInBounds_toArray, List.set_cons_succ, List.set_cons_zero]; rfl))
  refine wpQuiet_nil ?_
  intro w1 hb
  replace hB := below_on hB hb
  replace hp := hp.on hb
  clear hb hpX hpY hpZ hpT HX HY HZ HT
  go_upto_region 4 with ((with_reducible refine wpL_store w1.heap.size 24 _ fe0A 4 rowFe ?_ rfl fe0A_one (Lies.new w1 _ _) ?_ ?_ ?_); rfl; rfl; rfl)
  have hz := newly_lies w1 24 fe0A fe0A
  have hnw := newly w1 (.cells fe0A 24) fe0A
  replace hp := hp.on hnw
  replace hB := below_on hB hnw
  clear hnw
  generalize World.setRow _ _ _ = w2 at *
  generalize w1.heap.size = gz at *
  rw [fe0A_is] at hz
  have hpX := pt_X hp
  have hpY := pt_Y hp
  have hpZ := pt_Z hp
  have hpT := pt_T hp
  refine wp_region_all_g (by kernel_rfl) (by kernel_rfl) ?_
  refine wpQg_run (.pointer (some ⟨W.heap.size, 8, none⟩)) rfl (fun _ _ => by kernel_rfl) (qAr ?_ (by simp only [Act.put, List.setIfInBounds_toArray, List.set_cons_succ, List.set_cons_zero]; rfl))
  refine wpQg_mid W.heap.size 8 u.Z hpZ rfl rfl (qAr ?_ (by simp only [Act.put, List.setIfInBounds_toArray, List.set_cons_succ, List.set_cons_zero]; rfl))
  refine wpQg_fe gz 0 hz rfl rfl (qAr ?_ (by simp only [Act.put, List.setIfInBounds_toArray, List.set_cons_succ, List.set_cons_zero]; rfl))
  refine wpQg_run (.bool false) rfl (fun w _ => (eql_exec rfl u.Z 0 kZ (by decide) rfl rfl w).trans (by rw [hz0.out])) (qAr ?_ (by simp only [Act.put, List.setIfInBounds_toArray, List.set_cons_succ, List.set_cons_zero]; rfl))
  refine wpQg_run (.bool false) rfl (fun _ _ => rfl) (qAr ?_ (by simp only [Act.put, List.setIfInBounds_toArray, List.set_cons_succ, List.set_cons_zero]; rfl))
  refine wpQg_run (.pointer (some ⟨W.heap.size, 0, none⟩)) rfl (fun _ _ => by kernel_rfl) (qAr ?_ (by simp only [Act.put, List.setIfInBounds_toArray, List.set_cons_succ, List.set_cons_zero]; rfl))
  refine wpQg_mid W.heap.size 0 u.X hpX rfl rfl (qAr ?_ (by simp only [Act.put, List.setIfInBounds_toArray, List.set_cons_succ, List.set_cons_zero]; rfl))
  refine wpQg_run (.pointer (some ⟨W.heap.size, 4, none⟩)) rfl (fun _ _ => by kernel_rfl) (qAr ?_ (by simp only [Act.put, List.setIfInBounds_toArray, List.set_cons_succ, List.set_cons_zero]; rfl))
  refine wpQg_mid W.heap.size 4 u.Y hpY rfl rfl (qAr ?_ (by simp only [Act.put, List.setIfInBounds_toArray, List.set_cons_succ, List.set_cons_zero]; rfl))
  refine wpQg_call 34 #[fe u.X, fe u.Y] (fe xy) rfl rfl (fun _ => by kernel_rfl) (fun w _ => HXY.out w) (qAr ?_ (by simp only [Act.put, List.setIfInBounds_toArray, List.set_cons_succ, List.set_cons_zero]; rfl))
  refine wpQg_run (.pointer (some ⟨W.heap.size, 8, none⟩)) rfl (fun _ _ => by kernel_rfl) (qAr ?_ (by simp only [Act.put, List.setIfInBounds_toArray, List.set_cons_succ, List.set_cons_zero]; rfl))
  refine wpQg_mid W.heap.size 8 u.Z hpZ rfl rfl (qAr ?_ (by simp only [Act.put, List.setIfInBounds_toArray, List.set_cons_succ, List.set_cons_zero]; rfl))
  refine wpQg_run (.pointer (some ⟨W.heap.size, 12, none⟩)) rfl (fun _ _ => by kernel_rfl) (qAr ?_ (by simp only [Act.put, List.setIfInBounds_toArray, List.set_cons_succ, List.set_cons_zero]; rfl))
  refine wpQg_mid W.heap.size 12 u.T hpT rfl rfl (qAr ?_ (by simp only [Act.put, List.setIfInBounds_toArray, List.set_cons_succ, List.set_cons_zero]; rfl))
  refine wpQg_call 34 #[fe u.Z, fe u.T] (fe zt) rfl rfl (fun _ => by kernel_rfl) (fun w _ => HZT.out w) (qAr ?_ (by simp only [Act.put, List.setIfInBounds_toArray, List.set_cons_succ, List.set_cons_zero]; rfl))
  refine wpQg_run (.bool true) rfl (fun w _ => (neq_exec rfl xy zt kXY kZT rfl rfl w).trans (by rw [hm0.out])) (qAr ?_ (by simp only [Act.put, List.setIfInBounds_toArray, List.set_cons_succ, List.set_cons_zero]; rfl))
  refine wpQg_run (.bool true) rfl (fun _ _ => by kernel_rfl) (qAr ?_ (by simp only [Act.put, List.setIfInBounds_toArray, List.set_cons_succ, List.set_cons_zero]; rfl))
  refine wpQuiet_nil ?_
  intro w3 hb
  replace hB := below_on hB hb
  go_wp2_with fail
  go_ret
  exact ⟨rfl, hB⟩

set_option maxHeartbeats 1600000 in
theorem right_way6 (u : N4) (hu : u.Lt) (hX : (!decide (u.X < p25)) = false) (hY : (!decide (u.Y < p25)) = false) (hZ : (!decide (u.Z < p25)) = false) (hT : (!decide (u.T < p25)) = false) (hz0 : decide (u.Z = 0) = false) (hm0 : (!decide (u.X * u.Y % p25 = u.Z * u.T % p25)) = false) (W : World) :
    Calls Tryd.prog 13 #[pt u] W fun e w' => e = .returned (.bool (onB (u.X * invN u.Z % p25) (u.Y * invN u.Z % p25))) ∧ Below W.heap.size W w' := by
  replace hX := Lib.hid hX
  replace hY := Lib.hid hY
  replace hZ := Lib.hid hZ
  replace hT := Lib.hid hT
  replace hz0 := Lib.hid hz0
  have HX := Lib.hid (fun w => refLeast_any u.X w hu.X)
  have kX := hu.X
  have lX := mod_K u.X
  have bX := least_neq u.X
  generalize u.X % p25 = mX at *
  have HY := Lib.hid (fun w => refLeast_any u.Y w hu.Y)
  have kY := hu.Y
  have lY := mod_K u.Y
  have bY := least_neq u.Y
  generalize u.Y % p25 = mY at *
  have HZ := Lib.hid (fun w => refLeast_any u.Z w hu.Z)
  have kZ := hu.Z
  have lZ := mod_K u.Z
  have bZ := least_neq u.Z
  generalize u.Z % p25 = mZ at *
  have HT := Lib.hid (fun w => refLeast_any u.T w hu.T)
  have kT := hu.T
  have lT := mod_K u.T
  have bT := least_neq u.T
  generalize u.T % p25 = mT at *
  have HXY := Lib.hid (fun w => refMul_any u.X u.Y w kX kY)
  have kXY := mod_K (u.X * u.Y)
  have HZT := Lib.hid (fun w => refMul_any u.Z u.T w kZ kT)
  have kZT := mod_K (u.Z * u.T)
  generalize u.X * u.Y % p25 = xy at *
  generalize u.Z * u.T % p25 = zt at *
  replace hm0 := Lib.hid hm0
  have HA := Lib.hid (fun w => refAffine_any u w kX kY kZ)
  have kax := mod_K (u.X * invN u.Z)
  have kay := mod_K (u.Y * invN u.Z)
  generalize u.X * invN u.Z % p25 = ax at *
  generalize u.Y * invN u.Z % p25 = ay at *
  have HD := Lib.hid (fun w => refD_any w)
  have HO := Lib.hid (fun w => refOn_any ax ay w kax kay)
  have BX := Lib.hid bX
  clear bX
  have BY := Lib.hid bY
  clear bY
  have BZ := Lib.hid bZ
  clear bZ
  have BT := Lib.hid bT
  clear bT
  go_enter Tryd.func13, Tryd.ntmps13
  have hp := Lies.new W 26 (ptA u)
  have hB := (Below.refl W.heap.size W).alloc (Nat.le_refl _) (.cells (ptA u) 26)
  go_upto_region 1 with fail
  generalize World.alloc W _ = w0 at *
  have hpX := pt_X hp
  have hpY := pt_Y hp
  have hpZ := pt_Z hp
  have hpT := pt_T hp
  refine wp_region_all_g (by kernel_rfl) (by kernel_rfl) ?_
  refine wpQg_run (.pointer (some ⟨W.heap.size, 0, none⟩)) rfl (fun _ _ => by kernel_rfl) (qAr ?_ (by simp only [Act.put, List.setIfInBounds_toArray, List.set_cons_succ, List.set_cons_zero]; rfl))
  refine wpQg_mid W.heap.size 0 u.X hpX rfl rfl (qAr ?_ (by simp only [Act.put, List.setIfInBounds_toArray, List.set_cons_succ, List.set_cons_zero]; rfl))
  refine wpQg_call 33 #[fe u.X] (fe mX) rfl rfl (fun _ => by kernel_rfl) (fun w _ => HX.out w) (qAr ?_ (by simp only [Act.put, List.setIfInBounds_toArray, List.set_cons_succ, List.set_cons_zero]; rfl))
  refine wpQg_run (.pointer (some ⟨W.heap.size, 0, none⟩)) rfl (fun _ _ => by kernel_rfl) (qAr ?_ (by simp only [Act.put, List.setIfInBounds_toArray, List.set_cons_succ, List.set_cons_zero]; rfl))
  refine wpQg_mid W.heap.size 0 u.X hpX rfl rfl (qAr ?_ (by simp only [Act.put, List.setIfInBounds_toArray, List.set_cons_succ, List.set_cons_zero]; rfl))
  refine wpQg_run (.bool false) rfl (fun w _ => (neq_exec rfl mX u.X lX kX rfl rfl w).trans (by rw [BX.out, hX.out])) (qAr ?_ (by simp only [Act.put, List.setIfInBounds_toArray, List.set_cons_succ, List.set_cons_zero]; rfl))
  refine wpQg_run (.bool false) rfl (fun _ _ => rfl) (qAr ?_ (by simp only [Act.put, List.setIfInBounds_toArray, List.set_cons_succ, List.set_cons_zero]; rfl))
  refine wpQg_run (.pointer (some ⟨W.heap.size, 4, none⟩)) rfl (fun _ _ => by kernel_rfl) (qAr ?_ (by simp only [Act.put, List.setIfInBounds_toArray, List.set_cons_succ, List.set_cons_zero]; rfl))
  refine wpQg_mid W.heap.size 4 u.Y hpY rfl rfl (qAr ?_ (by simp only [Act.put, List.setIfInBounds_toArray, List.set_cons_succ, List.set_cons_zero]; rfl))
  refine wpQg_call 33 #[fe u.Y] (fe mY) rfl rfl (fun _ => by kernel_rfl) (fun w _ => HY.out w) (qAr ?_ (by simp only [Act.put, List.setIfInBounds_toArray, List.set_cons_succ, List.set_cons_zero]; rfl))
  refine wpQg_run (.pointer (some ⟨W.heap.size, 4, none⟩)) rfl (fun _ _ => by kernel_rfl) (qAr ?_ (by simp only [Act.put, List.setIfInBounds_toArray, List.set_cons_succ, List.set_cons_zero]; rfl))
  refine wpQg_mid W.heap.size 4 u.Y hpY rfl rfl (qAr ?_ (by simp only [Act.put, List.setIfInBounds_toArray, List.set_cons_succ, List.set_cons_zero]; rfl))
  refine wpQg_run (.bool false) rfl (fun w _ => (neq_exec rfl mY u.Y lY kY rfl rfl w).trans (by rw [BY.out, hY.out])) (qAr ?_ (by simp only [Act.put, List.setIfInBounds_toArray, List.set_cons_succ, List.set_cons_zero]; rfl))
  refine wpQg_run (.bool false) rfl (fun _ _ => by kernel_rfl) (qAr ?_ (by simp only [Act.put, List.setIfInBounds_toArray, List.set_cons_succ, List.set_cons_zero]; rfl))
  refine wpQg_run (.bool false) rfl (fun _ _ => rfl) (qAr ?_ (by simp only [Act.put, List.setIfInBounds_toArray, List.set_cons_succ, List.set_cons_zero]; rfl))
  refine wpQg_run (.pointer (some ⟨W.heap.size, 8, none⟩)) rfl (fun _ _ => by kernel_rfl) (qAr ?_ (by simp only [Act.put, List.setIfInBounds_toArray, List.set_cons_succ, List.set_cons_zero]; rfl))
  refine wpQg_mid W.heap.size 8 u.Z hpZ rfl rfl (qAr ?_ (by simp only [Act.put, List.setIfInBounds_toArray, List.set_cons_succ, List.set_cons_zero]; rfl))
  refine wpQg_call 33 #[fe u.Z] (fe mZ) rfl rfl (fun _ => by kernel_rfl) (fun w _ => HZ.out w) (qAr ?_ (by simp only [Act.put, List.setIfInBounds_toArray, List.set_cons_succ, List.set_cons_zero]; rfl))
  refine wpQg_run (.pointer (some ⟨W.heap.size, 8, none⟩)) rfl (fun _ _ => by kernel_rfl) (qAr ?_ (by simp only [Act.put, List.setIfInBounds_toArray, List.set_cons_succ, List.set_cons_zero]; rfl))
  refine wpQg_mid W.heap.size 8 u.Z hpZ rfl rfl (qAr ?_ (by simp only [Act.put, List.setIfInBounds_toArray, List.set_cons_succ, List.set_cons_zero]; rfl))
  refine wpQg_run (.bool false) rfl (fun w _ => (neq_exec rfl mZ u.Z lZ kZ rfl rfl w).trans (by rw [BZ.out, hZ.out])) (qAr ?_ (by simp only [Act.put, List.setIfInBounds_toArray, List.set_cons_succ, List.set_cons_zero]; rfl))
  refine wpQg_run (.bool false) rfl (fun _ _ => by kernel_rfl) (qAr ?_ (by simp only [Act.put, List.setIfInBounds_toArray, List.set_cons_succ, List.set_cons_zero]; rfl))
  refine wpQg_run (.bool false) rfl (fun _ _ => rfl) (qAr ?_ (by simp only [Act.put, List.setIfInBounds_toArray, List.set_cons_succ, List.set_cons_zero]; rfl))
  refine wpQg_run (.pointer (some ⟨W.heap.size, 12, none⟩)) rfl (fun _ _ => by kernel_rfl) (qAr ?_ (by simp only [Act.put, List.setIfInBounds_toArray, List.set_cons_succ, List.set_cons_zero]; rfl))
  refine wpQg_mid W.heap.size 12 u.T hpT rfl rfl (qAr ?_ (by simp only [Act.put, List.setIfInBounds_toArray, List.set_cons_succ, List.set_cons_zero]; rfl))
  refine wpQg_call 33 #[fe u.T] (fe mT) rfl rfl (fun _ => by kernel_rfl) (fun w _ => HT.out w) (qAr ?_ (by simp only [Act.put, List.setIfInBounds_toArray, List.set_cons_succ, List.set_cons_zero]; rfl))
  refine wpQg_run (.pointer (some ⟨W.heap.size, 12, none⟩)) rfl (fun _ _ => by kernel_rfl) (qAr ?_ (by simp only [Act.put, List.setIfInBounds_toArray, List.set_cons_succ, List.set_cons_zero]; rfl))
  refine wpQg_mid W.heap.size 12 u.T hpT rfl rfl (qAr ?_ (by simp only [Act.put, List.setIfInBounds_toArray, List.set_cons_succ, List.set_cons_zero]; rfl))
  refine wpQg_run (.bool false) rfl (fun w _ => (neq_exec rfl mT u.T lT kT rfl rfl w).trans (by rw [BT.out, hT.out])) (qAr ?_ (by simp only [Act.put, List.setIfInBounds_toArray, List.set_cons_succ, List.set_cons_zero]; rfl))
  refine wpQg_run (.bool false) rfl (fun _ _ => by kernel_rfl) (qAr ?_ (by simp only [Act.put, List.setIfInBounds_toArray, List.set_cons_succ, List.set_cons_zero]; rfl))
  refine wpQuiet_nil ?_
  intro w1 hb
  replace hB := below_on hB hb
  replace hp := hp.on hb
  clear hb hpX hpY hpZ hpT HX HY HZ HT
  go_upto_region 4 with ((with_reducible refine wpL_store w1.heap.size 24 _ fe0A 4 rowFe ?_ rfl fe0A_one (Lies.new w1 _ _) ?_ ?_ ?_); rfl; rfl; rfl)
  have hz := newly_lies w1 24 fe0A fe0A
  have hnw := newly w1 (.cells fe0A 24) fe0A
  replace hp := hp.on hnw
  replace hB := below_on hB hnw
  clear hnw
  generalize World.setRow _ _ _ = w2 at *
  generalize w1.heap.size = gz at *
  rw [fe0A_is] at hz
  have hpX := pt_X hp
  have hpY := pt_Y hp
  have hpZ := pt_Z hp
  have hpT := pt_T hp
  refine wp_region_all_g (by kernel_rfl) (by kernel_rfl) ?_
  refine wpQg_run (.pointer (some ⟨W.heap.size, 8, none⟩)) rfl (fun _ _ => by kernel_rfl) (qAr ?_ (by simp only [Act.put, List.setIfInBounds_toArray, List.set_cons_succ, List.set_cons_zero]; rfl))
  refine wpQg_mid W.heap.size 8 u.Z hpZ rfl rfl (qAr ?_ (by simp only [Act.put, List.setIfInBounds_toArray, List.set_cons_succ, List.set_cons_zero]; rfl))
  refine wpQg_fe gz 0 hz rfl rfl (qAr ?_ (by simp only [Act.put, List.setIfInBounds_toArray, List.set_cons_succ, List.set_cons_zero]; rfl))
  refine wpQg_run (.bool false) rfl (fun w _ => (eql_exec rfl u.Z 0 kZ (by decide) rfl rfl w).trans (by rw [hz0.out])) (qAr ?_ (by simp only [Act.put, List.setIfInBounds_toArray, List.set_cons_succ, List.set_cons_zero]; rfl))
  refine wpQg_run (.bool false) rfl (fun _ _ => rfl) (qAr ?_ (by simp only [Act.put, List.setIfInBounds_toArray, List.set_cons_succ, List.set_cons_zero]; rfl))
  refine wpQg_run (.pointer (some ⟨W.heap.size, 0, none⟩)) rfl (fun _ _ => by kernel_rfl) (qAr ?_ (by simp only [Act.put, List.setIfInBounds_toArray, List.set_cons_succ, List.set_cons_zero]; rfl))
  refine wpQg_mid W.heap.size 0 u.X hpX rfl rfl (qAr ?_ (by simp only [Act.put, List.setIfInBounds_toArray, List.set_cons_succ, List.set_cons_zero]; rfl))
  refine wpQg_run (.pointer (some ⟨W.heap.size, 4, none⟩)) rfl (fun _ _ => by kernel_rfl) (qAr ?_ (by simp only [Act.put, List.setIfInBounds_toArray, List.set_cons_succ, List.set_cons_zero]; rfl))
  refine wpQg_mid W.heap.size 4 u.Y hpY rfl rfl (qAr ?_ (by simp only [Act.put, List.setIfInBounds_toArray, List.set_cons_succ, List.set_cons_zero]; rfl))
  refine wpQg_call 34 #[fe u.X, fe u.Y] (fe xy) rfl rfl (fun _ => by kernel_rfl) (fun w _ => HXY.out w) (qAr ?_ (by simp only [Act.put, List.setIfInBounds_toArray, List.set_cons_succ, List.set_cons_zero]; rfl))
  refine wpQg_run (.pointer (some ⟨W.heap.size, 8, none⟩)) rfl (fun _ _ => by kernel_rfl) (qAr ?_ (by simp only [Act.put, List.setIfInBounds_toArray, List.set_cons_succ, List.set_cons_zero]; rfl))
  refine wpQg_mid W.heap.size 8 u.Z hpZ rfl rfl (qAr ?_ (by simp only [Act.put, List.setIfInBounds_toArray, List.set_cons_succ, List.set_cons_zero]; rfl))
  refine wpQg_run (.pointer (some ⟨W.heap.size, 12, none⟩)) rfl (fun _ _ => by kernel_rfl) (qAr ?_ (by simp only [Act.put, List.setIfInBounds_toArray, List.set_cons_succ, List.set_cons_zero]; rfl))
  refine wpQg_mid W.heap.size 12 u.T hpT rfl rfl (qAr ?_ (by simp only [Act.put, List.setIfInBounds_toArray, List.set_cons_succ, List.set_cons_zero]; rfl))
  refine wpQg_call 34 #[fe u.Z, fe u.T] (fe zt) rfl rfl (fun _ => by kernel_rfl) (fun w _ => HZT.out w) (qAr ?_ (by simp only [Act.put, List.setIfInBounds_toArray, List.set_cons_succ, List.set_cons_zero]; rfl))
  refine wpQg_run (.bool false) rfl (fun w _ => (neq_exec rfl xy zt kXY kZT rfl rfl w).trans (by rw [hm0.out])) (qAr ?_ (by simp only [Act.put, List.setIfInBounds_toArray, List.set_cons_succ, List.set_cons_zero]; rfl))
  refine wpQg_run (.bool false) rfl (fun _ _ => by kernel_rfl) (qAr ?_ (by simp only [Act.put, List.setIfInBounds_toArray, List.set_cons_succ, List.set_cons_zero]; rfl))
  refine wpQuiet_nil ?_
  intro w3 hb
  replace hB := below_on hB hb
  replace hp := hp.on hb
  clear hb hpX hpY hpZ hpT
  go_upto_region 7 with (first
    | ((with_reducible refine wpL_load W.heap.size 26 (ptA u) 16 rowPt (ptA_size _) hp ?_ ?_); rfl)
    | (go_at_call 14; (with_reducible refine (HA.out _).mono ?_); rintro e w4 ⟨rfl, hb⟩; replace hB := below_on hB hb; clear hb)
    | ((with_reducible refine wpL_store w4.heap.size 31 _ (afA ax ay) 8 rowAf ?_ (afA_size _ _) (afA_one _ _) (Lies.new w4 _ _) ?_ ?_ ?_); rfl; rfl; rfl))
  have ha := newly_lies w4 31 z8F (afA ax ay)
  have hnw := newly w4 (.cells z8F 31) (afA ax ay)
  replace hB := below_on hB hnw
  clear hnw hp
  generalize World.setRow _ _ _ = w5 at *
  generalize w4.heap.size = ga at *
  have haX := af_X ha
  have haY := af_Y ha
  refine wp_region_all_g (by kernel_rfl) (by kernel_rfl) ?_
  refine wpQg_run (.pointer (some ⟨ga, 0, none⟩)) rfl (fun _ _ => by kernel_rfl) (qAr ?_ (by simp only [Act.put, List.setIfInBounds_toArray, List.set_cons_succ, List.set_cons_zero]; rfl))
  refine wpQg_mid ga 0 ax haX rfl rfl (qAr ?_ (by simp only [Act.put, List.setIfInBounds_toArray, List.set_cons_succ, List.set_cons_zero]; rfl))
  refine wpQg_run (.pointer (some ⟨ga, 4, none⟩)) rfl (fun _ _ => by kernel_rfl) (qAr ?_ (by simp only [Act.put, List.setIfInBounds_toArray, List.set_cons_succ, List.set_cons_zero]; rfl))
  refine wpQg_mid ga 4 ay haY rfl rfl (qAr ?_ (by simp only [Act.put, List.setIfInBounds_toArray, List.set_cons_succ, List.set_cons_zero]; rfl))
  refine wpQg_call 36 #[] (fe dN) rfl rfl (fun _ => by kernel_rfl) (fun w _ => HD.out w) (qAr ?_ (by simp only [Act.put, List.setIfInBounds_toArray, List.set_cons_succ, List.set_cons_zero]; rfl))
  refine wpQg_call 35 #[fe ax, fe ay, fe dN] (.bool (onB ax ay)) rfl rfl (fun _ => by kernel_rfl) (fun w _ => HO.out w) (qAr ?_ (by simp only [Act.put, List.setIfInBounds_toArray, List.set_cons_succ, List.set_cons_zero]; rfl))
  refine wpQg_run (.bool (onB ax ay)) rfl (fun _ _ => rfl) (qAr ?_ (by simp only [Act.put, List.setIfInBounds_toArray, List.set_cons_succ, List.set_cons_zero]; rfl))
  refine wpQuiet_nil ?_
  intro w6 hb
  replace hB := below_on hB hb
  go_wp2_with fail
  go_ret
  exact ⟨rfl, hB⟩

theorem refRight_any (u : N4) (hu : u.Lt) (W : World) :
    Calls Tryd.prog 13 #[pt u] W fun e w' => e = .returned (.bool u.right) ∧ Below W.heap.size W w' := by
  rw [right_parts]
  cases hX : (!decide (u.X < p25)) with
  | true => simpa only [hX, Bool.not_true, Bool.not_false, Bool.false_and, Bool.and_false, Bool.true_and] using right_way0 u hu hX W
  | false =>
    cases hY : (!decide (u.Y < p25)) with
    | true => simpa only [hX, hY, Bool.not_true, Bool.not_false, Bool.false_and, Bool.and_false, Bool.true_and] using right_way1 u hu hX hY W
    | false =>
      cases hZ : (!decide (u.Z < p25)) with
      | true => simpa only [hX, hY, hZ, Bool.not_true, Bool.not_false, Bool.false_and, Bool.and_false, Bool.true_and] using right_way2 u hu hX hY hZ W
      | false =>
        cases hT : (!decide (u.T < p25)) with
        | true => simpa only [hX, hY, hZ, hT, Bool.not_true, Bool.not_false, Bool.false_and, Bool.and_false, Bool.true_and] using right_way3 u hu hX hY hZ hT W
        | false =>
          cases hz : decide (u.Z = 0) with
          | true => simpa only [hX, hY, hZ, hT, hz, Bool.not_true, Bool.not_false, Bool.false_and, Bool.and_false, Bool.true_and] using right_way4 u hu hX hY hZ hT hz W
          | false =>
            cases hm : (!decide (u.X * u.Y % p25 = u.Z * u.T % p25)) with
            | true => simpa only [hX, hY, hZ, hT, hz, hm, Bool.not_true, Bool.not_false, Bool.false_and, Bool.and_false, Bool.true_and] using right_way5 u hu hX hY hZ hT hz hm W
            | false => simpa only [hX, hY, hZ, hT, hz, hm, Bool.not_true, Bool.not_false, Bool.false_and, Bool.and_false, Bool.true_and] using right_way6 u hu hX hY hZ hT hz hm W
end Go.Proofs.YtfleimaoaicolaaDoor.C
