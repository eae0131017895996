/- Texts that stand on one another, put together: FRefInv, FRefAdd, CRef, CSome, CCalls. -/
import Derived.Test.YtfleimaoaicolaaDoorLot7
import Derived.Deep.RegionHeld3
/- The contract of the reference's Inv. -/
namespace Go.Proofs.YtfleimaoaicolaaDoor.F
open Go.RowKit Go.Sort
set_option maxRecDepth 100000
attribute [local irreducible] feA

abbrev twoA : Array Value := #[.int .i64 2]
theorem two_dig (w : World) : Dig (w.alloc (.cells twoA 3)) w.heap.size 0 [2] := fun i hi => by
  obtain rfl : i = 0 := by simpa using hi
  exact (Lies.new w 3 twoA).cell 0
theorem prime_two (gp cp g2 : Nat) (W : World) (hp : Dig W gp 0 primeL) (h2 : Dig W g2 0 [2]) :
    Calls Tryd.prog 64 #[.slice (some ⟨gp, 0, none⟩) 16 cp, .slice (some ⟨g2, 0, none⟩) 1 1] W fun e W' => ∃ r g' cap', e = .returned (.slice (some ⟨g', 0, none⟩) r.length cap') ∧ r.length ≤ cap' ∧ r.length ≤ 100 ∧ Dig W' g' 0 r ∧ Dg r ∧ val r = p25 - 2 ∧ Below W.heap.size W W' := by
  have h := minus_any primeL [2] gp 0 cp g2 0 1 W hp h2 (by decide) prime_dg (by unfold Dg; simp) (by rw [prime_val]; decide)
  rw [show primeL.length = 16 from rfl, prime_val] at h
  refine h.mono ?_
  rintro e W' ⟨r, g', cap', rfl, h1, h2, h3, h4, _, h6, h7⟩
  exact ⟨r, g', cap', rfl, h1, by omega, h3, h4, h6, h7⟩
theorem power_inv (x : Nat) (hx : x < K256) (r : List Nat) (gr cr : Nat) (W : World) (h1 : r.length ≤ cr) (h2 : r.length ≤ 100) (h3 : Dig W gr 0 r) (h4 : Dg r) (h5 : val r = p25 - 2) :
    Calls Tryd.prog 63 #[fe x, .slice (some ⟨gr, 0, none⟩) r.length cr] W fun e w' => e = .returned (fe (invN x)) ∧ Below W.heap.size W w' := by
  have h := power_ref x r gr 0 cr W hx h3 h4 h2 h1
  rw [h5, powN_eq, ← invN_eq] at h
  exact h

set_option maxHeartbeats 1600000 in
theorem refInv_any (x : Nat) (W : World) (hx : x < K256) :
    Calls Tryd.prog 37 #[fe x] W fun e w' => e = .returned (fe (invN x)) ∧ Below W.heap.size W w' := by
  have HP := Lib.hid (power_inv x hx)
  clear hx
  generalize invN x = v at *
  obtain ⟨a0, a1, a2, a3, ha⟩ := fe_four x
  rw [fe, ha] at HP
  rw [show fe x = .agg #[w64 a0, w64 a1, w64 a2, w64 a3] by rw [fe, ha]]
  clear ha
  go_enter Tryd.func37, Tryd.ntmps37
  have hx := (Lies.new W 24 #[w64 a0, w64 a1, w64 a2, w64 a3]).alloc (.cells fe0A 24)
  have hr : Lies ((W.alloc (.cells #[w64 a0, w64 a1, w64 a2, w64 a3] 24)).alloc (.cells fe0A 24)) (W.heap.size + 1) 24 fe0A := heap_alloc2_new W _ _
  have hB := ((Below.refl W.heap.size W).alloc (Nat.le_refl _) (.cells #[w64 a0, w64 a1, w64 a2, w64 a3] 24)).alloc (by simp) (.cells fe0A 24)
  go_upto_region 1 with fail
  generalize World.alloc (World.alloc W _) _ = w0 at *
  replace hx := hx.drew
  replace hr := hr.drew
  replace hB := hB.drew
  have hall : ∀ w : World, Below w.heap.size w (w.alloc (.cells twoA 3)) := fun w => (Below.refl _ w).alloc (Nat.le_refl _) _
  have hne : W.heap.size ≠ W.heap.size + 1 := by omega
  go_region_held3 (fun w' : World => w'.cell? ⟨W.heap.size, 0, none⟩ = some (w64 a0) ∧ w'.cell? ⟨W.heap.size, 1, none⟩ = some (w64 a1) ∧ w'.cell? ⟨W.heap.size, 2, none⟩ = some (w64 a2) ∧ w'.cell? ⟨W.heap.size, 3, none⟩ = some (w64 a3))
    (first | exact hx.four | exact (hx.on (hall _)).four | exact (hx.rowFar hne _).four)
    (first
    | (go_at_call 65; first
      | ((with_reducible refine (prime_any w0.drew).mono ?_); rintro e w1 ⟨gp, cp, rfl, hcp, hp, hb⟩; replace hx := hx.on hb; replace hr := hr.on hb; replace hB := below_on hB hb; clear hb)
      | ((with_reducible refine (prime_any _).mono ?_); rintro e w1 ⟨gp, cp, rfl, hcp, hp, hb⟩; have h2 : Dig w1 w0.heap.size 0 [2] := (two_dig w0.drew).on hb; replace hx := (hx.on (hall _)).on hb; replace hr := (hr.on (hall _)).on hb; replace hB := below_on (below_on hB (hall _)) hb; clear hb))
    | (go_at_call 64; first
      | ((with_reducible refine (prime_two gp cp w0.heap.size w1 hp h2).mono ?_); rintro e w2 ⟨r, gr, cr, rfl, r1, r2, r3, r4, r5, hb⟩; replace hx := hx.on hb; replace hr := hr.on hb; replace hB := below_on hB hb; clear hb)
      | ((with_reducible refine (prime_two gp cp w1.heap.size _ (hp.on (hall w1)) (two_dig w1)).mono ?_); rintro e w2 ⟨r, gr, cr, rfl, r1, r2, r3, r4, r5, hb⟩; replace hx := (hx.on (hall _)).on hb; replace hr := (hr.on (hall _)).on hb; replace hB := below_on (below_on hB (hall _)) hb; clear hb))
    | (go_at_call 63; (with_reducible refine (HP.out r gr cr _ r1 r2 r3 r4 r5).mono ?_); rintro e w3 ⟨rfl, hb⟩; replace hx := hx.on hb; replace hr := hr.on hb; replace hB := below_on hB hb; clear hb; have hst := hr.storeFe v; have hsz := feA_size v))
  all_goals
    go_wp2_with fail
    exact bodyPost_ret (results_row Tryd.results37 rowFe (feA_size _) (hr.row _) rfl) rfl ⟨rfl, below_rowSet hB (by omega) _⟩
end Go.Proofs.YtfleimaoaicolaaDoor.F

/- The contract of the reference's Add. -/
namespace Go.Proofs.YtfleimaoaicolaaDoor.F
set_option maxRecDepth 100000
open Go.RowKit

set_option maxRecDepth 100000 in
set_option maxHeartbeats 1600000 in
theorem refAdd_any (m n : Nat) (W : World) (hm : m < K256) (hn : n < K256) :
    Calls Tryd.prog 48 #[fe m, fe n] W fun e W' => e = .returned (fe ((m + n) % p25)) ∧ Below W.heap.size W W' := by
  have HP := Lib.hid (digits_plus m n hm hn)
  have HM := Lib.hid (digits_any m)
  have HN := Lib.hid (digits_any n)
  rw [fe, fe]
  obtain ⟨a0, a1, a2, a3, ha⟩ := fe_four m
  obtain ⟨b0, b1, b2, b3, hb⟩ := fe_four n
  rw [fe, ha] at HM
  rw [fe, hb] at HN
  rw [ha, hb]
  clear ha hb
  go_enter Tryd.func48, Tryd.ntmps48
  have hx := ((Lies.new W 24 #[w64 a0, w64 a1, w64 a2, w64 a3]).alloc (.cells #[w64 b0, w64 b1, w64 b2, w64 b3] 24)).alloc (.cells fe0A 24)
  have hy : Lies ((W.alloc (.cells #[w64 a0, w64 a1, w64 a2, w64 a3] 24)).alloc (.cells #[w64 b0, w64 b1, w64 b2, w64 b3] 24)) (W.heap.size + 1) 24 #[w64 b0, w64 b1, w64 b2, w64 b3] := heap_alloc2_new W _ _
  replace hy := hy.alloc (.cells fe0A 24)
  have hr := lies3 W (.cells #[w64 a0, w64 a1, w64 a2, w64 a3] 24) (.cells #[w64 b0, w64 b1, w64 b2, w64 b3] 24) 24 fe0A
  have hB := (((Below.refl W.heap.size W).alloc (Nat.le_refl _) (.cells #[w64 a0, w64 a1, w64 a2, w64 a3] 24)).alloc (by simp) (.cells #[w64 b0, w64 b1, w64 b2, w64 b3] 24)).alloc (by simp; omega) (.cells fe0A 24)
  go_upto_region 1 with fail
  generalize World.alloc (World.alloc (World.alloc W _) _) _ = w0 at *
  obtain ⟨x0, x1, x2, x3⟩ := hx.four
  obtain ⟨y0, y1, y2, y3⟩ := hy.four
  replace hx := hx.drew
  replace hy := hy.drew
  replace hr := hr.drew
  replace hB := hB.drew
  go_region_with (first
    | (go_at_call 61; first
      | ((with_reducible refine (HM.out _).mono ?_); rintro e w1 ⟨gx, cx, rfl, hcx, hdx, hb⟩; replace hy := hy.on hb; replace hr := hr.on hb; replace hB := below_on hB hb; clear hb x0 x1 x2 x3 y0 y1 y2 y3; obtain ⟨y0, y1, y2, y3⟩ := hy.four)
      | ((with_reducible refine (HN.out _).mono ?_); rintro e w2 ⟨gy, cy, rfl, hcy, hdy, hb⟩; replace hr := hr.on hb; replace hB := below_on hB hb; replace hdx := hdx.on hb; clear hb))
    | (go_at_call 78; refine (HP.out gx cx gy cy _ hdx hdy).mono ?_; rintro e w3 ⟨r, gr, cr, rfl, r1, r2, r3, r4, r5, hb⟩; replace hr := hr.on hb; replace hB := below_on hB hb; clear hb)
    | (go_at_call 60; refine (val_fold r (m + n) _ gr cr r2 r1 r3 r4 r5).mono ?_; rintro e w4 ⟨rfl, hb⟩; replace hr := hr.on hb; replace hB := below_on hB hb; clear hb; have hst := hr.storeFe ((m + n) % p25); have hsz := feA_size ((m + n) % p25)))
  all_goals
    go_wp2_with fail
    exact bodyPost_ret (results_row Tryd.results48 rowFe (feA_size _) (hr.row _) rfl) rfl ⟨rfl, below_rowSet hB (by omega) _⟩
end Go.Proofs.YtfleimaoaicolaaDoor.F

/- The contracts of the reference's D, On and Affine. -/
namespace Go.Proofs.YtfleimaoaicolaaDoor.C
open Go.RowKit Go.Sort Go.Proofs.YtfleimaoaicolaaDoor.F
set_option maxRecDepth 100000

theorem fe_small (n : Nat) (h : n < 18446744073709551616) : (.agg #[.int .u64 (n : Int), .int .u64 0, .int .u64 0, .int .u64 0] : Value) = fe n := (fe_word n h).symm
attribute [local irreducible] feA
theorem eql_exec {o : Oper} {a : Act} {x y : Operand} {r : TypeId} (ho : o.op = .binOp .eql 24 x y r) (m n : Nat) (hm : m < K256) (hn : n < K256) (hx : a.eval x = fe m) (hy : a.eval y = fe n) (w : World) :
    (execOp a.eval o).run Tryd.prog w = .ok (.value (.bool (decide (m = n)))) w := by
  unfold execOp
  simp only [ho, hx, hy, Sem.run_bind, run_eqGuard_agg (hm := Tryd.eqGuardType24), Result.andThen_ok, eql_fe m n hm hn, Sem.run_pure]

set_option maxHeartbeats 800000 in
theorem refD_any (W : World) : Calls Tryd.prog 36 #[] W fun e w' => e = .returned (fe dN) ∧ Below W.heap.size W w' := by
  have HS := Lib.hid (fun w => refSub_any 0 121665 w (by decide) (by decide))
  have HI := Lib.hid (fun w => refInv_any 121666 w (by decide))
  obtain ⟨s, hs⟩ : ∃ s, (0 + (p25 - 121665 % p25)) % p25 = s := ⟨_, rfl⟩
  have hsK : s < K256 := by rw [← hs]; exact mod_K _
  have hd := d_val
  rw [hs] at HS hd
  have hiK : invN 121666 < K256 := below_K (invN_lt _)
  obtain ⟨i, hi⟩ : ∃ i, invN 121666 = i := ⟨_, rfl⟩
  rw [hi] at HI hd hiK
  have HM := Lib.hid (fun w => refMul_any s i w hsK hiK)
  rw [hd] at HM
  rw [← fe_small 0 (by decide), ← fe_small 121665 (by decide)] at HS
  rw [← fe_small 121666 (by decide)] at HI
  have HS' : Hid (∀ w, Calls Tryd.prog 49 #[.agg #[.int .u64 0, .int .u64 0, .int .u64 0, .int .u64 0], .agg #[.int .u64 121665, .int .u64 0, .int .u64 0, .int .u64 0]] w fun e w' => e = .returned (fe s) ∧ Below w.heap.size w w') := HS
  have HI' : Hid (∀ w, Calls Tryd.prog 37 #[.agg #[.int .u64 121666, .int .u64 0, .int .u64 0, .int .u64 0]] w fun e w' => e = .returned (fe i) ∧ Below w.heap.size w w') := HI
  clear hs hd hi HS HI hsK hiK
  generalize dN = D at *
  go_enter Tryd.func36, Tryd.ntmps36
  have hr := Lies.new W 24 fe0A
  have hB := (Below.refl W.heap.size W).alloc (Nat.le_refl _) (.cells fe0A 24)
  go_upto_region 1 with fail
  generalize World.alloc W _ = w0 at *
  go_wp2_with (first
    | (go_at_call 49; (with_reducible refine (HS'.out _).mono ?_); rintro e w1 ⟨rfl, hb⟩; replace hr := hr.on hb; replace hB := below_on hB hb; clear hb)
    | (go_at_call 37; (with_reducible refine (HI'.out _).mono ?_); rintro e w2 ⟨rfl, hb⟩; replace hr := hr.on hb; replace hB := below_on hB hb; clear hb)
    | (go_at_call 34; (with_reducible refine (HM.out _).mono ?_); rintro e w3 ⟨rfl, hb⟩; replace hr := hr.on hb; replace hB := below_on hB hb; clear hb)
    | ((with_reducible refine wpL_store W.heap.size 24 _ (feA D) 4 rowFe rfl (feA_size _) (feA_one _) hr ?_ ?_ ?_); rfl; rfl))
  exact bodyPost_ret (results_row Tryd.results36 rowFe (feA_size _) (hr.row _) rfl) rfl ⟨rfl, below_rowSet hB (Nat.le_refl _) _⟩

set_option maxHeartbeats 800000 in
theorem refOn_any (x y : Nat) (W : World) (hx : x < K256) (hy : y < K256) : Calls Tryd.prog 35 #[fe x, fe y, fe dN] W fun e w' => e = .returned (.bool (onB x y)) ∧ Below W.heap.size W w' := by
  have HX := Lib.hid (fun w => refMul_any x x w hx hx)
  have HY := Lib.hid (fun w => refMul_any y y w hy hy)
  have kX := mod_K (x * x)
  have kY := mod_K (y * y)
  have HS := Lib.hid (fun w => refSub_any (y * y % p25) (x * x % p25) w kY kX)
  have HP := Lib.hid (fun w => refMul_any (x * x % p25) (y * y % p25) w kX kY)
  have HDd := Lib.hid (fun w => refMul_any dN (x * x % p25 * (y * y % p25) % p25) w (by decide) (mod_K _))
  have HA := Lib.hid (fun w => refAdd_any 1 (dN * (x * x % p25 * (y * y % p25) % p25) % p25) w (by decide) (mod_K _))
  have kS := mod_K (y * y % p25 + (p25 - x * x % p25 % p25))
  have kA := mod_K (1 + dN * (x * x % p25 * (y * y % p25) % p25) % p25)
  have HB : Hid (onB x y = decide ((y * y % p25 + (p25 - x * x % p25 % p25)) % p25 = (1 + dN * (x * x % p25 * (y * y % p25) % p25) % p25) % p25)) := Lib.hid rfl
  generalize onB x y = b at *
  generalize (1 + dN * (x * x % p25 * (y * y % p25) % p25) % p25) % p25 = r at *
  generalize dN * (x * x % p25 * (y * y % p25) % p25) % p25 = dp at *
  generalize (y * y % p25 + (p25 - x * x % p25 % p25)) % p25 = l at *
  generalize x * x % p25 * (y * y % p25) % p25 = pr at *
  generalize x * x % p25 = xx at *
  generalize y * y % p25 = yy at *
  generalize dN = D at *
  go_enter Tryd.func35, Tryd.ntmps35
  have zx := ((Lies.new W 24 (feA x)).alloc (.cells (feA y) 24)).alloc (.cells (feA D) 24)
  have zy : Lies ((W.alloc (.cells (feA x) 24)).alloc (.cells (feA y) 24)) (W.heap.size + 1) 24 (feA y) := heap_alloc2_new W _ _
  replace zy := zy.alloc (.cells (feA D) 24)
  have zd := lies3 W (.cells (feA x) 24) (.cells (feA y) 24) 24 (feA D)
  have hB := (((Below.refl W.heap.size W).alloc (Nat.le_refl _) (.cells (feA x) 24)).alloc (by simp) (.cells (feA y) 24)).alloc (by simp; omega) (.cells (feA D) 24)
  go_upto_region 1 with fail
  generalize World.alloc (World.alloc (World.alloc W _) _) _ = w0 at *
  go_upto_region 2 with (first
    | ((with_reducible refine wpL_load W.heap.size 24 (feA x) 4 rowFe (feA_size _) zx ?_ ?_); rfl)
    | (go_at_call 34; (with_reducible refine (HX.out _).mono ?_); rintro e w1 ⟨rfl, hb⟩; replace zy := zy.on hb; replace zd := zd.on hb; replace hB := below_on hB hb; clear hb)
    | ((with_reducible refine wpL_store w1.heap.size 24 _ (feA xx) 4 rowFe ?_ (feA_size _) (feA_one _) (Lies.new w1 _ _) ?_ ?_ ?_); rfl; rfl; rfl))
  have zxx := newly_lies w1 24 fe0A (feA xx)
  have hnw := newly w1 (.cells fe0A 24) (feA xx)
  replace zy := zy.on hnw
  replace zd := zd.on hnw
  replace hB := below_on hB hnw
  clear hnw zx HX
  generalize World.setRow _ _ _ = w2 at *
  generalize w1.heap.size = gxx at *
  go_upto_region 3 with (first
    | ((with_reducible refine wpL_load (W.heap.size + 1) 24 (feA y) 4 rowFe (feA_size _) zy ?_ ?_); rfl)
    | (go_at_call 34; (with_reducible refine (HY.out _).mono ?_); rintro e w3 ⟨rfl, hb⟩; replace zxx := zxx.on hb; replace zd := zd.on hb; replace hB := below_on hB hb; clear hb)
    | ((with_reducible refine wpL_store w3.heap.size 24 _ (feA yy) 4 rowFe ?_ (feA_size _) (feA_one _) (Lies.new w3 _ _) ?_ ?_ ?_); rfl; rfl; rfl))
  have zyy := newly_lies w3 24 fe0A (feA yy)
  have hnw := newly w3 (.cells fe0A 24) (feA yy)
  replace zxx := zxx.on hnw
  replace zd := zd.on hnw
  replace hB := below_on hB hnw
  clear hnw zy HY
  generalize World.setRow _ _ _ = w4 at *
  generalize w3.heap.size = gyy at *
  refine wp_region_all (by kernel_rfl) (by kernel_rfl) ?_
  refine wpQB_fe gyy yy zyy rfl ?_
  simp only [Act.put, List.setIfInBounds_toArray, List.set_cons_succ, List.set_cons_zero]
  refine wpQB_fe gxx xx zxx rfl ?_
  simp only [Act.put, List.setIfInBounds_toArray, List.set_cons_succ, List.set_cons_zero]
  refine wpQB_call 49 #[fe yy, fe xx] (fe l) rfl rfl (fun _ => by kernel_rfl) (fun w _ => HS.out w) ?_
  simp only [Act.put, List.setIfInBounds_toArray, List.set_cons_succ, List.set_cons_zero]
  refine wpQB_run (fe 1) rfl (fun _ _ => by kernel_rfl) ?_
  simp only [Act.put, List.setIfInBounds_toArray, List.set_cons_succ, List.set_cons_zero]
  refine wpQB_fe (W.heap.size + 2) D zd rfl ?_
  simp only [Act.put, List.setIfInBounds_toArray, List.set_cons_succ, List.set_cons_zero]
  refine wpQB_fe gxx xx zxx rfl ?_
  simp only [Act.put, List.setIfInBounds_toArray, List.set_cons_succ, List.set_cons_zero]
  refine wpQB_fe gyy yy zyy rfl ?_
  simp only [Act.put, List.setIfInBounds_toArray, List.set_cons_succ, List.set_cons_zero]
  refine wpQB_call 34 #[fe xx, fe yy] (fe pr) rfl rfl (fun _ => by kernel_rfl) (fun w _ => HP.out w) ?_
  simp only [Act.put, List.setIfInBounds_toArray, List.set_cons_succ, List.set_cons_zero]
  refine wpQB_call 34 #[fe D, fe pr] (fe dp) rfl rfl (fun _ => by kernel_rfl) (fun w _ => HDd.out w) ?_
  simp only [Act.put, List.setIfInBounds_toArray, List.set_cons_succ, List.set_cons_zero]
  refine wpQB_call 48 #[fe 1, fe dp] (fe r) rfl rfl (fun _ => by kernel_rfl) (fun w _ => HA.out w) ?_
  simp only [Act.put, List.setIfInBounds_toArray, List.set_cons_succ, List.set_cons_zero]
  refine wpQB_run (.bool (decide (l = r))) rfl (fun w _ => eql_exec rfl l r kS kA rfl rfl w) ?_
  simp only [Act.put, List.setIfInBounds_toArray, List.set_cons_succ, List.set_cons_zero]
  refine wpQB_run (.bool (decide (l = r))) rfl (fun _ _ => rfl) ?_
  simp only [Act.put, List.setIfInBounds_toArray, List.set_cons_succ, List.set_cons_zero]
  refine wpQB_nil ?_
  intro w5 hb
  replace hB := below_on hB hb
  clear hb
  go_wp2_with fail
  go_ret
  exact ⟨by rw [HB.out]; rfl, hB⟩
end Go.Proofs.YtfleimaoaicolaaDoor.C

/- The statements' own helpers: alive, and some point of a number. -/
namespace Go.Proofs.YtfleimaoaicolaaDoor.C
open Go.RowKit Go.Sort Go.Proofs.YtfleimaoaicolaaDoor.F
set_option maxRecDepth 100000

/-! ### calls of what may be -/
section
variable {f : N4 → N4 → N4}
theorem lt_some {u : N4} (h : u.right = true) : u.Lt := (right_pn h).lt
end
def baseT : ByteArray := ⟨(88 :: List.replicate 31 102).toArray⟩
theorem base_text : textN Bp = baseT := by
  have h : (Bp.x.val, Bp.y.val) = (bxN, byN) := by
    unfold Bp
    rw [val_z (by decide), val_z (by decide)]
  unfold textN
  rw [show Bp.y.val = byN from congrArg Prod.snd h, show Bp.x.val = bxN from congrArg Prod.fst h]
  decide +kernel
def repT : ByteArray := ⟨(List.replicate 31 102).toArray⟩
theorem rep_text : (⟨(Lib.repeatL (⟨#[102]⟩ : ByteArray).data.toList 31).toArray⟩ : ByteArray) = repT := by decide +kernel
theorem rep_size : repT.size = 31 := by decide
theorem base_eq : (baseT.toList == (({ data := #[88] } : ByteArray) ++ repT).toList) = true := by decide +kernel
theorem pt_is (u : N4) : pt u = .agg (feA u.X ++ feA u.Y ++ feA u.Z ++ feA u.T) := rfl
attribute [local irreducible] feA ptA repT baseT

set_option maxHeartbeats 400000 in
theorem cAlive_any (O : PointOk) (w : World) (hT : PtTab w) : Calls Tryd.prog 16 #[] w fun e w' => e = .returned (.bool true) ∧ Below w.heap.size w w' := by
  have HB := Lib.hid (fun w hT => O.base w hT)
  have HY := Lib.hid (fun w hT => O.bytes baseN w base_pn.lt hT)
  rw [if_pos base_pn.right, base_pn.of, base_text] at HY
  have HR := Lib.hid (fun w => Tryd.strings_Repeat (⟨#[102]⟩ : ByteArray) 31 w (by decide) (by decide))
  rw [rep_text] at HR
  have hsz := rep_size
  have hB := Below.refl w.heap.size w
  go_enter Tryd.func16, Tryd.ntmps16
  go_wp2_with (first
    | (go_at_call 11; (with_reducible refine (HB.out _ hT).mono ?_); rintro e w1 ⟨rfl, hb⟩; replace hT := hT.on hb; replace hB := below_on hB hb; clear hb)
    | (go_at_call 21; (with_reducible refine (HY.out _ hT).mono ?_); rintro e w1 ⟨rfl, hb⟩; replace hT := hT.on hb; replace hB := below_on hB hb; clear hb)
    | (go_at_call 39; (refine (HR.out _).mono ?_); rintro e w1 ⟨rfl, hb⟩; replace hT := hT.on hb; replace hB := below_on hB hb; clear hb))
  go_ret
  exact ⟨congrArg (fun b => Ending.returned (.bool b)) base_eq, hB⟩

/-! ### some point -/
abbrev z16A : Array Value := #[.int .u64 0, .int .u64 0, .int .u64 0, .int .u64 0, .int .u64 0, .int .u64 0, .int .u64 0, .int .u64 0, .int .u64 0, .int .u64 0, .int .u64 0, .int .u64 0, .int .u64 0, .int .u64 0, .int .u64 0, .int .u64 0]
section
variable {w0 : World} {Q : Act → Prop} {a : Act} {rest : List Oper} {t' : TypeId} {pos : String} {after : Array Edge} {d : Option Tmp} {x : Operand}
/-- one of the scalars' numbers is read whole -/
theorem wpQB_sc (g n : Nat) (hz : Lies w0 g 27 (feA n)) (hx : a.eval x = .pointer (some ⟨g, 0, none⟩))
    (h : wpQB Tryd.prog w0 Q rest (a.put d (fe n))) : wpQB Tryd.prog w0 Q (⟨d, .load 27 x, t', pos, after, none⟩ :: rest) a :=
  wpQB_load g 27 (feA n) _ Tryd.underlying27 rfl (by rw [feA_size]; exact G.rowFe.2) hz hx h
end
theorem alloc_pt {o : Oper} (h : o.op = .alloc 26) (a : Act) (w : World) : (execOp a.eval o).run Tryd.prog w = .ok (.value (.pointer (some ⟨w.heap.size, 0, none⟩))) (w.alloc (.cells z16A 26)) := by
  unfold execOp
  rw [h]
  kernel_rfl
theorem PtTab.drew {w : World} (h : PtTab w) : PtTab w.drew := h
theorem storePt {w : World} {g t : Nat} {cs : Array Value} (h : Lies w g t cs) (u : N4) (hn : cs.size = 16) : (storeCells ⟨g, 0, none⟩ (ptA u).toList).run Tryd.prog w = .ok () (w.setRow g (ptA u)) := by
  have h2 := run_storeCells_from (P := Tryd.prog) g t (ptA u).toList 0 cs w h (by rw [hn, Array.length_toList, ptA_size]) (fun v hv => (Array.all_eq_true_iff_forall_mem.1 (ptA_one u)) v (by simpa using hv))
  rw [List.take_zero, List.nil_append, Array.toArray_toList] at h2
  exact h2
def scal (u : N4) (k : Nat) : N4 := ⟨u.X * k % p25, u.Y * k % p25, u.Z * k % p25, u.T * k % p25⟩
theorem scal_pn {u : N4} {P : Pt} (h : Pn u P) {k : Nat} (hk : k < p25) (h0 : k ≠ 0) : Pn (scal u k) P := by
  have hn := z_ne hk h0
  obtain ⟨n, a, b⟩ := h.rep
  have ht := h.t
  refine ⟨Nat.mod_lt _ p25_pos, Nat.mod_lt _ p25_pos, Nat.mod_lt _ p25_pos, Nat.mod_lt _ p25_pos, ⟨?_, ?_, ?_⟩, ?_, h.on⟩
  · show z (u.Z * k % p25) ≠ 0
    rw [z_mod, z_mul]
    exact zmul_ne n hn
  · show z (u.X * k % p25) = P.x * z (u.Z * k % p25)
    rw [z_mod, z_mul, z_mod, z_mul, a]
    grind
  · show z (u.Y * k % p25) = P.y * z (u.Z * k % p25)
    rw [z_mod, z_mul, z_mod, z_mul, b]
    grind
  · show z (u.X * k % p25) * z (u.Y * k % p25) = z (u.Z * k % p25) * z (u.T * k % p25)
    simp only [z_mod, z_mul]
    grind
theorem or_one (n : Nat) (h : n < 18446744073709551616) : n ||| 1 < 18446744073709551616 ∧ (n ||| 1) ≠ 0 := by
  refine ⟨Nat.or_lt_two_pow (n := 64) h (by decide), fun e => ?_⟩
  have h1 := Nat.right_le_or (n := n) (m := 1)
  omega
theorem or_run (n : Nat) (h : n < 18446744073709551616) : bits BinOp.or IntKind.u64 (n : Int) 1 = ((n ||| 1 : Nat) : Int) := u64_or_nat n 1 h (by decide)

set_option maxHeartbeats 1600000 in
theorem some_any (F : FieldOk) (O : PointOk) : ∃ s : Nat → Nat → N4, (∀ n k, n < K256 → k < 18446744073709551616 → Pn (s n k) (Bp.smul n)) ∧
    ∀ (n k : Nat) (W : World), n < K256 → k < 18446744073709551616 → PtTab W → Calls Tryd.prog 22 #[fe n, w64 k] W fun e w' => e = .returned (.tuple #[pt (s n k), .bool true]) ∧ Below W.heap.size W w' := by
  obtain ⟨f, hf, hM⟩ := O.mul
  refine ⟨fun n k => scal (f n baseN) (k ||| 1), fun n k hn hk => scal_pn (hf n baseN Bp hn base_pn) (by have := (or_one k hk).1; unfold p25; omega) (or_one k hk).2, fun n k W hn hk hT => ?_⟩
  show Calls Tryd.prog 22 #[fe n, w64 k] W fun e w' => e = .returned (.tuple #[pt (scal (f n baseN) (k ||| 1)), .bool true]) ∧ Below W.heap.size W w'
  have hT0 := Lib.hid hT
  obtain ⟨hk1, hk0⟩ := or_one k hk
  have hor := or_run k hk
  have HF := Lib.hid (fun w hT => F.of (k ||| 1) w hk1 hT)
  have hkp : (k ||| 1) < p25 := by unfold p25; omega
  generalize k ||| 1 = m at *
  have hu := hf n baseN Bp hn base_pn
  have HB := Lib.hid (fun w hT => O.base w hT)
  have HM := Lib.hid (fun w hT => hM n baseN w hn base_pn.lt hT)
  rw [if_pos base_pn.right] at HM
  have hs := scal_pn hu hkp hk0
  generalize f n baseN = u at *
  have hul := hu.lt
  have hmK : m < K256 := Nat.lt_trans hkp p_K
  have HX := Lib.hid (fun w hT => F.mul u.X m w hul.X hmK hT)
  have HYy := Lib.hid (fun w hT => F.mul u.Y m w hul.Y hmK hT)
  have HZ := Lib.hid (fun w hT => F.mul u.Z m w hul.Z hmK hT)
  have HTt := Lib.hid (fun w hT => F.mul u.T m w hul.T hmK hT)
  have hv : scal u m = ⟨u.X * m % p25, u.Y * m % p25, u.Z * m % p25, u.T * m % p25⟩ := rfl
  generalize u.X * m % p25 = sx at *
  generalize u.Y * m % p25 = sy at *
  generalize u.Z * m % p25 = sz at *
  generalize u.T * m % p25 = st at *
  rw [hv] at hs ⊢
  have HR := Lib.hid (fun w hT => O.right ⟨sx, sy, sz, st⟩ w hs.lt hT)
  rw [hs.right] at HR
  have hbuild : pt ⟨sx, sy, sz, st⟩ = .agg (feA sx ++ feA sy ++ feA sz ++ feA st) := pt_is _
  clear hf hM hu hs hul hmK hkp hk0 hk1 hv hT hk
  go_enter Tryd.func22, Tryd.ntmps22
  have hz := (Lies.new W 27 (feA n)).alloc (.cells z16A 26)
  have hr : Lies ((W.alloc (.cells (feA n) 27)).alloc (.cells z16A 26)) (W.heap.size + 1) 26 z16A := heap_alloc2_new W _ _
  have hB := ((Below.refl W.heap.size W).alloc (Nat.le_refl _) (.cells (feA n) 27)).alloc (by simp) (.cells z16A 26)
  go_upto_region 1 with fail
  generalize World.alloc (World.alloc W _) _ = w0 at *
  have hT := hT0.out.on hB
  refine wp_region_made_late 5 7 6 6 _ 26 z16A rfl rfl (by kernel_rfl) (by kernel_rfl) (by kernel_rfl) (alloc_pt rfl) ?_
  simp only [addEdge, List.take_succ_cons, List.take_zero, List.drop_succ_cons, List.drop_zero]
  refine wpQB_sc W.heap.size n hz rfl ?_
  simp only [Act.put, List.setIfInBounds_toArray, List.set_cons_succ, List.set_cons_zero]
  refine wpQB_call 11 #[] (pt baseN) rfl rfl (fun _ => by kernel_rfl) (fun w hb => HB.out w (hT.on hb)) ?_
  simp only [Act.put, List.setIfInBounds_toArray, List.set_cons_succ, List.set_cons_zero]
  refine wpQB_call 20 #[fe n, pt baseN] (.tuple #[pt u, .int .i64 0]) rfl rfl (fun _ => by kernel_rfl) (fun w hb => HM.out w (hT.on hb)) ?_
  simp only [Act.put, List.setIfInBounds_toArray, List.set_cons_succ, List.set_cons_zero]
  refine wpQB_move ?_
  simp only [Act.put, List.setIfInBounds_toArray, List.set_cons_succ, List.set_cons_zero]
  refine wpQB_run (pt u) rfl (fun _ _ => by kernel_rfl) ?_
  simp only [Act.put, List.setIfInBounds_toArray, List.set_cons_succ, List.set_cons_zero]
  refine wpQB_run (.int .i64 0) rfl (fun _ _ => by kernel_rfl) ?_
  simp only [Act.put, List.setIfInBounds_toArray, List.set_cons_succ, List.set_cons_zero]
  refine wpQB_nil ?_
  intro kp w1 hb hkp hy1
  simp only [List.setIfInBounds_toArray, List.set_cons_succ, List.set_cons_zero]
  replace hy1 : Lies w1 kp 26 z16A := hy1
  have hrl := hr.lt
  have hlk : W.heap.size + 1 < kp := by omega
  replace hr := (hr.on hb).rowFar (show W.heap.size + 1 ≠ kp by omega) (ptA u)
  replace hB := below_rowSet (below_on hB hb) (show W.heap.size ≤ kp by omega) (ptA u)
  have hp := hy1.row (ptA u)
  clear hb HM HB hT hz
  go_upto_region 2 with ((with_reducible refine wpL_store kp 26 _ (ptA u) 16 rowPt rfl (ptA_size _) (ptA_one _) hy1 ?_ ?_ ?_); rfl; rfl)
  clear hy1
  generalize World.setRow _ _ _ = w1b at *
  have hT := (hT0.out.on hB).f
  go_upto_region 3 with (first
    | (go_at_call 31; (with_reducible refine (HF.out _ hT).mono ?_); rintro e w2 ⟨rfl, hb⟩; replace hp := hp.on hb; replace hr := hr.on hb; replace hB := below_on hB hb; clear hb)
    | ((with_reducible refine wpL_store w2.heap.size 24 _ (feA m) 4 rowFe ?_ (feA_size _) (feA_one _) (Lies.new w2 _ _) ?_ ?_ ?_); rfl; rfl; rfl))
  have hm := newly_lies w2 24 fe0A (feA m)
  have hnw := newly w2 (.cells fe0A 24) (feA m)
  replace hp := hp.on hnw
  replace hr := hr.on hnw
  replace hB := below_on hB hnw
  clear hnw HF hor hT
  generalize World.setRow _ _ _ = w3 at *
  generalize w2.heap.size = gm at *
  have hT := (hT0.out.on hB).f
  have hpX := pt_X hp
  have hpY := pt_Y hp
  have hpZ := pt_Z hp
  have hpT := pt_T hp
  refine wp_region_made 17 9 _ 26 z16A rfl rfl (by kernel_rfl) (by kernel_rfl) (alloc_pt rfl) ?_
  simp only [List.take_succ_cons, List.take_zero, List.drop_succ_cons, List.drop_zero]
  refine wpQB_run (.pointer (some ⟨kp, 0, none⟩)) rfl (fun _ _ => by kernel_rfl) ?_
  simp only [Act.put, List.setIfInBounds_toArray, List.set_cons_succ, List.set_cons_zero]
  refine wpQB_mid (kp) 0 u.X hpX rfl ?_
  simp only [Act.put, List.setIfInBounds_toArray, List.set_cons_succ, List.set_cons_zero]
  refine wpQB_fe (gm) m hm rfl ?_
  simp only [Act.put, List.setIfInBounds_toArray, List.set_cons_succ, List.set_cons_zero]
  refine wpQB_call 47 #[fe u.X, fe m] (fe sx) rfl rfl (fun _ => by kernel_rfl) (fun w hb => HX.out w (hT.on hb)) ?_
  simp only [Act.put, List.setIfInBounds_toArray, List.set_cons_succ, List.set_cons_zero]
  refine wpQB_run (.pointer (some ⟨kp, 4, none⟩)) rfl (fun _ _ => by kernel_rfl) ?_
  simp only [Act.put, List.setIfInBounds_toArray, List.set_cons_succ, List.set_cons_zero]
  refine wpQB_mid (kp) 4 u.Y hpY rfl ?_
  simp only [Act.put, List.setIfInBounds_toArray, List.set_cons_succ, List.set_cons_zero]
  refine wpQB_fe (gm) m hm rfl ?_
  simp only [Act.put, List.setIfInBounds_toArray, List.set_cons_succ, List.set_cons_zero]
  refine wpQB_call 47 #[fe u.Y, fe m] (fe sy) rfl rfl (fun _ => by kernel_rfl) (fun w hb => HYy.out w (hT.on hb)) ?_
  simp only [Act.put, List.setIfInBounds_toArray, List.set_cons_succ, List.set_cons_zero]
  refine wpQB_run (.pointer (some ⟨kp, 8, none⟩)) rfl (fun _ _ => by kernel_rfl) ?_
  simp only [Act.put, List.setIfInBounds_toArray, List.set_cons_succ, List.set_cons_zero]
  refine wpQB_mid (kp) 8 u.Z hpZ rfl ?_
  simp only [Act.put, List.setIfInBounds_toArray, List.set_cons_succ, List.set_cons_zero]
  refine wpQB_fe (gm) m hm rfl ?_
  simp only [Act.put, List.setIfInBounds_toArray, List.set_cons_succ, List.set_cons_zero]
  refine wpQB_call 47 #[fe u.Z, fe m] (fe sz) rfl rfl (fun _ => by kernel_rfl) (fun w hb => HZ.out w (hT.on hb)) ?_
  simp only [Act.put, List.setIfInBounds_toArray, List.set_cons_succ, List.set_cons_zero]
  refine wpQB_run (.pointer (some ⟨kp, 12, none⟩)) rfl (fun _ _ => by kernel_rfl) ?_
  simp only [Act.put, List.setIfInBounds_toArray, List.set_cons_succ, List.set_cons_zero]
  refine wpQB_mid (kp) 12 u.T hpT rfl ?_
  simp only [Act.put, List.setIfInBounds_toArray, List.set_cons_succ, List.set_cons_zero]
  refine wpQB_fe (gm) m hm rfl ?_
  simp only [Act.put, List.setIfInBounds_toArray, List.set_cons_succ, List.set_cons_zero]
  refine wpQB_call 47 #[fe u.T, fe m] (fe st) rfl rfl (fun _ => by kernel_rfl) (fun w hb => HTt.out w (hT.on hb)) ?_
  simp only [Act.put, List.setIfInBounds_toArray, List.set_cons_succ, List.set_cons_zero]
  refine wpQB_run (.agg (feA sx ++ feA sy ++ feA sz ++ feA st)) rfl (fun _ _ => by kernel_rfl) ?_
  simp only [Act.put, List.setIfInBounds_toArray, List.set_cons_succ, List.set_cons_zero]
  refine wpQB_nil ?_
  intro k4 w4 hb hk4 hy4
  simp only [List.setIfInBounds_toArray, List.set_cons_succ, List.set_cons_zero]
  rw [← hbuild]
  replace hy4 : Lies w4 k4 26 z16A := hy4
  have hrl := hr.lt
  replace hr := (hr.on hb).rowFar (show W.heap.size + 1 ≠ k4 by omega) (ptA ⟨sx, sy, sz, st⟩)
  replace hB := below_rowSet (below_on hB hb) (show W.heap.size ≤ k4 by omega) (ptA ⟨sx, sy, sz, st⟩)
  have hq := hy4.row (ptA ⟨sx, sy, sz, st⟩)
  clear hb HX HYy HZ HTt hT hpX hpY hpZ hpT hp hm hbuild
  go_upto_region 4 with ((with_reducible refine wpL_store k4 26 _ (ptA ⟨sx, sy, sz, st⟩) 16 rowPt rfl (ptA_size _) (ptA_one _) hy4 ?_ ?_ ?_); rfl; rfl)
  clear hy4
  generalize World.setRow _ _ _ = w5 at *
  have hT := hT0.out.on hB
  generalize hvv : (⟨sx, sy, sz, st⟩ : N4) = v at *
  have HVV := Lib.hid hvv
  clear hvv
  refine wp_region_plain_late 6 7 7 (by kernel_rfl) (by kernel_rfl) (by kernel_rfl) ?_
  simp only [addEdge, List.take_succ_cons, List.take_zero, List.drop_succ_cons, List.drop_zero]
  refine wpQg_pt k4 v hq rfl rfl ?_
  simp only [Act.put, List.setIfInBounds_toArray, List.set_cons_succ, List.set_cons_zero]
  refine wpQg_move rfl ?_
  simp only [Act.put, List.setIfInBounds_toArray, List.set_cons_succ, List.set_cons_zero]
  refine wpQg_run (.bool true) rfl (fun _ _ => by kernel_rfl) ?_
  simp only [Act.put, List.setIfInBounds_toArray, List.set_cons_succ, List.set_cons_zero]
  refine wpQg_move rfl ?_
  simp only [Act.put, List.setIfInBounds_toArray, List.set_cons_succ, List.set_cons_zero]
  refine wpQg_pt k4 v hq rfl rfl ?_
  simp only [Act.put, List.setIfInBounds_toArray, List.set_cons_succ, List.set_cons_zero]
  refine wpQg_call 12 #[pt v] (.bool true) rfl rfl (fun _ => by kernel_rfl) (fun w hb => HR.out w (hT.on hb)) ?_
  simp only [Act.put, List.setIfInBounds_toArray, List.set_cons_succ, List.set_cons_zero]
  refine wpQg_run (.bool true) rfl (fun _ _ => by kernel_rfl) ?_
  simp only [Act.put, List.setIfInBounds_toArray, List.set_cons_succ, List.set_cons_zero]
  refine wpQuiet_nil ?_
  intro w6 hb
  replace hr := hr.on hb
  replace hB := below_on hB hb
  clear hb hT HR
  go_wp2_with ((with_reducible refine wpL_store (W.heap.size + 1) 26 _ (ptA v) 16 rowPt rfl (ptA_size _) (ptA_one _) hr ?_ ?_ ?_); rfl; rfl)
  exact bodyPost_ret (results_row_tmp Tryd.results22 rowPt (ptA_size _) (hr.row _) rfl rfl) rfl ⟨by rw [HVV.out]; rfl, below_rowSet hB (by omega) _⟩
end Go.Proofs.YtfleimaoaicolaaDoor.C

/- The points' calls where all points may be; what the statements' walks take. -/
namespace Go.Proofs.YtfleimaoaicolaaDoor.C
open Go.RowKit Go.Sort Go.Proofs.YtfleimaoaicolaaDoor.F
set_option maxRecDepth 100000

/-! ### a point's bytes, parsed -/
def parseT (P : Pt) : N4 := parseN P.y.val (decide (P.x.val % 2 = 1))
theorem text_size (P : Pt) : (textN P).size = 32 := by
  unfold textN
  rw [ByteArray.size]
  simp [leL_length]
theorem text_num (P : Pt) : numLE (textN P).data.toList = P.y.val + two255 * (P.x.val % 2) := by
  unfold textN
  have hy : P.y.val < p25 := P.y.isLt
  rw [show (⟨(leL (P.y.val + two255 * (P.x.val % 2)) 32).toArray⟩ : ByteArray).data.toList = leL (P.y.val + two255 * (P.x.val % 2)) 32 from rfl, numLE_leL, Nat.mod_eq_of_lt]
  have h1 : P.x.val % 2 < 2 := Nat.mod_lt _ (by decide)
  have h2 : (256 : Nat) ^ 32 = 2 * two255 := by decide
  rw [h2]
  unfold p25 at hy
  unfold two255
  omega
theorem text_parts (P : Pt) : numLE (textN P).data.toList % two255 = P.y.val ∧ decide (two255 ≤ numLE (textN P).data.toList) = decide (P.x.val % 2 = 1) := by
  have hy : P.y.val < p25 := P.y.isLt
  have h1 : P.x.val % 2 < 2 := Nat.mod_lt _ (by decide)
  rw [text_num]
  unfold p25 at hy
  unfold two255
  generalize P.x.val % 2 = b at *
  generalize P.y.val = y at *
  refine ⟨by omega, ?_⟩
  by_cases hb : b = 1
  · rw [decide_eq_true hb, decide_eq_true]
    omega
  · rw [decide_eq_false hb, decide_eq_false]
    omega
theorem parseB_on {P : Pt} (h : P.On) : parseB P.y.val (decide (P.x.val % 2 = 1)) = true := by
  have hon : On P.x (z P.y.val) := by rw [z_back]; exact h
  have hx := xOf_is hon
  unfold parseB
  rw [decide_eq_true P.y.isLt, (xB_iff P.y.val).2 ⟨P.x, hon⟩]
  cases hd : decide (P.x.val % 2 = 1) with
  | false => rfl
  | true =>
    rw [hd] at hx
    by_cases h0 : xE P.y.val = 0
    · rw [decide_eq_true_iff, hx] at hd
      unfold xOf at hd
      rw [if_pos rfl, h0] at hd
      exact absurd hd (by decide)
    · rw [decide_eq_false h0]
      rfl
theorem parseT_pn {P : Pt} (h : P.On) : Pn (parseT P) P := by
  have hon : On P.x (z P.y.val) := by rw [z_back]; exact h
  have hx := xOf_is hon
  have h1 := parse_pn (parseB_on h)
  rw [← hx, z_back, z_back] at h1
  exact h1

/-- whatever the points' functions make of points that may be -/
structure Pts (T : World → Prop) where
  f : N4 → N4 → N4
  g : N4 → N4
  m : Nat → N4 → N4
  s : Nat → Nat → N4
  add_pn : ∀ {u v P Q}, Pn u P → Pn v Q → Pn (f u v) (P.add Q)
  add : ∀ {u v P Q} (w : World), Pn u P → Pn v Q → T w → Calls Tryd.prog 18 #[pt u, pt v] w fun e w' => e = .returned (.tuple #[pt (f u v), .int .i64 0]) ∧ Below w.heap.size w w'
  neg_pn : ∀ {u P}, Pn u P → Pn (g u) P.neg
  neg : ∀ {u P} (w : World), Pn u P → T w → Calls Tryd.prog 19 #[pt u] w fun e w' => e = .returned (.tuple #[pt (g u), .int .i64 0]) ∧ Below w.heap.size w w'
  mul_pn : ∀ {n u P}, n < K256 → Pn u P → Pn (m n u) (P.smul n)
  mul : ∀ {n u P} (w : World), n < K256 → Pn u P → T w → Calls Tryd.prog 20 #[fe n, pt u] w fun e w' => e = .returned (.tuple #[pt (m n u), .int .i64 0]) ∧ Below w.heap.size w w'
  same : ∀ {u v P Q} (w : World), Pn u P → Pn v Q → T w → Calls Tryd.prog 17 #[pt u, pt v] w fun e w' => e = .returned (.bool (ptEq P Q)) ∧ Below w.heap.size w w'
  bytes : ∀ {u P} (w : World), Pn u P → T w → Calls Tryd.prog 21 #[pt u] w fun e w' => e = .returned (.tuple #[.string (textN P), .int .i64 0]) ∧ Below w.heap.size w w'
  parse : ∀ {P : Pt} (w : World), P.On → T w → TabR w → Calls Tryd.prog 26 #[.string (textN P)] w fun e w' => e = .returned (.tuple #[pt (parseT P), .int .i64 0]) ∧ Below w.heap.size w w'
  zero : ∀ (w : World), T w → Calls Tryd.prog 10 #[] w fun e w' => e = .returned (pt zeroN) ∧ Below w.heap.size w w'
  base : ∀ (w : World), T w → Calls Tryd.prog 11 #[] w fun e w' => e = .returned (pt baseN) ∧ Below w.heap.size w w'
  right : ∀ {u P} (w : World), Pn u P → T w → Calls Tryd.prog 12 #[pt u] w fun e w' => e = .returned (.bool true) ∧ Below w.heap.size w w'
  some_pn : ∀ {n k}, n < K256 → k < 18446744073709551616 → Pn (s n k) (Bp.smul n)
  some : ∀ {n k} (w : World), n < K256 → k < 18446744073709551616 → T w → Calls Tryd.prog 22 #[fe n, w64 k] w fun e w' => e = .returned (.tuple #[pt (s n k), .bool true]) ∧ Below w.heap.size w w'
  alive : ∀ (w : World), T w → Calls Tryd.prog 16 #[] w fun e w' => e = .returned (.bool true) ∧ Below w.heap.size w w'
theorem pts {T : World → Prop} (F : FieldOk) (O : PointOk) (hTp : ∀ w, T w → PtTab w) : Nonempty (Pts T) := by
  obtain ⟨f, f1, f2⟩ := O.add
  obtain ⟨g, g1, g2⟩ := O.neg
  obtain ⟨m, m1, m2⟩ := O.mul
  obtain ⟨s, s1, s2⟩ := some_any F O
  exact ⟨{
    f := f, g := g, m := m, s := s
    add_pn := fun h k => f1 _ _ _ _ h k
    add := fun {u v P Q} w h k hT => by
      have h2 := f2 u v w h.lt k.lt (hTp _ hT)
      rw [if_pos (by rw [h.right, k.right]; rfl)] at h2
      exact h2
    neg_pn := fun h => g1 _ _ h
    neg := fun {u P} w h hT => by
      have h2 := g2 u w h.lt (hTp _ hT)
      rw [if_pos h.right] at h2
      exact h2
    mul_pn := fun hn h => m1 _ _ _ hn h
    mul := fun {n u P} w hn h hT => by
      have h2 := m2 n u w hn h.lt (hTp _ hT)
      rw [if_pos h.right] at h2
      exact h2
    same := fun {u v P Q} w h k hT => by
      have h2 := O.same u v w h.lt k.lt (hTp _ hT)
      rw [h.same_iff k] at h2
      exact h2
    bytes := fun {u P} w h hT => by
      have h2 := O.bytes u w h.lt (hTp _ hT)
      rw [if_pos h.right, h.of] at h2
      exact h2
    parse := fun {P} w h hT hR => by
      have h2 := O.parse (textN P) w (by rw [text_size]; decide) ⟨hTp _ hT, hR⟩
      rw [if_pos (text_size P), (text_parts P).1, (text_parts P).2, if_pos (parseB_on h)] at h2
      exact h2
    zero := fun w hT => O.zero w (hTp _ hT)
    base := fun w hT => O.base w (hTp _ hT)
    right := fun {u P} w h hT => by
      have h2 := O.right u w h.lt (hTp _ hT)
      rw [h.right] at h2
      exact h2
    some_pn := fun hn hk => s1 _ _ hn hk
    some := fun w hn hk hT => s2 _ _ w hn hk (hTp _ hT)
    alive := fun w hT => cAlive_any O w (hTp _ hT) }⟩
theorem ptEq_self (P : Pt) : ptEq P P = true := (ptEq_iff P P).2 rfl
theorem w64_div (a b : Nat) : w64 (a / b) = .int .u64 ((a : Int) / (b : Int)) := by show Value.int .u64 ((a / b : Nat) : Int) = _; rw [Int.natCast_ediv]
/-- an array of constants -/
theorem wpL_buildV {P : Program} {ops : Array Oper} {rest : List Oper} {a : Act} {w : World} {Q : Exit → Act → World → Prop} {t' : TypeId} {pos : String} {after : Array Edge} {d : Option Tmp} {ty : TypeId} {parts : Array (Nat × Operand)} (cs : Array Value)
    (hb : P.built ty (parts.map fun (i, x) => (i, a.eval x)).toList = some cs) (h : wpList P ops Q rest (a.put d (.agg cs)) w) : wpList P ops Q (⟨d, .build ty parts, t', pos, after, none⟩ :: rest) a w :=
  wpList_build (o := ⟨d, .build ty parts, t', pos, after, none⟩) rfl ty parts rfl (by rw [hb]; rfl) (by rw [hb]; exact h)
/-- a variable that is a whole block is read under a guard -/
theorem wpL_load_g {P : Program} {ops : Array Oper} {rest : List Oper} {a : Act} {w : World} {Q : Exit → Act → World → Prop} {t' : TypeId} {pos : String} {after : Array Edge} {gd : Option (Nat × Bool)} {d : Option Tmp} {x : Tmp} {ty : TypeId} (g : Nat) (t : TypeId) (cs : Array Value) (n : Nat) (hT : RowT P ty n) (hn : cs.size = n) (hg : Lies w g t cs)
    (hw : Region.wanted ⟨d, .load ty (.tmp x), t', pos, after, gd⟩ (yielded ops a.tmps) = true) (hx : a.eval (.tmp x) = .pointer (some ⟨g, 0, none⟩)) (h : wpList P ops Q rest (a.put d (.agg cs)) w) : wpList P ops Q (⟨d, .load ty (.tmp x), t', pos, after, gd⟩ :: rest) a w := by
  obtain ⟨⟨ds, hu, hd⟩, hi⟩ := hT
  unfold wpList
  rw [if_pos hw]
  exact .inl (wp_load_row ty (.tmp x) rfl g hx t cs (0, 0) ds hg hu (by cases ds <;> first | rfl | simp [TypeDesc.isRow] at hd) (by rw [hi, hn]) h)
theorem fe0A_is : fe0A = feA 0 := by unfold feA; rfl
theorem rowSc : RowT Tryd.prog 27 4 := G.rowFe
end Go.Proofs.YtfleimaoaicolaaDoor.C

