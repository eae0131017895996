/- The contract of the reference's Mul. -/
import Derived.Test.YtknpgijapbkebaaDoorGRef
namespace Go.Proofs.YtknpgijapbkebaaDoor.F
open Go.RowKit

set_option maxRecDepth 100000 in
set_option maxHeartbeats 1600000 in
theorem refMul_any (m n : Nat) (W : World) (hm : m < K256) (hn : n < K256) :
    Calls Tryd.prog 14 #[fe m, fe n] W fun e W' => e = .returned (fe ((m * n) % l25)) ∧ Below W.heap.size W W' := by
  have HP := Lib.hid (digits_times m n hm hn)
  have HM := Lib.hid (digits_any m)
  have HN := Lib.hid (digits_any n)
  rw [fe, fe]
  obtain ⟨a0, a1, a2, a3, ha⟩ := fe_four m
  obtain ⟨b0, b1, b2, b3, hb⟩ := fe_four n
  rw [fe, ha] at HM
  rw [fe, hb] at HN
  rw [ha, hb]
  clear ha hb
  go_enter Tryd.func14, Tryd.ntmps14
  have hx := ((Lies.new W 24 #[w64 a0, w64 a1, w64 a2, w64 a3]).alloc (.cells #[w64 b0, w64 b1, w64 b2, w64 b3] 24)).alloc (.cells fe0A 24)
  have hy : Lies ((W.alloc (.cells #[w64 a0, w64 a1, w64 a2, w64 a3] 24)).alloc (.cells #[w64 b0, w64 b1, w64 b2, w64 b3] 24)) (W.heap.size + 1) 24 #[w64 b0, w64 b1, w64 b2, w64 b3] := heap_alloc2_new W _ _
  replace hy := hy.alloc (.cells fe0A 24)
  have hr := lies3 W (.cells #[w64 a0, w64 a1, w64 a2, w64 a3] 24) (.cells #[w64 b0, w64 b1, w64 b2, w64 b3] 24) 24 fe0A
  have hB := (((Below.refl W.heap.size W).alloc (Nat.le_refl _) (.cells #[w64 a0, w64 a1, w64 a2, w64 a3] 24)).alloc (by simp) (.cells #[w64 b0, w64 b1, w64 b2, w64 b3] 24)).alloc (by simp; omega) (.cells fe0A 24)
  go_upto_region 1 with fail
  generalize World.alloc (World.alloc (World.alloc W _) _) _ = w0 at *
  obtain ⟨x0, x1, x2, x3⟩ := hx.four
  obtain ⟨y0, y1, y2, y3⟩ := hy.four
  replace hx := hx.drew
  replace hy := hy.drew
  replace hr := hr.drew
  replace hB := hB.drew
  go_region_with (first
    | (go_at_call 23; first
      | ((with_reducible refine (HM.out _).mono ?_); rintro e w1 ⟨gx, cx, rfl, hcx, hdx, hb⟩; replace hy := hy.on hb; replace hr := hr.on hb; replace hB := below_on hB hb; clear hb x0 x1 x2 x3 y0 y1 y2 y3; obtain ⟨y0, y1, y2, y3⟩ := hy.four)
      | ((with_reducible refine (HN.out _).mono ?_); rintro e w2 ⟨gy, cy, rfl, hcy, hdy, hb⟩; replace hr := hr.on hb; replace hB := below_on hB hb; replace hdx := hdx.on hb; clear hb))
    | (go_at_call 27; refine (HP.out gx cx gy cy _ hdx hdy).mono ?_; rintro e w3 ⟨r, gr, cr, rfl, r1, r2, r3, r4, r5, hb⟩; replace hr := hr.on hb; replace hB := below_on hB hb; clear hb)
    | (go_at_call 22; refine (val_fold r (m * n) _ gr cr r2 r1 r3 r4 r5).mono ?_; rintro e w4 ⟨rfl, hb⟩; replace hr := hr.on hb; replace hB := below_on hB hb; clear hb; have hst := hr.storeFe ((m * n) % l25); have hsz := feA_size ((m * n) % l25)))
  all_goals
    go_wp2_with fail
    exact bodyPost_ret (results_row Tryd.results14 rowFe (feA_size _) (hr.row _) rfl) rfl ⟨rfl, below_rowSet hB (by omega) _⟩
end Go.Proofs.YtknpgijapbkebaaDoor.F
