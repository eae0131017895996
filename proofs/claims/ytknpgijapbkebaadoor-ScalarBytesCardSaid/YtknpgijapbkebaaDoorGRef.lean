/- The contracts of the reference's Least, Add, Sub and Mul. -/
import Derived.Test.YtknpgijapbkebaaDoorGFe
import Derived.Test.YtknpgijapbkebaaDoorGLeft
import Derived.Deep.RegionWith
import Derived.Deep.CutRange
import Derived.Deep.WholeRow
namespace Go.Proofs.YtknpgijapbkebaaDoor.F
open Go.RowKit

theorem lies3 (w : World) (a b : Obj) (t : TypeId) (cs : Array Value) : Lies (((w.alloc a).alloc b).alloc (.cells cs t)) (w.heap.size + 2) t cs := by
  have h := Lies.new ((w.alloc a).alloc b) t cs
  have e : ((w.alloc a).alloc b).heap.size = w.heap.size + 2 := by simp
  rwa [e] at h
abbrev fe0A : Array Value := #[.int .u64 0, .int .u64 0, .int .u64 0, .int .u64 0]
theorem digits_fold (n : Nat) (h : n < K256) (W : World) (g cap : Nat) (hc : 16 ≤ cap) (hd : Dig W g 0 (dgL n 16)) :
    Calls Tryd.prog 22 #[.slice (some ⟨g, 0, none⟩) 16 cap] W fun e W' => e = .returned (fe (n % l25)) ∧ Below W.heap.size W W' := by
  have hl := dgL_length n 16
  have hf := left_any (dgL n 16) g 0 cap W hd (by omega) (by omega) (dgL_dg n 16)
  rw [hl, dgL_full h] at hf
  exact hf

set_option maxRecDepth 100000 in
set_option maxHeartbeats 800000 in
theorem refLeast_any (n : Nat) (W : World) (hn : n < K256) :
    Calls Tryd.prog 10 #[fe n] W fun e W' => e = .returned (fe (n % l25)) ∧ Below W.heap.size W W' := by
  have HF := Lib.hid (digits_fold n hn)
  go_enter Tryd.func10, Tryd.ntmps10
  have hx := (Lies.new W 24 (feA n)).alloc (.cells fe0A 24)
  have hr : Lies ((W.alloc (.cells (feA n) 24)).alloc (.cells fe0A 24)) (W.heap.size + 1) 24 fe0A := heap_alloc2_new W _ _
  have hB := ((Below.refl W.heap.size W).alloc (Nat.le_refl _) (.cells (feA n) 24)).alloc (by simp) (.cells fe0A 24)
  go_upto_region 1 with fail
  generalize World.alloc (World.alloc W _) _ = w0 at *
  go_wp2_with (first
    | ((with_reducible refine wpL_load W.heap.size 24 (feA n) 4 rowFe rfl hx ?_ ?_); rfl)
    | (go_at_call 23; refine (digits_any n _).mono ?_; rintro e w1 ⟨g, cap, rfl, hc, hd, hb⟩; replace hr := hr.on hb; replace hB := below_on hB hb; clear hb)
    | (go_at_call 22; refine (HF.out _ g cap hc hd).mono ?_; rintro e w2 ⟨rfl, hb⟩; replace hr := hr.on hb; replace hB := below_on hB hb; clear hb)
    | ((with_reducible refine wpL_store (W.heap.size + 1) 24 _ (feA (n % l25)) 4 rowFe rfl (feA_size _) (feA_one _) hr ?_ ?_ ?_); rfl; rfl))
  exact bodyPost_ret (results_row Tryd.results10 rowFe (feA_size _) (hr.row _) rfl) rfl ⟨rfl, below_rowSet hB (Nat.le_succ _) _⟩

/-- digits of a sum or a product, folded -/
theorem val_fold (r : List Nat) (v : Nat) (W : World) (g cap : Nat) (hl : r.length ≤ 100) (hc : r.length ≤ cap) (hd : Dig W g 0 r) (dr : Dg r) (hv : val r = v) :
    Calls Tryd.prog 22 #[.slice (some ⟨g, 0, none⟩) r.length cap] W fun e W' => e = .returned (fe (v % l25)) ∧ Below W.heap.size W W' := by
  subst hv
  exact left_any r g 0 cap W hd hl hc dr
theorem digits_plus (m n : Nat) (hm : m < K256) (hn : n < K256) (gx cx gy cy : Nat) (W : World) (hx : Dig W gx 0 (dgL m 16)) (hy : Dig W gy 0 (dgL n 16)) :
    Calls Tryd.prog 25 #[.slice (some ⟨gx, 0, none⟩) 16 cx, .slice (some ⟨gy, 0, none⟩) 16 cy] W fun e W' => ∃ r g' cap', e = .returned (.slice (some ⟨g', 0, none⟩) r.length cap') ∧ r.length ≤ cap' ∧ r.length ≤ 100 ∧ Dig W' g' 0 r ∧ Dg r ∧ val r = m + n ∧ Below W.heap.size W W' := by
  have hl := dgL_length m 16
  have hl2 := dgL_length n 16
  have h := plus_any (dgL m 16) (dgL n 16) gx 0 cx gy 0 cy W hx hy (by omega) (by omega) (dgL_dg m 16) (dgL_dg n 16)
  rw [hl, hl2, dgL_full hm, dgL_full hn] at h
  refine h.mono ?_
  rintro e W' ⟨r, g', cap', rfl, h1, h2, h3, h4, h5, h6, h7⟩
  exact ⟨r, g', cap', rfl, h1, by omega, h3, h4, h6, h7⟩
theorem digits_times (m n : Nat) (hm : m < K256) (hn : n < K256) (gx cx gy cy : Nat) (W : World) (hx : Dig W gx 0 (dgL m 16)) (hy : Dig W gy 0 (dgL n 16)) :
    Calls Tryd.prog 27 #[.slice (some ⟨gx, 0, none⟩) 16 cx, .slice (some ⟨gy, 0, none⟩) 16 cy] W fun e W' => ∃ r g' cap', e = .returned (.slice (some ⟨g', 0, none⟩) r.length cap') ∧ r.length ≤ cap' ∧ r.length ≤ 100 ∧ Dig W' g' 0 r ∧ Dg r ∧ val r = m * n ∧ Below W.heap.size W W' := by
  have hl := dgL_length m 16
  have hl2 := dgL_length n 16
  have h := times_any (dgL m 16) (dgL n 16) gx 0 cx gy 0 cy W hx hy (by omega) (by omega) (dgL_dg m 16) (dgL_dg n 16)
  rw [hl, hl2, dgL_full hm, dgL_full hn] at h
  refine h.mono ?_
  rintro e W' ⟨r, g', cap', rfl, h1, h2, h3, h4, h5, h6, h7⟩
  exact ⟨r, g', cap', rfl, h1, by omega, h3, h4, h6, h7⟩

theorem Lies.four {w : World} {g t : Nat} {x0 x1 x2 x3 : Value} (h : Lies w g t #[x0, x1, x2, x3]) : w.cell? ⟨g, 0, none⟩ = some x0 ∧ w.cell? ⟨g, 1, none⟩ = some x1 ∧ w.cell? ⟨g, 2, none⟩ = some x2 ∧ w.cell? ⟨g, 3, none⟩ = some x3 := ⟨h.cell 0, h.cell 1, h.cell 2, h.cell 3⟩
theorem fe_four (n : Nat) : ∃ a b c d : Nat, feA n = #[w64 a, w64 b, w64 c, w64 d] := ⟨_, _, _, _, rfl⟩

end Go.Proofs.YtknpgijapbkebaaDoor.F
