/- The contracts of the program's Write and Sum. -/
import Derived.Test.YtmebiidgeaalpaaDoorTCalls
namespace Go.Proofs.YtmebiidgeaalpaaDoor.T
open Go.RowKit

theorem results_row_tmp {P : Program} {fn : Func} {p u : Tmp} {ty : TypeId} {n : Nat} {w : World} {g : Nat} {t : TypeId} {cs : Array Value} {tmps : Array Value} {x : Value} (h : fn.results = #[.cell p ty, .tmp u]) (hT : RowT P ty n) (hn : cs.size = n) (hg : Lies w g t cs) (hp : tmps.getD p undef = .pointer (some ⟨g, 0, none⟩)) (hx : tmps.getD u undef = x) :
    (results fn tmps).run P w = .ok (.tuple #[.agg cs, x]) w := by
  obtain ⟨⟨d, hu, hd⟩, hi⟩ := hT
  have hl := run_loadVar_row (P := P) w g t ty cs (0, 0) d hg hu (by cases d <;> first | rfl | simp [TypeDesc.isRow] at hd) (by rw [hi, hn])
  have hp' : tmps[p]?.getD undef = .pointer (some ⟨g, 0, none⟩) := by simpa using hp
  have hx' : tmps[u]?.getD undef = x := by simpa using hx
  simp [results, h, hp', hx', asAddr, hl]

set_option maxHeartbeats 400000 in
theorem write_no (H : H8) (buf s : ByteArray) (n : Nat) (w : World) (hb : buf.size ≤ 140737488355328) (hr : rightB buf.size n = false) :
    Calls Tryd.prog 18 #[.agg (sumA H buf n), .string s] w fun e w' => e = .returned (.tuple #[.agg (sumA h8zero noBytes 0), .int .i64 1]) ∧ Below w.heap.size w w' := by
  have HR := Lib.hid hr
  clear hr
  unfold sumA
  go_enter Tryd.func18, Tryd.ntmps18
  go_wp2_with (first | (go_at_call 24; refine (workOn_any H buf n _).mono ?_; rintro e w1 ⟨g, rfl, hg1, hl1, hb1⟩; have hz : Lies w1 (w.heap.size + 1) 28 (sumA h8zero noBytes 0) := Lies.on (heap_alloc2_new w _ _) hb1; replace hb1 := (((Below.refl _ w).alloc (Nat.le_refl _) _).alloc (by simp) _).trans (hb1.mono (by simp; omega)); simp at hg1) | (go_at_call 29; refine (right_any g H buf n _ (by omega) hl1).mono ?_; rintro e w2 ⟨rfl, hb2⟩; rw [HR.out]; replace hl1 := hl1.on hb2; replace hz := hz.on hb2; replace hb1 := below_on hb1 hb2; clear hb2) | ((with_reducible refine wpL_store (w.heap.size + 1) 28 _ (sumA h8zero noBytes 0) 10 row29 ?_ ?_ ?_ hz ?_ ?_ ?_); rfl; rfl; exact sumA_one _ _ _; rfl; rfl))
  exact bodyPost_ret (results_row_tmp Tryd.results18 row29 rfl (hz.row _) rfl rfl) rfl ⟨rfl, below_rowSet hb1 (by omega) _⟩

set_option maxHeartbeats 400000 in
theorem write_long (H : H8) (buf s : ByteArray) (n : Nat) (w : World) (hr : rightB buf.size n = true) (hs : s.size ≤ 140737488355328) (hn : 1099511627776 < n + s.size) :
    Calls Tryd.prog 18 #[.agg (sumA H buf n), .string s] w fun e w' => e = .returned (.tuple #[.agg (sumA h8zero noBytes 0), .int .i64 2]) ∧ Below w.heap.size w w' := by
  obtain ⟨hr1, hr2, hr3⟩ := right_of hr
  have HR := Lib.hid hr
  have HR2 := Lib.hid hr2
  clear hr hr2
  unfold sumA
  go_enter Tryd.func18, Tryd.ntmps18
  go_wp2_with (first | (go_at_call 24; refine (workOn_any H buf n _).mono ?_; rintro e w1 ⟨g, rfl, hg1, hl1, hb1⟩; have hz : Lies w1 (w.heap.size + 1) 28 (sumA h8zero noBytes 0) := Lies.on (heap_alloc2_new w _ _) hb1; replace hb1 := (((Below.refl _ w).alloc (Nat.le_refl _) _).alloc (by simp) _).trans (hb1.mono (by simp; omega)); simp at hg1) | (go_at_call 29; refine (right_any g H buf n _ (by omega) hl1).mono ?_; rintro e w2 ⟨rfl, hb2⟩; rw [HR.out]; replace hl1 := hl1.on hb2; replace hz := hz.on hb2; replace hb1 := below_on hb1 hb2; clear hb2; have k9 := hl1.c9) | ((with_reducible refine wpL_store (w.heap.size + 1) 28 _ (sumA h8zero noBytes 0) 10 row29 ?_ ?_ ?_ hz ?_ ?_ ?_); rfl; rfl; exact sumA_one _ _ _; rfl; rfl))
  exact bodyPost_ret (results_row_tmp Tryd.results18 row29 rfl (hz.row _) rfl rfl) rfl ⟨rfl, below_rowSet hb1 (by omega) _⟩

set_option maxHeartbeats 800000 in
theorem write_yes (H : H8) (buf s : ByteArray) (n : Nat) (w : World) (hr : rightB buf.size n = true) (hn : n + s.size ≤ 1099511627776) (hT : Tab w) (hok : H.Ok) :
    Calls Tryd.prog 18 #[.agg (sumA H buf n), .string s] w fun e w' => e = .returned (.tuple #[.agg (sumA (feed H (buf.data.toList ++ s.data.toList)) (bytesOf (tailB (buf.data.toList ++ s.data.toList))) (n + s.size)), .int .i64 0]) ∧ Below w.heap.size w w' := by
  obtain ⟨hr1, hr2, hr3⟩ := right_of hr
  have h2 := hT.two
  have HR := Lib.hid hr
  have HR2 := Lib.hid hr2
  clear hr hr2
  have HT := Lib.hid hT
  clear hT
  unfold sumA
  go_enter Tryd.func18, Tryd.ntmps18
  go_wp2_with (first | (go_at_call 24; refine (workOn_any H buf n _).mono ?_; rintro e w1 ⟨g, rfl, hg1, hl1, hb1⟩; have hz : Lies w1 (w.heap.size + 1) 28 (sumA h8zero noBytes 0) := Lies.on (heap_alloc2_new w _ _) hb1; replace hb1 := (((Below.refl _ w).alloc (Nat.le_refl _) _).alloc (by simp) _).trans (hb1.mono (by simp; omega)); simp at hg1) | (go_at_call 29; refine (right_any g H buf n _ (by omega) hl1).mono ?_; rintro e w2 ⟨rfl, hb2⟩; rw [HR.out]; replace hl1 := hl1.on hb2; replace hz := hz.on hb2; replace hb1 := below_on hb1 hb2; clear hb2; have k9 := hl1.c9) | (go_at_call 25; refine (take_any g H buf s n _ hr3 (by omega) (by omega) (by omega) (HT.out.below hb1) hl1 hok).mono ?_; rintro e w3 ⟨rfl, hl3, hO3⟩; replace hz := hz.only hO3 (by intro e; injection e; omega); replace hb1 := hO3.below hb1 hb1.size (by omega)) | ((with_reducible refine wpL_load g 58 _ 10 row29 ?_ hl3 ?_ ?_); rfl; rfl) | ((with_reducible refine wpL_store (w.heap.size + 1) 28 _ (sumA (feed H (buf.data.toList ++ s.data.toList)) (bytesOf (tailB (buf.data.toList ++ s.data.toList))) (n + s.size)) 10 row29 ?_ ?_ ?_ hz ?_ ?_ ?_); rfl; rfl; exact sumA_one _ _ _; rfl; rfl))
  exact bodyPost_ret (results_row_tmp Tryd.results18 row29 rfl (hz.row _) rfl rfl) rfl ⟨rfl, below_rowSet hb1 (by omega) _⟩
end Go.Proofs.YtmebiidgeaalpaaDoor.T
