/- The contract of the reference's left: what digits leave, divided by L. -/
import Derived.Test.YtknpgijapbkebaaDoorGOrder
import Derived.Test.YtknpgijapbkebaaDoorGFe
namespace Go.Proofs.YtknpgijapbkebaaDoor.F
open Go.RowKit

theorem l25_pos : 0 < l25 := by decide

set_option maxRecDepth 100000 in
set_option maxHeartbeats 800000 in
theorem left_any (d : List Nat) (g o cap : Nat) (W : World) (hd : Dig W g o d) (hl : d.length ≤ 100) (_hc : d.length ≤ cap) (dd : Dg d) :
    Calls Tryd.prog 22 #[.slice (some ⟨g, o, none⟩) d.length cap] W fun e W' => e = .returned (fe (val d % l25)) ∧ Below W.heap.size W W' := by
  have HD := Lib.hid dd
  obtain ⟨V, hV⟩ : ∃ V, val d % l25 = V := ⟨_, rfl⟩
  rw [hV]
  have HV := Lib.hid hV
  clear hV
  go_enter Tryd.func22, Tryd.ntmps22
  have hr := Lies.new W 24 (#[.int .u64 0, .int .u64 0, .int .u64 0, .int .u64 0] : Array Value)
  have hba := (Below.refl W.heap.size W).alloc (Nat.le_refl _) (.cells (#[.int .u64 0, .int .u64 0, .int .u64 0, .int .u64 0] : Array Value) 24)
  replace hd := hd.on hba
  have hB := hba
  clear hba dd
  go_upto_region 1 with fail
  generalize World.alloc W _ = w0 at *
  go_wp2_with (first
    | (go_at_call 34; refine (order_any _).mono ?_; rintro e w1 ⟨m, gm, cm, rfl, m1, m2, m3, m4, m5, hb⟩; replace hd := hd.on hb; replace hr := hr.on hb; replace hB := below_on hB hb; clear hb)
    | (go_at_call 33; refine (mod_any d m g o cap gm 0 cm _ hd m2 hl (by omega) HD.out m3 m4 (by rw [m5]; exact l25_pos)).mono ?_; rintro e w2 ⟨r, gr, cr, rfl, r1, r2, r3, r4, hb⟩; replace hr := hr.on hb; replace hB := below_on hB hb; clear hb; rw [m5, HV.out] at r4)
    | (go_at_call 32; have HW := words_any r gr 0 cr w2 r2 (by omega) r3; rw [r4] at HW; refine HW.mono ?_; rintro e w3 ⟨rfl, hb⟩; replace hr := hr.on hb; replace hB := below_on hB hb; clear hb)
    | ((with_reducible refine wpL_store W.heap.size 24 _ (feA V) 4 rowFe rfl (feA_size _) (feA_one _) hr ?_ ?_ ?_); rfl; rfl))
  exact bodyPost_ret (results_row Tryd.results22 rowFe (feA_size _) (hr.row _) rfl) rfl ⟨rfl, below_rowSet hB (Nat.le_refl _) _⟩
end Go.Proofs.YtknpgijapbkebaaDoor.F
