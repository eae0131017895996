/- The contracts of the reference's Read, at any length, Wide and Below. -/
import Derived.Test.YtknpgijapbkebaaDoorGRefBytes
namespace Go.Proofs.YtknpgijapbkebaaDoor.F
open Go.RowKit

set_option maxRecDepth 100000 in
set_option maxHeartbeats 800000 in
theorem read_gen (s : ByteArray) (hs : s.size ≤ 150) (W : World) :
    Calls Tryd.prog 30 #[.string s] W fun e W' => ∃ g cap, e = .returned (.slice (some ⟨g, 0, none⟩) ((s.size + 1) / 2) cap) ∧ (s.size + 1) / 2 ≤ cap ∧ Dig W' g 0 (rdL s.data.toList ((s.size + 1) / 2)) ∧ Below W.heap.size W W' := by
  obtain ⟨i0, hi, hz0, hz1, hz2⟩ := info_parts info3
  obtain ⟨K, hK⟩ : ∃ K, (s.size + 1) / 2 = K := ⟨_, rfl⟩
  rw [hK]
  have HK : Hid ((s.size + 1) / 2 = K) := Lib.hid hK
  have hK1 : 2 * K ≤ s.size + 1 := by omega
  have hK2 : s.size ≤ 2 * K := by omega
  clear hK
  go_enter Tryd.func30, Tryd.ntmps30
  go_wp2_with fail
  go_loopw [3, 4] (fun ox ix wr => ∃ k g cap : Nat, k ≤ K ∧ ix = .int .i64 ((2 * k : Nat) : Int) ∧ ox = .slice (some ⟨g, 0, none⟩) k cap ∧ wr.ownsRow W.heap.size 3 1 (.slice (some ⟨g, 0, none⟩) k cap) k ((rdL s.data.toList k).map i64) ∧ Below W.heap.size W wr) (fun _ ix _ => s.size + 1 - (intOf ix).toNat)
  case atStart => exact ⟨0, _, _, by omega, rfl, rfl, own_empty (Lies.new W _ _) (Nat.le_refl _), (Below.refl _ _).alloc (Nat.le_refl _) _⟩
  case round =>
    obtain ⟨k, g, cap, hk, rfl, rfl, ho, hB⟩ := hrel
    have hsz := hB.size
    by_cases hlt : k < K
    · obtain ⟨i, hi2⟩ : ∃ i, 2 * k = i := ⟨_, rfl⟩
      have h1 : i < s.size := by omega
      have b1 := u8_lt s[i]
      rw [hi2]
      by_cases h2 : i + 1 < s.size
      · have b2 := u8_lt s[i + 1]
        have HS : Hid (rdL s.data.toList (k + 1) = rdL s.data.toList k ++ [(s[i]).toNat + 256 * (s[i + 1]).toNat]) := Lib.hid (by
          rw [rdL, hi2, List.getD_eq_getElem?_getD, List.getD_eq_getElem?_getD, List.getElem?_eq_getElem (by simpa using h1), List.getElem?_eq_getElem (by simpa using h2)]
          rfl)
        have hcast : Value.int .i64 (((s[i]).toNat : Int) + 256 * ((s[i + 1]).toNat : Int)) = i64 ((s[i]).toNat + 256 * (s[i + 1]).toNat) := val_int (by omega)
        go_wp2_with ((with_reducible refine wpL_append W.heap.size 3 i0 (.int .i64 0) 8 Tryd.underlying41 hi hz0 hz1 hz2 rfl _ k _ (ho.alloc _) _ _ (Lies.new _ _ _) rfl (by unfold maxLen; omega) (by omega) (by simp; omega) ?_ ?_ ?_); rfl; rfl; intro g6 cap6 w6 ho6 hgrow6)
        go_roundw
        case rel => exact ⟨k + 1, g6, cap6, by omega, val_int (by omega), rfl, by rw [HS.out, List.map_append]; exact ho6, (hB.alloc hsz _).grown hgrow6 (by simp; omega) (fun j hj => (ho.lt j hj).1)⟩
        case measure => simp [intOf]; omega
      · have HS : Hid (rdL s.data.toList (k + 1) = rdL s.data.toList k ++ [(s[i]).toNat]) := Lib.hid (by
          rw [rdL, hi2, List.getD_eq_getElem?_getD, List.getD_eq_getElem?_getD, List.getElem?_eq_getElem (by simpa using h1), List.getElem?_eq_none (by simpa using h2)]
          rfl)
        have h2i : ¬ (i : Int) + 1 < (s.size : Int) := by omega
        go_wp2_with ((with_reducible refine wpL_append W.heap.size 3 i0 (.int .i64 0) 8 Tryd.underlying41 hi hz0 hz1 hz2 rfl _ k _ (ho.alloc _) _ _ (Lies.new _ _ _) rfl (by unfold maxLen; omega) (by omega) (by simp; omega) ?_ ?_ ?_); rfl; rfl; intro g6 cap6 w6 ho6 hgrow6)
        go_roundw
        case rel => exact ⟨k + 1, g6, cap6, by omega, val_int (by omega), rfl, by rw [HS.out, List.map_append]; exact ho6, (hB.alloc hsz _).grown hgrow6 (by simp; omega) (fun j hj => (ho.lt j hj).1)⟩
        case measure => simp [intOf]; omega
    · obtain rfl : k = K := by omega
      have hend : ¬ ((2 * k : Nat) : Int) < (s.size : Int) := by omega
      go_wp2_with fail
      go_ret
      exact ⟨g, cap, rfl, own_cap ho, own_dig ho, hB⟩

set_option maxRecDepth 100000 in
set_option maxHeartbeats 800000 in
theorem refWide_any (s : ByteArray) (hs : s.size ≤ 150) (W : World) :
    Calls Tryd.prog 19 #[.string s] W fun e W' => e = .returned (fe (numLE s.data.toList % l25)) ∧ Below W.heap.size W W' := by
  have hl : s.data.toList.length = s.size := by rw [← Lib.size_eq]
  have HR := Lib.hid (fun w => read_gen s hs w)
  have HL := Lib.hid (fun g cap w (hc : (s.size + 1) / 2 ≤ cap) (hd : Dig w g 0 (rdL s.data.toList ((s.size + 1) / 2))) => by
    have h := left_any (rdL s.data.toList ((s.size + 1) / 2)) g 0 cap w hd (by rw [rdL_length]; omega) (by rw [rdL_length]; exact hc) (rdL_dg _ _)
    rw [rdL_length, rdL_all _ _ (by omega)] at h
    exact h)
  clear hl
  obtain ⟨V, hV⟩ : ∃ V, numLE s.data.toList % l25 = V := ⟨_, rfl⟩
  rw [hV] at HL ⊢
  clear hV
  go_enter Tryd.func19, Tryd.ntmps19
  have hr := Lies.new W 24 fe0A
  have hB := (Below.refl W.heap.size W).alloc (Nat.le_refl _) (.cells fe0A 24)
  go_upto_region 1 with fail
  generalize World.alloc W _ = w0 at *
  go_wp2_with (first
    | (go_at_call 30; refine (HR.out _).mono ?_; rintro e w1 ⟨g, cap, rfl, hc, hd, hb⟩; replace hr := hr.on hb; replace hB := below_on hB hb; clear hb)
    | (go_at_call 22; refine (HL.out g cap _ hc hd).mono ?_; rintro e w2 ⟨rfl, hb⟩; replace hr := hr.on hb; replace hB := below_on hB hb; clear hb)
    | ((with_reducible refine wpL_store W.heap.size 24 _ (feA V) 4 rowFe rfl (feA_size _) (feA_one _) hr ?_ ?_ ?_); rfl; rfl))
  exact bodyPost_ret (results_row Tryd.results19 rowFe (feA_size _) (hr.row _) rfl) rfl ⟨rfl, below_rowSet hB (Nat.le_refl _) _⟩
end Go.Proofs.YtknpgijapbkebaaDoor.F
