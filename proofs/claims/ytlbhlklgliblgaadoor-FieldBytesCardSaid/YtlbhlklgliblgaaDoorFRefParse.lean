/- The contracts of the reference's Read and Parse: bytes as a number, the lowest first. -/
import Derived.Test.YtlbhlklgliblgaaDoorFRefBytes
import Derived.Test.YtlbhlklgliblgaaDoorFReck
namespace Go.Proofs.YtlbhlklgliblgaaDoor.F
open Go.RowKit

set_option maxRecDepth 100000 in
set_option maxHeartbeats 800000 in
theorem read_any (s : ByteArray) (hs : s.size = 32) (W : World) :
    Calls Tryd.prog 37 #[.string s] W fun e W' => ∃ g cap, e = .returned (.slice (some ⟨g, 0, none⟩) 16 cap) ∧ 16 ≤ cap ∧ Dig W' g 0 (rdL s.data.toList 16) ∧ Below W.heap.size W W' := by
  obtain ⟨i0, hi, hz0, hz1, hz2⟩ := info_parts info3
  go_enter Tryd.func37, Tryd.ntmps37
  go_wp2_with fail
  go_loopw [3, 4] (fun ox ix wr => ∃ k g cap : Nat, k ≤ 16 ∧ ix = .int .i64 ((2 * k : Nat) : Int) ∧ ox = .slice (some ⟨g, 0, none⟩) k cap ∧ wr.ownsRow W.heap.size 3 1 (.slice (some ⟨g, 0, none⟩) k cap) k ((rdL s.data.toList k).map i64) ∧ Below W.heap.size W wr) (fun _ ix _ => 32 - (intOf ix).toNat)
  case atStart => exact ⟨0, _, _, by omega, rfl, rfl, own_empty (Lies.new W _ _) (Nat.le_refl _), (Below.refl _ _).alloc (Nat.le_refl _) _⟩
  case round =>
    obtain ⟨k, g, cap, hk, rfl, rfl, ho, hB⟩ := hrel
    have hsz := hB.size
    by_cases hlt : k < 16
    · obtain ⟨i, hi2⟩ : ∃ i, 2 * k = i := ⟨_, rfl⟩
      have h1 : i < s.size := by omega
      have h2 : i + 1 < s.size := by omega
      have b1 := u8_lt s[i]
      have b2 := u8_lt s[i + 1]
      have HS : Hid (rdL s.data.toList (k + 1) = rdL s.data.toList k ++ [(s[i]).toNat + 256 * (s[i + 1]).toNat]) := Lib.hid (by
        rw [rdL, hi2, List.getD_eq_getElem?_getD, List.getD_eq_getElem?_getD, List.getElem?_eq_getElem (by simpa using h1), List.getElem?_eq_getElem (by simpa using h2)]
        rfl)
      rw [hi2]
      have hcast : Value.int .i64 (((s[i]).toNat : Int) + 256 * ((s[i + 1]).toNat : Int)) = i64 ((s[i]).toNat + 256 * (s[i + 1]).toNat) := val_int (by omega)
      go_wp2_with ((with_reducible refine wpL_append W.heap.size 3 i0 (.int .i64 0) 8 Tryd.underlying42 hi hz0 hz1 hz2 rfl _ k _ (ho.alloc _) _ _ (Lies.new _ _ _) rfl (by unfold maxLen; omega) (by omega) (by simp; omega) ?_ ?_ ?_); rfl; rfl; intro g6 cap6 w6 ho6 hgrow6)
      go_roundw
      case rel => exact ⟨k + 1, g6, cap6, by omega, val_int (by omega), rfl, by rw [HS.out, List.map_append]; exact ho6, (hB.alloc hsz _).grown hgrow6 (by simp; omega) (fun j hj => (ho.lt j hj).1)⟩
      case measure => simp [intOf]; omega
    · obtain rfl : k = 16 := by omega
      go_wp2_with fail
      go_ret
      exact ⟨g, cap, rfl, own_cap ho, own_dig ho, hB⟩

theorem words_trim (l : List UInt8) (hl : l.length = 32) (g cap : Nat) (W : World) (hd : Dig W g 0 (rdL l 16)) :
    Calls Tryd.prog 38 #[.slice (some ⟨g, 0, none⟩) (trimL (rdL l 16)).length cap] W fun e W' => e = .returned (fe (numLE l)) ∧ Below W.heap.size W W' := by
  have h := words_any (trimL (rdL l 16)) g 0 cap W (hd.take _) (Nat.le_trans (trimL_le _) (by rw [rdL_length]; decide)) (rdL_dg l 16).trim
  rw [val_trim, rdL_full l hl] at h
  exact h
theorem less_trim (l : List UInt8) (hl : l.length = 32) (g cap gp cp : Nat) (W : World) (hd : Dig W g 0 (rdL l 16)) (hp : Dig W gp 0 primeL) :
    Calls Tryd.prog 39 #[.slice (some ⟨g, 0, none⟩) (trimL (rdL l 16)).length cap, .slice (some ⟨gp, 0, none⟩) 16 cp] W fun e W' => e = .returned (.bool (decide (numLE l < p25))) ∧ Below W.heap.size W W' := by
  have hle := trimL_le (rdL l 16)
  rw [rdL_length] at hle
  have h := less_any (trimL (rdL l 16)) primeL g 0 cap gp 0 cp W (hd.take _) hp (by omega) (rdL_dg l 16).trim prime_dg (trim_tr _) prime_tr
  rw [val_trim, rdL_full l hl, prime_val] at h
  exact h

set_option maxRecDepth 100000 in
set_option maxHeartbeats 800000 in
theorem refParse_any (s : ByteArray) (hs : s.size = 32) (W : World) :
    Calls Tryd.prog 22 #[.string s] W fun e W' => e = .returned (.tuple #[fe (numLE s.data.toList), .bool (decide (numLE s.data.toList < p25))]) ∧ Below W.heap.size W W' := by
  have hl : s.data.toList.length = 32 := by rw [← Lib.size_eq]; exact hs
  have HR := Lib.hid (fun w => read_any s hs w)
  have HT := Lib.hid (fun g cap w (hc : 16 ≤ cap) (hd : Dig w g 0 (rdL s.data.toList 16)) => by
    have h := trim_any (rdL s.data.toList 16) g 0 cap w hd (by rw [rdL_length]; decide) (by rw [rdL_length]; exact hc)
    rw [rdL_length] at h
    exact h)
  have HW := Lib.hid (words_trim s.data.toList hl)
  have HL := Lib.hid (less_trim s.data.toList hl)
  clear hl
  go_enter Tryd.func22, Tryd.ntmps22
  have hr := Lies.new W 24 fe0A
  have hB := (Below.refl W.heap.size W).alloc (Nat.le_refl _) (.cells fe0A 24)
  go_upto_region 1 with fail
  generalize World.alloc W _ = w0 at *
  go_wp2_with (first
    | (go_at_call 37; refine (HR.out _).mono ?_; rintro e w1 ⟨g, cap, rfl, hc, hd, hb⟩; replace hr := hr.on hb; replace hB := below_on hB hb; clear hb)
    | (go_at_call 33; refine (HT.out g cap _ hc hd).mono ?_; rintro e w2 ⟨rfl, rfl⟩)
    | (go_at_call 38; refine (HW.out g cap _ hd).mono ?_; rintro e w3 ⟨rfl, hb⟩; replace hr := hr.on hb; replace hd := hd.on hb; replace hB := below_on hB hb; clear hb)
    | (go_at_call 32; refine (prime_any _).mono ?_; rintro e w4 ⟨gp, cp, rfl, _, hp, hb⟩; replace hr := hr.on hb; replace hd := hd.on hb; replace hB := below_on hB hb; clear hb)
    | (go_at_call 39; refine (HL.out g cap gp cp _ hd hp).mono ?_; rintro e w5 ⟨rfl, hb⟩; replace hr := hr.on hb; replace hB := below_on hB hb; clear hb)
    | ((with_reducible refine wpL_store W.heap.size 24 _ (feA (numLE s.data.toList)) 4 rowFe rfl (feA_size _) (feA_one _) hr ?_ ?_ ?_); rfl; rfl))
  exact bodyPost_ret (results_row_tmp Tryd.results22 rowFe (feA_size _) (hr.row _) rfl rfl) rfl ⟨rfl, below_rowSet hB (Nat.le_refl _) _⟩
end Go.Proofs.YtlbhlklgliblgaaDoor.F
