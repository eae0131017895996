/- The contract of the reference's Sub. -/
import Derived.Test.YtlbhlklgliblgaaDoorFRef
namespace Go.Proofs.YtlbhlklgliblgaaDoor.F
open Go.RowKit

theorem pK_sub : p25 < K256 := by decide
theorem modK_sub (n : Nat) : n % p25 < K256 := Nat.lt_trans (Nat.mod_lt _ p25_pos) pK_sub
theorem digits_trim (k : Nat) (g cap : Nat) (hc : 16 ≤ cap) (W : World) (hd : Dig W g 0 (dgL k 16)) :
    Calls Tryd.prog 33 #[.slice (some ⟨g, 0, none⟩) 16 cap] W fun e W' => e = .returned (.slice (some ⟨g, 0, none⟩) (trimL (dgL k 16)).length cap) ∧ W' = W := by
  have h := trim_any (dgL k 16) g 0 cap W hd (by rw [dgL_length]; decide) (by rw [dgL_length]; exact hc)
  rw [dgL_length] at h
  exact h
theorem prime_minus (k : Nat) (hk : k < p25) (gp cp gy cy : Nat) (W : World) (hp : Dig W gp 0 primeL) (hy : Dig W gy 0 (trimL (dgL k 16))) :
    Calls Tryd.prog 31 #[.slice (some ⟨gp, 0, none⟩) 16 cp, .slice (some ⟨gy, 0, none⟩) (trimL (dgL k 16)).length cy] W fun e W' => ∃ r g' cap', e = .returned (.slice (some ⟨g', 0, none⟩) r.length cap') ∧ r.length ≤ cap' ∧ r.length ≤ 16 ∧ Dig W' g' 0 r ∧ Dg r ∧ val r = p25 - k ∧ Below W.heap.size W W' := by
  have hv : val (trimL (dgL k 16)) = k := by rw [val_trim, dgL_full (Nat.lt_trans hk pK_sub)]
  have h := minus_any primeL (trimL (dgL k 16)) gp 0 cp gy 0 cy W hp hy (by decide) prime_dg (dgL_dg _ _).trim (by rw [hv, prime_val]; exact Nat.le_of_lt hk)
  rw [hv, prime_val] at h
  refine Calls.mono h ?_
  rintro e W' ⟨r, g', cap', rfl, h1, h2, h3, h4, _, h6, h7⟩
  exact ⟨r, g', cap', rfl, h1, h2, h3, h4, h6, h7⟩
theorem digits_more (m k : Nat) (hm : m < K256) (r : List Nat) (hr : r.length ≤ 16) (dr : Dg r) (hv : val r = k) (gx cx gr cr : Nat) (W : World) (hx : Dig W gx 0 (dgL m 16)) (hy : Dig W gr 0 r) :
    Calls Tryd.prog 30 #[.slice (some ⟨gx, 0, none⟩) 16 cx, .slice (some ⟨gr, 0, none⟩) r.length cr] W fun e W' => ∃ r g' cap', e = .returned (.slice (some ⟨g', 0, none⟩) r.length cap') ∧ r.length ≤ cap' ∧ r.length ≤ 100 ∧ Dig W' g' 0 r ∧ Dg r ∧ val r = m + k ∧ Below W.heap.size W W' := by
  have hl := dgL_length m 16
  have h := plus_any (dgL m 16) r gx 0 cx gr 0 cr W hx hy (by omega) (by omega) (dgL_dg m 16) dr
  rw [hl, dgL_full hm, hv] at h
  refine h.mono ?_
  rintro e W' ⟨r, g', cap', rfl, h1, h2, h3, h4, h5, h6, h7⟩
  exact ⟨r, g', cap', rfl, h1, by omega, h3, h4, h6, h7⟩

set_option maxRecDepth 100000 in
set_option maxHeartbeats 1600000 in
theorem refSub_any (m n : Nat) (W : World) (hm : m < K256) (hn : n < K256) :
    Calls Tryd.prog 16 #[fe m, fe n] W fun e W' => e = .returned (fe ((m + (p25 - n % p25)) % p25)) ∧ Below W.heap.size W W' := by
  have hk : n % p25 < p25 := Nat.mod_lt _ p25_pos
  have HP := Lib.hid (digits_more m (p25 - n % p25) hm)
  have HM := Lib.hid (digits_any m)
  have HL := Lib.hid (fun w => refLeast_any n w hn)
  have HQ := Lib.hid (prime_minus (n % p25) hk)
  have HT := Lib.hid (digits_trim (n % p25))
  clear hk
  obtain ⟨k, hk⟩ : ∃ k, n % p25 = k := ⟨_, rfl⟩
  rw [hk] at HP HQ HL HT ⊢
  have HN := Lib.hid (digits_any k)
  rw [fe, fe]
  obtain ⟨a0, a1, a2, a3, ha⟩ := fe_four m
  obtain ⟨b0, b1, b2, b3, hb⟩ := fe_four n
  rw [fe, ha] at HM
  rw [fe, hb] at HL
  rw [ha, hb]
  clear ha hb hk
  go_enter Tryd.func16, Tryd.ntmps16
  have hx := ((Lies.new W 24 #[w64 a0, w64 a1, w64 a2, w64 a3]).alloc (.cells #[w64 b0, w64 b1, w64 b2, w64 b3] 24)).alloc (.cells fe0A 24)
  have hy : Lies ((W.alloc (.cells #[w64 a0, w64 a1, w64 a2, w64 a3] 24)).alloc (.cells #[w64 b0, w64 b1, w64 b2, w64 b3] 24)) (W.heap.size + 1) 24 #[w64 b0, w64 b1, w64 b2, w64 b3] := heap_alloc2_new W _ _
  replace hy := hy.alloc (.cells fe0A 24)
  have hr := lies3 W (.cells #[w64 a0, w64 a1, w64 a2, w64 a3] 24) (.cells #[w64 b0, w64 b1, w64 b2, w64 b3] 24) 24 fe0A
  have hB := (((Below.refl W.heap.size W).alloc (Nat.le_refl _) (.cells #[w64 a0, w64 a1, w64 a2, w64 a3] 24)).alloc (by simp) (.cells #[w64 b0, w64 b1, w64 b2, w64 b3] 24)).alloc (by simp; omega) (.cells fe0A 24)
  go_upto_region 1 with fail
  generalize World.alloc (World.alloc (World.alloc W _) _) _ = w0 at *
  obtain ⟨y0, y1, y2, y3⟩ := hy.four
  replace hx := hx.drew
  replace hy := hy.drew
  replace hr := hr.drew
  replace hB := hB.drew
  go_region_with (first
    | (go_at_call 32; refine (prime_any _).mono ?_; rintro e w1 ⟨gp, cp, rfl, hcp, hp, hb⟩; replace hx := hx.on hb; replace hy := hy.on hb; replace hr := hr.on hb; replace hB := below_on hB hb; clear hb y0 y1 y2 y3; obtain ⟨y0, y1, y2, y3⟩ := hy.four)
    | (go_at_call 12; refine (HL.out _).mono ?_; rintro e w2 ⟨rfl, hb⟩; replace hx := hx.on hb; replace hp := hp.on hb; replace hr := hr.on hb; replace hB := below_on hB hb; clear hb)
    | (go_at_call 27; refine (HN.out _).mono ?_; rintro e w3 ⟨gy, cy, rfl, hcy, hdy, hb⟩; replace hx := hx.on hb; replace hp := hp.on hb; replace hr := hr.on hb; replace hB := below_on hB hb; clear hb)
    | (go_at_call 33; refine (HT.out gy cy hcy _ hdy).mono ?_; rintro e w4 ⟨rfl, rfl⟩)
    | (go_at_call 31; refine (HQ.out gp cp gy cy _ hp (hdy.take _)).mono ?_; rintro e w5 ⟨r, gr, cr, rfl, r1, r2, r3, r4, r5, hb⟩; replace hx := hx.on hb; replace hr := hr.on hb; replace hB := below_on hB hb; clear hb))
  all_goals
    go_wp2_with (first
      | ((with_reducible refine wpL_load W.heap.size 24 #[w64 a0, w64 a1, w64 a2, w64 a3] 4 rowFe rfl hx ?_ ?_); rfl)
      | (go_at_call 27; refine (HM.out _).mono ?_; rintro e w6 ⟨gx, cx, rfl, hcx, hdx, hb⟩; replace hr := hr.on hb; replace r3 := r3.on hb; replace hB := below_on hB hb; clear hb)
      | (go_at_call 30; refine (HP.out r r2 r4 r5 gx cx gr cr _ hdx r3).mono ?_; rintro e w7 ⟨q, gq, cq, rfl, q1, q2, q3, q4, q5, hb⟩; replace hr := hr.on hb; replace hB := below_on hB hb; clear hb)
      | (go_at_call 26; refine (val_fold q _ _ gq cq q2 q1 q3 q4 q5).mono ?_; rintro e w8 ⟨rfl, hb⟩; replace hr := hr.on hb; replace hB := below_on hB hb; clear hb)
      | ((with_reducible refine wpL_store (W.heap.size + 1 + 1) 24 _ (feA ((m + (p25 - k)) % p25)) 4 rowFe rfl (feA_size _) (feA_one _) hr ?_ ?_ ?_); rfl; rfl))
    exact bodyPost_ret (results_row Tryd.results16 rowFe (feA_size _) (hr.row _) rfl) rfl ⟨rfl, below_rowSet hB (by omega) _⟩
end Go.Proofs.YtlbhlklgliblgaaDoor.F
