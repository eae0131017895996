/- The walk of the statement of heads that follow one another: whatever heads and step, it answers true. -/
import Derived.Test.YtdjglghecekeoaaGreatDoorV15
namespace Go.Proofs.YtdjglghecekeoaaGreatDoor.J
open Go.RowKit Go.Sort Go.Proofs.YtdjglghecekeoaaGreatDoor.U Go.Proofs.YtdjglghecekeoaaGreatDoor.R Go.Proofs.YtdjglghecekeoaaGreatDoor.Q
set_option maxRecDepth 100000

theorem strs_first {w : World} {a : Option Addr} {n c : Nat} {l : List (List UInt8)} (h : Strs w (.slice a n c) l) {k : Nat} (hk : k ≤ l.length) : Strs w (.slice a k c) (l.take k) := by
  obtain ⟨a', c', hv, hc, hm, hn, hl⟩ := h
  injection hv with e1 e2 e3
  subst e1 e3
  refine ⟨a, c, by rw [List.length_take, Nat.min_eq_left hk], by rw [List.length_take]; omega, hm, fun h => by have := hn h; simp [this], fun hne => ?_⟩
  obtain ⟨b, off, hb, hcell⟩ := hl (by intro h; subst h; simp at hne)
  refine ⟨b, off, hb, fun i y hi => hcell i y ?_⟩
  rw [List.getElem?_take] at hi
  split at hi
  · exact hi
  · cases hi
set_option maxHeartbeats 6400000 in
theorem goesJ_walk (A : C.Pts E.EdTab) (s : Int) (r0 : List UInt8) (t : Int) (g0 : List UInt8) (s2 : Int) (r20 : List UInt8) (t2 : Int) (g20 : List UInt8) (v : Value) (l : List (List UInt8)) (W : World) (hr : r0.length ≤ maxLen) (hg : g0.length ≤ maxLen) (hr2 : r20.length ≤ maxLen) (hg2 : g20.length ≤ maxLen) (hs : Strs W v l) (hx : ∀ x ∈ l, x.length ≤ maxLen) (hT : HTab W) (hZ : Tz W) :
    Calls Tryz.prog 5 #[.agg (headA s r0 t g0), .agg (headA s2 r20 t2 g20), v] W fun e w' => e = .returned (.bool true) ∧ Below W.heap.size W w' := by
  have HFa := Lib.hid (fun w => fewH_any s r0 t g0 w hr hg)
  have HFb := Lib.hid (fun w => fewH_any s2 r20 t2 g20 w hr2 hg2)
  have HAl := Lib.hid (fun w (hb : Below W.heap.size W w) => aliveH_any A w (hT.on hb))
  have hL : Lies ((W.alloc (.cells (headA s r0 t g0) 23)).alloc (.cells (headA s2 r20 t2 g20) 23)) W.heap.size 23 (headA s r0 t g0) := (Lies.new W _ _).alloc _
  have hM : Lies ((W.alloc (.cells (headA s r0 t g0) 23)).alloc (.cells (headA s2 r20 t2 g20) 23)) (W.heap.size + 1) 23 (headA s2 r20 t2 g20) := box_two W _ _ _
  have hB := ((Below.refl W.heap.size W).alloc (Nat.le_refl _) (.cells (headA s r0 t g0) 23)).alloc (by simp) (.cells (headA s2 r20 t2 g20) 23)
  generalize r0.take 40 = r at *
  generalize g0.take 70 = g at *
  generalize r20.take 40 = r2 at *
  generalize g20.take 70 = g2 at *
  obtain ⟨k, hk⟩ : ∃ k, min l.length 20 = k := ⟨_, rfl⟩
  have hkl : k ≤ l.length := by omega
  have hk20 : k ≤ 20 := by omega
  have hki : min (l.length : Int) 20 = (k : Int) := by omega
  have HS := Lib.hid hs
  have HX : Hid (∀ x ∈ l.take k, x.length ≤ maxLen) := Lib.hid (fun x h => hx x (List.mem_of_mem_take h))
  obtain ⟨ao, co, rfl, hc1, hc2, hk2⟩ := hs
  unfold maxLen at hc2
  have HT := Lib.hid hT
  have HZ := Lib.hid hZ
  clear hr hg hr2 hg2 hx hT hZ hk2 hk
  go_enter Tryz.func5, Tryz.ntmps5
  go_upto_region 1 with fail
  generalize hgw : World.alloc (World.alloc _ _) _ = w0
  replace hL : Lies w0 W.heap.size 23 (headA s r0 t g0) := by rw [← hgw]; exact hL
  replace hM : Lies w0 (W.heap.size + 1) 23 (headA s2 r20 t2 g20) := by rw [← hgw]; exact hM
  replace hB : Below W.heap.size W w0 := by rw [← hgw]; exact hB
  clear hgw
  refine wp_region_rel 4 _ [sayFix (.agg (headA s r0 t g0)), sayFix (.agg (headA s r t g)), sayFix (.agg (headA s2 r20 t2 g20)), sayFix (.agg (headA s2 r2 t2 g2))] rfl rfl (by kernel_rfl) (by kernel_rfl) (fun r hr => by
    simp only [List.mem_cons, List.not_mem_nil, or_false] at hr
    rcases hr with rfl | rfl | rfl | rfl <;> first | exact sayFix_mono _) ?_
  simp only [List.take_succ_cons, List.take_zero, List.drop_succ_cons, List.drop_zero, List.zip_cons_cons, List.zip_nil_right]
  refine wpRel_step (fun wr hb1 hG => ?_) (fun v0 => ?_)
  · exact does_run (.agg (headA s r0 t g0)) (run_ldH W.heap.size _ s t r0 g0 (hL.on hb1) rfl) rfl
  simp only [Act.put, List.setIfInBounds_toArray, List.set_cons_succ, List.set_cons_zero, Option.getD_some]
  refine wpRel_step (fun wr hb1 hG => ?_) (fun v1 => ?_)
  · obtain rfl := laid_at 0 hG rfl (by decide)
    refine does_call 9 #[.agg (headA s r0 t g0)] (by kernel_rfl) ((HFa.out wr).mono ?_)
    rintro e w' ⟨rfl, h6⟩
    exact ⟨_, rfl, h6, rfl⟩
  simp only [Act.put, List.setIfInBounds_toArray, List.set_cons_succ, List.set_cons_zero, Option.getD_some]
  refine wpRel_step (fun wr hb1 hG => ?_) (fun v2 => ?_)
  · exact does_run (.agg (headA s2 r20 t2 g20)) (run_ldH (W.heap.size + 1) _ s2 t2 r20 g20 (hM.on hb1) rfl) rfl
  simp only [Act.put, List.setIfInBounds_toArray, List.set_cons_succ, List.set_cons_zero, Option.getD_some]
  refine wpRel_step (fun wr hb1 hG => ?_) (fun v3 => ?_)
  · obtain rfl := laid_at 0 hG rfl (by decide)
    refine does_call 9 #[.agg (headA s2 r20 t2 g20)] (by kernel_rfl) ((HFb.out wr).mono ?_)
    rintro e w' ⟨rfl, h6⟩
    exact ⟨_, rfl, h6, rfl⟩
  simp only [Act.put, List.setIfInBounds_toArray, List.set_cons_succ, List.set_cons_zero, Option.getD_some]
  refine wpRel_nil (fun w1 hb hG => ?_)
  obtain rfl := hG _ (List.mem_of_getElem? (i := 0) rfl)
  obtain rfl := hG _ (List.mem_of_getElem? (i := 2) rfl)
  clear hG
  replace hL := hL.on hb
  replace hM := hM.on hb
  replace hB := below_on hB hb
  clear hb HFa HFb
  go_upto_region 2 with (first
    | ((with_reducible refine wpL_store W.heap.size 23 (headA s r0 t g0) (headA s r t g) 4 rowHead rfl rfl (headA_one _ _ _ _) hL ?_ ?_ ?_); rfl; rfl)
    | ((with_reducible refine wpL_store (W.heap.size + 1) 23 (headA s2 r20 t2 g20) (headA s2 r2 t2 g2) 4 rowHead rfl rfl (headA_one _ _ _ _) (hM.rowFar (Nat.succ_ne_self _) _) ?_ ?_ ?_); rfl; rfl))
  simp only [Act.put]
  generalize hgw : World.setRow (World.setRow _ _ _) _ _ = w2
  replace hM : Lies w2 (W.heap.size + 1) 23 (headA s2 r2 t2 g2) := by rw [← hgw]; exact (hM.rowFar (Nat.succ_ne_self _) _).row _
  replace hL : Lies w2 W.heap.size 23 (headA s r t g) := by rw [← hgw]; exact (hL.row _).rowFar (Nat.ne_of_lt (Nat.lt_succ_self _)) _
  replace hB : Below W.heap.size W w2 := by rw [← hgw]; exact below_rowSet (below_rowSet hB (Nat.le_refl _) _) (Nat.le_succ _) _
  clear hgw
  have hown : (w2.alloc (.cells #[] 9)).ownsRow w2.heap.size 9 1 (.slice (some ⟨w2.heap.size, 0, none⟩) 0 0) 0 [] := World.ownsRow_made w2 #[] 0 (Nat.le_refl _) (Nat.zero_le _) rfl
  have hal : Below w2.heap.size w2 (w2.alloc (.cells #[] 9)) := (Below.refl _ _).alloc (Nat.le_refl _) _
  have hstr : Strs (w2.alloc (.cells #[] 9)) (.slice ao k co) (l.take k) := strs_first ((HS.out.below hB).below hal) hkl
  have hlen : (l.take k).length = k := by rw [List.length_take]; omega
  obtain ⟨P, hP⟩ : ∃ P, l.take k = P := ⟨_, rfl⟩
  rw [hP] at hstr hlen HX
  clear hP HS
  have hkc : (k : Int) ≤ (co : Int) := by omega
  subst hlen
  go_upto_region 3 with (first
    | ((with_reducible refine wpL_joinG w2.heap.size w2.heap.size hown hal.size ao co P hstr (by omega) ?_ ?_ ?_); rfl; rfl; intro g3 c3 w3 ho3 hg3 hb3))
  have hs3 := ho3.strs
  have hbb : Below w2.heap.size w2 w3 := hal.trans hb3
  replace hL := hL.on hbb
  replace hM := hM.on hbb
  replace hB := below_on hB hbb
  clear hbb hal hb3 ho3 hg3 hown hstr hkl hk20 hki hkc hc1 hc2
  have HG := Lib.hid (goesH_any s r t g s2 r2 t2 g2 _ P w3 hs3 HX.out (HT.out.on hB).u (HZ.out.below hB))
  have HRa := Lib.hid (fun w => refRightH_any s r t g w)
  have HRb := Lib.hid (fun w => refRightH_any s2 r2 t2 g2 w)
  have HS3 := Lib.hid hs3
  have hB3 := Lib.hid hB
  obtain ⟨E, hE⟩ : ∃ E, goesE s r t g s2 r2 t2 g2 P = E := ⟨_, rfl⟩
  rw [hE] at HG
  unfold goesE at hE
  clear hs3
  go_upto_region 4 with (first
    | ((with_reducible refine wpL_load W.heap.size 23 (headA s r t g) 4 rowHead rfl hL ?_ ?_); rfl)
    | ((with_reducible refine wpL_load (W.heap.size + 1) 23 (headA s2 r2 t2 g2) 4 rowHead rfl hM ?_ ?_); rfl)
    | (go_at_call 23; (refine (HG.out).mono ?_); rintro e w4 ⟨rfl, hb⟩; have HB4 := Lib.hid hb; replace hL := hL.on hb; replace hM := hM.on hb; replace hB := below_on hB hb; clear hb))
  clear HG
  cases h1 : rightH s r t g with
  | false =>
    obtain rfl : E = 1 := by rw [← hE, if_neg (fun h => by rw [h1] at h; cases h.1)]
    rw [h1] at HRa
    clear hE h1 HRb HS3 HX HT HZ
    go_wp2_with (first
      | ((with_reducible refine wpL_load W.heap.size 23 (headA s r t g) 4 rowHead rfl hL ?_ ?_); rfl)
      | ((with_reducible refine wpL_load_gH W.heap.size 23 (headA s r t g) 4 rowHead rfl hL ?_ ?_ ?_); rfl; rfl)
      | ((with_reducible refine wpL_load (W.heap.size + 1) 23 (headA s2 r2 t2 g2) 4 rowHead rfl hM ?_ ?_); rfl)
      | ((with_reducible refine wpL_load_gH (W.heap.size + 1) 23 (headA s2 r2 t2 g2) 4 rowHead rfl hM ?_ ?_ ?_); rfl; rfl)
      | (go_at_call 13; (with_reducible refine (HRa.out _).mono ?_); rintro e w5 ⟨rfl, hb⟩; replace hL := hL.on hb; replace hM := hM.on hb; replace hB := below_on hB hb; clear hb)
      | (go_at_call 14; (with_reducible refine (HAl.out _ hB).mono ?_); rintro e wa ⟨rfl, hb⟩; replace hL := hL.on hb; replace hM := hM.on hb; replace hB := below_on hB hb; clear hb))
    go_ret
    exact ⟨rfl, hB⟩
  | true =>
    cases h2 : rightH s2 r2 t2 g2 with
    | false =>
      obtain rfl : E = 1 := by rw [← hE, if_neg (fun h => by rw [h2] at h; cases h.2)]
      rw [h1] at HRa
      rw [h2] at HRb
      clear hE h1 h2 HS3 HX HT HZ
      go_wp2_with (first
        | ((with_reducible refine wpL_load W.heap.size 23 (headA s r t g) 4 rowHead rfl hL ?_ ?_); rfl)
        | ((with_reducible refine wpL_load_gH W.heap.size 23 (headA s r t g) 4 rowHead rfl hL ?_ ?_ ?_); rfl; rfl)
        | ((with_reducible refine wpL_load (W.heap.size + 1) 23 (headA s2 r2 t2 g2) 4 rowHead rfl hM ?_ ?_); rfl)
        | ((with_reducible refine wpL_load_gH (W.heap.size + 1) 23 (headA s2 r2 t2 g2) 4 rowHead rfl hM ?_ ?_ ?_); rfl; rfl)
        | (go_at_call 13; (with_reducible refine (HRa.out _).mono ?_); rintro e w5 ⟨rfl, hb⟩; replace hL := hL.on hb; replace hM := hM.on hb; replace hB := below_on hB hb; clear hb)
        | (go_at_call 13; (with_reducible refine (HRb.out _).mono ?_); rintro e w6 ⟨rfl, hb⟩; replace hL := hL.on hb; replace hM := hM.on hb; replace hB := below_on hB hb; clear hb)
        | (go_at_call 14; (with_reducible refine (HAl.out _ hB).mono ?_); rintro e wa ⟨rfl, hb⟩; replace hL := hL.on hb; replace hM := hM.on hb; replace hB := below_on hB hb; clear hb))
      go_ret
      exact ⟨rfl, hB⟩
    | true =>
      rw [if_pos ⟨h1, h2⟩] at hE
      rw [h1] at HRa
      rw [h2] at HRb
      obtain ⟨a1, a2, _, _, a5⟩ := mayH_of (rightH_of h1).1
      obtain ⟨b1, b2, _, _, b5⟩ := mayH_of (rightH_of h2).1
      have HF := Lib.hid (fun w (hb : Below w3.heap.size w3 w) => follows_gen w _ r r2 s s2 P (by omega) (by omega) (by omega) (by omega) (by omega) (by omega) (HS3.out.below hb) HX.out ((HT.out.on hB3.out).on hb).u ((HZ.out.below hB3.out).below hb))
      clear h1 h2 HX HT HZ HS3
      go_upto_region 6 with (first
        | ((with_reducible refine wpL_load W.heap.size 23 (headA s r t g) 4 rowHead rfl hL ?_ ?_); rfl)
        | ((with_reducible refine wpL_load_gH W.heap.size 23 (headA s r t g) 4 rowHead rfl hL ?_ ?_ ?_); rfl; rfl)
        | ((with_reducible refine wpL_load (W.heap.size + 1) 23 (headA s2 r2 t2 g2) 4 rowHead rfl hM ?_ ?_); rfl)
        | ((with_reducible refine wpL_load_gH (W.heap.size + 1) 23 (headA s2 r2 t2 g2) 4 rowHead rfl hM ?_ ?_ ?_); rfl; rfl)
        | (go_at_call 13; (with_reducible refine (HRa.out _).mono ?_); rintro e w5 ⟨rfl, hb⟩; have HB5 := Lib.hid (below_on HB4.out hb); replace hL := hL.on hb; replace hM := hM.on hb; replace hB := below_on hB hb; clear hb)
        | (go_at_call 13; (with_reducible refine (HRb.out _).mono ?_); rintro e w6 ⟨rfl, hb⟩; have HB6 := Lib.hid (below_on HB5.out hb); replace hL := hL.on hb; replace hM := hM.on hb; replace hB := below_on hB hb; clear hb))
      by_cases c1 : s = s2
      · subst c1
        by_cases c2 : r = r2
        · subst c2
          rw [if_neg (fun h => h.2 rfl)] at hE
          by_cases c3 : t2 < t
          · obtain rfl : E = 14 := by rw [← hE, if_pos (.inr c3)]
            clear hE HF
            have p0 := hd_s hL
            have p1 := hd_r hL
            have p2 := hd_t hL
            have q0 := hd_s hM
            have q1 := hd_r hM
            have q2 := hd_t hM
            go_wp2_with (first
              | (go_at_call 14; (with_reducible refine (HAl.out _ hB).mono ?_); rintro e wa ⟨rfl, hb⟩; replace hB := below_on hB hb; clear hb))
            go_ret
            exact ⟨rfl, hB⟩
          · rw [if_neg (by omega)] at hE
            rw [hE] at HF
            clear hE
            have p0 := hd_s hL
            have p1 := hd_r hL
            have p2 := hd_t hL
            have q0 := hd_s hM
            have q1 := hd_r hM
            have q2 := hd_t hM
            go_wp2_with (first
              | (go_at_call 14; (with_reducible refine (HAl.out _ hB).mono ?_); rintro e wa ⟨rfl, hb⟩; have h0 := hL.on hb; have h9 := hM.on hb; have p0 := hd_s h0; have p1 := hd_r h0; have q0 := hd_s h9; have q1 := hd_r h9; have HB7 := Lib.hid (below_on HB6.out hb); clear h0 h9; replace hB := below_on hB hb; clear hb)
              | (go_at_call 24; (with_reducible refine (HF.out _ HB7.out).mono ?_); rintro e wf ⟨rfl, hb⟩; replace hB := below_on hB hb; clear hb))
            go_ret
            exact ⟨rfl, hB⟩
        · have hne := toList_ne c2
          obtain rfl : E = 38 := by rw [← hE, if_pos ⟨rfl, c2⟩]
          clear hE HF c2
          have p0 := hd_s hL
          have p1 := hd_r hL
          have p2 := hd_t hL
          have q0 := hd_s hM
          have q1 := hd_r hM
          have q2 := hd_t hM
          go_wp2_with (first
            | (go_at_call 14; (with_reducible refine (HAl.out _ hB).mono ?_); rintro e wa ⟨rfl, hb⟩; replace hB := below_on hB hb; clear hb))
          go_ret
          exact ⟨rfl, hB⟩
      · rw [if_neg (fun h => c1 h.1)] at hE
        have hi : (s == s2) = false := by simp [c1]
        by_cases c3 : s2 < s
        · obtain rfl : E = 14 := by rw [← hE, if_pos (.inl c3)]
          clear hE HF
          have p0 := hd_s hL
          have p1 := hd_r hL
          have p2 := hd_t hL
          have q0 := hd_s hM
          have q1 := hd_r hM
          have q2 := hd_t hM
          go_wp2_with (first
            | (go_at_call 14; (with_reducible refine (HAl.out _ hB).mono ?_); rintro e wa ⟨rfl, hb⟩; replace hB := below_on hB hb; clear hb))
          go_ret
          exact ⟨rfl, hB⟩
        · by_cases c4 : t2 < t
          · obtain rfl : E = 14 := by rw [← hE, if_pos (.inr c4)]
            clear hE HF
            have p0 := hd_s hL
            have p1 := hd_r hL
            have p2 := hd_t hL
            have q0 := hd_s hM
            have q1 := hd_r hM
            have q2 := hd_t hM
            go_wp2_with (first
              | (go_at_call 14; (with_reducible refine (HAl.out _ hB).mono ?_); rintro e wa ⟨rfl, hb⟩; replace hB := below_on hB hb; clear hb))
            go_ret
            exact ⟨rfl, hB⟩
          · rw [if_neg (by omega)] at hE
            rw [hE] at HF
            clear hE
            have p0 := hd_s hL
            have p1 := hd_r hL
            have p2 := hd_t hL
            have q0 := hd_s hM
            have q1 := hd_r hM
            have q2 := hd_t hM
            go_wp2_with (first
              | (go_at_call 14; (with_reducible refine (HAl.out _ hB).mono ?_); rintro e wa ⟨rfl, hb⟩; have h0 := hL.on hb; have h9 := hM.on hb; have p0 := hd_s h0; have p1 := hd_r h0; have q0 := hd_s h9; have q1 := hd_r h9; have HB7 := Lib.hid (below_on HB6.out hb); clear h0 h9; replace hB := below_on hB hb; clear hb)
              | (go_at_call 24; (with_reducible refine (HF.out _ HB7.out).mono ?_); rintro e wf ⟨rfl, hb⟩; replace hB := below_on hB hb; clear hb))
            go_ret
            exact ⟨rfl, hB⟩
end Go.Proofs.YtdjglghecekeoaaGreatDoor.J
