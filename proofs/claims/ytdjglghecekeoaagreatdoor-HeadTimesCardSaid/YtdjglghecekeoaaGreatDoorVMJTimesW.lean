/- The walk of the statement of heads of other times and sizes: whatever head and number, it answers true. -/
import Derived.Test.YtdjglghecekeoaaGreatDoorV15
import Derived.StillTailTactics
namespace Go.Proofs.YtdjglghecekeoaaGreatDoor.J
open Go.RowKit Go.Sort Go.Proofs.YtdjglghecekeoaaGreatDoor.U Go.Proofs.YtdjglghecekeoaaGreatDoor.R Go.Proofs.YtdjglghecekeoaaGreatDoor.Q
set_option maxRecDepth 100000

theorem follows_self {n : Nat} {r : List UInt8} (h1 : 1 ≤ n) (hn : n ≤ 4096) (hr : r.length = 32) : followsE (n : Int) (n : Int) r r [] = 0 := by
  rw [followsE_yes h1 (Nat.le_refl _) hn hr hr rfl, if_pos]
  have e1 : oldS nd r ([] : List (List UInt8)).reverse n n true = some r := by
    show oldS nd r [] n n true = some r
    unfold oldS
    rw [if_pos rfl]
    rfl
  have e2 : newS nd r ([] : List (List UInt8)).reverse n n true = some r := by
    show newS nd r [] n n true = some r
    unfold newS
    rw [if_pos rfl]
    rfl
  exact ⟨e1, e2⟩
/-- a head behind itself -/
theorem goes_self {s t : Int} {r g : List UInt8} (h : rightH s r t g = true) : goesE s r t g s r t g [] = 0 ∨ (s = 0 ∧ goesE s r t g s r t g [] = 13) := by
  obtain ⟨a1, a2, _, _, a5⟩ := mayH_of (rightH_of h).1
  unfold goesE
  rw [if_pos ⟨h, h⟩, if_neg (fun h => h.2 rfl), if_neg (by omega)]
  obtain ⟨k, rfl⟩ : ∃ k : Nat, s = (k : Int) := ⟨s.toNat, (Int.toNat_of_nonneg a1).symm⟩
  rcases Nat.eq_zero_or_pos k with h0 | h0
  · subst h0
    rw [followsE_zero (by decide) a5 a5 rfl]
    by_cases he : r = e0
    · rw [if_pos ⟨rfl, he⟩]; exact .inl rfl
    · rw [if_neg (fun h => he h.2)]; exact .inr ⟨rfl, rfl⟩
  · exact .inl (follows_self h0 (by omega) a5)
/-- one of a lesser time -/
theorem goes_older {s t : Int} {r g : List UInt8} (h : rightH s r t g = true) (d : Int) (hd : 1 ≤ d) : goesE s r t g s r (t - d) g [] = if t - d < 0 then 1 else 14 := by
  obtain ⟨hm, hg⟩ := rightH_of h
  obtain ⟨a1, a2, a3, a4, a5⟩ := mayH_of hm
  unfold goesE
  by_cases hn : t - d < 0
  · rw [if_pos hn, if_neg (fun k => by have := (mayH_of (rightH_of k.2).1).2.2.1; omega)]
  · rw [if_neg hn, if_pos ⟨h, rightH_yes (mayH_yes a1 a2 (by omega) (by omega) a5) hg⟩, if_neg (fun h => h.2 rfl), if_pos (.inr (by omega))]
/-- one of fewer leaves -/
theorem goes_fewer {s t : Int} {r g : List UInt8} (h : rightH s r t g = true) (d : Int) (hd : 1 ≤ d) : goesE s r t g (s - d) r t g [] = if s - d < 0 then 1 else 14 := by
  obtain ⟨hm, hg⟩ := rightH_of h
  obtain ⟨a1, a2, a3, a4, a5⟩ := mayH_of hm
  unfold goesE
  by_cases hn : s - d < 0
  · rw [if_pos hn, if_neg (fun k => by have := (mayH_of (rightH_of k.2).1).1; omega)]
  · rw [if_neg hn, if_pos ⟨h, rightH_yes (mayH_yes (by omega) (by omega) a3 a4 a5) hg⟩, if_neg (fun h => by have := h.1; omega), if_pos (.inl (by omega))]
theorem less_rem (z : Int) : ∃ q : Int, Int.tmod z 5 = q ∧ -5 < q ∧ q < 5 := ⟨_, rfl, by have := Int.lt_tmod_of_pos z (b := 5) (by decide); omega, Int.tmod_lt_of_pos z (by decide)⟩
theorem less_mod (q : Int) (h : -5 < q) : ∃ d : Int, Int.tmod (q + 5) 5 = d ∧ 0 ≤ d ∧ d < 5 := ⟨_, rfl, Int.tmod_nonneg _ (by omega), Int.tmod_lt_of_pos _ (by decide)⟩

set_option maxHeartbeats 6400000 in
theorem timesJ_walk (A : C.Pts E.EdTab) (s : Int) (r0 : List UInt8) (t : Int) (g0 : List UInt8) (z : Int) (W : World) (hr : r0.length ≤ maxLen) (hg : g0.length ≤ maxLen) (_ : -9223372036854775808 ≤ s ∧ s ≤ 9223372036854775807) (_ : -9223372036854775808 ≤ t ∧ t ≤ 9223372036854775807) (hT : HTab W) (hZ : Tz W) :
    Calls Tryz.prog 7 #[.agg (headA s r0 t g0), .int .i64 z] W fun e w' => e = .returned (.bool true) ∧ Below W.heap.size W w' := by
  have HF := Lib.hid (fun w => fewH_any s r0 t g0 w hr hg)
  have HAl := Lib.hid (fun w (hb : Below W.heap.size W w) => aliveH_any A w (hT.on hb))
  have hl : Lies (W.alloc (.cells (headA s r0 t g0) 23)) W.heap.size 23 (headA s r0 t g0) := Lies.new W _ _
  have hB := (Below.refl W.heap.size W).alloc (Nat.le_refl _) (.cells (headA s r0 t g0) 23)
  generalize r0.take 40 = r at *
  generalize g0.take 70 = g at *
  have HR := Lib.hid (fun w => refRightH_any s r t g w)
  have HG := Lib.hid (fun w (hb : Below W.heap.size W w) s2 t2 => goesH_any s r t g s2 r t2 g _ [] w (Strs.nil w) (fun x hx => by cases hx) (hT.on hb).u (hZ.below hb))
  clear hr hg hT hZ
  cases hm : rightH s r t g with
  | false =>
    rw [hm] at HR
    have HS := Lib.hid (fun w (hb : Below W.heap.size W w) => HG.out w hb s t)
    rw [show goesE s r t g s r t g [] = 1 by unfold goesE; rw [if_neg (fun h => by rw [hm] at h; cases h.1)]] at HS
    clear hm HG
    go_enter Tryz.func7, Tryz.ntmps7
    go_upto_region 1 with fail
    generalize hgw : World.alloc _ _ = w0
    replace hl : Lies w0 W.heap.size 23 (headA s r0 t g0) := by rw [← hgw]; exact hl
    replace hB : Below W.heap.size W w0 := by rw [← hgw]; exact hB
    clear hgw
    go_upto_region 2 with (first
      | ((with_reducible refine wpL_load W.heap.size 23 (headA s r0 t g0) 4 rowHead rfl hl ?_ ?_); rfl)
      | (go_at_call 9; (with_reducible refine (HF.out _).mono ?_); rintro e w1 ⟨rfl, hb⟩; replace hl := hl.on hb; replace hB := below_on hB hb; clear hb)
      | ((with_reducible refine wpL_store W.heap.size 23 (headA s r0 t g0) (headA s r t g) 4 rowHead rfl rfl (headA_one _ _ _ _) hl ?_ ?_ ?_); rfl; rfl))
    generalize hgw : World.setRow _ _ _ = w2
    replace hl : Lies w2 W.heap.size 23 (headA s r t g) := by rw [← hgw]; exact hl.row _
    replace hB : Below W.heap.size W w2 := by rw [← hgw]; exact below_rowSet hB (Nat.le_refl _) _
    clear hgw
    go_wp2_with (first
      | ((with_reducible refine wpL_load W.heap.size 23 (headA s r t g) 4 rowHead rfl hl ?_ ?_); rfl)
      | ((with_reducible refine wpL_load_gH W.heap.size 23 (headA s r t g) 4 rowHead rfl hl ?_ ?_ ?_); rfl; rfl)
      | (go_at_call 13; (with_reducible refine (HR.out _).mono ?_); rintro e w3 ⟨rfl, hb⟩; replace hl := hl.on hb; replace hB := below_on hB hb; clear hb)
      | (go_at_call 14; (with_reducible refine (HAl.out _ hB).mono ?_); rintro e wa ⟨rfl, hb⟩; replace hl := hl.on hb; replace hB := below_on hB hb; clear hb)
      | (go_at_call 23; (with_reducible refine (HS.out _ hB).mono ?_); rintro e w4 ⟨rfl, hb⟩; replace hl := hl.on hb; replace hB := below_on hB hb; clear hb))
    go_ret
    exact ⟨rfl, hB⟩
  | true =>
    rw [hm] at HR
    obtain ⟨a1, a2, a3, a4, a5⟩ := mayH_of (rightH_of hm).1
    obtain ⟨q, hq, hq1, hq2⟩ := less_rem z
    obtain ⟨d, hd, hd1, hd2⟩ := less_mod q hq1
    go_enter Tryz.func7, Tryz.ntmps7
    go_upto_region 1 with fail
    generalize hgw : World.alloc _ _ = w0
    replace hl : Lies w0 W.heap.size 23 (headA s r0 t g0) := by rw [← hgw]; exact hl
    replace hB : Below W.heap.size W w0 := by rw [← hgw]; exact hB
    clear hgw
    go_upto_region 2 with (first
      | ((with_reducible refine wpL_load W.heap.size 23 (headA s r0 t g0) 4 rowHead rfl hl ?_ ?_); rfl)
      | (go_at_call 9; (with_reducible refine (HF.out _).mono ?_); rintro e w1 ⟨rfl, hb⟩; replace hl := hl.on hb; replace hB := below_on hB hb; clear hb)
      | ((with_reducible refine wpL_store W.heap.size 23 (headA s r0 t g0) (headA s r t g) 4 rowHead rfl rfl (headA_one _ _ _ _) hl ?_ ?_ ?_); rfl; rfl))
    generalize hgw : World.setRow _ _ _ = w2
    replace hl : Lies w2 W.heap.size 23 (headA s r t g) := by rw [← hgw]; exact hl.row _
    replace hB : Below W.heap.size W w2 := by rw [← hgw]; exact below_rowSet hB (Nat.le_refl _) _
    clear hgw
    go_upto_region 4 with (first
      | ((with_reducible refine wpL_load W.heap.size 23 (headA s r t g) 4 rowHead rfl hl ?_ ?_); rfl)
      | (go_at_call 13; (with_reducible refine (HR.out _).mono ?_); rintro e w3 ⟨rfl, hb⟩; replace hl := hl.on hb; replace hB := below_on hB hb; clear hb))
    go_cut [5, 6] from 22 to 23 (fun v5 v6 wx => ∃ b5 b6 : Nat, v5 = .pointer (some ⟨b5, 0, none⟩) ∧ v6 = .pointer (some ⟨b6, 0, none⟩) ∧ b5 ≠ b6 ∧ W.heap.size < b5 ∧ W.heap.size < b6 ∧ Lies wx W.heap.size 23 (headA s r t g) ∧ Lies wx b5 23 (headA s r t g) ∧ Lies wx b6 23 (headA s r t g) ∧ Below W.heap.size W wx)
    case first =>
      clear HAl HR HG HF hm a1 a2 a3 a4 a5 hq hd
      refine wp_held_any (S := fun w' => Lies w' W.heap.size 23 (headA s r t g)) 6 rfl (by kernel_rfl) ?_
      have hdr : Below w3.heap.size w3 { w3 with drawn := w3.drawn + 1 } := (Below.refl _ _).drew
      replace hl := hl.on hdr
      replace hB := below_on hB hdr
      clear hdr
      generalize ({ w3 with drawn := w3.drawn + 1 } : World) = wd at *
      refine held_put 0 22 (.agg (headA s r t g)) rfl rfl (by kernel_rfl) (by kernel_rfl) (by kernel_rfl) (by kernel_rfl) (fun w hS => run_ldH W.heap.size _ s t r g hS rfl) hl ?_
      simp only [List.setIfInBounds_toArray, List.set_cons_succ, List.set_cons_zero]
      refine held_put 1 23 (.agg (headA s r t g)) rfl rfl (by kernel_rfl) (by kernel_rfl) (by kernel_rfl) (by kernel_rfl) (fun w hS => run_ldH W.heap.size _ s t r g hS rfl) hl ?_
      simp only [List.setIfInBounds_toArray, List.set_cons_succ, List.set_cons_zero]
      have hlt := hl.lt
      have n1 : Lies (wd.alloc (.cells head0 23)) wd.heap.size 23 head0 := Lies.new _ _ _
      replace hl := hl.alloc (.cells head0 23)
      replace hB := hB.alloc hB.size (.cells head0 23)
      refine held_two 2 3 (by kernel_rfl) (wpOp_put 5 (w' := wd.alloc (.cells head0 23)) (v := .pointer (some ⟨wd.heap.size, 0, none⟩)) rfl rfl (by kernel_rfl) (by kernel_rfl) ⟨hl, ?_⟩) (wpOp_put 6 (w' := wd.alloc (.cells head0 23)) (v := .pointer (some ⟨wd.heap.size, 0, none⟩)) rfl rfl (by kernel_rfl) (by kernel_rfl) ⟨hl, ?_⟩)
      · simp only [List.setIfInBounds_toArray, List.set_cons_succ, List.set_cons_zero]
        generalize hg1 : wd.alloc (.cells head0 23) = w1a at *
        generalize wd.heap.size = b1 at *
        clear hg1
        have hlt2 := n1.lt
        have n2 : Lies (w1a.alloc (.cells head0 23)) w1a.heap.size 23 head0 := Lies.new _ _ _
        replace hl := hl.alloc (.cells head0 23)
        replace n1 := n1.alloc (.cells head0 23)
        replace hB := hB.alloc hB.size (.cells head0 23)
        refine held_one 3 (by kernel_rfl) (wpOp_put 6 (w' := w1a.alloc (.cells head0 23)) (v := .pointer (some ⟨w1a.heap.size, 0, none⟩)) rfl rfl (by kernel_rfl) (by kernel_rfl) ⟨hl, ?_⟩)
        simp only [List.setIfInBounds_toArray, List.set_cons_succ, List.set_cons_zero]
        generalize hg2 : w1a.alloc (.cells head0 23) = w2a at *
        generalize w1a.heap.size = b2 at *
        clear hg2
        refine held_one 4 (by kernel_rfl) (wpOp_law rfl (by kernel_rfl) (wpL_store b1 23 (head0) (headA s r t g) 4 rowHead rfl rfl (headA_one _ _ _ _) n1 rfl rfl ?_))
        replace n1 := n1.row (headA s r t g)
        replace n2 := n2.rowFar (g' := b1) (by omega) (headA s r t g)
        replace hl := hl.rowFar (g' := b1) (by omega) (headA s r t g)
        replace hB := below_rowSet hB (show W.heap.size ≤ b1 by omega) (headA s r t g)
        refine ⟨hl, ?_⟩
        simp only [Act.put]
        generalize World.setRow _ _ _ = w3a at *
        refine held_one 5 (by kernel_rfl) (wpOp_law rfl (by kernel_rfl) (wpL_store b2 23 (head0) (headA s r t g) 4 rowHead rfl rfl (headA_one _ _ _ _) n2 rfl rfl ?_))
        replace n2 := n2.row (headA s r t g)
        replace n1 := n1.rowFar (g' := b2) (by omega) (headA s r t g)
        replace hl := hl.rowFar (g' := b2) (by omega) (headA s r t g)
        replace hB := below_rowSet hB (show W.heap.size ≤ b2 by omega) (headA s r t g)
        refine ⟨hl, ?_⟩
        simp only [Act.put]
        generalize World.setRow _ _ _ = w4a at *
        refine held_done (by kernel_rfl) ?_
        simp only [Exit.then]
        go_wp2_with fail
        go_meet
        exact ⟨b1, b2, rfl, rfl, by omega, by omega, by omega, hl, n1, n2, hB⟩
      · simp only [List.setIfInBounds_toArray, List.set_cons_succ, List.set_cons_zero]
        generalize hg1 : wd.alloc (.cells head0 23) = w1a at *
        generalize wd.heap.size = b1 at *
        clear hg1
        have hlt2 := n1.lt
        have n2 : Lies (w1a.alloc (.cells head0 23)) w1a.heap.size 23 head0 := Lies.new _ _ _
        replace hl := hl.alloc (.cells head0 23)
        replace n1 := n1.alloc (.cells head0 23)
        replace hB := hB.alloc hB.size (.cells head0 23)
        refine held_one 2 (by kernel_rfl) (wpOp_put 5 (w' := w1a.alloc (.cells head0 23)) (v := .pointer (some ⟨w1a.heap.size, 0, none⟩)) rfl rfl (by kernel_rfl) (by kernel_rfl) ⟨hl, ?_⟩)
        simp only [List.setIfInBounds_toArray, List.set_cons_succ, List.set_cons_zero]
        generalize hg2 : w1a.alloc (.cells head0 23) = w2a at *
        generalize w1a.heap.size = b2 at *
        clear hg2
        refine held_one 4 (by kernel_rfl) (wpOp_law rfl (by kernel_rfl) (wpL_store b2 23 (head0) (headA s r t g) 4 rowHead rfl rfl (headA_one _ _ _ _) n2 rfl rfl ?_))
        replace n2 := n2.row (headA s r t g)
        replace n1 := n1.rowFar (g' := b2) (by omega) (headA s r t g)
        replace hl := hl.rowFar (g' := b2) (by omega) (headA s r t g)
        replace hB := below_rowSet hB (show W.heap.size ≤ b2 by omega) (headA s r t g)
        refine ⟨hl, ?_⟩
        simp only [Act.put]
        generalize World.setRow _ _ _ = w3a at *
        refine held_one 5 (by kernel_rfl) (wpOp_law rfl (by kernel_rfl) (wpL_store b1 23 (head0) (headA s r t g) 4 rowHead rfl rfl (headA_one _ _ _ _) n1 rfl rfl ?_))
        replace n1 := n1.row (headA s r t g)
        replace n2 := n2.rowFar (g' := b1) (by omega) (headA s r t g)
        replace hl := hl.rowFar (g' := b1) (by omega) (headA s r t g)
        replace hB := below_rowSet hB (show W.heap.size ≤ b1 by omega) (headA s r t g)
        refine ⟨hl, ?_⟩
        simp only [Act.put]
        generalize World.setRow _ _ _ = w4a at *
        refine held_done (by kernel_rfl) ?_
        simp only [Exit.then]
        go_wp2_with fail
        go_meet
        exact ⟨b2, b1, rfl, rfl, by omega, by omega, by omega, hl, n2, n1, hB⟩
    case rest =>
      clear hl hB
      obtain ⟨b5, b6, rfl, rfl, hne, hl5, hl6, hl, h5, h6, hB⟩ := hcut
      have c2 := hd_t h5
      have f2 := h5.frozen 2
      go_upto_region 6 with fail
      clear c2 f2
      generalize hgw : World.setCell _ _ _ = w6
      replace h5 : Lies w6 b5 23 (headA s r (t - (1 + d)) g) := by rw [← hgw]; exact h5.put 2 _
      replace h6 : Lies w6 b6 23 (headA s r t g) := by rw [← hgw]; exact h6.far (p := ⟨b5, 2, none⟩) (fun h => hne h.symm) _
      replace hl : Lies w6 W.heap.size 23 (headA s r t g) := by rw [← hgw]; exact hl.far (p := ⟨b5, 2, none⟩) (Nat.ne_of_lt hl5) _
      replace hB : Below W.heap.size W w6 := by rw [← hgw]; exact hB.setCell (p := ⟨b5, 2, none⟩) (show W.heap.size ≤ b5 by omega) _
      clear hgw
      have c0 := hd_s h6
      have f0 := h6.frozen 0
      go_upto_region 7 with fail
      clear c0 f0
      generalize hgw : World.setCell _ _ _ = w7
      replace h6 : Lies w7 b6 23 (headA (s - (1 + d)) r t g) := by rw [← hgw]; exact h6.put 0 _
      replace h5 : Lies w7 b5 23 (headA s r (t - (1 + d)) g) := by rw [← hgw]; exact h5.far (p := ⟨b6, 0, none⟩) hne _
      replace hl : Lies w7 W.heap.size 23 (headA s r t g) := by rw [← hgw]; exact hl.far (p := ⟨b6, 0, none⟩) (Nat.ne_of_lt hl6) _
      replace hB : Below W.heap.size W w7 := by rw [← hgw]; exact hB.setCell (p := ⟨b6, 0, none⟩) (show W.heap.size ≤ b6 by omega) _
      clear hgw
      have HA0 := Lib.hid (fun w hb => HG.out w hb s t)
      have HA1 := Lib.hid (fun w hb => HG.out w hb s (t - (1 + d)))
      have HA2 := Lib.hid (fun w hb => HG.out w hb (s - (1 + d)) t)
      rw [goes_older hm (1 + d) (by omega)] at HA1
      rw [goes_fewer hm (1 + d) (by omega)] at HA2
      have hself := goes_self hm
      obtain ⟨E, hE⟩ : ∃ E, goesE s r t g s r t g [] = E := ⟨_, rfl⟩
      rw [hE] at HA0 hself
      clear hE HG hm HR HF
      clear hq hq1 hq2 hd a5
      generalize hto : t - (1 + d) = to1 at *
      generalize hsf : s - (1 + d) = sf at *
      clear hto hsf hd1 hd2 a1 a2 a3 a4
      by_cases c1 : to1 < 0
      · rw [if_pos c1] at HA1
        by_cases c2 : sf < 0
        · rw [if_pos c2] at HA2
          rcases hself with rfl | ⟨rfl, rfl⟩
          · have c5 := hd_t h5
            have c6 := hd_s h6
            go_wp2_with (first
              | ((with_reducible refine wpL_load W.heap.size 23 (headA s r t g) 4 rowHead rfl hl ?_ ?_); rfl)
              | ((with_reducible refine wpL_load_gH W.heap.size 23 (headA s r t g) 4 rowHead rfl hl ?_ ?_ ?_); rfl; rfl)
              | ((with_reducible refine wpL_load_gH b5 23 (headA s r to1 g) 4 rowHead rfl h5 ?_ ?_ ?_); rfl; rfl)
              | ((with_reducible refine wpL_load_gH b6 23 (headA sf r t g) 4 rowHead rfl h6 ?_ ?_ ?_); rfl; rfl)
              | (go_at_call 14; (with_reducible refine (HAl.out _ hB).mono ?_); rintro e wa ⟨rfl, hb⟩; replace hl := hl.on hb; replace h5 := h5.on hb; replace h6 := h6.on hb; replace hB := below_on hB hb; clear hb; have p0 := hd_s hl)
              | (go_at_call 23; (with_reducible refine (HA0.out _ hB).mono ?_); rintro e wg ⟨rfl, hb⟩; replace hl := hl.on hb; replace h5 := h5.on hb; replace h6 := h6.on hb; replace hB := below_on hB hb; clear hb)
              | (go_at_call 23; (with_reducible refine (HA1.out _ hB).mono ?_); rintro e wh ⟨rfl, hb⟩; replace hl := hl.on hb; replace h5 := h5.on hb; replace h6 := h6.on hb; replace hB := below_on hB hb; clear hb)
              | (go_at_call 23; (with_reducible refine (HA2.out _ hB).mono ?_); rintro e wi ⟨rfl, hb⟩; replace hl := hl.on hb; replace h5 := h5.on hb; replace h6 := h6.on hb; replace hB := below_on hB hb; clear hb))
            go_ret
            exact ⟨rfl, hB⟩
          · have c5 := hd_t h5
            have c6 := hd_s h6
            go_wp2_with (first
              | ((with_reducible refine wpL_load W.heap.size 23 (headA 0 r t g) 4 rowHead rfl hl ?_ ?_); rfl)
              | ((with_reducible refine wpL_load_gH W.heap.size 23 (headA 0 r t g) 4 rowHead rfl hl ?_ ?_ ?_); rfl; rfl)
              | ((with_reducible refine wpL_load_gH b5 23 (headA 0 r to1 g) 4 rowHead rfl h5 ?_ ?_ ?_); rfl; rfl)
              | ((with_reducible refine wpL_load_gH b6 23 (headA sf r t g) 4 rowHead rfl h6 ?_ ?_ ?_); rfl; rfl)
              | (go_at_call 14; (with_reducible refine (HAl.out _ hB).mono ?_); rintro e wa ⟨rfl, hb⟩; replace hl := hl.on hb; replace h5 := h5.on hb; replace h6 := h6.on hb; replace hB := below_on hB hb; clear hb; have p0 := hd_s hl)
              | (go_at_call 23; (with_reducible refine (HA0.out _ hB).mono ?_); rintro e wg ⟨rfl, hb⟩; replace hl := hl.on hb; replace h5 := h5.on hb; replace h6 := h6.on hb; replace hB := below_on hB hb; clear hb)
              | (go_at_call 23; (with_reducible refine (HA1.out _ hB).mono ?_); rintro e wh ⟨rfl, hb⟩; replace hl := hl.on hb; replace h5 := h5.on hb; replace h6 := h6.on hb; replace hB := below_on hB hb; clear hb)
              | (go_at_call 23; (with_reducible refine (HA2.out _ hB).mono ?_); rintro e wi ⟨rfl, hb⟩; replace hl := hl.on hb; replace h5 := h5.on hb; replace h6 := h6.on hb; replace hB := below_on hB hb; clear hb))
            go_ret
            exact ⟨rfl, hB⟩
        · rw [if_neg c2] at HA2
          rcases hself with rfl | ⟨rfl, rfl⟩
          · have c5 := hd_t h5
            have c6 := hd_s h6
            go_wp2_with (first
              | ((with_reducible refine wpL_load W.heap.size 23 (headA s r t g) 4 rowHead rfl hl ?_ ?_); rfl)
              | ((with_reducible refine wpL_load_gH W.heap.size 23 (headA s r t g) 4 rowHead rfl hl ?_ ?_ ?_); rfl; rfl)
              | ((with_reducible refine wpL_load_gH b5 23 (headA s r to1 g) 4 rowHead rfl h5 ?_ ?_ ?_); rfl; rfl)
              | ((with_reducible refine wpL_load_gH b6 23 (headA sf r t g) 4 rowHead rfl h6 ?_ ?_ ?_); rfl; rfl)
              | (go_at_call 14; (with_reducible refine (HAl.out _ hB).mono ?_); rintro e wa ⟨rfl, hb⟩; replace hl := hl.on hb; replace h5 := h5.on hb; replace h6 := h6.on hb; replace hB := below_on hB hb; clear hb; have p0 := hd_s hl)
              | (go_at_call 23; (with_reducible refine (HA0.out _ hB).mono ?_); rintro e wg ⟨rfl, hb⟩; replace hl := hl.on hb; replace h5 := h5.on hb; replace h6 := h6.on hb; replace hB := below_on hB hb; clear hb)
              | (go_at_call 23; (with_reducible refine (HA1.out _ hB).mono ?_); rintro e wh ⟨rfl, hb⟩; replace hl := hl.on hb; replace h5 := h5.on hb; replace h6 := h6.on hb; replace hB := below_on hB hb; clear hb)
              | (go_at_call 23; (with_reducible refine (HA2.out _ hB).mono ?_); rintro e wi ⟨rfl, hb⟩; replace hl := hl.on hb; replace h5 := h5.on hb; replace h6 := h6.on hb; replace hB := below_on hB hb; clear hb))
            go_ret
            exact ⟨rfl, hB⟩
          · have c5 := hd_t h5
            have c6 := hd_s h6
            go_wp2_with (first
              | ((with_reducible refine wpL_load W.heap.size 23 (headA 0 r t g) 4 rowHead rfl hl ?_ ?_); rfl)
              | ((with_reducible refine wpL_load_gH W.heap.size 23 (headA 0 r t g) 4 rowHead rfl hl ?_ ?_ ?_); rfl; rfl)
              | ((with_reducible refine wpL_load_gH b5 23 (headA 0 r to1 g) 4 rowHead rfl h5 ?_ ?_ ?_); rfl; rfl)
              | ((with_reducible refine wpL_load_gH b6 23 (headA sf r t g) 4 rowHead rfl h6 ?_ ?_ ?_); rfl; rfl)
              | (go_at_call 14; (with_reducible refine (HAl.out _ hB).mono ?_); rintro e wa ⟨rfl, hb⟩; replace hl := hl.on hb; replace h5 := h5.on hb; replace h6 := h6.on hb; replace hB := below_on hB hb; clear hb; have p0 := hd_s hl)
              | (go_at_call 23; (with_reducible refine (HA0.out _ hB).mono ?_); rintro e wg ⟨rfl, hb⟩; replace hl := hl.on hb; replace h5 := h5.on hb; replace h6 := h6.on hb; replace hB := below_on hB hb; clear hb)
              | (go_at_call 23; (with_reducible refine (HA1.out _ hB).mono ?_); rintro e wh ⟨rfl, hb⟩; replace hl := hl.on hb; replace h5 := h5.on hb; replace h6 := h6.on hb; replace hB := below_on hB hb; clear hb)
              | (go_at_call 23; (with_reducible refine (HA2.out _ hB).mono ?_); rintro e wi ⟨rfl, hb⟩; replace hl := hl.on hb; replace h5 := h5.on hb; replace h6 := h6.on hb; replace hB := below_on hB hb; clear hb))
            go_ret
            exact ⟨rfl, hB⟩
      · rw [if_neg c1] at HA1
        by_cases c2 : sf < 0
        · rw [if_pos c2] at HA2
          rcases hself with rfl | ⟨rfl, rfl⟩
          · have c5 := hd_t h5
            have c6 := hd_s h6
            go_wp2_with (first
              | ((with_reducible refine wpL_load W.heap.size 23 (headA s r t g) 4 rowHead rfl hl ?_ ?_); rfl)
              | ((with_reducible refine wpL_load_gH W.heap.size 23 (headA s r t g) 4 rowHead rfl hl ?_ ?_ ?_); rfl; rfl)
              | ((with_reducible refine wpL_load_gH b5 23 (headA s r to1 g) 4 rowHead rfl h5 ?_ ?_ ?_); rfl; rfl)
              | ((with_reducible refine wpL_load_gH b6 23 (headA sf r t g) 4 rowHead rfl h6 ?_ ?_ ?_); rfl; rfl)
              | (go_at_call 14; (with_reducible refine (HAl.out _ hB).mono ?_); rintro e wa ⟨rfl, hb⟩; replace hl := hl.on hb; replace h5 := h5.on hb; replace h6 := h6.on hb; replace hB := below_on hB hb; clear hb; have p0 := hd_s hl)
              | (go_at_call 23; (with_reducible refine (HA0.out _ hB).mono ?_); rintro e wg ⟨rfl, hb⟩; replace hl := hl.on hb; replace h5 := h5.on hb; replace h6 := h6.on hb; replace hB := below_on hB hb; clear hb)
              | (go_at_call 23; (with_reducible refine (HA1.out _ hB).mono ?_); rintro e wh ⟨rfl, hb⟩; replace hl := hl.on hb; replace h5 := h5.on hb; replace h6 := h6.on hb; replace hB := below_on hB hb; clear hb)
              | (go_at_call 23; (with_reducible refine (HA2.out _ hB).mono ?_); rintro e wi ⟨rfl, hb⟩; replace hl := hl.on hb; replace h5 := h5.on hb; replace h6 := h6.on hb; replace hB := below_on hB hb; clear hb))
            go_ret
            exact ⟨rfl, hB⟩
          · have c5 := hd_t h5
            have c6 := hd_s h6
            go_wp2_with (first
              | ((with_reducible refine wpL_load W.heap.size 23 (headA 0 r t g) 4 rowHead rfl hl ?_ ?_); rfl)
              | ((with_reducible refine wpL_load_gH W.heap.size 23 (headA 0 r t g) 4 rowHead rfl hl ?_ ?_ ?_); rfl; rfl)
              | ((with_reducible refine wpL_load_gH b5 23 (headA 0 r to1 g) 4 rowHead rfl h5 ?_ ?_ ?_); rfl; rfl)
              | ((with_reducible refine wpL_load_gH b6 23 (headA sf r t g) 4 rowHead rfl h6 ?_ ?_ ?_); rfl; rfl)
              | (go_at_call 14; (with_reducible refine (HAl.out _ hB).mono ?_); rintro e wa ⟨rfl, hb⟩; replace hl := hl.on hb; replace h5 := h5.on hb; replace h6 := h6.on hb; replace hB := below_on hB hb; clear hb; have p0 := hd_s hl)
              | (go_at_call 23; (with_reducible refine (HA0.out _ hB).mono ?_); rintro e wg ⟨rfl, hb⟩; replace hl := hl.on hb; replace h5 := h5.on hb; replace h6 := h6.on hb; replace hB := below_on hB hb; clear hb)
              | (go_at_call 23; (with_reducible refine (HA1.out _ hB).mono ?_); rintro e wh ⟨rfl, hb⟩; replace hl := hl.on hb; replace h5 := h5.on hb; replace h6 := h6.on hb; replace hB := below_on hB hb; clear hb)
              | (go_at_call 23; (with_reducible refine (HA2.out _ hB).mono ?_); rintro e wi ⟨rfl, hb⟩; replace hl := hl.on hb; replace h5 := h5.on hb; replace h6 := h6.on hb; replace hB := below_on hB hb; clear hb))
            go_ret
            exact ⟨rfl, hB⟩
        · rw [if_neg c2] at HA2
          rcases hself with rfl | ⟨rfl, rfl⟩
          · have c5 := hd_t h5
            have c6 := hd_s h6
            go_wp2_with (first
              | ((with_reducible refine wpL_load W.heap.size 23 (headA s r t g) 4 rowHead rfl hl ?_ ?_); rfl)
              | ((with_reducible refine wpL_load_gH W.heap.size 23 (headA s r t g) 4 rowHead rfl hl ?_ ?_ ?_); rfl; rfl)
              | ((with_reducible refine wpL_load_gH b5 23 (headA s r to1 g) 4 rowHead rfl h5 ?_ ?_ ?_); rfl; rfl)
              | ((with_reducible refine wpL_load_gH b6 23 (headA sf r t g) 4 rowHead rfl h6 ?_ ?_ ?_); rfl; rfl)
              | (go_at_call 14; (with_reducible refine (HAl.out _ hB).mono ?_); rintro e wa ⟨rfl, hb⟩; replace hl := hl.on hb; replace h5 := h5.on hb; replace h6 := h6.on hb; replace hB := below_on hB hb; clear hb; have p0 := hd_s hl)
              | (go_at_call 23; (with_reducible refine (HA0.out _ hB).mono ?_); rintro e wg ⟨rfl, hb⟩; replace hl := hl.on hb; replace h5 := h5.on hb; replace h6 := h6.on hb; replace hB := below_on hB hb; clear hb)
              | (go_at_call 23; (with_reducible refine (HA1.out _ hB).mono ?_); rintro e wh ⟨rfl, hb⟩; replace hl := hl.on hb; replace h5 := h5.on hb; replace h6 := h6.on hb; replace hB := below_on hB hb; clear hb)
              | (go_at_call 23; (with_reducible refine (HA2.out _ hB).mono ?_); rintro e wi ⟨rfl, hb⟩; replace hl := hl.on hb; replace h5 := h5.on hb; replace h6 := h6.on hb; replace hB := below_on hB hb; clear hb))
            go_ret
            exact ⟨rfl, hB⟩
          · have c5 := hd_t h5
            have c6 := hd_s h6
            go_wp2_with (first
              | ((with_reducible refine wpL_load W.heap.size 23 (headA 0 r t g) 4 rowHead rfl hl ?_ ?_); rfl)
              | ((with_reducible refine wpL_load_gH W.heap.size 23 (headA 0 r t g) 4 rowHead rfl hl ?_ ?_ ?_); rfl; rfl)
              | ((with_reducible refine wpL_load_gH b5 23 (headA 0 r to1 g) 4 rowHead rfl h5 ?_ ?_ ?_); rfl; rfl)
              | ((with_reducible refine wpL_load_gH b6 23 (headA sf r t g) 4 rowHead rfl h6 ?_ ?_ ?_); rfl; rfl)
              | (go_at_call 14; (with_reducible refine (HAl.out _ hB).mono ?_); rintro e wa ⟨rfl, hb⟩; replace hl := hl.on hb; replace h5 := h5.on hb; replace h6 := h6.on hb; replace hB := below_on hB hb; clear hb; have p0 := hd_s hl)
              | (go_at_call 23; (with_reducible refine (HA0.out _ hB).mono ?_); rintro e wg ⟨rfl, hb⟩; replace hl := hl.on hb; replace h5 := h5.on hb; replace h6 := h6.on hb; replace hB := below_on hB hb; clear hb)
              | (go_at_call 23; (with_reducible refine (HA1.out _ hB).mono ?_); rintro e wh ⟨rfl, hb⟩; replace hl := hl.on hb; replace h5 := h5.on hb; replace h6 := h6.on hb; replace hB := below_on hB hb; clear hb)
              | (go_at_call 23; (with_reducible refine (HA2.out _ hB).mono ?_); rintro e wi ⟨rfl, hb⟩; replace hl := hl.on hb; replace h5 := h5.on hb; replace h6 := h6.on hb; replace hB := below_on hB hb; clear hb))
            go_ret
            exact ⟨rfl, hB⟩
end Go.Proofs.YtdjglghecekeoaaGreatDoor.J
