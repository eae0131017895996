/- The walk of the statement of trees that go on two ways: whatever data, it answers true. -/
import Derived.Test.YtakmlmgffgoecaaDoorL8
import Derived.Deep.CutRange
import Derived.Deep.CutBlock
namespace Go.Proofs.YtakmlmgffgoecaaDoor.R
open Go.RowKit Go.Sort Go.Proofs.YtakmlmgffgoecaaDoor.U
set_option maxRecDepth 100000

/-- a row of two texts -/
abbrev sayTwoS (x y : List UInt8) : Said := fun v w => ∃ g, v = .slice (some ⟨g, 0, none⟩) 2 2 ∧ Lies w g 9 #[.string (bytesOf x), .string (bytesOf y)]
theorem sayTwoS_mono (x y : List UInt8) : ∀ v w w', sayTwoS x y v w → Below w.heap.size w w' → sayTwoS x y v w' := fun _ _ _ ⟨g, hv, hl⟩ hb => ⟨g, hv, hl.on hb⟩
theorem twoS_strs {w : World} {g : Nat} {x y : List UInt8} (h : Lies w g 9 #[.string (bytesOf x), .string (bytesOf y)]) : Strs w (.slice (some ⟨g, 0, none⟩) 2 2) [x, y] := by
  refine ⟨some ⟨g, 0, none⟩, 2, rfl, Nat.le_refl _, by unfold maxLen; omega, (fun h => by cases h), fun _ => ⟨g, 0, rfl, fun i z hi => ?_⟩⟩
  match i, hi with
  | 0, hi =>
    have : x = z := by simpa using hi
    subst this
    exact h.cell 0
  | 1, hi =>
    have : y = z := by simpa using hi
    subst this
    exact h.cell 1
/-- what goes on from parts that may be -/
theorem add_any (n : Nat) (ps : List (List UInt8)) (hps : ps.length = ones n ∧ ∀ x ∈ ps, x.length = 32) (l : List (List UInt8)) (hl : ∀ x ∈ l, x.length = 32) (h : n + l.length ≤ 4096) (w : World) (hT : Tab w) (v : Value) (hs : Strs w v ps) (lv : Value) (hls : Strs w lv l) :
    Calls Tryd.prog 20 #[.agg (growA (n : Int) v), lv] w fun e w' => ∃ u, e = .returned u ∧ Below w.heap.size w w' ∧ sayAdd ((n : Int) + (l.length : Int)) (addL n ps l) u w' := by
  have h3 := ones_le n (by omega)
  have hm : mayB (n : Int) ps = true := by
    unfold mayB rowB
    rw [Int.toNat_natCast, allB_of hps.2, decide_eq_true hps.1, decide_eq_true (show (0 : Int) ≤ (n : Int) by omega), decide_eq_true (show (n : Int) ≤ 4096 by omega), decide_eq_true (show ps.length ≤ 4096 by omega)]
    rfl
  have hr : rowB l = true := by
    unfold rowB
    rw [allB_of hl, decide_eq_true (show l.length ≤ 4096 by omega)]
    rfl
  exact add_say n v lv ps l w hs hls hm hr h hT
attribute [local irreducible] addL

set_option maxHeartbeats 6400000 in
theorem keeps_walk (v : Value) (l : List (List UInt8)) (x1 x2 : List UInt8) (W : World) (hs0 : Strs W v l) (hx : ∀ x ∈ l, x.length ≤ maxLen) (h1 : x1.length ≤ reachBytes) (h2 : x2.length ≤ reachBytes) (hT : Tab W) :
    Calls Tryd.prog 6 #[v, .string (bytesOf x1), .string (bytesOf x2)] W fun e w' => e = .returned (.bool true) ∧ Below W.heap.size W w' := by
  have HT := Lib.hid hT
  have hm1 : x1.length ≤ 281474976700000 := Nat.le_trans h1 (by decide)
  have hm2 : x2.length ≤ 281474976700000 := Nat.le_trans h2 (by decide)
  have HLf : Hid (∀ (x : List UInt8), x.length ≤ 281474976700000 → ∀ w, Below W.heap.size W w → Calls Tryd.prog 11 #[.string (bytesOf x)] w fun e w' => e = .returned (.string (bytesOf (lf x))) ∧ Below w.heap.size w w') := Lib.hid (fun x hx w hb => leaf_any x w hx (hT.below hb))
  have HAd : Hid (∀ (n : Nat) (ps : List (List UInt8)), (ps.length = ones n ∧ ∀ x ∈ ps, x.length = 32) → ∀ l : List (List UInt8), (∀ x ∈ l, x.length = 32) → n + l.length ≤ 4096 → ∀ w, Below W.heap.size W w → ∀ v, Strs w v ps → ∀ lv, Strs w lv l → Calls Tryd.prog 20 #[.agg (growA (n : Int) v), lv] w fun e w' => ∃ u, e = .returned u ∧ Below w.heap.size w w' ∧ sayAdd ((n : Int) + (l.length : Int)) (addL n ps l) u w') :=
    Lib.hid (fun n ps hps l hl hn w hb v hv lv hlv => add_any n ps hps l hl hn w (hT.below hb) v hv lv hlv)
  obtain ⟨ao, c0, rfl, hc0, hm0, hna, hcl⟩ := hs0
  unfold maxLen at hm0 hx
  clear hT h1 h2
  go_enter Tryd.func6, Tryd.ntmps6
  go_upto_block 0 with fail
  go_cut [8, 9, 10, 11] from 23 to 45 (fun _ _ _ _ wx => ∃ (k : Nat) (ps : List (List UInt8)) (a : Option Addr) (c : Nat), k ≤ 20 ∧ Hid (ps.length = ones k ∧ ∀ x ∈ ps, x.length = 32) ∧ Lies wx W.heap.size 34 (growA (k : Int) (.slice a ps.length c)) ∧ Strs wx (.slice a ps.length c) ps ∧ Below W.heap.size W wx)
  case first =>
    go_wp2
    go_loopw [23] (fun iv wr => ∃ (k : Nat) (ps : List (List UInt8)) (a : Option Addr) (c : Nat), k ≤ l.length ∧ k ≤ 20 ∧ iv = .int .i64 k ∧ Hid (ps.length = ones k ∧ ∀ x ∈ ps, x.length = 32) ∧ Lies wr W.heap.size 34 (growA (k : Int) (.slice a ps.length c)) ∧ Strs wr (.slice a ps.length c) ps ∧ Below W.heap.size W wr) (fun iv _ => l.length - (intOf iv).toNat)
    case atStart => exact ⟨0, [], none, 0, Nat.zero_le _, Nat.zero_le _, rfl, Lib.hid ⟨rfl, fun x hx => by cases hx⟩, Lies.new W _ _, Strs.nil _, (Below.refl _ _).alloc (Nat.le_refl _) _⟩
    case round =>
      obtain ⟨k, ps, a, c, hk, hk20, rfl, HPS, hl, hs, hB⟩ := hrel
      by_cases hlt : k < l.length
      · by_cases h20 : k = 20
        · subst h20
          obtain ⟨b, off, rfl, hcell⟩ := hcl (by intro h; subst h; simp at hlt)
          obtain ⟨x, hxk⟩ : ∃ x, l[20]? = some x := ⟨l[20], List.getElem?_eq_getElem hlt⟩
          have hc4 := hcell 20 x hxk
          replace hc4 := (hB.cell (p := ⟨b, off + 20, none⟩) (World.block_lt_of_cell? W _ hc4)).trans hc4
          unfold str at hc4
          clear hxk hcell hcl
          go_wp2
          go_meet
          exact ⟨20, ps, a, c, hk20, HPS, hl, hs, hB⟩
        · have hlt20 : k < 20 := by omega
          obtain ⟨b, off, rfl, hcell⟩ := hcl (by intro h; subst h; simp at hlt)
          obtain ⟨x, hxk⟩ : ∃ x, l[k]? = some x := ⟨l[k], List.getElem?_eq_getElem hlt⟩
          have hc4 := hcell k x hxk
          have hxl := hx x (List.mem_of_getElem? hxk)
          replace hc4 := (hB.cell (p := ⟨b, off + k, none⟩) (World.block_lt_of_cell? W _ hc4)).trans hc4
          unfold str at hc4
          clear hxk hcell hcl
          have hps := HPS.out
          clear HPS
          go_upto_region 6 with fail
          refine wp_region_rel_late 11 13 13 _ [sayFix (.agg (growA (k : Int) (.slice a ps.length c))), sayFix (.string (bytesOf x)), sayFix (.string (bytesOf x)), sayFix (.int .i64 (x.length : Int)), sayFix (.int .i64 (min (x.length : Int) 50)), sayFix (.string (bytesOf (x.take 50))), sayFix (.string (bytesOf (lf (x.take 50)))), sayOneS (lf (x.take 50)), sayAdd ((k : Int) + 1) (addL k ps [lf (x.take 50)]), sayAdd ((k : Int) + 1) (addL k ps [lf (x.take 50)]), sayGrow ((k : Int) + 1) (addL k ps [lf (x.take 50)]), sayFix (.int .i64 0), sayNewG wr.heap.size] rfl rfl (by kernel_rfl) (by kernel_rfl) (by kernel_rfl) (fun r hr => by
            simp only [List.mem_cons, List.not_mem_nil, or_false] at hr
            rcases hr with rfl | rfl | rfl | rfl | rfl | rfl | rfl | rfl | rfl | rfl | rfl | rfl | rfl <;> first | exact sayFix_mono _ | exact sayOneS_mono _ | exact sayTwoS_mono _ _ | exact sayAdd_mono _ _ | exact sayGrow_mono _ _ | exact sayNewG_mono _) ?_
          simp only [addEdge, List.take_succ_cons, List.take_zero, List.drop_succ_cons, List.drop_zero, List.zip_cons_cons, List.zip_nil_right]
          refine wpRel_step (fun w hb hG => ?_) (fun v0 => ?_)
          · exact does_run (.agg (growA (k : Int) (.slice a ps.length c))) (run_ldG W.heap.size _ _ _ (hl.on hb) rfl) rfl
          simp only [Act.put, List.setIfInBounds_toArray, List.set_cons_succ, List.set_cons_zero, Option.getD_some]
          refine wpRel_step (fun w hb hG => ?_) (fun v1 => ?_)
          · exact does_run (.string (bytesOf x)) rfl rfl
          simp only [Act.put, List.setIfInBounds_toArray, List.set_cons_succ, List.set_cons_zero, Option.getD_some]
          refine wpRel_step (fun w hb hG => ?_) (fun v2 => ?_)
          · exact does_run (.string (bytesOf x)) rfl rfl
          simp only [Act.put, List.setIfInBounds_toArray, List.set_cons_succ, List.set_cons_zero, Option.getD_some]
          refine wpRel_step (fun w hb hG => ?_) (fun v3 => ?_)
          · obtain rfl := laid_at 0 hG rfl (by decide)
            exact does_run (.int .i64 (x.length : Int)) (run_lenS x rfl w) rfl
          simp only [Act.put, List.setIfInBounds_toArray, List.set_cons_succ, List.set_cons_zero, Option.getD_some]
          refine wpRel_step (fun w hb hG => ?_) (fun v4 => ?_)
          · obtain rfl := laid_at 0 hG rfl (by decide)
            exact does_run (.int .i64 (min (x.length : Int) 50)) (run_minI _ _ rfl w) rfl
          simp only [Act.put, List.setIfInBounds_toArray, List.set_cons_succ, List.set_cons_zero, Option.getD_some]
          refine wpRel_step (fun w hb hG => ?_) (fun v5 => ?_)
          · obtain rfl := laid_at 3 hG rfl (by decide)
            obtain rfl := laid_at 0 hG rfl (by decide)
            exact does_run (.string (bytesOf (x.take 50))) (run_cutS x 50 rfl rfl w) rfl
          simp only [Act.put, List.setIfInBounds_toArray, List.set_cons_succ, List.set_cons_zero, Option.getD_some]
          refine wpRel_step (fun w hb hG => ?_) (fun v6 => ?_)
          · obtain rfl := laid_at 0 hG rfl (by decide)
            exact does_call 11 #[(.string (bytesOf (x.take 50)))] (by kernel_rfl) ((HLf.out (x.take 50) (by rw [List.length_take]; omega) w (hB.trans (hb.mono hB.size))).mono fun e w' ⟨he, h2⟩ => ⟨_, he, h2, rfl⟩)
          simp only [Act.put, List.setIfInBounds_toArray, List.set_cons_succ, List.set_cons_zero, Option.getD_some]
          refine wpRel_step (fun w hb hG => ?_) (fun v7 => ?_)
          · obtain rfl := laid_at 0 hG rfl (by decide)
            exact does_made (.slice (some ⟨w.heap.size, 0, none⟩) 1 1) (w' := w.alloc (.cells #[(.string (bytesOf (lf (x.take 50))))] 9)) (by kernel_rfl) (grown_alloc w _) ⟨w.heap.size, rfl, Lies.new w _ _⟩
          simp only [Act.put, List.setIfInBounds_toArray, List.set_cons_succ, List.set_cons_zero, Option.getD_some]
          refine wpRel_step (fun w hb hG => ?_) (fun v8 => ?_)
          · obtain rfl := laid_at 7 hG rfl (by decide)
            obtain ⟨g, rfl, hg⟩ := laid_at 0 hG rfl (by decide)
            exact does_call 20 #[(.agg (growA (k : Int) (.slice a ps.length c))), .slice (some ⟨g, 0, none⟩) 1 1] (by kernel_rfl) (HAd.out k ps hps [lf (x.take 50)] (by intro y hy; rw [List.mem_singleton.1 hy]; exact lf_length _) (by simp; omega) w (hB.trans (hb.mono hB.size)) _ (hs.below hb) _ (oneS_strs hg))
          simp only [Act.put, List.setIfInBounds_toArray, List.set_cons_succ, List.set_cons_zero, Option.getD_some]
          refine wpRel_step (fun w hb hG => ?_) (fun v9 => ?_)
          · obtain ⟨a2, c2, rfl, hs2⟩ := laid_at 0 hG rfl (by decide)
            exact does_run _ rfl ⟨a2, c2, rfl, hs2⟩
          simp only [Act.put, List.setIfInBounds_toArray, List.set_cons_succ, List.set_cons_zero, Option.getD_some]
          refine wpRel_step (fun w hb hG => ?_) (fun v10 => ?_)
          · obtain ⟨a2, c2, rfl, hs2⟩ := laid_at 0 hG rfl (by decide)
            exact does_run (.agg (growA ((k : Int) + 1) (.slice a2 ((addL k ps [lf (x.take 50)])).length c2))) (by kernel_rfl) ⟨a2, c2, rfl, hs2⟩
          simp only [Act.put, List.setIfInBounds_toArray, List.set_cons_succ, List.set_cons_zero, Option.getD_some]
          refine wpRel_step (fun w hb hG => ?_) (fun v11 => ?_)
          · obtain ⟨a2, c2, rfl, hs2⟩ := laid_at 1 hG rfl (by decide)
            exact does_run (.int .i64 0) (by kernel_rfl) rfl
          simp only [Act.put, List.setIfInBounds_toArray, List.set_cons_succ, List.set_cons_zero, Option.getD_some]
          refine wpRel_step (fun w hb hG => ?_) (fun v12 => ?_)
          · exact does_made (.pointer (some ⟨w.heap.size, 0, none⟩)) (w' := w.alloc (.cells noA 34)) (by kernel_rfl) (grown_alloc w _) ⟨w.heap.size, rfl, hb.size, Lies.new w _ _⟩
          simp only [Act.put, List.setIfInBounds_toArray, List.set_cons_succ, List.set_cons_zero, Option.getD_some]
          refine wpRel_nil (fun w2 hb hG => ?_)
          obtain ⟨gx, rfl, hgx, hlx⟩ := hG _ (List.mem_of_getElem? (i := 0) rfl)
          obtain rfl := hG _ (List.mem_of_getElem? (i := 1) rfl)
          obtain ⟨a2, c2, rfl, hs2⟩ := hG _ (List.mem_of_getElem? (i := 2) rfl)
          clear hG
          have hlt2 := hl.lt
          have hl2 := hl.on hb
          have hB2 := below_on hB hb
          have hbsz := hB.size
          have hok := addL_ok [lf (x.take 50)] k ps hps.1 hps.2 (by intro y hy; rw [List.mem_singleton.1 hy]; exact lf_length _)
          rw [show k + [lf (x.take 50)].length = k + 1 from rfl] at hok
          generalize hqq : addL k ps [lf (x.take 50)] = q at *
          have hlx3 : Lies (w2.setRow gx (growA ((k : Int) + 1) (.slice a2 q.length c2))) gx 34 (growA ((k : Int) + 1) (.slice a2 q.length c2)) := hlx.row _
          have hl3 : Lies (w2.setRow gx (growA ((k : Int) + 1) (.slice a2 q.length c2))) W.heap.size 34 (growA (k : Int) (.slice a ps.length c)) := hl2.rowFar (by omega) _
          have hs3 := strs_only hs2 hlx (growA_str _ _ _ _) ((Only.refl w2 gx).row (Or.inl rfl) (growA ((k : Int) + 1) (.slice a2 q.length c2)))
          have hB3 := below_rowSet hB2 (show W.heap.size ≤ gx by omega) (growA ((k : Int) + 1) (.slice a2 q.length c2))
          have HOK := Lib.hid hok
          clear hs hl hs2 hok hps hqq
          go_wp2_with (first
            | ((with_reducible refine wpL_store gx 34 noA (growA ((k : Int) + 1) (.slice a2 q.length c2)) 2 rowGrow rfl rfl (growA_one _ _ _ _) hlx ?_ ?_ ?_); rfl; rfl)
            | ((with_reducible refine wpL_load gx 34 (growA ((k : Int) + 1) (.slice a2 q.length c2)) 2 rowGrow rfl hlx3 ?_ ?_); rfl)
            | ((with_reducible refine wpL_store W.heap.size 34 (growA (k : Int) (.slice a ps.length c)) (growA ((k : Int) + 1) (.slice a2 q.length c2)) 2 rowGrow rfl rfl (growA_one _ _ _ _) hl3 ?_ ?_ ?_); rfl; rfl))
          go_roundw
          case rel => exact ⟨k + 1, q, a2, c2, by omega, by omega, by go_num, HOK, hl3.row _, strs_only hs3 hl3 (growA_str _ _ _ _) ((Only.refl _ W.heap.size).row (Or.inl rfl) _), below_rowSet hB3 (Nat.le_refl _) _⟩
          case measure => simp [intOf]; omega
      · go_wp2
        go_meet
        exact ⟨k, ps, a, c, hk20, HPS, hl, hs, hB⟩
  case rest =>
    obtain ⟨k, ps, a, c, hk20, HPS, hl, hs, hB⟩ := hcut
    clear hcl hna hm0 hc0 hx
    have hps := HPS.out
    have HXZ := Lib.hid (show x1 = x2 → addL k ps [lf x1, lf x2] = addL (k + 1) (addL k ps [lf x2]) [lf x1] by intro h; subst h; exact addL_append [lf x1] [lf x1] k ps)
    have hlen : ps.length ≤ 100000 := by have := ones_le k (by omega); omega
    clear HPS
    have HPS := Lib.hid hps
    clear hps
    have q1 := (hl.on ((Below.refl wc.heap.size wc).alloc (Nat.le_refl _) (.cells #[] 9))).cell 1
    simp only [growA, List.getElem?_toArray, List.getElem?_cons_succ, List.getElem?_cons_zero] at q1
    go_upto_region 12 with ((with_reducible refine wpL_copyS _ _ ps (hs.below ((Below.refl _ _).alloc (Nat.le_refl _) _)) hlen rfl rfl ?_); intro b1 d1 w1 hcp hb1)
    have hb := below_on ((Below.refl wc.heap.size wc).alloc (Nat.le_refl _) _) hb1
    replace hl := hl.on hb
    replace hs := hs.below hb
    replace hB := below_on hB hb
    clear q1 hb1 hb
    refine wp_region_rel_late 9 11 11 _ [sayFix (.agg (growA (k : Int) (.slice a ps.length c))), sayFix (.string (bytesOf x1)), sayFix (.string (bytesOf (lf x1))), sayFix (.string (bytesOf x2)), sayFix (.string (bytesOf (lf x2))), sayTwoS (lf x1) (lf x2), sayAdd ((k : Int) + 2) (addL k ps [lf x1, lf x2]), sayAdd ((k : Int) + 2) (addL k ps [lf x1, lf x2]), sayGrow ((k : Int) + 2) (addL k ps [lf x1, lf x2]), sayFix (.int .i64 0), sayNewG w1.heap.size] rfl rfl (by kernel_rfl) (by kernel_rfl) (by kernel_rfl) (fun r hr => by
      simp only [List.mem_cons, List.not_mem_nil, or_false] at hr
      rcases hr with rfl | rfl | rfl | rfl | rfl | rfl | rfl | rfl | rfl | rfl | rfl <;> first | exact sayFix_mono _ | exact sayOneS_mono _ | exact sayTwoS_mono _ _ | exact sayAdd_mono _ _ | exact sayGrow_mono _ _ | exact sayNewG_mono _) ?_
    simp only [addEdge, List.take_succ_cons, List.take_zero, List.drop_succ_cons, List.drop_zero, List.zip_cons_cons, List.zip_nil_right]
    refine wpRel_step (fun w hb hG => ?_) (fun v0 => ?_)
    · exact does_run (.agg (growA (k : Int) (.slice a ps.length c))) (run_ldG W.heap.size _ _ _ (hl.on hb) rfl) rfl
    simp only [Act.put, List.setIfInBounds_toArray, List.set_cons_succ, List.set_cons_zero, Option.getD_some]
    refine wpRel_step (fun w hb hG => ?_) (fun v1 => ?_)
    · exact does_run (.string (bytesOf x1)) rfl rfl
    simp only [Act.put, List.setIfInBounds_toArray, List.set_cons_succ, List.set_cons_zero, Option.getD_some]
    refine wpRel_step (fun w hb hG => ?_) (fun v2 => ?_)
    · obtain rfl := laid_at 0 hG rfl (by decide)
      exact does_call 11 #[(.string (bytesOf x1))] (by kernel_rfl) ((HLf.out x1 hm1 w (hB.trans (hb.mono hB.size))).mono fun e w' ⟨he, h2⟩ => ⟨_, he, h2, rfl⟩)
    simp only [Act.put, List.setIfInBounds_toArray, List.set_cons_succ, List.set_cons_zero, Option.getD_some]
    refine wpRel_step (fun w hb hG => ?_) (fun v3 => ?_)
    · exact does_run (.string (bytesOf x2)) rfl rfl
    simp only [Act.put, List.setIfInBounds_toArray, List.set_cons_succ, List.set_cons_zero, Option.getD_some]
    refine wpRel_step (fun w hb hG => ?_) (fun v4 => ?_)
    · obtain rfl := laid_at 0 hG rfl (by decide)
      exact does_call 11 #[(.string (bytesOf x2))] (by kernel_rfl) ((HLf.out x2 hm2 w (hB.trans (hb.mono hB.size))).mono fun e w' ⟨he, h2⟩ => ⟨_, he, h2, rfl⟩)
    simp only [Act.put, List.setIfInBounds_toArray, List.set_cons_succ, List.set_cons_zero, Option.getD_some]
    refine wpRel_step (fun w hb hG => ?_) (fun v5 => ?_)
    · obtain rfl := laid_at 2 hG rfl (by decide)
      obtain rfl := laid_at 0 hG rfl (by decide)
      exact does_made (.slice (some ⟨w.heap.size, 0, none⟩) 2 2) (w' := w.alloc (.cells #[.string (bytesOf (lf x1)), .string (bytesOf (lf x2))] 9)) (by kernel_rfl) (grown_alloc w _) ⟨w.heap.size, rfl, Lies.new w _ _⟩
    simp only [Act.put, List.setIfInBounds_toArray, List.set_cons_succ, List.set_cons_zero, Option.getD_some]
    refine wpRel_step (fun w hb hG => ?_) (fun v6 => ?_)
    · obtain rfl := laid_at 5 hG rfl (by decide)
      obtain ⟨g, rfl, hg⟩ := laid_at 0 hG rfl (by decide)
      exact does_call 20 #[(.agg (growA (k : Int) (.slice a ps.length c))), .slice (some ⟨g, 0, none⟩) 2 2] (by kernel_rfl) (HAd.out k ps HPS.out [lf x1, lf x2] (by intro y hy; rcases List.mem_cons.1 hy with rfl | hy; exact lf_length _; rw [List.mem_singleton.1 hy]; exact lf_length _) (by simp; omega) w (hB.trans (hb.mono hB.size)) _ (hs.below hb) _ (twoS_strs hg))
    simp only [Act.put, List.setIfInBounds_toArray, List.set_cons_succ, List.set_cons_zero, Option.getD_some]
    refine wpRel_step (fun w hb hG => ?_) (fun v7 => ?_)
    · obtain ⟨a2, c2, rfl, hs2⟩ := laid_at 0 hG rfl (by decide)
      exact does_run _ rfl ⟨a2, c2, rfl, hs2⟩
    simp only [Act.put, List.setIfInBounds_toArray, List.set_cons_succ, List.set_cons_zero, Option.getD_some]
    refine wpRel_step (fun w hb hG => ?_) (fun v8 => ?_)
    · obtain ⟨a2, c2, rfl, hs2⟩ := laid_at 0 hG rfl (by decide)
      exact does_run (.agg (growA ((k : Int) + 2) (.slice a2 ((addL k ps [lf x1, lf x2])).length c2))) (by kernel_rfl) ⟨a2, c2, rfl, hs2⟩
    simp only [Act.put, List.setIfInBounds_toArray, List.set_cons_succ, List.set_cons_zero, Option.getD_some]
    refine wpRel_step (fun w hb hG => ?_) (fun v9 => ?_)
    · obtain ⟨a2, c2, rfl, hs2⟩ := laid_at 1 hG rfl (by decide)
      exact does_run (.int .i64 0) (by kernel_rfl) rfl
    simp only [Act.put, List.setIfInBounds_toArray, List.set_cons_succ, List.set_cons_zero, Option.getD_some]
    refine wpRel_step (fun w hb hG => ?_) (fun v10 => ?_)
    · exact does_made (.pointer (some ⟨w.heap.size, 0, none⟩)) (w' := w.alloc (.cells noA 34)) (by kernel_rfl) (grown_alloc w _) ⟨w.heap.size, rfl, hb.size, Lies.new w _ _⟩
    simp only [Act.put, List.setIfInBounds_toArray, List.set_cons_succ, List.set_cons_zero, Option.getD_some]
    refine wpRel_nil (fun w2 hb hG => ?_)
    obtain ⟨gx, rfl, hggx, hlgx⟩ := hG _ (List.mem_of_getElem? (i := 0) rfl)
    obtain rfl := hG _ (List.mem_of_getElem? (i := 1) rfl)
    obtain ⟨a2, c2, rfl, hs2⟩ := hG _ (List.mem_of_getElem? (i := 2) rfl)
    clear hG
    have hokgx := Lib.hid (addL_ok [lf x1, lf x2] k ps HPS.out.1 HPS.out.2 (by intro y hy; rcases List.mem_cons.1 hy with rfl | hy; exact lf_length _; rw [List.mem_singleton.1 hy]; exact lf_length _))
    generalize addL k ps [lf x1, lf x2] = X at *
    have hsz0 : W.heap.size < gx := Nat.lt_of_lt_of_le hl.lt hggx
    have hO := (Only.refl w2 gx).row (Or.inl rfl) (growA ((k : Int) + 2) (.slice a2 X.length c2))
    replace hl := (hl.on hb).rowFar (g' := gx) (by omega) (growA ((k : Int) + 2) (.slice a2 X.length c2))
    replace hs := strs_only (hs.below hb) hlgx (growA_str _ _ _ _) hO
    replace hcp := strs_only (hcp.below hb) hlgx (growA_str _ _ _ _) hO
    replace hs2 := strs_only hs2 hlgx (growA_str _ _ _ _) hO
    replace hB := below_rowSet (below_on hB hb) (Nat.le_of_lt hsz0) (growA ((k : Int) + 2) (.slice a2 X.length c2))
    have hl0 := hlgx
    replace hlgx : Lies (w2.setRow gx (growA ((k : Int) + 2) (.slice a2 X.length c2))) gx 34 (growA ((k : Int) + 2) (.slice a2 X.length c2)) := hlgx.row _
    clear hO hb
    go_upto_region 13 with ((with_reducible refine wpL_store gx 34 noA (growA ((k : Int) + 2) (.slice a2 X.length c2)) 2 rowGrow rfl rfl (growA_one _ _ _ _) hl0 ?_ ?_ ?_); rfl; rfl)
    clear hl0 hsz0
    generalize w2.setRow gx (growA ((k : Int) + 2) (.slice a2 X.length c2)) = w3 at *
    have HOX := hokgx
    have hlenX : X.length ≤ 100000 := by have h1 := hokgx.out.1; rw [show k + [lf x1, lf x2].length = k + 2 from rfl] at h1; have := ones_le (k + 2) (by omega); omega
    clear hokgx
    have q1 := (hlgx.on ((Below.refl w3.heap.size w3).alloc (Nat.le_refl _) (.cells #[] 9))).cell 1
    simp only [growA, List.getElem?_toArray, List.getElem?_cons_succ, List.getElem?_cons_zero] at q1
    go_upto_region 14 with ((with_reducible refine wpL_copyS _ _ X (hs2.below ((Below.refl _ _).alloc (Nat.le_refl _) _)) hlenX rfl rfl ?_); intro b2 d2 w4 hcx hb1)
    have hb := below_on ((Below.refl w3.heap.size w3).alloc (Nat.le_refl _) _) hb1
    replace hl := hl.on hb
    replace hlgx := hlgx.on hb
    replace hs := hs.below hb
    replace hcp := hcp.below hb
    replace hs2 := hs2.below hb
    replace hB := below_on hB hb
    clear q1 hb1 hb
    refine wp_region_rel_late 7 9 9 _ [sayFix (.agg (growA (k : Int) (.slice a ps.length c))), sayFix (.string (bytesOf x2)), sayFix (.string (bytesOf (lf x2))), sayOneS (lf x2), sayAdd ((k : Int) + 1) (addL k ps [lf x2]), sayAdd ((k : Int) + 1) (addL k ps [lf x2]), sayGrow ((k : Int) + 1) (addL k ps [lf x2]), sayFix (.int .i64 0), sayNewG w4.heap.size] rfl rfl (by kernel_rfl) (by kernel_rfl) (by kernel_rfl) (fun r hr => by
      simp only [List.mem_cons, List.not_mem_nil, or_false] at hr
      rcases hr with rfl | rfl | rfl | rfl | rfl | rfl | rfl | rfl | rfl <;> first | exact sayFix_mono _ | exact sayOneS_mono _ | exact sayTwoS_mono _ _ | exact sayAdd_mono _ _ | exact sayGrow_mono _ _ | exact sayNewG_mono _) ?_
    simp only [addEdge, List.take_succ_cons, List.take_zero, List.drop_succ_cons, List.drop_zero, List.zip_cons_cons, List.zip_nil_right]
    refine wpRel_step (fun w hb hG => ?_) (fun v0 => ?_)
    · exact does_run (.agg (growA (k : Int) (.slice a ps.length c))) (run_ldG W.heap.size _ _ _ (hl.on hb) rfl) rfl
    simp only [Act.put, List.setIfInBounds_toArray, List.set_cons_succ, List.set_cons_zero, Option.getD_some]
    refine wpRel_step (fun w hb hG => ?_) (fun v1 => ?_)
    · exact does_run (.string (bytesOf x2)) rfl rfl
    simp only [Act.put, List.setIfInBounds_toArray, List.set_cons_succ, List.set_cons_zero, Option.getD_some]
    refine wpRel_step (fun w hb hG => ?_) (fun v2 => ?_)
    · obtain rfl := laid_at 0 hG rfl (by decide)
      exact does_call 11 #[(.string (bytesOf x2))] (by kernel_rfl) ((HLf.out x2 hm2 w (hB.trans (hb.mono hB.size))).mono fun e w' ⟨he, h2⟩ => ⟨_, he, h2, rfl⟩)
    simp only [Act.put, List.setIfInBounds_toArray, List.set_cons_succ, List.set_cons_zero, Option.getD_some]
    refine wpRel_step (fun w hb hG => ?_) (fun v3 => ?_)
    · obtain rfl := laid_at 0 hG rfl (by decide)
      exact does_made (.slice (some ⟨w.heap.size, 0, none⟩) 1 1) (w' := w.alloc (.cells #[(.string (bytesOf (lf x2)))] 9)) (by kernel_rfl) (grown_alloc w _) ⟨w.heap.size, rfl, Lies.new w _ _⟩
    simp only [Act.put, List.setIfInBounds_toArray, List.set_cons_succ, List.set_cons_zero, Option.getD_some]
    refine wpRel_step (fun w hb hG => ?_) (fun v4 => ?_)
    · obtain rfl := laid_at 3 hG rfl (by decide)
      obtain ⟨g, rfl, hg⟩ := laid_at 0 hG rfl (by decide)
      exact does_call 20 #[(.agg (growA (k : Int) (.slice a ps.length c))), .slice (some ⟨g, 0, none⟩) 1 1] (by kernel_rfl) (HAd.out k ps HPS.out [lf x2] (by intro y hy; rw [List.mem_singleton.1 hy]; exact lf_length _) (by simp; omega) w (hB.trans (hb.mono hB.size)) _ (hs.below hb) _ (oneS_strs hg))
    simp only [Act.put, List.setIfInBounds_toArray, List.set_cons_succ, List.set_cons_zero, Option.getD_some]
    refine wpRel_step (fun w hb hG => ?_) (fun v5 => ?_)
    · obtain ⟨a2, c2, rfl, hs2⟩ := laid_at 0 hG rfl (by decide)
      exact does_run _ rfl ⟨a2, c2, rfl, hs2⟩
    simp only [Act.put, List.setIfInBounds_toArray, List.set_cons_succ, List.set_cons_zero, Option.getD_some]
    refine wpRel_step (fun w hb hG => ?_) (fun v6 => ?_)
    · obtain ⟨a2, c2, rfl, hs2⟩ := laid_at 0 hG rfl (by decide)
      exact does_run (.agg (growA ((k : Int) + 1) (.slice a2 ((addL k ps [lf x2])).length c2))) (by kernel_rfl) ⟨a2, c2, rfl, hs2⟩
    simp only [Act.put, List.setIfInBounds_toArray, List.set_cons_succ, List.set_cons_zero, Option.getD_some]
    refine wpRel_step (fun w hb hG => ?_) (fun v7 => ?_)
    · obtain ⟨a2, c2, rfl, hs2⟩ := laid_at 1 hG rfl (by decide)
      exact does_run (.int .i64 0) (by kernel_rfl) rfl
    simp only [Act.put, List.setIfInBounds_toArray, List.set_cons_succ, List.set_cons_zero, Option.getD_some]
    refine wpRel_step (fun w hb hG => ?_) (fun v8 => ?_)
    · exact does_made (.pointer (some ⟨w.heap.size, 0, none⟩)) (w' := w.alloc (.cells noA 34)) (by kernel_rfl) (grown_alloc w _) ⟨w.heap.size, rfl, hb.size, Lies.new w _ _⟩
    simp only [Act.put, List.setIfInBounds_toArray, List.set_cons_succ, List.set_cons_zero, Option.getD_some]
    refine wpRel_nil (fun w5 hb hG => ?_)
    obtain ⟨gy, rfl, hggy, hlgy⟩ := hG _ (List.mem_of_getElem? (i := 0) rfl)
    obtain rfl := hG _ (List.mem_of_getElem? (i := 1) rfl)
    obtain ⟨a3, c3, rfl, hsy⟩ := hG _ (List.mem_of_getElem? (i := 2) rfl)
    clear hG
    have hokgy := Lib.hid (addL_ok [lf x2] k ps HPS.out.1 HPS.out.2 (by intro y hy; rw [List.mem_singleton.1 hy]; exact lf_length _))
    generalize addL k ps [lf x2] = r at *
    have hsz0 : W.heap.size < gy := Nat.lt_of_lt_of_le hl.lt hggy
    have hnhlgx : gx ≠ gy := Nat.ne_of_lt (Nat.lt_of_lt_of_le hlgx.lt hggy)
    have hO := (Only.refl w5 gy).row (Or.inl rfl) (growA ((k : Int) + 1) (.slice a3 r.length c3))
    replace hl := (hl.on hb).rowFar (g' := gy) (by omega) (growA ((k : Int) + 1) (.slice a3 r.length c3))
    replace hlgx := (hlgx.on hb).rowFar (g' := gy) (by omega) (growA ((k : Int) + 1) (.slice a3 r.length c3))
    replace hs := strs_only (hs.below hb) hlgy (growA_str _ _ _ _) hO
    replace hcp := strs_only (hcp.below hb) hlgy (growA_str _ _ _ _) hO
    replace hs2 := strs_only (hs2.below hb) hlgy (growA_str _ _ _ _) hO
    replace hcx := strs_only (hcx.below hb) hlgy (growA_str _ _ _ _) hO
    replace hsy := strs_only hsy hlgy (growA_str _ _ _ _) hO
    replace hB := below_rowSet (below_on hB hb) (Nat.le_of_lt hsz0) (growA ((k : Int) + 1) (.slice a3 r.length c3))
    have hl0 := hlgy
    replace hlgy : Lies (w5.setRow gy (growA ((k : Int) + 1) (.slice a3 r.length c3))) gy 34 (growA ((k : Int) + 1) (.slice a3 r.length c3)) := hlgy.row _
    clear hO hb
    go_upto_region 15 with ((with_reducible refine wpL_store gy 34 noA (growA ((k : Int) + 1) (.slice a3 r.length c3)) 2 rowGrow rfl rfl (growA_one _ _ _ _) hl0 ?_ ?_ ?_); rfl; rfl)
    clear hl0 hsz0
    generalize w5.setRow gy (growA ((k : Int) + 1) (.slice a3 r.length c3)) = w6 at *
    have HR : Hid (r.length = ones (k + 1) ∧ ∀ y ∈ r, y.length = 32) := hokgy
    clear hokgy
    refine wp_region_rel_late 7 9 9 _ [sayFix (.agg (growA ((k : Int) + 1) (.slice a3 r.length c3))), sayFix (.string (bytesOf x1)), sayFix (.string (bytesOf (lf x1))), sayOneS (lf x1), sayAdd ((k : Int) + 1 + 1) (addL (k + 1) r [lf x1]), sayAdd ((k : Int) + 1 + 1) (addL (k + 1) r [lf x1]), sayGrow ((k : Int) + 1 + 1) (addL (k + 1) r [lf x1]), sayFix (.int .i64 0), sayNewG w6.heap.size] rfl rfl (by kernel_rfl) (by kernel_rfl) (by kernel_rfl) (fun r hr => by
      simp only [List.mem_cons, List.not_mem_nil, or_false] at hr
      rcases hr with rfl | rfl | rfl | rfl | rfl | rfl | rfl | rfl | rfl <;> first | exact sayFix_mono _ | exact sayOneS_mono _ | exact sayTwoS_mono _ _ | exact sayAdd_mono _ _ | exact sayGrow_mono _ _ | exact sayNewG_mono _) ?_
    simp only [addEdge, List.take_succ_cons, List.take_zero, List.drop_succ_cons, List.drop_zero, List.zip_cons_cons, List.zip_nil_right]
    refine wpRel_step (fun w hb hG => ?_) (fun v0 => ?_)
    · exact does_run (.agg (growA ((k : Int) + 1) (.slice a3 r.length c3))) (run_ldG gy _ _ _ (hlgy.on hb) rfl) rfl
    simp only [Act.put, List.setIfInBounds_toArray, List.set_cons_succ, List.set_cons_zero, Option.getD_some]
    refine wpRel_step (fun w hb hG => ?_) (fun v1 => ?_)
    · exact does_run (.string (bytesOf x1)) rfl rfl
    simp only [Act.put, List.setIfInBounds_toArray, List.set_cons_succ, List.set_cons_zero, Option.getD_some]
    refine wpRel_step (fun w hb hG => ?_) (fun v2 => ?_)
    · obtain rfl := laid_at 0 hG rfl (by decide)
      exact does_call 11 #[(.string (bytesOf x1))] (by kernel_rfl) ((HLf.out x1 hm1 w (hB.trans (hb.mono hB.size))).mono fun e w' ⟨he, h2⟩ => ⟨_, he, h2, rfl⟩)
    simp only [Act.put, List.setIfInBounds_toArray, List.set_cons_succ, List.set_cons_zero, Option.getD_some]
    refine wpRel_step (fun w hb hG => ?_) (fun v3 => ?_)
    · obtain rfl := laid_at 0 hG rfl (by decide)
      exact does_made (.slice (some ⟨w.heap.size, 0, none⟩) 1 1) (w' := w.alloc (.cells #[(.string (bytesOf (lf x1)))] 9)) (by kernel_rfl) (grown_alloc w _) ⟨w.heap.size, rfl, Lies.new w _ _⟩
    simp only [Act.put, List.setIfInBounds_toArray, List.set_cons_succ, List.set_cons_zero, Option.getD_some]
    refine wpRel_step (fun w hb hG => ?_) (fun v4 => ?_)
    · obtain rfl := laid_at 3 hG rfl (by decide)
      obtain ⟨g, rfl, hg⟩ := laid_at 0 hG rfl (by decide)
      exact does_call 20 #[(.agg (growA ((k : Int) + 1) (.slice a3 r.length c3))), .slice (some ⟨g, 0, none⟩) 1 1] (by kernel_rfl) (HAd.out (k + 1) r HR.out [lf x1] (by intro y hy; rw [List.mem_singleton.1 hy]; exact lf_length _) (by simp; omega) w (hB.trans (hb.mono hB.size)) _ (hsy.below hb) _ (oneS_strs hg))
    simp only [Act.put, List.setIfInBounds_toArray, List.set_cons_succ, List.set_cons_zero, Option.getD_some]
    refine wpRel_step (fun w hb hG => ?_) (fun v5 => ?_)
    · obtain ⟨a2, c2, rfl, hs2⟩ := laid_at 0 hG rfl (by decide)
      exact does_run _ rfl ⟨a2, c2, rfl, hs2⟩
    simp only [Act.put, List.setIfInBounds_toArray, List.set_cons_succ, List.set_cons_zero, Option.getD_some]
    refine wpRel_step (fun w hb hG => ?_) (fun v6 => ?_)
    · obtain ⟨a2, c2, rfl, hs2⟩ := laid_at 0 hG rfl (by decide)
      exact does_run (.agg (growA ((k : Int) + 1 + 1) (.slice a2 ((addL (k + 1) r [lf x1])).length c2))) (by kernel_rfl) ⟨a2, c2, rfl, hs2⟩
    simp only [Act.put, List.setIfInBounds_toArray, List.set_cons_succ, List.set_cons_zero, Option.getD_some]
    refine wpRel_step (fun w hb hG => ?_) (fun v7 => ?_)
    · obtain ⟨a2, c2, rfl, hs2⟩ := laid_at 1 hG rfl (by decide)
      exact does_run (.int .i64 0) (by kernel_rfl) rfl
    simp only [Act.put, List.setIfInBounds_toArray, List.set_cons_succ, List.set_cons_zero, Option.getD_some]
    refine wpRel_step (fun w hb hG => ?_) (fun v8 => ?_)
    · exact does_made (.pointer (some ⟨w.heap.size, 0, none⟩)) (w' := w.alloc (.cells noA 34)) (by kernel_rfl) (grown_alloc w _) ⟨w.heap.size, rfl, hb.size, Lies.new w _ _⟩
    simp only [Act.put, List.setIfInBounds_toArray, List.set_cons_succ, List.set_cons_zero, Option.getD_some]
    refine wpRel_nil (fun w7 hb hG => ?_)
    obtain ⟨gz, rfl, hggz, hlgz⟩ := hG _ (List.mem_of_getElem? (i := 0) rfl)
    obtain rfl := hG _ (List.mem_of_getElem? (i := 1) rfl)
    obtain ⟨a4, c4, rfl, hsz⟩ := hG _ (List.mem_of_getElem? (i := 2) rfl)
    clear hG
    have hokgz := Lib.hid (addL_ok [lf x1] (k + 1) r HR.out.1 HR.out.2 (by intro y hy; rw [List.mem_singleton.1 hy]; exact lf_length _))
    generalize addL (k + 1) r [lf x1] = Z at *
    have hsz0 : W.heap.size < gz := Nat.lt_of_lt_of_le hl.lt hggz
    have hnhlgx : gx ≠ gz := Nat.ne_of_lt (Nat.lt_of_lt_of_le hlgx.lt hggz)
    have hnhlgy : gy ≠ gz := Nat.ne_of_lt (Nat.lt_of_lt_of_le hlgy.lt hggz)
    have hO := (Only.refl w7 gz).row (Or.inl rfl) (growA ((k : Int) + 1 + 1) (.slice a4 Z.length c4))
    replace hl := (hl.on hb).rowFar (g' := gz) (by omega) (growA ((k : Int) + 1 + 1) (.slice a4 Z.length c4))
    replace hlgx := (hlgx.on hb).rowFar (g' := gz) (by omega) (growA ((k : Int) + 1 + 1) (.slice a4 Z.length c4))
    replace hlgy := (hlgy.on hb).rowFar (g' := gz) (by omega) (growA ((k : Int) + 1 + 1) (.slice a4 Z.length c4))
    replace hs := strs_only (hs.below hb) hlgz (growA_str _ _ _ _) hO
    replace hcp := strs_only (hcp.below hb) hlgz (growA_str _ _ _ _) hO
    replace hs2 := strs_only (hs2.below hb) hlgz (growA_str _ _ _ _) hO
    replace hcx := strs_only (hcx.below hb) hlgz (growA_str _ _ _ _) hO
    replace hsy := strs_only (hsy.below hb) hlgz (growA_str _ _ _ _) hO
    replace hsz := strs_only hsz hlgz (growA_str _ _ _ _) hO
    replace hB := below_rowSet (below_on hB hb) (Nat.le_of_lt hsz0) (growA ((k : Int) + 1 + 1) (.slice a4 Z.length c4))
    have hl0 := hlgz
    replace hlgz : Lies (w7.setRow gz (growA ((k : Int) + 1 + 1) (.slice a4 Z.length c4))) gz 34 (growA ((k : Int) + 1 + 1) (.slice a4 Z.length c4)) := hlgz.row _
    clear hO hb
    go_upto_region 16 with ((with_reducible refine wpL_store gz 34 noA (growA ((k : Int) + 1 + 1) (.slice a4 Z.length c4)) 2 rowGrow rfl rfl (growA_one _ _ _ _) hl0 ?_ ?_ ?_); rfl; rfl)
    clear hl0 hsz0
    generalize w7.setRow gz (growA ((k : Int) + 1 + 1) (.slice a4 Z.length c4)) = w8 at *
    clear hokgz HR HPS hsy hlgy
    have HS1 := Lib.hid (fun w (hb : Below w8.heap.size w8 w) => by have h := same_any w _ _ ps ps (hs.below hb) (hcp.below hb); rw [decide_eq_true rfl] at h; exact h)
    have HS2 := Lib.hid (fun w (hb : Below w8.heap.size w8 w) => by have h := same_any w _ _ X X (hs2.below hb) (hcx.below hb); rw [decide_eq_true rfl] at h; exact h)
    have HAl := Lib.hid (fun w (hb : Below w8.heap.size w8 w) => alive_any w ((HT.out.below hB).below hb))
    have q1 := hl.cell 1
    have qx := hlgx.cell 1
    have qz := hlgz.cell 1
    simp only [growA, List.getElem?_toArray, List.getElem?_cons_succ, List.getElem?_cons_zero] at q1 qx qz
    by_cases hab : x1 = x2
    · have HS3 := Lib.hid (fun w (hb : Below w8.heap.size w8 w) => by have h := same_any w _ _ X Z (hs2.below hb) (hsz.below hb); rw [decide_eq_true (HXZ.out hab)] at h; exact h)
      subst hab
      have hb := Below.refl w8.heap.size w8
      clear HXZ HLf HAd hl hlgx hlgz hs hcp hs2 hcx hsz HOX hlen hlenX hm1 hm2 hggx hggy hggz
      go_wp2_with (first
        | (go_at_call 17; with_reducible refine (HAl.out _ hb).mono ?_; rintro e w2 ⟨rfl, hb2⟩; replace hb := below_on hb hb2; replace q1 := (hb2.cell (World.block_lt_of_cell? _ _ q1)).trans q1; replace qx := (hb2.cell (World.block_lt_of_cell? _ _ qx)).trans qx; replace qz := (hb2.cell (World.block_lt_of_cell? _ _ qz)).trans qz)
        | (go_at_call 25; with_reducible refine (HS1.out _ hb).mono ?_; rintro e w2 ⟨rfl, hb2⟩; replace hb := below_on hb hb2; replace q1 := (hb2.cell (World.block_lt_of_cell? _ _ q1)).trans q1; replace qx := (hb2.cell (World.block_lt_of_cell? _ _ qx)).trans qx; replace qz := (hb2.cell (World.block_lt_of_cell? _ _ qz)).trans qz)
        | (go_at_call 25; with_reducible refine (HS2.out _ hb).mono ?_; rintro e w2 ⟨rfl, hb2⟩; replace hb := below_on hb hb2; replace q1 := (hb2.cell (World.block_lt_of_cell? _ _ q1)).trans q1; replace qx := (hb2.cell (World.block_lt_of_cell? _ _ qx)).trans qx; replace qz := (hb2.cell (World.block_lt_of_cell? _ _ qz)).trans qz)
        | (go_at_call 25; with_reducible refine (HS3.out _ hb).mono ?_; rintro e w2 ⟨rfl, hb2⟩; replace hb := below_on hb hb2; replace q1 := (hb2.cell (World.block_lt_of_cell? _ _ q1)).trans q1; replace qx := (hb2.cell (World.block_lt_of_cell? _ _ qx)).trans qx; replace qz := (hb2.cell (World.block_lt_of_cell? _ _ qz)).trans qz))
      go_ret
      exact ⟨rfl, below_on hB hb⟩
    · have hne : ((bytesOf x1).toList == (bytesOf x2).toList) = false := by
        rw [toList_of, toList_of]
        simp [hab]
      replace hab := Lib.hid hab
      have hb := Below.refl w8.heap.size w8
      have HS3 := HS2
      clear HXZ HLf HAd hl hlgx hlgz hs hcp hs2 hcx hsz HOX hlen hlenX hm1 hm2 hggx hggy hggz
      go_wp2_with (first
        | (go_at_call 17; with_reducible refine (HAl.out _ hb).mono ?_; rintro e w2 ⟨rfl, hb2⟩; replace hb := below_on hb hb2; replace q1 := (hb2.cell (World.block_lt_of_cell? _ _ q1)).trans q1; replace qx := (hb2.cell (World.block_lt_of_cell? _ _ qx)).trans qx; replace qz := (hb2.cell (World.block_lt_of_cell? _ _ qz)).trans qz)
        | (go_at_call 25; with_reducible refine (HS1.out _ hb).mono ?_; rintro e w2 ⟨rfl, hb2⟩; replace hb := below_on hb hb2; replace q1 := (hb2.cell (World.block_lt_of_cell? _ _ q1)).trans q1; replace qx := (hb2.cell (World.block_lt_of_cell? _ _ qx)).trans qx; replace qz := (hb2.cell (World.block_lt_of_cell? _ _ qz)).trans qz)
        | (go_at_call 25; with_reducible refine (HS2.out _ hb).mono ?_; rintro e w2 ⟨rfl, hb2⟩; replace hb := below_on hb hb2; replace q1 := (hb2.cell (World.block_lt_of_cell? _ _ q1)).trans q1; replace qx := (hb2.cell (World.block_lt_of_cell? _ _ qx)).trans qx; replace qz := (hb2.cell (World.block_lt_of_cell? _ _ qz)).trans qz)
        | (go_at_call 25; with_reducible refine (HS3.out _ hb).mono ?_; rintro e w2 ⟨rfl, hb2⟩; replace hb := below_on hb hb2; replace q1 := (hb2.cell (World.block_lt_of_cell? _ _ q1)).trans q1; replace qx := (hb2.cell (World.block_lt_of_cell? _ _ qx)).trans qx; replace qz := (hb2.cell (World.block_lt_of_cell? _ _ qz)).trans qz))
      go_ret
      exact ⟨rfl, below_on hB hb⟩
end Go.Proofs.YtakmlmgffgoecaaDoor.R
