/- The walk of the statement of halves: whatever data and power, it answers true. -/
import Derived.Test.YtakmlmgffgoecaaDoorK7
import Derived.Test.YtakmlmgffgoecaaDoorKMRRootsW
import Derived.Deep.CutRange
namespace Go.Proofs.YtakmlmgffgoecaaDoor.R
open Go.RowKit Go.Sort Go.Proofs.YtakmlmgffgoecaaDoor.U
set_option maxRecDepth 100000

/-- the leaves: of the data and a byte that counts -/
def leafAt (D : List UInt8) (i : Nat) : List UInt8 := lf (D ++ [i.toUInt8])
def leavesL (D : List UInt8) (k : Nat) : List (List UInt8) := (List.range k).map (leafAt D)
theorem leavesL_length (D : List UInt8) (k : Nat) : (leavesL D k).length = k := by simp [leavesL]
theorem leavesL_next (D : List UInt8) (k : Nat) : leavesL D (k + 1) = leavesL D k ++ [leafAt D k] := by simp [leavesL, List.range_succ]
theorem leavesL_32 (D : List UInt8) (k : Nat) : ∀ x ∈ leavesL D k, x.length = 32 := by
  intro x hx
  obtain ⟨i, _, rfl⟩ := List.mem_map.1 hx
  exact lf_length _
theorem leavesL_row (D : List UInt8) (k : Nat) (h : k ≤ 4096) : rowB (leavesL D k) = true := by
  unfold rowB
  rw [allB_of (leavesL_32 D k), leavesL_length, Bool.and_true, decide_eq_true h]
theorem leavesL_take (D : List UInt8) (k m : Nat) (h : m ≤ k) : (leavesL D k).take m = leavesL D m := by
  unfold leavesL
  rw [← List.map_take, List.take_range, Nat.min_eq_left h]
theorem leavesL_at (D : List UInt8) (k m : Nat) (h : m < k) : (leavesL D k)[m]? = some (leafAt D m) := by
  unfold leavesL
  rw [List.getElem?_map, List.getElem?_range h]
  rfl

set_option maxHeartbeats 3200000 in
theorem halves_walk (data : List UInt8) (power : Int) (W : World) (hd : data.length ≤ maxLen) (hT : Tab W) :
    Calls Tryd.prog 7 #[.string (bytesOf data), .int .i64 power] W fun e w' => e = .returned (.bool true) ∧ Below W.heap.size W w' := by
  have HT := Lib.hid hT
  unfold maxLen at hd
  obtain ⟨r, hr⟩ : ∃ r, Int.tmod power 5 = r := ⟨_, rfl⟩
  have hr1 : -5 < r ∧ r < 5 := by rw [← hr]; exact ⟨Int.lt_tmod_of_pos _ (by decide), Int.tmod_lt_of_pos _ (by decide)⟩
  obtain ⟨i, hi⟩ : ∃ i : Nat, Int.tmod (r + 5) 5 = (i : Int) := ⟨(Int.tmod (r + 5) 5).toNat, (Int.toNat_of_nonneg (Int.tmod_nonneg _ (by omega))).symm⟩
  have hi1 : i < 5 := by have := Int.tmod_lt_of_pos (r + 5) (show (0 : Int) < 5 by decide); omega
  have HLf := Lib.hid (fun (k : Nat) w (hb : Below W.heap.size W w) => leaf_any (data.take 50 ++ [k.toUInt8]) w (by rw [List.length_append, List.length_take]; simp; omega) (hT.below hb))
  have HAl := Lib.hid (fun w (hb : Below W.heap.size W w) => alive_any w (hT.below hb))
  have hpw : ∃ n h : Nat, (2 : Int) ^ (1 + i) = (n : Int) ∧ n = 2 * h ∧ 0 < h ∧ h ≤ 16 ∧ ∃ e, h = 2 ^ e := by
    refine ⟨2 ^ (1 + i), 2 ^ i, by rw [Int.natCast_pow]; rfl, by rw [Nat.pow_add], Nat.pow_pos (by decide), Nat.pow_le_pow_right (by decide) (show i ≤ 4 by omega), i, rfl⟩
  obtain ⟨n, h, hn1, hn2, hh0, hh16, hE⟩ := hpw
  have HE := Lib.hid hE
  have hw1 : wrap64 ((2 : Int) ^ (1 + i)) = (n : Int) := by rw [hn1]; exact wrap_small n (by omega)
  have HN2 := Lib.hid hn2
  have hn32 : n ≤ 32 := by omega
  clear hT hn1 hE hn2
  go_enter Tryd.func7, Tryd.ntmps7
  go_wp2
  simp only [hw1]
  go_loopw [5, 24] (fun lv iv wr => ∃ (k : Nat) (a : Option Addr) (c : Nat), k ≤ n + 1 ∧ iv = .int .i64 k ∧ lv = .slice a k c ∧ Own wr W.heap.size (.slice a k c) (leavesL (data.take 50) k) ∧ Below W.heap.size W wr) (fun _ iv _ => n + 1 - (intOf iv).toNat)
  case atStart => exact ⟨0, none, 0, Nat.zero_le _, rfl, rfl, .inl ⟨none, rfl, rfl⟩, Below.refl _ _⟩
  case round =>
    obtain ⟨k, a, c, hk, rfl, rfl, ho, hB⟩ := hrel
    by_cases hlt : k < n + 1
    · have HNx := Lib.hid (leavesL_next (data.take 50) k)
      have hkl := leavesL_length (data.take 50) k
      go_upto_region 6 with fail
      refine wp_region_rel 13 _ [sayFix (.slice a k c), sayFix (.string (bytesOf data)), sayFix (.string (bytesOf data)), sayFix (.int .i64 (data.length : Int)), sayFix (.int .i64 (min (data.length : Int) 50)), sayFix (.string (bytesOf (data.take 50))), sayFix (.int .i64 (k : Int)), sayFix (.int .u8 (k : Int)), sayByte1 k, sayFix (.string (bytesOf [k.toUInt8])), sayFix (.string (bytesOf (data.take 50 ++ [k.toUInt8]))), sayFix (.string (bytesOf (leafAt (data.take 50) k))), sayOneS (leafAt (data.take 50) k)] rfl rfl (by kernel_rfl) (by kernel_rfl) (fun r hr => by
        simp only [List.mem_cons, List.not_mem_nil, or_false] at hr
        rcases hr with rfl | rfl | rfl | rfl | rfl | rfl | rfl | rfl | rfl | rfl | rfl | rfl | rfl <;> first | exact sayFix_mono _ | exact sayByte1_mono _ | exact sayOneS_mono _) ?_
      simp only [List.take_succ_cons, List.take_zero, List.drop_succ_cons, List.drop_zero, List.zip_cons_cons, List.zip_nil_right]
      refine wpRel_step (fun w hb hG => ?_) (fun v0 => ?_)
      · exact does_run (.slice a k c) rfl rfl
      simp only [Act.put, List.setIfInBounds_toArray, List.set_cons_succ, List.set_cons_zero, Option.getD_some]
      refine wpRel_step (fun w hb hG => ?_) (fun v1 => ?_)
      · exact does_run (.string (bytesOf data)) rfl rfl
      simp only [Act.put, List.setIfInBounds_toArray, List.set_cons_succ, List.set_cons_zero, Option.getD_some]
      refine wpRel_step (fun w hb hG => ?_) (fun v2 => ?_)
      · exact does_run (.string (bytesOf data)) rfl rfl
      simp only [Act.put, List.setIfInBounds_toArray, List.set_cons_succ, List.set_cons_zero, Option.getD_some]
      refine wpRel_step (fun w hb hG => ?_) (fun v3 => ?_)
      · obtain rfl := laid_at 0 hG rfl (by decide)
        exact does_run (.int .i64 (data.length : Int)) (run_lenS data rfl w) rfl
      simp only [Act.put, List.setIfInBounds_toArray, List.set_cons_succ, List.set_cons_zero, Option.getD_some]
      refine wpRel_step (fun w hb hG => ?_) (fun v4 => ?_)
      · obtain rfl := laid_at 0 hG rfl (by decide)
        exact does_run (.int .i64 (min (data.length : Int) 50)) (run_minI _ _ rfl w) rfl
      simp only [Act.put, List.setIfInBounds_toArray, List.set_cons_succ, List.set_cons_zero, Option.getD_some]
      refine wpRel_step (fun w hb hG => ?_) (fun v5 => ?_)
      · obtain rfl := laid_at 3 hG rfl (by decide)
        obtain rfl := laid_at 0 hG rfl (by decide)
        exact does_run (.string (bytesOf (data.take 50))) (run_cutS data 50 rfl rfl w) rfl
      simp only [Act.put, List.setIfInBounds_toArray, List.set_cons_succ, List.set_cons_zero, Option.getD_some]
      refine wpRel_step (fun w hb hG => ?_) (fun v6 => ?_)
      · exact does_run (.int .i64 (k : Int)) rfl rfl
      simp only [Act.put, List.setIfInBounds_toArray, List.set_cons_succ, List.set_cons_zero, Option.getD_some]
      refine wpRel_step (fun w hb hG => ?_) (fun v7 => ?_)
      · obtain rfl := laid_at 0 hG rfl (by decide)
        exact does_run (.int .u8 (k : Int)) (run_byte k (by omega) rfl w) rfl
      simp only [Act.put, List.setIfInBounds_toArray, List.set_cons_succ, List.set_cons_zero, Option.getD_some]
      refine wpRel_step (fun w hb hG => ?_) (fun v8 => ?_)
      · obtain rfl := laid_at 0 hG rfl (by decide)
        exact does_made (.slice (some ⟨w.heap.size, 0, none⟩) 1 1) (w' := w.alloc (.cells #[.int .u8 (k : Int)] 5)) (by kernel_rfl) (grown_alloc w _) ⟨w.heap.size, rfl, (Lies.new w 5 #[.int .u8 (k : Int)]).cell 0⟩
      simp only [Act.put, List.setIfInBounds_toArray, List.set_cons_succ, List.set_cons_zero, Option.getD_some]
      refine wpRel_step (fun w hb hG => ?_) (fun v9 => ?_)
      · obtain ⟨g, rfl, hg⟩ := laid_at 0 hG rfl (by decide)
        exact does_run (.string (bytesOf [k.toUInt8])) (run_str1 g k (by omega) w hg rfl) rfl
      simp only [Act.put, List.setIfInBounds_toArray, List.set_cons_succ, List.set_cons_zero, Option.getD_some]
      refine wpRel_step (fun w hb hG => ?_) (fun v10 => ?_)
      · obtain rfl := laid_at 4 hG rfl (by decide)
        obtain rfl := laid_at 0 hG rfl (by decide)
        exact does_run (.string (bytesOf (data.take 50 ++ [k.toUInt8]))) (run_cat (data.take 50) [k.toUInt8] (by rw [List.length_take]; simp; omega) rfl rfl w) rfl
      simp only [Act.put, List.setIfInBounds_toArray, List.set_cons_succ, List.set_cons_zero, Option.getD_some]
      refine wpRel_step (fun w hb hG => ?_) (fun v11 => ?_)
      · obtain rfl := laid_at 0 hG rfl (by decide)
        exact does_call 11 #[(.string (bytesOf (data.take 50 ++ [k.toUInt8])))] (by kernel_rfl) ((HLf.out k w (hB.trans (hb.mono hB.size))).mono fun e w' ⟨he, h2⟩ => ⟨_, he, h2, rfl⟩)
      simp only [Act.put, List.setIfInBounds_toArray, List.set_cons_succ, List.set_cons_zero, Option.getD_some]
      refine wpRel_step (fun w hb hG => ?_) (fun v12 => ?_)
      · obtain rfl := laid_at 0 hG rfl (by decide)
        exact does_made (.slice (some ⟨w.heap.size, 0, none⟩) 1 1) (w' := w.alloc (.cells #[(.string (bytesOf (leafAt (data.take 50) k)))] 9)) (by kernel_rfl) (grown_alloc w _) ⟨w.heap.size, rfl, Lies.new w _ _⟩
      simp only [Act.put, List.setIfInBounds_toArray, List.set_cons_succ, List.set_cons_zero, Option.getD_some]
      refine wpRel_nil (fun w2 hb hG => ?_)
      obtain ⟨g, rfl, hlg⟩ := hG _ (List.mem_of_getElem? (i := 0) rfl)
      obtain rfl := hG _ (List.mem_of_getElem? (i := 12) rfl)
      clear hG
      have ho2 := ho.on hb
      have hlg2 : Lies w2 g 9 #[.string ⟨(leafAt (data.take 50) k).toArray⟩] := hlg
      have hsz : W.heap.size ≤ w2.heap.size := Nat.le_trans hB.size hb.size
      go_wp2_with ((with_reducible refine wpL_appendS W.heap.size _ (leavesL (data.take 50) k) k (leafAt (data.take 50) k) g hkl ho2 hlg2 (by omega) hsz ?_ ?_ ?_); rfl; rfl; intro g6 c6 w6 ho6 hb6 hk6)
      go_roundw
      case rel => exact ⟨k + 1, some ⟨g6, 0, none⟩, c6, by omega, by go_num, rfl, by rw [HNx.out]; exact ho6, (below_on hB hb).trans hb6⟩
      case measure => simp [intOf]; omega
    · obtain rfl : k = n + 1 := by omega
      generalize hDD : data.take 50 = D at *
      have hs := ho.strs
      have hcap : n + 1 ≤ c := by obtain ⟨a', c', hv, h1, _⟩ := hs; rw [leavesL_length] at h1 hv; injection hv with e1 e2 e3; omega
      have hcm : c ≤ 9223372036854775807 := by obtain ⟨a', c', hv, _, h1, _⟩ := hs; rw [leavesL_length] at hv; injection hv with e1 e2 e3; unfold maxLen at h1; omega
      obtain ⟨gp, rfl⟩ : ∃ gp, a = some ⟨gp, 0, none⟩ := by
        rcases ho with ⟨a', hv, hnil⟩ | ⟨gp, cap, hv, _⟩
        · have := congrArg List.length hnil
          rw [leavesL_length] at this
          simp at this
        · injection hv with e1 e2 e3
          exact ⟨gp, e1⟩
      have hhn : h < n := by have := HN2.out; omega
      have hrow := fun j hj => leavesL_row D j (show j ≤ 4096 by omega)
      have hmax : ∀ j, ∀ x ∈ leavesL D j, x.length ≤ maxLen := fun j x hx => by rw [leavesL_32 D j x hx]; decide
      have hsA : Strs wr (.slice (some ⟨gp, 0, none⟩) h c) (leavesL D h) := by
        have h1 := strs_head hs (j := h) (by rw [leavesL_length]; omega)
        rw [leavesL_take D (n + 1) h (by omega)] at h1
        exact h1
      have hsC : Strs wr (.slice (some ⟨gp, 0, none⟩) n c) (leavesL D n) := by
        have h1 := strs_head hs (j := n) (by rw [leavesL_length]; omega)
        rw [leavesL_take D (n + 1) n (by omega)] at h1
        exact h1
      have hsB := strs_part hs (i := h) (j := n) (by omega) (by rw [leavesL_length]; omega)
      rw [Nat.zero_add] at hsB
      have hBl : ((leavesL D (n + 1)).drop h).take (n - h) = (leavesL D n).drop h := by rw [← leavesL_take D (n + 1) n (by omega), List.drop_take]
      rw [hBl] at hsB
      have hB32 : ∀ x ∈ (leavesL D n).drop h, x.length = 32 := fun x hx => leavesL_32 D n x (List.mem_of_mem_drop hx)
      have hBrow : rowB ((leavesL D n).drop h) = true := by unfold rowB; rw [allB_of hB32, Bool.and_true, decide_eq_true]; rw [List.length_drop, leavesL_length]; omega
      have eC : rt (leavesL D n) = nd (rt (leavesL D h)) (rt ((leavesL D n).drop h)) := by
        have h1 := rootL_two nd e0 (l := leavesL D n) (by rw [leavesL_length]; have := HN2.out; omega)
        obtain ⟨e, he⟩ := HE.out
        rw [leavesL_length, show spl n = h by rw [he]; exact spl_is (by have := HN2.out; omega) (by have := HN2.out; omega), leavesL_take D n h (by omega)] at h1
        exact h1
      have eD : rt (leavesL D (n + 1)) = nd (rt (leavesL D n)) (leafAt D n) := by
        have h1 := rootL_two nd e0 (l := leavesL D (n + 1)) (by rw [leavesL_length]; omega)
        obtain ⟨e, he⟩ := HE.out
        have hne : n = 2 ^ (e + 1) := by rw [HN2.out, he, Nat.pow_succ, Nat.mul_comm]
        rw [leavesL_length, show spl (n + 1) = n by rw [hne]; exact spl_is (by omega) (by have := Nat.pow_pos (n := e + 1) (show 0 < 2 by decide); omega), leavesL_take D (n + 1) n (by omega), leavesL_next, List.drop_append_of_le_length (by rw [leavesL_length]; exact Nat.le_refl _), List.drop_of_length_le (by rw [leavesL_length]; exact Nat.le_refl _)] at h1
        rw [leavesL_next]
        exact h1
      have hcn := ho.strs
      obtain ⟨a', c', hv, _, _, _, hcl⟩ := hcn
      obtain ⟨b, off, hbo, hcell⟩ := hcl (by intro hnil; have := congrArg List.length hnil; rw [leavesL_length] at this; simp at this)
      rw [leavesL_length] at hv
      injection hv with e1 e2 e3
      rw [← e1] at hbo
      injection hbo with hbo
      injection hbo with e4 e5
      subst e4 e5
      have hx := hcell n _ (leavesL_at D (n + 1) n (by omega))
      rw [Nat.zero_add] at hx
      unfold str at hx
      have HRA := Lib.hid (fun w (hb : Below wr.heap.size wr w) => root_any (leavesL D h) w _ (hmax h) (hsA.below hb) ((HT.out.below hB).below hb))
      have HRB := Lib.hid (fun w (hb : Below wr.heap.size wr w) => root_any ((leavesL D n).drop h) w _ (fun x hx => by rw [hB32 x hx]; decide) (hsB.below hb) ((HT.out.below hB).below hb))
      have HRC := Lib.hid (fun w (hb : Below wr.heap.size wr w) => root_any (leavesL D n) w _ (hmax n) (hsC.below hb) ((HT.out.below hB).below hb))
      have HRD := Lib.hid (fun w (hb : Below wr.heap.size wr w) => root_any (leavesL D (n + 1)) w _ (hmax (n + 1)) (hs.below hb) ((HT.out.below hB).below hb))
      rw [rootA_yes (hrow h (by omega))] at HRA
      rw [rootA_yes hBrow] at HRB
      rw [rootA_yes (hrow n (by omega))] at HRC
      rw [rootA_yes (hrow (n + 1) (by omega))] at HRD
      have a32 := rt_length _ (leavesL_32 D h)
      have b32 := rt_length _ hB32
      have c32 := rt_length _ (leavesL_32 D n)
      have x32 : (leafAt D n).length = 32 := lf_length _
      have HN1 := Lib.hid (fun w (hb : Below wr.heap.size wr w) => node_any (rt (leavesL D h)) (rt ((leavesL D n).drop h)) w (by omega) (by omega) ((HT.out.below hB).below hb))
      have HN3 := Lib.hid (fun w (hb : Below wr.heap.size wr w) => node_any (rt (leavesL D n)) (leafAt D n) w (by omega) (by omega) ((HT.out.below hB).below hb))
      rw [← eC] at HN1
      rw [← eD] at HN3
      have hdiv : (n : Int) / 2 = (h : Int) := by have := HN2.out; omega
      have hb := Below.refl wr.heap.size wr
      generalize rt (leavesL D h) = A at *
      generalize rt ((leavesL D n).drop h) = B at *
      generalize rt (leavesL D n) = C at *
      generalize rt (leavesL D (n + 1)) = E at *
      generalize leafAt D n = X at *
      unfold bytesOf at HN3
      have hEE : ((bytesOf E).toList == E) = true := by rw [toList_of]; simp
      clear hs hsA hsB hsC hBl hB32 hBrow hrow hmax eC eD hcell hcl ho HLf HE HN2 a32 b32 c32 x32 e1 e2 e3 hDD
      go_wp2_with (first
        | (go_at_call 10; first | (with_reducible refine (HRA.out _ hb).mono ?_) | (with_reducible refine (HRB.out _ hb).mono ?_) | (with_reducible refine (HRC.out _ hb).mono ?_) | (with_reducible refine (HRD.out _ hb).mono ?_)
           rintro e w2 ⟨rfl, hb2⟩; replace hb := below_on hb hb2; replace hx := (hb2.cell (World.block_lt_of_cell? _ _ hx)).trans hx)
        | (go_at_call 17; refine (HAl.out _ (below_on hB hb)).mono ?_; rintro e w2 ⟨rfl, hb2⟩; replace hb := below_on hb hb2; replace hx := (hb2.cell (World.block_lt_of_cell? _ _ hx)).trans hx)
        | (go_at_call 13; first | (refine (HN1.out _ hb).mono ?_; rintro e w2 ⟨rfl, hb2⟩; replace hb := below_on hb hb2; replace hx := (hb2.cell (World.block_lt_of_cell? _ _ hx)).trans hx) | (refine (HN3.out _ hb).mono ?_; rintro e w2 ⟨rfl, hb2⟩; replace hb := below_on hb hb2)))
      go_ret
      exact ⟨rfl, below_on hB hb⟩
end Go.Proofs.YtakmlmgffgoecaaDoor.R
