/- The walk of the statement of trees that go on: whatever tree and row, it answers true. -/
import Derived.Test.YtakmlmgffgoecaaDoorL8
import Derived.Deep.CutRange
import Derived.Deep.CutBlock
namespace Go.Proofs.YtakmlmgffgoecaaDoor.R
open Go.RowKit Go.Sort Go.Proofs.YtakmlmgffgoecaaDoor.U
set_option maxRecDepth 100000

/-- what Add hands back, whatever comes -/
theorem gadd_all (n : Int) (ps l : List (List UInt8)) (hn1 : -9223372036854775808 ≤ n) (hn2 : n ≤ 9223372036854775807) (hx : ∀ x ∈ ps, x.length ≤ maxLen) (hlx : ∀ x ∈ l, x.length ≤ maxLen) :
    ∃ (N' : Int) (M : List (List UInt8)) (E' : Int), ((mayB n ps && rowB l) = false → N' = 0 ∧ M = [] ∧ E' = 1) ∧ ((mayB n ps && rowB l) = true → 4096 < n + l.length → N' = 0 ∧ M = [] ∧ E' = 22) ∧ ((mayB n ps && rowB l) = true → n + l.length ≤ 4096 → N' = ((n.toNat + l.length : Nat) : Int) ∧ M = addL n.toNat ps l ∧ E' = 0) ∧
      ∀ (w : World) (v lv : Value), Strs w v ps → Strs w lv l → Tab w → Calls Tryd.prog 20 #[.agg (growA n v), lv] w fun e w' => ∃ a2 c2, e = .returned (.tuple #[.agg (growA N' (.slice a2 M.length c2)), .int .i64 E']) ∧ Strs w' (.slice a2 M.length c2) M ∧ Below w.heap.size w w' := by
  cases hb : (mayB n ps && rowB l) with
  | false =>
    refine ⟨0, [], 1, fun _ => ⟨rfl, rfl, rfl⟩, (fun h => by cases h), (fun h => by cases h), fun w v lv hs hls _ => ?_⟩
    exact (gadd_arg n v lv ps l w hn1 hn2 hs hx hls hlx hb).mono fun e w' ⟨he, h2⟩ => ⟨none, 0, he, Strs.nil _, h2⟩
  | true =>
    obtain ⟨h1, h2⟩ : mayB n ps = true ∧ rowB l = true := by simpa using hb
    obtain ⟨h3, h4, _, _⟩ := mayB_of h1
    obtain ⟨m, rfl⟩ : ∃ m : Nat, n = (m : Int) := ⟨n.toNat, (Int.toNat_of_nonneg h3).symm⟩
    by_cases h : m + l.length ≤ 4096
    · refine ⟨((m + l.length : Nat) : Int), addL m ps l, 0, (fun h => by cases h), fun _ h => by omega, fun _ _ => ⟨rfl, rfl, rfl⟩, fun w v lv hs hls hT => ?_⟩
      exact gadd_yes m v lv ps l w hs hls h1 h2 h hT
    · refine ⟨0, [], 22, (fun h => by cases h), fun _ _ => ⟨rfl, rfl, rfl⟩, fun _ h => by omega, fun w v lv hs hls _ => ?_⟩
      exact (gadd_many m v lv ps l w (by omega) hs hls h1 h2 (by omega)).mono fun e w' ⟨he, h2⟩ => ⟨none, 0, he, Strs.nil _, h2⟩
/-- what Sum hands back -/
theorem gsum_all (n : Int) (ps : List (List UInt8)) (hn1 : -9223372036854775808 ≤ n) (hn2 : n ≤ 9223372036854775807) (hx : ∀ x ∈ ps, x.length ≤ maxLen) :
    ∃ (S : ByteArray) (F : Int), (mayB n ps = true → S = bytesOf (sumP nd e0 ps) ∧ F = 0) ∧ (mayB n ps = false → S = { data := #[] } ∧ F = 1) ∧
      ∀ (w : World) (v : Value), Strs w v ps → Tab w → Calls Tryd.prog 21 #[.agg (growA n v)] w fun e w' => e = .returned (.tuple #[.string S, .int .i64 F]) ∧ Below w.heap.size w w' := by
  cases hb : mayB n ps with
  | false =>
    refine ⟨_, _, (fun h => by cases h), fun _ => ⟨rfl, rfl⟩, fun w v hs hT => ?_⟩
    have h := gsum_any n v ps w hn1 hn2 hs hx hT
    unfold sumG at h
    rw [hb] at h
    exact h
  | true =>
    refine ⟨_, _, fun _ => ⟨rfl, rfl⟩, (fun h => by cases h), fun w v hs hT => ?_⟩
    have h := gsum_any n v ps w hn1 hn2 hs hx hT
    unfold sumG at h
    rw [hb] at h
    exact h
attribute [local irreducible] addL

set_option maxHeartbeats 6400000 in
theorem goesT_walk (n : Int) (v : Value) (ps : List (List UInt8)) (lv : Value) (l : List (List UInt8)) (W : World) (hn1 : -9223372036854775808 ≤ n) (hn2 : n ≤ 9223372036854775807) (hs : Strs W v ps) (hx : ∀ x ∈ ps, x.length ≤ maxLen) (hls : Strs W lv l) (hlx : ∀ x ∈ l, x.length ≤ maxLen) (hT : Tab W) :
    Calls Tryd.prog 4 #[.agg (growA n v), lv] W fun e w' => e = .returned (.bool true) ∧ Below W.heap.size W w' := by
  have HP := Lib.hid (fun w (hb : Below W.heap.size W w) => part_any n v ps w (hs.below hb) hx)
  have HF := Lib.hid (fun w (hb : Below W.heap.size W w) => few_any w lv l (hls.below hb) hlx)
  have HT := Lib.hid hT
  have hM1 := Lib.hid (fewL_max ps)
  have hM2 := Lib.hid (fewL_max l)
  have hL80 := fewL_length l
  have hP80 := fewL_length ps
  obtain ⟨ao, c0, hv, _⟩ := id hs
  subst hv
  obtain ⟨bo, d0, hv, _⟩ := id hls
  subst hv
  have hb := (Below.refl W.heap.size W).alloc (Nat.le_refl _) (.cells (growA n (.slice ao ps.length c0)) 34)
  have hl : Lies (W.alloc (.cells (growA n (.slice ao ps.length c0)) 34)) W.heap.size 34 (growA n (.slice ao ps.length c0)) := Lies.new W _ _
  clear hs hls hx hlx hT
  unfold growA at hb hl ⊢
  go_enter Tryd.func4, Tryd.ntmps4
  go_upto_region 1 with fail
  generalize World.alloc W _ = w0 at *
  have hl0 : Lies w0 W.heap.size 34 (growA n (.slice ao ps.length c0)) := hl
  clear hl
  go_upto_region 2 with (first
    | ((with_reducible refine wpL_load W.heap.size 34 (growA n (.slice ao ps.length c0)) 2 rowGrow rfl hl0 ?_ ?_); rfl)
    | (go_at_call 19; refine (HP.out _ hb).mono ?_; rintro e w1 ⟨a1, c1, rfl, hs1, hb1⟩; have hl1 := hl0.on hb1; replace hb := below_on hb hb1)
    | (go_at_call 9; refine (HF.out _ hb).mono ?_; rintro e w2 ⟨v2, rfl, hs2, hb2⟩; obtain ⟨a2, c2, hv2, _⟩ := id hs2; subst hv2; replace hs1 := hs1.below hb2; replace hl1 := hl1.on hb2; replace hb := below_on hb hb2)
    | ((with_reducible refine wpL_store W.heap.size 34 (growA n (.slice ao ps.length c0)) (growA n (.slice a1 (fewL ps).length c1)) 2 rowGrow rfl rfl (growA_one _ _ _ _) hl1 ?_ ?_ ?_); rfl; rfl))
  have hO := (Only.refl w2 W.heap.size).row (Or.inl rfl) (growA n (.slice a1 (fewL ps).length c1))
  replace hs1 := strs_only hs1 hl1 (growA_str _ _ _ _) hO
  replace hs2 := strs_only hs2 hl1 (growA_str _ _ _ _) hO
  replace hb := below_rowSet hb (Nat.le_refl _) (growA n (.slice a1 (fewL ps).length c1))
  have hl2 : Lies (w2.setRow W.heap.size (growA n (.slice a1 (fewL ps).length c1))) W.heap.size 34 (growA n (.slice a1 (fewL ps).length c1)) := hl1.row _
  clear hl0 hl1 hb1 hb2 hO HP HF
  generalize w2.setRow W.heap.size (growA n (.slice a1 (fewL ps).length c1)) = w3 at *
  generalize fewL ps = P at *
  generalize fewL l = L at *
  obtain ⟨N', M, E', hA1, hA2, hA3, HA0⟩ := gadd_all n P L hn1 hn2 hM1.out hM2.out
  obtain ⟨S, F, hS1, hS2, HS0⟩ := gsum_all n P hn1 hn2 hM1.out
  have HA := Lib.hid HA0
  have HSm := Lib.hid HS0
  have HA1 := Lib.hid hA1
  have HA2 := Lib.hid hA2
  have HA3 := Lib.hid hA3
  have HS1 := Lib.hid hS1
  have HS2 := Lib.hid hS2
  clear HA0 HS0 hA1 hA2 hA3 hS1 hS2
  have hgB := hl2.lt
  go_upto_region 3 with (first
    | ((with_reducible refine wpL_load W.heap.size 34 (growA n (.slice a1 P.length c1)) 2 rowGrow rfl hl2 ?_ ?_); rfl)
    | (go_at_call 20; refine (HA.out _ _ _ hs1 hs2 (HT.out.below hb)).mono ?_; rintro e w4 ⟨a4, c4, rfl, hs4, hb4⟩)
    | ((with_reducible refine wpL_store w4.heap.size 34 noA (growA N' (.slice a4 M.length c4)) 2 rowGrow rfl rfl (growA_one _ _ _ _) ?_ ?_ ?_ ?_); exact Lies.new w4 _ _; rfl; rfl))
  generalize hW5 : World.setRow _ _ _ = w5
  have hba := (Below.refl w4.heap.size w4).alloc (Nat.le_refl _) (.cells noA 34)
  have hb5 : Below w3.heap.size w3 (w4.alloc (.cells noA 34)) := hb4.trans (hba.mono hb4.size)
  have hlz := Lies.new w4 34 noA
  have hgx : W.heap.size < w4.heap.size := Nat.lt_of_lt_of_le hgB hb4.size
  have hO := (Only.refl (w4.alloc (.cells noA 34)) w4.heap.size).row (Or.inl rfl) (growA N' (.slice a4 M.length c4))
  have hs15 : Strs w5 (.slice a1 P.length c1) P := by rw [← hW5]; exact strs_only (hs1.below hb5) hlz (growA_str _ _ _ _) hO
  have hs25 : Strs w5 (.slice a2 L.length c2) L := by rw [← hW5]; exact strs_only (hs2.below hb5) hlz (growA_str _ _ _ _) hO
  have hs45 : Strs w5 (.slice a4 M.length c4) M := by rw [← hW5]; exact strs_only (hs4.below hba) hlz (growA_str _ _ _ _) hO
  have hl5 : Lies w5 W.heap.size 34 (growA n (.slice a1 P.length c1)) := by rw [← hW5]; exact (hl2.on hb5).rowFar (by omega) _
  have hx5 : Lies w5 w4.heap.size 34 (growA N' (.slice a4 M.length c4)) := by rw [← hW5]; exact hlz.row _
  have hB5 : Below W.heap.size W w5 := by rw [← hW5]; exact below_rowSet (below_on hb hb5) (by omega) _
  clear hW5 hba hb5 hlz hO hs1 hs2 hs4 hl2 hb hb4 hgB
  generalize w4.heap.size = gx at *
  go_upto_region 4 with (first
    | ((with_reducible refine wpL_load gx 34 (growA n (.slice a1 P.length c1)) 2 rowGrow rfl hl5 ?_ ?_); rfl)
    | ((with_reducible refine wpL_load W.heap.size 34 (growA n (.slice a1 P.length c1)) 2 rowGrow rfl hl5 ?_ ?_); rfl)
    | (go_at_call 21; refine (HSm.out _ _ hs15 (HT.out.below hB5)).mono ?_; rintro e w6 ⟨rfl, hb6⟩))
  have hl6 := hl5.on hb6
  have hx6 := hx5.on hb6
  have hs16 := hs15.below hb6
  have hs26 := hs25.below hb6
  have hs46 := hs45.below hb6
  have hB6 := below_on hB5 hb6
  clear hl5 hx5 hs15 hs25 hs45 hB5 hb6 HA HSm
  have HMay := Lib.hid (fun w (hb : Below w6.heap.size w6 w) => refMay_any n _ P w hn1 hn2 (hs16.below hb) hM1.out)
  have HRr := Lib.hid (fun w (hb : Below w6.heap.size w6 w) => refRight_any w _ L (hs26.below hb) hM2.out)
  have HAl := Lib.hid (fun w (hb : Below w6.heap.size w6 w) => alive_any w ((HT.out.below hB6).below hb))
  have q0 := hl6.cell 0
  have q1 := hl6.cell 1
  have x0 := hx6.cell 0
  have x1 := hx6.cell 1
  simp only [growA, List.getElem?_toArray, List.getElem?_cons_succ, List.getElem?_cons_zero] at q0 q1 x0 x1
  have hb := Below.refl w6.heap.size w6
  cases hm : mayB n P with
  | false =>
    rw [hm] at HMay
    obtain ⟨rfl, rfl⟩ := HS2.out hm
    obtain ⟨rfl, rfl, rfl⟩ := HA1.out (by rw [hm]; rfl)
    clear HS1 HS2 HA1 HA2 HA3 hs16 hs26 hs46 hx6 hm
    go_wp2_with (first
      | ((with_reducible refine wpL_load W.heap.size 34 _ 2 rowGrow rfl hl6 ?_ ?_); rfl)
      | (go_at_call 22; with_reducible refine (HMay.out _ hb).mono ?_; rintro e w7 ⟨rfl, hb7⟩; replace hb := below_on hb hb7; replace q0 := (hb7.cell (World.block_lt_of_cell? _ _ q0)).trans q0; replace q1 := (hb7.cell (World.block_lt_of_cell? _ _ q1)).trans q1; replace x0 := (hb7.cell (World.block_lt_of_cell? _ _ x0)).trans x0; replace x1 := (hb7.cell (World.block_lt_of_cell? _ _ x1)).trans x1)
      | (go_at_call 17; with_reducible refine (HAl.out _ hb).mono ?_; rintro e w7 ⟨rfl, hb7⟩; replace hb := below_on hb hb7; replace q0 := (hb7.cell (World.block_lt_of_cell? _ _ q0)).trans q0; replace q1 := (hb7.cell (World.block_lt_of_cell? _ _ q1)).trans q1; replace x0 := (hb7.cell (World.block_lt_of_cell? _ _ x0)).trans x0; replace x1 := (hb7.cell (World.block_lt_of_cell? _ _ x1)).trans x1))
    go_ret
    exact ⟨rfl, below_on hB6 hb⟩
  | true =>
    rw [hm] at HMay
    obtain ⟨h0, h4, hlen, hrow⟩ := mayB_of hm
    obtain ⟨m, rfl⟩ : ∃ m : Nat, n = (m : Int) := ⟨n.toNat, (Int.toNat_of_nonneg h0).symm⟩
    rw [Int.toNat_natCast] at hlen HA3
    obtain ⟨rfl, rfl⟩ := HS1.out hm
    have hrow2 := rowB_of hrow
    have HRS := Lib.hid (fun w (hb : Below w6.heap.size w6 w) => refSum_tree m _ P w hlen (hs16.below hb) hrow2.2 hrow2.1)
    unfold growA at HRS
    clear HS1 HS2 hrow
    generalize sumP nd e0 P = R at *
    cases hr : rowB L with
    | false =>
      rw [hr] at HRr
      obtain ⟨rfl, rfl, rfl⟩ := HA1.out (by rw [hm, hr]; rfl)
      clear HA1 HA2 HA3 hs16 hs26 hs46 hx6 hm hr hlen hrow2
      go_wp2_with (first
        | ((with_reducible refine wpL_load W.heap.size 34 _ 2 rowGrow rfl hl6 ?_ ?_); rfl)
        | ((with_reducible refine wpL_load W.heap.size 34 _ 2 rowGrow rfl (hl6.on hb) ?_ ?_); rfl)
        | (go_at_call 22; with_reducible refine (HMay.out _ hb).mono ?_; rintro e w7 ⟨rfl, hb7⟩; replace hb := below_on hb hb7; replace q0 := (hb7.cell (World.block_lt_of_cell? _ _ q0)).trans q0; replace q1 := (hb7.cell (World.block_lt_of_cell? _ _ q1)).trans q1; replace x0 := (hb7.cell (World.block_lt_of_cell? _ _ x0)).trans x0; replace x1 := (hb7.cell (World.block_lt_of_cell? _ _ x1)).trans x1)
        | (go_at_call 23; with_reducible refine (HRS.out _ hb).mono ?_; rintro e w7 ⟨rfl, hb7⟩; replace hb := below_on hb hb7; replace q0 := (hb7.cell (World.block_lt_of_cell? _ _ q0)).trans q0; replace q1 := (hb7.cell (World.block_lt_of_cell? _ _ q1)).trans q1; replace x0 := (hb7.cell (World.block_lt_of_cell? _ _ x0)).trans x0; replace x1 := (hb7.cell (World.block_lt_of_cell? _ _ x1)).trans x1)
        | (go_at_call 17; with_reducible refine (HAl.out _ hb).mono ?_; rintro e w7 ⟨rfl, hb7⟩; replace hb := below_on hb hb7; replace q0 := (hb7.cell (World.block_lt_of_cell? _ _ q0)).trans q0; replace q1 := (hb7.cell (World.block_lt_of_cell? _ _ q1)).trans q1; replace x0 := (hb7.cell (World.block_lt_of_cell? _ _ x0)).trans x0; replace x1 := (hb7.cell (World.block_lt_of_cell? _ _ x1)).trans x1)
        | (go_at_call 16; with_reducible refine (HRr.out _ hb).mono ?_; rintro e w7 ⟨rfl, rfl⟩))
      go_ret
      exact ⟨rfl, below_on hB6 hb⟩
    | true =>
      rw [hr] at HRr
      have hm4 : m ≤ 4096 := by omega
      by_cases hbig : 4096 < m + L.length
      · obtain ⟨rfl, rfl, rfl⟩ := HA2.out (by rw [hm, hr]; rfl) (by omega)
        have hd : (4096 : Int) < (m : Int) + (L.length : Int) := by omega
        clear HA1 HA2 HA3 hs16 hs26 hs46 hx6 hm hr hlen hrow2
        go_wp2_with (first
          | ((with_reducible refine wpL_load W.heap.size 34 _ 2 rowGrow rfl hl6 ?_ ?_); rfl)
          | ((with_reducible refine wpL_load W.heap.size 34 _ 2 rowGrow rfl (hl6.on hb) ?_ ?_); rfl)
          | (go_at_call 22; with_reducible refine (HMay.out _ hb).mono ?_; rintro e w7 ⟨rfl, hb7⟩; replace hb := below_on hb hb7; replace q0 := (hb7.cell (World.block_lt_of_cell? _ _ q0)).trans q0; replace q1 := (hb7.cell (World.block_lt_of_cell? _ _ q1)).trans q1; replace x0 := (hb7.cell (World.block_lt_of_cell? _ _ x0)).trans x0; replace x1 := (hb7.cell (World.block_lt_of_cell? _ _ x1)).trans x1)
          | (go_at_call 23; with_reducible refine (HRS.out _ hb).mono ?_; rintro e w7 ⟨rfl, hb7⟩; replace hb := below_on hb hb7; replace q0 := (hb7.cell (World.block_lt_of_cell? _ _ q0)).trans q0; replace q1 := (hb7.cell (World.block_lt_of_cell? _ _ q1)).trans q1; replace x0 := (hb7.cell (World.block_lt_of_cell? _ _ x0)).trans x0; replace x1 := (hb7.cell (World.block_lt_of_cell? _ _ x1)).trans x1)
          | (go_at_call 17; with_reducible refine (HAl.out _ hb).mono ?_; rintro e w7 ⟨rfl, hb7⟩; replace hb := below_on hb hb7; replace q0 := (hb7.cell (World.block_lt_of_cell? _ _ q0)).trans q0; replace q1 := (hb7.cell (World.block_lt_of_cell? _ _ q1)).trans q1; replace x0 := (hb7.cell (World.block_lt_of_cell? _ _ x0)).trans x0; replace x1 := (hb7.cell (World.block_lt_of_cell? _ _ x1)).trans x1)
          | (go_at_call 16; with_reducible refine (HRr.out _ hb).mono ?_; rintro e w7 ⟨rfl, rfl⟩))
        go_ret
        exact ⟨rfl, below_on hB6 hb⟩
      · obtain ⟨rfl, rfl, rfl⟩ := HA3.out (by rw [hm, hr]; rfl) (by omega)
        have hd : ¬ (4096 : Int) < (m : Int) + (L.length : Int) := by omega
        have hr2 := rowB_of hr
        have HX := Lib.hid (fun k (_ : k ≤ L.length) => addL_ok (L.take k) m P hlen hrow2.2 (fun y hy => hr2.2 y (List.mem_of_mem_take hy)))
        have HR32 := Lib.hid hr2.2
        have HZ := Lib.hid (show addL m P (L.take 0) = P by unfold addL; rfl)
        have HS16 := Lib.hid hs16
        have HS26 := Lib.hid hs26
        have HS46 := Lib.hid hs46
        clear HA1 HA2 HA3 hs16 hs26 hs46 hm hr hlen hrow2 hr2
        go_wp2_with (first
          | ((with_reducible refine wpL_load W.heap.size 34 _ 2 rowGrow rfl hl6 ?_ ?_); rfl)
          | ((with_reducible refine wpL_load W.heap.size 34 _ 2 rowGrow rfl (hl6.on hb) ?_ ?_); rfl)
          | (go_at_call 22; with_reducible refine (HMay.out _ hb).mono ?_; rintro e w7 ⟨rfl, hb7⟩; replace hb := below_on hb hb7; replace q0 := (hb7.cell (World.block_lt_of_cell? _ _ q0)).trans q0; replace q1 := (hb7.cell (World.block_lt_of_cell? _ _ q1)).trans q1; replace x0 := (hb7.cell (World.block_lt_of_cell? _ _ x0)).trans x0; replace x1 := (hb7.cell (World.block_lt_of_cell? _ _ x1)).trans x1)
          | (go_at_call 23; with_reducible refine (HRS.out _ hb).mono ?_; rintro e w7 ⟨rfl, hb7⟩; replace hb := below_on hb hb7; replace q0 := (hb7.cell (World.block_lt_of_cell? _ _ q0)).trans q0; replace q1 := (hb7.cell (World.block_lt_of_cell? _ _ q1)).trans q1; replace x0 := (hb7.cell (World.block_lt_of_cell? _ _ x0)).trans x0; replace x1 := (hb7.cell (World.block_lt_of_cell? _ _ x1)).trans x1)
          | (go_at_call 17; with_reducible refine (HAl.out _ hb).mono ?_; rintro e w7 ⟨rfl, hb7⟩; replace hb := below_on hb hb7; replace q0 := (hb7.cell (World.block_lt_of_cell? _ _ q0)).trans q0; replace q1 := (hb7.cell (World.block_lt_of_cell? _ _ q1)).trans q1; replace x0 := (hb7.cell (World.block_lt_of_cell? _ _ x0)).trans x0; replace x1 := (hb7.cell (World.block_lt_of_cell? _ _ x1)).trans x1)
          | (go_at_call 16; with_reducible refine (HRr.out _ hb).mono ?_; rintro e w7 ⟨rfl, rfl⟩))
        clear q0 q1 x0 x1 HMay HRr HAl HRS
        go_loopw [102] (fun i wr => ∃ (k : Nat) (a5 : Option Addr) (c5 : Nat), k ≤ L.length ∧ i = .int .i64 k ∧ Lies wr W.heap.size 34 (growA ((m : Int) + (k : Int)) (.slice a5 (addL m P (L.take k)).length c5)) ∧ Hid (Strs wr (.slice a5 (addL m P (L.take k)).length c5) (addL m P (L.take k))) ∧ Lies wr gx 34 (growA ((m : Int) + (L.length : Int)) (.slice a4 (addL m P L).length c4)) ∧ Hid (Strs wr (.slice a4 (addL m P L).length c4) (addL m P L)) ∧ Hid (Strs wr (.slice a2 L.length c2) L) ∧ Below W.heap.size W wr) (fun i _ => L.length - (intOf i).toNat)
        case atStart => exact ⟨0, a1, c1, Nat.zero_le _, rfl, by rw [HZ.out, show ((m : Int) + ((0 : Nat) : Int)) = (m : Int) by omega]; exact hl6.on hb, Lib.hid (by rw [HZ.out]; exact HS16.out.below hb), hx6.on hb, Lib.hid (HS46.out.below hb), Lib.hid (HS26.out.below hb), below_on hB6 hb⟩
        case round =>
          clear hl6 hx6 hb hB6 HS16 HS26 HS46 HZ
          obtain ⟨k, a5, c5, hk, rfl, hlk, HSk, hlx, HSx, HSl, hB⟩ := hrel
          by_cases hlt : k < L.length
          · obtain ⟨a', c', hv, hc', hm', hn', hcl⟩ := HSl.out
            injection hv with e1 e2 e3
            subst e1 e3
            obtain ⟨b, off, rfl, hcell⟩ := hcl (by intro h; subst h; simp at hlt)
            obtain ⟨x, hxk⟩ : ∃ x, L[k]? = some x := ⟨L[k], List.getElem?_eq_getElem hlt⟩
            have hc4 := hcell k x hxk
            unfold str at hc4
            have hxx := HX.out k hk
            rw [List.length_take, Nat.min_eq_left hk] at hxx
            have HQ := Lib.hid (addL_next hxk m P)
            have HRA : Hid (Calls Tryd.prog 24 #[.agg (growA ((m : Int) + (k : Int)) (.slice a5 (addL m P (L.take k)).length c5)), .string (bytesOf x)] wr fun e w' => ∃ a c, e = .returned (.agg (growA ((m : Int) + (k : Int) + 1) (.slice a (addL m P (L.take (k + 1))).length c))) ∧ Strs w' (.slice a (addL m P (L.take (k + 1))).length c) (addL m P (L.take (k + 1))) ∧ Below wr.heap.size wr w') := Lib.hid (by
              have h1 := refAdd_any (m + k) _ _ x wr hxx.1 (by omega) hxx.2 (HR32.out x (List.mem_of_getElem? hxk)) HSk.out
              rw [← HQ.out] at h1
              exact h1)
            unfold bytesOf at HRA
            have hgx2 := hgx
            clear hxx hxk hcell hcl hc' hm' hn' HQ
            go_wp2_with (first
              | ((with_reducible refine wpL_load W.heap.size 34 (growA ((m : Int) + (k : Int)) (.slice a5 (addL m P (L.take k)).length c5)) 2 rowGrow rfl hlk ?_ ?_); rfl)
              | (go_at_call 24; refine HRA.out.mono ?_; rintro e w8 ⟨a8, c8, rfl, hs8, hb8⟩; have hlk8 := hlk.on hb8)
              | ((with_reducible refine wpL_store W.heap.size 34 (growA ((m : Int) + (k : Int)) (.slice a5 (addL m P (L.take k)).length c5)) (growA ((m : Int) + (k : Int) + 1) (.slice a8 (addL m P (L.take (k + 1))).length c8)) 2 rowGrow rfl rfl (growA_one _ _ _ _) hlk8 ?_ ?_ ?_); rfl; rfl))
            have hO := (Only.refl w8 W.heap.size).row (Or.inl rfl) (growA ((m : Int) + (k : Int) + 1) (.slice a8 (addL m P (L.take (k + 1))).length c8))
            go_roundw
            case rel => exact ⟨k + 1, a8, c8, by omega, by go_num, by rw [show ((m : Int) + ((k + 1 : Nat) : Int)) = (m : Int) + (k : Int) + 1 by omega]; exact hlk8.row _, Lib.hid (strs_only hs8 hlk8 (growA_str _ _ _ _) hO), (hlx.on hb8).rowFar (by omega) _, Lib.hid (strs_only (HSx.out.below hb8) hlk8 (growA_str _ _ _ _) hO), Lib.hid (strs_only (HSl.out.below hb8) hlk8 (growA_str _ _ _ _) hO), below_rowSet (below_on hB hb8) (Nat.le_refl _) _⟩
            case measure => simp [intOf]; omega
          · obtain rfl : k = L.length := by omega
            rw [List.take_length] at hlk HSk
            have q0 := hlk.cell 0
            have q1 := hlk.cell 1
            have x0 := hlx.cell 0
            have x1 := hlx.cell 1
            simp only [growA, List.getElem?_toArray, List.getElem?_cons_succ, List.getElem?_cons_zero] at q0 q1 x0 x1
            have HSame := Lib.hid (by have h := same_any wr _ _ (addL m P L) (addL m P L) HSx.out HSk.out; rw [decide_eq_true rfl] at h; exact h)
            generalize addL m P L = Z at *
            clear HSx HSk HSl HX
            go_wp2_with (go_at_call 25; refine HSame.out.mono ?_; rintro e w9 ⟨rfl, hb9⟩)
            go_ret
            exact ⟨rfl, below_on hB hb9⟩
end Go.Proofs.YtakmlmgffgoecaaDoor.R
