/- The walk of the statement of the signatures' order: whatever numbers and whatever text, it answers true. -/
import Derived.Test.YtmekmlgpkbfjpaaGreatDoorK14
namespace Go.Proofs.YtmekmlgpkbfjpaaGreatDoor.O
open Go.RowKit Go.Sort Go.Maps Go.Proofs.YtmekmlgpkbfjpaaGreatDoor.E
open C (Pts)
open V (Lies OwnL RowL reg lessL bytesLess_is)
set_option maxRecDepth 100000

theorem own_kept2 {w w' : World} {B B' : Nat} {e e' : TypeId} {k k' : Nat} {v u : Value} {css css' : List (List Value)} (h : OwnL w B e k v css) (hu : OwnL w B' e' k' u css') (hg : w.grownBy w' u.ownBlock) (hne : e ≠ e') : OwnL w' B e k v css := by
  refine ⟨h.1, h.2.kept hg ?_⟩
  rcases h.2.2 with ⟨rfl, _⟩ | ⟨g, cap, cur, rfl, _, hh, _⟩
  · exact .inl rfl
  · refine .inr fun e1 => ?_
    rcases hu.2.2 with ⟨rfl, _⟩ | ⟨g2, cap2, cur2, rfl, _, hh2, _⟩
    · cases e1
    · simp only [Value.ownBlock, Option.some.injEq] at e1
      subst e1
      rw [hh] at hh2
      simp only [Option.some.injEq, Obj.cells.injEq] at hh2
      exact hne hh2.2.1
set_option maxHeartbeats 25600000 in
theorem orderO_walk (A : Pts EdTab) (many : Int) (sv : Value) (S : List Bool) (by_ : Int) (text : ByteArray) (W : World) (h1 : RowL W 1 sv (S.map fun i => [.bool i])) (hT : RTab W) :
    Calls Tryz.prog 6 #[.int .i64 many, sv, .int .i64 by_, .string text] W fun e w' => e = .returned (.bool true) ∧ Below W.heap.size W w' := by
  obtain ⟨sa, sc, rfl, _⟩ := h1.form
  rw [List.length_map] at h1 ⊢
  obtain ⟨r, hr⟩ : ∃ r, many.tmod 3 = r := ⟨_, rfl⟩
  have hr1 : -3 < r ∧ r < 3 := by rw [← hr]; exact ⟨Int.lt_tmod_of_pos _ (by decide), Int.tmod_lt_of_pos _ (by decide)⟩
  obtain ⟨m, hm⟩ : ∃ m : Nat, (r + 3).tmod 3 = (m : Int) := ⟨((r + 3).tmod 3).toNat, (Int.toNat_of_nonneg (Int.tmod_nonneg _ (by omega))).symm⟩
  have hm1 : m < 3 := by have := Int.tmod_lt_of_pos (r + 3) (show (0 : Int) < 3 by decide); omega
  obtain ⟨n, hn⟩ : ∃ n : Nat, 2 + (m : Int) = (n : Int) := ⟨m + 2, by omega⟩
  have hn1 : 2 ≤ n ∧ n ≤ 4 := by omega
  have hts := cut_le text 100
  have hx1 : (0 : Int) ≤ min (text.size : Int) 100 := by omega
  have hx2 : min (text.size : Int) 100 ≤ (text.size : Int) := by omega
  have HTT := Lib.hid (fun (w1 : World) (hb : Below W.heap.size W w1) => hT.on hb)
  have HSR := Lib.hid (fun (w1 : World) (hb : Below W.heap.size W w1) => h1.below hb)
  have HN4 := Lib.hid hn1
  clear hT h1
  go_enter Tryz.func6, Tryz.ntmps6
  go_upto_region 5 with fail
  generalize text.extract 0 (min (text.size : Int) 100).toNat = tx at *
  clear hx1 hx2 hr hm hn hr1
  go_wp2
  obtain ⟨iK, hiK, hzK0, hzK1, hzK2⟩ := info_parts infoKey
  obtain ⟨iG, hiG, hzG0, hzG1, hzG2⟩ := info_parts infoSig
  go_loopw [9, 10, 11, 12, 13, 14, 15, 16, 17, 39] (fun v9 v10 _ _ _ _ _ _ _ iv wr => ∃ i : Nat, iv = .int .i64 (i : Int) ∧ i ≤ n ∧ Hid (i = 0 → v9 = .slice none 0 0) ∧ Hid (OwnL wr W.heap.size 51 2 v9 ((rowN i).map twoS)) ∧ Hid (OwnL wr W.heap.size 46 2 v10 (((saysN S i).map fun n => sigOf tx (sdB n)).map twoS)) ∧ Below W.heap.size W wr) (fun _ _ _ _ _ _ _ _ _ iv _ => n - (intOf iv).toNat)
  case atStart => exact ⟨0, rfl, Nat.zero_le _, Lib.hid (fun _ => rfl), Lib.hid (OwnL.nil _ _ _ _), Lib.hid (OwnL.nil _ _ _ _), Below.refl _ _⟩
  case round =>
    obtain ⟨i, rfl, hi, H0, HO, HG, HB⟩ := hrel
    by_cases hlt : i < n
    case pos =>
      have i1 : (i : Int) < (n : Int) := by omega
      have hi4 : i < 4 := by have := HN4.out; omega
      have HSd := Lib.hid (seed_any i (by omega))
      have HPb := Lib.hid (fun (w1 : World) (hb : Below W.heap.size W w1) => public_good A (sdB i) rfl w1 (HTT.out w1 hb).e.1)
      have HI := Lib.hid (fun (w1 : World) (hb : Below W.heap.size W w1) => id_any (keyT (sdL i)) w1 (by rw [show (keyT (sdL i)).size = 32 from C.text_size _]; omega) (HTT.out w1 hb).u)
      rw [sd_data] at HPb
      rw [show idT (keyT (sdL i)) = idN i from rfl] at HI
      have HRN := Lib.hid (show (rowN (i + 1)).map twoS = ((rowN i).map twoS).take (posN i) ++ ([twoS (idN i, keyT (sdL i))] ++ ((rowN i).map twoS).drop (posN i)) by
        rw [row_next hi4, List.map_append, List.map_cons, List.map_take, List.map_drop]; rfl)
      have HAt := Lib.hid (show ∀ t, t < i → ∃ a b, ((rowN i).map twoS)[t]? = some (twoS (a, b)) ∧ lessB a (idN i) = decide (t < posN i) from fun t ht => by
        obtain ⟨x, hx⟩ : ∃ x, (ordN i)[t]? = some x := ⟨_, List.getElem?_eq_getElem (by rw [ord_len (by omega)]; exact ht)⟩
        exact ⟨idN x, keyT (sdL x), by unfold rowN; rw [List.getElem?_map, List.getElem?_map, hx]; rfl, pos_less hi4 hx⟩)
      have HSn := Lib.hid (fun (w1 : World) (hb : Below W.heap.size W w1) => sign_one A (sdB i) tx rfl (by omega) w1 (HTT.out w1 hb))
      have hP := pos_le hi4
      have hL : ((rowN i).map twoS).length = i := by rw [List.length_map, row_len (by omega)]
      have hLo : ∀ u ∈ ((rowN i).map twoS).flatten, u.oneCell' = true := fun u hu => rowOnes2 _ u hu
      have HJ := Lib.hid hlt
      generalize posN i = P at *
      generalize (rowN i).map twoS = L at *
      generalize keyT (sdL i) = kt at *
      generalize idN i = id at *
      obtain ⟨sg, hsg⟩ : ∃ sg, sigOf tx (sdB i) = sg := ⟨_, rfl⟩
      rw [hsg] at HSn
      have HSG := Lib.hid hsg
      clear hsg
      generalize sdB i = sd at HSd HPb HSn ⊢
      by_cases hi0 : i = 0
      · obtain rfl := H0.out hi0
        have HI0 := Lib.hid hi0
        obtain rfl : L = [] := List.eq_nil_of_length_eq_zero (hL.trans hi0)
        obtain rfl : P = 0 := by omega
        rw [List.take_nil, List.drop_nil] at HRN
        clear hlt H0 hL hLo HAt hi0 hP hi4 HO
        go_upto_region 13 with (first
          | (go_at_call 23; (with_reducible refine (HSd.out _).mono ?_); rintro e w1 ⟨rfl, hb⟩; replace HB := below_on HB hb; replace HG := Lib.hid (HG.out.on hb); try replace hv2 := hv2.on hb; clear hb)
          | (go_at_call 21; (with_reducible refine (HPb.out _ HB).mono ?_); rintro e w2 ⟨rfl, hb⟩; replace HB := below_on HB hb; replace HG := Lib.hid (HG.out.on hb); try replace hv2 := hv2.on hb; clear hb)
          | (go_at_call 20; (with_reducible refine (HSn.out _ HB).mono ?_); rintro e w2s ⟨⟨v2, rfl, hv2⟩, hb⟩; replace HB := below_on HB hb; replace HG := Lib.hid (HG.out.on hb); obtain ⟨gs, cs, hvs⟩ := hv2.form; subst hvs; clear hb)
          | (go_at_call 15; (with_reducible refine (HI.out _ HB).mono ?_); rintro e w3 ⟨rfl, hb⟩; replace HB := below_on HB hb; replace HG := Lib.hid (HG.out.on hb); try replace hv2 := hv2.on hb; clear hb))
        have hbA := (Below.refl w3.heap.size w3).alloc (Nat.le_refl _) (.cells #[.string id, .string kt] 51)
        replace HB := below_on HB hbA
        replace HG := Lib.hid (HG.out.on hbA)
        replace hv2 := hv2.on hbA
        have lK := Lies.new w3 51 #[.string id, .string kt]
        clear hbA
        generalize w3.alloc (.cells #[.string id, .string kt] 51) = w4 at *
        generalize w3.heap.size = gk at *
        go_wp2
        go_loopw [17] (fun v17 wx => v17 = .int .i64 0 ∧ Hid (Lies wx gk 51 #[.string id, .string kt]) ∧ Hid (OwnL wx W.heap.size 46 2 u10 (((saysN S i).map fun n => sigOf tx (sdB n)).map twoS)) ∧ Hid (One wx (.slice (some ⟨gs, 0, none⟩) 1 cs) sg) ∧ Below W.heap.size W wx) (fun _ _ => 0)
        case atStart => exact ⟨rfl, Lib.hid lK, HG, Lib.hid hv2, HB⟩
        case round =>
          clear lK HB HG hv2
          obtain ⟨rfl, HL, HG, hv2, HB⟩ := hrel
          replace hv2 := hv2.out
          go_upto_region 14 with fail
          refine wp_region_quiet_below (by kernel_rfl) (by kernel_rfl) ?_
          repeat (go_big_quiet_step (fail))
          refine wpQuiet_nil ?_
          intro _ hw'
          obtain ⟨⟨dq, osq⟩, hw''⟩ := hw'
          subst hw''
          have hb2 := below_regrown wr dq osq
          have lK := HL.out.on hb2
          replace HB := below_on HB hb2
          replace HG := Lib.hid (HG.out.on hb2)
          replace hv2 := hv2.on hb2
          clear hb2 HL
          generalize grow (redrawn wr dq) osq = w5 at *
          go_upto_region 16 with fail
          refine V.wp_held_any (S := fun w' => Lies w' gk 51 #[.string id, .string kt]) 12 rfl (by kernel_rfl) ?_
          have hbD : Below w5.heap.size w5 { w5 with drawn := w5.drawn + 1 } := (Below.refl _ _).drew
          replace lK := lK.on hbD
          replace HG := Lib.hid (HG.out.on hbD)
          replace hv2 := hv2.on hbD
          replace HB := below_on HB hbD
          clear hbD
          generalize ({ w5 with drawn := w5.drawn + 1 } : World) = w5d at *
          refine V.held_put 0 87 (.slice none 0 0) rfl rfl (by kernel_rfl) (by kernel_rfl) (by kernel_rfl) (by kernel_rfl) (fun w hS => rfl) lK ?_
          simp only [List.setIfInBounds_toArray, List.set_cons_succ, List.set_cons_zero]
          refine V.held_put 1 88 (.int .i64 0) rfl rfl (by kernel_rfl) (by kernel_rfl) (by kernel_rfl) (by kernel_rfl) (fun w hS => rfl) lK ?_
          simp only [List.setIfInBounds_toArray, List.set_cons_succ, List.set_cons_zero]
          refine V.held_put 2 89 (.int .i64 0) rfl rfl (by kernel_rfl) (by kernel_rfl) (by kernel_rfl) (by kernel_rfl) (fun w hS => rfl) lK ?_
          simp only [List.setIfInBounds_toArray, List.set_cons_succ, List.set_cons_zero]
          refine V.held_put 3 90 (.slice none 0 0) rfl rfl (by kernel_rfl) (by kernel_rfl) (by kernel_rfl) (by kernel_rfl) (fun w hS => run_cut3 _ 2 underK elemK none 0 0 0 (Nat.le_refl _) rfl rfl rfl w) lK ?_
          simp only [List.setIfInBounds_toArray, List.set_cons_succ, List.set_cons_zero]
          refine V.held_put 4 91 (.agg #[.string id, .string kt]) rfl rfl (by kernel_rfl) (by kernel_rfl) (by kernel_rfl) (by kernel_rfl) (fun w hS => run_ldW _ gk _ _ 2 rowKey rfl hS rfl) lK ?_
          simp only [List.setIfInBounds_toArray, List.set_cons_succ, List.set_cons_zero]
          refine V.held_put 6 93 (.slice none 0 0) rfl rfl (by kernel_rfl) (by kernel_rfl) (by kernel_rfl) (by kernel_rfl) (fun w hS => rfl) lK ?_
          simp only [List.setIfInBounds_toArray, List.set_cons_succ, List.set_cons_zero]
          refine V.held_put 7 94 (.int .i64 0) rfl rfl (by kernel_rfl) (by kernel_rfl) (by kernel_rfl) (by kernel_rfl) (fun w hS => rfl) lK ?_
          simp only [List.setIfInBounds_toArray, List.set_cons_succ, List.set_cons_zero]
          refine V.held_put 8 95 (.slice none 0 0) rfl rfl (by kernel_rfl) (by kernel_rfl) (by kernel_rfl) (by kernel_rfl) (fun w hS => run_cutL _ 2 underK elemK none 0 0 0 (Nat.le_refl _) rfl rfl w) lK ?_
          simp only [List.setIfInBounds_toArray, List.set_cons_succ, List.set_cons_zero]
          have hbN := (Below.refl w5d.heap.size w5d).alloc (Nat.le_refl _) (.cells #[.string id, .string kt] 51)
          have hoL := own_lit w5d w5d.heap.size (id, kt) (Nat.le_refl _)
          have hbq := hbN
          have HBq := Lib.hid HB
          have lKq := Lib.hid lK
          have HGq := HG
          have hvq := Lib.hid hv2
          refine V.held_one 5 (by kernel_rfl) (V.wpOp_put 92 (w' := w5d.alloc (.cells #[.string id, .string kt] 51)) (v := (.slice (some ⟨w5d.heap.size, 0, none⟩) 1 1)) rfl rfl (by kernel_rfl) (by kernel_rfl) ⟨lK.on hbN, ?_⟩)
          simp only [List.setIfInBounds_toArray, List.set_cons_succ, List.set_cons_zero]
          replace lK := lK.on hbN
          replace HG := Lib.hid (HG.out.on hbN)
          replace hv2 := hv2.on hbN
          replace HB := below_on HB hbN
          clear hbN
          obtain ⟨wb1g, hgg⟩ : ∃ g, w5d.heap.size = g := ⟨_, rfl⟩
          generalize w5d.alloc (.cells #[.string id, .string kt] 51) = wb1 at *
          clear hgg
          refine V.held_one 9 (by kernel_rfl) (V.wpOp_lawD 96 rfl rfl (by kernel_rfl) (V.wpL_appendL w5d.heap.size 51 iK _ 2 32 Tryz.underlying25 hiK hzK0 hzK1 hzK2 rfl (by decide) _ [twoS (id, kt)] hoL _ ([] : List (List Value)) (RowL.nil _ _) (by simp) (by unfold maxLen; simp) (by simp) hbq.size rfl rfl ?_))
          intro v10 w10 ho10 hg10
          replace hbq := hbq.grown hg10 hbq.size (fun k hk => hoL.lt k hk)
          replace HB := below_on HBq.out hbq
          replace lK := lKq.out.on hbq
          replace HG := Lib.hid (HGq.out.on hbq)
          replace hv2 := hvq.out.on hbq
          clear hoL hg10
          refine And.intro lK ?_
          simp only [Act.put, List.setIfInBounds_toArray, List.set_cons_succ, List.set_cons_zero]
          refine V.held_one 10 (by kernel_rfl) (V.wpOp_lawD 97 rfl rfl (by kernel_rfl) (V.wpL_appendL W.heap.size 51 iK _ 2 32 Tryz.underlying25 hiK hzK0 hzK1 hzK2 rfl (by decide) _ [] (OwnL.nil _ _ _ _) _ ([twoS (id, kt)] ++ []) ho10.read (twoS_ones _) (by unfold maxLen; simp) (by simp) HB.size rfl rfl ?_))
          intro v11 w11 ho11 hg11
          replace HB := HB.grown hg11 HB.size (fun k hk => by cases hk)
          have hb11 := (Below.refl w10.heap.size w10).grown hg11 (Nat.le_refl _) (fun k hk => by cases hk)
          replace lK := lK.on hb11
          replace HG := Lib.hid (HG.out.on hb11)
          replace hv2 := hv2.on hb11
          clear hb11 hg11 ho10 hbq
          refine And.intro lK ?_
          simp only [Act.put, List.setIfInBounds_toArray, List.set_cons_succ, List.set_cons_zero]
          refine V.held_put 11 9 v11 rfl rfl (by kernel_rfl) (by kernel_rfl) (by kernel_rfl) (by kernel_rfl) (fun w hS => rfl) lK ?_
          simp only [List.setIfInBounds_toArray, List.set_cons_succ, List.set_cons_zero]
          refine V.held_done (by kernel_rfl) ?_
          simp only [Exit.then]
          have HKN := Lib.hid (show OwnL w11 W.heap.size 51 2 v11 ((rowN (i + 1)).map twoS) by rw [HRN.out]; exact ho11)
          clear ho11 lK
          by_cases hlS : i < S.length
          · obtain ⟨bv, hbv⟩ : ∃ x, S[i]? = some x := ⟨_, List.getElem?_eq_getElem hlS⟩
            obtain ⟨bb, off, rfl, hr, _⟩ := (HSR.out _ HB).at (i := i) (cs := [.bool bv]) (by rw [List.getElem?_map, hbv]; rfl)
            have q0 := hr 0 (.bool bv) rfl
            rw [Nat.mul_one, Nat.add_zero] at q0
            have hgd : S.getD i false = bv := by rw [List.getD_eq_getElem?_getD, hbv]; rfl
            have hsy := says_succ S i
            rw [hgd] at hsy
            have l1 : (i : Int) < (S.length : Int) := by omega
            have l3 : (0 : Int) ≤ (i : Int) := by omega
            clear hr hbv hgd hlS
            cases bv with
            | true =>
              have HSY := Lib.hid hsy
              have hOs := HG.out
              have hrow := hv2.row
              have hone := twoS_ones sg
              have hlen : (((saysN S i).map fun n => sigOf tx (sdB n)).map twoS).length ≤ 4 := by
                rw [List.length_map, List.length_map]
                have h1 := List.length_filter_le (fun x => S.getD x false) (List.range i)
                rw [List.length_range] at h1
                have := HN4.out
                have := HJ.out
                show (saysN S i).length ≤ 4
                unfold saysN
                omega
              have HEN := Lib.hid (show ((saysN S i).map fun n => sigOf tx (sdB n)).map twoS ++ [twoS sg] = ((saysN S (i + 1)).map fun n => sigOf tx (sdB n)).map twoS by
                rw [HSY.out, ← HSG.out, sigs_snoc]; rfl)
              generalize ((saysN S i).map fun n => sigOf tx (sdB n)).map twoS = LS at *
              have h63 : LS.length + ([twoS sg] : List (List Value)).length ≤ maxLen := by unfold maxLen; simp only [List.length_singleton]; omega
              have h64 : (LS.length + ([twoS sg] : List (List Value)).length) * 32 ≤ 140737488355328 := by simp only [List.length_singleton]; omega
              have hszB := HB.size
              have HKX := Lib.hid (fun (wx : World) (hg : w11.grownBy wx u10.ownBlock) => own_kept2 HKN.out hOs hg (by decide))
              have HBX := Lib.hid (fun (wx : World) (hg : w11.grownBy wx u10.ownBlock) => HB.grown hg hszB (fun k hk => hOs.lt k hk))
              clear hv2 hlen HKN HB HG hsy
              go_wp2_with ((with_reducible refine V.wpL_appendL W.heap.size 46 iG (.agg #[.string ⟨#[]⟩, .string ⟨#[]⟩]) 2 32 Tryz.underlying26 hiG hzG0 hzG1 hzG2 rfl (by decide) _ LS hOs _ _ hrow hone h63 h64 hszB ?_ ?_ ?_); rfl; rfl; intro v5 w6 hoX hgX)
              go_roundw
              case rel => exact ⟨i + 1, by go_num, HJ.out, Lib.hid (fun e => by omega), Lib.hid (HKX.out _ hgX), Lib.hid (by rw [← HEN.out]; exact hoX), HBX.out _ hgX⟩
              case measure =>
                have := HJ.out
                simp [intOf]; omega
            | false =>
              have HSY := Lib.hid (show saysN S (i + 1) = saysN S i by rw [hsy]; simp)
              clear hsy hv2
              go_wp2
              go_roundw
              case rel => exact ⟨i + 1, by go_num, HJ.out, Lib.hid (fun e => by omega), HKN, Lib.hid (by rw [HSY.out]; exact HG.out), HB⟩
              case measure =>
                have := HJ.out
                simp [intOf]; omega
          · have HSY := Lib.hid (show saysN S (i + 1) = saysN S i by
              rw [says_succ, List.getD_eq_getElem?_getD, List.getElem?_eq_none (by omega)]; simp)
            have l1 : ¬ (i : Int) < (S.length : Int) := by omega
            clear hlS hv2
            go_wp2
            go_roundw
            case rel => exact ⟨i + 1, by go_num, HJ.out, Lib.hid (fun e => by omega), HKN, Lib.hid (by rw [HSY.out]; exact HG.out), HB⟩
            case measure =>
              have := HJ.out
              simp [intOf]; omega
      · obtain ⟨g, c, hv⟩ := own_some HO.out (by omega)
        rw [hL] at hv
        subst hv
        have hic : i ≤ c := by
          obtain ⟨a', c', e, h1, _⟩ := HO.out.read.form
          injection e with _ e2 e3
          omega
        have HPc := Lib.hid (show P ≤ c by omega)
        have HPi := Lib.hid hP
        have HTake := Lib.hid (fun (w : World) (h : RowL w 2 (.slice (some ⟨g, 0, none⟩) i c) L) => row_full h (p := P) (by omega))
        have HDrop := Lib.hid (show ∀ (w : World), RowL w 2 (.slice (some ⟨g, 0, none⟩) i c) L → RowL w 2 (sliced (some ⟨g, 0, none⟩) P i c 2) (L.drop P) from fun w h => by
          have := h.drop (j := P) (by omega)
          rwa [hL] at this)
        have HDu := Lib.hid (show ∀ u ∈ (L.drop P).flatten, u.oneCell' = true from fun u hu => by
          obtain ⟨cs, hcs, hu⟩ := List.mem_flatten.1 hu
          exact hLo u (List.mem_flatten.2 ⟨cs, List.mem_of_mem_drop hcs, hu⟩))
        have HD63 := Lib.hid (show ([twoS (id, kt)] : List (List Value)).length + (L.drop P).length ≤ maxLen by rw [List.length_drop, hL]; unfold maxLen; simp; omega)
        have HD64 := Lib.hid (show (([twoS (id, kt)] : List (List Value)).length + (L.drop P).length) * 32 ≤ 140737488355328 by rw [List.length_drop, hL]; simp; omega)
        have HL63 := Lib.hid (show P + ([twoS (id, kt)] ++ L.drop P : List (List Value)).length ≤ 1000 by rw [List.length_append, List.length_drop, hL]; simp; omega)
        have hI0 := Lib.hid (show 0 < i by omega)
        clear hlt H0 hL hLo hi0 hi4 hic
        go_upto_region 13 with (first
          | (go_at_call 23; (with_reducible refine (HSd.out _).mono ?_); rintro e w1 ⟨rfl, hb⟩; replace HB := below_on HB hb; replace HO := Lib.hid (HO.out.on hb); replace HG := Lib.hid (HG.out.on hb); try replace hv2 := hv2.on hb; clear hb)
          | (go_at_call 21; (with_reducible refine (HPb.out _ HB).mono ?_); rintro e w2 ⟨rfl, hb⟩; replace HB := below_on HB hb; replace HO := Lib.hid (HO.out.on hb); replace HG := Lib.hid (HG.out.on hb); try replace hv2 := hv2.on hb; clear hb)
          | (go_at_call 20; (with_reducible refine (HSn.out _ HB).mono ?_); rintro e w2s ⟨⟨v2, rfl, hv2⟩, hb⟩; replace HB := below_on HB hb; replace HG := Lib.hid (HG.out.on hb); replace HO := Lib.hid (HO.out.on hb); obtain ⟨gs, cs, hvs⟩ := hv2.form; subst hvs; clear hb)
          | (go_at_call 15; (with_reducible refine (HI.out _ HB).mono ?_); rintro e w3 ⟨rfl, hb⟩; replace HB := below_on HB hb; replace HO := Lib.hid (HO.out.on hb); replace HG := Lib.hid (HG.out.on hb); try replace hv2 := hv2.on hb; clear hb))
        have hbA := (Below.refl w3.heap.size w3).alloc (Nat.le_refl _) (.cells #[.string id, .string kt] 51)
        replace HB := below_on HB hbA
        replace HG := Lib.hid (HG.out.on hbA)
        replace hv2 := hv2.on hbA
        replace HO := Lib.hid (HO.out.on hbA)
        have lK := Lies.new w3 51 #[.string id, .string kt]
        clear hbA
        generalize w3.alloc (.cells #[.string id, .string kt] 51) = w4 at *
        generalize w3.heap.size = gk at *
        go_wp2
        go_loopw [17] (fun v17 wx => ∃ t : Nat, v17 = .int .i64 (t : Int) ∧ t ≤ P ∧ Hid (Lies wx gk 51 #[.string id, .string kt]) ∧ Hid (OwnL wx W.heap.size 46 2 u10 (((saysN S i).map fun n => sigOf tx (sdB n)).map twoS)) ∧ Hid (One wx (.slice (some ⟨gs, 0, none⟩) 1 cs) sg) ∧ Hid (RowL wx 2 (.slice (some ⟨g, 0, none⟩) i c) L) ∧ Below W.heap.size W wx) (fun v17 _ => P - (intOf v17).toNat)
        case atStart => exact ⟨0, rfl, Nat.zero_le _, Lib.hid lK, HG, Lib.hid hv2, Lib.hid HO.out.read, HB⟩
        case round =>
          clear lK HB HO HG hv2
          obtain ⟨t, rfl, ht, HL, HG, hv2, HO, HB⟩ := hrel
          replace hv2 := hv2.out
          by_cases hti : t < i
          case neg =>
            have hE1 : P = t := by omega
            subst hE1
            have hE2 : P = i := by omega
            have j1 : ¬ (P : Int) < (i : Int) := by omega
            have j1x : ¬ (i : Int) < (i : Int) := by omega
            clear hti ht hP hE2 j1x
            go_upto_region 14 with fail
            refine wp_region_quiet_below (by kernel_rfl) (by kernel_rfl) ?_
            repeat (go_big_quiet_step (fail))
            refine wpQuiet_nil ?_
            intro _ hw'
            obtain ⟨⟨dq, osq⟩, hw''⟩ := hw'
            subst hw''
            have hb2 := below_regrown wr dq osq
            have lK := HL.out.on hb2
            have HR := HO.out.below hb2
            replace HB := below_on HB hb2
            replace HG := Lib.hid (HG.out.on hb2)
            replace hv2 := hv2.on hb2
            clear hb2 HL HO
            generalize grow (redrawn wr dq) osq = w5 at *
            go_upto_region 16 with fail
            refine V.wp_held_any (S := fun w' => Lies w' gk 51 #[.string id, .string kt]) 12 rfl (by kernel_rfl) ?_
            have hbD : Below w5.heap.size w5 { w5 with drawn := w5.drawn + 1 } := (Below.refl _ _).drew
            replace lK := lK.on hbD
            replace HG := Lib.hid (HG.out.on hbD)
            replace hv2 := hv2.on hbD
            replace HR := HR.below hbD
            replace HB := below_on HB hbD
            clear hbD
            generalize ({ w5 with drawn := w5.drawn + 1 } : World) = w5d at *
            refine V.held_put 0 87 (.slice (some ⟨g, 0, none⟩) i c) rfl rfl (by kernel_rfl) (by kernel_rfl) (by kernel_rfl) (by kernel_rfl) (fun w hS => rfl) lK ?_
            simp only [List.setIfInBounds_toArray, List.set_cons_succ, List.set_cons_zero]
            refine V.held_put 1 88 (.int .i64 (P : Int)) rfl rfl (by kernel_rfl) (by kernel_rfl) (by kernel_rfl) (by kernel_rfl) (fun w hS => rfl) lK ?_
            simp only [List.setIfInBounds_toArray, List.set_cons_succ, List.set_cons_zero]
            refine V.held_put 2 89 (.int .i64 (P : Int)) rfl rfl (by kernel_rfl) (by kernel_rfl) (by kernel_rfl) (by kernel_rfl) (fun w hS => rfl) lK ?_
            simp only [List.setIfInBounds_toArray, List.set_cons_succ, List.set_cons_zero]
            refine V.held_put 3 90 (.slice (some ⟨g, 0, none⟩) P P) rfl rfl (by kernel_rfl) (by kernel_rfl) (by kernel_rfl) (by kernel_rfl) (fun w hS => (run_cut3 _ 2 underK elemK (some ⟨g, 0, none⟩) i c P HPc.out rfl rfl rfl w).trans (by rw [sliced_full])) lK ?_
            simp only [List.setIfInBounds_toArray, List.set_cons_succ, List.set_cons_zero]
            refine V.held_put 4 91 (.agg #[.string id, .string kt]) rfl rfl (by kernel_rfl) (by kernel_rfl) (by kernel_rfl) (by kernel_rfl) (fun w hS => run_ldW _ gk _ _ 2 rowKey rfl hS rfl) lK ?_
            simp only [List.setIfInBounds_toArray, List.set_cons_succ, List.set_cons_zero]
            refine V.held_put 6 93 (.slice (some ⟨g, 0, none⟩) i c) rfl rfl (by kernel_rfl) (by kernel_rfl) (by kernel_rfl) (by kernel_rfl) (fun w hS => rfl) lK ?_
            simp only [List.setIfInBounds_toArray, List.set_cons_succ, List.set_cons_zero]
            refine V.held_put 7 94 (.int .i64 (P : Int)) rfl rfl (by kernel_rfl) (by kernel_rfl) (by kernel_rfl) (by kernel_rfl) (fun w hS => rfl) lK ?_
            simp only [List.setIfInBounds_toArray, List.set_cons_succ, List.set_cons_zero]
            refine V.held_put 8 95 (sliced (some ⟨g, 0, none⟩) P i c 2) rfl rfl (by kernel_rfl) (by kernel_rfl) (by kernel_rfl) (by kernel_rfl) (fun w hS => run_cutL _ 2 underK elemK (some ⟨g, 0, none⟩) i c P HPi.out rfl rfl w) lK ?_
            simp only [List.setIfInBounds_toArray, List.set_cons_succ, List.set_cons_zero]
            have hbN := (Below.refl w5d.heap.size w5d).alloc (Nat.le_refl _) (.cells #[.string id, .string kt] 51)
            have hoL := own_lit w5d w5d.heap.size (id, kt) (Nat.le_refl _)
            have hbq := hbN
            have HBq := Lib.hid HB
            have lKq := Lib.hid lK
            have HGq := HG
            have hvq := Lib.hid hv2
            have HDr := Lib.hid (fun (w1 : World) (hb : Below w5d.heap.size w5d w1) => (HDrop.out _ HR).below hb)
            have HLo := Lib.hid (fun (w1 : World) (hb : Below w5d.heap.size w5d w1) => (HTake.out _ HR).below hb)
            refine V.held_one 5 (by kernel_rfl) (V.wpOp_put 92 (w' := w5d.alloc (.cells #[.string id, .string kt] 51)) (v := (.slice (some ⟨w5d.heap.size, 0, none⟩) 1 1)) rfl rfl (by kernel_rfl) (by kernel_rfl) ⟨lK.on hbN, ?_⟩)
            simp only [List.setIfInBounds_toArray, List.set_cons_succ, List.set_cons_zero]
            replace lK := lK.on hbN
            replace HG := Lib.hid (HG.out.on hbN)
            replace hv2 := hv2.on hbN
            replace HR := HR.below hbN
            replace HB := below_on HB hbN
            clear hbN
            obtain ⟨wb1g, hgg⟩ : ∃ g, w5d.heap.size = g := ⟨_, rfl⟩
            generalize w5d.alloc (.cells #[.string id, .string kt] 51) = wb1 at *
            clear hgg
            refine V.held_one 9 (by kernel_rfl) (V.wpOp_lawD 96 rfl rfl (by kernel_rfl) (V.wpL_appendL w5d.heap.size 51 iK _ 2 32 Tryz.underlying25 hiK hzK0 hzK1 hzK2 rfl (by decide) _ [twoS (id, kt)] hoL _ (L.drop P) (HDr.out _ hbq) HDu.out HD63.out HD64.out hbq.size rfl rfl ?_))
            intro v10 w10 ho10 hg10
            replace hbq := hbq.grown hg10 hbq.size (fun k hk => hoL.lt k hk)
            replace HB := below_on HBq.out hbq
            replace lK := lKq.out.on hbq
            replace HG := Lib.hid (HGq.out.on hbq)
            replace hv2 := hvq.out.on hbq
            clear hoL hg10
            refine And.intro lK ?_
            simp only [Act.put, List.setIfInBounds_toArray, List.set_cons_succ, List.set_cons_zero]
            obtain ⟨gX, cX, rfl⟩ := own_some ho10 (by simp)
            obtain ⟨v11, w11, hr11, ho11, hg11⟩ := run_grow 25 (HLo.out _ hbq) ho10.read (by simp) HL63.out
            replace ho11 := own_base ho11 HB.size
            replace HB := HB.grown hg11 HB.size (fun k hk => by cases hk)
            have hb11 := (Below.refl w10.heap.size w10).grown hg11 (Nat.le_refl _) (fun k hk => by cases hk)
            refine V.held_one 10 (by kernel_rfl) (V.wpOp_put 97 (w' := w11) (v := v11) rfl rfl (by kernel_rfl) (hr11 _ _ _ _ _ _ _ rfl rfl) ?_)
            replace lK := lK.on hb11
            replace HG := Lib.hid (HG.out.on hb11)
            replace hv2 := hv2.on hb11
            clear hb11 hg11 ho10 hbq
            refine And.intro lK ?_
            simp only [List.setIfInBounds_toArray, List.set_cons_succ, List.set_cons_zero]
            refine V.held_put 11 9 v11 rfl rfl (by kernel_rfl) (by kernel_rfl) (by kernel_rfl) (by kernel_rfl) (fun w hS => rfl) lK ?_
            simp only [List.setIfInBounds_toArray, List.set_cons_succ, List.set_cons_zero]
            refine V.held_done (by kernel_rfl) ?_
            simp only [Exit.then]
            have HKN := Lib.hid (show OwnL w11 W.heap.size 51 2 v11 ((rowN (i + 1)).map twoS) by rw [HRN.out]; exact ho11)
            clear ho11 lK
            by_cases hlS : i < S.length
            · obtain ⟨bv, hbv⟩ : ∃ x, S[i]? = some x := ⟨_, List.getElem?_eq_getElem hlS⟩
              obtain ⟨bb, off, rfl, hr, _⟩ := (HSR.out _ HB).at (i := i) (cs := [.bool bv]) (by rw [List.getElem?_map, hbv]; rfl)
              have q0 := hr 0 (.bool bv) rfl
              rw [Nat.mul_one, Nat.add_zero] at q0
              have hgd : S.getD i false = bv := by rw [List.getD_eq_getElem?_getD, hbv]; rfl
              have hsy := says_succ S i
              rw [hgd] at hsy
              have l1 : (i : Int) < (S.length : Int) := by omega
              have l3 : (0 : Int) ≤ (i : Int) := by omega
              clear hr hbv hgd hlS
              cases bv with
              | true =>
                have HSY := Lib.hid hsy
                have hOs := HG.out
                have hrow := hv2.row
                have hone := twoS_ones sg
                have hlen : (((saysN S i).map fun n => sigOf tx (sdB n)).map twoS).length ≤ 4 := by
                  rw [List.length_map, List.length_map]
                  have h1 := List.length_filter_le (fun x => S.getD x false) (List.range i)
                  rw [List.length_range] at h1
                  have := HN4.out
                  have := HJ.out
                  show (saysN S i).length ≤ 4
                  unfold saysN
                  omega
                have HEN := Lib.hid (show ((saysN S i).map fun n => sigOf tx (sdB n)).map twoS ++ [twoS sg] = ((saysN S (i + 1)).map fun n => sigOf tx (sdB n)).map twoS by
                  rw [HSY.out, ← HSG.out, sigs_snoc]; rfl)
                generalize ((saysN S i).map fun n => sigOf tx (sdB n)).map twoS = LS at *
                have h63 : LS.length + ([twoS sg] : List (List Value)).length ≤ maxLen := by unfold maxLen; simp only [List.length_singleton]; omega
                have h64 : (LS.length + ([twoS sg] : List (List Value)).length) * 32 ≤ 140737488355328 := by simp only [List.length_singleton]; omega
                have hszB := HB.size
                have HKX := Lib.hid (fun (wx : World) (hg : w11.grownBy wx u10.ownBlock) => own_kept2 HKN.out hOs hg (by decide))
                have HBX := Lib.hid (fun (wx : World) (hg : w11.grownBy wx u10.ownBlock) => HB.grown hg hszB (fun k hk => hOs.lt k hk))
                clear hv2 hlen HKN HB HG hsy
                go_wp2_with ((with_reducible refine V.wpL_appendL W.heap.size 46 iG (.agg #[.string ⟨#[]⟩, .string ⟨#[]⟩]) 2 32 Tryz.underlying26 hiG hzG0 hzG1 hzG2 rfl (by decide) _ LS hOs _ _ hrow hone h63 h64 hszB ?_ ?_ ?_); rfl; rfl; intro v5 w6 hoX hgX)
                go_roundw
                case rel => exact ⟨i + 1, by go_num, HJ.out, Lib.hid (fun e => by omega), Lib.hid (HKX.out _ hgX), Lib.hid (by rw [← HEN.out]; exact hoX), HBX.out _ hgX⟩
                case measure =>
                  have := HJ.out
                  simp [intOf]; omega
              | false =>
                have HSY := Lib.hid (show saysN S (i + 1) = saysN S i by rw [hsy]; simp)
                clear hsy hv2
                go_wp2
                go_roundw
                case rel => exact ⟨i + 1, by go_num, HJ.out, Lib.hid (fun e => by omega), HKN, Lib.hid (by rw [HSY.out]; exact HG.out), HB⟩
                case measure =>
                  have := HJ.out
                  simp [intOf]; omega
            · have HSY := Lib.hid (show saysN S (i + 1) = saysN S i by
                rw [says_succ, List.getD_eq_getElem?_getD, List.getElem?_eq_none (by omega)]; simp)
              have l1 : ¬ (i : Int) < (S.length : Int) := by omega
              clear hlS hv2
              go_wp2
              go_roundw
              case rel => exact ⟨i + 1, by go_num, HJ.out, Lib.hid (fun e => by omega), HKN, Lib.hid (by rw [HSY.out]; exact HG.out), HB⟩
              case measure =>
                have := HJ.out
                simp [intOf]; omega
          obtain ⟨a, b, hab, hless⟩ := HAt.out t hti
          have j1 : decide ((t : Int) < (i : Int)) = true := decide_eq_true (by omega)
          have HR := HO.out
          have lK := HL.out
          have HTI := Lib.hid hti
          clear HO HL hti
          by_cases htP : t < P
          · rw [decide_eq_true htP] at hless
            have HJ2 := Lib.hid htP
            clear htP
            go_upto_region 14 with fail
            refine V.wp_held_any (S := fun w' => Lies w' gk 51 #[.string id, .string kt] ∧ RowL w' 2 (.slice (some ⟨g, 0, none⟩) i c) L) 14 rfl (by kernel_rfl) ?_
            have hbD : Below wr.heap.size wr { wr with drawn := wr.drawn + 1 } := (Below.refl _ _).drew
            replace lK := lK.on hbD
            replace HG := Lib.hid (HG.out.on hbD)
            replace hv2 := hv2.on hbD
            replace HR := HR.below hbD
            replace HB := below_on HB hbD
            clear hbD
            generalize ({ wr with drawn := wr.drawn + 1 } : World) = wrd at *
            refine V.held_put 0 71 (.int .i64 (t : Int)) rfl rfl (by kernel_rfl) (by kernel_rfl) (by kernel_rfl) (by kernel_rfl) (fun w hS => rfl) ⟨lK, HR⟩ ?_
            simp only [List.setIfInBounds_toArray, List.set_cons_succ, List.set_cons_zero]
            refine V.held_put 1 72 (.slice (some ⟨g, 0, none⟩) i c) rfl rfl (by kernel_rfl) (by kernel_rfl) (by kernel_rfl) (by kernel_rfl) (fun w hS => rfl) ⟨lK, HR⟩ ?_
            simp only [List.setIfInBounds_toArray, List.set_cons_succ, List.set_cons_zero]
            refine V.held_put 2 73 (.int .i64 (i : Int)) rfl rfl (by kernel_rfl) (by kernel_rfl) (by kernel_rfl) (by kernel_rfl) (fun w hS => run_lenK _ i c rfl w) ⟨lK, HR⟩ ?_
            simp only [List.setIfInBounds_toArray, List.set_cons_succ, List.set_cons_zero]
            refine V.held_put 3 74 (.bool true) rfl rfl (by kernel_rfl) (by kernel_rfl) (by kernel_rfl) (by kernel_rfl) (fun w hS => run_lssI _ _ _ j1 rfl rfl w) ⟨lK, HR⟩ ?_
            simp only [List.setIfInBounds_toArray, List.set_cons_succ, List.set_cons_zero]
            refine V.held_put 4 75 (.bool true) rfl rfl (by kernel_rfl) (by kernel_rfl) (by kernel_rfl) (by kernel_rfl) (fun w hS => rfl) ⟨lK, HR⟩ ?_
            simp only [List.setIfInBounds_toArray, List.set_cons_succ, List.set_cons_zero]
            refine V.held_put 5 76 (.slice (some ⟨g, 0, none⟩) i c) rfl rfl (by kernel_rfl) (by kernel_rfl) (by kernel_rfl) (by kernel_rfl) (fun w hS => rfl) ⟨lK, HR⟩ ?_
            simp only [List.setIfInBounds_toArray, List.set_cons_succ, List.set_cons_zero]
            refine V.held_put 6 77 (.int .i64 (t : Int)) rfl rfl (by kernel_rfl) (by kernel_rfl) (by kernel_rfl) (by kernel_rfl) (fun w hS => rfl) ⟨lK, HR⟩ ?_
            simp only [List.setIfInBounds_toArray, List.set_cons_succ, List.set_cons_zero]
            refine V.held_put 7 78 (.pointer (some ⟨g, 0 + t * 2, none⟩)) rfl rfl (by kernel_rfl) (by kernel_rfl) (by kernel_rfl) (by kernel_rfl) (fun w hS => run_idxM _ _ 2 Tryz.underlying25 Tryz.sizeOf51 g 0 i c t HTI.out rfl rfl w) ⟨lK, HR⟩ ?_
            simp only [List.setIfInBounds_toArray, List.set_cons_succ, List.set_cons_zero]
            refine V.held_put 8 79 (.pointer (some ⟨g, 0 + t * 2, none⟩)) rfl rfl (by kernel_rfl) (by kernel_rfl) (by kernel_rfl) (by kernel_rfl) (fun w hS => run_fldK g _ rfl w) ⟨lK, HR⟩ ?_
            simp only [List.setIfInBounds_toArray, List.set_cons_succ, List.set_cons_zero]
            refine V.held_put 9 80 (.string a) rfl rfl (by kernel_rfl) (by kernel_rfl) (by kernel_rfl) (by kernel_rfl) (fun w hS => run_ldS _ _ _ (key_cell hS.2 hab) rfl) ⟨lK, HR⟩ ?_
            simp only [List.setIfInBounds_toArray, List.set_cons_succ, List.set_cons_zero]
            refine V.held_put 10 81 (.pointer (some ⟨gk, 0, none⟩)) rfl rfl (by kernel_rfl) (by kernel_rfl) (by kernel_rfl) (by kernel_rfl) (fun w hS => run_fldK gk _ rfl w) ⟨lK, HR⟩ ?_
            simp only [List.setIfInBounds_toArray, List.set_cons_succ, List.set_cons_zero]
            refine V.held_put 11 82 (.string id) rfl rfl (by kernel_rfl) (by kernel_rfl) (by kernel_rfl) (by kernel_rfl) (fun w hS => run_ldS _ _ _ (lies_cell hS.1) rfl) ⟨lK, HR⟩ ?_
            simp only [List.setIfInBounds_toArray, List.set_cons_succ, List.set_cons_zero]
            refine V.held_put 12 83 (.bool true) rfl rfl (by kernel_rfl) (by kernel_rfl) (by kernel_rfl) (by kernel_rfl) (fun w hS => run_lssT _ _ _ hless rfl rfl w) ⟨lK, HR⟩ ?_
            simp only [List.setIfInBounds_toArray, List.set_cons_succ, List.set_cons_zero]
            refine V.held_put 13 84 (.bool true) rfl rfl (by kernel_rfl) (by kernel_rfl) (by kernel_rfl) (by kernel_rfl) (fun w hS => rfl) ⟨lK, HR⟩ ?_
            simp only [List.setIfInBounds_toArray, List.set_cons_succ, List.set_cons_zero]
            refine V.held_done (by kernel_rfl) ?_
            simp only [Exit.then]
            go_wp2
            go_roundw
            case rel => exact ⟨t + 1, by go_num, HJ2.out, Lib.hid lK, HG, Lib.hid hv2, Lib.hid HR, HB⟩
            case measure =>
              have := HJ2.out
              simp [intOf]; omega
          · rw [decide_eq_false htP] at hless
            have hE1 : P = t := by omega
            subst hE1
            clear htP ht
            go_upto_region 14 with fail
            refine V.wp_held_any (S := fun w' => Lies w' gk 51 #[.string id, .string kt] ∧ RowL w' 2 (.slice (some ⟨g, 0, none⟩) i c) L) 14 rfl (by kernel_rfl) ?_
            have hbD : Below wr.heap.size wr { wr with drawn := wr.drawn + 1 } := (Below.refl _ _).drew
            replace lK := lK.on hbD
            replace HG := Lib.hid (HG.out.on hbD)
            replace hv2 := hv2.on hbD
            replace HR := HR.below hbD
            replace HB := below_on HB hbD
            clear hbD
            generalize ({ wr with drawn := wr.drawn + 1 } : World) = wrd at *
            refine V.held_put 0 71 (.int .i64 (P : Int)) rfl rfl (by kernel_rfl) (by kernel_rfl) (by kernel_rfl) (by kernel_rfl) (fun w hS => rfl) ⟨lK, HR⟩ ?_
            simp only [List.setIfInBounds_toArray, List.set_cons_succ, List.set_cons_zero]
            refine V.held_put 1 72 (.slice (some ⟨g, 0, none⟩) i c) rfl rfl (by kernel_rfl) (by kernel_rfl) (by kernel_rfl) (by kernel_rfl) (fun w hS => rfl) ⟨lK, HR⟩ ?_
            simp only [List.setIfInBounds_toArray, List.set_cons_succ, List.set_cons_zero]
            refine V.held_put 2 73 (.int .i64 (i : Int)) rfl rfl (by kernel_rfl) (by kernel_rfl) (by kernel_rfl) (by kernel_rfl) (fun w hS => run_lenK _ i c rfl w) ⟨lK, HR⟩ ?_
            simp only [List.setIfInBounds_toArray, List.set_cons_succ, List.set_cons_zero]
            refine V.held_put 3 74 (.bool true) rfl rfl (by kernel_rfl) (by kernel_rfl) (by kernel_rfl) (by kernel_rfl) (fun w hS => run_lssI _ _ _ j1 rfl rfl w) ⟨lK, HR⟩ ?_
            simp only [List.setIfInBounds_toArray, List.set_cons_succ, List.set_cons_zero]
            refine V.held_put 4 75 (.bool true) rfl rfl (by kernel_rfl) (by kernel_rfl) (by kernel_rfl) (by kernel_rfl) (fun w hS => rfl) ⟨lK, HR⟩ ?_
            simp only [List.setIfInBounds_toArray, List.set_cons_succ, List.set_cons_zero]
            refine V.held_put 5 76 (.slice (some ⟨g, 0, none⟩) i c) rfl rfl (by kernel_rfl) (by kernel_rfl) (by kernel_rfl) (by kernel_rfl) (fun w hS => rfl) ⟨lK, HR⟩ ?_
            simp only [List.setIfInBounds_toArray, List.set_cons_succ, List.set_cons_zero]
            refine V.held_put 6 77 (.int .i64 (P : Int)) rfl rfl (by kernel_rfl) (by kernel_rfl) (by kernel_rfl) (by kernel_rfl) (fun w hS => rfl) ⟨lK, HR⟩ ?_
            simp only [List.setIfInBounds_toArray, List.set_cons_succ, List.set_cons_zero]
            refine V.held_put 7 78 (.pointer (some ⟨g, 0 + P * 2, none⟩)) rfl rfl (by kernel_rfl) (by kernel_rfl) (by kernel_rfl) (by kernel_rfl) (fun w hS => run_idxM _ _ 2 Tryz.underlying25 Tryz.sizeOf51 g 0 i c P HTI.out rfl rfl w) ⟨lK, HR⟩ ?_
            simp only [List.setIfInBounds_toArray, List.set_cons_succ, List.set_cons_zero]
            refine V.held_put 8 79 (.pointer (some ⟨g, 0 + P * 2, none⟩)) rfl rfl (by kernel_rfl) (by kernel_rfl) (by kernel_rfl) (by kernel_rfl) (fun w hS => run_fldK g _ rfl w) ⟨lK, HR⟩ ?_
            simp only [List.setIfInBounds_toArray, List.set_cons_succ, List.set_cons_zero]
            refine V.held_put 9 80 (.string a) rfl rfl (by kernel_rfl) (by kernel_rfl) (by kernel_rfl) (by kernel_rfl) (fun w hS => run_ldS _ _ _ (key_cell hS.2 hab) rfl) ⟨lK, HR⟩ ?_
            simp only [List.setIfInBounds_toArray, List.set_cons_succ, List.set_cons_zero]
            refine V.held_put 10 81 (.pointer (some ⟨gk, 0, none⟩)) rfl rfl (by kernel_rfl) (by kernel_rfl) (by kernel_rfl) (by kernel_rfl) (fun w hS => run_fldK gk _ rfl w) ⟨lK, HR⟩ ?_
            simp only [List.setIfInBounds_toArray, List.set_cons_succ, List.set_cons_zero]
            refine V.held_put 11 82 (.string id) rfl rfl (by kernel_rfl) (by kernel_rfl) (by kernel_rfl) (by kernel_rfl) (fun w hS => run_ldS _ _ _ (lies_cell hS.1) rfl) ⟨lK, HR⟩ ?_
            simp only [List.setIfInBounds_toArray, List.set_cons_succ, List.set_cons_zero]
            refine V.held_put 12 83 (.bool false) rfl rfl (by kernel_rfl) (by kernel_rfl) (by kernel_rfl) (by kernel_rfl) (fun w hS => run_lssT _ _ _ hless rfl rfl w) ⟨lK, HR⟩ ?_
            simp only [List.setIfInBounds_toArray, List.set_cons_succ, List.set_cons_zero]
            refine V.held_put 13 84 (.bool false) rfl rfl (by kernel_rfl) (by kernel_rfl) (by kernel_rfl) (by kernel_rfl) (fun w hS => rfl) ⟨lK, HR⟩ ?_
            simp only [List.setIfInBounds_toArray, List.set_cons_succ, List.set_cons_zero]
            refine V.held_done (by kernel_rfl) ?_
            simp only [Exit.then]
            go_upto_region 16 with fail
            refine V.wp_held_any (S := fun w' => Lies w' gk 51 #[.string id, .string kt]) 12 rfl (by kernel_rfl) ?_
            have hbD : Below wrd.heap.size wrd { wrd with drawn := wrd.drawn + 1 } := (Below.refl _ _).drew
            replace lK := lK.on hbD
            replace HG := Lib.hid (HG.out.on hbD)
            replace hv2 := hv2.on hbD
            replace HR := HR.below hbD
            replace HB := below_on HB hbD
            clear hbD
            generalize ({ wrd with drawn := wrd.drawn + 1 } : World) = wrdd at *
            refine V.held_put 0 87 (.slice (some ⟨g, 0, none⟩) i c) rfl rfl (by kernel_rfl) (by kernel_rfl) (by kernel_rfl) (by kernel_rfl) (fun w hS => rfl) lK ?_
            simp only [List.setIfInBounds_toArray, List.set_cons_succ, List.set_cons_zero]
            refine V.held_put 1 88 (.int .i64 (P : Int)) rfl rfl (by kernel_rfl) (by kernel_rfl) (by kernel_rfl) (by kernel_rfl) (fun w hS => rfl) lK ?_
            simp only [List.setIfInBounds_toArray, List.set_cons_succ, List.set_cons_zero]
            refine V.held_put 2 89 (.int .i64 (P : Int)) rfl rfl (by kernel_rfl) (by kernel_rfl) (by kernel_rfl) (by kernel_rfl) (fun w hS => rfl) lK ?_
            simp only [List.setIfInBounds_toArray, List.set_cons_succ, List.set_cons_zero]
            refine V.held_put 3 90 (.slice (some ⟨g, 0, none⟩) P P) rfl rfl (by kernel_rfl) (by kernel_rfl) (by kernel_rfl) (by kernel_rfl) (fun w hS => (run_cut3 _ 2 underK elemK (some ⟨g, 0, none⟩) i c P HPc.out rfl rfl rfl w).trans (by rw [sliced_full])) lK ?_
            simp only [List.setIfInBounds_toArray, List.set_cons_succ, List.set_cons_zero]
            refine V.held_put 4 91 (.agg #[.string id, .string kt]) rfl rfl (by kernel_rfl) (by kernel_rfl) (by kernel_rfl) (by kernel_rfl) (fun w hS => run_ldW _ gk _ _ 2 rowKey rfl hS rfl) lK ?_
            simp only [List.setIfInBounds_toArray, List.set_cons_succ, List.set_cons_zero]
            refine V.held_put 6 93 (.slice (some ⟨g, 0, none⟩) i c) rfl rfl (by kernel_rfl) (by kernel_rfl) (by kernel_rfl) (by kernel_rfl) (fun w hS => rfl) lK ?_
            simp only [List.setIfInBounds_toArray, List.set_cons_succ, List.set_cons_zero]
            refine V.held_put 7 94 (.int .i64 (P : Int)) rfl rfl (by kernel_rfl) (by kernel_rfl) (by kernel_rfl) (by kernel_rfl) (fun w hS => rfl) lK ?_
            simp only [List.setIfInBounds_toArray, List.set_cons_succ, List.set_cons_zero]
            refine V.held_put 8 95 (sliced (some ⟨g, 0, none⟩) P i c 2) rfl rfl (by kernel_rfl) (by kernel_rfl) (by kernel_rfl) (by kernel_rfl) (fun w hS => run_cutL _ 2 underK elemK (some ⟨g, 0, none⟩) i c P HPi.out rfl rfl w) lK ?_
            simp only [List.setIfInBounds_toArray, List.set_cons_succ, List.set_cons_zero]
            have hbN := (Below.refl wrdd.heap.size wrdd).alloc (Nat.le_refl _) (.cells #[.string id, .string kt] 51)
            have hoL := own_lit wrdd wrdd.heap.size (id, kt) (Nat.le_refl _)
            have hbq := hbN
            have HBq := Lib.hid HB
            have lKq := Lib.hid lK
            have HGq := HG
            have hvq := Lib.hid hv2
            have HDr := Lib.hid (fun (w1 : World) (hb : Below wrdd.heap.size wrdd w1) => (HDrop.out _ HR).below hb)
            have HLo := Lib.hid (fun (w1 : World) (hb : Below wrdd.heap.size wrdd w1) => (HTake.out _ HR).below hb)
            refine V.held_one 5 (by kernel_rfl) (V.wpOp_put 92 (w' := wrdd.alloc (.cells #[.string id, .string kt] 51)) (v := (.slice (some ⟨wrdd.heap.size, 0, none⟩) 1 1)) rfl rfl (by kernel_rfl) (by kernel_rfl) ⟨lK.on hbN, ?_⟩)
            simp only [List.setIfInBounds_toArray, List.set_cons_succ, List.set_cons_zero]
            replace lK := lK.on hbN
            replace HG := Lib.hid (HG.out.on hbN)
            replace hv2 := hv2.on hbN
            replace HR := HR.below hbN
            replace HB := below_on HB hbN
            clear hbN
            obtain ⟨wb1g, hgg⟩ : ∃ g, wrdd.heap.size = g := ⟨_, rfl⟩
            generalize wrdd.alloc (.cells #[.string id, .string kt] 51) = wb1 at *
            clear hgg
            refine V.held_one 9 (by kernel_rfl) (V.wpOp_lawD 96 rfl rfl (by kernel_rfl) (V.wpL_appendL wrdd.heap.size 51 iK _ 2 32 Tryz.underlying25 hiK hzK0 hzK1 hzK2 rfl (by decide) _ [twoS (id, kt)] hoL _ (L.drop P) (HDr.out _ hbq) HDu.out HD63.out HD64.out hbq.size rfl rfl ?_))
            intro v10 w10 ho10 hg10
            replace hbq := hbq.grown hg10 hbq.size (fun k hk => hoL.lt k hk)
            replace HB := below_on HBq.out hbq
            replace lK := lKq.out.on hbq
            replace HG := Lib.hid (HGq.out.on hbq)
            replace hv2 := hvq.out.on hbq
            clear hoL hg10
            refine And.intro lK ?_
            simp only [Act.put, List.setIfInBounds_toArray, List.set_cons_succ, List.set_cons_zero]
            obtain ⟨gX, cX, rfl⟩ := own_some ho10 (by simp)
            obtain ⟨v11, w11, hr11, ho11, hg11⟩ := run_grow 25 (HLo.out _ hbq) ho10.read (by simp) HL63.out
            replace ho11 := own_base ho11 HB.size
            replace HB := HB.grown hg11 HB.size (fun k hk => by cases hk)
            have hb11 := (Below.refl w10.heap.size w10).grown hg11 (Nat.le_refl _) (fun k hk => by cases hk)
            refine V.held_one 10 (by kernel_rfl) (V.wpOp_put 97 (w' := w11) (v := v11) rfl rfl (by kernel_rfl) (hr11 _ _ _ _ _ _ _ rfl rfl) ?_)
            replace lK := lK.on hb11
            replace HG := Lib.hid (HG.out.on hb11)
            replace hv2 := hv2.on hb11
            clear hb11 hg11 ho10 hbq
            refine And.intro lK ?_
            simp only [List.setIfInBounds_toArray, List.set_cons_succ, List.set_cons_zero]
            refine V.held_put 11 9 v11 rfl rfl (by kernel_rfl) (by kernel_rfl) (by kernel_rfl) (by kernel_rfl) (fun w hS => rfl) lK ?_
            simp only [List.setIfInBounds_toArray, List.set_cons_succ, List.set_cons_zero]
            refine V.held_done (by kernel_rfl) ?_
            simp only [Exit.then]
            have HKN := Lib.hid (show OwnL w11 W.heap.size 51 2 v11 ((rowN (i + 1)).map twoS) by rw [HRN.out]; exact ho11)
            clear ho11 lK
            by_cases hlS : i < S.length
            · obtain ⟨bv, hbv⟩ : ∃ x, S[i]? = some x := ⟨_, List.getElem?_eq_getElem hlS⟩
              obtain ⟨bb, off, rfl, hr, _⟩ := (HSR.out _ HB).at (i := i) (cs := [.bool bv]) (by rw [List.getElem?_map, hbv]; rfl)
              have q0 := hr 0 (.bool bv) rfl
              rw [Nat.mul_one, Nat.add_zero] at q0
              have hgd : S.getD i false = bv := by rw [List.getD_eq_getElem?_getD, hbv]; rfl
              have hsy := says_succ S i
              rw [hgd] at hsy
              have l1 : (i : Int) < (S.length : Int) := by omega
              have l3 : (0 : Int) ≤ (i : Int) := by omega
              clear hr hbv hgd hlS
              cases bv with
              | true =>
                have HSY := Lib.hid hsy
                have hOs := HG.out
                have hrow := hv2.row
                have hone := twoS_ones sg
                have hlen : (((saysN S i).map fun n => sigOf tx (sdB n)).map twoS).length ≤ 4 := by
                  rw [List.length_map, List.length_map]
                  have h1 := List.length_filter_le (fun x => S.getD x false) (List.range i)
                  rw [List.length_range] at h1
                  have := HN4.out
                  have := HJ.out
                  show (saysN S i).length ≤ 4
                  unfold saysN
                  omega
                have HEN := Lib.hid (show ((saysN S i).map fun n => sigOf tx (sdB n)).map twoS ++ [twoS sg] = ((saysN S (i + 1)).map fun n => sigOf tx (sdB n)).map twoS by
                  rw [HSY.out, ← HSG.out, sigs_snoc]; rfl)
                generalize ((saysN S i).map fun n => sigOf tx (sdB n)).map twoS = LS at *
                have h63 : LS.length + ([twoS sg] : List (List Value)).length ≤ maxLen := by unfold maxLen; simp only [List.length_singleton]; omega
                have h64 : (LS.length + ([twoS sg] : List (List Value)).length) * 32 ≤ 140737488355328 := by simp only [List.length_singleton]; omega
                have hszB := HB.size
                have HKX := Lib.hid (fun (wx : World) (hg : w11.grownBy wx u10.ownBlock) => own_kept2 HKN.out hOs hg (by decide))
                have HBX := Lib.hid (fun (wx : World) (hg : w11.grownBy wx u10.ownBlock) => HB.grown hg hszB (fun k hk => hOs.lt k hk))
                clear hv2 hlen HKN HB HG hsy
                go_wp2_with ((with_reducible refine V.wpL_appendL W.heap.size 46 iG (.agg #[.string ⟨#[]⟩, .string ⟨#[]⟩]) 2 32 Tryz.underlying26 hiG hzG0 hzG1 hzG2 rfl (by decide) _ LS hOs _ _ hrow hone h63 h64 hszB ?_ ?_ ?_); rfl; rfl; intro v5 w6 hoX hgX)
                go_roundw
                case rel => exact ⟨i + 1, by go_num, HJ.out, Lib.hid (fun e => by omega), Lib.hid (HKX.out _ hgX), Lib.hid (by rw [← HEN.out]; exact hoX), HBX.out _ hgX⟩
                case measure =>
                  have := HJ.out
                  simp [intOf]; omega
              | false =>
                have HSY := Lib.hid (show saysN S (i + 1) = saysN S i by rw [hsy]; simp)
                clear hsy hv2
                go_wp2
                go_roundw
                case rel => exact ⟨i + 1, by go_num, HJ.out, Lib.hid (fun e => by omega), HKN, Lib.hid (by rw [HSY.out]; exact HG.out), HB⟩
                case measure =>
                  have := HJ.out
                  simp [intOf]; omega
            · have HSY := Lib.hid (show saysN S (i + 1) = saysN S i by
                rw [says_succ, List.getD_eq_getElem?_getD, List.getElem?_eq_none (by omega)]; simp)
              have l1 : ¬ (i : Int) < (S.length : Int) := by omega
              clear hlS hv2
              go_wp2
              go_roundw
              case rel => exact ⟨i + 1, by go_num, HJ.out, Lib.hid (fun e => by omega), HKN, Lib.hid (by rw [HSY.out]; exact HG.out), HB⟩
              case measure =>
                have := HJ.out
                simp [intOf]; omega

    have hE0 : n = i := by omega
    subst hE0
    clear hlt hi H0
    rename World => w5
    have hn4 := HN4.out.2
    have hn2 := HN4.out.1
    have hL : ((rowN n).map twoS).length = n := by rw [List.length_map, row_len hn4]
    obtain ⟨g, c, hv⟩ := own_some HO.out (by omega)
    rw [hL] at hv
    subst hv
    have hnc : n ≤ c := by
      obtain ⟨a', c', e, h1, _⟩ := HO.out.read.form
      injection e with _ e2 e3
      omega
    have HR := Lib.hid HO.out.read
    have HRD := Lib.hid (show RowL w5 2 (sliced (some ⟨g, 0, none⟩) 1 n c 2) (((rowN n).map twoS).drop 1) by
      have h := HR.out.drop (j := 1) (by omega)
      rwa [hL] at h)
    have hsl : sliced (some ⟨g, 0, none⟩) 1 n c 2 = .slice (some ⟨g, 2, none⟩) (n - 1) (c - 1) := by
      unfold sliced
      rw [if_neg (by omega), Option.map_some, Addr.add_mid]
    rw [hsl] at HRD
    have i1 : ¬ (n : Int) < (n : Int) := by omega
    have k1 : (1 : Int) ≤ (n : Int) := by omega
    have k2 : (n : Int) ≤ (c : Int) := by omega
    have HOG := HG.out
    obtain ⟨ga, cc, hvf, _⟩ := HOG.read.form
    rw [List.length_map, List.length_map] at hvf
    subst hvf
    have HRS := Lib.hid HOG.read
    have HNS := Lib.hid (fun y (hy : y ∈ saysN S n) => Nat.lt_of_lt_of_le (says_lt hy) (show n ≤ 6 by omega))
    have HLS := Lib.hid (show (saysN S n).length ≤ 4 by
      have h1 := List.length_filter_le (fun x => S.getD x false) (List.range n)
      rw [List.length_range] at h1
      show ((List.range n).filter fun x => S.getD x false).length ≤ 4
      omega)
    generalize saysN S n = ns at *
    clear HO HG HOG
    go_upto_region 21 with fail
    have hbA := (Below.refl w5.heap.size w5).alloc (Nat.le_refl _) (.cells #[.slice none 0 0, .int .i64 1] 24)
    have lR := Lies.new w5 24 #[.slice none 0 0, .int .i64 1]
    have hsz : w5.heap.size + 1 ≤ (w5.alloc (.cells #[.slice none 0 0, .int .i64 1] 24)).heap.size := by simp
    generalize w5.alloc (.cells #[.slice none 0 0, .int .i64 1] 24) = w6 at *
    obtain ⟨iS, hiS, hzS0, hzS1, hzS2⟩ := info_parts infoStr
    clear i1
    go_wp2
    clear k1 k2
    obtain ⟨nd, hnd⟩ : ∃ nd, n - 1 = nd := ⟨_, rfl⟩
    have HSL := Lib.hid hsl
    clear hsl
    rw [hnd] at HRD HSL
    simp only [hnd]
    obtain ⟨KD, hKD⟩ : ∃ K, (rowN n).drop 1 = K := ⟨_, rfl⟩
    have hKl : KD.length = nd := by rw [← hKD, List.length_drop, row_len hn4]; omega
    have hID : (idsN n).drop 1 = KD.map (·.1) := by rw [ids_rows, ← List.map_drop, hKD]
    have HRD := Lib.hid (show RowL w5 2 (.slice (some ⟨g, 2, none⟩) nd (c - 1)) (KD.map twoS) by
      have h := HRD.out
      rwa [← List.map_drop, hKD] at h)
    obtain ⟨IDS, hIDS⟩ : ∃ I, (idsN n).drop 1 = I := ⟨_, rfl⟩
    rw [hIDS] at hID
    go_loopw [20, 116] (fun _ iv wx => ∃ (j : Nat) (v : Value), iv = .int .i64 (j : Int) ∧ j ≤ nd ∧ Hid (Lies wx w5.heap.size 24 #[v, .int .i64 1]) ∧ Hid (OwnL wx (w5.heap.size + 1) 9 1 v ((IDS.take j).map oneS)) ∧ Below w5.heap.size w5 wx ∧ Hid (w5.heap.size + 1 ≤ wx.heap.size)) (fun _ iv _ => nd - (intOf iv).toNat)
    case atStart => exact ⟨0, _, rfl, Nat.zero_le _, Lib.hid lR, Lib.hid (OwnL.nil _ _ _ _), hbA, Lib.hid hsz⟩
    case round =>
      clear lR hbA hsz
      obtain ⟨j, v, rfl, hj, HLR, HOI, hbR, HSZ⟩ := hrel
      by_cases hlt : j < nd
      case pos =>
        obtain ⟨⟨a, b⟩, hab⟩ : ∃ k, KD[j]? = some k := ⟨_, List.getElem?_eq_getElem (by rw [hKl]; exact hlt)⟩
        have i1 : (j : Int) < (nd : Int) := by omega
        have i3 : (0 : Int) ≤ (j : Int) := by omega
        obtain ⟨bb, off, he, hr, _⟩ := (HRD.out.below hbR).at (i := j) (cs := twoS (a, b)) (by rw [List.getElem?_map, hab]; rfl)
        injection he with he
        injection he with e1 e2
        subst e1 e2
        have HIDS := Lib.hid (show (IDS.take j).map oneS ++ [oneS a] = (IDS.take (j + 1)).map oneS by
          rw [List.take_add_one, List.map_append, hID, List.getElem?_map, hab]; rfl)
        have hlen : ((IDS.take j).map oneS).length = j := by rw [List.length_map, List.length_take, hID, List.length_map, hKl]; omega
        generalize (IDS.take j).map oneS = Lj at *
        have HJ := Lib.hid hlt
        have lZ := Lies.new wr 51 #[.string ⟨#[]⟩, .string ⟨#[]⟩]
        have hbZ := (Below.refl wr.heap.size wr).alloc (Nat.le_refl _) (.cells #[.string ⟨#[]⟩, .string ⟨#[]⟩] 51)
        clear hab hlt
        go_upto_region 24 with (first
          | ((with_reducible refine V.wpL_loadMid g (2 + j * 2) _ 2 rowKey rfl hr ?_ ?_); rfl)
          | ((with_reducible refine V.wpL_store wr.heap.size 51 _ #[.string a, .string b] 2 rowKey rfl rfl (two_one _ _) lZ ?_ ?_ ?_); rfl; rfl))
        have lS := lZ.row #[.string a, .string b]
        have hbK := V.below_rowSet hbZ (Nat.le_refl _) #[.string a, .string b]
        generalize World.setRow _ _ _ = w2 at *
        have lR2 := HLR.out.on hbK
        have HO2 := HOI.out.on hbK
        have hbR2 := hbR.trans (hbK.mono hbR.size)
        have hsz2 : w5.heap.size + 1 ≤ w2.heap.size := Nat.le_trans HSZ.out hbK.size
        have q0 := lR2.cell 0; have q1 := lS.cell 0; simp only [List.getElem?_toArray, List.getElem?_cons_zero] at q0 q1
        have hbT := (Below.refl w2.heap.size w2).alloc (Nat.le_refl _) (.cells #[.string a] 9)
        have hOa := HO2.on hbT
        have hlit := RowL.lit w2 9 1 [.string a] rfl
        have hone : ∀ u ∈ ([oneS a] : List (List Value)).flatten, u.oneCell' = true := fun u hu => by
          simp only [oneS, List.flatten_cons, List.flatten_nil, List.append_nil, List.mem_singleton] at hu
          rw [hu]; rfl
        have h63 : Lj.length + ([oneS a] : List (List Value)).length ≤ maxLen := by rw [hlen]; unfold maxLen; simp only [List.length_singleton]; omega
        have h64 : (Lj.length + ([oneS a] : List (List Value)).length) * 16 ≤ 140737488355328 := by rw [hlen]; simp only [List.length_singleton]; omega
        have hsz3 : w5.heap.size + 1 ≤ (w2.alloc (.cells #[.string a] 9)).heap.size := Nat.le_trans hsz2 hbT.size
        have hL7 := fun (w7 : World) (hg : (w2.alloc (.cells #[.string a] 9)).grownBy w7 v.ownBlock) => (lR2.on hbT).only hg (fun e => by (have := hOa.lt _ e.symm; omega))
        have hC7 := fun (w7 : World) (hg : (w2.alloc (.cells #[.string a] 9)).grownBy w7 v.ownBlock) => (show w7.cell? ⟨w5.heap.size, 0, none⟩ = some v by
          have c0 := (hL7 w7 hg).cell 0
          simp only [List.getElem?_toArray, List.getElem?_cons_zero] at c0
          exact c0)
        have HF7 := Lib.hid (fun (w7 : World) (hg : (w2.alloc (.cells #[.string a] 9)).grownBy w7 v.ownBlock) => (hL7 w7 hg).frozen 0)
        have HC7 := Lib.hid hC7
        have HL7 := Lib.hid hL7
        clear hr lZ hbZ HLR HOI hbR HSZ hlen hL7 hC7
        go_wp2_with ((with_reducible refine V.wpL_appendL (w5.heap.size + 1) 9 iS (.string ⟨#[]⟩) 1 16 Tryz.underlying22 hiS hzS0 hzS1 hzS2 rfl (by decide) _ Lj hOa _ _ hlit hone h63 h64 hsz3 ?_ ?_ ?_); rfl; rfl; intro v5 w7 hoX hgX; have f0 := HF7.out w7 hgX; have c0 := HC7.out w7 hgX; obtain ⟨va5, vc5, hvf5, _⟩ := hoX.read.form; rw [List.length_append, List.length_singleton] at hvf5; subst hvf5)
        go_roundw
        case rel =>
          have hne5 : (Value.slice va5 (Lj.length + 1) vc5).ownBlock ≠ some w5.heap.size := fun e => by
            have h := hoX.lt _ e
            exact absurd h (by omega)
          have hb7 := (hbR2.trans (hbT.mono hbR2.size)).grown hgX (by omega) (fun k hk => by have := hOa.lt k hk; omega)
          exact ⟨j + 1, _, by go_num, HJ.out, Lib.hid ((HL7.out w7 hgX).put 0 _), Lib.hid (by rw [← HIDS.out]; exact own_apart hoX hne5 0 _), hb7.setCell (Nat.le_refl _) _, Lib.hid (by have := hgX.size; rw [World.size_setCell]; omega)⟩
        case measure =>
          have := HJ.out
          simp [intOf]; omega
      have hE : nd = j := by omega
      subst hE
      rename World => w8
      have hIl : IDS.length = nd := by rw [hID, List.length_map, hKl]
      have HOI2 := HOI.out
      rw [List.take_of_length_le (by omega)] at HOI2
      obtain ⟨va, vc, hvf, _⟩ := HOI2.read.form
      rw [List.length_map, hIl] at hvf
      subst hvf
      have lR := HLR.out
      have hlen2 : ((ns.map fun n => sigOf tx (sdB n)) : List B2).length = ns.length := List.length_map _
      have hRl : (rowN n).length = n := row_len hn4
      have hrw : Rows4 w8 va vc (some ⟨g, 0, none⟩) c ga cc IDS (rowN n) (ns.map fun n => sigOf tx (sdB n)) := ⟨by rw [hIl]; exact HOI2.read, by rw [hRl]; exact HR.out.below hbR, by rw [hlen2]; exact HRS.out.below hbR⟩
      have hrd : Rows4 w8 va vc (some ⟨g, 2, none⟩) (c - 1) ga cc IDS KD (ns.map fun n => sigOf tx (sdB n)) := ⟨by rw [hIl]; exact HOI2.read, by rw [hKl]; exact HRD.out.below hbR, by rw [hlen2]; exact HRS.out.below hbR⟩
      have HBe := HB.trans (hbR.mono HB.size)
      obtain ⟨l, hl⟩ : ∃ l, ns.length = l := ⟨_, rfl⟩
      have hl4 : l ≤ 4 := by rw [← hl]; exact HLS.out
      obtain ⟨r, hr⟩ : ∃ r, by_.tmod ((l : Int) + 1) = r := ⟨_, rfl⟩
      have hr1 : -((l : Int) + 1) < r ∧ r < (l : Int) + 1 := by rw [← hr]; exact ⟨Int.lt_tmod_of_pos _ (by omega), Int.tmod_lt_of_pos _ (by omega)⟩
      obtain ⟨b, hb⟩ : ∃ b : Nat, (r + (l : Int) + 1).tmod ((l : Int) + 1) = (b : Int) := ⟨((r + (l : Int) + 1).tmod ((l : Int) + 1)).toNat, (Int.toNat_of_nonneg (Int.tmod_nonneg _ (by omega))).symm⟩
      have hb1 : b ≤ l := by have := Int.tmod_lt_of_pos (r + (l : Int) + 1) (show (0 : Int) < (l : Int) + 1 by omega); omega
      have i1 : ¬ (nd : Int) < (nd : Int) := by omega
      have hm1 : ∀ x ∈ (ordN n).drop 1, ∃ i : Nat, (rowN n)[i]? = some (kN x) := fun x hx => at_row hx
      have hm2 : ∀ x ∈ (ordN n).drop 1, ∃ i : Nat, KD[i]? = some (kN x) := fun x hx => by rw [← hKD]; exact at_tail hx
      have hk1 := row_keys hn4
      have hk2 : keysR KD = true := by rw [← hKD]; exact tail_keys hn4
      have hns2 : ∀ y ∈ ns.drop b ++ ns.take b, y < 6 := fun y hy => (List.mem_append.1 hy).elim (fun h => HNS.out y (List.mem_of_mem_drop h)) (fun h => HNS.out y (List.mem_of_mem_take h))
      have hl2 : (ns.drop b ++ ns.take b).length = l := by rw [List.length_append, List.length_drop, List.length_take, hl]; omega
      have HCa := fun (w : World) (h : Rows4 w va vc (some ⟨g, 0, none⟩) c ga cc IDS (rowN n) (ns.map fun n => sigOf tx (sdB n))) (hb : Below W.heap.size W w) => count_who A HN4.out hk1 hm1 tx (by omega) HNS.out (by omega) (hIDS ▸ h) (HTT.out w hb)
      have HCc := fun (w : World) (h : Rows4 w va vc (some ⟨g, 2, none⟩) (c - 1) ga cc IDS KD (ns.map fun n => sigOf tx (sdB n))) (hb : Below W.heap.size W w) => count_who A HN4.out hk2 hm2 tx (by omega) HNS.out (by omega) (hIDS ▸ h) (HTT.out w hb)
      have HCb := fun (s2 : Option Addr) (c2 : Nat) (w : World) (h : Rows4 w va vc (some ⟨g, 0, none⟩) c s2 c2 IDS (rowN n) ((ns.drop b ++ ns.take b).map fun n => sigOf tx (sdB n))) (hb : Below W.heap.size W w) => count_who A HN4.out hk1 hm1 tx (by omega) hns2 (by omega) (hIDS ▸ h) (HTT.out w hb)
      simp only [hIDS, hIl, hRl, hKl, hlen2, hl, List.length_map, hl2, who_turned] at HCa HCb HCc
      have HTK := Lib.hid (fun (w : World) (h : Rows4 w va vc (some ⟨g, 0, none⟩) c ga cc IDS (rowN n) (ns.map fun n => sigOf tx (sdB n))) => (show RowL w 2 (sliced ga 0 b cc 2) (((ns.take b).map fun n => sigOf tx (sdB n)).map twoS) by
        have h1 := h.s.take (j := b) (by rw [List.length_map, hlen2]; omega)
        rwa [← List.map_take, ← List.map_take] at h1))
      have HDR := Lib.hid (fun (w : World) (h : Rows4 w va vc (some ⟨g, 0, none⟩) c ga cc IDS (rowN n) (ns.map fun n => sigOf tx (sdB n))) => (show RowL w 2 (sliced ga b l cc 2) (((ns.drop b).map fun n => sigOf tx (sdB n)).map twoS) by
        have h1 := h.s.drop (j := b) (by rw [List.length_map, hlen2]; omega)
        rwa [List.length_map, hlen2, hl, ← List.map_drop, ← List.map_drop] at h1))
      have HSM := Lib.hid (fun (s2 : Option Addr) (c2 : Nat) (w : World) (h : Rows4 w va vc (some ⟨g, 0, none⟩) c ga cc IDS (rowN n) (ns.map fun n => sigOf tx (sdB n))) (h2 : RowL w 2 (.slice s2 l c2) (([] ++ ((ns.drop b).map fun n => sigOf tx (sdB n)).map twoS) ++ ((ns.take b).map fun n => sigOf tx (sdB n)).map twoS)) => (show Rows4 w va vc (some ⟨g, 0, none⟩) c s2 c2 IDS (rowN n) ((ns.drop b ++ ns.take b).map fun n => sigOf tx (sdB n)) by
        refine ⟨h.i, h.k, ?_⟩
        rw [List.length_map, hl2, List.map_append, List.map_append]
        simpa using h2))
      have HL1 := Lib.hid (show (((ns.drop b).map fun n => sigOf tx (sdB n)).map twoS).length = l - b by rw [List.length_map, List.length_map, List.length_drop, hl])
      have HL2 := Lib.hid (show (((ns.take b).map fun n => sigOf tx (sdB n)).map twoS).length = b by rw [List.length_map, List.length_map, List.length_take, hl]; omega)
      have HU1 := Lib.hid (rowOnes2 ((ns.drop b).map fun n => sigOf tx (sdB n)))
      have HU2 := Lib.hid (rowOnes2 ((ns.take b).map fun n => sigOf tx (sdB n)))
      have HAl := Lib.hid (fun (w : World) (hb : Below W.heap.size W w) => alive_any A w (HTT.out w hb))
      have hcl : l ≤ cc := by
        obtain ⟨a', c', e, h1, _⟩ := hrw.s.form
        injection e with _ e2 e3
        rw [List.length_map, hlen2] at h1
        omega
      have hbc : b ≤ cc := by omega
      simp only [hl]
      generalize (((ns.drop b).map fun n => sigOf tx (sdB n)).map twoS) = LD at *
      generalize (((ns.take b).map fun n => sigOf tx (sdB n)).map twoS) = LT at *
      generalize (ns.drop b ++ ns.take b).map (fun n => sigOf tx (sdB n)) = SG2 at *
      generalize (ns.map fun n => sigOf tx (sdB n)) = SG at *
      generalize whoN n ns = WHO at *
      generalize rowN n = KK at *
      replace HCa := Lib.hid HCa
      replace HCb := Lib.hid HCb
      replace HCc := Lib.hid HCc
      clear HR HRD HRS HNS HLS hm1 hm2 hk1 hk2 hns2 hl2 hIDS hID hKl hKD hRl hlen2 hl hIl HOI HOI2 hbR HSZ HLR hj hlt HB hnd
      generalize w5.heap.size = gR at *
      have HBL := Lib.hid hb1
      have HBC := Lib.hid hbc
      have H1N := Lib.hid (show 1 ≤ n by omega)
      have HL3 := Lib.hid (show (([] ++ LD) ++ LT).length = l by rw [List.nil_append, List.length_append, HL1.out, HL2.out]; omega)
      have HD63 := Lib.hid (show ([] : List (List Value)).length + LD.length ≤ maxLen by rw [HL1.out]; unfold maxLen; simp; omega)
      have HD64 := Lib.hid (show (([] : List (List Value)).length + LD.length) * 32 ≤ 140737488355328 by rw [HL1.out]; simp; omega)
      have HE63 := Lib.hid (show ([] ++ LD).length + LT.length ≤ maxLen by rw [List.nil_append, HL1.out, HL2.out]; unfold maxLen; omega)
      have HE64 := Lib.hid (show (([] ++ LD).length + LT.length) * 32 ≤ 140737488355328 by rw [List.nil_append, HL1.out, HL2.out]; omega)
      go_upto_region 29 with (first
        | ((with_reducible refine V.wpL_load gR 24 #[.slice va nd vc, .int .i64 1] 2 rowRole rfl lR ?_ ?_); rfl)
        | (go_at_call 9; (with_reducible refine (HCa.out _ hrw HBe).mono ?_); rintro e x1 ⟨la, lc, rfl, hA, hbN⟩; replace lR := lR.on hbN; replace hrw := hrw.on hbN; replace hrd := hrd.on hbN; replace HBe := below_on HBe hbN; clear hbN))
      clear hr hr1 hb hb1 hbc hcl hl4 HCa i1
      refine V.wp_held_any (S := fun w' => Lies w' gR 24 #[.slice va nd vc, .int .i64 1]) 18 rfl (by kernel_rfl) ?_
      have hbD : Below x1.heap.size x1 { x1 with drawn := x1.drawn + 1 } := (Below.refl _ _).drew
      replace lR := lR.on hbD
      replace hrw := hrw.on hbD
      replace hrd := hrd.on hbD
      replace hA := hA.below hbD
      replace HBe := below_on HBe hbD
      clear hbD
      generalize ({ x1 with drawn := x1.drawn + 1 } : World) = x1d at *
      refine V.held_put 0 149 (.agg #[.slice va nd vc, .int .i64 1]) rfl rfl (by kernel_rfl) (by kernel_rfl) (by kernel_rfl) (by kernel_rfl) (fun w hS => run_ldW _ gR _ _ 2 rowRole rfl hS rfl) lR ?_
      simp only [List.setIfInBounds_toArray, List.set_cons_succ, List.set_cons_zero]
      refine V.held_put 1 150 (.slice (some ⟨g, 0, none⟩) n c) rfl rfl (by kernel_rfl) (by kernel_rfl) (by kernel_rfl) (by kernel_rfl) (fun w hS => rfl) lR ?_
      simp only [List.setIfInBounds_toArray, List.set_cons_succ, List.set_cons_zero]
      refine V.held_put 2 151 (.string tx) rfl rfl (by kernel_rfl) (by kernel_rfl) (by kernel_rfl) (by kernel_rfl) (fun w hS => rfl) lR ?_
      simp only [List.setIfInBounds_toArray, List.set_cons_succ, List.set_cons_zero]
      refine V.held_put 4 153 (.slice ga l cc) rfl rfl (by kernel_rfl) (by kernel_rfl) (by kernel_rfl) (by kernel_rfl) (fun w hS => rfl) lR ?_
      simp only [List.setIfInBounds_toArray, List.set_cons_succ, List.set_cons_zero]
      refine V.held_put 5 154 (.int .i64 (b : Int)) rfl rfl (by kernel_rfl) (by kernel_rfl) (by kernel_rfl) (by kernel_rfl) (fun w hS => rfl) lR ?_
      simp only [List.setIfInBounds_toArray, List.set_cons_succ, List.set_cons_zero]
      refine V.held_put 6 155 (sliced ga b l cc 2) rfl rfl (by kernel_rfl) (by kernel_rfl) (by kernel_rfl) (by kernel_rfl) (fun w hS => run_cutL _ 2 underS elemS ga l cc b HBL.out rfl rfl w) lR ?_
      simp only [List.setIfInBounds_toArray, List.set_cons_succ, List.set_cons_zero]
      refine V.held_put 8 157 (.slice ga l cc) rfl rfl (by kernel_rfl) (by kernel_rfl) (by kernel_rfl) (by kernel_rfl) (fun w hS => rfl) lR ?_
      simp only [List.setIfInBounds_toArray, List.set_cons_succ, List.set_cons_zero]
      refine V.held_put 9 158 (.int .i64 (b : Int)) rfl rfl (by kernel_rfl) (by kernel_rfl) (by kernel_rfl) (by kernel_rfl) (fun w hS => rfl) lR ?_
      simp only [List.setIfInBounds_toArray, List.set_cons_succ, List.set_cons_zero]
      refine V.held_put 10 159 (sliced ga 0 b cc 2) rfl rfl (by kernel_rfl) (by kernel_rfl) (by kernel_rfl) (by kernel_rfl) (fun w hS => run_cutT _ 2 underS elemS ga l cc b HBC.out rfl rfl w) lR ?_
      simp only [List.setIfInBounds_toArray, List.set_cons_succ, List.set_cons_zero]
      have hbN := (Below.refl x1d.heap.size x1d).alloc (Nat.le_refl _) (.cells #[] 46)
      have hoV := own_void x1d x1d.heap.size (Nat.le_refl _)
      have hbq := hbN
      have HBq := Lib.hid HBe
      have lRq := Lib.hid lR
      have hrwq := Lib.hid hrw
      have hrdq := Lib.hid hrd
      have hAq := Lib.hid hA
      refine V.held_one 3 (by kernel_rfl) (V.wpOp_put 152 (w' := x1d.alloc (.cells #[] 46)) (v := (.slice (some ⟨x1d.heap.size, 0, none⟩) 0 0)) rfl rfl (by kernel_rfl) (by kernel_rfl) ⟨lR.on hbN, ?_⟩)
      simp only [List.setIfInBounds_toArray, List.set_cons_succ, List.set_cons_zero]
      replace lR := lR.on hbN
      replace hrw := hrw.on hbN
      replace hrd := hrd.on hbN
      replace hA := hA.below hbN
      replace HBe := below_on HBe hbN
      clear hbN
      obtain ⟨wb1g, hgg⟩ : ∃ g, x1d.heap.size = g := ⟨_, rfl⟩
      generalize x1d.alloc (.cells #[] 46) = wb1 at *
      clear hgg
      refine V.held_one 7 (by kernel_rfl) (V.wpOp_lawD 156 rfl rfl (by kernel_rfl) (V.wpL_appendL x1d.heap.size 46 iG _ 2 32 Tryz.underlying26 hiG hzG0 hzG1 hzG2 rfl (by decide) _ ([] : List (List Value)) hoV _ LD (HDR.out _ hrw) HU1.out HD63.out HD64.out hbq.size rfl rfl ?_))
      intro v10 w10 ho10 hg10
      replace hbq := hbq.grown hg10 hbq.size (fun k hk => hoV.lt k hk)
      replace HBe := below_on HBq.out hbq
      replace lR := lRq.out.on hbq
      replace hrw := hrwq.out.on hbq
      replace hrd := hrdq.out.on hbq
      replace hA := hAq.out.below hbq
      clear hoV hg10
      refine And.intro lR ?_
      simp only [Act.put, List.setIfInBounds_toArray, List.set_cons_succ, List.set_cons_zero]
      refine V.held_one 11 (by kernel_rfl) (V.wpOp_lawD 160 rfl rfl (by kernel_rfl) (V.wpL_appendL x1d.heap.size 46 iG _ 2 32 Tryz.underlying26 hiG hzG0 hzG1 hzG2 rfl (by decide) _ ([] ++ LD) ho10 _ LT (HTK.out _ hrw) HU2.out HE63.out HE64.out hbq.size rfl rfl ?_))
      intro v11 w11 ho11 hg11
      replace hbq := hbq.grown hg11 hbq.size (fun k hk => ho10.lt k hk)
      replace HBe := below_on HBq.out hbq
      replace lR := lRq.out.on hbq
      replace hrw := hrwq.out.on hbq
      replace hrd := hrdq.out.on hbq
      replace hA := hAq.out.below hbq
      obtain ⟨s2, c2, hv11, _⟩ := ho11.read.form
      rw [HL3.out] at hv11
      subst hv11
      have hrw2 := HSM.out _ _ _ hrw ho11.read
      clear ho10 ho11 hg11 hbq HBq lRq hrwq hrdq hAq
      refine And.intro lR ?_
      simp only [Act.put, List.setIfInBounds_toArray, List.set_cons_succ, List.set_cons_zero]
      refine V.held_one 12 (by kernel_rfl) (V.wpOp_call 161 rfl rfl (by kernel_rfl) (by kernel_rfl) (((HCb.out _ _ _ hrw2 HBe)).mono ?_))
      rintro e x24 ⟨lb, lc2, rfl, hA2, hbN⟩
      replace lR := lR.on hbN
      replace hrw := hrw.on hbN
      replace hrd := hrd.on hbN
      replace hA := hA.below hbN
      replace HBe := below_on HBe hbN
      clear hbN
      refine ⟨_, rfl, lR, ?_⟩
      simp only [List.setIfInBounds_toArray, List.set_cons_succ, List.set_cons_zero]
      refine V.held_put 13 148 (.tuple #[.slice lb WHO.length lc2, .int .i64 0]) rfl rfl (by kernel_rfl) (by kernel_rfl) (by kernel_rfl) (by kernel_rfl) (fun w hS => rfl) lR ?_
      simp only [List.setIfInBounds_toArray, List.set_cons_succ, List.set_cons_zero]
      refine V.held_put 14 162 (.slice lb WHO.length lc2) rfl rfl (by kernel_rfl) (by kernel_rfl) (by kernel_rfl) (by kernel_rfl) (fun w hS => rfl) lR ?_
      simp only [List.setIfInBounds_toArray, List.set_cons_succ, List.set_cons_zero]
      refine V.held_put 15 163 (.int .i64 0) rfl rfl (by kernel_rfl) (by kernel_rfl) (by kernel_rfl) (by kernel_rfl) (fun w hS => rfl) lR ?_
      simp only [List.setIfInBounds_toArray, List.set_cons_succ, List.set_cons_zero]
      refine V.held_put 16 24 (.slice lb WHO.length lc2) rfl rfl (by kernel_rfl) (by kernel_rfl) (by kernel_rfl) (by kernel_rfl) (fun w hS => rfl) lR ?_
      simp only [List.setIfInBounds_toArray, List.set_cons_succ, List.set_cons_zero]
      refine V.held_put 17 25 (.int .i64 0) rfl rfl (by kernel_rfl) (by kernel_rfl) (by kernel_rfl) (by kernel_rfl) (fun w hS => rfl) lR ?_
      simp only [List.setIfInBounds_toArray, List.set_cons_succ, List.set_cons_zero]
      refine V.held_done (by kernel_rfl) ?_
      simp only [Exit.then]
      clear hrw hrw2 HCb HTK HDR HSM HL1 HL2 HL3 HU1 HU2 HD63 HD64 HE63 HE64 HBL HBC
      go_upto_region 30 with fail
      refine V.wp_held_any (S := fun w' => Lies w' gR 24 #[.slice va nd vc, .int .i64 1]) 11 rfl (by kernel_rfl) ?_
      have hbD : Below x24.heap.size x24 { x24 with drawn := x24.drawn + 1 } := (Below.refl _ _).drew
      replace lR := lR.on hbD
      replace hrd := hrd.on hbD
      replace hA := hA.below hbD
      replace hA2 := hA2.below hbD
      replace HBe := below_on HBe hbD
      clear hbD
      generalize ({ x24 with drawn := x24.drawn + 1 } : World) = x24d at *
      refine V.held_put 0 165 (.agg #[.slice va nd vc, .int .i64 1]) rfl rfl (by kernel_rfl) (by kernel_rfl) (by kernel_rfl) (by kernel_rfl) (fun w hS => run_ldW _ gR _ _ 2 rowRole rfl hS rfl) lR ?_
      simp only [List.setIfInBounds_toArray, List.set_cons_succ, List.set_cons_zero]
      refine V.held_put 1 166 (.slice (some ⟨g, 0, none⟩) n c) rfl rfl (by kernel_rfl) (by kernel_rfl) (by kernel_rfl) (by kernel_rfl) (fun w hS => rfl) lR ?_
      simp only [List.setIfInBounds_toArray, List.set_cons_succ, List.set_cons_zero]
      refine V.held_put 2 167 (.slice (some ⟨g, 2, none⟩) nd (c - 1)) rfl rfl (by kernel_rfl) (by kernel_rfl) (by kernel_rfl) (by kernel_rfl) (fun w hS => (run_cutC _ 2 underK elemK (some ⟨g, 0, none⟩) n c 1 H1N.out rfl w).trans (by rw [HSL.out])) lR ?_
      simp only [List.setIfInBounds_toArray, List.set_cons_succ, List.set_cons_zero]
      refine V.held_put 3 168 (.string tx) rfl rfl (by kernel_rfl) (by kernel_rfl) (by kernel_rfl) (by kernel_rfl) (fun w hS => rfl) lR ?_
      simp only [List.setIfInBounds_toArray, List.set_cons_succ, List.set_cons_zero]
      refine V.held_put 4 169 (.slice ga l cc) rfl rfl (by kernel_rfl) (by kernel_rfl) (by kernel_rfl) (by kernel_rfl) (fun w hS => rfl) lR ?_
      simp only [List.setIfInBounds_toArray, List.set_cons_succ, List.set_cons_zero]
      refine V.held_one 5 (by kernel_rfl) (V.wpOp_call 170 rfl rfl (by kernel_rfl) (by kernel_rfl) (((HCc.out _ hrd HBe)).mono ?_))
      rintro e x31 ⟨ld, lc3, rfl, hA3, hbN⟩
      replace lR := lR.on hbN
      replace hrd := hrd.on hbN
      replace hA := hA.below hbN
      replace hA2 := hA2.below hbN
      replace HBe := below_on HBe hbN
      clear hbN
      refine ⟨_, rfl, lR, ?_⟩
      simp only [List.setIfInBounds_toArray, List.set_cons_succ, List.set_cons_zero]
      refine V.held_put 6 164 (.tuple #[.slice ld WHO.length lc3, .int .i64 0]) rfl rfl (by kernel_rfl) (by kernel_rfl) (by kernel_rfl) (by kernel_rfl) (fun w hS => rfl) lR ?_
      simp only [List.setIfInBounds_toArray, List.set_cons_succ, List.set_cons_zero]
      refine V.held_put 7 171 (.slice ld WHO.length lc3) rfl rfl (by kernel_rfl) (by kernel_rfl) (by kernel_rfl) (by kernel_rfl) (fun w hS => rfl) lR ?_
      simp only [List.setIfInBounds_toArray, List.set_cons_succ, List.set_cons_zero]
      refine V.held_put 8 172 (.int .i64 0) rfl rfl (by kernel_rfl) (by kernel_rfl) (by kernel_rfl) (by kernel_rfl) (fun w hS => rfl) lR ?_
      simp only [List.setIfInBounds_toArray, List.set_cons_succ, List.set_cons_zero]
      refine V.held_put 9 26 (.slice ld WHO.length lc3) rfl rfl (by kernel_rfl) (by kernel_rfl) (by kernel_rfl) (by kernel_rfl) (fun w hS => rfl) lR ?_
      simp only [List.setIfInBounds_toArray, List.set_cons_succ, List.set_cons_zero]
      refine V.held_put 10 27 (.int .i64 0) rfl rfl (by kernel_rfl) (by kernel_rfl) (by kernel_rfl) (by kernel_rfl) (fun w hS => rfl) lR ?_
      simp only [List.setIfInBounds_toArray, List.set_cons_succ, List.set_cons_zero]
      refine V.held_done (by kernel_rfl) ?_
      simp only [Exit.then]
      clear lR hrd HCc
      go_wp2_with (first
        | (go_at_call 17; (with_reducible refine (HAl.out _ HBe).mono ?_); rintro e y1 ⟨rfl, hbN⟩; replace HBe := below_on HBe hbN; replace hA := hA.below hbN; replace hA2 := hA2.below hbN; replace hA3 := hA3.below hbN; clear hbN)
        | (go_at_call 19; (with_reducible refine (same_yes WHO _ _ _ hA hA2).mono ?_); rintro e y2 ⟨rfl, hbN⟩; replace HBe := below_on HBe hbN; replace hA := hA.below hbN; replace hA3 := hA3.below hbN; clear hbN)
        | (go_at_call 19; (with_reducible refine (same_yes WHO _ _ _ hA hA3).mono ?_); rintro e y3 ⟨rfl, hbN⟩; replace HBe := below_on HBe hbN; clear hbN))
      all_goals
        go_ret
        exact ⟨rfl, HBe⟩
end Go.Proofs.YtmekmlgpkbfjpaaGreatDoor.O
