/- The walk of the statement of how many signed: whatever numbers and whatever text, it answers true. -/
import Derived.Test.YteecbglmohhaeaaGreatDoorK14
namespace Go.Proofs.YteecbglmohhaeaaGreatDoor.O
open Go.RowKit Go.Sort Go.Maps Go.Proofs.YteecbglmohhaeaaGreatDoor.E
open C (Pts)
open V (Lies OwnL RowL reg lessL bytesLess_is)
set_option maxRecDepth 100000

section
variable {a : Act} {d : Option Tmp} {x y : Operand} {t' : TypeId} {pos : String} {after : Array Edge} {gd : Option (Nat × Bool)} {r : TypeId}
theorem run_fldK (g o : Nat) (hx : a.eval x = .pointer (some ⟨g, o, none⟩)) (w : World) :
    (execOp a.eval ⟨d, .fieldAddr 51 x 0, t', pos, after, gd⟩).run Tryz.prog w = .ok (.value (.pointer (some ⟨g, o, none⟩))) w := by
  unfold execOp
  simp only [hx]
  exact rfl
theorem run_ldS (p : Addr) (v : Value) (w : World) (hc : w.cell? p = some v) (hx : a.eval x = .pointer (some p)) :
    (execOp a.eval ⟨d, .load 9 x, t', pos, after, gd⟩).run Tryz.prog w = .ok (.value v) w := by
  unfold execOp
  simp only [hx]
  simp [Instr.loadAt, go_sem, hc]
theorem run_lssI (p q : Int) (b : Bool) (hb : decide (p < q) = b) (hx : a.eval x = .int .i64 p) (hy : a.eval y = .int .i64 q) (w : World) :
    (execOp a.eval ⟨d, .binOp .lss 3 x y r, t', pos, after, gd⟩).run Tryz.prog w = .ok (.value (.bool b)) w := by
  subst hb
  unfold execOp
  simp only [hx, hy]
  simp [go_sem]
theorem run_lssT (p q : ByteArray) (b : Bool) (hb : lessB p q = b) (hx : a.eval x = .string p) (hy : a.eval y = .string q) (w : World) :
    (execOp a.eval ⟨d, .binOp .lss 9 x y r, t', pos, after, gd⟩).run Tryz.prog w = .ok (.value (.bool b)) w := by
  subst hb
  rw [← bl_is]
  unfold execOp
  simp only [hx, hy]
  simp [go_sem]
end
theorem key_cell {w : World} {g n c : Nat} {L : List (List Value)} {t : Nat} {a b : ByteArray} (h : RowL w 2 (.slice (some ⟨g, 0, none⟩) n c) L) (hx : L[t]? = some (twoS (a, b))) : w.cell? ⟨g, 0 + t * 2, none⟩ = some (.string a) := by
  obtain ⟨bb, off, he, hr, _⟩ := h.at hx
  injection he with he
  injection he with e1 e2
  subst e1 e2
  exact hr 0 (.string a) rfl
theorem lies_cell {w : World} {g : Nat} {t : TypeId} {a b : ByteArray} (h : Lies w g t #[.string a, .string b]) : w.cell? ⟨g, 0, none⟩ = some (.string a) := by
  have q := h.cell 0
  simp only [List.getElem?_toArray, List.getElem?_cons_zero] at q
  exact q
theorem map_weak {w : World} {k : TypeId} {R : Value → Option (DataW Unit × List MemPlace)} {b n m : Nat} {D : DataW Unit} (h : w.ownsMap Tryz.prog k R b n D) (hm : n ≤ m) : w.ownsMap Tryz.prog k R b m D := by
  obtain ⟨es, clock, h1, h2, h3, h4⟩ := h
  exact ⟨es, clock, h1, h2, Nat.le_trans h3 hm, h4⟩
theorem ids_row (n : Nat) : idsN n = (rowN n).map (·.1) := by
  unfold idsN rowN
  rw [List.map_map]
  rfl
set_option maxHeartbeats 25600000 in
theorem needsO_walk (A : Pts EdTab) (many need : Int) (sv : Value) (S : List Int) (text : ByteArray) (W : World) (h2 : RowL W 1 sv (S.map fun i => [.int .i64 i])) (hT : RTab W) :
    Calls Tryz.prog 5 #[.int .i64 many, .int .i64 need, sv, .string text] W fun e w' => e = .returned (.bool true) ∧ Below W.heap.size W w' := by
  obtain ⟨sa, sc, rfl, _⟩ := h2.form
  rw [List.length_map] at h2 ⊢
  obtain ⟨r, hr⟩ : ∃ r, many.tmod 4 = r := ⟨_, rfl⟩
  have hr1 : -4 < r ∧ r < 4 := by rw [← hr]; exact ⟨Int.lt_tmod_of_pos _ (by decide), Int.tmod_lt_of_pos _ (by decide)⟩
  obtain ⟨m, hm⟩ : ∃ m : Nat, (r + 4).tmod 4 = (m : Int) := ⟨((r + 4).tmod 4).toNat, (Int.toNat_of_nonneg (Int.tmod_nonneg _ (by omega))).symm⟩
  have hm1 : m < 4 := by have := Int.tmod_lt_of_pos (r + 4) (show (0 : Int) < 4 by decide); omega
  obtain ⟨n, hn⟩ : ∃ n : Nat, 1 + (m : Int) = (n : Int) := ⟨m + 1, by omega⟩
  have hn1 : 1 ≤ n ∧ n ≤ 4 := by omega
  have hnp : (0 : Int) < (n : Int) := by omega
  obtain ⟨q, hq⟩ : ∃ q, need.tmod (n : Int) = q := ⟨_, rfl⟩
  have hq1 : -(n : Int) < q ∧ q < (n : Int) := by rw [← hq]; exact ⟨Int.lt_tmod_of_pos _ hnp, Int.tmod_lt_of_pos _ hnp⟩
  obtain ⟨p, hp⟩ : ∃ p : Nat, (q + (n : Int)).tmod (n : Int) = (p : Int) := ⟨((q + (n : Int)).tmod (n : Int)).toNat, (Int.toNat_of_nonneg (Int.tmod_nonneg _ (by omega))).symm⟩
  have hp1 : p < n := by have := Int.tmod_lt_of_pos (q + (n : Int)) hnp; omega
  have hn0 : ¬ (n : Int) = 0 := by omega
  have hn2 : ¬ (n : Int) = -1 := by omega
  have hts := cut_le text 100
  have hx1 : (0 : Int) ≤ min (text.size : Int) 100 := by omega
  have hx2 : min (text.size : Int) 100 ≤ (text.size : Int) := by omega
  have HTT := Lib.hid (fun (w1 : World) (hb : Below W.heap.size W w1) => hT.on hb)
  have HSR := Lib.hid (fun (w1 : World) (hb : Below W.heap.size W w1) => h2.below hb)
  have HN4 := Lib.hid hn1
  have HPN := Lib.hid hp1
  clear hT h2
  go_enter Tryz.func5, Tryz.ntmps5
  go_upto_region 5 with fail
  generalize text.extract 0 (min (text.size : Int) 100).toNat = tx at *
  clear hx1 hx2 hr hm hn hq hp hr1 hq1 hn2
  go_wp2
  obtain ⟨iK, hiK, hzK0, hzK1, hzK2⟩ := info_parts infoKey
  go_loopw [9, 10, 11, 12, 13, 14, 46] (fun v9 _ _ _ _ _ iv wr => ∃ i : Nat, iv = .int .i64 (i : Int) ∧ i ≤ n ∧ Hid (i = 0 → v9 = .slice none 0 0) ∧ Hid (OwnL wr W.heap.size 51 2 v9 ((rowN i).map twoS)) ∧ Below W.heap.size W wr) (fun _ _ _ _ _ _ iv _ => n - (intOf iv).toNat)
  case atStart => exact ⟨0, rfl, Nat.zero_le _, Lib.hid (fun _ => rfl), Lib.hid (OwnL.nil _ _ _ _), Below.refl _ _⟩
  case round =>
    obtain ⟨i, rfl, hi, H0, HO, HB⟩ := hrel
    by_cases hlt : i < n
    case pos =>
      have i1 : (i : Int) < (n : Int) := by omega
      have hi4 : i < 4 := by have := HN4.out; omega
      have HSd := Lib.hid (seed_any i (by omega))
      have HPb := Lib.hid (fun (w1 : World) (hb : Below W.heap.size W w1) => public_good A (sdB i) rfl w1 (HTT.out w1 hb).e.1)
      have HI := Lib.hid (fun (w1 : World) (hb : Below W.heap.size W w1) => id_any (keyT (sdL i)) w1 (by rw [show (keyT (sdL i)).size = 32 from C.text_size _]; omega) (HTT.out w1 hb).u)
      rw [sd_data] at HPb
      rw [show idT (keyT (sdL i)) = idN i from rfl] at HI
      have HRN := Lib.hid (show (rowN (i + 1)).map twoS = ((rowN i).map twoS).take (posN i) ++ ([twoS (idN i, keyT (sdL i))] ++ ((rowN i).map twoS).drop (posN i)) by
        rw [row_next hi4, List.map_append, List.map_cons, List.map_take, List.map_drop]; rfl)
      have HAt := Lib.hid (show ∀ t, t < i → ∃ a b, ((rowN i).map twoS)[t]? = some (twoS (a, b)) ∧ lessB a (idN i) = decide (t < posN i) from fun t ht => by
        obtain ⟨x, hx⟩ : ∃ x, (ordN i)[t]? = some x := ⟨_, List.getElem?_eq_getElem (by rw [ord_len (by omega)]; exact ht)⟩
        exact ⟨idN x, keyT (sdL x), by unfold rowN; rw [List.getElem?_map, List.getElem?_map, hx]; rfl, pos_less hi4 hx⟩)
      have hP := pos_le hi4
      have hL : ((rowN i).map twoS).length = i := by rw [List.length_map, row_len (by omega)]
      have hLo : ∀ u ∈ ((rowN i).map twoS).flatten, u.oneCell' = true := fun u hu => rowOnes2 _ u hu
      have HJ := Lib.hid hlt
      generalize posN i = P at *
      generalize (rowN i).map twoS = L at *
      generalize keyT (sdL i) = kt at *
      generalize idN i = id at *
      generalize sdB i = sd at *
      by_cases hi0 : i = 0
      · obtain rfl := H0.out hi0
        have HI0 := Lib.hid hi0
        obtain rfl : L = [] := List.eq_nil_of_length_eq_zero (hL.trans hi0)
        obtain rfl : P = 0 := by omega
        rw [List.take_nil, List.drop_nil] at HRN
        clear hlt H0 hL hLo HAt hi0 hP hi4 HO
        go_upto_region 12 with (first
          | (go_at_call 23; (with_reducible refine (HSd.out _).mono ?_); rintro e w1 ⟨rfl, hb⟩; replace HB := below_on HB hb; clear hb)
          | (go_at_call 21; (with_reducible refine (HPb.out _ HB).mono ?_); rintro e w2 ⟨rfl, hb⟩; replace HB := below_on HB hb; clear hb)
          | (go_at_call 15; (with_reducible refine (HI.out _ HB).mono ?_); rintro e w3 ⟨rfl, hb⟩; replace HB := below_on HB hb; clear hb))
        have hbA := (Below.refl w3.heap.size w3).alloc (Nat.le_refl _) (.cells #[.string id, .string kt] 51)
        replace HB := below_on HB hbA
        have lK := Lies.new w3 51 #[.string id, .string kt]
        clear hbA
        generalize w3.alloc (.cells #[.string id, .string kt] 51) = w4 at *
        generalize w3.heap.size = gk at *
        go_wp2
        go_loopw [14] (fun v14 wx => v14 = .int .i64 0 ∧ Hid (Lies wx gk 51 #[.string id, .string kt]) ∧ Below W.heap.size W wx) (fun _ _ => 0)
        case atStart => exact ⟨rfl, Lib.hid lK, HB⟩
        case round =>
          clear lK HB
          obtain ⟨rfl, HL, HB⟩ := hrel
          go_upto_region 13 with fail
          refine wp_region_quiet_below (by kernel_rfl) (by kernel_rfl) ?_
          repeat (go_big_quiet_step (fail))
          refine wpQuiet_nil ?_
          intro _ hw'
          obtain ⟨⟨dq, osq⟩, hw''⟩ := hw'
          subst hw''
          have hb2 := below_regrown wr dq osq
          have lK := HL.out.on hb2
          replace HB := below_on HB hb2
          clear hb2 HL
          generalize grow (redrawn wr dq) osq = w5 at *
          go_upto_region 15 with fail
          refine V.wp_held_any (S := fun w' => Lies w' gk 51 #[.string id, .string kt]) 12 rfl (by kernel_rfl) ?_
          have hbD : Below w5.heap.size w5 { w5 with drawn := w5.drawn + 1 } := (Below.refl _ _).drew
          replace lK := lK.on hbD
          replace HB := below_on HB hbD
          clear hbD
          generalize ({ w5 with drawn := w5.drawn + 1 } : World) = w5d at *
          refine V.held_put 0 77 (.slice none 0 0) rfl rfl (by kernel_rfl) (by kernel_rfl) (by kernel_rfl) (by kernel_rfl) (fun w hS => rfl) lK ?_
          simp only [List.setIfInBounds_toArray, List.set_cons_succ, List.set_cons_zero]
          refine V.held_put 1 78 (.int .i64 0) rfl rfl (by kernel_rfl) (by kernel_rfl) (by kernel_rfl) (by kernel_rfl) (fun w hS => rfl) lK ?_
          simp only [List.setIfInBounds_toArray, List.set_cons_succ, List.set_cons_zero]
          refine V.held_put 2 79 (.int .i64 0) rfl rfl (by kernel_rfl) (by kernel_rfl) (by kernel_rfl) (by kernel_rfl) (fun w hS => rfl) lK ?_
          simp only [List.setIfInBounds_toArray, List.set_cons_succ, List.set_cons_zero]
          refine V.held_put 3 80 (.slice none 0 0) rfl rfl (by kernel_rfl) (by kernel_rfl) (by kernel_rfl) (by kernel_rfl) (fun w hS => run_cut3 _ 2 underK elemK none 0 0 0 (Nat.le_refl _) rfl rfl rfl w) lK ?_
          simp only [List.setIfInBounds_toArray, List.set_cons_succ, List.set_cons_zero]
          refine V.held_put 4 81 (.agg #[.string id, .string kt]) rfl rfl (by kernel_rfl) (by kernel_rfl) (by kernel_rfl) (by kernel_rfl) (fun w hS => run_ldW _ gk _ _ 2 rowKey rfl hS rfl) lK ?_
          simp only [List.setIfInBounds_toArray, List.set_cons_succ, List.set_cons_zero]
          refine V.held_put 6 83 (.slice none 0 0) rfl rfl (by kernel_rfl) (by kernel_rfl) (by kernel_rfl) (by kernel_rfl) (fun w hS => rfl) lK ?_
          simp only [List.setIfInBounds_toArray, List.set_cons_succ, List.set_cons_zero]
          refine V.held_put 7 84 (.int .i64 0) rfl rfl (by kernel_rfl) (by kernel_rfl) (by kernel_rfl) (by kernel_rfl) (fun w hS => rfl) lK ?_
          simp only [List.setIfInBounds_toArray, List.set_cons_succ, List.set_cons_zero]
          refine V.held_put 8 85 (.slice none 0 0) rfl rfl (by kernel_rfl) (by kernel_rfl) (by kernel_rfl) (by kernel_rfl) (fun w hS => run_cutL _ 2 underK elemK none 0 0 0 (Nat.le_refl _) rfl rfl w) lK ?_
          simp only [List.setIfInBounds_toArray, List.set_cons_succ, List.set_cons_zero]
          have hbN := (Below.refl w5d.heap.size w5d).alloc (Nat.le_refl _) (.cells #[.string id, .string kt] 51)
          have hoL := own_lit w5d w5d.heap.size (id, kt) (Nat.le_refl _)
          have hbq := hbN
          have HBq := Lib.hid HB
          have lKq := Lib.hid lK
          refine V.held_one 5 (by kernel_rfl) (V.wpOp_put 82 (w' := w5d.alloc (.cells #[.string id, .string kt] 51)) (v := (.slice (some ⟨w5d.heap.size, 0, none⟩) 1 1)) rfl rfl (by kernel_rfl) (by kernel_rfl) ⟨lK.on hbN, ?_⟩)
          simp only [List.setIfInBounds_toArray, List.set_cons_succ, List.set_cons_zero]
          replace lK := lK.on hbN
          replace HB := below_on HB hbN
          clear hbN
          obtain ⟨wb1g, hgg⟩ : ∃ g, w5d.heap.size = g := ⟨_, rfl⟩
          generalize w5d.alloc (.cells #[.string id, .string kt] 51) = wb1 at *
          clear hgg
          refine V.held_one 9 (by kernel_rfl) (V.wpOp_lawD 86 rfl rfl (by kernel_rfl) (V.wpL_appendL w5d.heap.size 51 iK _ 2 32 Tryz.underlying25 hiK hzK0 hzK1 hzK2 rfl (by decide) _ [twoS (id, kt)] hoL _ ([] : List (List Value)) (RowL.nil _ _) (by simp) (by unfold maxLen; simp) (by simp) hbq.size rfl rfl ?_))
          intro v10 w10 ho10 hg10
          replace hbq := hbq.grown hg10 hbq.size (fun k hk => hoL.lt k hk)
          replace HB := below_on HBq.out hbq
          replace lK := lKq.out.on hbq
          clear hoL hg10
          refine And.intro lK ?_
          simp only [Act.put, List.setIfInBounds_toArray, List.set_cons_succ, List.set_cons_zero]
          refine V.held_one 10 (by kernel_rfl) (V.wpOp_lawD 87 rfl rfl (by kernel_rfl) (V.wpL_appendL W.heap.size 51 iK _ 2 32 Tryz.underlying25 hiK hzK0 hzK1 hzK2 rfl (by decide) _ [] (OwnL.nil _ _ _ _) _ ([twoS (id, kt)] ++ []) ho10.read (twoS_ones _) (by unfold maxLen; simp) (by simp) HB.size rfl rfl ?_))
          intro v11 w11 ho11 hg11
          replace HB := HB.grown hg11 HB.size (fun k hk => by cases hk)
          have hb11 := (Below.refl w10.heap.size w10).grown hg11 (Nat.le_refl _) (fun k hk => by cases hk)
          replace lK := lK.on hb11
          clear hb11 hg11 ho10 hbq
          refine And.intro lK ?_
          simp only [Act.put, List.setIfInBounds_toArray, List.set_cons_succ, List.set_cons_zero]
          refine V.held_put 11 9 v11 rfl rfl (by kernel_rfl) (by kernel_rfl) (by kernel_rfl) (by kernel_rfl) (fun w hS => rfl) lK ?_
          simp only [List.setIfInBounds_toArray, List.set_cons_succ, List.set_cons_zero]
          refine V.held_done (by kernel_rfl) ?_
          simp only [Exit.then]
          go_wp2
          go_roundw
          case rel => exact ⟨i + 1, by go_num, HJ.out, Lib.hid (fun e => by omega), Lib.hid (by rw [HRN.out]; exact ho11), HB⟩
          case measure =>
            have := HJ.out
            simp [intOf]; omega
      · obtain ⟨g, c, hv⟩ := own_some HO.out (by omega)
        rw [hL] at hv
        subst hv
        have hic : i ≤ c := by
          obtain ⟨a', c', e, h1, _⟩ := HO.out.read.form
          injection e with _ e2 e3
          omega
        have HPc := Lib.hid (show P ≤ c by omega)
        have HPi := Lib.hid hP
        have HTake := Lib.hid (fun (w : World) (h : RowL w 2 (.slice (some ⟨g, 0, none⟩) i c) L) => row_full h (p := P) (by omega))
        have HDrop := Lib.hid (show ∀ (w : World), RowL w 2 (.slice (some ⟨g, 0, none⟩) i c) L → RowL w 2 (sliced (some ⟨g, 0, none⟩) P i c 2) (L.drop P) from fun w h => by
          have := h.drop (j := P) (by omega)
          rwa [hL] at this)
        have HDu := Lib.hid (show ∀ u ∈ (L.drop P).flatten, u.oneCell' = true from fun u hu => by
          obtain ⟨cs, hcs, hu⟩ := List.mem_flatten.1 hu
          exact hLo u (List.mem_flatten.2 ⟨cs, List.mem_of_mem_drop hcs, hu⟩))
        have HD63 := Lib.hid (show ([twoS (id, kt)] : List (List Value)).length + (L.drop P).length ≤ maxLen by rw [List.length_drop, hL]; unfold maxLen; simp; omega)
        have HD64 := Lib.hid (show (([twoS (id, kt)] : List (List Value)).length + (L.drop P).length) * 32 ≤ 140737488355328 by rw [List.length_drop, hL]; simp; omega)
        have HL63 := Lib.hid (show P + ([twoS (id, kt)] ++ L.drop P : List (List Value)).length ≤ 1000 by rw [List.length_append, List.length_drop, hL]; simp; omega)
        have hI0 := Lib.hid (show 0 < i by omega)
        clear hlt H0 hL hLo hi0 hi4 hic
        go_upto_region 12 with (first
          | (go_at_call 23; (with_reducible refine (HSd.out _).mono ?_); rintro e w1 ⟨rfl, hb⟩; replace HB := below_on HB hb; replace HO := Lib.hid (HO.out.on hb); clear hb)
          | (go_at_call 21; (with_reducible refine (HPb.out _ HB).mono ?_); rintro e w2 ⟨rfl, hb⟩; replace HB := below_on HB hb; replace HO := Lib.hid (HO.out.on hb); clear hb)
          | (go_at_call 15; (with_reducible refine (HI.out _ HB).mono ?_); rintro e w3 ⟨rfl, hb⟩; replace HB := below_on HB hb; replace HO := Lib.hid (HO.out.on hb); clear hb))
        have hbA := (Below.refl w3.heap.size w3).alloc (Nat.le_refl _) (.cells #[.string id, .string kt] 51)
        replace HB := below_on HB hbA
        replace HO := Lib.hid (HO.out.on hbA)
        have lK := Lies.new w3 51 #[.string id, .string kt]
        clear hbA
        generalize w3.alloc (.cells #[.string id, .string kt] 51) = w4 at *
        generalize w3.heap.size = gk at *
        go_wp2
        go_loopw [14] (fun v14 wx => ∃ t : Nat, v14 = .int .i64 (t : Int) ∧ t ≤ P ∧ Hid (Lies wx gk 51 #[.string id, .string kt]) ∧ Hid (RowL wx 2 (.slice (some ⟨g, 0, none⟩) i c) L) ∧ Below W.heap.size W wx) (fun v14 _ => P - (intOf v14).toNat)
        case atStart => exact ⟨0, rfl, Nat.zero_le _, Lib.hid lK, Lib.hid HO.out.read, HB⟩
        case round =>
          clear lK HB HO
          obtain ⟨t, rfl, ht, HL, HO, HB⟩ := hrel
          by_cases hti : t < i
          case neg =>
            have hE1 : P = t := by omega
            subst hE1
            have hE2 : P = i := by omega
            have j1 : ¬ (P : Int) < (i : Int) := by omega
            have j1x : ¬ (i : Int) < (i : Int) := by omega
            clear hti ht hP hE2 j1x
            go_upto_region 13 with fail
            refine wp_region_quiet_below (by kernel_rfl) (by kernel_rfl) ?_
            repeat (go_big_quiet_step (fail))
            refine wpQuiet_nil ?_
            intro _ hw'
            obtain ⟨⟨dq, osq⟩, hw''⟩ := hw'
            subst hw''
            have hb2 := below_regrown wr dq osq
            have lK := HL.out.on hb2
            have HR := HO.out.below hb2
            replace HB := below_on HB hb2
            clear hb2 HL HO
            generalize grow (redrawn wr dq) osq = w5 at *
            go_upto_region 15 with fail
            refine V.wp_held_any (S := fun w' => Lies w' gk 51 #[.string id, .string kt]) 12 rfl (by kernel_rfl) ?_
            have hbD : Below w5.heap.size w5 { w5 with drawn := w5.drawn + 1 } := (Below.refl _ _).drew
            replace lK := lK.on hbD
            replace HR := HR.below hbD
            replace HB := below_on HB hbD
            clear hbD
            generalize ({ w5 with drawn := w5.drawn + 1 } : World) = w5d at *
            refine V.held_put 0 77 (.slice (some ⟨g, 0, none⟩) i c) rfl rfl (by kernel_rfl) (by kernel_rfl) (by kernel_rfl) (by kernel_rfl) (fun w hS => rfl) lK ?_
            simp only [List.setIfInBounds_toArray, List.set_cons_succ, List.set_cons_zero]
            refine V.held_put 1 78 (.int .i64 (P : Int)) rfl rfl (by kernel_rfl) (by kernel_rfl) (by kernel_rfl) (by kernel_rfl) (fun w hS => rfl) lK ?_
            simp only [List.setIfInBounds_toArray, List.set_cons_succ, List.set_cons_zero]
            refine V.held_put 2 79 (.int .i64 (P : Int)) rfl rfl (by kernel_rfl) (by kernel_rfl) (by kernel_rfl) (by kernel_rfl) (fun w hS => rfl) lK ?_
            simp only [List.setIfInBounds_toArray, List.set_cons_succ, List.set_cons_zero]
            refine V.held_put 3 80 (.slice (some ⟨g, 0, none⟩) P P) rfl rfl (by kernel_rfl) (by kernel_rfl) (by kernel_rfl) (by kernel_rfl) (fun w hS => (run_cut3 _ 2 underK elemK (some ⟨g, 0, none⟩) i c P HPc.out rfl rfl rfl w).trans (by rw [sliced_full])) lK ?_
            simp only [List.setIfInBounds_toArray, List.set_cons_succ, List.set_cons_zero]
            refine V.held_put 4 81 (.agg #[.string id, .string kt]) rfl rfl (by kernel_rfl) (by kernel_rfl) (by kernel_rfl) (by kernel_rfl) (fun w hS => run_ldW _ gk _ _ 2 rowKey rfl hS rfl) lK ?_
            simp only [List.setIfInBounds_toArray, List.set_cons_succ, List.set_cons_zero]
            refine V.held_put 6 83 (.slice (some ⟨g, 0, none⟩) i c) rfl rfl (by kernel_rfl) (by kernel_rfl) (by kernel_rfl) (by kernel_rfl) (fun w hS => rfl) lK ?_
            simp only [List.setIfInBounds_toArray, List.set_cons_succ, List.set_cons_zero]
            refine V.held_put 7 84 (.int .i64 (P : Int)) rfl rfl (by kernel_rfl) (by kernel_rfl) (by kernel_rfl) (by kernel_rfl) (fun w hS => rfl) lK ?_
            simp only [List.setIfInBounds_toArray, List.set_cons_succ, List.set_cons_zero]
            refine V.held_put 8 85 (sliced (some ⟨g, 0, none⟩) P i c 2) rfl rfl (by kernel_rfl) (by kernel_rfl) (by kernel_rfl) (by kernel_rfl) (fun w hS => run_cutL _ 2 underK elemK (some ⟨g, 0, none⟩) i c P HPi.out rfl rfl w) lK ?_
            simp only [List.setIfInBounds_toArray, List.set_cons_succ, List.set_cons_zero]
            have hbN := (Below.refl w5d.heap.size w5d).alloc (Nat.le_refl _) (.cells #[.string id, .string kt] 51)
            have hoL := own_lit w5d w5d.heap.size (id, kt) (Nat.le_refl _)
            have hbq := hbN
            have HBq := Lib.hid HB
            have lKq := Lib.hid lK
            have HDr := Lib.hid (fun (w1 : World) (hb : Below w5d.heap.size w5d w1) => (HDrop.out _ HR).below hb)
            have HLo := Lib.hid (fun (w1 : World) (hb : Below w5d.heap.size w5d w1) => (HTake.out _ HR).below hb)
            refine V.held_one 5 (by kernel_rfl) (V.wpOp_put 82 (w' := w5d.alloc (.cells #[.string id, .string kt] 51)) (v := (.slice (some ⟨w5d.heap.size, 0, none⟩) 1 1)) rfl rfl (by kernel_rfl) (by kernel_rfl) ⟨lK.on hbN, ?_⟩)
            simp only [List.setIfInBounds_toArray, List.set_cons_succ, List.set_cons_zero]
            replace lK := lK.on hbN
            replace HR := HR.below hbN
            replace HB := below_on HB hbN
            clear hbN
            obtain ⟨wb1g, hgg⟩ : ∃ g, w5d.heap.size = g := ⟨_, rfl⟩
            generalize w5d.alloc (.cells #[.string id, .string kt] 51) = wb1 at *
            clear hgg
            refine V.held_one 9 (by kernel_rfl) (V.wpOp_lawD 86 rfl rfl (by kernel_rfl) (V.wpL_appendL w5d.heap.size 51 iK _ 2 32 Tryz.underlying25 hiK hzK0 hzK1 hzK2 rfl (by decide) _ [twoS (id, kt)] hoL _ (L.drop P) (HDr.out _ hbq) HDu.out HD63.out HD64.out hbq.size rfl rfl ?_))
            intro v10 w10 ho10 hg10
            replace hbq := hbq.grown hg10 hbq.size (fun k hk => hoL.lt k hk)
            replace HB := below_on HBq.out hbq
            replace lK := lKq.out.on hbq
            clear hoL hg10
            refine And.intro lK ?_
            simp only [Act.put, List.setIfInBounds_toArray, List.set_cons_succ, List.set_cons_zero]
            obtain ⟨gX, cX, rfl⟩ := own_some ho10 (by simp)
            obtain ⟨v11, w11, hr11, ho11, hg11⟩ := run_grow 25 (HLo.out _ hbq) ho10.read (by simp) HL63.out
            replace ho11 := own_base ho11 HB.size
            replace HB := HB.grown hg11 HB.size (fun k hk => by cases hk)
            have hb11 := (Below.refl w10.heap.size w10).grown hg11 (Nat.le_refl _) (fun k hk => by cases hk)
            refine V.held_one 10 (by kernel_rfl) (V.wpOp_put 87 (w' := w11) (v := v11) rfl rfl (by kernel_rfl) (hr11 _ _ _ _ _ _ _ rfl rfl) ?_)
            replace lK := lK.on hb11
            clear hb11 hg11 ho10 hbq
            refine And.intro lK ?_
            simp only [List.setIfInBounds_toArray, List.set_cons_succ, List.set_cons_zero]
            refine V.held_put 11 9 v11 rfl rfl (by kernel_rfl) (by kernel_rfl) (by kernel_rfl) (by kernel_rfl) (fun w hS => rfl) lK ?_
            simp only [List.setIfInBounds_toArray, List.set_cons_succ, List.set_cons_zero]
            refine V.held_done (by kernel_rfl) ?_
            simp only [Exit.then]
            go_wp2
            go_roundw
            case rel => exact ⟨i + 1, by go_num, HJ.out, Lib.hid (fun e => by omega), Lib.hid (by rw [HRN.out]; exact ho11), HB⟩
            case measure =>
              have := HJ.out
              simp [intOf]; omega
          obtain ⟨a, b, hab, hless⟩ := HAt.out t hti
          have j1 : decide ((t : Int) < (i : Int)) = true := decide_eq_true (by omega)
          have HR := HO.out
          have lK := HL.out
          have HTI := Lib.hid hti
          clear HO HL hti
          by_cases htP : t < P
          · rw [decide_eq_true htP] at hless
            have HJ2 := Lib.hid htP
            clear htP
            go_upto_region 13 with fail
            refine V.wp_held_any (S := fun w' => Lies w' gk 51 #[.string id, .string kt] ∧ RowL w' 2 (.slice (some ⟨g, 0, none⟩) i c) L) 14 rfl (by kernel_rfl) ?_
            have hbD : Below wr.heap.size wr { wr with drawn := wr.drawn + 1 } := (Below.refl _ _).drew
            replace lK := lK.on hbD
            replace HR := HR.below hbD
            replace HB := below_on HB hbD
            clear hbD
            generalize ({ wr with drawn := wr.drawn + 1 } : World) = wrd at *
            refine V.held_put 0 61 (.int .i64 (t : Int)) rfl rfl (by kernel_rfl) (by kernel_rfl) (by kernel_rfl) (by kernel_rfl) (fun w hS => rfl) ⟨lK, HR⟩ ?_
            simp only [List.setIfInBounds_toArray, List.set_cons_succ, List.set_cons_zero]
            refine V.held_put 1 62 (.slice (some ⟨g, 0, none⟩) i c) rfl rfl (by kernel_rfl) (by kernel_rfl) (by kernel_rfl) (by kernel_rfl) (fun w hS => rfl) ⟨lK, HR⟩ ?_
            simp only [List.setIfInBounds_toArray, List.set_cons_succ, List.set_cons_zero]
            refine V.held_put 2 63 (.int .i64 (i : Int)) rfl rfl (by kernel_rfl) (by kernel_rfl) (by kernel_rfl) (by kernel_rfl) (fun w hS => run_lenK _ i c rfl w) ⟨lK, HR⟩ ?_
            simp only [List.setIfInBounds_toArray, List.set_cons_succ, List.set_cons_zero]
            refine V.held_put 3 64 (.bool true) rfl rfl (by kernel_rfl) (by kernel_rfl) (by kernel_rfl) (by kernel_rfl) (fun w hS => run_lssI _ _ _ j1 rfl rfl w) ⟨lK, HR⟩ ?_
            simp only [List.setIfInBounds_toArray, List.set_cons_succ, List.set_cons_zero]
            refine V.held_put 4 65 (.bool true) rfl rfl (by kernel_rfl) (by kernel_rfl) (by kernel_rfl) (by kernel_rfl) (fun w hS => rfl) ⟨lK, HR⟩ ?_
            simp only [List.setIfInBounds_toArray, List.set_cons_succ, List.set_cons_zero]
            refine V.held_put 5 66 (.slice (some ⟨g, 0, none⟩) i c) rfl rfl (by kernel_rfl) (by kernel_rfl) (by kernel_rfl) (by kernel_rfl) (fun w hS => rfl) ⟨lK, HR⟩ ?_
            simp only [List.setIfInBounds_toArray, List.set_cons_succ, List.set_cons_zero]
            refine V.held_put 6 67 (.int .i64 (t : Int)) rfl rfl (by kernel_rfl) (by kernel_rfl) (by kernel_rfl) (by kernel_rfl) (fun w hS => rfl) ⟨lK, HR⟩ ?_
            simp only [List.setIfInBounds_toArray, List.set_cons_succ, List.set_cons_zero]
            refine V.held_put 7 68 (.pointer (some ⟨g, 0 + t * 2, none⟩)) rfl rfl (by kernel_rfl) (by kernel_rfl) (by kernel_rfl) (by kernel_rfl) (fun w hS => run_idxM _ _ 2 Tryz.underlying25 Tryz.sizeOf51 g 0 i c t HTI.out rfl rfl w) ⟨lK, HR⟩ ?_
            simp only [List.setIfInBounds_toArray, List.set_cons_succ, List.set_cons_zero]
            refine V.held_put 8 69 (.pointer (some ⟨g, 0 + t * 2, none⟩)) rfl rfl (by kernel_rfl) (by kernel_rfl) (by kernel_rfl) (by kernel_rfl) (fun w hS => run_fldK g _ rfl w) ⟨lK, HR⟩ ?_
            simp only [List.setIfInBounds_toArray, List.set_cons_succ, List.set_cons_zero]
            refine V.held_put 9 70 (.string a) rfl rfl (by kernel_rfl) (by kernel_rfl) (by kernel_rfl) (by kernel_rfl) (fun w hS => run_ldS _ _ _ (key_cell hS.2 hab) rfl) ⟨lK, HR⟩ ?_
            simp only [List.setIfInBounds_toArray, List.set_cons_succ, List.set_cons_zero]
            refine V.held_put 10 71 (.pointer (some ⟨gk, 0, none⟩)) rfl rfl (by kernel_rfl) (by kernel_rfl) (by kernel_rfl) (by kernel_rfl) (fun w hS => run_fldK gk _ rfl w) ⟨lK, HR⟩ ?_
            simp only [List.setIfInBounds_toArray, List.set_cons_succ, List.set_cons_zero]
            refine V.held_put 11 72 (.string id) rfl rfl (by kernel_rfl) (by kernel_rfl) (by kernel_rfl) (by kernel_rfl) (fun w hS => run_ldS _ _ _ (lies_cell hS.1) rfl) ⟨lK, HR⟩ ?_
            simp only [List.setIfInBounds_toArray, List.set_cons_succ, List.set_cons_zero]
            refine V.held_put 12 73 (.bool true) rfl rfl (by kernel_rfl) (by kernel_rfl) (by kernel_rfl) (by kernel_rfl) (fun w hS => run_lssT _ _ _ hless rfl rfl w) ⟨lK, HR⟩ ?_
            simp only [List.setIfInBounds_toArray, List.set_cons_succ, List.set_cons_zero]
            refine V.held_put 13 74 (.bool true) rfl rfl (by kernel_rfl) (by kernel_rfl) (by kernel_rfl) (by kernel_rfl) (fun w hS => rfl) ⟨lK, HR⟩ ?_
            simp only [List.setIfInBounds_toArray, List.set_cons_succ, List.set_cons_zero]
            refine V.held_done (by kernel_rfl) ?_
            simp only [Exit.then]
            go_wp2
            go_roundw
            case rel => exact ⟨t + 1, by go_num, HJ2.out, Lib.hid lK, Lib.hid HR, HB⟩
            case measure =>
              have := HJ2.out
              simp [intOf]; omega
          · rw [decide_eq_false htP] at hless
            have hE1 : P = t := by omega
            subst hE1
            clear htP ht
            go_upto_region 13 with fail
            refine V.wp_held_any (S := fun w' => Lies w' gk 51 #[.string id, .string kt] ∧ RowL w' 2 (.slice (some ⟨g, 0, none⟩) i c) L) 14 rfl (by kernel_rfl) ?_
            have hbD : Below wr.heap.size wr { wr with drawn := wr.drawn + 1 } := (Below.refl _ _).drew
            replace lK := lK.on hbD
            replace HR := HR.below hbD
            replace HB := below_on HB hbD
            clear hbD
            generalize ({ wr with drawn := wr.drawn + 1 } : World) = wrd at *
            refine V.held_put 0 61 (.int .i64 (P : Int)) rfl rfl (by kernel_rfl) (by kernel_rfl) (by kernel_rfl) (by kernel_rfl) (fun w hS => rfl) ⟨lK, HR⟩ ?_
            simp only [List.setIfInBounds_toArray, List.set_cons_succ, List.set_cons_zero]
            refine V.held_put 1 62 (.slice (some ⟨g, 0, none⟩) i c) rfl rfl (by kernel_rfl) (by kernel_rfl) (by kernel_rfl) (by kernel_rfl) (fun w hS => rfl) ⟨lK, HR⟩ ?_
            simp only [List.setIfInBounds_toArray, List.set_cons_succ, List.set_cons_zero]
            refine V.held_put 2 63 (.int .i64 (i : Int)) rfl rfl (by kernel_rfl) (by kernel_rfl) (by kernel_rfl) (by kernel_rfl) (fun w hS => run_lenK _ i c rfl w) ⟨lK, HR⟩ ?_
            simp only [List.setIfInBounds_toArray, List.set_cons_succ, List.set_cons_zero]
            refine V.held_put 3 64 (.bool true) rfl rfl (by kernel_rfl) (by kernel_rfl) (by kernel_rfl) (by kernel_rfl) (fun w hS => run_lssI _ _ _ j1 rfl rfl w) ⟨lK, HR⟩ ?_
            simp only [List.setIfInBounds_toArray, List.set_cons_succ, List.set_cons_zero]
            refine V.held_put 4 65 (.bool true) rfl rfl (by kernel_rfl) (by kernel_rfl) (by kernel_rfl) (by kernel_rfl) (fun w hS => rfl) ⟨lK, HR⟩ ?_
            simp only [List.setIfInBounds_toArray, List.set_cons_succ, List.set_cons_zero]
            refine V.held_put 5 66 (.slice (some ⟨g, 0, none⟩) i c) rfl rfl (by kernel_rfl) (by kernel_rfl) (by kernel_rfl) (by kernel_rfl) (fun w hS => rfl) ⟨lK, HR⟩ ?_
            simp only [List.setIfInBounds_toArray, List.set_cons_succ, List.set_cons_zero]
            refine V.held_put 6 67 (.int .i64 (P : Int)) rfl rfl (by kernel_rfl) (by kernel_rfl) (by kernel_rfl) (by kernel_rfl) (fun w hS => rfl) ⟨lK, HR⟩ ?_
            simp only [List.setIfInBounds_toArray, List.set_cons_succ, List.set_cons_zero]
            refine V.held_put 7 68 (.pointer (some ⟨g, 0 + P * 2, none⟩)) rfl rfl (by kernel_rfl) (by kernel_rfl) (by kernel_rfl) (by kernel_rfl) (fun w hS => run_idxM _ _ 2 Tryz.underlying25 Tryz.sizeOf51 g 0 i c P HTI.out rfl rfl w) ⟨lK, HR⟩ ?_
            simp only [List.setIfInBounds_toArray, List.set_cons_succ, List.set_cons_zero]
            refine V.held_put 8 69 (.pointer (some ⟨g, 0 + P * 2, none⟩)) rfl rfl (by kernel_rfl) (by kernel_rfl) (by kernel_rfl) (by kernel_rfl) (fun w hS => run_fldK g _ rfl w) ⟨lK, HR⟩ ?_
            simp only [List.setIfInBounds_toArray, List.set_cons_succ, List.set_cons_zero]
            refine V.held_put 9 70 (.string a) rfl rfl (by kernel_rfl) (by kernel_rfl) (by kernel_rfl) (by kernel_rfl) (fun w hS => run_ldS _ _ _ (key_cell hS.2 hab) rfl) ⟨lK, HR⟩ ?_
            simp only [List.setIfInBounds_toArray, List.set_cons_succ, List.set_cons_zero]
            refine V.held_put 10 71 (.pointer (some ⟨gk, 0, none⟩)) rfl rfl (by kernel_rfl) (by kernel_rfl) (by kernel_rfl) (by kernel_rfl) (fun w hS => run_fldK gk _ rfl w) ⟨lK, HR⟩ ?_
            simp only [List.setIfInBounds_toArray, List.set_cons_succ, List.set_cons_zero]
            refine V.held_put 11 72 (.string id) rfl rfl (by kernel_rfl) (by kernel_rfl) (by kernel_rfl) (by kernel_rfl) (fun w hS => run_ldS _ _ _ (lies_cell hS.1) rfl) ⟨lK, HR⟩ ?_
            simp only [List.setIfInBounds_toArray, List.set_cons_succ, List.set_cons_zero]
            refine V.held_put 12 73 (.bool false) rfl rfl (by kernel_rfl) (by kernel_rfl) (by kernel_rfl) (by kernel_rfl) (fun w hS => run_lssT _ _ _ hless rfl rfl w) ⟨lK, HR⟩ ?_
            simp only [List.setIfInBounds_toArray, List.set_cons_succ, List.set_cons_zero]
            refine V.held_put 13 74 (.bool false) rfl rfl (by kernel_rfl) (by kernel_rfl) (by kernel_rfl) (by kernel_rfl) (fun w hS => rfl) ⟨lK, HR⟩ ?_
            simp only [List.setIfInBounds_toArray, List.set_cons_succ, List.set_cons_zero]
            refine V.held_done (by kernel_rfl) ?_
            simp only [Exit.then]
            go_upto_region 15 with fail
            refine V.wp_held_any (S := fun w' => Lies w' gk 51 #[.string id, .string kt]) 12 rfl (by kernel_rfl) ?_
            have hbD : Below wrd.heap.size wrd { wrd with drawn := wrd.drawn + 1 } := (Below.refl _ _).drew
            replace lK := lK.on hbD
            replace HR := HR.below hbD
            replace HB := below_on HB hbD
            clear hbD
            generalize ({ wrd with drawn := wrd.drawn + 1 } : World) = wrdd at *
            refine V.held_put 0 77 (.slice (some ⟨g, 0, none⟩) i c) rfl rfl (by kernel_rfl) (by kernel_rfl) (by kernel_rfl) (by kernel_rfl) (fun w hS => rfl) lK ?_
            simp only [List.setIfInBounds_toArray, List.set_cons_succ, List.set_cons_zero]
            refine V.held_put 1 78 (.int .i64 (P : Int)) rfl rfl (by kernel_rfl) (by kernel_rfl) (by kernel_rfl) (by kernel_rfl) (fun w hS => rfl) lK ?_
            simp only [List.setIfInBounds_toArray, List.set_cons_succ, List.set_cons_zero]
            refine V.held_put 2 79 (.int .i64 (P : Int)) rfl rfl (by kernel_rfl) (by kernel_rfl) (by kernel_rfl) (by kernel_rfl) (fun w hS => rfl) lK ?_
            simp only [List.setIfInBounds_toArray, List.set_cons_succ, List.set_cons_zero]
            refine V.held_put 3 80 (.slice (some ⟨g, 0, none⟩) P P) rfl rfl (by kernel_rfl) (by kernel_rfl) (by kernel_rfl) (by kernel_rfl) (fun w hS => (run_cut3 _ 2 underK elemK (some ⟨g, 0, none⟩) i c P HPc.out rfl rfl rfl w).trans (by rw [sliced_full])) lK ?_
            simp only [List.setIfInBounds_toArray, List.set_cons_succ, List.set_cons_zero]
            refine V.held_put 4 81 (.agg #[.string id, .string kt]) rfl rfl (by kernel_rfl) (by kernel_rfl) (by kernel_rfl) (by kernel_rfl) (fun w hS => run_ldW _ gk _ _ 2 rowKey rfl hS rfl) lK ?_
            simp only [List.setIfInBounds_toArray, List.set_cons_succ, List.set_cons_zero]
            refine V.held_put 6 83 (.slice (some ⟨g, 0, none⟩) i c) rfl rfl (by kernel_rfl) (by kernel_rfl) (by kernel_rfl) (by kernel_rfl) (fun w hS => rfl) lK ?_
            simp only [List.setIfInBounds_toArray, List.set_cons_succ, List.set_cons_zero]
            refine V.held_put 7 84 (.int .i64 (P : Int)) rfl rfl (by kernel_rfl) (by kernel_rfl) (by kernel_rfl) (by kernel_rfl) (fun w hS => rfl) lK ?_
            simp only [List.setIfInBounds_toArray, List.set_cons_succ, List.set_cons_zero]
            refine V.held_put 8 85 (sliced (some ⟨g, 0, none⟩) P i c 2) rfl rfl (by kernel_rfl) (by kernel_rfl) (by kernel_rfl) (by kernel_rfl) (fun w hS => run_cutL _ 2 underK elemK (some ⟨g, 0, none⟩) i c P HPi.out rfl rfl w) lK ?_
            simp only [List.setIfInBounds_toArray, List.set_cons_succ, List.set_cons_zero]
            have hbN := (Below.refl wrdd.heap.size wrdd).alloc (Nat.le_refl _) (.cells #[.string id, .string kt] 51)
            have hoL := own_lit wrdd wrdd.heap.size (id, kt) (Nat.le_refl _)
            have hbq := hbN
            have HBq := Lib.hid HB
            have lKq := Lib.hid lK
            have HDr := Lib.hid (fun (w1 : World) (hb : Below wrdd.heap.size wrdd w1) => (HDrop.out _ HR).below hb)
            have HLo := Lib.hid (fun (w1 : World) (hb : Below wrdd.heap.size wrdd w1) => (HTake.out _ HR).below hb)
            refine V.held_one 5 (by kernel_rfl) (V.wpOp_put 82 (w' := wrdd.alloc (.cells #[.string id, .string kt] 51)) (v := (.slice (some ⟨wrdd.heap.size, 0, none⟩) 1 1)) rfl rfl (by kernel_rfl) (by kernel_rfl) ⟨lK.on hbN, ?_⟩)
            simp only [List.setIfInBounds_toArray, List.set_cons_succ, List.set_cons_zero]
            replace lK := lK.on hbN
            replace HR := HR.below hbN
            replace HB := below_on HB hbN
            clear hbN
            obtain ⟨wb1g, hgg⟩ : ∃ g, wrdd.heap.size = g := ⟨_, rfl⟩
            generalize wrdd.alloc (.cells #[.string id, .string kt] 51) = wb1 at *
            clear hgg
            refine V.held_one 9 (by kernel_rfl) (V.wpOp_lawD 86 rfl rfl (by kernel_rfl) (V.wpL_appendL wrdd.heap.size 51 iK _ 2 32 Tryz.underlying25 hiK hzK0 hzK1 hzK2 rfl (by decide) _ [twoS (id, kt)] hoL _ (L.drop P) (HDr.out _ hbq) HDu.out HD63.out HD64.out hbq.size rfl rfl ?_))
            intro v10 w10 ho10 hg10
            replace hbq := hbq.grown hg10 hbq.size (fun k hk => hoL.lt k hk)
            replace HB := below_on HBq.out hbq
            replace lK := lKq.out.on hbq
            clear hoL hg10
            refine And.intro lK ?_
            simp only [Act.put, List.setIfInBounds_toArray, List.set_cons_succ, List.set_cons_zero]
            obtain ⟨gX, cX, rfl⟩ := own_some ho10 (by simp)
            obtain ⟨v11, w11, hr11, ho11, hg11⟩ := run_grow 25 (HLo.out _ hbq) ho10.read (by simp) HL63.out
            replace ho11 := own_base ho11 HB.size
            replace HB := HB.grown hg11 HB.size (fun k hk => by cases hk)
            have hb11 := (Below.refl w10.heap.size w10).grown hg11 (Nat.le_refl _) (fun k hk => by cases hk)
            refine V.held_one 10 (by kernel_rfl) (V.wpOp_put 87 (w' := w11) (v := v11) rfl rfl (by kernel_rfl) (hr11 _ _ _ _ _ _ _ rfl rfl) ?_)
            replace lK := lK.on hb11
            clear hb11 hg11 ho10 hbq
            refine And.intro lK ?_
            simp only [List.setIfInBounds_toArray, List.set_cons_succ, List.set_cons_zero]
            refine V.held_put 11 9 v11 rfl rfl (by kernel_rfl) (by kernel_rfl) (by kernel_rfl) (by kernel_rfl) (fun w hS => rfl) lK ?_
            simp only [List.setIfInBounds_toArray, List.set_cons_succ, List.set_cons_zero]
            refine V.held_done (by kernel_rfl) ?_
            simp only [Exit.then]
            go_wp2
            go_roundw
            case rel => exact ⟨i + 1, by go_num, HJ.out, Lib.hid (fun e => by omega), Lib.hid (by rw [HRN.out]; exact ho11), HB⟩
            case measure =>
              have := HJ.out
              simp [intOf]; omega
    have hE0 : n = i := by omega
    subst hE0
    clear hlt hi H0
    rename World => w5
    have hn4 := HN4.out.2
    have hL : ((rowN n).map twoS).length = n := by rw [List.length_map, row_len hn4]
    obtain ⟨g, c, hv⟩ := own_some HO.out (by have := HN4.out.1; omega)
    rw [hL] at hv
    subst hv
    have HR := Lib.hid HO.out.read
    clear HO
    have i1 : ¬ (n : Int) < (n : Int) := by omega
    go_upto_region 18 with fail
    have hbA := (Below.refl w5.heap.size w5).alloc (Nat.le_refl _) (.cells #[.slice none 0 0, .int .i64 (1 + (p : Int))] 24)
    have lR := Lies.new w5 24 #[.slice none 0 0, .int .i64 (1 + (p : Int))]
    have hsz : w5.heap.size + 1 ≤ (w5.alloc (.cells #[.slice none 0 0, .int .i64 (1 + (p : Int))] 24)).heap.size := by simp
    generalize w5.alloc (.cells #[.slice none 0 0, .int .i64 (1 + (p : Int))] 24) = w6 at *
    obtain ⟨iS, hiS, hzS0, hzS1, hzS2⟩ := info_parts infoStr
    clear i1
    go_wp2
    go_loopw [17, 93] (fun _ iv wx => ∃ (j : Nat) (v : Value), iv = .int .i64 (j : Int) ∧ j ≤ n ∧ Hid (Lies wx w5.heap.size 24 #[v, .int .i64 (1 + (p : Int))]) ∧ Hid (OwnL wx (w5.heap.size + 1) 9 1 v (((idsN n).take j).map oneS)) ∧ Below w5.heap.size w5 wx ∧ Hid (w5.heap.size + 1 ≤ wx.heap.size)) (fun _ iv _ => n - (intOf iv).toNat)
    case atStart => exact ⟨0, _, rfl, Nat.zero_le _, Lib.hid lR, Lib.hid (OwnL.nil _ _ _ _), hbA, Lib.hid hsz⟩
    case round =>
      clear lR hbA hsz
      obtain ⟨j, v, rfl, hj, HLR, HOI, hbR, HSZ⟩ := hrel
      by_cases hlt : j < n
      case pos =>
        obtain ⟨⟨a, b⟩, hab⟩ : ∃ k, (rowN n)[j]? = some k := ⟨_, List.getElem?_eq_getElem (by rw [row_len hn4]; exact hlt)⟩
        have i1 : (j : Int) < (n : Int) := by omega
        have i3 : (0 : Int) ≤ (j : Int) := by omega
        obtain ⟨bb, off, he, hr, _⟩ := (HR.out.below hbR).at (i := j) (cs := twoS (a, b)) (by rw [List.getElem?_map, hab]; rfl)
        injection he with he
        injection he with e1 e2
        subst e1 e2
        have HIDS := Lib.hid (show ((idsN n).take j).map oneS ++ [oneS a] = ((idsN n).take (j + 1)).map oneS by
          rw [List.take_add_one, List.map_append, ids_row, List.getElem?_map, hab]; rfl)
        have hlen : (((idsN n).take j).map oneS).length = j := by rw [List.length_map, List.length_take, ids_row, List.length_map, row_len hn4]; omega
        generalize ((idsN n).take j).map oneS = Lj at *
        have HJ := Lib.hid hlt
        have lZ := Lies.new wr 51 #[.string ⟨#[]⟩, .string ⟨#[]⟩]
        have hbZ := (Below.refl wr.heap.size wr).alloc (Nat.le_refl _) (.cells #[.string ⟨#[]⟩, .string ⟨#[]⟩] 51)
        have hr' := hr
        rw [Nat.zero_add] at hr'
        clear hab hlt
        go_upto_region 21 with (first
          | ((with_reducible refine V.wpL_loadMid g (0 + j * 2) _ 2 rowKey rfl hr ?_ ?_); rfl)
          | ((with_reducible refine V.wpL_loadMid g (j * 2) _ 2 rowKey rfl hr' ?_ ?_); rfl)
          | ((with_reducible refine V.wpL_store wr.heap.size 51 _ #[.string a, .string b] 2 rowKey rfl rfl (two_one _ _) lZ ?_ ?_ ?_); rfl; rfl))
        have lS := lZ.row #[.string a, .string b]
        have hbK := V.below_rowSet hbZ (Nat.le_refl _) #[.string a, .string b]
        generalize World.setRow _ _ _ = w2 at *
        have lR2 := HLR.out.on hbK
        have HO2 := HOI.out.on hbK
        have hbR2 := hbR.trans (hbK.mono hbR.size)
        have hsz2 : w5.heap.size + 1 ≤ w2.heap.size := Nat.le_trans HSZ.out hbK.size
        have q0 := lR2.cell 0; have q1 := lS.cell 0; simp only [List.getElem?_toArray, List.getElem?_cons_zero] at q0 q1
        have hbT := (Below.refl w2.heap.size w2).alloc (Nat.le_refl _) (.cells #[.string a] 9)
        have hOa := HO2.on hbT
        have hlit := RowL.lit w2 9 1 [.string a] rfl
        have hone : ∀ u ∈ ([oneS a] : List (List Value)).flatten, u.oneCell' = true := fun u hu => by
          simp only [oneS, List.flatten_cons, List.flatten_nil, List.append_nil, List.mem_singleton] at hu
          rw [hu]; rfl
        have h63 : Lj.length + ([oneS a] : List (List Value)).length ≤ maxLen := by rw [hlen]; unfold maxLen; simp only [List.length_singleton]; omega
        have h64 : (Lj.length + ([oneS a] : List (List Value)).length) * 16 ≤ 140737488355328 := by rw [hlen]; simp only [List.length_singleton]; omega
        have hsz3 : w5.heap.size + 1 ≤ (w2.alloc (.cells #[.string a] 9)).heap.size := Nat.le_trans hsz2 hbT.size
        have hL7 := fun (w7 : World) (hg : (w2.alloc (.cells #[.string a] 9)).grownBy w7 v.ownBlock) => (lR2.on hbT).only hg (fun e => by (have := hOa.lt _ e.symm; omega))
        have hC7 := fun (w7 : World) (hg : (w2.alloc (.cells #[.string a] 9)).grownBy w7 v.ownBlock) => (show w7.cell? ⟨w5.heap.size, 0, none⟩ = some v by
          have c0 := (hL7 w7 hg).cell 0
          simp only [List.getElem?_toArray, List.getElem?_cons_zero] at c0
          exact c0)
        have HF7 := Lib.hid (fun (w7 : World) (hg : (w2.alloc (.cells #[.string a] 9)).grownBy w7 v.ownBlock) => (hL7 w7 hg).frozen 0)
        have HC7 := Lib.hid hC7
        have HL7 := Lib.hid hL7
        clear hr hr' lZ hbZ HLR HOI hbR HSZ hlen hL7 hC7
        go_wp2_with ((with_reducible refine V.wpL_appendL (w5.heap.size + 1) 9 iS (.string ⟨#[]⟩) 1 16 Tryz.underlying22 hiS hzS0 hzS1 hzS2 rfl (by decide) _ Lj hOa _ _ hlit hone h63 h64 hsz3 ?_ ?_ ?_); rfl; rfl; intro v5 w7 hoX hgX; have f0 := HF7.out w7 hgX; have c0 := HC7.out w7 hgX; obtain ⟨va5, vc5, hvf5, _⟩ := hoX.read.form; rw [List.length_append, List.length_singleton] at hvf5; subst hvf5)
        go_roundw
        case rel =>
          have hne5 : (Value.slice va5 (Lj.length + 1) vc5).ownBlock ≠ some w5.heap.size := fun e => by
            have h := hoX.lt _ e
            exact absurd h (by omega)
          have hb7 := (hbR2.trans (hbT.mono hbR2.size)).grown hgX (by omega) (fun k hk => by have := hOa.lt k hk; omega)
          exact ⟨j + 1, _, by go_num, HJ.out, Lib.hid ((HL7.out w7 hgX).put 0 _), Lib.hid (by rw [← HIDS.out]; exact own_apart hoX hne5 0 _), hb7.setCell (Nat.le_refl _) _, Lib.hid (by have := hgX.size; rw [World.size_setCell]; omega)⟩
        case measure =>
          have := HJ.out
          simp [intOf]; omega
      have hE : n = j := by omega
      subst hE
      rename World => w8
      have hids : (idsN n).length = n := by rw [ids_row, List.length_map, row_len hn4]
      have HOI2 := HOI.out
      rw [List.take_of_length_le (by omega)] at HOI2
      obtain ⟨va, vc, hvf, _⟩ := HOI2.read.form
      rw [List.length_map, hids] at hvf
      subst hvf
      have HRI := Lib.hid HOI2.read
      have lR := HLR.out
      have HRK := Lib.hid (HR.out.below hbR)
      have HB2 := HB.trans (hbR.mono HB.size)
      have i1 : ¬ (n : Int) < (n : Int) := by omega
      have hmade := World.ownsMap_made w8 Tryz.prog 3 (plainElem (H := Unit) Tryz.prog 4)
      have hbM := (Below.refl w8.heap.size w8).alloc (Nat.le_refl _) (.map #[] 0)
      have hmk := run_makeMap (P := Tryz.prog) 52 w8
      obtain ⟨iG, hiG, hzG0, hzG1, hzG2⟩ := info_parts infoSig
      clear HOI HOI2 hbR HB HR HSZ hj hlt hids hL HLR
      go_upto_region 25 with fail
      have hbB : w8.heap.size + 1 ≤ (World.alloc w8 (.map #[] 0)).heap.size := hmade.lt
      generalize World.alloc w8 (.map #[] 0) = wm at *
      clear i1 hmk
      go_wp2
      go_loopw [19, 20, 21, 22, 23, 108] (fun v19 _ _ _ _ iv wx => ∃ (ns : List Nat) (D : DataW Unit), iv = .int .i64 (ns.length : Int) ∧ ns.length ≤ S.length ∧ ns.length ≤ 6 ∧ Hid (∀ y ∈ ns, y < 6) ∧ Hid (wx.ownsMap Tryz.prog 3 (plainElem (H := Unit) Tryz.prog 4) w8.heap.size ns.length D) ∧ Hid (Md n ns D) ∧ Hid (OwnL wx (w8.heap.size + 1) 46 2 v19 ((ns.map fun n => sigOf tx (sdB n)).map twoS)) ∧ Below w8.heap.size w8 wx ∧ Hid (w8.heap.size + 1 ≤ wx.heap.size)) (fun _ _ _ _ _ iv _ => S.length - (intOf iv).toNat)
      case atStart => exact ⟨[], .map [], rfl, Nat.zero_le _, Nat.zero_le _, Lib.hid (fun y hy => by cases hy), Lib.hid hmade, Lib.hid (Md.start n), Lib.hid (OwnL.nil _ _ _ _), hbM, Lib.hid hbB⟩
      case round =>
        clear hmade hbM hbB
        obtain ⟨ns, D, rfl, hS, h6, HNS, HM, HMD, HSG, hb, HSZ⟩ := hrel
        by_cases hlt : ns.length < S.length
        case pos =>
          obtain ⟨z, hz⟩ : ∃ z, S[ns.length]? = some z := ⟨_, List.getElem?_eq_getElem hlt⟩
          obtain ⟨bb, off, rfl, hr, _⟩ := (HSR.out _ (HB2.trans (hb.mono HB2.size))).at (i := ns.length) (cs := [.int .i64 z]) (by rw [List.getElem?_map, hz]; rfl)
          have q0 := hr 0 (.int .i64 z) rfl
          rw [Nat.mul_one, Nat.add_zero] at q0
          obtain ⟨rz, y, hz1, hz2, hz3, hz4, hy6⟩ := mod6 z
          have i1 : (ns.length : Int) < (S.length : Int) := by omega
          have i3 : (0 : Int) ≤ (ns.length : Int) := by omega
          by_cases h66 : ns.length < 6
          case pos =>
            have i6 : ¬ (6 : Int) ≤ (ns.length : Int) := by omega
            have HSd := Lib.hid (seed_any y (by omega))
            have HSn := Lib.hid (fun (w1 : World) (hb1 : Below W.heap.size W w1) => sign_one A (sdB y) tx rfl (by omega) w1 (HTT.out w1 hb1))
            have HY := Lib.hid hy6
            have HSN := Lib.hid (sigs_snoc tx ns y)
            have HJ := Lib.hid hlt
            have H66 := Lib.hid h66
            have HBx := HB2.trans (hb.mono HB2.size)
            have hbx := Below.refl wr.heap.size wr
            generalize sigOf tx (sdB y) = sg at *
            generalize sdB y = sd at *
            clear hz hr hlt h66 hS h6
            go_upto_region 31 with (first
              | (go_at_call 23; (with_reducible refine (HSd.out _).mono ?_); rintro e w1 ⟨rfl, hb1⟩; replace HBx := below_on HBx hb1; replace hbx := below_on hbx hb1; clear hb1)
              | (go_at_call 20; (with_reducible refine (HSn.out _ HBx).mono ?_); rintro e w2 ⟨⟨v2, rfl, hv2⟩, hb1⟩; replace HBx := below_on HBx hb1; replace hbx := below_on hbx hb1; clear hb1))
            obtain ⟨gs, cs, hvs⟩ := hv2.form
            subst hvs
            have hOs := HSG.out.on hbx
            have hM3 := map_on HM.out hbx
            have hb3 := hb.trans (hbx.mono hb.size)
            have hsz3 : w8.heap.size + 1 ≤ w2.heap.size := Nat.le_trans HSZ.out hbx.size
            have hrow := hv2.row
            have hone := twoS_ones sg
            have hlen : ((ns.map fun n => sigOf tx (sdB n)).map twoS).length = ns.length := by rw [List.length_map, List.length_map]
            generalize (ns.map fun n => sigOf tx (sdB n)).map twoS = LS at *
            have h63 : LS.length + ([twoS sg] : List (List Value)).length ≤ maxLen := by have := H66.out; rw [hlen]; unfold maxLen; simp only [List.length_singleton]; omega
            have h64 : (LS.length + ([twoS sg] : List (List Value)).length) * 32 ≤ 140737488355328 := by have := H66.out; rw [hlen]; simp only [List.length_singleton]; omega
            have HMX := Lib.hid (fun (wx : World) (hg : w2.grownBy wx u19.ownBlock) => hM3.kept hg (fun e => by (have := hOs.lt _ e.symm; omega)))
            have HBX := Lib.hid (fun (wx : World) (hg : w2.grownBy wx u19.ownBlock) => hb3.grown hg (by omega) (fun k hk => by (have := hOs.lt k hk; omega)))
            clear hv2 hlen hM3 hb3 HSG HM hbx hb HSZ HSd HSn HBx
            go_upto_region 34 with ((with_reducible refine V.wpL_appendL (w8.heap.size + 1) 46 iG (.agg #[.string ⟨#[]⟩, .string ⟨#[]⟩]) 2 32 Tryz.underlying26 hiG hzG0 hzG1 hzG2 rfl (by decide) _ LS hOs _ _ hrow hone h63 h64 hsz3 ?_ ?_ ?_); rfl; rfl; intro v5 w6 hoX hgX)
            have hMX := HMX.out _ hgX
            have hBX := HBX.out _ hgX
            have hszX : w8.heap.size + 1 ≤ w6.heap.size := Nat.le_trans hsz3 hgX.size
            clear hOs hrow hone h63 h64 hsz3 HMX HBX hgX
            have HO6 := Lib.hid hoX
            have HNS2 := Lib.hid (show ∀ x ∈ ns ++ [y], x < 6 from fun x hx => by
              rcases List.mem_append.1 hx with h | h
              · exact HNS.out x h
              · rw [List.mem_singleton.1 h]; exact HY.out)
            by_cases hyn : y < n
            · have j1 : (y : Int) < (n : Int) := by omega
              have hMD2 := fun d => HMD.out.put hn4 hyn hMX.isMap (hMX.tidy lawI) (lawI.key (keyI y (by omega))) d
              have HMD2 := Lib.hid hMD2
              have hkey := keyI y (by omega)
              have hjm : ns.length < maxLen := by have := H66.out; unfold maxLen; omega
              have hval := plainElem_bool (H := Unit) (P := Tryz.prog) Tryz.underlying4 true
              clear hyn hMD2 HMD
              go_wp2_with (at_mapUpdate; refine wpList_mapUpdate_own _ rfl _ _ _ 52 rfl 3 4 lawI Tryz.underlying52 (plainElem (H := Unit) Tryz.prog 4) w8.heap.size ns.length D rfl hMX hjm _ _ _ rfl rfl hkey _ [] hval ?_; intro w7 hown7 hgrow7)
              go_roundw
              case rel =>
                refine ⟨ns ++ [y], _, by rw [List.length_append, List.length_singleton]; go_num, by have := HJ.out; rw [List.length_append, List.length_singleton]; omega, by have := H66.out; rw [List.length_append, List.length_singleton]; omega, HNS2, Lib.hid (by rw [List.length_append, List.length_singleton]; exact hown7), Lib.hid (HMD2.out _), Lib.hid ?_, hBX.grown hgrow7 (by omega) (fun k hk => by injection hk with hk; omega), Lib.hid (Nat.le_trans hszX hgrow7.size)⟩
                rw [← HSN.out]
                exact own_kept HO6.out hgrow7 (fun e => by (have := HO6.out.lt _ e; omega))
              case measure =>
                have := HJ.out
                simp [intOf]; omega
            · have j1 : ¬ (y : Int) < (n : Int) := by omega
              have HMD2 := Lib.hid (HMD.out.other hn4 (show n ≤ y by omega))
              clear hyn HMD
              go_wp2
              go_roundw
              case rel => exact ⟨ns ++ [y], _, by rw [List.length_append, List.length_singleton]; go_num, by have := HJ.out; rw [List.length_append, List.length_singleton]; omega, by have := H66.out; rw [List.length_append, List.length_singleton]; omega, HNS2, Lib.hid (map_weak hMX (by rw [List.length_append]; omega)), HMD2, Lib.hid (by rw [← HSN.out]; exact HO6.out), hBX, Lib.hid hszX⟩
              case measure =>
                have := HJ.out
                simp [intOf]; omega
          have i6 : (6 : Int) ≤ (ns.length : Int) := by omega
          clear hz hr hlt h66
          have lR2 := lR.below hb lR.lt
          have hMs := HMD.out.size
          have hM := HM.out
          have hSl : (ns.map fun n => sigOf tx (sdB n)).length = ns.length := List.length_map _
          have hIl : (idsN n).length = n := by rw [ids_row, List.length_map, row_len hn4]
          have hKl : (rowN n).length = n := row_len hn4
          have hMay : mayR (idsN n) (1 + (p : Int)) (rowN n) (ns.map fun n => sigOf tx (sdB n)) = true := by
            unfold mayR
            rw [ids_right hn4 (by have := HPN.out; omega), row_keys hn4, hSl, decide_eq_true (show ns.length ≤ 16 by omega)]
            rfl
          have hCn : (countR (idsN n) (rowN n) tx (ns.map fun n => sigOf tx (sdB n))).length = cntN n ns := by
            rw [count_is hn4 tx HNS.out, List.length_map]
            rfl
          obtain ⟨ga, cc, hvf, _⟩ := HSG.out.read.form
          rw [List.length_map, hSl] at hvf
          subst hvf
          have hrw : Rows4 wr va vc (some ⟨g, 0, none⟩) c ga cc (idsN n) (rowN n) (ns.map fun n => sigOf tx (sdB n)) := ⟨by rw [hIl]; exact HRI.out.below hb, by rw [hKl]; exact HRK.out.below hb, by rw [hSl]; exact HSG.out.read⟩
          have HBe := HB2.trans (hb.mono HB2.size)
          have HCt := fun (w : World) (h : Rows4 w va vc (some ⟨g, 0, none⟩) c ga cc (idsN n) (rowN n) (ns.map fun n => sigOf tx (sdB n))) (hb : Below W.heap.size W w) => count_any A va (some ⟨g, 0, none⟩) ga vc c cc (idsN n) (1 + (p : Int)) (rowN n) tx (ns.map fun n => sigOf tx (sdB n)) w h (by omega) (HTT.out w hb)
          have HCk := fun (w : World) (h : Rows4 w va vc (some ⟨g, 0, none⟩) c ga cc (idsN n) (rowN n) (ns.map fun n => sigOf tx (sdB n))) (hb : Below W.heap.size W w) => check_any A va (some ⟨g, 0, none⟩) ga vc c cc (idsN n) (1 + (p : Int)) (rowN n) tx (ns.map fun n => sigOf tx (sdB n)) w h (by omega) (HTT.out w hb)
          have HAl := Lib.hid (fun (w : World) (hb : Below W.heap.size W w) => alive_any A w (HTT.out w hb))
          simp only [counts_true hMay, hCn] at HCk
          unfold CountPost at HCt
          simp only [hIl, hKl, hSl] at HCt HCk
          have HMay := Lib.hid hMay
          have HCn := Lib.hid hCn
          clear hMay hCn hSl hIl hKl HSG HRI HRK HMD HM HNS HSZ HB2
          generalize (ns.map fun n => sigOf tx (sdB n)) = SS at *
          generalize idsN n = I at *
          generalize rowN n = KK at *
          generalize cntN n ns = cn at *
          generalize countR I KK tx SS = CL at *
          have HCt2 := Lib.hid HCt
          clear HCt hb
          by_cases hcn : (cn : Int) < 1 + (p : Int)
          all_goals
            first | rw [if_pos hcn] at HCk | rw [if_neg hcn] at HCk
          all_goals
            replace HCk := Lib.hid HCk
            go_upto_region 39 with (first
              | ((with_reducible refine V.wpL_load w5.heap.size 24 #[.slice va n vc, .int .i64 (1 + (p : Int))] 2 rowRole rfl lR2 ?_ ?_); rfl)
              | (go_at_call 9; (with_reducible refine (HCt2.out _ hrw HBe).mono ?_); rintro e x1 (⟨hno, _⟩ | ⟨_, v, rfl, hO, hbN⟩); (exact absurd (HMay.out.symm.trans hno) (by simp)); replace lR2 := lR2.on hbN; replace hrw := hrw.on hbN; replace HBe := below_on HBe hbN; replace hM := map_on hM hbN; clear hbN; obtain ⟨la, lc, hvL, _⟩ := hO.read.form; rw [List.length_map, HCn.out] at hvL; subst hvL)
              | (go_at_call 10; (with_reducible refine (HCk.out _ hrw HBe).mono ?_); rintro e x2 ⟨rfl, hbN⟩; replace HBe := below_on HBe hbN; replace hM := map_on hM hbN; clear hbN))
            clear hrw lR2 HCk HCt2 hO
            have j5 : decide ((cn : Int) < 1 + (p : Int)) = !(decide (1 + (p : Int) ≤ (cn : Int))) := by
              by_cases h : (cn : Int) < 1 + (p : Int)
              · rw [decide_eq_true h, decide_eq_false (by omega)]; rfl
              · rw [decide_eq_false h, decide_eq_true (show 1 + (p : Int) ≤ (cn : Int) by omega)]; rfl
            first
              | (have j6 : ¬ (1 + (p : Int) ≤ (cn : Int)) := by omega)
              | (have j6 : 1 + (p : Int) ≤ (cn : Int) := by omega)
            clear j5
            go_wp2_with (go_at_call 17; (with_reducible refine (HAl.out _ HBe).mono ?_); rintro e x3 ⟨rfl, hbN⟩; replace HBe := below_on HBe hbN; replace hM := map_on hM hbN; clear hbN; have hl := hM.len (t := 52) Tryz.underlying52 3; rw [hMs] at hl)
            go_ret
            exact ⟨by simp; omega, HBe⟩
        have i1 : ¬ (ns.length : Int) < (S.length : Int) := by omega
        clear hlt
        have lR2 := lR.below hb lR.lt
        have hMs := HMD.out.size
        have hM := HM.out
        have hSl : (ns.map fun n => sigOf tx (sdB n)).length = ns.length := List.length_map _
        have hIl : (idsN n).length = n := by rw [ids_row, List.length_map, row_len hn4]
        have hKl : (rowN n).length = n := row_len hn4
        have hMay : mayR (idsN n) (1 + (p : Int)) (rowN n) (ns.map fun n => sigOf tx (sdB n)) = true := by
          unfold mayR
          rw [ids_right hn4 (by have := HPN.out; omega), row_keys hn4, hSl, decide_eq_true (show ns.length ≤ 16 by omega)]
          rfl
        have hCn : (countR (idsN n) (rowN n) tx (ns.map fun n => sigOf tx (sdB n))).length = cntN n ns := by
          rw [count_is hn4 tx HNS.out, List.length_map]
          rfl
        obtain ⟨ga, cc, hvf, _⟩ := HSG.out.read.form
        rw [List.length_map, hSl] at hvf
        subst hvf
        have hrw : Rows4 wr va vc (some ⟨g, 0, none⟩) c ga cc (idsN n) (rowN n) (ns.map fun n => sigOf tx (sdB n)) := ⟨by rw [hIl]; exact HRI.out.below hb, by rw [hKl]; exact HRK.out.below hb, by rw [hSl]; exact HSG.out.read⟩
        have HBe := HB2.trans (hb.mono HB2.size)
        have HCt := fun (w : World) (h : Rows4 w va vc (some ⟨g, 0, none⟩) c ga cc (idsN n) (rowN n) (ns.map fun n => sigOf tx (sdB n))) (hb : Below W.heap.size W w) => count_any A va (some ⟨g, 0, none⟩) ga vc c cc (idsN n) (1 + (p : Int)) (rowN n) tx (ns.map fun n => sigOf tx (sdB n)) w h (by omega) (HTT.out w hb)
        have HCk := fun (w : World) (h : Rows4 w va vc (some ⟨g, 0, none⟩) c ga cc (idsN n) (rowN n) (ns.map fun n => sigOf tx (sdB n))) (hb : Below W.heap.size W w) => check_any A va (some ⟨g, 0, none⟩) ga vc c cc (idsN n) (1 + (p : Int)) (rowN n) tx (ns.map fun n => sigOf tx (sdB n)) w h (by omega) (HTT.out w hb)
        have HAl := Lib.hid (fun (w : World) (hb : Below W.heap.size W w) => alive_any A w (HTT.out w hb))
        simp only [counts_true hMay, hCn] at HCk
        unfold CountPost at HCt
        simp only [hIl, hKl, hSl] at HCt HCk
        have HMay := Lib.hid hMay
        have HCn := Lib.hid hCn
        clear hMay hCn hSl hIl hKl HSG HRI HRK HMD HM HNS HSZ HB2
        generalize (ns.map fun n => sigOf tx (sdB n)) = SS at *
        generalize idsN n = I at *
        generalize rowN n = KK at *
        generalize cntN n ns = cn at *
        generalize countR I KK tx SS = CL at *
        have HCt2 := Lib.hid HCt
        clear HCt hb
        by_cases hcn : (cn : Int) < 1 + (p : Int)
        all_goals
          first | rw [if_pos hcn] at HCk | rw [if_neg hcn] at HCk
        all_goals
          replace HCk := Lib.hid HCk
          go_upto_region 39 with (first
            | ((with_reducible refine V.wpL_load w5.heap.size 24 #[.slice va n vc, .int .i64 (1 + (p : Int))] 2 rowRole rfl lR2 ?_ ?_); rfl)
            | (go_at_call 9; (with_reducible refine (HCt2.out _ hrw HBe).mono ?_); rintro e x1 (⟨hno, _⟩ | ⟨_, v, rfl, hO, hbN⟩); (exact absurd (HMay.out.symm.trans hno) (by simp)); replace lR2 := lR2.on hbN; replace hrw := hrw.on hbN; replace HBe := below_on HBe hbN; replace hM := map_on hM hbN; clear hbN; obtain ⟨la, lc, hvL, _⟩ := hO.read.form; rw [List.length_map, HCn.out] at hvL; subst hvL)
            | (go_at_call 10; (with_reducible refine (HCk.out _ hrw HBe).mono ?_); rintro e x2 ⟨rfl, hbN⟩; replace HBe := below_on HBe hbN; replace hM := map_on hM hbN; clear hbN))
          clear hrw lR2 HCk HCt2 hO
          have j5 : decide ((cn : Int) < 1 + (p : Int)) = !(decide (1 + (p : Int) ≤ (cn : Int))) := by
            by_cases h : (cn : Int) < 1 + (p : Int)
            · rw [decide_eq_true h, decide_eq_false (by omega)]; rfl
            · rw [decide_eq_false h, decide_eq_true (show 1 + (p : Int) ≤ (cn : Int) by omega)]; rfl
          first
            | (have j6 : ¬ (1 + (p : Int) ≤ (cn : Int)) := by omega)
            | (have j6 : 1 + (p : Int) ≤ (cn : Int) := by omega)
          clear j5
          go_wp2_with (go_at_call 17; (with_reducible refine (HAl.out _ HBe).mono ?_); rintro e x3 ⟨rfl, hbN⟩; replace HBe := below_on HBe hbN; replace hM := map_on hM hbN; clear hbN; have hl := hM.len (t := 52) Tryz.underlying52 3; rw [hMs] at hl)
          go_ret
          exact ⟨by simp; omega, HBe⟩
end Go.Proofs.YteecbglmohhaeaaGreatDoor.O
