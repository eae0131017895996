/- The walk of the statement that the first signature of a key counts: whatever texts, it answers true. -/
import Derived.Test.YteecbglmohhaeaaGreatDoorK16
namespace Go.Proofs.YteecbglmohhaeaaGreatDoor.O
open Go.RowKit Go.Sort Go.Proofs.YteecbglmohhaeaaGreatDoor.E
open C (Pts)
open V (Lies OwnL RowL reg lessL bytesLess_is)
set_option maxRecDepth 100000

theorem row_two (w : World) (e : TypeId) (k : Nat) (cs cs' : List Value) (hk : cs.length = k) (hk' : cs'.length = k) : RowL (w.alloc (.cells (cs ++ cs').toArray e)) k (.slice (some ⟨w.heap.size, 0, none⟩) 2 2) [cs, cs'] := by
  refine ⟨fun c h => ?_, some ⟨w.heap.size, 0, none⟩, 2, rfl, Nat.le_refl _, by decide, (fun e => by cases e), fun _ => ⟨w.heap.size, 0, rfl, fun i c hi j u hu => ?_⟩⟩
  · rcases List.mem_cons.1 h with rfl | h
    · exact hk
    · rw [List.mem_singleton.1 h]; exact hk'
  · have hl := fun i => (Lies.new w e (cs ++ cs').toArray).cell i
    rw [hl]
    rcases i with _ | _ | i
    · simp at hi
      subst hi
      have := (List.getElem?_eq_some_iff.1 hu).1
      simp only [Nat.zero_mul, Nat.zero_add, List.getElem?_toArray]
      rw [List.getElem?_append_left this]
      exact hu
    · simp at hi
      subst hi
      simp only [List.getElem?_toArray, Nat.zero_add, Nat.one_mul]
      rw [List.getElem?_append_right (by omega), show k + j - cs.length = j by omega]
      exact hu
    · simp at hi
theorem One.cells {w : World} {g c : Nat} {s : B2} (h : One w (.slice (some ⟨g, 0, none⟩) 1 c) s) : w.rangeAt g 0 (twoS s) := by
  obtain ⟨b, off, he, hr, _⟩ := h.row.at (i := 0) (cs := twoS s) rfl
  injection he with he
  injection he with e1 e2
  subst e1 e2
  simpa using hr
theorem seed_one (w : World) : Calls Tryz.prog 23 #[.int .i64 1] w fun e w' => e = .returned (.string (sdB 1)) ∧ Below w.heap.size w w' := seed_any 1 (by decide) w
/-- what a role of one comes to, as the program hands it on -/
theorem check_two (A : Pts EdTab) (p text : ByteArray) (s1 s2 : ByteArray) (hp : p.size = 32) (hm : text.size ≤ 1000) (W : World) (hT : RTab W) (R : Int) (hR : (if verifyE p text s1 = 0 then 0 else 31 : Int) = R) (w1 : World) (av kv sv : Option Addr) (ac kc sc : Nat) (hb : Below W.heap.size W w1) (h1 : RowL w1 1 (.slice av 1 ac) [oneS (idT p)]) (h2 : RowL w1 2 (.slice kv 1 kc) [twoS (idT p, p)]) (h3 : RowL w1 2 (.slice sv 2 sc) [twoS (idT p, s1), twoS (idT p, s2)]) :
    Calls Tryz.prog 10 #[.agg #[.slice av 1 ac, .int .i64 1], .slice kv 1 kc, .string text, .slice sv 2 sc] w1 fun e w' => e = .returned (.int .i64 R) ∧ Below w1.heap.size w1 w' := by
  have h := check_any A av kv sv ac kc sc [idT p] 1 [(idT p, p)] text [(idT p, s1), (idT p, s2)] w1 ⟨h1, h2, h3⟩ hm (hT.on hb)
  rwa [check_one p text s1 [(idT p, s2)] hp (by simp), hR] at h
set_option maxHeartbeats 12800000 in
theorem firstO_walk (A : Pts EdTab) (text other : ByteArray) (wrong : Bool) (W : World) (hT : RTab W) :
    Calls Tryz.prog 7 #[.string text, .string other, .bool wrong] W fun e w' => e = .returned (.bool true) ∧ Below W.heap.size W w' := by
  have hts := cut_le text 100
  have hto := cut_le other 100
  have hq1 : (0 : Int) ≤ min (text.size : Int) 100 := by omega
  have hq2 : min (text.size : Int) 100 ≤ (text.size : Int) := by omega
  have hq3 : (0 : Int) ≤ min (other.size : Int) 100 := by omega
  have hq4 : min (other.size : Int) 100 ≤ (other.size : Int) := by omega
  go_enter Tryz.func7, Tryz.ntmps7
  go_upto_region 1 with fail
  refine wp_region_quiet_below (by kernel_rfl) (by kernel_rfl) ?_
  repeat (go_big_quiet_step (fail))
  refine wpQuiet_nil ?_
  intro _ hw'
  obtain ⟨⟨dq, osq⟩, hw''⟩ := hw'
  subst hw''
  have HB := below_regrown W dq osq
  generalize grow (redrawn W dq) osq = w0 at *
  generalize text.extract 0 (min (text.size : Int) 100).toNat = tx at *
  generalize other.extract 0 (min (other.size : Int) 100).toNat = ot at *
  clear hq1 hq2 hq3 hq4
  have HTT := Lib.hid (fun (w1 : World) (hb : Below W.heap.size W w1) => hT.on hb)
  have HA := Lib.hid (fun (w1 : World) (hb : Below W.heap.size W w1) => alive_any A w1 (HTT.out w1 hb))
  by_cases heq : tx = ot
  · subst heq
    clear hts hto
    go_wp2_with (go_at_call 17; (with_reducible refine (HA.out _ HB).mono ?_); rintro e w2 ⟨rfl, hb2⟩)
    go_ret
    exact ⟨rfl, below_on HB hb2⟩
  have hne : (tx.toList == ot.toList) = false := by rw [Lib.toList_data, Lib.toList_data, eq_is, decide_eq_false heq]
  clear heq
  have HP := Lib.hid (fun (w1 : World) (hb : Below W.heap.size W w1) => public_good A (sdB 1) rfl w1 (HTT.out w1 hb).e.1)
  have HS0 := Lib.hid (fun (w1 : World) (hb : Below W.heap.size W w1) => sign_one A (sdB 1) tx rfl (by omega) w1 (HTT.out w1 hb))
  have HS1 := Lib.hid (fun (w1 : World) (hb : Below W.heap.size W w1) => sign_one A (sdB 1) ot rfl (by omega) w1 (HTT.out w1 hb))
  have hsz : (keyT (sdB 1).data.toList).size = 32 := C.text_size _
  have HI := Lib.hid (fun (w1 : World) (hb : Below W.heap.size W w1) => id_any (keyT (sdB 1).data.toList) w1 (by omega) (HTT.out w1 hb).u)
  have hvo := verify_own (sdB 1) tx
  have HV := Lib.hid (fun (w1 : World) (hb : Below W.heap.size W w1) => verify_any A (keyT (sdB 1).data.toList) tx (seedT (sdB 1) ot) (by omega) w1 (HTT.out w1 hb).e)
  have HC0 := Lib.hid (check_two A (keyT (sdB 1).data.toList) tx (seedT (sdB 1) tx) (seedT (sdB 1) ot) hsz (by omega) W hT 0 (by rw [hvo, if_pos rfl]))
  have HC1 := Lib.hid (check_two A (keyT (sdB 1).data.toList) tx (seedT (sdB 1) ot) (seedT (sdB 1) tx) hsz (by omega) W hT (if verifyE (keyT (sdB 1).data.toList) tx (seedT (sdB 1) ot) = 0 then 0 else 31) rfl)
  have HSd := Lib.hid seed_one
  rw [show sigOf tx (sdB 1) = (idT (keyT (sdB 1).data.toList), seedT (sdB 1) tx) from rfl] at HS0
  rw [show sigOf ot (sdB 1) = (idT (keyT (sdB 1).data.toList), seedT (sdB 1) ot) from rfl] at HS1
  clear hvo hsz hT hts hto
  generalize verifyE (keyT (sdB 1).data.toList) tx (seedT (sdB 1) ot) = V0 at *
  generalize seedT (sdB 1) tx = sa at *
  generalize seedT (sdB 1) ot = sb at *
  generalize keyT (sdB 1).data.toList = k at *
  generalize idT k = id at *
  generalize sdB 1 = sd at *
  go_upto_region 5 with (first
    | (go_at_call 23; (with_reducible refine (HSd.out _).mono ?_); rintro e w1 ⟨rfl, hb⟩; replace HB := below_on HB hb; clear hb)
    | (go_at_call 21; (with_reducible refine (HP.out _ HB).mono ?_); rintro e w2 ⟨rfl, hb⟩; replace HB := below_on HB hb; clear hb))
  go_upto_region 6 with (first
    | (go_at_call 23; (with_reducible refine (HSd.out _).mono ?_); rintro e w3 ⟨rfl, hb⟩; replace HB := below_on HB hb; clear hb)
    | (go_at_call 20; (with_reducible refine (HS0.out _ HB).mono ?_); rintro e w4 ⟨⟨v, rfl, hva⟩, hb⟩; replace HB := below_on HB hb; clear hb))
  obtain ⟨ga, ca, rfl⟩ := hva.form
  go_upto_region 7 with (first
    | (go_at_call 23; (with_reducible refine (HSd.out _).mono ?_); rintro e w5 ⟨rfl, hb⟩; replace HB := below_on HB hb; replace hva := hva.on hb; clear hb)
    | (go_at_call 20; (with_reducible refine (HS1.out _ HB).mono ?_); rintro e w6 ⟨⟨v, rfl, hvb⟩, hb⟩; replace HB := below_on HB hb; replace hva := hva.on hb; clear hb))
  obtain ⟨gb, cb, rfl⟩ := hvb.form
  go_upto_region 9 with (go_at_call 17; (with_reducible refine (HA.out _ HB).mono ?_); rintro e w7 ⟨rfl, hb⟩; replace HB := below_on HB hb; replace hva := hva.on hb; replace hvb := hvb.on hb; clear hb)
  have hrg : w7.rangeAt ga 0 [.string id, .string sa] ∧ w7.rangeAt gb 0 [.string id, .string sb] := ⟨hva.cells, hvb.cells⟩
  clear hva hvb HA HS0 HS1 HP HSd
  refine V.wp_held_any (S := fun w' => w'.rangeAt ga 0 [.string id, .string sa] ∧ w'.rangeAt gb 0 [.string id, .string sb]) 8 rfl (by kernel_rfl) ?_
  have hbD : Below w7.heap.size w7 { w7 with drawn := w7.drawn + 1 } := (Below.refl _ _).drew
  replace hrg := And.intro (V.range_below hbD hrg.1) (V.range_below hbD hrg.2)
  replace HB := below_on HB hbD
  clear hbD
  generalize ({ w7 with drawn := w7.drawn + 1 } : World) = w7d at *
  refine V.held_put 0 74 (.slice (some ⟨ga, 0, none⟩) 1 ca) rfl rfl (by kernel_rfl) (by kernel_rfl) (by kernel_rfl) (by kernel_rfl) (fun w hS => rfl) hrg ?_
  simp only [List.setIfInBounds_toArray, List.set_cons_succ, List.set_cons_zero]
  refine V.held_put 1 75 (.pointer (some ⟨ga, 0, none⟩)) rfl rfl (by kernel_rfl) (by kernel_rfl) (by kernel_rfl) (by kernel_rfl) (fun w hS => run_idxM _ _ 2 Tryz.underlying26 Tryz.sizeOf46 ga 0 1 ca 0 (by decide) rfl rfl w) hrg ?_
  simp only [List.setIfInBounds_toArray, List.set_cons_succ, List.set_cons_zero]
  refine V.held_put 2 76 (.agg #[.string id, .string sa]) rfl rfl (by kernel_rfl) (by kernel_rfl) (by kernel_rfl) (by kernel_rfl) (fun w hS => run_ldM _ ga 0 _ 2 rowSig rfl hS.1 rfl) hrg ?_
  simp only [List.setIfInBounds_toArray, List.set_cons_succ, List.set_cons_zero]
  refine V.held_put 3 77 (.slice (some ⟨gb, 0, none⟩) 1 cb) rfl rfl (by kernel_rfl) (by kernel_rfl) (by kernel_rfl) (by kernel_rfl) (fun w hS => rfl) hrg ?_
  simp only [List.setIfInBounds_toArray, List.set_cons_succ, List.set_cons_zero]
  refine V.held_put 4 78 (.pointer (some ⟨gb, 0, none⟩)) rfl rfl (by kernel_rfl) (by kernel_rfl) (by kernel_rfl) (by kernel_rfl) (fun w hS => run_idxM _ _ 2 Tryz.underlying26 Tryz.sizeOf46 gb 0 1 cb 0 (by decide) rfl rfl w) hrg ?_
  simp only [List.setIfInBounds_toArray, List.set_cons_succ, List.set_cons_zero]
  refine V.held_put 5 79 (.agg #[.string id, .string sb]) rfl rfl (by kernel_rfl) (by kernel_rfl) (by kernel_rfl) (by kernel_rfl) (fun w hS => run_ldM _ gb 0 _ 2 rowSig rfl hS.2 rfl) hrg ?_
  simp only [List.setIfInBounds_toArray, List.set_cons_succ, List.set_cons_zero]
  have hbN := (Below.refl w7d.heap.size w7d).alloc (Nat.le_refl _) (.cells #[.string id, .string sa, .string id, .string sb] 46)
  have hsg : RowL (w7d.alloc (.cells #[.string id, .string sa, .string id, .string sb] 46)) 2 (.slice (some ⟨w7d.heap.size, 0, none⟩) 2 2) [twoS (id, sa), twoS (id, sb)] := row_two w7d 46 2 [.string id, .string sa] [.string id, .string sb] rfl rfl
  refine V.held_one 6 (by kernel_rfl) (V.wpOp_put 80 (w' := w7d.alloc (.cells #[.string id, .string sa, .string id, .string sb] 46)) (v := (.slice (some ⟨w7d.heap.size, 0, none⟩) 2 2)) rfl rfl (by kernel_rfl) (by kernel_rfl) ⟨⟨V.range_below hbN hrg.1, V.range_below hbN hrg.2⟩, ?_⟩)
  simp only [List.setIfInBounds_toArray, List.set_cons_succ, List.set_cons_zero]
  replace hrg := And.intro (V.range_below hbN hrg.1) (V.range_below hbN hrg.2)
  replace HB := below_on HB hbN
  clear hbN
  obtain ⟨wm1g, hgg⟩ : ∃ g, w7d.heap.size = g := ⟨_, rfl⟩
  generalize w7d.alloc (.cells #[.string id, .string sa, .string id, .string sb] 46) = wm1 at *
  replace hsg : RowL wm1 2 (.slice (some ⟨w7d.heap.size, 0, none⟩) 2 2) [twoS (id, sa), twoS (id, sb)] := hsg
  clear hgg
  refine V.held_put 7 13 (.slice (some ⟨w7d.heap.size, 0, none⟩) 2 2) rfl rfl (by kernel_rfl) (by kernel_rfl) (by kernel_rfl) (by kernel_rfl) (fun w hS => rfl) hrg ?_
  simp only [List.setIfInBounds_toArray, List.set_cons_succ, List.set_cons_zero]
  refine V.held_done (by kernel_rfl) ?_
  simp only [Exit.then]
  cases wrong with
  | false =>
    go_upto_region 13 with (go_at_call 15; (with_reducible refine (HI.out _ HB).mono ?_); rintro e w8 ⟨rfl, hb⟩; replace HB := below_on HB hb; replace hrg := And.intro (V.range_below hb hrg.1) (V.range_below hb hrg.2); replace hsg := hsg.below hb; clear hb)
    go_upto_region 14 with fail
    have hbA := ((Below.refl w8.heap.size w8).alloc (Nat.le_refl _) (.cells #[.string id] 9)).alloc (by simp) (.cells #[.slice (some ⟨w8.heap.size, 0, none⟩) 1 1, .int .i64 1] 24)
    have lR : Lies ((w8.alloc (.cells #[.string id] 9)).alloc (.cells #[.slice (some ⟨w8.heap.size, 0, none⟩) 1 1, .int .i64 1] 24)) (w8.heap.size + 1) 24 #[.slice (some ⟨w8.heap.size, 0, none⟩) 1 1, .int .i64 1] := by
      have h := Lies.new (w8.alloc (.cells #[.string id] 9)) 24 #[.slice (some ⟨w8.heap.size, 0, none⟩) 1 1, .int .i64 1]
      rwa [World.size_alloc] at h
    have hrow : RowL ((w8.alloc (.cells #[.string id] 9)).alloc (.cells #[.slice (some ⟨w8.heap.size, 0, none⟩) 1 1, .int .i64 1] 24)) 1 (.slice (some ⟨w8.heap.size, 0, none⟩) 1 1) [oneS id] := (RowL.lit w8 9 1 [.string id] rfl).below ((Below.refl _ _).alloc (Nat.le_refl _) _)
    replace HB := below_on HB hbA
    replace hsg := hsg.below hbA
    have hrgb := V.range_below hbA hrg.2
    clear hbA hrg
    generalize (w8.alloc (.cells #[.string id] 9)).alloc (.cells #[.slice (some ⟨w8.heap.size, 0, none⟩) 1 1, .int .i64 1] 24) = w9 at *
    generalize w8.heap.size = g8 at *
    generalize g8 + 1 = gr at *
    have HL := fun (w : World) => RowL.lit w 51 2 [.string id, .string k] rfl
    have HBA := fun (w : World) (hb : Below W.heap.size W w) => below_on hb ((Below.refl w.heap.size w).alloc (Nat.le_refl _) (.cells #[.string id, .string k] 51))
    have HRA := fun (w : World) (h : RowL w 1 (.slice (some ⟨g8, 0, none⟩) 1 1) [oneS id]) => h.below ((Below.refl w.heap.size w).alloc (Nat.le_refl _) (.cells #[.string id, .string k] 51))
    have HGA := fun (w : World) (v : Value) (l : List (List Value)) (h : RowL w 2 v l) => h.below ((Below.refl w.heap.size w).alloc (Nat.le_refl _) (.cells #[.string id, .string k] 51))
    go_wp2_with (first
      | ((with_reducible refine V.wpL_load gr 24 #[.slice (some ⟨g8, 0, none⟩) 1 1, .int .i64 1] 2 rowRole rfl lR ?_ ?_); rfl)
      | (go_at_call 10; (with_reducible refine (HC0.out _ _ _ _ _ _ _ (HBA _ HB) (HRA _ hrow) (HL _) (HGA _ _ _ hsg)).mono ?_); rintro e w11 ⟨rfl, hb⟩))
    go_ret
    exact ⟨rfl, below_on (HBA _ HB) hb⟩
  | true =>
    go_upto_region 11 with fail
    clear hsg
    refine V.wp_held_any (S := fun w' => w'.rangeAt ga 0 [.string id, .string sa] ∧ w'.rangeAt gb 0 [.string id, .string sb]) 8 rfl (by kernel_rfl) ?_
    have hbD : Below wm1.heap.size wm1 { wm1 with drawn := wm1.drawn + 1 } := (Below.refl _ _).drew
    replace hrg := And.intro (V.range_below hbD hrg.1) (V.range_below hbD hrg.2)
    replace HB := below_on HB hbD
    clear hbD
    generalize ({ wm1 with drawn := wm1.drawn + 1 } : World) = wm1d at *
    refine V.held_put 0 82 (.slice (some ⟨gb, 0, none⟩) 1 cb) rfl rfl (by kernel_rfl) (by kernel_rfl) (by kernel_rfl) (by kernel_rfl) (fun w hS => rfl) hrg ?_
    simp only [List.setIfInBounds_toArray, List.set_cons_succ, List.set_cons_zero]
    refine V.held_put 1 83 (.pointer (some ⟨gb, 0, none⟩)) rfl rfl (by kernel_rfl) (by kernel_rfl) (by kernel_rfl) (by kernel_rfl) (fun w hS => run_idxM _ _ 2 Tryz.underlying26 Tryz.sizeOf46 gb 0 1 cb 0 (by decide) rfl rfl w) hrg ?_
    simp only [List.setIfInBounds_toArray, List.set_cons_succ, List.set_cons_zero]
    refine V.held_put 2 84 (.agg #[.string id, .string sb]) rfl rfl (by kernel_rfl) (by kernel_rfl) (by kernel_rfl) (by kernel_rfl) (fun w hS => run_ldM _ gb 0 _ 2 rowSig rfl hS.2 rfl) hrg ?_
    simp only [List.setIfInBounds_toArray, List.set_cons_succ, List.set_cons_zero]
    refine V.held_put 3 85 (.slice (some ⟨ga, 0, none⟩) 1 ca) rfl rfl (by kernel_rfl) (by kernel_rfl) (by kernel_rfl) (by kernel_rfl) (fun w hS => rfl) hrg ?_
    simp only [List.setIfInBounds_toArray, List.set_cons_succ, List.set_cons_zero]
    refine V.held_put 4 86 (.pointer (some ⟨ga, 0, none⟩)) rfl rfl (by kernel_rfl) (by kernel_rfl) (by kernel_rfl) (by kernel_rfl) (fun w hS => run_idxM _ _ 2 Tryz.underlying26 Tryz.sizeOf46 ga 0 1 ca 0 (by decide) rfl rfl w) hrg ?_
    simp only [List.setIfInBounds_toArray, List.set_cons_succ, List.set_cons_zero]
    refine V.held_put 5 87 (.agg #[.string id, .string sa]) rfl rfl (by kernel_rfl) (by kernel_rfl) (by kernel_rfl) (by kernel_rfl) (fun w hS => run_ldM _ ga 0 _ 2 rowSig rfl hS.1 rfl) hrg ?_
    simp only [List.setIfInBounds_toArray, List.set_cons_succ, List.set_cons_zero]
    have hbN := (Below.refl wm1d.heap.size wm1d).alloc (Nat.le_refl _) (.cells #[.string id, .string sb, .string id, .string sa] 46)
    have hsg : RowL (wm1d.alloc (.cells #[.string id, .string sb, .string id, .string sa] 46)) 2 (.slice (some ⟨wm1d.heap.size, 0, none⟩) 2 2) [twoS (id, sb), twoS (id, sa)] := row_two wm1d 46 2 [.string id, .string sb] [.string id, .string sa] rfl rfl
    refine V.held_one 6 (by kernel_rfl) (V.wpOp_put 88 (w' := wm1d.alloc (.cells #[.string id, .string sb, .string id, .string sa] 46)) (v := (.slice (some ⟨wm1d.heap.size, 0, none⟩) 2 2)) rfl rfl (by kernel_rfl) (by kernel_rfl) ⟨⟨V.range_below hbN hrg.1, V.range_below hbN hrg.2⟩, ?_⟩)
    simp only [List.setIfInBounds_toArray, List.set_cons_succ, List.set_cons_zero]
    replace hrg := And.intro (V.range_below hbN hrg.1) (V.range_below hbN hrg.2)
    replace HB := below_on HB hbN
    clear hbN
    obtain ⟨wn1g, hgg⟩ : ∃ g, wm1d.heap.size = g := ⟨_, rfl⟩
    generalize wm1d.alloc (.cells #[.string id, .string sb, .string id, .string sa] 46) = wn1 at *
    replace hsg : RowL wn1 2 (.slice (some ⟨wm1d.heap.size, 0, none⟩) 2 2) [twoS (id, sb), twoS (id, sa)] := hsg
    clear hgg
    refine V.held_put 7 13 (.slice (some ⟨wm1d.heap.size, 0, none⟩) 2 2) rfl rfl (by kernel_rfl) (by kernel_rfl) (by kernel_rfl) (by kernel_rfl) (fun w hS => rfl) hrg ?_
    simp only [List.setIfInBounds_toArray, List.set_cons_succ, List.set_cons_zero]
    refine V.held_done (by kernel_rfl) ?_
    simp only [Exit.then]
    go_upto_region 13 with (go_at_call 15; (with_reducible refine (HI.out _ HB).mono ?_); rintro e w8 ⟨rfl, hb⟩; replace HB := below_on HB hb; replace hrg := And.intro (V.range_below hb hrg.1) (V.range_below hb hrg.2); replace hsg := hsg.below hb; clear hb)
    go_upto_region 14 with fail
    have hbA := ((Below.refl w8.heap.size w8).alloc (Nat.le_refl _) (.cells #[.string id] 9)).alloc (by simp) (.cells #[.slice (some ⟨w8.heap.size, 0, none⟩) 1 1, .int .i64 1] 24)
    have lR : Lies ((w8.alloc (.cells #[.string id] 9)).alloc (.cells #[.slice (some ⟨w8.heap.size, 0, none⟩) 1 1, .int .i64 1] 24)) (w8.heap.size + 1) 24 #[.slice (some ⟨w8.heap.size, 0, none⟩) 1 1, .int .i64 1] := by
      have h := Lies.new (w8.alloc (.cells #[.string id] 9)) 24 #[.slice (some ⟨w8.heap.size, 0, none⟩) 1 1, .int .i64 1]
      rwa [World.size_alloc] at h
    have hrow : RowL ((w8.alloc (.cells #[.string id] 9)).alloc (.cells #[.slice (some ⟨w8.heap.size, 0, none⟩) 1 1, .int .i64 1] 24)) 1 (.slice (some ⟨w8.heap.size, 0, none⟩) 1 1) [oneS id] := (RowL.lit w8 9 1 [.string id] rfl).below ((Below.refl _ _).alloc (Nat.le_refl _) _)
    replace HB := below_on HB hbA
    replace hsg := hsg.below hbA
    have hrgb := V.range_below hbA hrg.2
    clear hbA hrg
    generalize (w8.alloc (.cells #[.string id] 9)).alloc (.cells #[.slice (some ⟨w8.heap.size, 0, none⟩) 1 1, .int .i64 1] 24) = w9 at *
    generalize w8.heap.size = g8 at *
    generalize g8 + 1 = gr at *
    have k1 := hrgb 1 (.string sb) rfl
    by_cases h0 : V0 = 0
    · rw [if_pos h0] at HC1
      subst h0
      go_upto_region 17 with (go_at_call 24; (with_reducible refine (HV.out _ HB).mono ?_); rintro e w10 ⟨rfl, hb⟩; replace HB := below_on HB hb; replace hsg := hsg.below hb; replace hrow := hrow.below hb; replace lR := lR.on hb; clear hb)
      have HL := fun (w : World) => RowL.lit w 51 2 [.string id, .string k] rfl
      have HBA := fun (w : World) (hb : Below W.heap.size W w) => below_on hb ((Below.refl w.heap.size w).alloc (Nat.le_refl _) (.cells #[.string id, .string k] 51))
      have HRA := fun (w : World) (h : RowL w 1 (.slice (some ⟨g8, 0, none⟩) 1 1) [oneS id]) => h.below ((Below.refl w.heap.size w).alloc (Nat.le_refl _) (.cells #[.string id, .string k] 51))
      have HGA := fun (w : World) (v : Value) (l : List (List Value)) (h : RowL w 2 v l) => h.below ((Below.refl w.heap.size w).alloc (Nat.le_refl _) (.cells #[.string id, .string k] 51))
      go_wp2_with (first
        | ((with_reducible refine V.wpL_load gr 24 #[.slice (some ⟨g8, 0, none⟩) 1 1, .int .i64 1] 2 rowRole rfl lR ?_ ?_); rfl)
        | (go_at_call 10; (with_reducible refine (HC1.out _ _ _ _ _ _ _ (HBA _ HB) (HRA _ hrow) (HL _) (HGA _ _ _ hsg)).mono ?_); rintro e w11 ⟨rfl, hb⟩))
      go_ret
      exact ⟨rfl, below_on (HBA _ HB) hb⟩
    · rw [if_neg h0] at HC1
      have hV : (V0 == 0) = false := by simpa using h0
      clear h0
      go_upto_region 17 with (go_at_call 24; (with_reducible refine (HV.out _ HB).mono ?_); rintro e w10 ⟨rfl, hb⟩; replace HB := below_on HB hb; replace hsg := hsg.below hb; replace hrow := hrow.below hb; replace lR := lR.on hb; clear hb)
      have HL := fun (w : World) => RowL.lit w 51 2 [.string id, .string k] rfl
      have HBA := fun (w : World) (hb : Below W.heap.size W w) => below_on hb ((Below.refl w.heap.size w).alloc (Nat.le_refl _) (.cells #[.string id, .string k] 51))
      have HRA := fun (w : World) (h : RowL w 1 (.slice (some ⟨g8, 0, none⟩) 1 1) [oneS id]) => h.below ((Below.refl w.heap.size w).alloc (Nat.le_refl _) (.cells #[.string id, .string k] 51))
      have HGA := fun (w : World) (v : Value) (l : List (List Value)) (h : RowL w 2 v l) => h.below ((Below.refl w.heap.size w).alloc (Nat.le_refl _) (.cells #[.string id, .string k] 51))
      go_wp2_with (first
        | ((with_reducible refine V.wpL_load gr 24 #[.slice (some ⟨g8, 0, none⟩) 1 1, .int .i64 1] 2 rowRole rfl lR ?_ ?_); rfl)
        | (go_at_call 10; (with_reducible refine (HC1.out _ _ _ _ _ _ _ (HBA _ HB) (HRA _ hrow) (HL _) (HGA _ _ _ hsg)).mono ?_); rintro e w11 ⟨rfl, hb⟩))
      go_ret
      exact ⟨rfl, below_on (HBA _ HB) hb⟩
end Go.Proofs.YteecbglmohhaeaaGreatDoor.O
