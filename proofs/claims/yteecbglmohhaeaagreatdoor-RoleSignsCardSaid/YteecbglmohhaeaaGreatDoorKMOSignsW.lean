/- The walk of the statement of signatures by seeds: whatever text and seeds, it answers true. -/
import Derived.Test.YteecbglmohhaeaaGreatDoorK17
namespace Go.Proofs.YteecbglmohhaeaaGreatDoor.O
open Go.RowKit Go.Sort Go.Proofs.YteecbglmohhaeaaGreatDoor.E
open C (Pts)
open V (Lies OwnL RowL reg lessL bytesLess_is)
set_option maxRecDepth 100000

theorem cut_le (s : ByteArray) (k : Nat) : (s.extract 0 (min (s.size : Int) (k : Int)).toNat).size ≤ k := by
  rw [ByteArray.size_extract]
  omega
theorem seeds_bad {l : List ByteArray} {i : Nat} {s : ByteArray} (h : l[i]? = some s) (hs : s.size ≠ 32) : seedsOk l = false := by
  cases hc : seedsOk l with
  | false => rfl
  | true =>
    unfold seedsOk at hc
    exact absurd (of_decide_eq_true (List.all_eq_true.1 hc s (List.mem_of_getElem? h))) hs
theorem seeds_good {l : List ByteArray} (h : ∀ (i : Nat) (s : ByteArray), i < l.length → l[i]? = some s → s.size = 32) : seedsOk l = true := by
  unfold seedsOk
  rw [List.all_eq_true]
  intro s hs
  obtain ⟨i, hi⟩ := List.getElem?_of_mem hs
  exact decide_eq_true (h i s (List.getElem?_eq_some_iff.1 hi).1 hi)
theorem row_take {w : World} {k : Nat} {a : Option Addr} {n c : Nat} {css : List (List Value)} (h : RowL w k (.slice a n c) css) {j : Nat} (hj : j ≤ css.length) : RowL w k (.slice a j c) (css.take j) := by
  obtain ⟨h0, a', c', hv, hc, hm, hn, hl⟩ := h
  injection hv with e1 e2 e3
  subst e1 e2 e3
  have hlen : (css.take j).length = j := by rw [List.length_take]; omega
  refine ⟨fun cs hcs => h0 cs (List.mem_of_mem_take hcs), a, c, by rw [hlen], by omega, by omega, hn, fun hpos => ?_⟩
  obtain ⟨b, off, rfl, hx⟩ := hl (by omega)
  refine ⟨b, off, rfl, fun i cs hi => ?_⟩
  rw [List.getElem?_take] at hi
  split at hi
  · exact hx i cs hi
  · cases hi
set_option maxHeartbeats 12800000 in
theorem signsO_walk (A : Pts EdTab) (text : ByteArray) (v : Value) (L : List (List UInt8)) (W : World) (hv : Strs W v L) (hT : RTab W) :
    Calls Tryz.prog 4 #[.string text, v] W fun e w' => e = .returned (.bool true) ∧ Below W.heap.size W w' := by
  have hR := strs_row hv
  obtain ⟨av, cv, rfl, hcv, hmv, hnv⟩ := hR.form
  rw [List.length_map] at hR hcv ⊢
  obtain ⟨N, hN⟩ : ∃ N, (L.map bytesO).length = N := ⟨_, rfl⟩
  rw [hN] at hR hcv ⊢
  obtain ⟨r, hr⟩ : ∃ r, min N 5 = r := ⟨_, rfl⟩
  have hrI : min (N : Int) 5 = (r : Int) := by omega
  have hrS0 := row_take hR (j := r) (by rw [List.length_map, hN]; omega)
  rw [← List.map_take] at hrS0
  have hl5 : ((L.map bytesO).take r).length = r := by rw [List.length_take, hN]; omega
  obtain ⟨l, hl⟩ : ∃ l, (L.map bytesO).take r = l := ⟨_, rfl⟩
  rw [hl] at hrS0 hl5
  have hr5 : r ≤ 5 := by omega
  have hrc : r ≤ cv := by omega
  have hi1 : (0 : Int) ≤ (r : Int) := by omega
  have hi2 : (r : Int) ≤ (cv : Int) := by omega
  have hts := cut_le text 200
  have hq1 : (0 : Int) ≤ min (text.size : Int) 200 := by omega
  have hq2 : min (text.size : Int) 200 ≤ (text.size : Int) := by omega
  go_enter Tryz.func4, Tryz.ntmps4
  go_upto_region 1 with fail
  refine wp_region_quiet_below (by kernel_rfl) (by kernel_rfl) ?_
  repeat (go_big_quiet_step (fail))
  refine wpQuiet_nil ?_
  intro _ hw'
  obtain ⟨⟨dq, osq⟩, hw''⟩ := hw'
  subst hw''
  have hb0 := below_regrown W dq osq
  have hrS := hrS0.below hb0
  have hT0 := hT.on hb0
  generalize grow (redrawn W dq) osq = w0 at *
  generalize text.extract 0 (min (text.size : Int) 200).toNat = tx at *
  clear hR hrS0 hT hcv hmv hnv hN hr hrI hrc hi1 hi2 hq1 hq2 hv hl
  subst hl5
  have HSg := Lib.hid (sign_any A av cv l tx w0 hrS (by omega) (by omega) hT0)
  have HRow := Lib.hid (fun (w1 : World) (hb : Below w0.heap.size w0 w1) => hrS.below hb)
  have HTT := Lib.hid (fun (w1 : World) (hb : Below w0.heap.size w0 w1) => hT0.on hb)
  have HA := Lib.hid (fun (w1 : World) (hb : Below w0.heap.size w0 w1) => alive_any A w1 (HTT.out w1 hb))
  have hlm : (l.length : Int) ≤ 5 := by omega
  clear hrS hT0
  go_upto_region 3 with (go_at_call 20; (with_reducible refine HSg.out.mono ?_); rintro e w1 (⟨hok, rfl, hb1⟩ | ⟨hok, v, rfl, hO, hb1⟩))
  · have HK := Lib.hid hok
    clear hok HSg hr5 hts
    go_wp2
    go_loopw [8, 33] (fun _ iv wr => ∃ j : Nat, iv = .int .i64 (j : Int) ∧ j ≤ l.length ∧ Hid (∀ (i : Nat) (s : ByteArray), i < j → l[i]? = some s → s.size = 32) ∧ Below w0.heap.size w0 wr) (fun _ iv _ => l.length - (intOf iv).toNat)
    case atStart => exact ⟨0, rfl, Nat.zero_le _, Lib.hid (fun i s h => by omega), hb1⟩
    case round =>
      clear hb1
      obtain ⟨j, rfl, hj, HS, hb⟩ := hrel
      by_cases hlt : j < l.length
      case neg =>
        obtain rfl : j = l.length := by omega
        have := HK.out
        rw [seeds_good HS.out] at this
        cases this
      have i1 : (j : Int) < (l.length : Int) := by omega
      have i3 : (0 : Int) ≤ (j : Int) := by omega
      obtain ⟨s, hx⟩ : ∃ x, l[j]? = some x := ⟨_, List.getElem?_eq_getElem hlt⟩
      obtain ⟨b, off, rfl, hr, _⟩ := (HRow.out _ hb).at (i := j) (cs := oneS s) (by rw [List.getElem?_map, hx]; rfl)
      have q0 := hr 0 (.string s) rfl
      rw [Nat.mul_one, Nat.add_zero] at q0
      have HJ := Lib.hid hlt
      by_cases h32 : s.size = 32
      case neg =>
        have i4 : ((s.size : Int) != 32) = true := by rw [bne_iff_ne]; omega
        clear hx hr HS h32 hlt
        go_wp2_with (go_at_call 17; (with_reducible refine (HA.out _ hb).mono ?_); rintro e w2 ⟨rfl, hb2⟩)
        go_ret
        exact ⟨rfl, hb0.trans ((hb.trans (hb2.mono hb.size)).mono hb0.size)⟩
      have i4 : ((s.size : Int) != 32) = false := by rw [h32]; rfl
      have HS2 := Lib.hid (show ∀ (i : Nat) (q : ByteArray), i < j + 1 → l[i]? = some q → q.size = 32 from fun i q hi hq => by
        by_cases e : i = j
        · subst e
          rw [hx] at hq
          rw [← Option.some.inj hq]
          exact h32
        · exact HS.out i q (by omega) hq)
      clear hx hr HS h32 hlt
      go_wp2
      go_roundw
      case rel => exact ⟨j + 1, by go_num, HJ.out, HS2, hb⟩
      case measure =>
        have := HJ.out
        simp [intOf]; omega
  · obtain ⟨ov, oc, rfl, hoc, hom, _⟩ := hO.form
    have HO := Lib.hid (fun (w2 : World) (hb : Below w1.heap.size w1 w2) => hO.read.below hb)
    rw [List.length_map, List.length_map] at hoc
    rw [List.length_map, List.length_map] at HO ⊢
    have h32 := Lib.hid (show ∀ (i : Nat) (s : ByteArray), l[i]? = some s → s.size = 32 from fun i s hs => by
      unfold seedsOk at hok
      exact of_decide_eq_true (List.all_eq_true.1 hok s (List.mem_of_getElem? hs)))
    have hTX : tx.size ≤ 1000 := by omega
    have HTX := Lib.hid hTX
    clear hok HSg hr5 hts hO hom hTX
    go_wp2
    go_loopw [8, 33] (fun _ iv wr => ∃ j : Nat, iv = .int .i64 (j : Int) ∧ j ≤ l.length ∧ wr = w1) (fun _ iv _ => l.length - (intOf iv).toNat)
    case atStart => exact ⟨0, rfl, Nat.zero_le _, rfl⟩
    case round =>
      obtain ⟨j, rfl, hj, rfl⟩ := hrel
      by_cases hlt : j < l.length
      case pos =>
        have i1 : (j : Int) < (l.length : Int) := by omega
        have i3 : (0 : Int) ≤ (j : Int) := by omega
        obtain ⟨s, hx⟩ : ∃ x, l[j]? = some x := ⟨_, List.getElem?_eq_getElem hlt⟩
        obtain ⟨b, off, rfl, hr, _⟩ := (HRow.out _ hb1).at (i := j) (cs := oneS s) (by rw [List.getElem?_map, hx]; rfl)
        have q0 := hr 0 (.string s) rfl
        rw [Nat.mul_one, Nat.add_zero] at q0
        have HJ := Lib.hid hlt
        have i4 : ((s.size : Int) != 32) = false := by rw [h32.out j s hx]; rfl
        clear hx hr hlt
        go_wp2
        go_roundw
        case rel => exact ⟨j + 1, by go_num, HJ.out, trivial⟩
        case measure =>
          have := HJ.out
          simp [intOf]; omega
      obtain rfl : j = l.length := by omega
      have i1 : ¬ ((l.length : Int) < (l.length : Int)) := by omega
      clear hlt hj
      have hP0 := Lib.hid (fun (w2 : World) (hb : Below w0.heap.size w0 w2) (s : ByteArray) (h : s.size = 32) => public_good A s h w2 (HTT.out w2 hb).e.1)
      have hG0 := Lib.hid (fun (w2 : World) (hb : Below w0.heap.size w0 w2) (s : ByteArray) (h : s.size = 32) => signs_good A s tx h HTX.out w2 (HTT.out w2 hb).e.1)
      go_upto_region 11 with (go_at_call 17; (with_reducible refine (HA.out _ hb1).mono ?_); rintro e w2 ⟨rfl, hb2⟩)
      have HO2 := Lib.hid (fun (w3 : World) (hb : Below w2.heap.size w2 w3) => HO.out w3 (hb2.trans (hb.mono hb2.size)))
      have hbw := hb1.trans (hb2.mono hb1.size)
      clear hb1 hb2 HO HA
      go_wp2
      go_loopw [9, 10, 11, 12, 13, 14, 66] (fun _ _ _ _ _ _ iv wr => ∃ j : Nat, iv = .int .i64 (j : Int) ∧ j ≤ l.length ∧ Below w2.heap.size w2 wr) (fun _ _ _ _ _ _ iv _ => l.length - (intOf iv).toNat)
      case atStart => exact ⟨0, rfl, Nat.zero_le _, Below.refl _ _⟩
      case round =>
        obtain ⟨j, rfl, hj, hb⟩ := hrel
        by_cases hlt : j < l.length
        case neg =>
          obtain rfl : j = l.length := by omega
          have i1 : ¬ ((l.length : Int) < (l.length : Int)) := by omega
          clear hlt hj
          go_wp2
          go_ret
          exact ⟨rfl, hb0.trans ((hbw.trans (hb.mono hbw.size)).mono hb0.size)⟩
        have i1 : (j : Int) < (l.length : Int) := by omega
        have i3 : (0 : Int) ≤ (j : Int) := by omega
        obtain ⟨s, hx⟩ : ∃ x, l[j]? = some x := ⟨_, List.getElem?_eq_getElem hlt⟩
        have hbq := hbw.trans (hb.mono hbw.size)
        obtain ⟨b, off, rfl, hr, _⟩ := (HRow.out _ hbq).at (i := j) (cs := oneS s) (by rw [List.getElem?_map, hx]; rfl)
        have q0 := hr 0 (.string s) rfl
        rw [Nat.mul_one, Nat.add_zero] at q0
        obtain ⟨b2, off2, rfl, _, _⟩ := (HO2.out _ hb).at (i := j) (cs := twoS (sigOf tx s)) (by rw [List.getElem?_map, List.getElem?_map, hx]; rfl)
        have hs32 := h32.out j s hx
        have HM := Lib.hid (fun (w3 : World) (hb3 : Below w2.heap.size w2 w3) => show w3.rangeAt b2 (off2 + j * 2) (twoS (sigOf tx s)) from by
          obtain ⟨b4, off4, he, hr4, _⟩ := (HO2.out _ hb3).at (i := j) (cs := twoS (sigOf tx s)) (by rw [List.getElem?_map, List.getElem?_map, hx]; rfl)
          injection he with he
          injection he with e1 e2
          subst e1 e2
          exact hr4)
        have HP := Lib.hid (fun (w3 : World) (hb3 : Below w0.heap.size w0 w3) => hP0.out w3 hb3 s hs32)
        have HG := Lib.hid (fun (w3 : World) (hb3 : Below w0.heap.size w0 w3) => hG0.out w3 hb3 s hs32)
        have hI0 := fun (w3 : World) => refId_any (keyT s.data.toList) w3 (by rw [show (keyT s.data.toList).size = 32 from C.text_size _]; omega)
        rw [show sigOf tx s = (idT (keyT s.data.toList), seedT s tx) from rfl] at HM
        have HJ := Lib.hid hlt
        have HB := Lib.hid hb
        generalize seedT s tx = sg at *
        generalize keyT s.data.toList = kt at *
        generalize idT kt = id at *
        clear hx hr hlt hs32 hj
        go_upto_region 16 with (first
          | (go_at_call 21; (with_reducible refine (HP.out _ hbq).mono ?_); rintro e w3 ⟨rfl, hb3⟩; have hbq3 := hbq.trans (hb3.mono hbq.size))
          | (go_at_call 22; (with_reducible refine (HG.out _ hbq3).mono ?_); rintro e w4 ⟨rfl, hb4⟩))
        have hb5 := hb.trans ((hb3.trans (hb4.mono hb3.size)).mono hb.size)
        -- region 16
        clear hb3 hb4 hbq3 hbq
        refine V.wp_held_any (S := fun w' => Below w2.heap.size w2 w') 9 rfl (by kernel_rfl) ?_
        have hbD : Below w4.heap.size w4 { w4 with drawn := w4.drawn + 1 } := (Below.refl _ _).drew
        replace hb5 := hb5.trans (hbD.mono hb5.size)
        clear hbD
        generalize ({ w4 with drawn := w4.drawn + 1 } : World) = w4d at *
        refine V.held_put 0 82 (.slice (some ⟨b2, off2, none⟩) l.length oc) rfl rfl (by kernel_rfl) (by kernel_rfl) (by kernel_rfl) (by kernel_rfl) (fun w hS => rfl) hb5 ?_
        simp only [List.setIfInBounds_toArray, List.set_cons_succ, List.set_cons_zero]
        refine V.held_put 1 83 (.int .i64 (j : Int)) rfl rfl (by kernel_rfl) (by kernel_rfl) (by kernel_rfl) (by kernel_rfl) (fun w hS => rfl) hb5 ?_
        simp only [List.setIfInBounds_toArray, List.set_cons_succ, List.set_cons_zero]
        refine V.held_put 2 84 (.pointer (some ⟨b2, off2 + j * 2, none⟩)) rfl rfl (by kernel_rfl) (by kernel_rfl) (by kernel_rfl) (by kernel_rfl) (fun w hS => run_idxM _ _ 2 Tryz.underlying26 Tryz.sizeOf46 b2 off2 l.length oc j HJ.out rfl rfl w) hb5 ?_
        simp only [List.setIfInBounds_toArray, List.set_cons_succ, List.set_cons_zero]
        refine V.held_put 3 85 (.agg #[.string id, .string sg]) rfl rfl (by kernel_rfl) (by kernel_rfl) (by kernel_rfl) (by kernel_rfl) (fun w hS => run_ldM _ b2 (off2 + j * 2) _ 2 rowSig rfl (HM.out _ hS) rfl) hb5 ?_
        simp only [List.setIfInBounds_toArray, List.set_cons_succ, List.set_cons_zero]
        refine V.held_put 4 86 (.string kt) rfl rfl (by kernel_rfl) (by kernel_rfl) (by kernel_rfl) (by kernel_rfl) (fun w hS => rfl) hb5 ?_
        simp only [List.setIfInBounds_toArray, List.set_cons_succ, List.set_cons_zero]
        refine V.held_put 6 88 (.string sg) rfl rfl (by kernel_rfl) (by kernel_rfl) (by kernel_rfl) (by kernel_rfl) (fun w hS => rfl) hb5 ?_
        simp only [List.setIfInBounds_toArray, List.set_cons_succ, List.set_cons_zero]
        refine V.held_one 5 (by kernel_rfl) (V.wpOp_call 87 rfl rfl (by kernel_rfl) (by kernel_rfl) (((hI0 _)).mono ?_))
        rintro e wk1 ⟨rfl, hbN⟩
        replace hb5 := hb5.trans (hbN.mono hb5.size)
        clear hbN
        refine ⟨_, rfl, hb5, ?_⟩
        simp only [List.setIfInBounds_toArray, List.set_cons_succ, List.set_cons_zero]
        refine V.held_put 7 89 (.agg #[(.string id), (.string sg)]) rfl rfl (by kernel_rfl) (by kernel_rfl) (by kernel_rfl) (by kernel_rfl) (fun w hS => by kernel_rfl) hb5 ?_
        simp only [List.setIfInBounds_toArray, List.set_cons_succ, List.set_cons_zero]
        refine V.held_put 8 90 (.bool false) rfl rfl (by kernel_rfl) (by kernel_rfl) (by kernel_rfl) (by kernel_rfl) (fun w hS => run_neqSig rfl id sg rfl rfl w) hb5 ?_
        simp only [List.setIfInBounds_toArray, List.set_cons_succ, List.set_cons_zero]
        refine V.held_done (by kernel_rfl) ?_
        simp only [Exit.then]
        go_wp2
        go_roundw
        case rel => exact ⟨j + 1, by go_num, HJ.out, hb5⟩
        case measure =>
          have := HJ.out
          simp [intOf]; omega
end Go.Proofs.YteecbglmohhaeaaGreatDoor.O
