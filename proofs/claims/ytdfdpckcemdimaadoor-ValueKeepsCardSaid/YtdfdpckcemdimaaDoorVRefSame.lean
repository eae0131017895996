/- The reference's Same. -/
import Derived.Test.YtdfdpckcemdimaaDoorVReg
namespace Go.Proofs.YtdfdpckcemdimaaDoor.V
open Go.RowKit Go.Sort Go.Joins
set_option maxRecDepth 100000

noncomputable instance : DecidableEq VT := fun a b => Classical.propDecidable (a = b)
/-- the cells of a value, its slices said -/
def valA (k n : Int) (s : List UInt8) (vi vk : Value) : Array Value := #[.int .i64 k, .int .i64 n, .string ⟨s.toArray⟩, vi, vk]
theorem vt_ne {k n : Int} {s : List UInt8} {l : List VT} {ks : List (List UInt8)} {k' n' : Int} {s' : List UInt8} {l' : List VT} {ks' : List (List UInt8)} (h : ¬ (k = k' ∧ n = n' ∧ s = s' ∧ l = l' ∧ ks = ks')) : decide (VT.mk k n s l ks = VT.mk k' n' s' l' ks') = false :=
  decide_eq_false (fun e => h (by injection e with e1 e2 e3 e4 e5; exact ⟨e1, e2, e3, e4, e5⟩))
set_option maxHeartbeats 3200000 in
theorem refSame_any : ∀ (d : Nat) (cs cs' : List Value) (t u : VT) (w : World), IsV w d cs t → IsV w d cs' u →
    Calls Tryd.prog 20 #[.agg cs.toArray, .agg cs'.toArray] w fun e w' => e = .returned (.bool (decide (t = u))) ∧ Below w.heap.size w w' := by
  intro d
  induction d with
  | zero => intro cs cs' t u w h; exact h.elim
  | succ d ih =>
    intro cs cs' t u W h h'
    obtain ⟨vi, vk, rfl, _, hks, a, c, rfl, hc, hm, _, hx⟩ := h
    obtain ⟨vi', vk', rfl, _, hks', a', c', rfl, hc', hm', _, hx'⟩ := h'
    obtain ⟨ka, kc, rfl, hkc, hkm, _, hkx⟩ := hks
    obtain ⟨ka', kc', rfl, hkc', hkm', _, hkx'⟩ := hks'
    obtain ⟨k, n, s, l, ks⟩ := t
    obtain ⟨k', n', s', l', ks'⟩ := u
    have HI := Lib.hid ih
    have HX := Lib.hid hx
    have HX' := Lib.hid hx'
    have HK := Lib.hid hkx
    have HK' := Lib.hid hkx'
    simp only [VT.items, VT.kind, VT.num, VT.txt, VT.keys, str] at *
    clear ih hx hx' hkx hkx'
    unfold maxLen at hm hm' hkm hkm'
    have hbW := ((Below.refl W.heap.size W).alloc (Nat.le_refl _) (.cells #[.int .i64 k, .int .i64 n, .string ⟨s.toArray⟩, .slice a l.length c, .slice ka ks.length kc] 25)).alloc (by simp) (.cells #[.int .i64 k', .int .i64 n', .string ⟨s'.toArray⟩, .slice a' l'.length c', .slice ka' ks'.length kc'] 25)
    by_cases hk : k = k'
    case neg =>
      rw [vt_ne (fun h => hk h.1)]
      have h1 : (k != k') = true := by simpa using hk
      go_enter Tryd.func20, Tryd.ntmps20
      go_wp2
      go_ret
      exact ⟨rfl, hbW⟩
    subst hk
    by_cases hn : n = n'
    case neg =>
      rw [vt_ne (fun h => hn h.2.1)]
      have h1 : (n != n') = true := by simpa using hn
      go_enter Tryd.func20, Tryd.ntmps20
      go_wp2
      go_ret
      exact ⟨rfl, hbW⟩
    subst hn
    by_cases hs : s = s'
    case neg =>
      rw [vt_ne (fun h => hs h.2.2.1)]
      have h0 := hs
      go_enter Tryd.func20, Tryd.ntmps20
      go_wp2
      go_ret
      exact ⟨rfl, hbW⟩
    subst hs
    by_cases hl : l.length = l'.length
    case neg =>
      rw [vt_ne (fun h => hl (by rw [h.2.2.2.1]))]
      have h1 : ((l.length : Int) != (l'.length : Int)) = true := bne_iff_ne.2 (by omega)
      go_enter Tryd.func20, Tryd.ntmps20
      go_wp2
      go_ret
      exact ⟨rfl, hbW⟩
    by_cases hkl : ks.length = ks'.length
    case neg =>
      rw [vt_ne (fun h => hkl (by rw [h.2.2.2.2]))]
      have h1 : ((l.length : Int) != (l'.length : Int)) = false := by rw [hl]; exact bne_self_eq_false _
      have HL := Lib.hid hl
      clear hl
      have h2 : ((ks.length : Int) != (ks'.length : Int)) = true := bne_iff_ne.2 (by omega)
      go_enter Tryd.func20, Tryd.ntmps20
      go_wp2
      go_ret
      exact ⟨rfl, hbW⟩
    have h1 : ((l.length : Int) != (l'.length : Int)) = false := by rw [hl]; exact bne_self_eq_false _
    have h2 : ((ks.length : Int) != (ks'.length : Int)) = false := by rw [hkl]; exact bne_self_eq_false _
    have HL := Lib.hid hl
    have HKL := Lib.hid hkl
    clear hl hkl
    have lA0 : Lies ((W.alloc (.cells #[.int .i64 k, .int .i64 n, .string ⟨s.toArray⟩, .slice a l.length c, .slice ka ks.length kc] 25)).alloc (.cells #[.int .i64 k, .int .i64 n, .string ⟨s.toArray⟩, .slice a' l'.length c', .slice ka' ks'.length kc'] 25)) W.heap.size 25 #[.int .i64 k, .int .i64 n, .string ⟨s.toArray⟩, .slice a l.length c, .slice ka ks.length kc] := (Lies.new W _ _).alloc _
    have lB0 : Lies ((W.alloc (.cells #[.int .i64 k, .int .i64 n, .string ⟨s.toArray⟩, .slice a l.length c, .slice ka ks.length kc] 25)).alloc (.cells #[.int .i64 k, .int .i64 n, .string ⟨s.toArray⟩, .slice a' l'.length c', .slice ka' ks'.length kc'] 25)) (W.heap.size + 1) 25 #[.int .i64 k, .int .i64 n, .string ⟨s.toArray⟩, .slice a' l'.length c', .slice ka' ks'.length kc'] := by
      have := Lies.new (W.alloc (.cells #[.int .i64 k, .int .i64 n, .string ⟨s.toArray⟩, .slice a l.length c, .slice ka ks.length kc] 25)) 25 #[.int .i64 k, .int .i64 n, .string ⟨s.toArray⟩, .slice a' l'.length c', .slice ka' ks'.length kc']
      simpa using this
    go_enter Tryd.func20, Tryd.ntmps20
    go_wp2
    go_loopw [47] (fun iv wr => ∃ (j : Nat), iv = .int .i64 j ∧ j ≤ ks.length ∧ Hid (ks.take j = ks'.take j) ∧ Below W.heap.size W wr ∧ Lies wr W.heap.size 25 #[.int .i64 k, .int .i64 n, .string ⟨s.toArray⟩, .slice a l.length c, .slice ka ks.length kc] ∧ Lies wr (W.heap.size + 1) 25 #[.int .i64 k, .int .i64 n, .string ⟨s.toArray⟩, .slice a' l'.length c', .slice ka' ks'.length kc']) (fun iv _ => ks.length - (intOf iv).toNat)
    case atStart => exact ⟨0, rfl, by omega, Lib.hid rfl, hbW, lA0, lB0⟩
    case round =>
      clear lA0 lB0 hbW
      obtain ⟨j, rfl, hj, HS, hb, lA, lB⟩ := hrel
      by_cases hlt : j < ks.length
      · have hlt' : j < ks'.length := by rw [← HKL.out]; exact hlt
        obtain ⟨b, off, rfl, hkx⟩ := HK.out (by intro h; rw [h] at hlt; simp at hlt)
        obtain ⟨b', off', rfl, hkx'⟩ := HK'.out (by intro h; rw [h] at hlt'; simp at hlt')
        obtain ⟨x, hxi⟩ : ∃ x, ks[j]? = some x := ⟨ks[j], List.getElem?_eq_getElem hlt⟩
        obtain ⟨y, hyi⟩ : ∃ y, ks'[j]? = some y := ⟨ks'[j], List.getElem?_eq_getElem hlt'⟩
        have g1 := hkx j x hxi
        have g2 := hkx' j y hyi
        have c1 := (hb.cell (p := ⟨b, off + j, none⟩) (World.block_lt_of_cell? W _ g1)).trans g1
        have c2 := (hb.cell (p := ⟨b', off' + j, none⟩) (World.block_lt_of_cell? W _ g2)).trans g2
        have q1 := lA.cell 4
        have q2 := lB.cell 4
        simp only [List.getElem?_toArray, List.getElem?_cons_succ, List.getElem?_cons_zero] at q1 q2
        have hjl : (j : Int) < (ks'.length : Int) := by omega
        clear hkx hkx' g1 g2 HK HK' HX HX' HI
        by_cases hxy : x = y
        · subst hxy
          have HS2 := Lib.hid (show ks.take (j + 1) = ks'.take (j + 1) by
            rw [List.take_succ_eq_append_getElem hlt, List.take_succ_eq_append_getElem hlt', HS.out, (List.getElem?_eq_some_iff.1 hxi).2, (List.getElem?_eq_some_iff.1 hyi).2])
          clear hxi hyi HS
          have u1 := cell_regrown c1
          have u2 := cell_regrown c2
          have o1 := cell_regrown q1
          have o2 := cell_regrown q2
          clear c1 c2 q1 q2
          go_wp2
          refine wp_region_quiet_below (by kernel_rfl) (by kernel_rfl) ?_
          repeat (go_big_quiet_step (fail))
          refine wpQuiet_nil ?_
          intro _ hw'
          obtain ⟨⟨dq, osq⟩, hw''⟩ := hw'
          subst hw''
          have hb2 := below_regrown wr dq osq
          go_wp2
          go_roundw
          case rel => exact ⟨j + 1, by go_num, by omega, HS2, on_below hb hb2 hb.size, lA.on hb2, lB.on hb2⟩
          case measure => simp [intOf]; omega
        · have hr := Lib.hid (vt_ne (k := k) (n := n) (s := s) (l := l) (ks := ks) (k' := k) (n' := n) (s' := s) (l' := l') (ks' := ks') (fun h => hxy (by
            have h := h.2.2.2.2
            rw [h, hyi] at hxi
            exact (Option.some.inj hxi).symm)))
          clear hxi hyi HS
          have u1 := cell_regrown c1
          have u2 := cell_regrown c2
          have o1 := cell_regrown q1
          have o2 := cell_regrown q2
          clear c1 c2 q1 q2
          go_wp2
          refine wp_region_quiet_below (by kernel_rfl) (by kernel_rfl) ?_
          repeat (go_big_quiet_step (fail))
          refine wpQuiet_nil ?_
          intro _ hw'
          obtain ⟨⟨dq, osq⟩, hw''⟩ := hw'
          subst hw''
          have hb2 := below_regrown wr dq osq
          go_wp2
          · go_ret
            exact ⟨ret1_of (by rw [hr.out]; rfl), on_below hb hb2 hb.size⟩
          · rename_i hh
            exact absurd (by simpa using hh) hxy
      · have HE := Lib.hid (show ks = ks' by
          have := HS.out
          rwa [List.take_of_length_le (by omega), List.take_of_length_le (by have := HKL.out; omega)] at this)
        clear HS HK HK'
        have q1 := lA.cell 3
        simp only [List.getElem?_toArray, List.getElem?_cons_succ, List.getElem?_cons_zero] at q1
        go_wp2
        go_loopw [65] (fun iv wr => ∃ (j : Nat), iv = .int .i64 j ∧ j ≤ l.length ∧ Hid (l.take j = l'.take j) ∧ Below W.heap.size W wr ∧ Lies wr W.heap.size 25 #[.int .i64 k, .int .i64 n, .string ⟨s.toArray⟩, .slice a l.length c, .slice ka ks.length kc] ∧ Lies wr (W.heap.size + 1) 25 #[.int .i64 k, .int .i64 n, .string ⟨s.toArray⟩, .slice a' l'.length c', .slice ka' ks'.length kc']) (fun iv _ => l.length - (intOf iv).toNat)
        case atStart => exact ⟨0, rfl, by omega, Lib.hid rfl, hb, lA, lB⟩
        case round =>
          clear lA lB hb q1
          obtain ⟨i, rfl, hi, HS, hb, lA, lB⟩ := hrel
          by_cases hlt : i < l.length
          · have hlt' : i < l'.length := by rw [← HL.out]; exact hlt
            obtain ⟨b, off, rfl, hx⟩ := HX.out (by omega)
            obtain ⟨b', off', rfl, hx'⟩ := HX'.out (by omega)
            obtain ⟨cs1, hlen1, hr1, x, hxi, hv1⟩ := hx i hlt
            obtain ⟨cs2, hlen2, hr2, y, hyi, hv2⟩ := hx' i hlt'
            obtain ⟨ai, ci, ak, ck, rfl⟩ := hv1.form
            obtain ⟨ai', ci', ak', ck', rfl⟩ := hv2.form
            obtain ⟨m0, m1, m2, m3, m4⟩ := range5 (range_below hb hr1)
            obtain ⟨p0, p1, p2, p3, p4⟩ := range5 (range_below hb hr2)
            have hv1 := hv1.below hb
            have hv2 := hv2.below hb
            have q1 := lA.cell 3
            have q2 := lB.cell 3
            simp only [List.getElem?_toArray, List.getElem?_cons_succ, List.getElem?_cons_zero] at q1 q2
            have hjl : (i : Int) < (l'.length : Int) := by omega
            have HC := Lib.hid (fun (w1 : World) (hb1 : Below wr.heap.size wr w1) => HI.out _ _ x y w1 (hv1.below hb1) (hv2.below hb1))
            clear hx hx' hr1 hr2 HX HX' HI hv1 hv2 hlen1 hlen2
            have HC := fun (w1 : World) (hb1 : Below wr.heap.size wr w1) => HC.out w1 hb1
            by_cases hxy : x = y
            · have HS2 := Lib.hid (show l.take (i + 1) = l'.take (i + 1) by
                rw [List.take_succ_eq_append_getElem hlt, List.take_succ_eq_append_getElem hlt', HS.out, (List.getElem?_eq_some_iff.1 hxi).2, (List.getElem?_eq_some_iff.1 hyi).2, hxy])
              have hd : decide (x = y) = true := decide_eq_true hxy
              rw [hd] at HC
              clear hxi hyi HS hxy hd
              have cS := Lib.hid (reg HC)
              have u0 := cell_regrown m0
              have u1 := cell_regrown m1
              have u2 := cell_regrown m2
              have u3 := cell_regrown m3
              have u4 := cell_regrown m4
              have v0 := cell_regrown p0
              have v1 := cell_regrown p1
              have v2 := cell_regrown p2
              have v3 := cell_regrown p3
              have v4 := cell_regrown p4
              have o1 := cell_regrown q1
              have o2 := cell_regrown q2
              clear m0 m1 m2 m3 m4 p0 p1 p2 p3 p4 q1 q2
              go_wp2
              refine wp_region_quiet_below (by kernel_rfl) (by kernel_rfl) ?_
              repeat (go_big_quiet_step (exact cS.out _ _))
              refine wpQuiet_nil ?_
              intro _ hw'
              obtain ⟨⟨dq, osq⟩, hw''⟩ := hw'
              subst hw''
              have hb2 := below_regrown wr dq osq
              go_wp2
              go_roundw
              case rel => exact ⟨i + 1, by go_num, by omega, HS2, on_below hb hb2 hb.size, lA.on hb2, lB.on hb2⟩
              case measure => simp [intOf]; omega
            · have hr := Lib.hid (vt_ne (k := k) (n := n) (s := s) (l := l) (ks := ks) (k' := k) (n' := n) (s' := s) (l' := l') (ks' := ks') (fun h => hxy (by
                have h := h.2.2.2.1
                rw [h, hyi] at hxi
                exact (Option.some.inj hxi).symm)))
              have hd : decide (x = y) = false := decide_eq_false hxy
              rw [hd] at HC
              clear hxi hyi HS hxy hd
              have cS := Lib.hid (reg HC)
              have u0 := cell_regrown m0
              have u1 := cell_regrown m1
              have u2 := cell_regrown m2
              have u3 := cell_regrown m3
              have u4 := cell_regrown m4
              have v0 := cell_regrown p0
              have v1 := cell_regrown p1
              have v2 := cell_regrown p2
              have v3 := cell_regrown p3
              have v4 := cell_regrown p4
              have o1 := cell_regrown q1
              have o2 := cell_regrown q2
              clear m0 m1 m2 m3 m4 p0 p1 p2 p3 p4 q1 q2
              go_wp2
              refine wp_region_quiet_below (by kernel_rfl) (by kernel_rfl) ?_
              repeat (go_big_quiet_step (exact cS.out _ _))
              refine wpQuiet_nil ?_
              intro _ hw'
              obtain ⟨⟨dq, osq⟩, hw''⟩ := hw'
              subst hw''
              have hb2 := below_regrown wr dq osq
              go_wp2
              go_ret
              exact ⟨ret1_of (by rw [hr.out]; rfl), on_below hb hb2 hb.size⟩
          · have hr := Lib.hid (show decide (VT.mk k n s l ks = VT.mk k n s l' ks') = true from decide_eq_true (by
              have := HS.out
              rw [List.take_of_length_le (by omega), List.take_of_length_le (by have := HL.out; omega)] at this
              rw [this, HE.out]))
            clear HX HX' HI HS HE
            go_wp2
            go_ret
            exact ⟨ret1_of (by rw [hr.out]; rfl), hb⟩
end Go.Proofs.YtdfdpckcemdimaaDoor.V
