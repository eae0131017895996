/- The developers' alike and Same: by all fields, levels being enough. -/
import Derived.Test.YtdfdpckcemdimaaDoorVRefSame
import Derived.Test.YtdfdpckcemdimaaDoorVStrEq
import Derived.Test.YtdfdpckcemdimaaDoorVRoom
namespace Go.Proofs.YtdfdpckcemdimaaDoor.V
open Go.RowKit Go.Sort Go.Joins
set_option maxRecDepth 100000

/-- the library's EqualFunc, from what the function that is handed in says of items -/
theorem eqf_any (d : Nat) (l l' : List VT) (a a' : Option Addr) (c c' : Nat) (ptr : Value) (W : World) (hm : c ≤ maxLen) (hc : l.length ≤ c)
    (hx : 0 < l.length → ∃ b off, a = some ⟨b, off, none⟩ ∧ ∀ i, i < l.length → ∃ cs, cs.length = 5 ∧ W.rangeAt b (off + i * 5) cs ∧ ∃ x, l[i]? = some x ∧ IsV W d cs x)
    (hx' : 0 < l'.length → ∃ b off, a' = some ⟨b, off, none⟩ ∧ ∀ i, i < l'.length → ∃ cs, cs.length = 5 ∧ W.rangeAt b (off + i * 5) cs ∧ ∃ x, l'[i]? = some x ∧ IsV W d cs x)
    (hC : ∀ (cs cs' : List Value) (x y : VT) (w1 : World), IsV w1 d cs x → IsV w1 d cs' y → x ∈ l → y ∈ l' → Below W.heap.size W w1 → Calls Tryd.prog 51 #[.agg cs.toArray, .agg cs'.toArray, ptr] w1 fun e w' => e = .returned (.bool (decide (x = y))) ∧ Below w1.heap.size w1 w') :
    Calls Tryd.prog 50 #[.slice a l.length c, .slice a' l'.length c', .func (.func 51) #[] #[ptr]] W fun e w' => e = .returned (.bool (decide (l = l'))) ∧ Below W.heap.size W w' := by
  have HX := Lib.hid hx
  have HX' := Lib.hid hx'
  have HC0 := Lib.hid hC
  clear hx hx' hC
  unfold maxLen at hm
  by_cases hl : l.length = l'.length
  case neg =>
    rw [decide_eq_false (fun h => hl (by rw [h]))]
    have h1 : ((l.length : Int) != (l'.length : Int)) = true := bne_iff_ne.2 (by omega)
    go_enter Tryd.func50, Tryd.ntmps50
    go_wp2
    go_ret
    exact ⟨rfl, Below.refl _ _⟩
  have h1 : ((l.length : Int) != (l'.length : Int)) = false := by rw [hl]; exact bne_self_eq_false _
  have HL := Lib.hid hl
  clear hl
  go_enter Tryd.func50, Tryd.ntmps50
  go_wp2
  go_loopw [17] (fun iv wr => ∃ (j : Nat), iv = .int .i64 j ∧ j ≤ l.length ∧ Hid (l.take j = l'.take j) ∧ Below W.heap.size W wr) (fun iv _ => l.length - (intOf iv).toNat)
  case atStart => exact ⟨0, rfl, by omega, Lib.hid rfl, Below.refl _ _⟩
  case round =>
    obtain ⟨i, rfl, hi, HS, hb⟩ := hrel
    by_cases hlt : i < l.length
    · have hlt' : i < l'.length := by rw [← HL.out]; exact hlt
      obtain ⟨b, off, rfl, hx⟩ := HX.out (by omega)
      obtain ⟨b', off', rfl, hx'⟩ := HX'.out (by omega)
      obtain ⟨cs1, hlen1, hr1, x, hxi, hv1⟩ := hx i hlt
      obtain ⟨cs2, hlen2, hr2, y, hyi, hv2⟩ := hx' i hlt'
      obtain ⟨ai, ci, ak, ck, rfl⟩ := hv1.form
      obtain ⟨ai', ci', ak', ck', rfl⟩ := hv2.form
      obtain ⟨m0, m1, m2, m3, m4⟩ := range5 (range_below hb hr1)
      have hbA : Below wr.heap.size wr (wr.alloc (.cells #[.int .i64 x.kind, .int .i64 x.num, .string ⟨x.txt.toArray⟩, .slice ai x.items.length ci, .slice ak x.keys.length ck] 25)) := (Below.refl wr.heap.size wr).alloc (Nat.le_refl _) _
      obtain ⟨p0, p1, p2, p3, p4⟩ := range5 (range_below hbA (range_below hb hr2))
      have hv1 := hv1.below hb
      have hv2 := hv2.below hb
      have hjl : (i : Int) < (l'.length : Int) := by omega
      have HC := fun (w1 : World) (hb1 : Below wr.heap.size wr w1) => HC0.out _ _ x y w1 (hv1.below hb1) (hv2.below hb1) (List.mem_of_getElem? hxi) (List.mem_of_getElem? hyi) (on_below hb hb1 hb.size)
      clear hx hx' hr1 hr2 HX HX' HC0 hv1 hv2 hlen1 hlen2
      have hb0 : Below wr.heap.size wr ((wr.alloc (.cells #[.int .i64 x.kind, .int .i64 x.num, .string ⟨x.txt.toArray⟩, .slice ai x.items.length ci, .slice ak x.keys.length ck] 25)).alloc (.cells #[.int .i64 y.kind, .int .i64 y.num, .string ⟨y.txt.toArray⟩, .slice ai' y.items.length ci', .slice ak' y.keys.length ck'] 25)) := ((Below.refl wr.heap.size wr).alloc (Nat.le_refl _) _).alloc (by simp) _
      have lX : Lies ((wr.alloc (.cells #[.int .i64 x.kind, .int .i64 x.num, .string ⟨x.txt.toArray⟩, .slice ai x.items.length ci, .slice ak x.keys.length ck] 25)).alloc (.cells #[.int .i64 y.kind, .int .i64 y.num, .string ⟨y.txt.toArray⟩, .slice ai' y.items.length ci', .slice ak' y.keys.length ck'] 25)) wr.heap.size 25 #[.int .i64 x.kind, .int .i64 x.num, .string ⟨x.txt.toArray⟩, .slice ai x.items.length ci, .slice ak x.keys.length ck] := (Lies.new wr _ _).alloc _
      have lY : Lies ((wr.alloc (.cells #[.int .i64 x.kind, .int .i64 x.num, .string ⟨x.txt.toArray⟩, .slice ai x.items.length ci, .slice ak x.keys.length ck] 25)).alloc (.cells #[.int .i64 y.kind, .int .i64 y.num, .string ⟨y.txt.toArray⟩, .slice ai' y.items.length ci', .slice ak' y.keys.length ck'] 25)) (wr.heap.size + 1) 25 #[.int .i64 y.kind, .int .i64 y.num, .string ⟨y.txt.toArray⟩, .slice ai' y.items.length ci', .slice ak' y.keys.length ck'] := by
        have := Lies.new (wr.alloc (.cells #[.int .i64 x.kind, .int .i64 x.num, .string ⟨x.txt.toArray⟩, .slice ai x.items.length ci, .slice ak x.keys.length ck] 25)) 25 #[.int .i64 y.kind, .int .i64 y.num, .string ⟨y.txt.toArray⟩, .slice ai' y.items.length ci', .slice ak' y.keys.length ck']
        simpa using this
      have x0 := lX.cell 0
      have x1 := lX.cell 1
      have x2 := lX.cell 2
      have x3 := lX.cell 3
      have x4 := lX.cell 4
      have y0 := lY.cell 0
      have y1 := lY.cell 1
      have y2 := lY.cell 2
      have y3 := lY.cell 3
      have y4 := lY.cell 4
      simp only [List.getElem?_toArray, List.getElem?_cons_succ, List.getElem?_cons_zero] at x0 x1 x2 x3 x4 y0 y1 y2 y3 y4
      clear lX lY hbA
      by_cases hxy : x = y
      · have HS2 := Lib.hid (show l.take (i + 1) = l'.take (i + 1) by
          rw [List.take_succ_eq_append_getElem hlt, List.take_succ_eq_append_getElem hlt', HS.out, (List.getElem?_eq_some_iff.1 hxi).2, (List.getElem?_eq_some_iff.1 hyi).2, hxy])
        rw [decide_eq_true hxy] at HC
        have HC := Lib.hid HC
        clear hxi hyi HS hxy
        go_wp2_with (go_at_call 51; refine (HC.out _ hb0).mono ?_; rintro e w2 ⟨rfl, hb2⟩)
        go_roundw
        case rel => exact ⟨i + 1, by go_num, by omega, HS2, on_below hb (below_on hb0 hb2) hb.size⟩
        case measure => simp [intOf]; omega
      · have hr := Lib.hid (show decide (l = l') = false from decide_eq_false (fun h => hxy (by
          rw [h, hyi] at hxi
          exact (Option.some.inj hxi).symm)))
        rw [decide_eq_false hxy] at HC
        have HC := Lib.hid HC
        clear hxi hyi HS hxy
        go_wp2_with (go_at_call 51; refine (HC.out _ hb0).mono ?_; rintro e w2 ⟨rfl, hb2⟩)
        go_ret
        exact ⟨ret1_of (by rw [hr.out]; rfl), on_below hb (below_on hb0 hb2) hb.size⟩
    · have hr := Lib.hid (show decide (l = l') = true from decide_eq_true (by
        have := HS.out
        rwa [List.take_of_length_le (by omega), List.take_of_length_le (by have := HL.out; omega)] at this))
      clear HX HX' HC0 HS
      go_wp2
      go_ret
      exact ⟨ret1_of (by rw [hr.out]; rfl), hb⟩
set_option maxHeartbeats 1600000 in
theorem clos_any (d : Nat) (cs cs' : List Value) (x y : VT) (L B : Nat) (W : World) (hv : IsV W d cs x) (hv' : IsV W d cs' y) (hc : W.cell? ⟨B, 0, none⟩ = some (.int .i64 ((L : Int) + 1)))
    (hL : L ≤ 65537) (hA : ∀ w1, Below W.heap.size W w1 → Calls Tryd.prog 40 #[.agg cs.toArray, .agg cs'.toArray, .int .i64 (L : Int)] w1 fun e w' => e = .returned (.bool (decide (x = y))) ∧ Below w1.heap.size w1 w') :
    Calls Tryd.prog 51 #[.agg cs.toArray, .agg cs'.toArray, .pointer (some ⟨B, 0, none⟩)] W fun e w' => e = .returned (.bool (decide (x = y))) ∧ Below W.heap.size W w' := by
  obtain ⟨ai, ci, ak, ck, rfl⟩ := hv.form
  obtain ⟨ai', ci', ak', ck', rfl⟩ := hv'.form
  have HA := Lib.hid hA
  clear hA hv hv'
  have hb0 : Below W.heap.size W ((W.alloc (.cells #[.int .i64 x.kind, .int .i64 x.num, .string ⟨x.txt.toArray⟩, .slice ai x.items.length ci, .slice ak x.keys.length ck] 25)).alloc (.cells #[.int .i64 y.kind, .int .i64 y.num, .string ⟨y.txt.toArray⟩, .slice ai' y.items.length ci', .slice ak' y.keys.length ck'] 25)) := ((Below.refl W.heap.size W).alloc (Nat.le_refl _) _).alloc (by simp) _
  have lX : Lies ((W.alloc (.cells #[.int .i64 x.kind, .int .i64 x.num, .string ⟨x.txt.toArray⟩, .slice ai x.items.length ci, .slice ak x.keys.length ck] 25)).alloc (.cells #[.int .i64 y.kind, .int .i64 y.num, .string ⟨y.txt.toArray⟩, .slice ai' y.items.length ci', .slice ak' y.keys.length ck'] 25)) W.heap.size 25 #[.int .i64 x.kind, .int .i64 x.num, .string ⟨x.txt.toArray⟩, .slice ai x.items.length ci, .slice ak x.keys.length ck] := (Lies.new W _ _).alloc _
  have lY : Lies ((W.alloc (.cells #[.int .i64 x.kind, .int .i64 x.num, .string ⟨x.txt.toArray⟩, .slice ai x.items.length ci, .slice ak x.keys.length ck] 25)).alloc (.cells #[.int .i64 y.kind, .int .i64 y.num, .string ⟨y.txt.toArray⟩, .slice ai' y.items.length ci', .slice ak' y.keys.length ck'] 25)) (W.heap.size + 1) 25 #[.int .i64 y.kind, .int .i64 y.num, .string ⟨y.txt.toArray⟩, .slice ai' y.items.length ci', .slice ak' y.keys.length ck'] := by
    have := Lies.new (W.alloc (.cells #[.int .i64 x.kind, .int .i64 x.num, .string ⟨x.txt.toArray⟩, .slice ai x.items.length ci, .slice ak x.keys.length ck] 25)) 25 #[.int .i64 y.kind, .int .i64 y.num, .string ⟨y.txt.toArray⟩, .slice ai' y.items.length ci', .slice ak' y.keys.length ck']
    simpa using this
  have c1 := (hb0.cell (World.block_lt_of_cell? W _ hc)).trans hc
  have x0 := lX.cell 0; have y0 := lY.cell 0; have x1 := lX.cell 1; have y1 := lY.cell 1; have x2 := lX.cell 2; have y2 := lY.cell 2; have x3 := lX.cell 3; have y3 := lY.cell 3; have x4 := lX.cell 4; have y4 := lY.cell 4
  simp only [List.getElem?_toArray, List.getElem?_cons_succ, List.getElem?_cons_zero] at x0 x1 x2 x3 x4 y0 y1 y2 y3 y4
  clear lX lY hc
  generalize decide (x = y) = b at *
  go_enter Tryd.func51, Tryd.ntmps51
  go_wp2_with (go_at_call 40; refine (HA.out _ hb0).mono ?_; rintro e w2 ⟨rfl, hb2⟩)
  go_ret
  exact ⟨rfl, below_on hb0 hb2⟩
set_option maxHeartbeats 3200000 in
theorem alike_any : ∀ (d : Nat) (cs cs' : List Value) (t u : VT) (L : Nat) (w : World), IsV w d cs t → IsV w d cs' u → t.depth ≤ L → u.depth ≤ L → L ≤ 65537 →
    Calls Tryd.prog 40 #[.agg cs.toArray, .agg cs'.toArray, .int .i64 (L : Int)] w fun e w' => e = .returned (.bool (decide (t = u))) ∧ Below w.heap.size w w' := by
  intro d
  induction d with
  | zero => intro cs cs' t u L w h; exact h.elim
  | succ d ih =>
    intro cs cs' t u L W h h' hd hd' hL
    obtain ⟨vi, vk, rfl, _, hks, a, c, rfl, hc, hm, _, hx⟩ := h
    obtain ⟨vi', vk', rfl, _, hks', a', c', rfl, hc', hm', _, hx'⟩ := h'
    obtain ⟨k, n, s, l, ks⟩ := t
    obtain ⟨k', n', s', l', ks'⟩ := u
    obtain ⟨ka, kc, rfl, hkc, hkm, hkn, hkx⟩ := hks
    obtain ⟨ka', kc', rfl, hkc', hkm', hkn', hkx'⟩ := hks'
    have HS : Hid (Strs W (.slice ka ks.length kc) ks) := Lib.hid ⟨ka, kc, rfl, hkc, hkm, hkn, hkx⟩
    have HS' : Hid (Strs W (.slice ka' ks'.length kc') ks') := Lib.hid ⟨ka', kc', rfl, hkc', hkm', hkn', hkx'⟩
    clear hkc hkm hkn hkx hkc' hkm' hkn' hkx'
    have HI := Lib.hid ih
    have HX := Lib.hid hx
    have HX' := Lib.hid hx'
    rw [depth_eq] at hd hd'
    obtain ⟨L, rfl⟩ : ∃ i, L = i + 1 := ⟨L - 1, by omega⟩
    rw [show ((L + 1 : Nat) : Int) = (L : Int) + 1 by omega]
    have hL1 : (L : Int) + 1 > 0 := by omega
    simp only [VT.items, VT.kind, VT.num, VT.txt, VT.keys, str] at *
    clear ih hx hx'
    have hbW : Below W.heap.size W (((W.alloc (.cells #[.int .i64 k, .int .i64 n, .string ⟨s.toArray⟩, .slice a l.length c, .slice ka ks.length kc] 25)).alloc (.cells #[.int .i64 k', .int .i64 n', .string ⟨s'.toArray⟩, .slice a' l'.length c', .slice ka' ks'.length kc'] 25)).alloc (.cells #[.int .i64 ((L : Int) + 1)] 3)) := (((Below.refl W.heap.size W).alloc (Nat.le_refl _) _).alloc (by simp) _).alloc (by simp; omega) _
    have lX : Lies (((W.alloc (.cells #[.int .i64 k, .int .i64 n, .string ⟨s.toArray⟩, .slice a l.length c, .slice ka ks.length kc] 25)).alloc (.cells #[.int .i64 k', .int .i64 n', .string ⟨s'.toArray⟩, .slice a' l'.length c', .slice ka' ks'.length kc'] 25)).alloc (.cells #[.int .i64 ((L : Int) + 1)] 3)) W.heap.size 25 #[.int .i64 k, .int .i64 n, .string ⟨s.toArray⟩, .slice a l.length c, .slice ka ks.length kc] := ((Lies.new W _ _).alloc _).alloc _
    have lY : Lies (((W.alloc (.cells #[.int .i64 k, .int .i64 n, .string ⟨s.toArray⟩, .slice a l.length c, .slice ka ks.length kc] 25)).alloc (.cells #[.int .i64 k', .int .i64 n', .string ⟨s'.toArray⟩, .slice a' l'.length c', .slice ka' ks'.length kc'] 25)).alloc (.cells #[.int .i64 ((L : Int) + 1)] 3)) (W.heap.size + 1) 25 #[.int .i64 k', .int .i64 n', .string ⟨s'.toArray⟩, .slice a' l'.length c', .slice ka' ks'.length kc'] := by
      have := (Lies.new (W.alloc (.cells #[.int .i64 k, .int .i64 n, .string ⟨s.toArray⟩, .slice a l.length c, .slice ka ks.length kc] 25)) 25 #[.int .i64 k', .int .i64 n', .string ⟨s'.toArray⟩, .slice a' l'.length c', .slice ka' ks'.length kc']).alloc (.cells #[.int .i64 ((L : Int) + 1)] 3)
      simpa using this
    have lL : Lies (((W.alloc (.cells #[.int .i64 k, .int .i64 n, .string ⟨s.toArray⟩, .slice a l.length c, .slice ka ks.length kc] 25)).alloc (.cells #[.int .i64 k', .int .i64 n', .string ⟨s'.toArray⟩, .slice a' l'.length c', .slice ka' ks'.length kc'] 25)).alloc (.cells #[.int .i64 ((L : Int) + 1)] 3)) (W.heap.size + 2) 3 #[.int .i64 ((L : Int) + 1)] := by
      have := Lies.new ((W.alloc (.cells #[.int .i64 k, .int .i64 n, .string ⟨s.toArray⟩, .slice a l.length c, .slice ka ks.length kc] 25)).alloc (.cells #[.int .i64 k', .int .i64 n', .string ⟨s'.toArray⟩, .slice a' l'.length c', .slice ka' ks'.length kc'] 25)) 3 #[.int .i64 ((L : Int) + 1)]
      simpa using this
    have x0 := lX.cell 0; have y0 := lY.cell 0; have x1 := lX.cell 1; have y1 := lY.cell 1; have x2 := lX.cell 2; have y2 := lY.cell 2; have x3 := lX.cell 3; have y3 := lY.cell 3; have x4 := lX.cell 4; have y4 := lY.cell 4; have z0 := lL.cell 0
    simp only [List.getElem?_toArray, List.getElem?_cons_succ, List.getElem?_cons_zero] at x0 y0 x1 y1 x2 y2 x3 y3 x4 y4 z0
    by_cases hk : k = k'
    case neg =>
      rw [vt_ne (fun h => hk h.1)]
      have h1 : (k == k') = false := by simpa using hk
      clear HI HX HX' HS HS'
      go_enter Tryd.func40, Tryd.ntmps40
      go_wp2
      go_ret
      exact ⟨rfl, hbW⟩
    subst hk
    by_cases hn : n = n'
    case neg =>
      rw [vt_ne (fun h => hn h.2.1)]
      have h1 : (n == n') = false := by simpa using hn
      clear HI HX HX' HS HS'
      go_enter Tryd.func40, Tryd.ntmps40
      go_wp2
      go_ret
      exact ⟨rfl, hbW⟩
    subst hn
    by_cases hs : s = s'
    case neg =>
      rw [vt_ne (fun h => hs h.2.2.1)]
      have h1 := hs
      clear HI HX HX' HS HS'
      go_enter Tryd.func40, Tryd.ntmps40
      go_wp2
      go_ret
      exact ⟨rfl, hbW⟩
    subst hs
    by_cases hkk : ks = ks'
    case neg =>
      rw [vt_ne (fun h => hkk h.2.2.2.2)]
      have HE := Lib.hid (fun (w1 : World) (hb : Below W.heap.size W w1) => strEq_no _ _ _ _ w1 (HS.out.below hb) (HS'.out.below hb) hkk)
      clear HI HX HX' hkk HS HS'
      go_enter Tryd.func40, Tryd.ntmps40
      go_wp2_with (go_at_call 49; (with_reducible refine (HE.out _ hbW).mono ?_); rintro e w1 ⟨rfl, hb1⟩; replace hbW := below_on hbW hb1; replace lX := lX.on hb1; replace lY := lY.on hb1; replace lL := lL.on hb1; have x0 := lX.cell 0; have y0 := lY.cell 0; have x1 := lX.cell 1; have y1 := lY.cell 1; have x2 := lX.cell 2; have y2 := lY.cell 2; have x3 := lX.cell 3; have y3 := lY.cell 3; have x4 := lX.cell 4; have y4 := lY.cell 4; have z0 := lL.cell 0; simp only [List.getElem?_toArray, List.getElem?_cons_succ, List.getElem?_cons_zero] at x0 y0 x1 y1 x2 y2 x3 y3 x4 y4 z0)
      go_ret
      exact ⟨rfl, hbW⟩
    have HE := Lib.hid (fun (w1 : World) (hb : Below W.heap.size W w1) => strEq_yes _ _ _ _ w1 (HS.out.below hb) (HS'.out.below hb) hkk)
    clear HS HS'
    have hfin := Lib.hid (show decide (l = l') = decide (VT.mk k n s l ks = VT.mk k n s l' ks') by
      rw [hkk]
      by_cases hll : l = l'
      · rw [hll, decide_eq_true rfl, decide_eq_true rfl]
      · rw [decide_eq_false hll, vt_ne (fun h => hll h.2.2.2.1)])
    rw [← hfin.out]
    have HF := Lib.hid (fun (w1 : World) (hb : Below W.heap.size W w1) (hz : w1.cell? ⟨W.heap.size + 2, 0, none⟩ = some (.int .i64 ((L : Int) + 1))) =>
      eqf_any d l l' a a' c c' (.pointer (some ⟨W.heap.size + 2, 0, none⟩)) w1 hm hc
        (fun h => let ⟨b, off, ha, hi⟩ := HX.out h; ⟨b, off, ha, fun i hlt => let ⟨cs, h1, h2, x, h3, h4⟩ := hi i hlt; ⟨cs, h1, range_below hb h2, x, h3, h4.below hb⟩⟩)
        (fun h => let ⟨b, off, ha, hi⟩ := HX'.out h; ⟨b, off, ha, fun i hlt => let ⟨cs, h1, h2, x, h3, h4⟩ := hi i hlt; ⟨cs, h1, range_below hb h2, x, h3, h4.below hb⟩⟩)
        (fun cs cs' x y w2 hx hy hxl hyl hb2 => clos_any d cs cs' x y L (W.heap.size + 2) w2 hx hy ((hb2.cell (World.block_lt_of_cell? w1 _ hz)).trans hz) (by omega)
          (fun w3 hb3 => HI.out cs cs' x y L w3 (hx.below hb3) (hy.below hb3) (by have := depthL_mem hxl; omega) (by have := depthL_mem hyl; omega) (by omega))))
    clear HI HX HX' hfin hkk
    generalize decide (l = l') = b at *
    go_enter Tryd.func40, Tryd.ntmps40
    go_wp2_with (first | (go_at_call 49; (with_reducible refine (HE.out _ hbW).mono ?_); rintro e w1 ⟨rfl, hb1⟩; replace hbW := below_on hbW hb1; replace lX := lX.on hb1; replace lY := lY.on hb1; replace lL := lL.on hb1; have x0 := lX.cell 0; have y0 := lY.cell 0; have x1 := lX.cell 1; have y1 := lY.cell 1; have x2 := lX.cell 2; have y2 := lY.cell 2; have x3 := lX.cell 3; have y3 := lY.cell 3; have x4 := lX.cell 4; have y4 := lY.cell 4; have z0 := lL.cell 0; simp only [List.getElem?_toArray, List.getElem?_cons_succ, List.getElem?_cons_zero] at x0 y0 x1 y1 x2 y2 x3 y3 x4 y4 z0) | (go_at_call 50; (with_reducible refine (HF.out _ hbW z0).mono ?_); rintro e w2 ⟨rfl, hb2⟩))
    go_ret
    exact ⟨rfl, below_on hbW hb2⟩
theorem alike_top (d : Nat) (cs cs' : List Value) (t u : VT) (w : World) (h : IsV w d cs t) (h' : IsV w d cs' u) (hd : t.depth ≤ 65537) (hd' : u.depth ≤ 65537) :
    Calls Tryd.prog 40 #[.agg cs.toArray, .agg cs'.toArray, .int .i64 65537] w fun e w' => e = .returned (.bool (decide (t = u))) ∧ Below w.heap.size w w' := alike_any d cs cs' t u 65537 w h h' hd hd' (Nat.le_refl _)
set_option maxHeartbeats 1600000 in
theorem same_any (d : Nat) (cs cs' : List Value) (x y : VT) (W : World) (hv : IsV W d cs x) (hv' : IsV W d cs' y) (hd : x.depth ≤ 65537) (hd' : y.depth ≤ 65537) :
    Calls Tryd.prog 26 #[.agg cs.toArray, .agg cs'.toArray] W fun e w' => e = .returned (.bool (decide (x = y))) ∧ Below W.heap.size W w' := by
  have HA := Lib.hid (fun (w1 : World) (hb : Below W.heap.size W w1) => alike_top d cs cs' x y w1 (hv.below hb) (hv'.below hb) hd hd')
  obtain ⟨ai, ci, ak, ck, rfl⟩ := hv.form
  obtain ⟨ai', ci', ak', ck', rfl⟩ := hv'.form
  clear hv hv' hd hd'
  have hb0 : Below W.heap.size W ((W.alloc (.cells #[.int .i64 x.kind, .int .i64 x.num, .string ⟨x.txt.toArray⟩, .slice ai x.items.length ci, .slice ak x.keys.length ck] 25)).alloc (.cells #[.int .i64 y.kind, .int .i64 y.num, .string ⟨y.txt.toArray⟩, .slice ai' y.items.length ci', .slice ak' y.keys.length ck'] 25)) := ((Below.refl W.heap.size W).alloc (Nat.le_refl _) _).alloc (by simp) _
  have lX : Lies ((W.alloc (.cells #[.int .i64 x.kind, .int .i64 x.num, .string ⟨x.txt.toArray⟩, .slice ai x.items.length ci, .slice ak x.keys.length ck] 25)).alloc (.cells #[.int .i64 y.kind, .int .i64 y.num, .string ⟨y.txt.toArray⟩, .slice ai' y.items.length ci', .slice ak' y.keys.length ck'] 25)) W.heap.size 25 #[.int .i64 x.kind, .int .i64 x.num, .string ⟨x.txt.toArray⟩, .slice ai x.items.length ci, .slice ak x.keys.length ck] := (Lies.new W _ _).alloc _
  have lY : Lies ((W.alloc (.cells #[.int .i64 x.kind, .int .i64 x.num, .string ⟨x.txt.toArray⟩, .slice ai x.items.length ci, .slice ak x.keys.length ck] 25)).alloc (.cells #[.int .i64 y.kind, .int .i64 y.num, .string ⟨y.txt.toArray⟩, .slice ai' y.items.length ci', .slice ak' y.keys.length ck'] 25)) (W.heap.size + 1) 25 #[.int .i64 y.kind, .int .i64 y.num, .string ⟨y.txt.toArray⟩, .slice ai' y.items.length ci', .slice ak' y.keys.length ck'] := by
    have := Lies.new (W.alloc (.cells #[.int .i64 x.kind, .int .i64 x.num, .string ⟨x.txt.toArray⟩, .slice ai x.items.length ci, .slice ak x.keys.length ck] 25)) 25 #[.int .i64 y.kind, .int .i64 y.num, .string ⟨y.txt.toArray⟩, .slice ai' y.items.length ci', .slice ak' y.keys.length ck']
    simpa using this
  have x0 := lX.cell 0; have y0 := lY.cell 0; have x1 := lX.cell 1; have y1 := lY.cell 1; have x2 := lX.cell 2; have y2 := lY.cell 2; have x3 := lX.cell 3; have y3 := lY.cell 3; have x4 := lX.cell 4; have y4 := lY.cell 4
  simp only [List.getElem?_toArray, List.getElem?_cons_succ, List.getElem?_cons_zero] at x0 x1 x2 x3 x4 y0 y1 y2 y3 y4
  clear lX lY
  generalize decide (x = y) = b at *
  go_enter Tryd.func26, Tryd.ntmps26
  go_wp2_with (go_at_call 40; refine (HA.out _ hb0).mono ?_; rintro e w2 ⟨rfl, hb2⟩)
  go_ret
  exact ⟨rfl, below_on hb0 hb2⟩
end Go.Proofs.YtdfdpckcemdimaaDoor.V
