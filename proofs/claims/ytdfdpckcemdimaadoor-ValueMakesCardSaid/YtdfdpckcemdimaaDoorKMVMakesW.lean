/- The walk of the statement of values that are made: whatever value, key, pairs, text and number, it answers true. -/
import Derived.Test.YtdfdpckcemdimaaDoorK5
import Derived.Deep.CutRange
import Derived.Deep.CutBlock
namespace Go.Proofs.YtdfdpckcemdimaaDoor.V
open Go.RowKit Go.Sort Go.Joins
set_option maxRecDepth 100000

theorem IsV.item {w : World} {d : Nat} {k n s : Value} {a ak : Option Addr} {m c nk ck : Nat} {t : VT} (h : IsV w (d + 1) [k, n, s, .slice a m c, .slice ak nk ck] t) {j : Nat} (hj : j < t.items.length) :
    ∃ b off x y, a = some ⟨b, off, none⟩ ∧ t.items[j]? = some y ∧ w.rangeAt b (off + j * 5) x ∧ IsV w d x y := by
  obtain ⟨vi, vk, e, _, _, a', c', rfl, _, _, _, hl⟩ := h
  simp only [List.cons.injEq, and_true] at e
  obtain ⟨_, _, _, e, _⟩ := e
  injection e with e1 e2 e3
  subst e1
  obtain ⟨b, off, rfl, hx⟩ := hl (by omega)
  obtain ⟨cs, _, hr, x, hx1, hx2⟩ := hx j hj
  exact ⟨b, off, cs, x, rfl, hx1, hr, hx2⟩
theorem IsV.key {w : World} {d : Nat} {k n s vi : Value} {ak : Option Addr} {nk ck : Nat} {t : VT} (h : IsV w d [k, n, s, vi, .slice ak nk ck] t) {j : Nat} (hj : j < t.keys.length) :
    ∃ b off x, ak = some ⟨b, off, none⟩ ∧ t.keys[j]? = some x ∧ w.cell? ⟨b, off + j, none⟩ = some (.string ⟨x.toArray⟩) := by
  obtain ⟨a', c', e, _, _, _, hx⟩ := h.keyRow
  injection e with e1 e2 e3
  subst e1
  obtain ⟨b, off, rfl, hx2⟩ := hx (by intro e; rw [e] at hj; simp at hj)
  exact ⟨b, off, t.keys[j], rfl, List.getElem?_eq_getElem hj, hx2 j _ (List.getElem?_eq_getElem hj)⟩
section
variable {a : Act} {d : Option Tmp} {x : Operand} {t' : TypeId} {pos : String} {after : Array Edge} {gd : Option (Nat × Bool)}
theorem run_ldV {w : World} (b n : Nat) (cs : Array Value) (hs : cs.size = 5) (hg : Lies w b n cs) (hx : a.eval x = .pointer (some ⟨b, 0, none⟩)) :
    (execOp a.eval ⟨d, .load 25 x, t', pos, after, gd⟩).run Tryd.prog w = .ok (.value (.agg cs)) w := by
  unfold execOp
  simp only [hx, Instr.loadAt, Instr.sureAddr, Sem.run_bind, Sem.run_pure, Result.andThen_ok, run_loadVar_row w b n 25 cs (0, 0) _ hg Tryd.underlying25 rfl (by rw [hs]; exact rowVal.2)]
end
theorem RowL.two (w : World) (e : TypeId) (k : Nat) (cs cs' : List Value) (hk : cs.length = k) (hk' : cs'.length = k) : RowL (w.alloc (.cells (cs ++ cs').toArray e)) k (.slice (some ⟨w.heap.size, 0, none⟩) 2 2) [cs, cs'] := by
  refine ⟨fun c h => ?_, some ⟨w.heap.size, 0, none⟩, 2, rfl, Nat.le_refl _, by decide, (fun e => by cases e), fun _ => ⟨w.heap.size, 0, rfl, fun i c hi j u hu => ?_⟩⟩
  · rcases List.mem_cons.1 h with rfl | h
    · exact hk
    · rw [List.mem_singleton.1 h]; exact hk'
  · have hl := fun i => (Lies.new w e (cs ++ cs').toArray).cell i
    rw [hl]
    rcases i with _ | _ | i
    · simp at hi
      subst hi
      have := (List.getElem?_eq_some_iff.1 hu).1
      simp only [List.getElem?_toArray]
      rw [show 0 + 0 * k + j = j by omega, List.getElem?_append_left this]
      exact hu
    · simp at hi
      subst hi
      simp only [List.getElem?_toArray]
      rw [show 0 + (0 + 1) * k + j = cs.length + j by omega, List.getElem?_append_right (by omega)]
      rw [show cs.length + j - cs.length = j by omega]
      exact hu
    · simp at hi
theorem isV_two {w : World} {d : Nat} {v : Value} {cs : List Value} {y : VT} (hv : RowL w 5 v [cs, cs]) (h : IsV w d cs y) : IsV w (d + 1) [.int .i64 3, .int .i64 0, .string ⟨#[]⟩, v, .slice none 0 0] (listT [y, y]) := by
  refine isV_list hv rfl (fun i c hi => ?_)
  rcases i with _ | _ | i
  · simp at hi
    subst hi
    exact ⟨y, rfl, h⟩
  · simp at hi
    subst hi
    exact ⟨y, rfl, h⟩
  · simp at hi
theorem one_ten (a b : Int) (s : ByteArray) (x y : Option Addr) (n m c d : Nat) : ∀ u ∈ [[(Value.int .i64 a : Value), .int .i64 b, .string s, .slice x n c, .slice y m d], [(Value.int .i64 a : Value), .int .i64 b, .string s, .slice x n c, .slice y m d]].flatten, u.oneCell' = true := by
  intro u hu
  simp only [List.flatten_cons, List.flatten_nil, List.append_nil, List.cons_append, List.nil_append, List.mem_cons, List.not_mem_nil, or_false] at hu
  rcases hu with rfl | rfl | rfl | rfl | rfl | rfl | rfl | rfl | rfl | rfl <;> rfl
set_option maxHeartbeats 12800000 in
theorem makesV_walk (d : Nat) (cs : List Value) (t : VT) (key : List UInt8) (v : Value) (S0 : List PairT) (s : List UInt8) (n : Int) (W : World) (hv : IsV W d cs t) (hk : key.length ≤ maxLen) (h : Pairs W d v S0) (hs : s.length ≤ maxLen)
    (hn : -9223372036854775808 ≤ n ∧ n ≤ 9223372036854775807) (hM : MaxAt W) (hT : Tab W) :
    Calls Tryd.prog 4 #[.agg cs.toArray, .string ⟨key.toArray⟩, v, .string ⟨s.toArray⟩, .int .i64 n] W fun e w' => e = .returned (.bool true) ∧ Below W.heap.size W w' := by
  cases d with
  | zero => exact hv.elim
  | succ d =>
  have hv1 := hv
  obtain ⟨ai, ci, ak, ck, rfl⟩ := hv1.form
  clear hv1
  obtain ⟨a, c, rfl, hc, hm, _⟩ := h.1.form
  rw [List.length_map] at hc
  rw [List.length_map] at h
  rw [List.length_map]
  have hsl : (min (S0.length : Int) 20) ≤ c := by omega
  have hF := h.front (j := (min (S0.length : Int) 20).toNat) (by omega)
  obtain ⟨S, hS, hl0⟩ : ∃ S, S0.take (min (S0.length : Int) 20).toNat = S ∧ S.length = (min (S0.length : Int) 20).toNat := ⟨_, rfl, by rw [List.length_take]; omega⟩
  rw [hS, ← hl0] at hF
  have hl1 : S.length ≤ 20 := by omega
  have HB := Lib.hid (fun (w1 : World) (hb : Below W.heap.size W w1) => big_any (d + 1) _ t w1 (hv.below hb))
  have HAl := Lib.hid (fun (w1 : World) (hb : Below W.heap.size W w1) => alive_any w1 (hM.below hb) (hT.below hb))
  have HV := Lib.hid (fun (w1 : World) (hb : Below W.heap.size W w1) => hv.below hb)
  have HPs := Lib.hid (fun (w1 : World) (hb : Below W.heap.size W w1) => hF.below hb)
  have hba0 := (Below.refl W.heap.size W).alloc (Nat.le_refl _) (.cells #[.int .i64 t.kind, .int .i64 t.num, .string ⟨t.txt.toArray⟩, .slice ai t.items.length ci, .slice ak t.keys.length ck] 25)
  have l5 := Lies.new W 25 #[.int .i64 t.kind, .int .i64 t.num, .string ⟨t.txt.toArray⟩, .slice ai t.items.length ci, .slice ak t.keys.length ck]
  clear hv h hS hM hT hm hF
  by_cases hbig : 2100 < t.count
  · rw [decide_eq_true hbig] at HB
    go_enter Tryd.func4, Tryd.ntmps4
    have y0 := l5.cell 0; have y1 := l5.cell 1; have y2 := l5.cell 2; have y3 := l5.cell 3; have y4 := l5.cell 4; simp only [List.getElem?_toArray, List.getElem?_cons_succ, List.getElem?_cons_zero] at y0 y1 y2 y3 y4
    go_wp2_with (first
      | (go_at_call 9; (with_reducible refine (HB.out _ hba0).mono ?_); rintro e w3 ⟨rfl, hb3⟩; replace hba0 := below_on hba0 hb3)
      | (go_at_call 10; (with_reducible refine (HAl.out _ hba0).mono ?_); rintro e w4 ⟨rfl, hb4⟩; replace hba0 := below_on hba0 hb4))
    go_ret
    exact ⟨rfl, hba0⟩
  rw [decide_eq_false hbig] at HB
  clear hbig
  go_enter Tryd.func4, Tryd.ntmps4
  have y0 := l5.cell 0; have y1 := l5.cell 1; have y2 := l5.cell 2; have y3 := l5.cell 3; have y4 := l5.cell 4; simp only [List.getElem?_toArray, List.getElem?_cons_succ, List.getElem?_cons_zero] at y0 y1 y2 y3 y4
  have HG := Lib.hid (fun (w1 : World) (hb : Below W.heap.size W w1) => get_any d _ t key w1 (HV.out w1 hb))
  go_upto_region 5 with (first
    | (go_at_call 9; (with_reducible refine (HB.out _ hba0).mono ?_); rintro e w3 ⟨rfl, hb3⟩; replace hba0 := below_on hba0 hb3; replace l5 := l5.on hb3; have y0 := l5.cell 0; have y1 := l5.cell 1; have y2 := l5.cell 2; have y3 := l5.cell 3; have y4 := l5.cell 4; simp only [List.getElem?_toArray, List.getElem?_cons_succ, List.getElem?_cons_zero] at y0 y1 y2 y3 y4)
    | (go_at_call 19; (with_reducible refine (HG.out _ hba0).mono ?_); rintro e w4 ⟨cs', rfl, hvx, hb4⟩; replace l5 := l5.on hb4; replace hba0 := below_on hba0 hb4; obtain ⟨ax, cx, bx, dx, rfl⟩ := hvx.form))
  clear y0 y1 y2 y3 y4
  have l5lt := l5.lt
  rw [← hl0]
  have hsc : S.length ≤ c := by omega
  clear hl0 hsl
  obtain ⟨y, hy⟩ : ∃ y, getT t key = y := ⟨_, rfl⟩
  obtain ⟨fd, hfd⟩ : ∃ f, (getV t key).isSome = f := ⟨_, rfl⟩
  rw [hy] at hvx
  rw [hfd, hy]
  have HX := Lib.hid (fun (w1 : World) (hb : RowKit.Below w4.heap.size w4 w1) => hvx.below hb)
  have HV4 := Lib.hid (fun (w1 : World) (hb : RowKit.Below w4.heap.size w4 w1) => HV.out w1 (on_below hba0 hb hba0.size))
  have HPs4 := Lib.hid (fun (w1 : World) (hb : RowKit.Below w4.heap.size w4 w1) => HPs.out w1 (on_below hba0 hb hba0.size))
  have HAl4 := Lib.hid (fun (w1 : World) (hb : RowKit.Below w4.heap.size w4 w1) => HAl.out w1 (on_below hba0 hb hba0.size))
  have hbx := (RowKit.Below.refl w4.heap.size w4).alloc (Nat.le_refl _) (.cells #[.int .i64 y.kind, .int .i64 y.num, .string ⟨y.txt.toArray⟩, .slice ax y.items.length cx, .slice bx y.keys.length dx] 25)
  have lX := Lies.new w4 25 #[.int .i64 y.kind, .int .i64 y.num, .string ⟨y.txt.toArray⟩, .slice ax y.items.length cx, .slice bx y.keys.length dx]
  replace l5 := l5.alloc (.cells #[.int .i64 y.kind, .int .i64 y.num, .string ⟨y.txt.toArray⟩, .slice ax y.items.length cx, .slice bx y.keys.length dx] 25)
  have hg1 : W.heap.size < w4.heap.size := l5lt
  have hsz : (w4.alloc (.cells #[.int .i64 y.kind, .int .i64 y.num, .string ⟨y.txt.toArray⟩, .slice ax y.items.length cx, .slice bx y.keys.length dx] 25)).heap.size = w4.heap.size + 1 := by simp
  clear y0 y1 y2 y3 y4 HG HB HV HPs HAl hvx hb4
  generalize w4.alloc (.cells #[.int .i64 y.kind, .int .i64 y.num, .string ⟨y.txt.toArray⟩, .slice ax y.items.length cx, .slice bx y.keys.length dx] 25) = w5 at *
  have hg2 : w4.heap.size < w5.heap.size := by omega
  go_upto_region 6 with fail
  have lZ := Lies.new w5 25 valZ
  replace lX := lX.alloc (.cells valZ 25)
  replace l5 := l5.alloc (.cells valZ 25)
  replace hbx := hbx.alloc hbx.size (.cells valZ 25)
  generalize w5.alloc (.cells valZ 25) = w6 at *
  rw [hsz] at lZ hg2
  clear hsz
  obtain ⟨g11, hg11⟩ : ∃ g, w4.heap.size = g := ⟨_, rfl⟩
  rw [hg11] at HX HV4 HPs4 HAl4 hbx lX lZ hg1 hg2 ⊢
  obtain ⟨g13, hg13⟩ : ∃ g, g11 + 1 = g := ⟨_, rfl⟩
  rw [hg13] at lZ hg2 ⊢
  clear hg13
  obtain ⟨cb, hcb⟩ : ∃ cb : Bool, decide (t.kind = 4 ∧ t.keys.length = t.items.length) = cb := ⟨_, rfl⟩
  go_cut [52] from 41 to 52 (fun s52 wx => s52 = .bool cb ∧ wx = w6)
  case first =>
    have y0 := l5.cell 0; have y1 := l5.cell 1; have y2 := l5.cell 2; have y3 := l5.cell 3; have y4 := l5.cell 4; simp only [List.getElem?_toArray, List.getElem?_cons_succ, List.getElem?_cons_zero] at y0 y1 y2 y3 y4
    by_cases h4 : t.kind = 4
    · have h4b : (t.kind == (4 : Int)) = true := by simp [h4]
      by_cases hll : t.keys.length = t.items.length
      · have hlb : ((t.keys.length : Int) == (t.items.length : Int)) = true := by simp [hll]
        rw [decide_eq_true ⟨h4, hll⟩] at hcb
        subst hcb
        clear h4 hll
        go_wp2
        go_meet
        exact ⟨rfl, rfl⟩
      · have hlb : ((t.keys.length : Int) == (t.items.length : Int)) = false := by simp; omega
        rw [decide_eq_false (fun h => hll h.2)] at hcb
        subst hcb
        clear h4 hll
        go_wp2
        go_meet
        exact ⟨rfl, rfl⟩
    · have h4b : (t.kind == (4 : Int)) = false := by simp [h4]
      rw [decide_eq_false (fun h => h4 h.1)] at hcb
      subst hcb
      clear h4
      go_wp2
      go_meet
      exact ⟨rfl, rfl⟩
  case rest =>
  obtain ⟨rfl, rfl⟩ := hcut
  have HCB := Lib.hid hcb
  have HFY := Lib.hid (show (getV t key).isSome = fd ∧ getT t key = y from ⟨hfd, hy⟩)
  clear hcb hfd hy
  go_upto_if 52 with fail
  go_cut [14, 15, 16] from 53 to 73 (fun s14 s15 s16 wx => s14 = .bool fd ∧ RowKit.Below g11 w4 wx ∧ Lies wx g11 25 #[.int .i64 y.kind, .int .i64 y.num, .string ⟨y.txt.toArray⟩, .slice ax y.items.length cx, .slice bx y.keys.length dx] ∧ ∃ (az : Option Addr) (cz : Nat) (bz : Option Addr) (dz : Nat), Lies wx g13 25 #[.int .i64 y.kind, .int .i64 y.num, .string ⟨y.txt.toArray⟩, .slice az y.items.length cz, .slice bz y.keys.length dz] ∧ IsV w4 (d + 1) [.int .i64 y.kind, .int .i64 y.num, .string ⟨y.txt.toArray⟩, .slice az y.items.length cz, .slice bz y.keys.length dz] y)
  case first =>
    cases cb with
    | false =>
      have hno := getV_kind (key := key) (of_decide_eq_false HCB.out)
      rw [HFY.out.1, HFY.out.2] at hno
      obtain ⟨rfl, rfl⟩ := hno
      clear HCB HFY
      go_wp2_with fail
      go_meet
      exact ⟨rfl, hbx, lX, none, 0, none, 0, lZ, isV_zero w4 d⟩
    | true =>
      have hk4 := of_decide_eq_true HCB.out
      have HW0 := Lib.hid (WantTo.zero t key)
      have HDn := Lib.hid (fun (f : Bool) (x : VT) (h : WantTo t key t.keys.length f x) => h.done hk4.1 hk4.2)
      have HV0 := HV4.out w4 (by rw [← hg11]; exact RowKit.Below.refl _ _)
      have HIt := Lib.hid (fun (j : Nat) (hj : j < t.items.length) => HV0.item hj)
      have HKt := Lib.hid (fun (j : Nat) (hj : j < t.keys.length) => HV0.key hj)
      have HLn := Lib.hid hk4.2
      have HZ0 := Lib.hid (isV_zero w4 d)
      have hkl : t.keys.length ≤ maxLen := by
        obtain ⟨_, _, _, h1, h2, _⟩ := HV0.keyRow
        exact Nat.le_trans h1 h2
      unfold maxLen at hkl
      clear HCB hk4 HV0
      have y0 := l5.cell 0; have y1 := l5.cell 1; have y2 := l5.cell 2; have y3 := l5.cell 3; have y4 := l5.cell 4; simp only [List.getElem?_toArray, List.getElem?_cons_succ, List.getElem?_cons_zero] at y0 y1 y2 y3 y4
      go_wp2
      go_loopw [14, 56] (fun fv iv wr => ∃ (j : Nat) (f : Bool) (x : VT) (az : Option Addr) (cz : Nat) (bz : Option Addr) (dz : Nat), fv = .bool f ∧ iv = .int .i64 j ∧ j ≤ t.keys.length ∧ Hid (WantTo t key j f x) ∧ RowKit.Below g11 w4 wr ∧ Lies wr W.heap.size 25 #[.int .i64 t.kind, .int .i64 t.num, .string ⟨t.txt.toArray⟩, .slice ai t.items.length ci, .slice ak t.keys.length ck] ∧ Lies wr g11 25 #[.int .i64 y.kind, .int .i64 y.num, .string ⟨y.txt.toArray⟩, .slice ax y.items.length cx, .slice bx y.keys.length dx] ∧ Lies wr g13 25 #[.int .i64 x.kind, .int .i64 x.num, .string ⟨x.txt.toArray⟩, .slice az x.items.length cz, .slice bz x.keys.length dz] ∧ Hid (IsV w4 (d + 1) [.int .i64 x.kind, .int .i64 x.num, .string ⟨x.txt.toArray⟩, .slice az x.items.length cz, .slice bz x.keys.length dz] x)) (fun _ iv _ => t.keys.length - (intOf iv).toNat)
      case atStart => exact ⟨0, false, zeroT, none, 0, none, 0, rfl, rfl, Nat.zero_le _, HW0, hbx, l5, lX, lZ, HZ0⟩
      case round =>
        clear y0 y1 y2 y3 y4 l5 lX lZ hbx HW0 HZ0
        obtain ⟨j, f, x, az, cz, bz, dz, rfl, rfl, hj, HWt, hb, l5, lX, lZ, HXz⟩ := hrel
        by_cases hlt : j < t.keys.length
        · obtain ⟨kb, ko, kx, rfl, hkx, hkc⟩ := HKt.out j hlt
          have hkc2 := (hb.cell (p := ⟨kb, ko + j, none⟩) (by rw [← hg11]; exact World.block_lt_of_cell? w4 _ hkc)).trans hkc
          by_cases hkk : kx = key
          · subst hkk
            cases f with
            | false =>
              obtain ⟨ib, io, xc, xv, rfl, hxi, hxr, hxv⟩ := HIt.out j (by rw [← HLn.out]; exact hlt)
              obtain ⟨xa, xe, xf, xg, rfl⟩ := hxv.form
              obtain ⟨k0, k1, k2, k3, k4⟩ := range5 (range_below (by rw [hg11]; exact hb) hxr)
              have HN := Lib.hid (HWt.out.hit hkx hxi)
              have HXn := Lib.hid (hxv.mono (Nat.le_succ d))
              have hli : (j : Int) < (t.items.length : Int) := by rw [← HLn.out]; omega
              have y0 := l5.cell 0; have y1 := l5.cell 1; have y2 := l5.cell 2; have y3 := l5.cell 3; have y4 := l5.cell 4; simp only [List.getElem?_toArray, List.getElem?_cons_succ, List.getElem?_cons_zero] at y0 y1 y2 y3 y4
              clear hkc hkx hxi hxr hxv HWt
              go_wp2_with ((with_reducible refine wpL_store g13 25 #[.int .i64 x.kind, .int .i64 x.num, .string ⟨x.txt.toArray⟩, .slice az x.items.length cz, .slice bz x.keys.length dz] #[.int .i64 xv.kind, .int .i64 xv.num, .string ⟨xv.txt.toArray⟩, .slice xa xv.items.length xe, .slice xf xv.keys.length xg] 5 rowVal rfl rfl (valC_one _ _ _ _ _ _ _ _ _) lZ ?_ ?_ ?_); rfl; rfl)
              go_roundw
              case rel => exact ⟨j + 1, true, xv, xa, xe, xf, xg, rfl, by go_num, by omega, HN, below_rowSet hb (Nat.le_of_lt hg2) _, l5.rowFar (by omega) _, lX.rowFar (by omega) _, lZ.row _, HXn⟩
              case measure => simp [intOf]; omega
            | true =>
              have HN := Lib.hid HWt.out.was
              clear hkc hkx HWt
              go_wp2
              go_roundw
              case rel => exact ⟨j + 1, true, x, az, cz, bz, dz, rfl, by go_num, by omega, HN, hb, l5, lX, lZ, HXz⟩
              case measure => simp [intOf]; omega
          · have HN := Lib.hid (HWt.out.other hkx hkk)
            clear hkc hkx HWt
            go_wp2
            go_roundw
            case rel => exact ⟨j + 1, f, x, az, cz, bz, dz, rfl, by go_num, by omega, HN, hb, l5, lX, lZ, HXz⟩
            case measure => simp [intOf]; omega
        · obtain rfl : j = t.keys.length := by omega
          obtain ⟨hf, hx⟩ := HDn.out f x HWt.out
          rw [HFY.out.1] at hf
          rw [HFY.out.2] at hx
          subst hf hx
          go_wp2_with fail
          go_meet
          exact ⟨rfl, hb, lX, az, cz, bz, dz, lZ, HXz.out⟩
  case rest =>
  subst hg11
  obtain ⟨rfl, hbx, lX, az, cz, bz, dz, lZ, hz⟩ := hcut
  clear l5 l5lt HV4 HCB HFY
  have HS := Lib.hid (fun (w1 : World) (hb : RowKit.Below w4.heap.size w4 w1) => refSame_any (d + 1) _ _ y y w1 (HX.out w1 hb) (hz.below hb))
  rw [decide_eq_true (p := y = y) rfl] at HS
  go_upto_region 13 with fail
  go_cut [86] from 74 to 86 (fun s86 wx => s86 = .bool false ∧ RowKit.Below w4.heap.size w4 wx ∧ Lies wx w4.heap.size 25 #[.int .i64 y.kind, .int .i64 y.num, .string ⟨y.txt.toArray⟩, .slice ax y.items.length cx, .slice bx y.keys.length dx])
  case first =>
    have y0 := lX.cell 0; have y1 := lX.cell 1; have y2 := lX.cell 2; have y3 := lX.cell 3; have y4 := lX.cell 4; simp only [List.getElem?_toArray, List.getElem?_cons_succ, List.getElem?_cons_zero] at y0 y1 y2 y3 y4
    have x0 := lZ.cell 0; have x1 := lZ.cell 1; have x2 := lZ.cell 2; have x3 := lZ.cell 3; have x4 := lZ.cell 4; simp only [List.getElem?_toArray, List.getElem?_cons_succ, List.getElem?_cons_zero] at x0 x1 x2 x3 x4
    clear lZ hz
    cases fd <;>
    · go_wp2_with (first
        | (go_at_call 20; (with_reducible refine (HS.out _ hbx).mono ?_); rintro ea wz ⟨rfl, hba⟩; replace hbx := on_below hbx hba hbx.size; replace lX := lX.on hba)
        | (go_at_call 10; (with_reducible refine (HAl4.out _ hbx).mono ?_); rintro eb wy ⟨rfl, hbb⟩; replace hbx := on_below hbx hbb hbx.size; replace lX := lX.on hbb))
      go_meet
      exact ⟨rfl, hbx, lX⟩
  case rest =>
  clear lX lZ hz HS hbx
  obtain ⟨rfl, hb7, lX⟩ := hcut
  have hP7 := HPs4.out _ hb7
  have HRow := Lib.hid (fun (j : Nat) (p : PairT) (hp : S[j]? = some p) => hP7.1.at (i := j) (cs := p.all) (by rw [List.getElem?_map, hp]; rfl))
  have HP := Lib.hid hP7.2
  have HPs := Lib.hid (fun (w1 : World) (hb : RowKit.Below wc.heap.size wc w1) => HPs4.out w1 (on_below hb7 hb hb7.size))
  have hbr := RowKit.Below.refl wc.heap.size wc
  have hb0 := on_below hba0 hb7 hba0.size
  clear HPs4 HAl4 hP7
  go_wp2
  go_loopw [89] (fun iv wr => ∃ (j : Nat), iv = .int .i64 j ∧ j ≤ S.length ∧ RowKit.Below wc.heap.size wc wr) (fun iv _ => S.length - (intOf iv).toNat)
  case atStart => exact ⟨0, rfl, Nat.zero_le _, hbr⟩
  case round =>
    obtain ⟨j, rfl, hjl, hb⟩ := hrel
    by_cases hlt : j < S.length
    · obtain ⟨p, hp⟩ : ∃ p, S[j]? = some p := ⟨S[j], List.getElem?_eq_getElem hlt⟩
      have hpm := List.mem_of_getElem? hp
      obtain ⟨b, off, rfl, hra, _⟩ := HRow.out j p hp
      have hpv := (HP.out p hpm).1
      obtain ⟨xi, xc, xk, xd, hcs⟩ := hpv.form
      unfold PairT.all at hra
      rw [hcs] at hra hpv
      obtain ⟨k0, k1, k2, k3, k4, k5⟩ := range6 (range_below hb hra)
      unfold str at k0
      have HB := Lib.hid (fun (w1 : World) (hb2 : RowKit.Below wr.heap.size wr w1) => big_any (d + 1) _ p.val w1 (hpv.below (on_below hb hb2 hb.size)))
      have hbx := (RowKit.Below.refl wr.heap.size wr).alloc (Nat.le_refl _) (.cells #[.string ⟨p.key.toArray⟩, .int .i64 p.val.kind, .int .i64 p.val.num, .string ⟨p.val.txt.toArray⟩, .slice xi p.val.items.length xc, .slice xk p.val.keys.length xd] 39)
      have lP := Lies.new wr 39 #[.string ⟨p.key.toArray⟩, .int .i64 p.val.kind, .int .i64 p.val.num, .string ⟨p.val.txt.toArray⟩, .slice xi p.val.items.length xc, .slice xk p.val.keys.length xd]
      have x0 := lP.cell 0; have x1 := lP.cell 1; have x2 := lP.cell 2; have x3 := lP.cell 3; have x4 := lP.cell 4; have x5 := lP.cell 5; simp only [List.getElem?_toArray, List.getElem?_cons_succ, List.getElem?_cons_zero] at x0 x1 x2 x3 x4 x5
      clear hra hbr
      by_cases hbig : 2100 < p.val.count
      · rw [decide_eq_true hbig] at HB
        go_wp2_with (go_at_call 9; (with_reducible refine (HB.out _ hbx).mono ?_); rintro e w3 ⟨rfl, hb3⟩; replace hbx := on_below hbx hb3 hbx.size)
        go_ret
        exact ⟨rfl, on_below hb0 (on_below hb hbx hb.size) hb0.size⟩
      · rw [decide_eq_false hbig] at HB
        go_wp2_with (go_at_call 9; (with_reducible refine (HB.out _ hbx).mono ?_); rintro e w3 ⟨rfl, hb3⟩; replace hbx := on_below hbx hb3 hbx.size)
        go_roundw
        case rel => exact ⟨j + 1, by go_num, by omega, on_below hb hbx hb.size⟩
        case measure => simp [intOf]; omega
    · obtain rfl : j = S.length := by omega
      have HRow8 := HRow
      clear hbr
      go_wp2
      go_loopw [19, 99] (fun tv iv wr => ∃ (j : Nat) (tw : Bool), tv = .bool tw ∧ iv = .int .i64 j ∧ j ≤ S.length ∧ Hid (TwiceTo S j tw) ∧ RowKit.Below wc.heap.size wc wr) (fun _ iv _ => S.length - (intOf iv).toNat)
      case atStart => exact ⟨0, false, rfl, rfl, Nat.zero_le _, Lib.hid (TwiceTo.zero S), hb⟩
      case round =>
        clear hb
        obtain ⟨j, tw, rfl, rfl, hjl, HTw, hb⟩ := hrel
        by_cases hlt : j < S.length
        · obtain ⟨p, hp⟩ : ∃ p, S[j]? = some p := ⟨S[j], List.getElem?_eq_getElem hlt⟩
          have hpm := List.mem_of_getElem? hp
          obtain ⟨b, off, rfl, hra, _⟩ := HRow.out j p hp
          have hpv := (HP.out p hpm).1
          obtain ⟨xi, xc, xk, xd, hcs⟩ := hpv.form
          unfold PairT.all at hra
          rw [hcs] at hra
          obtain ⟨k0, k1, k2, k3, k4, k5⟩ := range6 (range_below hb hra)
          unfold str at k0
          have hjc : (j : Int) ≤ c := by omega
          have HTD := Lib.hid (fun (b : Bool) (h : TwiceIn S p.key j j b) => h.done hp)
          have HTB := Lib.hid (HTw.out.begin p.key)
          have hbx := (RowKit.Below.refl wr.heap.size wr).alloc (Nat.le_refl _) (.cells #[.string ⟨p.key.toArray⟩, .int .i64 p.val.kind, .int .i64 p.val.num, .string ⟨p.val.txt.toArray⟩, .slice xi p.val.items.length xc, .slice xk p.val.keys.length xd] 39)
          have lP := Lies.new wr 39 #[.string ⟨p.key.toArray⟩, .int .i64 p.val.kind, .int .i64 p.val.num, .string ⟨p.val.txt.toArray⟩, .slice xi p.val.items.length xc, .slice xk p.val.keys.length xd]
          replace hb := on_below hb hbx hb.size
          clear hra hpv hcs hp hpm HTw
          go_upto_region 25 with fail
          clear hbx k0 k1 k2 k3 k4 k5
          generalize hga : World.alloc wr _ = wa at *
          generalize wr.heap.size = gp at *
          clear hga
          go_wp2
          go_loopw [19, 108] (fun tv kv wr => ∃ (k : Nat) (tw : Bool), tv = .bool tw ∧ kv = .int .i64 k ∧ k ≤ j ∧ Hid (TwiceIn S p.key j k tw) ∧ RowKit.Below wa.heap.size wa wr) (fun _ kv _ => j - (intOf kv).toNat)
          case atStart => exact ⟨0, tw, rfl, rfl, Nat.zero_le _, HTB, RowKit.Below.refl _ _⟩
          case round =>
            obtain ⟨k, tw, rfl, rfl, hkj, HTi, hbi⟩ := hrel
            by_cases hk : k < j
            · obtain ⟨q, hq⟩ : ∃ q, S[k]? = some q := ⟨S[k]'(by omega), List.getElem?_eq_getElem _⟩
              obtain ⟨b2, off2, e2, hrq, _⟩ := HRow.out k q hq
              injection e2 with e2
              injection e2 with e3 e4
              subst e3 e4
              obtain ⟨xi, xc, xk, xd, hcq⟩ := (HP.out q (List.mem_of_getElem? hq)).1.form
              unfold PairT.all at hrq
              rw [hcq] at hrq
              have hbw := on_below hb hbi hb.size
              obtain ⟨k0, k1, k2, k3, k4, k5⟩ := range6 (range_below hbw hrq)
              unfold str at k0
              replace lP := lP.on hbi
              have lQ := Lies.new wr 39 #[.string ⟨q.key.toArray⟩, .int .i64 q.val.kind, .int .i64 q.val.num, .string ⟨q.val.txt.toArray⟩, .slice xi q.val.items.length xc, .slice xk q.val.keys.length xd]
              have hbq := (RowKit.Below.refl wr.heap.size wr).alloc (Nat.le_refl _) (.cells #[.string ⟨q.key.toArray⟩, .int .i64 q.val.kind, .int .i64 q.val.num, .string ⟨q.val.txt.toArray⟩, .slice xi q.val.items.length xc, .slice xk q.val.keys.length xd] 39)
              replace lP := lP.on hbq
              replace hbi := on_below hbi hbq hbi.size
              clear hrq hcq hbw
              go_upto_region 28 with fail
              clear hbq k0 k1 k2 k3 k4 k5
              generalize hgb : World.alloc wr _ = wb at *
              have x0 := lP.cell 0
              have q0 := lQ.cell 0
              simp only [List.getElem?_toArray, List.getElem?_cons_zero] at x0 q0
              clear hgb lP lQ
              cases tw with
              | true =>
                have HN := Lib.hid HTi.out.was
                clear HTi hq
                go_wp2
                go_roundw
                case rel => exact ⟨k + 1, true, rfl, by go_num, by omega, HN, hbi⟩
                case measure => simp [intOf]; omega
              | false =>
                by_cases hpq : p.key = q.key
                · have HN := Lib.hid (show TwiceIn S p.key j (k + 1) true from by rw [hpq]; exact TwiceIn.hit hq)
                  clear HTi hq
                  go_wp2
                  go_roundw
                  case rel => exact ⟨k + 1, true, rfl, by go_num, by omega, HN, hbi⟩
                  case measure => simp [intOf]; omega
                · have HN := Lib.hid (HTi.out.other hq hpq)
                  clear HTi hq
                  go_wp2
                  go_roundw
                  case rel => exact ⟨k + 1, false, by simp [hpq], by go_num, by omega, HN, hbi⟩
                  case measure => simp [intOf]; omega
            · obtain rfl : k = j := by omega
              have HN := Lib.hid (HTD.out tw HTi.out)
              clear HTi
              go_wp2
              go_roundw
              case rel => exact ⟨k + 1, tw, rfl, by go_num, by omega, HN, on_below hb hbi hb.size⟩
              case measure => simp [intOf]; omega
        · obtain rfl : j = S.length := by omega
          have HTw2 := Lib.hid HTw.out.done
          clear HTw
          have HM := Lib.hid (mapV_any (d + 1) _ S wr (HPs.out wr hb) (by omega))
          replace lX := lX.on hb
          go_upto_region 32 with (go_at_call 21; (with_reducible refine HM.out.mono ?_); rintro e4 w5 ⟨⟨cs1, er, rfl, hans⟩, hb5⟩; obtain ⟨t1, hv1, hcase⟩ := hans.val (HPs.out w5 (on_below hb hb5 hb.size)).2; obtain ⟨xi, xc, xk, xd, rfl⟩ := hv1.form)
          replace lX := lX.on hb5
          replace hb := on_below hb hb5 hb.size
          have hba := (RowKit.Below.refl w5.heap.size w5).alloc (Nat.le_refl _) (.cells #[.int .i64 t1.kind, .int .i64 t1.num, .string ⟨t1.txt.toArray⟩, .slice xi t1.items.length xc, .slice xk t1.keys.length xd] 25)
          have lM := Lies.new w5 25 #[.int .i64 t1.kind, .int .i64 t1.num, .string ⟨t1.txt.toArray⟩, .slice xi t1.items.length xc, .slice xk t1.keys.length xd]
          replace lX := lX.on hba
          replace hb := on_below hb hba hb.size
          replace hv1 := hv1.below hba
          have HC := Lib.hid hcase
          clear hans hcase hb5 hba HM HRow HP
          generalize w5.alloc (.cells #[.int .i64 t1.kind, .int .i64 t1.num, .string ⟨t1.txt.toArray⟩, .slice xi t1.items.length xc, .slice xk t1.keys.length xd] 25) = w6 at *
          generalize w5.heap.size = g24 at *
          have hb4 := on_below hb7 hb hb7.size
          go_cut [151] from 127 to 151 (fun s151 wx => s151 = .bool false ∧ RowKit.Below w6.heap.size w6 wx)
          case first =>
            rcases HC.out with ⟨rfl, S', hperm, hris, ht1⟩ | ⟨rfl, hnd, ht1⟩
            · have hnd := perm_nodup hperm hris
              obtain rfl : tw = false := by
                cases tw with
                | false => rfl
                | true => exact absurd hnd (HTw2.out.1 rfl)
              have HRf := Lib.hid (fun (w2 : World) (hb2 : RowKit.Below w6.heap.size w6 w2) => refMap_any (d + 1) _ S w2 (HPs.out w2 (on_below hb hb2 hb.size)) (by omega) hnd)
              have HPR := Lib.hid (fun (R : List PairT) (h1 : R.Perm S) (h2 : Rising R) => (show t1 = mapT R from by rw [ht1, rising_one (hperm.trans h1.symm) hris h2]))
              clear HC HTw2 ht1
              refine wp_held_any (S := fun w => Lies w g24 25 #[.int .i64 t1.kind, .int .i64 t1.num, .string ⟨t1.txt.toArray⟩, .slice xi t1.items.length xc, .slice xk t1.keys.length xd]) 25 rfl (by kernel_rfl) ?_
              have HB : RowKit.Below w6.heap.size w6 { w6 with drawn := w6.drawn + 1 } := (RowKit.Below.refl _ _).drew
              have hSw : Lies { w6 with drawn := w6.drawn + 1 } g24 25 #[.int .i64 t1.kind, .int .i64 t1.num, .string ⟨t1.txt.toArray⟩, .slice xi t1.items.length xc, .slice xk t1.keys.length xd] := lM
              generalize ({ w6 with drawn := w6.drawn + 1 } : World) = wd at *
              refine held_put 0 127 (.bool false) rfl rfl (by kernel_rfl) (by kernel_rfl) (by kernel_rfl) (by kernel_rfl) (fun w hS => rfl) hSw ?_
              simp only [List.setIfInBounds_toArray, List.set_cons_succ, List.set_cons_zero]
              refine held_put 1 128 (.bool false) rfl rfl (by kernel_rfl) (by kernel_rfl) (by kernel_rfl) (by kernel_rfl) (fun w hS => rfl) hSw ?_
              simp only [List.setIfInBounds_toArray, List.set_cons_succ, List.set_cons_zero]
              refine held_skip 2 129 rfl rfl (by kernel_rfl) (by kernel_rfl) (by kernel_rfl) (by kernel_rfl) hSw ?_
              simp only [List.setIfInBounds_toArray, List.set_cons_succ, List.set_cons_zero]
              refine held_skip 3 130 rfl rfl (by kernel_rfl) (by kernel_rfl) (by kernel_rfl) (by kernel_rfl) hSw ?_
              simp only [List.setIfInBounds_toArray, List.set_cons_succ, List.set_cons_zero]
              refine held_skip 4 131 rfl rfl (by kernel_rfl) (by kernel_rfl) (by kernel_rfl) (by kernel_rfl) hSw ?_
              simp only [List.setIfInBounds_toArray, List.set_cons_succ, List.set_cons_zero]
              refine held_skip 5 132 rfl rfl (by kernel_rfl) (by kernel_rfl) (by kernel_rfl) (by kernel_rfl) hSw ?_
              simp only [List.setIfInBounds_toArray, List.set_cons_succ, List.set_cons_zero]
              refine held_skip 6 133 rfl rfl (by kernel_rfl) (by kernel_rfl) (by kernel_rfl) (by kernel_rfl) hSw ?_
              simp only [List.setIfInBounds_toArray, List.set_cons_succ, List.set_cons_zero]
              refine held_skip 7 134 rfl rfl (by kernel_rfl) (by kernel_rfl) (by kernel_rfl) (by kernel_rfl) hSw ?_
              simp only [List.setIfInBounds_toArray, List.set_cons_succ, List.set_cons_zero]
              refine held_skip 8 135 rfl rfl (by kernel_rfl) (by kernel_rfl) (by kernel_rfl) (by kernel_rfl) hSw ?_
              simp only [List.setIfInBounds_toArray, List.set_cons_succ, List.set_cons_zero]
              refine held_put 9 136 (.bool false) rfl rfl (by kernel_rfl) (by kernel_rfl) (by kernel_rfl) (by kernel_rfl) (fun w hS => rfl) hSw ?_
              simp only [List.setIfInBounds_toArray, List.set_cons_succ, List.set_cons_zero]
              refine held_put 10 137 (.bool false) rfl rfl (by kernel_rfl) (by kernel_rfl) (by kernel_rfl) (by kernel_rfl) (fun w hS => rfl) hSw ?_
              simp only [List.setIfInBounds_toArray, List.set_cons_succ, List.set_cons_zero]
              refine held_put 11 138 (.bool false) rfl rfl (by kernel_rfl) (by kernel_rfl) (by kernel_rfl) (by kernel_rfl) (fun w hS => rfl) hSw ?_
              simp only [List.setIfInBounds_toArray, List.set_cons_succ, List.set_cons_zero]
              refine held_put 12 139 (.bool true) rfl rfl (by kernel_rfl) (by kernel_rfl) (by kernel_rfl) (by kernel_rfl) (fun w hS => rfl) hSw ?_
              simp only [List.setIfInBounds_toArray, List.set_cons_succ, List.set_cons_zero]
              refine held_put 13 140 (.bool true) rfl rfl (by kernel_rfl) (by kernel_rfl) (by kernel_rfl) (by kernel_rfl) (fun w hS => rfl) hSw ?_
              simp only [List.setIfInBounds_toArray, List.set_cons_succ, List.set_cons_zero]
              refine held_put 14 141 (.int .i64 0) rfl rfl (by kernel_rfl) (by kernel_rfl) (by kernel_rfl) (by kernel_rfl) (fun w hS => rfl) hSw ?_
              simp only [List.setIfInBounds_toArray, List.set_cons_succ, List.set_cons_zero]
              refine held_put 15 142 (.bool false) rfl rfl (by kernel_rfl) (by kernel_rfl) (by kernel_rfl) (by kernel_rfl) (fun w hS => rfl) hSw ?_
              simp only [List.setIfInBounds_toArray, List.set_cons_succ, List.set_cons_zero]
              refine held_put 16 143 (.bool false) rfl rfl (by kernel_rfl) (by kernel_rfl) (by kernel_rfl) (by kernel_rfl) (fun w hS => rfl) hSw ?_
              simp only [List.setIfInBounds_toArray, List.set_cons_succ, List.set_cons_zero]
              refine held_put 17 144 (.agg #[.int .i64 t1.kind, .int .i64 t1.num, .string ⟨t1.txt.toArray⟩, .slice xi t1.items.length xc, .slice xk t1.keys.length xd]) rfl rfl (by kernel_rfl) (by kernel_rfl) (by kernel_rfl) (by kernel_rfl) (fun w hS => run_ldV g24 _ _ rfl hS rfl) hSw ?_
              simp only [List.setIfInBounds_toArray, List.set_cons_succ, List.set_cons_zero]
              refine held_put 18 145 (.slice a S.length c) rfl rfl (by kernel_rfl) (by kernel_rfl) (by kernel_rfl) (by kernel_rfl) (fun w hS => rfl) hSw ?_
              simp only [List.setIfInBounds_toArray, List.set_cons_succ, List.set_cons_zero]
              refine held_one 19 (by kernel_rfl) (wpOp_call 146 rfl rfl (by kernel_rfl) (by kernel_rfl) ((HRf.out _ HB).mono ?_))
              rintro e6 we ⟨⟨cs2, R, rfl, hR1, hR2, hv2⟩, hb6⟩
              obtain ⟨ui, uc, uk, ud, rfl⟩ := hv2.form
              replace hSw := hSw.on hb6
              replace HB := on_below HB hb6 HB.size
              have hv1e := hv1.below HB
              have HSm := Lib.hid (refSame_any (d + 2) _ _ t1 (mapT R) we hv1e hv2)
              rw [decide_eq_true (HPR.out R hR1 hR2)] at HSm
              refine ⟨_, rfl, hSw, ?_⟩
              simp only [List.setIfInBounds_toArray, List.set_cons_succ, List.set_cons_zero]
              refine held_one 20 (by kernel_rfl) (wpOp_call 147 rfl rfl (by kernel_rfl) (by kernel_rfl) ((HSm.out).mono ?_))
              rintro e7 wf ⟨rfl, hb8⟩
              replace hSw := hSw.on hb8
              replace HB := on_below HB hb8 HB.size
              refine ⟨_, rfl, hSw, ?_⟩
              simp only [List.setIfInBounds_toArray, List.set_cons_succ, List.set_cons_zero]
              refine held_put 21 148 (.bool false) rfl rfl (by kernel_rfl) (by kernel_rfl) (by kernel_rfl) (by kernel_rfl) (fun w hS => rfl) hSw ?_
              simp only [List.setIfInBounds_toArray, List.set_cons_succ, List.set_cons_zero]
              refine held_put 22 149 (.bool false) rfl rfl (by kernel_rfl) (by kernel_rfl) (by kernel_rfl) (by kernel_rfl) (fun w hS => rfl) hSw ?_
              simp only [List.setIfInBounds_toArray, List.set_cons_succ, List.set_cons_zero]
              refine held_put 23 150 (.bool false) rfl rfl (by kernel_rfl) (by kernel_rfl) (by kernel_rfl) (by kernel_rfl) (fun w hS => rfl) hSw ?_
              simp only [List.setIfInBounds_toArray, List.set_cons_succ, List.set_cons_zero]
              refine held_put 24 151 (.bool false) rfl rfl (by kernel_rfl) (by kernel_rfl) (by kernel_rfl) (by kernel_rfl) (fun w hS => rfl) hSw ?_
              simp only [List.setIfInBounds_toArray, List.set_cons_succ, List.set_cons_zero]
              refine held_done (by kernel_rfl) ?_
              simp only [Exit.then]
              go_wp2_with fail
              go_meet
              exact ⟨rfl, HB⟩
            · obtain rfl : tw = true := HTw2.out.2 hnd
              have hk0 : t1.kind = 0 := by rw [ht1]; rfl
              clear HC HTw2 ht1
              have x0 := lM.cell 0
              simp only [List.getElem?_toArray, List.getElem?_cons_zero] at x0
              rw [hk0] at x0
              have u0 := cell_regrown x0
              clear x0 hk0
              refine wp_region_quiet_below (by kernel_rfl) (by kernel_rfl) ?_
              repeat (go_big_quiet_step (fail))
              refine wpQuiet_nil ?_
              intro _ hw'
              obtain ⟨⟨dq, osq⟩, hw''⟩ := hw'
              subst hw''
              have hbb := below_regrown w6 dq osq
              go_wp2_with fail
              go_meet
              exact ⟨rfl, hbb⟩
          case rest =>
          obtain ⟨rfl, hbz⟩ := hcut
          replace lX := lX.on hbz
          replace hb4 := on_below hb4 hbz hb4.size
          clear lM hv1 HC hb hb7 hbz HPs HTw2
          have HT0 := Lib.hid (fun (w1 : World) => isV_txt w1 s hs)
          have HN0 := Lib.hid (fun (w1 : World) => isV_num w1 n hn)
          go_upto_region 34 with fail
          have hSw := lX
          refine wp_held_any (S := fun w => Lies w w4.heap.size 25 #[.int .i64 y.kind, .int .i64 y.num, .string ⟨y.txt.toArray⟩, .slice ax y.items.length cx, .slice bx y.keys.length dx]) 24 rfl (by kernel_rfl) ?_
          have HB := hb4
          have HB : RowKit.Below w4.heap.size w4 { wc with drawn := wc.drawn + 1 } := on_below hb4 (RowKit.Below.refl _ _).drew hb4.size
          have hSw : Lies { wc with drawn := wc.drawn + 1 } w4.heap.size 25 #[.int .i64 y.kind, .int .i64 y.num, .string ⟨y.txt.toArray⟩, .slice ax y.items.length cx, .slice bx y.keys.length dx] := lX
          generalize ({ wc with drawn := wc.drawn + 1 } : World) = wd at *
          refine held_put 0 152 (.string ⟨s.toArray⟩) rfl rfl (by kernel_rfl) (by kernel_rfl) (by kernel_rfl) (by kernel_rfl) (fun w hS => rfl) hSw ?_
          simp only [List.setIfInBounds_toArray, List.set_cons_succ, List.set_cons_zero]
          refine held_put 2 154 (.string ⟨s.toArray⟩) rfl rfl (by kernel_rfl) (by kernel_rfl) (by kernel_rfl) (by kernel_rfl) (fun w hS => rfl) hSw ?_
          simp only [List.setIfInBounds_toArray, List.set_cons_succ, List.set_cons_zero]
          refine held_put 3 155 (.agg #[.int .i64 2, .int .i64 0, .string ⟨s.toArray⟩, .slice none 0 0, .slice none 0 0]) rfl rfl (by kernel_rfl) (by kernel_rfl) (by kernel_rfl) (by kernel_rfl) (fun w hS => (by kernel_rfl)) hSw ?_
          simp only [List.setIfInBounds_toArray, List.set_cons_succ, List.set_cons_zero]
          refine held_one 1 (by kernel_rfl) (wpOp_call 153 rfl rfl (by kernel_rfl) (by kernel_rfl) ((text_any ⟨s.toArray⟩ _).mono ?_))
          rintro e8 wa ⟨rfl, hbq⟩
          replace hSw := hSw.on hbq
          replace HB := on_below HB hbq HB.size
          refine ⟨_, rfl, hSw, ?_⟩
          simp only [List.setIfInBounds_toArray, List.set_cons_succ, List.set_cons_zero]
          have HS1 := refSame_any 1 _ _ _ _ wa (HT0.out wa) (HT0.out wa)
          rw [decide_eq_true rfl] at HS1
          refine held_one 4 (by kernel_rfl) (wpOp_call 156 rfl rfl (by kernel_rfl) (by kernel_rfl) ((HS1).mono ?_))
          rintro e9 wb ⟨rfl, hbq⟩
          replace hSw := hSw.on hbq
          replace HB := on_below HB hbq HB.size
          refine ⟨_, rfl, hSw, ?_⟩
          simp only [List.setIfInBounds_toArray, List.set_cons_succ, List.set_cons_zero]
          refine held_put 5 157 (.bool true) rfl rfl (by kernel_rfl) (by kernel_rfl) (by kernel_rfl) (by kernel_rfl) (fun w hS => rfl) hSw ?_
          simp only [List.setIfInBounds_toArray, List.set_cons_succ, List.set_cons_zero]
          refine held_put 6 158 (.int .i64 n) rfl rfl (by kernel_rfl) (by kernel_rfl) (by kernel_rfl) (by kernel_rfl) (fun w hS => rfl) hSw ?_
          simp only [List.setIfInBounds_toArray, List.set_cons_succ, List.set_cons_zero]
          refine held_put 8 160 (.int .i64 n) rfl rfl (by kernel_rfl) (by kernel_rfl) (by kernel_rfl) (by kernel_rfl) (fun w hS => rfl) hSw ?_
          simp only [List.setIfInBounds_toArray, List.set_cons_succ, List.set_cons_zero]
          refine held_put 9 161 (.agg #[.int .i64 1, .int .i64 n, .string ⟨#[]⟩, .slice none 0 0, .slice none 0 0]) rfl rfl (by kernel_rfl) (by kernel_rfl) (by kernel_rfl) (by kernel_rfl) (fun w hS => (by kernel_rfl)) hSw ?_
          simp only [List.setIfInBounds_toArray, List.set_cons_succ, List.set_cons_zero]
          refine held_one 7 (by kernel_rfl) (wpOp_call 159 rfl rfl (by kernel_rfl) (by kernel_rfl) ((number_any n _).mono ?_))
          rintro ea wg ⟨rfl, hbq⟩
          replace hSw := hSw.on hbq
          replace HB := on_below HB hbq HB.size
          refine ⟨_, rfl, hSw, ?_⟩
          simp only [List.setIfInBounds_toArray, List.set_cons_succ, List.set_cons_zero]
          have HS2 := refSame_any 1 _ _ _ _ wg (HN0.out wg) (HN0.out wg)
          rw [decide_eq_true rfl] at HS2
          refine held_one 10 (by kernel_rfl) (wpOp_call 162 rfl rfl (by kernel_rfl) (by kernel_rfl) ((HS2).mono ?_))
          rintro eb wh ⟨rfl, hbq⟩
          replace hSw := hSw.on hbq
          replace HB := on_below HB hbq HB.size
          refine ⟨_, rfl, hSw, ?_⟩
          simp only [List.setIfInBounds_toArray, List.set_cons_succ, List.set_cons_zero]
          refine held_put 11 163 (.bool true) rfl rfl (by kernel_rfl) (by kernel_rfl) (by kernel_rfl) (by kernel_rfl) (fun w hS => rfl) hSw ?_
          simp only [List.setIfInBounds_toArray, List.set_cons_succ, List.set_cons_zero]
          refine held_put 12 164 (.bool true) rfl rfl (by kernel_rfl) (by kernel_rfl) (by kernel_rfl) (by kernel_rfl) (fun w hS => rfl) hSw ?_
          simp only [List.setIfInBounds_toArray, List.set_cons_succ, List.set_cons_zero]
          refine held_put 13 165 (.agg #[.int .i64 y.kind, .int .i64 y.num, .string ⟨y.txt.toArray⟩, .slice ax y.items.length cx, .slice bx y.keys.length dx]) rfl rfl (by kernel_rfl) (by kernel_rfl) (by kernel_rfl) (by kernel_rfl) (fun w hS => run_ldV w4.heap.size _ _ rfl hS rfl) hSw ?_
          simp only [List.setIfInBounds_toArray, List.set_cons_succ, List.set_cons_zero]
          refine held_put 14 166 (.agg #[.int .i64 y.kind, .int .i64 y.num, .string ⟨y.txt.toArray⟩, .slice ax y.items.length cx, .slice bx y.keys.length dx]) rfl rfl (by kernel_rfl) (by kernel_rfl) (by kernel_rfl) (by kernel_rfl) (fun w hS => run_ldV w4.heap.size _ _ rfl hS rfl) hSw ?_
          simp only [List.setIfInBounds_toArray, List.set_cons_succ, List.set_cons_zero]
          refine held_put 17 169 (.agg #[.int .i64 y.kind, .int .i64 y.num, .string ⟨y.txt.toArray⟩, .slice ax y.items.length cx, .slice bx y.keys.length dx]) rfl rfl (by kernel_rfl) (by kernel_rfl) (by kernel_rfl) (by kernel_rfl) (fun w hS => run_ldV w4.heap.size _ _ rfl hS rfl) hSw ?_
          simp only [List.setIfInBounds_toArray, List.set_cons_succ, List.set_cons_zero]
          refine held_put 18 170 (.agg #[.int .i64 y.kind, .int .i64 y.num, .string ⟨y.txt.toArray⟩, .slice ax y.items.length cx, .slice bx y.keys.length dx]) rfl rfl (by kernel_rfl) (by kernel_rfl) (by kernel_rfl) (by kernel_rfl) (fun w hS => run_ldV w4.heap.size _ _ rfl hS rfl) hSw ?_
          simp only [List.setIfInBounds_toArray, List.set_cons_succ, List.set_cons_zero]
          clear HS1 HS2
          have HOne : ∀ u ∈ [([.int .i64 y.kind, .int .i64 y.num, .string ⟨y.txt.toArray⟩, .slice ax y.items.length cx, .slice bx y.keys.length dx] : List Value), [.int .i64 y.kind, .int .i64 y.num, .string ⟨y.txt.toArray⟩, .slice ax y.items.length cx, .slice bx y.keys.length dx]].flatten, u.oneCell' = true := one_ten _ _ _ _ _ _ _ _ _
          refine held_two 15 19 (by kernel_rfl) (wpOp_put 167 (w' := wh.alloc (.cells #[.int .i64 y.kind, .int .i64 y.num, .string ⟨y.txt.toArray⟩, .slice ax y.items.length cx, .slice bx y.keys.length dx, .int .i64 y.kind, .int .i64 y.num, .string ⟨y.txt.toArray⟩, .slice ax y.items.length cx, .slice bx y.keys.length dx] 25)) (v := .slice (some ⟨wh.heap.size, 0, none⟩) 2 2) rfl rfl (by kernel_rfl) (by kernel_rfl) ?_) (wpOp_put 171 (w' := wh.alloc (.cells #[.int .i64 y.kind, .int .i64 y.num, .string ⟨y.txt.toArray⟩, .slice ax y.items.length cx, .slice bx y.keys.length dx, .int .i64 y.kind, .int .i64 y.num, .string ⟨y.txt.toArray⟩, .slice ax y.items.length cx, .slice bx y.keys.length dx] 25)) (v := .slice (some ⟨wh.heap.size, 0, none⟩) 2 2) rfl rfl (by kernel_rfl) (by kernel_rfl) ?_)
          · refine ⟨hSw.alloc _, ?_⟩
            simp only [List.setIfInBounds_toArray, List.set_cons_succ, List.set_cons_zero]
            have hbl : RowKit.Below wh.heap.size wh (wh.alloc (.cells #[.int .i64 y.kind, .int .i64 y.num, .string ⟨y.txt.toArray⟩, .slice ax y.items.length cx, .slice bx y.keys.length dx, .int .i64 y.kind, .int .i64 y.num, .string ⟨y.txt.toArray⟩, .slice ax y.items.length cx, .slice bx y.keys.length dx] 25)) := (RowKit.Below.refl _ _).alloc (Nat.le_refl _) _
            have hr15 : RowL (wh.alloc (.cells #[.int .i64 y.kind, .int .i64 y.num, .string ⟨y.txt.toArray⟩, .slice ax y.items.length cx, .slice bx y.keys.length dx, .int .i64 y.kind, .int .i64 y.num, .string ⟨y.txt.toArray⟩, .slice ax y.items.length cx, .slice bx y.keys.length dx] 25)) 5 (.slice (some ⟨wh.heap.size, 0, none⟩) 2 2) [[.int .i64 y.kind, .int .i64 y.num, .string ⟨y.txt.toArray⟩, .slice ax y.items.length cx, .slice bx y.keys.length dx], [.int .i64 y.kind, .int .i64 y.num, .string ⟨y.txt.toArray⟩, .slice ax y.items.length cx, .slice bx y.keys.length dx]] := RowL.two wh 25 5 [.int .i64 y.kind, .int .i64 y.num, .string ⟨y.txt.toArray⟩, .slice ax y.items.length cx, .slice bx y.keys.length dx] [.int .i64 y.kind, .int .i64 y.num, .string ⟨y.txt.toArray⟩, .slice ax y.items.length cx, .slice bx y.keys.length dx] rfl rfl
            replace hSw := hSw.on hbl
            replace HB := on_below HB hbl HB.size
            clear hbl
            generalize wh.alloc (.cells #[.int .i64 y.kind, .int .i64 y.num, .string ⟨y.txt.toArray⟩, .slice ax y.items.length cx, .slice bx y.keys.length dx, .int .i64 y.kind, .int .i64 y.num, .string ⟨y.txt.toArray⟩, .slice ax y.items.length cx, .slice bx y.keys.length dx] 25) = whx at *
            generalize wh.heap.size = g15 at *
            refine held_two 16 19 (by kernel_rfl) (wpOp_call 168 rfl rfl (by kernel_rfl) (by kernel_rfl) ((list_any _ _ _ hr15 HOne (show 2 ≤ 1000 by decide)).mono ?_)) (wpOp_put 171 (w' := whx.alloc (.cells #[.int .i64 y.kind, .int .i64 y.num, .string ⟨y.txt.toArray⟩, .slice ax y.items.length cx, .slice bx y.keys.length dx, .int .i64 y.kind, .int .i64 y.num, .string ⟨y.txt.toArray⟩, .slice ax y.items.length cx, .slice bx y.keys.length dx] 25)) (v := .slice (some ⟨whx.heap.size, 0, none⟩) 2 2) rfl rfl (by kernel_rfl) (by kernel_rfl) ?_)
            · rintro ec whxx ⟨v16, rfl, ho16, hbq⟩
              obtain ⟨va, vc, rfl, _, _⟩ := ho16.form2 (n := 2) rfl
              have hr16 := ho16.read
              clear ho16
              replace hSw := hSw.on hbq
              replace HB := on_below HB hbq HB.size
              refine ⟨_, rfl, hSw, ?_⟩
              simp only [List.setIfInBounds_toArray, List.set_cons_succ, List.set_cons_zero]
              refine held_one 19 (by kernel_rfl) (wpOp_put 171 (w' := whxx.alloc (.cells #[.int .i64 y.kind, .int .i64 y.num, .string ⟨y.txt.toArray⟩, .slice ax y.items.length cx, .slice bx y.keys.length dx, .int .i64 y.kind, .int .i64 y.num, .string ⟨y.txt.toArray⟩, .slice ax y.items.length cx, .slice bx y.keys.length dx] 25)) (v := .slice (some ⟨whxx.heap.size, 0, none⟩) 2 2) rfl rfl (by kernel_rfl) (by kernel_rfl) ?_)
              refine ⟨hSw.alloc _, ?_⟩
              simp only [List.setIfInBounds_toArray, List.set_cons_succ, List.set_cons_zero]
              have hbl : RowKit.Below whxx.heap.size whxx (whxx.alloc (.cells #[.int .i64 y.kind, .int .i64 y.num, .string ⟨y.txt.toArray⟩, .slice ax y.items.length cx, .slice bx y.keys.length dx, .int .i64 y.kind, .int .i64 y.num, .string ⟨y.txt.toArray⟩, .slice ax y.items.length cx, .slice bx y.keys.length dx] 25)) := (RowKit.Below.refl _ _).alloc (Nat.le_refl _) _
              have hr19 : RowL (whxx.alloc (.cells #[.int .i64 y.kind, .int .i64 y.num, .string ⟨y.txt.toArray⟩, .slice ax y.items.length cx, .slice bx y.keys.length dx, .int .i64 y.kind, .int .i64 y.num, .string ⟨y.txt.toArray⟩, .slice ax y.items.length cx, .slice bx y.keys.length dx] 25)) 5 (.slice (some ⟨whxx.heap.size, 0, none⟩) 2 2) [[.int .i64 y.kind, .int .i64 y.num, .string ⟨y.txt.toArray⟩, .slice ax y.items.length cx, .slice bx y.keys.length dx], [.int .i64 y.kind, .int .i64 y.num, .string ⟨y.txt.toArray⟩, .slice ax y.items.length cx, .slice bx y.keys.length dx]] := RowL.two whxx 25 5 [.int .i64 y.kind, .int .i64 y.num, .string ⟨y.txt.toArray⟩, .slice ax y.items.length cx, .slice bx y.keys.length dx] [.int .i64 y.kind, .int .i64 y.num, .string ⟨y.txt.toArray⟩, .slice ax y.items.length cx, .slice bx y.keys.length dx] rfl rfl
              replace hr16 := hr16.below hbl
              replace hSw := hSw.on hbl
              replace HB := on_below HB hbl HB.size
              clear hbl
              generalize whxx.alloc (.cells #[.int .i64 y.kind, .int .i64 y.num, .string ⟨y.txt.toArray⟩, .slice ax y.items.length cx, .slice bx y.keys.length dx, .int .i64 y.kind, .int .i64 y.num, .string ⟨y.txt.toArray⟩, .slice ax y.items.length cx, .slice bx y.keys.length dx] 25) = whxxx at *
              generalize whxx.heap.size = g19 at *
              refine held_put 20 172 (.agg #[.int .i64 3, .int .i64 0, .string ⟨#[]⟩, .slice (some ⟨g19, 0, none⟩) 2 2, .slice none 0 0]) rfl rfl (by kernel_rfl) (by kernel_rfl) (by kernel_rfl) (by kernel_rfl) (fun w hS => (by kernel_rfl)) hSw ?_
              simp only [List.setIfInBounds_toArray, List.set_cons_succ, List.set_cons_zero]
              have HS3 := refSame_any (d + 2) _ _ _ _ whxxx (isV_two hr16 (HX.out whxxx HB)) (isV_two hr19 (HX.out whxxx HB))
              rw [decide_eq_true rfl] at HS3
              refine held_one 21 (by kernel_rfl) (wpOp_call 173 rfl rfl (by kernel_rfl) (by kernel_rfl) ((HS3).mono ?_))
              rintro ed wz ⟨rfl, hbq⟩
              replace hSw := hSw.on hbq
              replace HB := on_below HB hbq HB.size
              refine ⟨_, rfl, hSw, ?_⟩
              simp only [List.setIfInBounds_toArray, List.set_cons_succ, List.set_cons_zero]
              refine held_put 22 174 (.bool true) rfl rfl (by kernel_rfl) (by kernel_rfl) (by kernel_rfl) (by kernel_rfl) (fun w hS => rfl) hSw ?_
              simp only [List.setIfInBounds_toArray, List.set_cons_succ, List.set_cons_zero]
              refine held_put 23 10 (.bool true) rfl rfl (by kernel_rfl) (by kernel_rfl) (by kernel_rfl) (by kernel_rfl) (fun w hS => rfl) hSw ?_
              simp only [List.setIfInBounds_toArray, List.set_cons_succ, List.set_cons_zero]
              refine held_done (by kernel_rfl) ?_
              simp only [Exit.then]
              go_wp2_with fail
              go_ret
              exact ⟨rfl, on_below hba0 HB hba0.size⟩
            · refine ⟨hSw.alloc _, ?_⟩
              simp only [List.setIfInBounds_toArray, List.set_cons_succ, List.set_cons_zero]
              have hbl : RowKit.Below whx.heap.size whx (whx.alloc (.cells #[.int .i64 y.kind, .int .i64 y.num, .string ⟨y.txt.toArray⟩, .slice ax y.items.length cx, .slice bx y.keys.length dx, .int .i64 y.kind, .int .i64 y.num, .string ⟨y.txt.toArray⟩, .slice ax y.items.length cx, .slice bx y.keys.length dx] 25)) := (RowKit.Below.refl _ _).alloc (Nat.le_refl _) _
              have hr19 : RowL (whx.alloc (.cells #[.int .i64 y.kind, .int .i64 y.num, .string ⟨y.txt.toArray⟩, .slice ax y.items.length cx, .slice bx y.keys.length dx, .int .i64 y.kind, .int .i64 y.num, .string ⟨y.txt.toArray⟩, .slice ax y.items.length cx, .slice bx y.keys.length dx] 25)) 5 (.slice (some ⟨whx.heap.size, 0, none⟩) 2 2) [[.int .i64 y.kind, .int .i64 y.num, .string ⟨y.txt.toArray⟩, .slice ax y.items.length cx, .slice bx y.keys.length dx], [.int .i64 y.kind, .int .i64 y.num, .string ⟨y.txt.toArray⟩, .slice ax y.items.length cx, .slice bx y.keys.length dx]] := RowL.two whx 25 5 [.int .i64 y.kind, .int .i64 y.num, .string ⟨y.txt.toArray⟩, .slice ax y.items.length cx, .slice bx y.keys.length dx] [.int .i64 y.kind, .int .i64 y.num, .string ⟨y.txt.toArray⟩, .slice ax y.items.length cx, .slice bx y.keys.length dx] rfl rfl
              replace hr15 := hr15.below hbl
              replace hSw := hSw.on hbl
              replace HB := on_below HB hbl HB.size
              clear hbl
              generalize whx.alloc (.cells #[.int .i64 y.kind, .int .i64 y.num, .string ⟨y.txt.toArray⟩, .slice ax y.items.length cx, .slice bx y.keys.length dx, .int .i64 y.kind, .int .i64 y.num, .string ⟨y.txt.toArray⟩, .slice ax y.items.length cx, .slice bx y.keys.length dx] 25) = whxx at *
              generalize whx.heap.size = g19 at *
              refine held_put 20 172 (.agg #[.int .i64 3, .int .i64 0, .string ⟨#[]⟩, .slice (some ⟨g19, 0, none⟩) 2 2, .slice none 0 0]) rfl rfl (by kernel_rfl) (by kernel_rfl) (by kernel_rfl) (by kernel_rfl) (fun w hS => (by kernel_rfl)) hSw ?_
              simp only [List.setIfInBounds_toArray, List.set_cons_succ, List.set_cons_zero]
              refine held_one 16 (by kernel_rfl) (wpOp_call 168 rfl rfl (by kernel_rfl) (by kernel_rfl) ((list_any _ _ _ hr15 HOne (show 2 ≤ 1000 by decide)).mono ?_))
              rintro ec whxxx ⟨v16, rfl, ho16, hbq⟩
              obtain ⟨va, vc, rfl, _, _⟩ := ho16.form2 (n := 2) rfl
              have hr16 := ho16.read
              clear ho16
              replace hr19 := hr19.below hbq
              replace hSw := hSw.on hbq
              replace HB := on_below HB hbq HB.size
              refine ⟨_, rfl, hSw, ?_⟩
              simp only [List.setIfInBounds_toArray, List.set_cons_succ, List.set_cons_zero]
              have HS3 := refSame_any (d + 2) _ _ _ _ whxxx (isV_two hr16 (HX.out whxxx HB)) (isV_two hr19 (HX.out whxxx HB))
              rw [decide_eq_true rfl] at HS3
              refine held_one 21 (by kernel_rfl) (wpOp_call 173 rfl rfl (by kernel_rfl) (by kernel_rfl) ((HS3).mono ?_))
              rintro ed wz ⟨rfl, hbq⟩
              replace hSw := hSw.on hbq
              replace HB := on_below HB hbq HB.size
              refine ⟨_, rfl, hSw, ?_⟩
              simp only [List.setIfInBounds_toArray, List.set_cons_succ, List.set_cons_zero]
              refine held_put 22 174 (.bool true) rfl rfl (by kernel_rfl) (by kernel_rfl) (by kernel_rfl) (by kernel_rfl) (fun w hS => rfl) hSw ?_
              simp only [List.setIfInBounds_toArray, List.set_cons_succ, List.set_cons_zero]
              refine held_put 23 10 (.bool true) rfl rfl (by kernel_rfl) (by kernel_rfl) (by kernel_rfl) (by kernel_rfl) (fun w hS => rfl) hSw ?_
              simp only [List.setIfInBounds_toArray, List.set_cons_succ, List.set_cons_zero]
              refine held_done (by kernel_rfl) ?_
              simp only [Exit.then]
              go_wp2_with fail
              go_ret
              exact ⟨rfl, on_below hba0 HB hba0.size⟩
          · refine ⟨hSw.alloc _, ?_⟩
            simp only [List.setIfInBounds_toArray, List.set_cons_succ, List.set_cons_zero]
            have hbl : RowKit.Below wh.heap.size wh (wh.alloc (.cells #[.int .i64 y.kind, .int .i64 y.num, .string ⟨y.txt.toArray⟩, .slice ax y.items.length cx, .slice bx y.keys.length dx, .int .i64 y.kind, .int .i64 y.num, .string ⟨y.txt.toArray⟩, .slice ax y.items.length cx, .slice bx y.keys.length dx] 25)) := (RowKit.Below.refl _ _).alloc (Nat.le_refl _) _
            have hr19 : RowL (wh.alloc (.cells #[.int .i64 y.kind, .int .i64 y.num, .string ⟨y.txt.toArray⟩, .slice ax y.items.length cx, .slice bx y.keys.length dx, .int .i64 y.kind, .int .i64 y.num, .string ⟨y.txt.toArray⟩, .slice ax y.items.length cx, .slice bx y.keys.length dx] 25)) 5 (.slice (some ⟨wh.heap.size, 0, none⟩) 2 2) [[.int .i64 y.kind, .int .i64 y.num, .string ⟨y.txt.toArray⟩, .slice ax y.items.length cx, .slice bx y.keys.length dx], [.int .i64 y.kind, .int .i64 y.num, .string ⟨y.txt.toArray⟩, .slice ax y.items.length cx, .slice bx y.keys.length dx]] := RowL.two wh 25 5 [.int .i64 y.kind, .int .i64 y.num, .string ⟨y.txt.toArray⟩, .slice ax y.items.length cx, .slice bx y.keys.length dx] [.int .i64 y.kind, .int .i64 y.num, .string ⟨y.txt.toArray⟩, .slice ax y.items.length cx, .slice bx y.keys.length dx] rfl rfl
            replace hSw := hSw.on hbl
            replace HB := on_below HB hbl HB.size
            clear hbl
            generalize wh.alloc (.cells #[.int .i64 y.kind, .int .i64 y.num, .string ⟨y.txt.toArray⟩, .slice ax y.items.length cx, .slice bx y.keys.length dx, .int .i64 y.kind, .int .i64 y.num, .string ⟨y.txt.toArray⟩, .slice ax y.items.length cx, .slice bx y.keys.length dx] 25) = whx at *
            generalize wh.heap.size = g19 at *
            refine held_put 20 172 (.agg #[.int .i64 3, .int .i64 0, .string ⟨#[]⟩, .slice (some ⟨g19, 0, none⟩) 2 2, .slice none 0 0]) rfl rfl (by kernel_rfl) (by kernel_rfl) (by kernel_rfl) (by kernel_rfl) (fun w hS => (by kernel_rfl)) hSw ?_
            simp only [List.setIfInBounds_toArray, List.set_cons_succ, List.set_cons_zero]
            refine held_one 15 (by kernel_rfl) (wpOp_put 167 (w' := whx.alloc (.cells #[.int .i64 y.kind, .int .i64 y.num, .string ⟨y.txt.toArray⟩, .slice ax y.items.length cx, .slice bx y.keys.length dx, .int .i64 y.kind, .int .i64 y.num, .string ⟨y.txt.toArray⟩, .slice ax y.items.length cx, .slice bx y.keys.length dx] 25)) (v := .slice (some ⟨whx.heap.size, 0, none⟩) 2 2) rfl rfl (by kernel_rfl) (by kernel_rfl) ?_)
            refine ⟨hSw.alloc _, ?_⟩
            simp only [List.setIfInBounds_toArray, List.set_cons_succ, List.set_cons_zero]
            have hbl : RowKit.Below whx.heap.size whx (whx.alloc (.cells #[.int .i64 y.kind, .int .i64 y.num, .string ⟨y.txt.toArray⟩, .slice ax y.items.length cx, .slice bx y.keys.length dx, .int .i64 y.kind, .int .i64 y.num, .string ⟨y.txt.toArray⟩, .slice ax y.items.length cx, .slice bx y.keys.length dx] 25)) := (RowKit.Below.refl _ _).alloc (Nat.le_refl _) _
            have hr15 : RowL (whx.alloc (.cells #[.int .i64 y.kind, .int .i64 y.num, .string ⟨y.txt.toArray⟩, .slice ax y.items.length cx, .slice bx y.keys.length dx, .int .i64 y.kind, .int .i64 y.num, .string ⟨y.txt.toArray⟩, .slice ax y.items.length cx, .slice bx y.keys.length dx] 25)) 5 (.slice (some ⟨whx.heap.size, 0, none⟩) 2 2) [[.int .i64 y.kind, .int .i64 y.num, .string ⟨y.txt.toArray⟩, .slice ax y.items.length cx, .slice bx y.keys.length dx], [.int .i64 y.kind, .int .i64 y.num, .string ⟨y.txt.toArray⟩, .slice ax y.items.length cx, .slice bx y.keys.length dx]] := RowL.two whx 25 5 [.int .i64 y.kind, .int .i64 y.num, .string ⟨y.txt.toArray⟩, .slice ax y.items.length cx, .slice bx y.keys.length dx] [.int .i64 y.kind, .int .i64 y.num, .string ⟨y.txt.toArray⟩, .slice ax y.items.length cx, .slice bx y.keys.length dx] rfl rfl
            replace hr19 := hr19.below hbl
            replace hSw := hSw.on hbl
            replace HB := on_below HB hbl HB.size
            clear hbl
            generalize whx.alloc (.cells #[.int .i64 y.kind, .int .i64 y.num, .string ⟨y.txt.toArray⟩, .slice ax y.items.length cx, .slice bx y.keys.length dx, .int .i64 y.kind, .int .i64 y.num, .string ⟨y.txt.toArray⟩, .slice ax y.items.length cx, .slice bx y.keys.length dx] 25) = whxx at *
            generalize whx.heap.size = g15 at *
            refine held_one 16 (by kernel_rfl) (wpOp_call 168 rfl rfl (by kernel_rfl) (by kernel_rfl) ((list_any _ _ _ hr15 HOne (show 2 ≤ 1000 by decide)).mono ?_))
            rintro ec whxxx ⟨v16, rfl, ho16, hbq⟩
            obtain ⟨va, vc, rfl, _, _⟩ := ho16.form2 (n := 2) rfl
            have hr16 := ho16.read
            clear ho16
            replace hr19 := hr19.below hbq
            replace hSw := hSw.on hbq
            replace HB := on_below HB hbq HB.size
            refine ⟨_, rfl, hSw, ?_⟩
            simp only [List.setIfInBounds_toArray, List.set_cons_succ, List.set_cons_zero]
            have HS3 := refSame_any (d + 2) _ _ _ _ whxxx (isV_two hr16 (HX.out whxxx HB)) (isV_two hr19 (HX.out whxxx HB))
            rw [decide_eq_true rfl] at HS3
            refine held_one 21 (by kernel_rfl) (wpOp_call 173 rfl rfl (by kernel_rfl) (by kernel_rfl) ((HS3).mono ?_))
            rintro ed wz ⟨rfl, hbq⟩
            replace hSw := hSw.on hbq
            replace HB := on_below HB hbq HB.size
            refine ⟨_, rfl, hSw, ?_⟩
            simp only [List.setIfInBounds_toArray, List.set_cons_succ, List.set_cons_zero]
            refine held_put 22 174 (.bool true) rfl rfl (by kernel_rfl) (by kernel_rfl) (by kernel_rfl) (by kernel_rfl) (fun w hS => rfl) hSw ?_
            simp only [List.setIfInBounds_toArray, List.set_cons_succ, List.set_cons_zero]
            refine held_put 23 10 (.bool true) rfl rfl (by kernel_rfl) (by kernel_rfl) (by kernel_rfl) (by kernel_rfl) (fun w hS => rfl) hSw ?_
            simp only [List.setIfInBounds_toArray, List.set_cons_succ, List.set_cons_zero]
            refine held_done (by kernel_rfl) ?_
            simp only [Exit.then]
            go_wp2_with fail
            go_ret
            exact ⟨rfl, on_below hba0 HB hba0.size⟩
end Go.Proofs.YtdfdpckcemdimaaDoor.V
