/- The reference's Count. -/
import Derived.Test.YtdfdpckcemdimaaDoorVMem
import Derived.Lib.SmallJoins
namespace Go.Proofs.YtdfdpckcemdimaaDoor.V
open Go.RowKit Go.Sort Go.Joins
set_option maxRecDepth 100000

set_option maxHeartbeats 1600000 in
theorem refCount_any : ∀ (d : Nat) (cs : List Value) (t : VT) (lim : Int) (w : World), IsV w d cs t → 0 ≤ lim → lim ≤ 4000 →
    Calls Tryd.prog 13 #[.agg cs.toArray, .int .i64 lim] w fun e w' => e = .returned (.int .i64 (t.cnt lim)) ∧ Below w.heap.size w w' := by
  intro d
  induction d with
  | zero => intro cs t lim w h; exact h.elim
  | succ d ih =>
    intro cs t lim W h hl1 hl2
    obtain ⟨vi, vk, rfl, hfit, hks, a, c, rfl, hc, hm, hna, hx⟩ := h
    obtain ⟨k, n, s, l, ks⟩ := t
    have HI := Lib.hid ih
    have HX := Lib.hid hx
    rw [cnt_eq]
    simp only [VT.items, VT.kind, VT.num, VT.txt] at *
    clear ih hfit hks hx hna
    unfold maxLen at hm
    have hbW := (Below.refl W.heap.size W).alloc (Nat.le_refl _) (.cells #[.int .i64 k, .int .i64 n, .string ⟨s.toArray⟩, .slice a l.length c, vk] 25)
    go_enter Tryd.func13, Tryd.ntmps13
    go_wp2
    go_loopw [5, 11] (fun nv iv wr => ∃ (m : Int) (j : Nat), nv = .int .i64 m ∧ iv = .int .i64 j ∧ j ≤ l.length ∧ 1 ≤ m ∧ m ≤ 4001 ∧ Hid (cntL (l.drop j) lim m = cntL l lim 1) ∧ Below W.heap.size W wr) (fun _ iv _ => l.length - (intOf iv).toNat)
    case atStart => exact ⟨1, 0, rfl, rfl, by omega, by omega, by omega, Lib.hid (by rw [List.drop_zero]), hbW⟩
    case round =>
      obtain ⟨m, j, rfl, rfl, hj, hm1, hm2, HS, hb⟩ := hrel
      by_cases hlt : j < l.length
      · obtain ⟨b, off, rfl, hx⟩ := HX.out (by omega)
        obtain ⟨cs', hlen, hr, x, hxi, hv⟩ := hx j hlt
        obtain ⟨ai, ci, ak, ck, rfl⟩ := hv.form
        obtain ⟨k0, k1, k2, k3, k4⟩ := range5 (range_below hb hr)
        have hv := hv.below hb
        have HC := Lib.hid (fun (w1 : World) (hb1 : Below wr.heap.size wr w1) (h1 : m ≤ lim) => HI.out _ x (lim - m) w1 (hv.below hb1) (by omega) (by omega))
        clear hr hv hx HX HI hlen
        have hS : cntL (l.drop j) lim m = if lim < m then m else cntL (l.drop (j + 1)) lim (m + x.cnt (lim - m)) := by
          rw [List.drop_eq_getElem_cons hlt, cntL_cons, (List.getElem?_eq_some_iff.1 hxi).2]
        clear hxi
        by_cases hgt : lim < m
        · have hr2 := Lib.hid (show m = cntL l lim 1 by rw [← HS.out, hS, if_pos hgt])
          clear hS HS HC
          go_wp2
          go_ret
          exact ⟨ret1_of (by rw [← hr2.out]; rfl), hb.trans ((below_alloc1 wr _).mono hb.size)⟩
        · have hS2 := Lib.hid (show cntL (l.drop (j + 1)) lim (m + x.cnt (lim - m)) = cntL l lim 1 by rw [← HS.out, hS, if_neg hgt])
          clear hS HS
          have hmo := cnt_more x (lim - m)
          have hle : m ≤ lim := by omega
          go_wp2_with (go_at_call 13; refine (HC.out _ (below_alloc1 wr _) hle).mono ?_; rintro e w2 ⟨rfl, hb2⟩)
          go_roundw
          case rel => exact ⟨m + x.cnt (lim - m), j + 1, by go_num, by go_num, by omega, by omega, by omega, hS2, on_below hb (on_new _ hb2) hb.size⟩
          case measure => simp [intOf]; omega
      · have hr2 := Lib.hid (show m = cntL l lim 1 by rw [← HS.out, List.drop_eq_nil_of_le (by omega), cntL_nil])
        obtain rfl : j = l.length := by omega
        go_wp2
        go_ret
        exact ⟨ret1_of (by rw [← hr2.out]; rfl), hb⟩
end Go.Proofs.YtdfdpckcemdimaaDoor.V
