/- The reference's Depth. -/
import Derived.Test.YtdfdpckcemdimaaDoorVMem
import Derived.Lib.SmallJoins
namespace Go.Proofs.YtdfdpckcemdimaaDoor.V
open Go.RowKit Go.Sort Go.Joins
set_option maxRecDepth 100000

set_option maxHeartbeats 1600000 in
theorem refDepth_any : ∀ (d : Nat) (cs : List Value) (t : VT) (w : World), IsV w d cs t → t.depth ≤ 4000 →
    Calls Tryd.prog 15 #[.agg cs.toArray] w fun e w' => e = .returned (.int .i64 t.depth) ∧ Below w.heap.size w w' := by
  intro d
  induction d with
  | zero => intro cs t w h; exact h.elim
  | succ d ih =>
    intro cs t W h hl2
    obtain ⟨vi, vk, rfl, hfit, hks, a, c, rfl, hc, hm, hna, hx⟩ := h
    obtain ⟨k, n, s, l, ks⟩ := t
    have HI := Lib.hid ih
    have HX := Lib.hid hx
    rw [depth_eq] at hl2 ⊢
    simp only [VT.items, VT.kind, VT.num, VT.txt] at *
    clear ih hfit hks hx hna
    unfold maxLen at hm
    have hbW := (Below.refl W.heap.size W).alloc (Nat.le_refl _) (.cells #[.int .i64 k, .int .i64 n, .string ⟨s.toArray⟩, .slice a l.length c, vk] 25)
    go_enter Tryd.func15, Tryd.ntmps15
    go_wp2
    go_loopw [3, 10] (fun nv iv wr => ∃ (m : Nat) (j : Nat), nv = .int .i64 m ∧ iv = .int .i64 j ∧ j ≤ l.length ∧ 1 ≤ m ∧ m ≤ 4000 ∧ Hid (max m (1 + depthL (l.drop j)) = 1 + depthL l) ∧ Below W.heap.size W wr) (fun _ iv _ => l.length - (intOf iv).toNat)
    case atStart => exact ⟨1, 0, rfl, rfl, by omega, by omega, by omega, Lib.hid (by rw [List.drop_zero]; omega), hbW⟩
    case round =>
      obtain ⟨m, j, rfl, rfl, hj, hm1, hm2, HS, hb⟩ := hrel
      by_cases hlt : j < l.length
      · obtain ⟨b, off, rfl, hx⟩ := HX.out (by omega)
        obtain ⟨cs', hlen, hr, x, hxi, hv⟩ := hx j hlt
        obtain ⟨ai, ci, ak, ck, rfl⟩ := hv.form
        obtain ⟨k0, k1, k2, k3, k4⟩ := range5 (range_below hb hr)
        have hv := hv.below hb
        have hxl : x.depth ≤ depthL l := depthL_mem (List.mem_of_getElem? hxi)
        have HC := Lib.hid (fun (w1 : World) (hb1 : Below wr.heap.size wr w1) => HI.out _ x w1 (hv.below hb1) (by omega))
        clear hr hv hx HX HI hlen
        have hS : depthL (l.drop j) = max x.depth (depthL (l.drop (j + 1))) := by
          rw [List.drop_eq_getElem_cons hlt, depthL_cons, (List.getElem?_eq_some_iff.1 hxi).2]
        clear hxi
        have hS1 := HS.out
        generalize hxd : x.depth = xd at *
        by_cases hgt : m < xd + 1
        · have hS2 := Lib.hid (show max (xd + 1) (1 + depthL (l.drop (j + 1))) = 1 + depthL l by omega)
          have hgt' : ((xd : Int) + 1 > (m : Int)) := by omega
          clear hS HS hS1 
          go_wp2_with (go_at_call 15; refine (HC.out _ (below_alloc1 wr _)).mono ?_; rintro e w2 ⟨rfl, hb2⟩)
          go_roundw
          case rel => exact ⟨xd + 1, j + 1, by go_num, by go_num, by omega, by omega, by omega, hS2, on_below hb (on_new _ hb2) hb.size⟩
          case measure => simp [intOf]; omega
        · have hS2 := Lib.hid (show max m (1 + depthL (l.drop (j + 1))) = 1 + depthL l by omega)
          have hgt' : ¬ ((xd : Int) + 1 > (m : Int)) := by omega
          clear hS HS hS1
          go_wp2_with (go_at_call 15; refine (HC.out _ (below_alloc1 wr _)).mono ?_; rintro e w2 ⟨rfl, hb2⟩)
          go_roundw
          case rel => exact ⟨m, j + 1, rfl, by go_num, by omega, by omega, by omega, hS2, on_below hb (on_new _ hb2) hb.size⟩
          case measure => simp [intOf]; omega
      · have hr2 := Lib.hid (show (m : Int) = ((1 + depthL l : Nat) : Int) by
          have := HS.out
          rw [List.drop_eq_nil_of_le (by omega), depthL_nil] at this
          omega)
        obtain rfl : j = l.length := by omega
        go_wp2
        go_ret
        exact ⟨ret1_of (by rw [← hr2.out]; rfl), hb⟩
end Go.Proofs.YtdfdpckcemdimaaDoor.V
