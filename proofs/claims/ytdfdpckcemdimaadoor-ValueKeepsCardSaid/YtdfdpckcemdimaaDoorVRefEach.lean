/- The reference's each and Right, from the contract of its one. -/
import Derived.Test.YtdfdpckcemdimaaDoorVRefCount
import Derived.Test.YtdfdpckcemdimaaDoorVRefDepth
import Derived.Test.YtdfdpckcemdimaaDoorVText
import Derived.Test.YtdfdpckcemdimaaDoorVLies
namespace Go.Proofs.YtdfdpckcemdimaaDoor.V
open Go.RowKit Go.Sort Go.Joins
set_option maxRecDepth 100000

/-- what one says of five cells -/
def OneSays : Prop := ∀ (d : Nat) (cs : List Value) (t : VT) (w : World), IsV w d cs t → Calls Tryd.prog 44 #[.agg cs.toArray] w fun e w' => e = .returned (.bool (oneB t.kind t.num t.txt t.items.length t.keys)) ∧ Below w.heap.size w w'
set_option maxHeartbeats 1600000 in
theorem refEach_any (HO : OneSays) : ∀ (d : Nat) (cs : List Value) (t : VT) (w : World), IsV w d cs t →
    Calls Tryd.prog 30 #[.agg cs.toArray] w fun e w' => e = .returned (.bool t.each) ∧ Below w.heap.size w w' := by
  intro d
  induction d with
  | zero => intro cs t w h; exact h.elim
  | succ d ih =>
    intro cs t W h
    have HO1 := Lib.hid (fun (w1 : World) (hb1 : Below W.heap.size W w1) => HO (d + 1) cs t w1 (h.below hb1))
    obtain ⟨vi, vk, rfl, hfit, hks, a, c, rfl, hc, hm, hna, hx⟩ := h
    obtain ⟨ak, ck, rfl, _⟩ := hks
    obtain ⟨k, n, s, l, ks⟩ := t
    have HI := Lib.hid ih
    have HX := Lib.hid hx
    rw [each_eq]
    simp only [VT.items, VT.kind, VT.num, VT.txt, VT.keys] at *
    clear ih hfit hx hna
    unfold maxLen at hm
    have hbW := (Below.refl W.heap.size W).alloc (Nat.le_refl _) (.cells #[.int .i64 k, .int .i64 n, .string ⟨s.toArray⟩, .slice a l.length c, .slice ak ks.length ck] 25)
    have hl : Lies (W.alloc (.cells #[.int .i64 k, .int .i64 n, .string ⟨s.toArray⟩, .slice a l.length c, .slice ak ks.length ck] 25)) W.heap.size 25 _ := Lies.new W _ _
    go_enter Tryd.func30, Tryd.ntmps30
    go_wp2
    go_loopw [8] (fun iv wr => ∃ (j : Nat), iv = .int .i64 j ∧ j ≤ l.length ∧ Hid (eachL (l.drop j) = eachL l) ∧ Below W.heap.size W wr ∧ Lies wr W.heap.size 25 #[.int .i64 k, .int .i64 n, .string ⟨s.toArray⟩, .slice a l.length c, .slice ak ks.length ck]) (fun iv _ => l.length - (intOf iv).toNat)
    case atStart => exact ⟨0, rfl, by omega, Lib.hid (by rw [List.drop_zero]), hbW, hl⟩
    case round =>
      obtain ⟨j, rfl, hj, HS, hb, hl⟩ := hrel
      by_cases hlt : j < l.length
      · obtain ⟨b, off, rfl, hx⟩ := HX.out (by omega)
        obtain ⟨cs', hlen, hr, x, hxi, hv⟩ := hx j hlt
        obtain ⟨ai, ci, ak, ck, rfl⟩ := hv.form
        obtain ⟨k0, k1, k2, k3, k4⟩ := range5 (range_below hb hr)
        have hv := hv.below hb
        have HC := Lib.hid (fun (w1 : World) (hb1 : Below wr.heap.size wr w1) => HI.out _ x w1 (hv.below hb1))
        clear hr hv hx HX HI hlen HO1
        have hS : eachL (l.drop j) = (x.each && eachL (l.drop (j + 1))) := by
          rw [List.drop_eq_getElem_cons hlt, eachL_cons, (List.getElem?_eq_some_iff.1 hxi).2]
        clear hxi
        have hS1 := HS.out
        rw [hS] at hS1
        generalize hxd : x.each = xd at *
        cases xd with
        | false =>
          have hr2 := Lib.hid (show eachL l = false by rw [← hS1]; rfl)
          clear hS HS hS1
          go_wp2_with (go_at_call 30; refine (HC.out _ (below_alloc1 wr _)).mono ?_; rintro e w2 ⟨rfl, hb2⟩)
          go_ret
          exact ⟨ret1_of (by rw [hr2.out]; rfl), on_below hb (on_new _ hb2) hb.size⟩
        | true =>
          have hS2 := Lib.hid (show eachL (l.drop (j + 1)) = eachL l by rw [← hS1, Bool.true_and])
          clear hS HS hS1
          go_wp2_with (go_at_call 30; refine (HC.out _ (below_alloc1 wr _)).mono ?_; rintro e w2 ⟨rfl, hb2⟩)
          have hb3 := on_new _ hb2
          go_roundw
          case rel => exact ⟨j + 1, by go_num, by omega, hS2, on_below hb hb3 hb.size, hl.on hb3⟩
          case measure => simp [intOf]; omega
      · have hr2 := Lib.hid (show eachL l = true by
          have := HS.out
          rw [List.drop_eq_nil_of_le (by omega), eachL_nil] at this
          exact this.symm)
        obtain rfl : j = l.length := by omega
        have HC := Lib.hid (HO1.out wr hb)
        clear HO1 HX HI HS
        have q0 := hl.cell 0
        have q1 := hl.cell 1
        have q2 := hl.cell 2
        have q3 := hl.cell 3
        have q4 := hl.cell 4
        simp only [List.getElem?_toArray, List.getElem?_cons_succ, List.getElem?_cons_zero] at q0 q1 q2 q3 q4
        go_wp2_with (go_at_call 44; refine HC.out.mono ?_; rintro e w2 ⟨rfl, hb2⟩)
        go_ret
        exact ⟨ret1_of (by rw [hr2.out, Bool.true_and]; rfl), on_below hb hb2 hb.size⟩
end Go.Proofs.YtdfdpckcemdimaaDoor.V
