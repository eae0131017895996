/- The developers' extent, Count and Depth. -/
import Derived.Test.YtdfdpckcemdimaaDoorVRoom
namespace Go.Proofs.YtdfdpckcemdimaaDoor.V
open Go.RowKit Go.Sort Go.Joins
set_option maxRecDepth 100000

theorem ret_ext {a b : Int} {c d : Int} (h : a = c) (h2 : b = d) : Ending.returned (.tuple #[.int .i64 a, .int .i64 b, .bool true]) = .returned (.tuple #[.int .i64 c, .int .i64 d, .bool true]) := by rw [h, h2]
/-- so many, and so deep, with the first j items -/
def ExtTo (l : List VT) (j m p : Nat) : Prop := m = 1 + countL (l.take j) ∧ p = 1 + depthL (l.take j)
theorem ExtTo.next {l : List VT} {j m p : Nat} {x : VT} (h : ExtTo l j m p) (hx : l[j]? = some x) : ExtTo l (j + 1) (m + x.count) (max p (x.depth + 1)) := by
  obtain ⟨hlt, rfl⟩ := List.getElem?_eq_some_iff.1 hx
  refine ⟨?_, ?_⟩
  · rw [List.take_succ_eq_append_getElem hlt, countL_append, countL_cons, countL_nil, h.1]; omega
  · rw [List.take_succ_eq_append_getElem hlt, depthL_append, depthL_cons, depthL_nil, h.2]; omega
set_option maxHeartbeats 1600000 in
theorem extent_any : ∀ (d : Nat) (cs : List Value) (t : VT) (L : Nat) (w : World), IsV w d cs t → t.depth ≤ L → L ≤ 65537 → t.count ≤ 100000 →
    Calls Tryd.prog 28 #[.agg cs.toArray, .int .i64 L] w fun e w' => e = .returned (.tuple #[.int .i64 (t.count : Int), .int .i64 (t.depth : Int), .bool true]) ∧ Below w.heap.size w w' := by
  intro d
  induction d with
  | zero => intro cs t L w h; exact h.elim
  | succ d ih =>
    intro cs t L W h hdl hL hcm
    obtain ⟨vi, vk, rfl, hfit, hks, a, c, rfl, hc, hm, hna, hx⟩ := h
    obtain ⟨ak, ck, rfl, _⟩ := hks
    obtain ⟨k, n, s, l, ks⟩ := t
    have HI := Lib.hid ih
    have HX := Lib.hid hx
    rw [depth_eq] at hdl ⊢
    rw [count_eq] at hcm ⊢
    simp only [VT.items, VT.kind, VT.num, VT.txt, VT.keys, str] at *
    clear ih hfit hx hna
    unfold maxLen at hm
    have hbW := (Below.refl W.heap.size W).alloc (Nat.le_refl _) (.cells #[.int .i64 k, .int .i64 n, .string ⟨s.toArray⟩, .slice a l.length c, .slice ak ks.length ck] 25)
    have lA := Lies.new W 25 #[.int .i64 k, .int .i64 n, .string ⟨s.toArray⟩, .slice a l.length c, .slice ak ks.length ck]
    have q3 := lA.cell 3
    simp only [List.getElem?_toArray, List.getElem?_cons_succ, List.getElem?_cons_zero] at q3
    obtain ⟨L, rfl⟩ : ∃ i, L = i + 1 := ⟨L - 1, by omega⟩
    have hL1 : ((L : Int) + 1 == 0) = false := by simp; omega
    rw [show ((L + 1 : Nat) : Int) = (L : Int) + 1 by omega]
    go_enter Tryd.func28, Tryd.ntmps28
    go_wp2
    go_loopw [4, 5, 17] (fun mv pv iv wr => ∃ (m p j : Nat), mv = .int .i64 m ∧ pv = .int .i64 p ∧ iv = .int .i64 j ∧ j ≤ l.length ∧ Hid (ExtTo l j m p) ∧ m ≤ 100000 ∧ p ≤ 65538 ∧ Below W.heap.size W wr) (fun _ _ iv _ => l.length - (intOf iv).toNat)
    case atStart => exact ⟨1, 1, 0, rfl, rfl, rfl, by omega, Lib.hid ⟨by rw [List.take_zero, countL_nil], by rw [List.take_zero, depthL_nil]⟩, by omega, by omega, hbW⟩
    case round =>
      clear hbW lA q3
      obtain ⟨m, p, j, rfl, rfl, rfl, hj, HS, hm1, hp1, hb⟩ := hrel
      by_cases hlt : j < l.length
      · obtain ⟨b, off, rfl, hx⟩ := HX.out (by omega)
        obtain ⟨cs', hlen, hr', x, hxi, hv⟩ := hx j hlt
        obtain ⟨ai, ci, ak, ck, rfl⟩ := hv.form
        obtain ⟨k0, k1, k2, k3, k4⟩ := range5 (range_below hb hr')
        have hv := hv.below hb
        have hxm := List.mem_of_getElem? hxi
        have hxd : x.depth ≤ depthL l := depthL_mem hxm
        have hxc := countL_take hxi
        have HC := Lib.hid (fun (w1 : World) (hb1 : Below wr.heap.size wr w1) => HI.out _ x L w1 (hv.below hb1) (by omega) (by omega) (by omega))
        have HS2 := HS.out.next hxi
        have hm2 : m + x.count ≤ 100000 := by have := HS.out.1; omega
        have hxd2 : x.depth ≤ 65536 := by omega
        clear hr' hv hx HX HI hlen HS hxm hxc hxi hxd
        generalize x.depth = xd at *
        generalize x.count = xc at *
        by_cases hgt : p < xd + 1
        · rw [Nat.max_eq_right (by omega)] at HS2
          have HS3 := Lib.hid HS2
          have hmx : max (p : Int) ((xd : Int) + 1) = (xd : Int) + 1 := by omega
          clear HS2
          go_wp2_with (go_at_call 28; refine (HC.out _ (below_alloc1 wr _)).mono ?_; rintro e w2 ⟨rfl, hb2⟩)
          go_roundw
          case rel => exact ⟨m + xc, xd + 1, j + 1, by go_num, by go_num, by go_num, by omega, HS3, hm2, by omega, on_below hb (on_new _ hb2) hb.size⟩
          case measure => simp [intOf]; omega
        · rw [Nat.max_eq_left (by omega)] at HS2
          have HS3 := Lib.hid HS2
          have hmx : max (p : Int) ((xd : Int) + 1) = (p : Int) := by omega
          clear HS2
          go_wp2_with (go_at_call 28; refine (HC.out _ (below_alloc1 wr _)).mono ?_; rintro e w2 ⟨rfl, hb2⟩)
          go_roundw
          case rel => exact ⟨m + xc, p, j + 1, by go_num, by go_num, by go_num, by omega, HS3, hm2, by omega, on_below hb (on_new _ hb2) hb.size⟩
          case measure => simp [intOf]; omega
      · obtain rfl : j = l.length := by omega
        have h2 := HS.out
        unfold ExtTo at h2
        rw [List.take_of_length_le (Nat.le_refl _)] at h2
        have h1 := Lib.hid h2
        clear h2 HS HI HX
        go_wp2
        go_ret3
        exact ⟨ret_ext (by rw [h1.out.1]) (by rw [h1.out.2]), hb⟩
theorem extent_top (d : Nat) (cs : List Value) (t : VT) (w : World) (h : IsV w d cs t) (hd : t.depth ≤ 65537) (hc : t.count ≤ 100000) :
    Calls Tryd.prog 28 #[.agg cs.toArray, .int .i64 65537] w fun e w' => e = .returned (.tuple #[.int .i64 (t.count : Int), .int .i64 (t.depth : Int), .bool true]) ∧ Below w.heap.size w w' :=
  extent_any d cs t 65537 w h hd (Nat.le_refl _) hc
set_option maxHeartbeats 800000 in
theorem count_any (d : Nat) (cs : List Value) (t : VT) (w : World) (h : IsV w d cs t) (hd : t.depth ≤ 65537) (hc : t.count ≤ 100000) :
    Calls Tryd.prog 12 #[.agg cs.toArray] w fun e w' => e = .returned (.int .i64 (t.count : Int)) ∧ Below w.heap.size w w' := by
  have HC := Lib.hid (fun (w1 : World) (hb : Below w.heap.size w w1) => extent_top d cs t w1 (h.below hb) hd hc)
  obtain ⟨ai, ci, ak, ck, rfl⟩ := h.form
  have hbW := (Below.refl w.heap.size w).alloc (Nat.le_refl _) (.cells #[.int .i64 t.kind, .int .i64 t.num, .string ⟨t.txt.toArray⟩, .slice ai t.items.length ci, .slice ak t.keys.length ck] 25)
  have lA := Lies.new w 25 #[.int .i64 t.kind, .int .i64 t.num, .string ⟨t.txt.toArray⟩, .slice ai t.items.length ci, .slice ak t.keys.length ck]
  have q0 := lA.cell 0
  have q1 := lA.cell 1
  have q2 := lA.cell 2
  have q3 := lA.cell 3
  have q4 := lA.cell 4
  simp only [List.getElem?_toArray, List.getElem?_cons_succ, List.getElem?_cons_zero] at q0 q1 q2 q3 q4
  clear h hd hc
  generalize t.count = m at *
  generalize t.depth = p at *
  go_enter Tryd.func12, Tryd.ntmps12
  go_wp2_with (go_at_call 28; (with_reducible refine (HC.out _ hbW).mono ?_); rintro e w1 ⟨rfl, hb1⟩)
  go_ret
  exact ⟨rfl, below_on hbW hb1⟩
set_option maxHeartbeats 800000 in
theorem depth_any (d : Nat) (cs : List Value) (t : VT) (w : World) (h : IsV w d cs t) (hd : t.depth ≤ 65537) (hc : t.count ≤ 100000) :
    Calls Tryd.prog 14 #[.agg cs.toArray] w fun e w' => e = .returned (.int .i64 (t.depth : Int)) ∧ Below w.heap.size w w' := by
  have HC := Lib.hid (fun (w1 : World) (hb : Below w.heap.size w w1) => extent_top d cs t w1 (h.below hb) hd hc)
  obtain ⟨ai, ci, ak, ck, rfl⟩ := h.form
  have hbW := (Below.refl w.heap.size w).alloc (Nat.le_refl _) (.cells #[.int .i64 t.kind, .int .i64 t.num, .string ⟨t.txt.toArray⟩, .slice ai t.items.length ci, .slice ak t.keys.length ck] 25)
  have lA := Lies.new w 25 #[.int .i64 t.kind, .int .i64 t.num, .string ⟨t.txt.toArray⟩, .slice ai t.items.length ci, .slice ak t.keys.length ck]
  have q0 := lA.cell 0
  have q1 := lA.cell 1
  have q2 := lA.cell 2
  have q3 := lA.cell 3
  have q4 := lA.cell 4
  simp only [List.getElem?_toArray, List.getElem?_cons_succ, List.getElem?_cons_zero] at q0 q1 q2 q3 q4
  clear h hd hc
  generalize t.count = m at *
  generalize t.depth = p at *
  go_enter Tryd.func14, Tryd.ntmps14
  go_wp2_with (go_at_call 28; (with_reducible refine (HC.out _ hbW).mono ?_); rintro e w1 ⟨rfl, hb1⟩)
  go_ret
  exact ⟨rfl, below_on hbW hb1⟩
end Go.Proofs.YtdfdpckcemdimaaDoor.V
