/- The developers' roomBeside and Right. -/
import Derived.Test.YtnloimanklkigaaDoorVFields
namespace Go.Proofs.YtnloimanklkigaaDoor.V
open Go.RowKit Go.Sort Go.Joins
set_option maxRecDepth 100000

/-- may a value be, so deep and so many? -/
def fits (t : VT) (L r : Nat) : Bool := decide (t.depth ≤ L) && decide (t.count ≤ r) && t.each
theorem fits_iff {t : VT} {L r : Nat} : fits t L r = true ↔ t.depth ≤ L ∧ t.count ≤ r ∧ t.each = true := by
  unfold fits
  rw [Bool.and_eq_true, Bool.and_eq_true, decide_eq_true_eq, decide_eq_true_eq, and_assoc]
theorem fits_ok (t : VT) : fits t 12 2000 = t.okB := by
  unfold fits VT.okB
  rw [Bool.and_comm (decide _) (decide _)]
theorem eachL_iff : ∀ l : List VT, eachL l = true ↔ ∀ x ∈ l, x.each = true := by
  intro l
  induction l with
  | nil => rw [eachL_nil]; simp
  | cons x l ih => rw [eachL_cons, Bool.and_eq_true, ih]; simp
theorem depthL_le {l : List VT} {L : Nat} : depthL l ≤ L ↔ ∀ x ∈ l, x.depth ≤ L := by
  induction l with
  | nil => rw [depthL_nil]; simp
  | cons x l ih => rw [depthL_cons, Nat.max_le, ih]; simp
theorem countL_len : ∀ l : List VT, l.length ≤ countL l := by
  intro l
  induction l with
  | nil => exact Nat.zero_le _
  | cons x l ih => rw [countL_cons, List.length_cons]; have := count_pos x; omega
theorem countL_take {l : List VT} {j : Nat} {x : VT} (h : l[j]? = some x) : countL (l.take (j + 1)) = countL (l.take j) + x.count ∧ countL (l.take j) + x.count ≤ countL l := by
  obtain ⟨hlt, rfl⟩ := List.getElem?_eq_some_iff.1 h
  have e : countL (l.take (j + 1)) = countL (l.take j) + l[j].count := by rw [List.take_succ_eq_append_getElem hlt, countL_append, countL_cons, countL_nil, Nat.add_zero]
  refine ⟨e, ?_⟩
  rw [← e]
  have := countL_append (l.take (j + 1)) (l.drop (j + 1))
  rw [List.take_append_drop] at this
  omega
/-- the first j items fit, and so many are left -/
def RoomTo (l : List VT) (L r j m : Nat) : Prop := (∀ (i : Nat) x, i < j → l[i]? = some x → x.depth ≤ L ∧ x.each = true) ∧ m + countL (l.take j) = r
theorem RoomTo.next {l : List VT} {L r j m : Nat} {x : VT} (h : RoomTo l L r j m) (hx : l[j]? = some x) (hf : fits x L m = true) : RoomTo l L r (j + 1) (m - x.count) := by
  obtain ⟨h1, h2⟩ := h
  obtain ⟨f1, f2, f3⟩ := fits_iff.1 hf
  refine ⟨fun i y hi hy => ?_, ?_⟩
  · rcases Nat.lt_or_ge i j with h | h
    · exact h1 i y h hy
    · obtain rfl : i = j := by omega
      rw [hx] at hy
      rw [← Option.some.inj hy]; exact ⟨f1, f3⟩
  · rw [(countL_take hx).1]; omega
theorem RoomTo.bad {k n : Int} {s : List UInt8} {l : List VT} {ks : List (List UInt8)} {L r j m : Nat} {x : VT} (h : RoomTo l L r j m) (hx : l[j]? = some x) (hf : fits x L m = false) : fits (.mk k n s l ks) (L + 1) (r + 1) = false := by
  cases hh : fits (.mk k n s l ks) (L + 1) (r + 1) with
  | false => rfl
  | true =>
    obtain ⟨f1, f2, f3⟩ := fits_iff.1 hh
    rw [depth_eq] at f1
    rw [count_eq] at f2
    rw [each_eq, Bool.and_eq_true] at f3
    have hm := List.mem_of_getElem? hx
    have h2 := countL_take hx
    have h3 := h.2
    rw [fits_iff.2 ⟨depthL_le.1 (by omega) x hm, by omega, eachL_mem f3.1 hm⟩] at hf
    cases hf
theorem RoomTo.all {k n : Int} {s : List UInt8} {l : List VT} {ks : List (List UInt8)} {L r m : Nat} (h : RoomTo l L r l.length m) (ho : oneB k n s l.length ks = true) : fits (.mk k n s l ks) (L + 1) (r + 1) = true ∧ r + 1 - (VT.mk k n s l ks).count = m := by
  obtain ⟨h1, h2⟩ := h
  rw [List.take_of_length_le (Nat.le_refl _)] at h2
  have h3 : ∀ x ∈ l, x.depth ≤ L ∧ x.each = true := fun x hx => by
    obtain ⟨i, hi, rfl⟩ := List.getElem_of_mem hx
    exact h1 i _ hi (List.getElem?_eq_getElem hi)
  have h4 : depthL l ≤ L := depthL_le.2 fun x hx => (h3 x hx).1
  refine ⟨fits_iff.2 ⟨by rw [depth_eq]; omega, by rw [count_eq]; omega, by rw [each_eq, ho, (eachL_iff l).2 fun x hx => (h3 x hx).2]; rfl⟩, by rw [count_eq]; omega⟩
def roomN (t : VT) (L r : Nat) : Nat := if fits t L r then r - t.count else 0
theorem roomN_yes {t : VT} {L r : Nat} (h : fits t L r = true) : roomN t L r = r - t.count := by unfold roomN; rw [if_pos h]
theorem roomN_no {t : VT} {L r : Nat} (h : fits t L r = false) : roomN t L r = 0 := by unfold roomN; rw [if_neg (by rw [h]; decide)]
theorem ret_room {a c : Int} {b d : Bool} (h : a = c) (h2 : b = d) : Ending.returned (.tuple #[.int .i64 a, .bool b]) = .returned (.tuple #[.int .i64 c, .bool d]) := by rw [h, h2]
set_option maxHeartbeats 3200000 in
theorem room_any : ∀ (d : Nat) (cs : List Value) (t : VT) (L r : Nat) (w : World), IsV w d cs t → L ≤ 4000 → r ≤ 4000 →
    Calls Tryd.prog 43 #[.agg cs.toArray, .int .i64 L, .int .i64 r] w fun e w' => e = .returned (.tuple #[.int .i64 (roomN t L r : Int), .bool (fits t L r)]) ∧ Below w.heap.size w w' := by
  intro d
  induction d with
  | zero => intro cs t L r w h; exact h.elim
  | succ d ih =>
    intro cs t L r W h hL hr
    have HF := Lib.hid (fun (w1 : World) (hb1 : Below W.heap.size W w1) => fieldsV_any (d + 1) cs t w1 (h.below hb1))
    obtain ⟨vi, vk, rfl, hfit, hks, a, c, rfl, hc, hm, hna, hx⟩ := h
    obtain ⟨ak, ck, rfl, _⟩ := hks
    obtain ⟨k, n, s, l, ks⟩ := t
    have HI := Lib.hid ih
    have HX := Lib.hid hx
    simp only [VT.items, VT.kind, VT.num, VT.txt, VT.keys, str] at *
    clear ih hfit hx hna
    unfold maxLen at hm
    have hbW := (Below.refl W.heap.size W).alloc (Nat.le_refl _) (.cells #[.int .i64 k, .int .i64 n, .string ⟨s.toArray⟩, .slice a l.length c, .slice ak ks.length ck] 25)
    have lA := Lies.new W 25 #[.int .i64 k, .int .i64 n, .string ⟨s.toArray⟩, .slice a l.length c, .slice ak ks.length ck]
    have q0 := lA.cell 0
    have q1 := lA.cell 1
    have q2 := lA.cell 2
    have q3 := lA.cell 3
    have q4 := lA.cell 4
    simp only [List.getElem?_toArray, List.getElem?_cons_succ, List.getElem?_cons_zero] at q0 q1 q2 q3 q4
    by_cases hL0 : L = 0
    case pos =>
      subst hL0
      have hno : fits (.mk k n s l ks) 0 r = false := by
        unfold fits
        rw [depth_eq, decide_eq_false (by omega)]; rfl
      have h1 := Lib.hid (roomN_no hno)
      have h2 := Lib.hid hno
      clear HF HI HX hno
      go_enter Tryd.func43, Tryd.ntmps43
      go_wp2
      go_ret2
      exact ⟨ret_room (by rw [h1.out]; rfl) h2.out.symm, hbW⟩
    obtain ⟨L, rfl⟩ : ∃ i, L = i + 1 := ⟨L - 1, by omega⟩
    have hL1 : ((L : Int) + 1 == 0) = false := by simp; omega
    clear hL0
    by_cases hrm : (r : Int) ≤ (l.length : Int)
    case pos =>
      have hno : fits (.mk k n s l ks) (L + 1) r = false := by
        unfold fits
        have := countL_len l
        rw [count_eq, decide_eq_false (p := 1 + countL l ≤ r) (by omega), Bool.and_false]; rfl
      have h1 := Lib.hid (roomN_no hno)
      have h2 := Lib.hid hno
      clear HF HI HX hno
      go_enter Tryd.func43, Tryd.ntmps43
      go_wp2
      go_ret2
      exact ⟨ret_room (by rw [h1.out]; rfl) h2.out.symm, hbW⟩
    obtain ⟨r, rfl⟩ : ∃ i, r = i + 1 := ⟨r - 1, by omega⟩
    have hr1 : decide ((r : Int) + 1 ≤ (l.length : Int)) = false := decide_eq_false (by omega)
    cases ho : oneB k n s l.length ks with
    | false =>
      have hno : fits (.mk k n s l ks) (L + 1) (r + 1) = false := by
        unfold fits
        rw [each_eq, ho, Bool.and_false, Bool.and_false]
      have h1 := Lib.hid (roomN_no hno)
      have h2 := Lib.hid hno
      rw [ho] at HF
      clear HI HX hno ho
      go_enter Tryd.func43, Tryd.ntmps43
      go_wp2_with (go_at_call 54; (with_reducible refine (HF.out _ hbW).mono ?_); rintro e w1 ⟨rfl, hb1⟩)
      go_ret2
      exact ⟨ret_room (by rw [h1.out]; rfl) h2.out.symm, below_on hbW hb1⟩
    | true =>
      have HO := Lib.hid ho
      rw [ho] at HF
      clear ho
      go_enter Tryd.func43, Tryd.ntmps43
      go_wp2_with (go_at_call 54; (with_reducible refine (HF.out _ hbW).mono ?_); rintro e w1 ⟨rfl, hb1⟩; replace hbW := below_on hbW hb1; replace lA := lA.on hb1; have q0 := lA.cell 0; have q1 := lA.cell 1; have q2 := lA.cell 2; have q3 := lA.cell 3; have q4 := lA.cell 4; simp only [List.getElem?_toArray, List.getElem?_cons_succ, List.getElem?_cons_zero] at q0 q1 q2 q3 q4)
      go_loopw [2, 31] (fun rv iv wr => ∃ (m j : Nat), rv = .int .i64 m ∧ iv = .int .i64 j ∧ j ≤ l.length ∧ m ≤ r ∧ Hid (RoomTo l L r j m) ∧ Below W.heap.size W wr) (fun _ iv _ => l.length - (intOf iv).toNat)
      case atStart => exact ⟨r, 0, by go_num, rfl, by omega, Nat.le_refl _, Lib.hid ⟨fun i x h => absurd h (by omega), by rw [List.take_zero, countL_nil, Nat.add_zero]⟩, hbW⟩
      case round =>
        clear hbW lA q0 q1 q2 q3 q4 HF
        obtain ⟨m, j, rfl, rfl, hj, hmr, HS, hb⟩ := hrel
        by_cases hlt : j < l.length
        · obtain ⟨b, off, rfl, hx⟩ := HX.out (by omega)
          obtain ⟨cs', hlen, hr', x, hxi, hv⟩ := hx j hlt
          obtain ⟨ai, ci, ak, ck, rfl⟩ := hv.form
          obtain ⟨k0, k1, k2, k3, k4⟩ := range5 (range_below hb hr')
          have hv := hv.below hb
          have HC := Lib.hid (fun (w1 : World) (hb1 : Below wr.heap.size wr w1) => HI.out _ x L m w1 (hv.below hb1) (by omega) (by omega))
          clear hr' hv hx HX HI hlen
          cases hf : fits x L m with
          | false =>
            have hno := HS.out.bad (k := k) (n := n) (s := s) (ks := ks) hxi hf
            have h1 := Lib.hid (roomN_no hno)
            have h2 := Lib.hid hno
            rw [hf, roomN_no hf] at HC
            clear hno hf hxi HS
            go_wp2_with (go_at_call 43; refine (HC.out _ (below_alloc1 wr _)).mono ?_; rintro e w2 ⟨rfl, hb2⟩)
            go_ret2
            exact ⟨ret_room (by rw [h1.out]; rfl) h2.out.symm, on_below hb (on_new _ hb2) hb.size⟩
          | true =>
            have HS2 := Lib.hid (HS.out.next hxi hf)
            rw [hf, roomN_yes hf] at HC
            generalize m - x.count = m2 at *
            have hm2 : m2 ≤ r := by have := HS2.out.2; omega
            clear hf hxi HS
            go_wp2_with (go_at_call 43; refine (HC.out _ (below_alloc1 wr _)).mono ?_; rintro e w2 ⟨rfl, hb2⟩)
            go_roundw
            case rel => exact ⟨m2, j + 1, rfl, by go_num, by omega, hm2, HS2, on_below hb (on_new _ hb2) hb.size⟩
            case measure => simp [intOf]; omega
        · obtain rfl : j = l.length := by omega
          obtain ⟨e1, e2⟩ := HS.out.all (k := k) (n := n) (s := s) (ks := ks) HO.out
          have h1 := Lib.hid ((roomN_yes e1).trans e2)
          have h2 := Lib.hid e1
          clear e1 e2 HS HO HI HX
          go_wp2
          go_ret2
          exact ⟨ret_room (by rw [h1.out]) h2.out.symm, hb⟩
theorem room_top (d : Nat) (cs : List Value) (t : VT) (w : World) (h : IsV w d cs t) :
    Calls Tryd.prog 43 #[.agg cs.toArray, .int .i64 12, .int .i64 2000] w fun e w' => e = .returned (.tuple #[.int .i64 (roomN t 12 2000 : Int), .bool t.okB]) ∧ Below w.heap.size w w' := by
  rw [← fits_ok]
  exact room_any d cs t 12 2000 w h (by decide) (by decide)
set_option maxHeartbeats 800000 in
theorem right_any (d : Nat) (cs : List Value) (t : VT) (w : World) (h : IsV w d cs t) :
    Calls Tryd.prog 25 #[.agg cs.toArray] w fun e w' => e = .returned (.bool t.okB) ∧ Below w.heap.size w w' := by
  have HC := Lib.hid (fun (w1 : World) (hb : Below w.heap.size w w1) => room_top d cs t w1 (h.below hb))
  obtain ⟨ai, ci, ak, ck, rfl⟩ := h.form
  have hbW := (Below.refl w.heap.size w).alloc (Nat.le_refl _) (.cells #[.int .i64 t.kind, .int .i64 t.num, .string ⟨t.txt.toArray⟩, .slice ai t.items.length ci, .slice ak t.keys.length ck] 25)
  have lA := Lies.new w 25 #[.int .i64 t.kind, .int .i64 t.num, .string ⟨t.txt.toArray⟩, .slice ai t.items.length ci, .slice ak t.keys.length ck]
  have q0 := lA.cell 0
  have q1 := lA.cell 1
  have q2 := lA.cell 2
  have q3 := lA.cell 3
  have q4 := lA.cell 4
  simp only [List.getElem?_toArray, List.getElem?_cons_succ, List.getElem?_cons_zero] at q0 q1 q2 q3 q4
  clear h
  generalize roomN t 12 2000 = m at *
  go_enter Tryd.func25, Tryd.ntmps25
  go_wp2_with (go_at_call 43; (with_reducible refine (HC.out _ hbW).mono ?_); rintro e w1 ⟨rfl, hb1⟩)
  go_ret
  exact ⟨rfl, below_on hbW hb1⟩
end Go.Proofs.YtnloimanklkigaaDoor.V
