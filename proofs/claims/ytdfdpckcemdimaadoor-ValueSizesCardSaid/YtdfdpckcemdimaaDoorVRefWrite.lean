/- The reference's Write, of a value that may be. -/
import Derived.Test.YtdfdpckcemdimaaDoorVMem
import Derived.Test.YtdfdpckcemdimaaDoorVText
import Derived.Test.YtdfdpckcemdimaaDoorVLies
import Derived.Test.YtdfdpckcemdimaaDoorVRefQuoted
import Derived.Lib.SmallJoins
import Derived.Shelf.Strconv.Itoa0
namespace Go.Proofs.YtdfdpckcemdimaaDoor.V
open Go.RowKit Go.Sort Go.Joins
set_option maxRecDepth 100000

/-- the library's table of powers of ten lies there -/
def Tab (w : World) : Prop := Lib.TabIs Tryd.prog w "internal/strconv.uint64pow10" .u64 Lib.pow10Tab
theorem Tab.below {w w' : World} (h : Tab w) (hb : Below w.heap.size w w') : Tab w' := tab_stays (show Tryd.prog.globalNamed "internal/strconv.uint64pow10" = some 1 by kernel_rfl) h hb (Nat.le_refl _)
/-- what the library's FormatInt gives -/
def FmtSays : Prop := ∀ (n : Int) (w : World), -9223372036854775808 ≤ n → n ≤ 9223372036854775807 → Tab w → Calls Tryd.prog 31 #[.int .i64 n, .int .i64 10] w fun e w' => e = .returned (.string ⟨(Lib.itoa n).toArray⟩) ∧ Below w.heap.size w w'
/-- the items' text, with keys or without -/
def wrI (m first : Bool) (l : List VT) (ks : List (List UInt8)) : List UInt8 := if m then wrM first l ks else wrL first l
theorem wrI_at {m first : Bool} {l : List VT} {ks : List (List UInt8)} {j : Nat} {x : VT} {y : List UInt8} (hx : l[j]? = some x) (hy : m = true → ks[j]? = some y) :
    wrI m first (l.drop j) (ks.drop j) = (if first then [] else [44]) ++ ((if m then quotL y ++ [58] else []) ++ (x.wr ++ wrI m false (l.drop (j + 1)) (ks.drop (j + 1)))) := by
  obtain ⟨hlt, hx⟩ := List.getElem?_eq_some_iff.1 hx
  unfold wrI
  rw [List.drop_eq_getElem_cons hlt, hx]
  cases m with
  | false => simp [wrL_cons]
  | true =>
    obtain ⟨hlt2, hy⟩ := List.getElem?_eq_some_iff.1 (hy rfl)
    rw [List.drop_eq_getElem_cons hlt2, hy]
    simp [wrM_cons]
theorem wrI_nil (m first : Bool) (l : List VT) (ks : List (List UInt8)) (j : Nat) (h : l.length ≤ j) : wrI m first (l.drop j) (ks.drop j) = [] := by
  rw [List.drop_eq_nil_of_le h]
  unfold wrI
  cases m <;> simp [wrL_nil, wrM_nil]

theorem cat2 (a b : Array UInt8) : ({ data := a } : ByteArray) ++ { data := b } = { data := a ++ b } := by
  show ByteArray.append _ _ = _
  apply ByteArray.ext
  simp [ByteArray.append]
theorem close_eq {S : ByteArray} {T : List UInt8} (o c : UInt8) (h : S.data.toList = T) : (⟨#[o]⟩ : ByteArray) ++ S ++ ⟨#[c]⟩ = ⟨(o :: (T ++ [c])).toArray⟩ := by
  obtain ⟨d⟩ := S
  subst h
  rw [cat2, cat2]
  apply ByteArray.ext
  apply Array.ext'
  simp
/-! ### how long a text is -/
theorem quot_len (s : List UInt8) : (quotL s).length ≤ 2 * s.length + 2 := by
  have := esc_len s
  unfold quotL
  simp
  omega
theorem text_len {s : List UInt8} (h : textOk s = true) : s.length ≤ 4000 := by
  unfold textOk at h
  simp at h
  exact h.2
theorem keys_mem : ∀ {ks : List (List UInt8)}, keysOk ks = true → ∀ x ∈ ks, textOk x = true := by
  intro ks
  induction ks with
  | nil => intro _ x hx; cases hx
  | cons k r ih =>
    intro h x hx
    cases r with
    | nil =>
      rw [keysOk] at h
      rcases List.mem_cons.1 hx with rfl | hx
      · exact h
      · cases hx
    | cons k' r' =>
      rw [keysOk, Bool.and_eq_true, Bool.and_eq_true] at h
      rcases List.mem_cons.1 hx with rfl | hx
      · exact h.1.1
      · exact ih h.2 x hx
theorem one_txt {k n : Int} {s : List UInt8} {m : Nat} {ks : List (List UInt8)} (h : oneB k n s m ks = true) : textOk s = true ∧ keysOk ks = true ∧ (-1099511627776 ≤ n ∧ n ≤ 1099511627776) := by
  unfold oneB at h
  simp only [Bool.and_eq_true, decide_eq_true_eq] at h
  exact ⟨h.1.1.2, h.2, h.1.1.1.2⟩
theorem dec_len : ∀ (d u : Nat), u < 10 ^ d → (Lib.decDigits u).length ≤ max 1 d := by
  intro d
  induction d with
  | zero =>
    intro u h
    rw [Lib.decDigits_one (by simp at h; omega)]
    simp
  | succ d ih =>
    intro u h
    by_cases h10 : u < 10
    · rw [Lib.decDigits_one h10]
      show 1 ≤ _
      omega
    · have e : Lib.decDigits u = Lib.decDigits (u / 10) ++ [UInt8.ofNat (48 + u % 10)] := by rw [Lib.decDigits, dif_neg h10]
      have h2 : u / 10 < 10 ^ d := by rw [Nat.pow_succ] at h; omega
      have := ih (u / 10) h2
      rw [e, List.length_append, List.length_singleton]
      have hd : d ≠ 0 := by rintro rfl; simp at h2; omega
      omega
theorem itoa_len {n : Int} (h : -1099511627776 ≤ n ∧ n ≤ 1099511627776) : (Lib.itoa n).length ≤ 14 := by
  unfold Lib.itoa
  split
  · have := dec_len 13 n.natAbs (by omega)
    rw [List.length_cons]
    omega
  · have := dec_len 13 n.toNat (by omega)
    omega

/-! ### how long the text of one that may be is -/
theorem wrI_len {m : Bool} : ∀ (l : List VT) (ks : List (List UInt8)) (first : Bool), (∀ x ∈ l, x.wr.length + 8004 ≤ 16006 * x.count) → (∀ y ∈ ks, y.length ≤ 4000) → (wrI m first l ks).length ≤ 16006 * countL l := by
  intro l
  induction l with
  | nil => intro ks first _ _; unfold wrI; cases m <;> simp [wrL_nil, wrM_nil]
  | cons x l ih =>
    intro ks first hx hk
    have h1 := hx x (by simp)
    have h2 := ih ks.tail false (fun y hy => hx y (by simp [hy])) (fun y hy => hk y (List.mem_of_mem_tail hy))
    have h3 : (ks.headD []).length ≤ 4000 := by
      cases ks with
      | nil => simp
      | cons y r => exact hk y (by simp)
    have h4 := quot_len (ks.headD [])
    have h5 : (if first then ([] : List UInt8) else [44]).length ≤ 1 := by cases first <;> simp
    rw [countL_cons]
    unfold wrI at h2 ⊢
    cases m with
    | false =>
      simp only [Bool.false_eq_true, if_false, wrL_cons, List.length_append] at h2 ⊢
      have h6 := ih ks false (fun y hy => hx y (by simp [hy])) hk
      unfold wrI at h6
      simp only [Bool.false_eq_true, if_false] at h6
      omega
    | true =>
      simp only [if_true, wrM_cons, List.length_append, List.length_cons] at h2 ⊢
      omega
theorem wr_len : ∀ (m : Nat) (v : VT), v.count ≤ m → v.each = true → v.wr.length + 8004 ≤ 16006 * v.count := by
  intro m
  induction m with
  | zero => intro v h; have := count_pos v; omega
  | succ m ih =>
    intro v hc he
    obtain ⟨k, n, s, l, ks⟩ := v
    rw [count_eq] at hc ⊢
    rw [each_eq, Bool.and_eq_true] at he
    rw [wr_eq]
    obtain ⟨t1, t2, t3⟩ := one_txt he.2
    have hx : ∀ x ∈ l, x.wr.length + 8004 ≤ 16006 * x.count := fun x hx => ih x (by have := countL_mem hx; omega) (eachL_mem he.1 hx)
    have hk : ∀ y ∈ ks, y.length ≤ 4000 := fun y hy => text_len (keys_mem t2 y hy)
    have h1 := itoa_len t3
    have h2 := quot_len s
    have h3 := text_len t1
    have h4 := wrI_len (m := true) l ks true hx hk
    have h5 := wrI_len (m := false) l ks true hx hk
    unfold wrI at h4 h5
    simp only [Bool.false_eq_true, if_false, if_true] at h4 h5
    split
    · omega
    split
    · omega
    split
    · simp only [List.length_cons, List.length_append, List.length_nil]; omega
    · simp only [List.length_cons, List.length_append, List.length_nil]; omega
set_option maxHeartbeats 3200000 in
theorem refWrite_any (HF : FmtSays) : ∀ (d : Nat) (cs : List Value) (t : VT) (w : World), IsV w d cs t → Tab w → t.each = true → t.count ≤ 2000 →
    Calls Tryd.prog 18 #[.agg cs.toArray] w fun e w' => e = .returned (.string ⟨t.wr.toArray⟩) ∧ Below w.heap.size w w' := by
  intro d
  induction d with
  | zero => intro cs t w h; exact h.elim
  | succ d ih =>
    intro cs t W h htab he hcnt
    have HTB := Lib.hid htab
    clear htab
    have hlen := wr_len t.count t (Nat.le_refl _) he
    obtain ⟨vi, vk, rfl, _, hks, a, c, rfl, hc, hm, _, hx⟩ := h
    obtain ⟨ka, kc, rfl, hkc, hkm, _, hkx⟩ := hks
    obtain ⟨k, n, s, l, ks⟩ := t
    have HI := Lib.hid ih
    have HX := Lib.hid hx
    have HK := Lib.hid hkx
    have HF1 := Lib.hid HF
    rw [wr_eq] at hlen ⊢
    rw [count_eq] at hcnt hlen
    rw [each_eq, Bool.and_eq_true] at he
    obtain ⟨hel, heo⟩ := he
    obtain ⟨t1, t2, t3⟩ := one_txt heo
    have hsl := text_len t1
    have HKO := Lib.hid (keys_mem t2)
    have HE := Lib.hid (fun (x : VT) (hx : x ∈ l) => eachL_mem hel hx)
    have HCN := Lib.hid (fun (x : VT) (hx : x ∈ l) => countL_mem hx)
    simp only [VT.items, VT.kind, VT.num, VT.txt, VT.keys, str] at *
    clear ih hx hkx t1 t2 hel HF
    unfold maxLen at hm hkm
    have hbW := (Below.refl W.heap.size W).alloc (Nat.le_refl _) (.cells #[.int .i64 k, .int .i64 n, .string ⟨s.toArray⟩, .slice a l.length c, .slice ka ks.length kc] 25)
    have lA0 : Lies (W.alloc (.cells #[.int .i64 k, .int .i64 n, .string ⟨s.toArray⟩, .slice a l.length c, .slice ka ks.length kc] 25)) W.heap.size 25 #[.int .i64 k, .int .i64 n, .string ⟨s.toArray⟩, .slice a l.length c, .slice ka ks.length kc] := Lies.new W _ _
    rcases one_of heo with ⟨rfl, rfl, hl0, rfl⟩ | ⟨rfl, rfl, hl0, rfl⟩ | ⟨hk3, rfl, rfl, rfl⟩ | ⟨hk4, rfl, rfl, hkl⟩
    · clear HI HX HK lA0 hlen
      go_enter Tryd.func18, Tryd.ntmps18
      go_wp2_with (go_at_call 31; refine (HF1.out n _ (by omega) (by omega) (HTB.out.below (below_alloc1 W _))).mono ?_; rintro e w2 ⟨rfl, hb2⟩)
      go_ret
      exact ⟨ret1_of rfl, on_new _ hb2⟩
    · have HQ := Lib.hid (fun w1 => refQuoted_any ⟨s.toArray⟩ w1 (by show s.toArray.size ≤ _; rw [List.size_toArray]; omega))
      clear HI HX HK HF1 lA0 hlen
      go_enter Tryd.func18, Tryd.ntmps18
      go_wp2_with (go_at_call 32; refine (HQ.out _).mono ?_; rintro e w2 ⟨rfl, hb2⟩)
      go_ret
      exact ⟨ret1_of rfl, on_new _ hb2⟩
    · subst hk3
      have hR := Lib.hid (show wrI false true l [] = wrL true l from rfl)
      have hT := Lib.hid (wrI_len (m := false) l [] true (fun x hx => wr_len x.count x (Nat.le_refl _) (HE.out x hx)) (fun y hy => text_len (HKO.out y hy)))
      generalize hTT : wrI false true l [] = T at hR hT
      clear HF1 hlen
      go_enter Tryd.func18, Tryd.ntmps18
      go_wp2
      go_loopw [3, 21] (fun o iv wr => ∃ (S : ByteArray) (j : Nat), o = .string S ∧ iv = .int .i64 j ∧ j ≤ l.length ∧ Hid (S.data.toList ++ wrI false (decide (j = 0)) (l.drop j) (List.drop j []) = T) ∧ Below W.heap.size W wr ∧ Lies wr W.heap.size 25 #[.int .i64 3, .int .i64 0, .string ⟨#[]⟩, .slice a l.length c, .slice ka 0 kc]) (fun _ iv _ => l.length - (intOf iv).toNat)
      case atStart => exact ⟨⟨#[]⟩, 0, rfl, rfl, by omega, Lib.hid (by rw [← hTT]; rfl), hbW, lA0⟩
      case round =>
        clear lA0 hbW
        obtain ⟨S, j, rfl, rfl, hj, HS, hb, lA⟩ := hrel
        by_cases hlt : j < l.length
        · obtain ⟨b, off, rfl, hx⟩ := HX.out (by omega)
          obtain ⟨cs', hlen, hr, x, hxi, hv⟩ := hx j hlt
          obtain ⟨ai, ci, ak, ck, rfl⟩ := hv.form
          obtain ⟨k0, k1, k2, k3, k4⟩ := range5 (range_below hb hr)
          have hv := hv.below hb
          have hxm := List.mem_of_getElem? hxi
          have hxc := HCN.out x hxm
          have HC := Lib.hid (fun (w1 : World) (hb1 : Below wr.heap.size wr w1) => HI.out _ x w1 (hv.below hb1) (HTB.out.below (on_below hb hb1 hb.size)) (HE.out x hxm) (by omega))
          have HW := Lib.hid (wrI_at (m := false) (first := decide (j = 0)) (ks := []) (y := []) hxi (fun h => by cases h))
          have lX : Lies (wr.alloc (.cells #[.int .i64 x.kind, .int .i64 x.num, .string ⟨x.txt.toArray⟩, .slice ai x.items.length ci, .slice ak x.keys.length ck] 25)) W.heap.size 25 #[.int .i64 3, .int .i64 0, .string ⟨#[]⟩, .slice (some ⟨b, off, none⟩) l.length c, .slice ka 0 kc] := lA.alloc _
          have q0 : (wr.alloc (.cells #[.int .i64 x.kind, .int .i64 x.num, .string ⟨x.txt.toArray⟩, .slice ai x.items.length ci, .slice ak x.keys.length ck] 25)).cell? ⟨W.heap.size, 0, none⟩ = some (.int .i64 3) := lX.cell 0
          clear hr hv hx HX HI HK hlen hxm
          rcases Nat.eq_zero_or_pos j with hz | hz
          · have hz0 : decide (j = 0) = true := decide_eq_true hz
            subst hz
            simp only [Nat.zero_mul, Nat.add_zero] at k0 k1 k2 k3 k4
            have HS2 := Lib.hid (show S.data.toList ++ ([] ++ ([] ++ (x.wr ++ wrI false false (l.drop (0 + 1)) (List.drop (0 + 1) ([] : List (List UInt8)))))) = T by
              have h1 := HS.out
              rw [HW.out, hz0] at h1
              simpa using h1)
            have hSz : S.size ≤ 33000000 ∧ x.wr.length ≤ 33000000 := by
              have h1 := congrArg List.length HS2.out
              have h2 := hT.out
              have h3 : S.data.toList.length = S.size := Array.length_toList
              simp only [List.length_append, h3] at h1
              omega
            obtain ⟨hSz, hxw⟩ := hSz
            clear HS HW
            go_wp2_with (go_at_call 18; refine (HC.out _ (below_alloc1 wr _)).mono ?_; rintro e w4 ⟨rfl, hb4⟩)
            go_roundw
            case rel => exact ⟨_, 0 + 1, rfl, by go_num, by omega, Lib.hid (by rw [← HS2.out]; simp), on_below hb (on_new _ hb4) hb.size, lA.on (on_new _ hb4)⟩
            case measure => simp [intOf]; omega
          · have hz0 : decide (j = 0) = false := decide_eq_false (by omega)
            have hz1 : (j : Int) > 0 := by omega
            have HS2 := Lib.hid (show S.data.toList ++ ([44] ++ ([] ++ (x.wr ++ wrI false false (l.drop (j + 1)) (List.drop (j + 1) ([] : List (List UInt8)))))) = T by
              have h1 := HS.out
              rw [HW.out, hz0] at h1
              simpa using h1)
            have hSz : S.size ≤ 33000000 ∧ x.wr.length ≤ 33000000 := by
              have h1 := congrArg List.length HS2.out
              have h2 := hT.out
              have h3 : S.data.toList.length = S.size := Array.length_toList
              simp only [List.length_append, h3] at h1
              omega
            obtain ⟨hSz, hxw⟩ := hSz
            clear HS HW
            go_wp2_with (go_at_call 18; refine (HC.out _ (below_alloc1 wr _)).mono ?_; rintro e w4 ⟨rfl, hb4⟩)
            go_roundw
            case rel => exact ⟨_, j + 1, rfl, by go_num, by omega, Lib.hid (by rw [← HS2.out]; simp), on_below hb (on_new _ hb4) hb.size, lA.on (on_new _ hb4)⟩
            case measure => simp [intOf]; omega
        · have hS := HS.out
          rw [wrI_nil _ _ _ _ _ (by omega), List.append_nil] at hS
          have q0 := lA.cell 0
          simp only [List.getElem?_toArray, List.getElem?_cons_zero] at q0
          have hS2 := Lib.hid hS
          have hSz : S.size ≤ 33000000 := by
            have h1 := congrArg List.length hS
            have h2 := hT.out
            have h3 : S.data.toList.length = S.size := Array.length_toList
            rw [h3] at h1
            omega
          clear hS HS HX HI HK HE HCN
          go_wp2
          go_ret
          exact ⟨ret1_of ((congrArg Value.string (close_eq 91 93 hS2.out)).trans (by rw [hR.out])), hb⟩
    · subst hk4
      have HKL := Lib.hid hkl
      clear hkl
      have hR := Lib.hid (show wrI true true l ks = wrM true l ks from rfl)
      have hT := Lib.hid (wrI_len (m := true) l ks true (fun x hx => wr_len x.count x (Nat.le_refl _) (HE.out x hx)) (fun y hy => text_len (HKO.out y hy)))
      generalize hTT : wrI true true l ks = T at hR hT
      clear HF1 hlen
      go_enter Tryd.func18, Tryd.ntmps18
      go_wp2
      go_loopw [3, 21] (fun o iv wr => ∃ (S : ByteArray) (j : Nat), o = .string S ∧ iv = .int .i64 j ∧ j ≤ l.length ∧ Hid (S.data.toList ++ wrI true (decide (j = 0)) (l.drop j) (List.drop j ks) = T) ∧ Below W.heap.size W wr ∧ Lies wr W.heap.size 25 #[.int .i64 4, .int .i64 0, .string ⟨#[]⟩, .slice a l.length c, .slice ka ks.length kc]) (fun _ iv _ => l.length - (intOf iv).toNat)
      case atStart => exact ⟨⟨#[]⟩, 0, rfl, rfl, by omega, Lib.hid (by rw [← hTT]; rfl), hbW, lA0⟩
      case round =>
        clear lA0 hbW
        obtain ⟨S, j, rfl, rfl, hj, HS, hb, lA⟩ := hrel
        by_cases hlt : j < l.length
        · obtain ⟨b, off, rfl, hx⟩ := HX.out (by omega)
          obtain ⟨cs', hlen, hr, x, hxi, hv⟩ := hx j hlt
          obtain ⟨ai, ci, ak, ck, rfl⟩ := hv.form
          obtain ⟨k0, k1, k2, k3, k4⟩ := range5 (range_below hb hr)
          have hv := hv.below hb
          have hxm := List.mem_of_getElem? hxi
          have hxc := HCN.out x hxm
          have HC := Lib.hid (fun (w1 : World) (hb1 : Below wr.heap.size wr w1) => HI.out _ x w1 (hv.below hb1) (HTB.out.below (on_below hb hb1 hb.size)) (HE.out x hxm) (by omega))
          obtain ⟨b2, off2, rfl, hkx⟩ := HK.out (by intro h; have := HKL.out; rw [h] at this; simp at this; omega)
          obtain ⟨y, hyi⟩ : ∃ y, ks[j]? = some y := ⟨ks[j]'(by rw [HKL.out]; exact hlt), List.getElem?_eq_getElem _⟩
          have g1 := hkx j y hyi
          have c1 := (hb.cell (p := ⟨b2, off2 + j, none⟩) (World.block_lt_of_cell? W _ g1)).trans g1
          have hyl := text_len (HKO.out y (List.mem_of_getElem? hyi))
          have HQ := Lib.hid (fun w1 => refQuoted_any ⟨y.toArray⟩ w1 (by show y.toArray.size ≤ _; rw [List.size_toArray]; omega))
          have hqy : (quotL y).length ≤ 8002 := by have := quot_len y; omega
          have hjk : (j : Int) < (ks.length : Int) := by rw [HKL.out]; omega
          have HW := Lib.hid (wrI_at (m := true) (first := decide (j = 0)) hxi (fun _ => hyi))
          have lX : Lies (wr.alloc (.cells #[.int .i64 x.kind, .int .i64 x.num, .string ⟨x.txt.toArray⟩, .slice ai x.items.length ci, .slice ak x.keys.length ck] 25)) W.heap.size 25 #[.int .i64 4, .int .i64 0, .string ⟨#[]⟩, .slice (some ⟨b, off, none⟩) l.length c, .slice (some ⟨b2, off2, none⟩) ks.length kc] := lA.alloc _
          have q0 : (wr.alloc (.cells #[.int .i64 x.kind, .int .i64 x.num, .string ⟨x.txt.toArray⟩, .slice ai x.items.length ci, .slice ak x.keys.length ck] 25)).cell? ⟨W.heap.size, 0, none⟩ = some (.int .i64 4) := lX.cell 0
          have q4 : (wr.alloc (.cells #[.int .i64 x.kind, .int .i64 x.num, .string ⟨x.txt.toArray⟩, .slice ai x.items.length ci, .slice ak x.keys.length ck] 25)).cell? ⟨W.heap.size, 4, none⟩ = some (.slice (some ⟨b2, off2, none⟩) ks.length kc) := lX.cell 4
          have c2 : (wr.alloc (.cells #[.int .i64 x.kind, .int .i64 x.num, .string ⟨x.txt.toArray⟩, .slice ai x.items.length ci, .slice ak x.keys.length ck] 25)).cell? ⟨b2, off2 + j, none⟩ = some (.string ⟨y.toArray⟩) := (((Below.refl wr.heap.size wr).alloc (Nat.le_refl _) _).cell (World.block_lt_of_cell? wr _ c1)).trans c1
          have lN : Lies (wr.alloc (.cells #[.int .i64 x.kind, .int .i64 x.num, .string ⟨x.txt.toArray⟩, .slice ai x.items.length ci, .slice ak x.keys.length ck] 25)) wr.heap.size 25 #[.int .i64 x.kind, .int .i64 x.num, .string ⟨x.txt.toArray⟩, .slice ai x.items.length ci, .slice ak x.keys.length ck] := Lies.new wr _ _
          have hb0 : Below wr.heap.size wr (wr.alloc (.cells #[.int .i64 x.kind, .int .i64 x.num, .string ⟨x.txt.toArray⟩, .slice ai x.items.length ci, .slice ak x.keys.length ck] 25)) := (Below.refl wr.heap.size wr).alloc (Nat.le_refl _) _
          clear hr hv hx HX HI HK hlen hxm hkx g1 c1
          rcases Nat.eq_zero_or_pos j with hz | hz
          · have hz0 : decide (j = 0) = true := decide_eq_true hz
            subst hz
            simp only [Nat.zero_mul, Nat.add_zero] at k0 k1 k2 k3 k4 c2
            have HS2 := Lib.hid (show S.data.toList ++ ([] ++ ((quotL y ++ [58]) ++ (x.wr ++ wrI true false (l.drop (0 + 1)) (List.drop (0 + 1) ks)))) = T by
              have h1 := HS.out
              rw [HW.out, hz0] at h1
              simpa using h1)
            have hSz : S.size ≤ 33000000 ∧ x.wr.length ≤ 33000000 := by
              have h1 := congrArg List.length HS2.out
              have h2 := hT.out
              have h3 : S.data.toList.length = S.size := Array.length_toList
              simp only [List.length_append, h3] at h1
              omega
            obtain ⟨hSz, hxw⟩ := hSz
            clear HS HW
            go_wp2_with (first | (go_at_call 32; refine (HQ.out _).mono ?_; rintro e w2 ⟨rfl, hb2⟩; have hb3 := below_on hb0 hb2; have d0 := (lN.on hb2).cell 0; have d1 := (lN.on hb2).cell 1; have d2 := (lN.on hb2).cell 2; have d3 := (lN.on hb2).cell 3; have d4 := (lN.on hb2).cell 4; simp only [List.getElem?_toArray, List.getElem?_cons_succ, List.getElem?_cons_zero] at d0 d1 d2 d3 d4) | (go_at_call 18; refine (HC.out _ hb3).mono ?_; rintro e w4 ⟨rfl, hb4⟩))
            go_roundw
            case rel => exact ⟨_, 0 + 1, rfl, by go_num, by omega, Lib.hid (by rw [← HS2.out]; simp), on_below (on_below hb hb3 hb.size) hb4 (Nat.le_trans hb.size hb3.size), (lA.on hb3).on hb4⟩
            case measure => simp [intOf]; omega
          · have hz0 : decide (j = 0) = false := decide_eq_false (by omega)
            have hz1 : (j : Int) > 0 := by omega
            have HS2 := Lib.hid (show S.data.toList ++ ([44] ++ ((quotL y ++ [58]) ++ (x.wr ++ wrI true false (l.drop (j + 1)) (List.drop (j + 1) ks)))) = T by
              have h1 := HS.out
              rw [HW.out, hz0] at h1
              simpa using h1)
            have hSz : S.size ≤ 33000000 ∧ x.wr.length ≤ 33000000 := by
              have h1 := congrArg List.length HS2.out
              have h2 := hT.out
              have h3 : S.data.toList.length = S.size := Array.length_toList
              simp only [List.length_append, h3] at h1
              omega
            obtain ⟨hSz, hxw⟩ := hSz
            clear HS HW
            go_wp2_with (first | (go_at_call 32; refine (HQ.out _).mono ?_; rintro e w2 ⟨rfl, hb2⟩; have hb3 := below_on hb0 hb2; have d0 := (lN.on hb2).cell 0; have d1 := (lN.on hb2).cell 1; have d2 := (lN.on hb2).cell 2; have d3 := (lN.on hb2).cell 3; have d4 := (lN.on hb2).cell 4; simp only [List.getElem?_toArray, List.getElem?_cons_succ, List.getElem?_cons_zero] at d0 d1 d2 d3 d4) | (go_at_call 18; refine (HC.out _ hb3).mono ?_; rintro e w4 ⟨rfl, hb4⟩))
            go_roundw
            case rel => exact ⟨_, j + 1, rfl, by go_num, by omega, Lib.hid (by rw [← HS2.out]; simp), on_below (on_below hb hb3 hb.size) hb4 (Nat.le_trans hb.size hb3.size), (lA.on hb3).on hb4⟩
            case measure => simp [intOf]; omega
        · have hS := HS.out
          rw [wrI_nil _ _ _ _ _ (by omega), List.append_nil] at hS
          have q0 := lA.cell 0
          simp only [List.getElem?_toArray, List.getElem?_cons_zero] at q0
          have hS2 := Lib.hid hS
          have hSz : S.size ≤ 33000000 := by
            have h1 := congrArg List.length hS
            have h2 := hT.out
            have h3 : S.data.toList.length = S.size := Array.length_toList
            rw [h3] at h1
            omega
          clear hS HS HX HI HK HE HCN
          go_wp2
          go_ret
          exact ⟨ret1_of ((congrArg Value.string (close_eq 123 125 hS2.out)).trans (by rw [hR.out])), hb⟩
end Go.Proofs.YtdfdpckcemdimaaDoor.V
