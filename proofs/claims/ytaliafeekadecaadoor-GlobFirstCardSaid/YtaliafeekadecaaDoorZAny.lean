/- The developers' Any: the first pattern that a path is one of. -/
import Derived.Test.YtaliafeekadecaaDoorZAlive
namespace Go.Proofs.YtaliafeekadecaaDoor.Z
open Go.RowKit Go.Shelf Go.Sort
open V (Lies OwnL RowL reg)
set_option maxRecDepth 100000

/-- the place of the first one of which q is true, counted from j -/
def fIdx (q : ByteArray → Bool) : List ByteArray → Nat → Int
  | [], _ => -1
  | x :: l, j => if q x = true then (j : Int) else fIdx q l (j + 1)
theorem fIdx_lt (q : ByteArray → Bool) : ∀ (l : List ByteArray) (j : Nat), fIdx q l j = -1 ∨ ((j : Int) ≤ fIdx q l j ∧ fIdx q l j < ((j + l.length : Nat) : Int)) := by
  intro l
  induction l with
  | nil => intro j; exact .inl rfl
  | cons x l ih =>
    intro j
    rw [fIdx]
    by_cases h : q x = true
    · rw [if_pos h]
      right
      rw [List.length_cons]
      omega
    · rw [if_neg h]
      rcases ih (j + 1) with h | h
      · exact .inl h
      · right
        rw [List.length_cons]
        omega
/-- what Any tells -/
def anyK (p : List UInt8) (l : List ByteArray) : Int := fIdx (fun m => matchG m.data.toList p) l 0
def anyOk (p : List UInt8) (l : List ByteArray) : Bool := rightG false p && l.all fun m => rightG true m.data.toList
def anyV (p : List UInt8) (l : List ByteArray) : Int := if anyOk p l = true then (if anyK p l < 0 then 0 else anyK p l) else 0
def anyE (p : List UInt8) (l : List ByteArray) : Int := if anyOk p l = true then (if anyK p l < 0 then 36 else 0) else 1
theorem not_any (q : ByteArray → Bool) : ∀ (l : List ByteArray) (j : Nat), decide (0 ≤ fIdx (fun x => !q x) l j) = !(l.all q) := by
  intro l
  induction l with
  | nil => intro j; rfl
  | cons x l ih =>
    intro j
    rw [fIdx, List.all_cons]
    cases h : q x with
    | true => rw [if_neg (by simp), ih, Bool.true_and]
    | false =>
      rw [if_pos (show (!false) = true from rfl), Bool.false_and]
      exact decide_eq_true (by omega)
theorem any1_any (x : ByteArray) (w : World) (hx : x.size ≤ 1000000) : Calls Tryd.prog 25 #[.string x] w fun e w' => e = .returned (.bool (!rightG true x.data.toList)) ∧ Below w.heap.size w w' := by
  have HR := Lib.hid (fun (w : World) => right_any x w hx)
  go_enter Tryd.func25, Tryd.ntmps25
  go_wp2_with (go_at_call 11; refine (HR.out _).mono ?_; rintro e w1 ⟨rfl, hb⟩)
  go_ret
  exact ⟨rfl, hb⟩
theorem any2_any (x p : ByteArray) (g : Nat) (w : World) (hx : x.size ≤ 1000000) (hp : p.size ≤ 1000000) (hg : Lies w g 9 #[.string p]) : Calls Tryd.prog 27 #[.string x, .pointer (some ⟨g, 0, none⟩)] w fun e w' => e = .returned (.bool (matchG x.data.toList p.data.toList)) ∧ Below w.heap.size w w' := by
  have HR := Lib.hid (fun (w : World) => isOne_any x p w hx hp)
  have q0 : w.cell? ⟨g, 0, none⟩ = some (.string p) := hg.cell 0
  go_enter Tryd.func27, Tryd.ntmps27
  go_wp2_with (go_at_call 28; refine (HR.out _).mono ?_; rintro e w1 ⟨rfl, hb⟩)
  go_ret
  exact ⟨rfl, hb⟩
set_option maxHeartbeats 3200000 in
theorem index1_any (l : List ByteArray) (v : Value) (w : World) (hl : RowL w 1 v (l.map oneS)) (hs : ∀ x ∈ l, x.size ≤ 1000000) : Calls Tryd.prog 26 #[v, .func (.func 25) #[] #[]] w fun e w' => e = .returned (.int .i64 (fIdx (fun x => !rightG true x.data.toList) l 0)) ∧ Below w.heap.size w w' := by
  obtain ⟨a, c, rfl, hc, hm, hn⟩ := hl.form
  rw [List.length_map] at hl hc ⊢
  have hcap : l.length ≤ 9223372036854775807 := by unfold maxLen at hm; omega
  obtain ⟨R, hR⟩ : ∃ R, fIdx (fun x => !rightG true x.data.toList) l 0 = R := ⟨_, rfl⟩
  rw [hR]
  have HR := Lib.hid hR
  clear hR
  go_enter Tryd.func26, Tryd.ntmps26
  go_wp2
  go_loopw [5, 8] (fun _ iv wr => ∃ j : Nat, iv = .int .i64 (j : Int) ∧ j ≤ l.length ∧ Hid (R = fIdx (fun x => !rightG true x.data.toList) (l.drop j) j) ∧ Below w.heap.size w wr) (fun _ iv _ => l.length - (intOf iv).toNat)
  case atStart => exact ⟨0, rfl, Nat.zero_le _, Lib.hid (by rw [List.drop_zero]; exact HR.out.symm), Below.refl _ _⟩
  case round =>
    obtain ⟨j, rfl, hj, HT, hb⟩ := hrel
    clear HR
    by_cases hlt : j < l.length
    case neg =>
      obtain rfl : j = l.length := by omega
      have i1 : ¬ ((l.length : Int) < (l.length : Int)) := by omega
      have HT2 := Lib.hid (show R = -1 by rw [HT.out, List.drop_length]; rfl)
      clear HT
      go_wp2
      go_ret
      exact ⟨by rw [HT2.out]; rfl, hb⟩
    have i1 : (j : Int) < (l.length : Int) := by omega
    have i3 : (0 : Int) ≤ (j : Int) := by omega
    obtain ⟨x, hx⟩ : ∃ x, l[j] = x := ⟨_, rfl⟩
    obtain ⟨b, off, rfl, hr, _⟩ := (hl.below hb).at (i := j) (cs := oneS x) (by rw [List.getElem?_map, List.getElem?_eq_getElem hlt, hx]; rfl)
    have q0 := hr 0 (.string x) rfl
    rw [Nat.mul_one, Nat.add_zero] at q0
    have hxs := hs x (by rw [← hx]; exact List.getElem_mem hlt)
    have hT := HT.out
    rw [List.drop_eq_getElem_cons hlt, hx, fIdx] at hT
    have HC := Lib.hid (fun (w1 : World) (_ : Below w.heap.size w w1) => any1_any x w1 hxs)
    cases hq : !rightG true x.data.toList with
    | true =>
      rw [if_pos hq] at hT
      rw [hq] at HC
      have HT2 := Lib.hid hT
      clear HT hT hq hx hr
      go_wp2_with (go_at_call 25; refine (HC.out _ hb).mono ?_; rintro e w1 ⟨rfl, hb1⟩)
      go_ret
      exact ⟨by rw [HT2.out]; rfl, hb.trans (hb1.mono hb.size)⟩
    | false =>
      rw [if_neg (by rw [hq]; simp)] at hT
      rw [hq] at HC
      have HT2 := Lib.hid hT
      clear HT hT hq hx hr
      go_wp2_with (go_at_call 25; refine (HC.out _ hb).mono ?_; rintro e w1 ⟨rfl, hb1⟩)
      go_roundw
      case rel => exact ⟨j + 1, by go_num, by omega, HT2, hb.trans (hb1.mono hb.size)⟩
      case measure => simp [intOf]; omega
set_option maxHeartbeats 3200000 in
theorem index2_any (l : List ByteArray) (v : Value) (w : World) (p : ByteArray) (g : Nat) (hp : p.size ≤ 1000000) (hg : Lies w g 9 #[.string p]) (hl : RowL w 1 v (l.map oneS)) (hs : ∀ x ∈ l, x.size ≤ 1000000) : Calls Tryd.prog 26 #[v, .func (.func 27) #[] #[.pointer (some ⟨g, 0, none⟩)]] w fun e w' => e = .returned (.int .i64 (fIdx (fun x => matchG x.data.toList p.data.toList) l 0)) ∧ Below w.heap.size w w' := by
  obtain ⟨a, c, rfl, hc, hm, hn⟩ := hl.form
  rw [List.length_map] at hl hc ⊢
  have hcap : l.length ≤ 9223372036854775807 := by unfold maxLen at hm; omega
  obtain ⟨R, hR⟩ : ∃ R, fIdx (fun x => matchG x.data.toList p.data.toList) l 0 = R := ⟨_, rfl⟩
  rw [hR]
  have HR := Lib.hid hR
  clear hR
  go_enter Tryd.func26, Tryd.ntmps26
  go_wp2
  go_loopw [5, 8] (fun _ iv wr => ∃ j : Nat, iv = .int .i64 (j : Int) ∧ j ≤ l.length ∧ Hid (R = fIdx (fun x => matchG x.data.toList p.data.toList) (l.drop j) j) ∧ Below w.heap.size w wr) (fun _ iv _ => l.length - (intOf iv).toNat)
  case atStart => exact ⟨0, rfl, Nat.zero_le _, Lib.hid (by rw [List.drop_zero]; exact HR.out.symm), Below.refl _ _⟩
  case round =>
    obtain ⟨j, rfl, hj, HT, hb⟩ := hrel
    clear HR
    by_cases hlt : j < l.length
    case neg =>
      obtain rfl : j = l.length := by omega
      have i1 : ¬ ((l.length : Int) < (l.length : Int)) := by omega
      have HT2 := Lib.hid (show R = -1 by rw [HT.out, List.drop_length]; rfl)
      clear HT
      go_wp2
      go_ret
      exact ⟨by rw [HT2.out]; rfl, hb⟩
    have i1 : (j : Int) < (l.length : Int) := by omega
    have i3 : (0 : Int) ≤ (j : Int) := by omega
    obtain ⟨x, hx⟩ : ∃ x, l[j] = x := ⟨_, rfl⟩
    obtain ⟨b, off, rfl, hr, _⟩ := (hl.below hb).at (i := j) (cs := oneS x) (by rw [List.getElem?_map, List.getElem?_eq_getElem hlt, hx]; rfl)
    have q0 := hr 0 (.string x) rfl
    rw [Nat.mul_one, Nat.add_zero] at q0
    have hxs := hs x (by rw [← hx]; exact List.getElem_mem hlt)
    have hT := HT.out
    rw [List.drop_eq_getElem_cons hlt, hx, fIdx] at hT
    have HC := Lib.hid (fun (w1 : World) (hb1 : Below w.heap.size w w1) => any2_any x p g w1 hxs hp (hg.on hb1))
    cases hq : matchG x.data.toList p.data.toList with
    | true =>
      rw [if_pos hq] at hT
      rw [hq] at HC
      have HT2 := Lib.hid hT
      clear HT hT hq hx hr
      go_wp2_with (go_at_call 27; refine (HC.out _ hb).mono ?_; rintro e w1 ⟨rfl, hb1⟩)
      go_ret
      exact ⟨by rw [HT2.out]; rfl, hb.trans (hb1.mono hb.size)⟩
    | false =>
      rw [if_neg (by rw [hq]; simp)] at hT
      rw [hq] at HC
      have HT2 := Lib.hid hT
      clear HT hT hq hx hr
      go_wp2_with (go_at_call 27; refine (HC.out _ hb).mono ?_; rintro e w1 ⟨rfl, hb1⟩)
      go_roundw
      case rel => exact ⟨j + 1, by go_num, by omega, HT2, hb.trans (hb1.mono hb.size)⟩
      case measure => simp [intOf]; omega
set_option maxHeartbeats 3200000 in
theorem contains1_any (l : List ByteArray) (v : Value) (w : World) (hl : RowL w 1 v (l.map oneS)) (hs : ∀ x ∈ l, x.size ≤ 1000000) : Calls Tryd.prog 24 #[v, .func (.func 25) #[] #[]] w fun e w' => e = .returned (.bool (!(l.all fun m => rightG true m.data.toList))) ∧ Below w.heap.size w w' := by
  have HI := Lib.hid (fun (w1 : World) (hb : Below w.heap.size w w1) => index1_any l v w1 (hl.below hb) hs)
  have HN := Lib.hid (not_any (fun m => rightG true m.data.toList) l 0)
  go_enter Tryd.func24, Tryd.ntmps24
  go_wp2_with (go_at_call 26; refine (HI.out _ (Below.refl _ _)).mono ?_; rintro e w1 ⟨rfl, hb⟩)
  go_ret
  exact ⟨by rw [← HN.out]; rfl, hb⟩
theorem res_two' {fn : Func} {P : Program} {p q : Tmp} {tmps : Array Value} {w : World} (h : fn.results = #[.tmp p, .tmp q]) : (results fn tmps).run P w = .ok (.tuple #[tmps.getD p undef, tmps.getD q undef]) w := by
  simp [results, h]
set_option maxHeartbeats 6400000 in
theorem any_any (p : ByteArray) (l : List ByteArray) (v : Value) (w : World) (hp : p.size ≤ 1000000) (hl : RowL w 1 v (l.map oneS)) (hs : ∀ x ∈ l, x.size ≤ 1000000) :
    Calls Tryd.prog 10 #[.string p, v] w fun e w' => e = .returned (.tuple #[.int .i64 (anyV p.data.toList l), .int .i64 (anyE p.data.toList l)]) ∧ Below w.heap.size w w' := by
  have lB := Lies.new w 9 #[.string p]
  have hb0 := (Below.refl w.heap.size w).alloc (Nat.le_refl _) (.cells #[.string p] 9)
  have HP := Lib.hid (fun (w1 : World) => path_any p w1 hp)
  have HC := Lib.hid (fun (w1 : World) (hb : Below w.heap.size w w1) => contains1_any l v w1 (hl.below hb) hs)
  obtain ⟨g, hg⟩ : ∃ g, w.heap.size = g := ⟨_, rfl⟩
  rw [hg] at lB
  have HI := Lib.hid (fun (w1 : World) (hb : Below w.heap.size w w1) (h : Lies w1 g 9 #[.string p]) => index2_any l v w1 p g hp h (hl.below hb) hs)
  have hlt := fIdx_lt (fun m => matchG m.data.toList p.data.toList) l 0
  obtain ⟨K, hK⟩ : ∃ K, fIdx (fun m => matchG m.data.toList p.data.toList) l 0 = K := ⟨_, rfl⟩
  rw [hK] at HI hlt
  obtain ⟨V0, hV⟩ : ∃ V, anyV p.data.toList l = V := ⟨_, rfl⟩
  obtain ⟨E0, hE⟩ : ∃ E, anyE p.data.toList l = E := ⟨_, rfl⟩
  rw [hV, hE]
  unfold anyV anyK at hV
  unfold anyE anyK at hE
  rw [hK] at hV hE
  unfold anyOk at hV hE
  have hq0 : (w.alloc (.cells #[.string p] 9)).cell? ⟨g, 0, none⟩ = some (.string p) := lB.cell 0
  cases hr : rightG false p.data.toList with
  | false =>
    rw [hr] at HP hV hE
    rw [Bool.false_and, if_neg (by simp)] at hV hE
    clear hlt hK hr
    subst hV hE
    go_enter Tryd.func10, Tryd.ntmps10
    go_wp2_with (go_at_call 12; refine (HP.out _).mono ?_; rintro e w1 ⟨rfl, hb1⟩)
    refine bodyPost_ret (res_two' rfl) rfl ?_
    exact ⟨rfl, hb0.trans (hb1.mono hb0.size)⟩
  | true =>
    rw [hr] at HP hV hE
    rw [Bool.true_and] at hV hE
    cases ha : l.all (fun m => rightG true m.data.toList) with
    | false =>
      rw [ha] at HC hV hE
      rw [if_neg (by simp)] at hV hE
      clear hlt hK hr ha
      subst hV hE
      go_enter Tryd.func10, Tryd.ntmps10
      go_wp2_with (first
        | (go_at_call 12; refine (HP.out _).mono ?_; rintro e w1 ⟨rfl, hb1⟩; replace hb1 := hb0.trans (hb1.mono hb0.size))
        | (go_at_call 24; refine (HC.out _ hb1).mono ?_; rintro e w2 ⟨rfl, hb2⟩))
      refine bodyPost_ret (res_two' rfl) rfl ?_
      exact ⟨rfl, hb1.trans (hb2.mono hb1.size)⟩
    | true =>
      rw [ha] at HC hV hE
      rw [if_pos rfl] at hV hE
      clear hr ha
      by_cases hneg : K < 0
      · rw [if_pos hneg] at hV hE
        clear hK
        subst hV hE
        go_enter Tryd.func10, Tryd.ntmps10
        go_wp2_with (first
          | (go_at_call 12; refine (HP.out _).mono ?_; rintro e w1 ⟨rfl, hb1⟩; replace lB := lB.on hb1; replace hb1 := hb0.trans (hb1.mono hb0.size))
          | (go_at_call 24; refine (HC.out _ hb1).mono ?_; rintro e w2 ⟨rfl, hb2⟩; replace lB := lB.on hb2; replace hb1 := hb1.trans (hb2.mono hb1.size))
          | (go_at_call 26; refine (HI.out _ hb1 lB).mono ?_; rintro e w3 ⟨rfl, hb3⟩; replace hb1 := hb1.trans (hb3.mono hb1.size)))
        refine bodyPost_ret (res_two' rfl) rfl ?_
        exact ⟨rfl, hb1⟩
      · rw [if_neg hneg] at hV hE
        clear hK
        subst hV hE
        go_enter Tryd.func10, Tryd.ntmps10
        go_wp2_with (first
          | (go_at_call 12; refine (HP.out _).mono ?_; rintro e w1 ⟨rfl, hb1⟩; replace lB := lB.on hb1; replace hb1 := hb0.trans (hb1.mono hb0.size))
          | (go_at_call 24; refine (HC.out _ hb1).mono ?_; rintro e w2 ⟨rfl, hb2⟩; replace lB := lB.on hb2; replace hb1 := hb1.trans (hb2.mono hb1.size))
          | (go_at_call 26; refine (HI.out _ hb1 lB).mono ?_; rintro e w3 ⟨rfl, hb3⟩; replace hb1 := hb1.trans (hb3.mono hb1.size)))
        refine bodyPost_ret (res_two' rfl) rfl ?_
        exact ⟨rfl, hb1⟩
end Go.Proofs.YtaliafeekadecaaDoor.Z
