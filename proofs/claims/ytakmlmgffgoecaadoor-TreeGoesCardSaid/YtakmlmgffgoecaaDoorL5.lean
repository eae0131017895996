/- Texts that stand on one another, put together: ShelfB, RRoot, ROnes, RWork, RTake, RLeaf. -/
import Derived.Test.YtakmlmgffgoecaaDoorL4
import Derived.ArgAppend
import Derived.Laws.Bits128
import Derived.Laws.BitsAllLaws
import Derived.Laws.ShiftsVarLaws
import Derived.Lib.QuietBelow
import Derived.Shelf.Small.Bits
import Derived.Shelf.Strconv.Itoa0
import Derived.Test.YtakmlmgffgoecaaDoorProg
/- The library's own contracts laid at this program: one application each. -/
namespace Go.Proofs
open Go.Shelf
def Tryd.lays125_ren : Go.Shelf.Ren := ⟨fun | 125 => 44 | 128 => 54 | 129 => 55 | n => n, fun | 46 => 68 | 3 => 3 | 51 => 58 | 53 => 60 | 4 => 4 | 5 => 5 | 9 => 9 | n => n, fun | n => n⟩
theorem Tryd.lays125 : Go.Proofs.Lays.n125 Tryd.prog Tryd.lays125_ren := {
  mixed := by kernel_rfl
  f125 := Tryd.func44.trans (congrArg some (by kernel_rfl))
  f128 := Tryd.func54.trans (congrArg some (by kernel_rfl))
  f129 := Tryd.func55.trans (congrArg some (by kernel_rfl))
  t3 := Tryd.underlying3
  a3 := Tryd.isAgg3
  z3 := Tryd.sizeOf3
  v3 := Tryd.zeroValue3
  t4 := Tryd.underlying4
  a4 := Tryd.isAgg4
  z4 := Tryd.sizeOf4
  v4 := Tryd.zeroValue4
  t5 := Tryd.underlying5
  a5 := Tryd.isAgg5
  z5 := Tryd.sizeOf5
  v5 := Tryd.zeroValue5
  t9 := Tryd.underlying9
  a9 := Tryd.isAgg9
  z9 := Tryd.sizeOf9
  v9 := Tryd.zeroValue9
  t46 := Tryd.underlying68
  a46 := Tryd.isAgg68
  z46 := Tryd.sizeOf68
  v46 := Tryd.zeroValue68
  t51 := Tryd.underlying58
  a51 := Tryd.isAgg58
  z51 := Tryd.sizeOf58
  v51 := Tryd.zeroValue58
  t53 := Tryd.underlying60
  a53 := Tryd.isAgg60
  z53 := Tryd.sizeOf60
  v53 := Tryd.zeroValue60 }
theorem Tryd.bits_Len (x : Int) (w : World) (h0 : 0 ≤ x) (h1 : x ≤ 18446744073709551615) :
    Calls Tryd.prog 44 #[.int .u64 x] w fun e w' => e = .returned (.int .i64 (Lib.bitLen x.toNat)) ∧ w' = w := Any.bits_Len Tryd.lays125 x w h0 h1
end Go.Proofs

/- A row's root: the contracts of the program's leftOf, rootOf and Root, and of the reference's Root. -/
namespace Go.Proofs.YtakmlmgffgoecaaDoor.R
open Go.RowKit Go.Sort Go.Proofs.YtakmlmgffgoecaaDoor.U
set_option maxRecDepth 100000

theorem len_aux : ∀ (f x : Nat), x < 2 ^ f → x ≠ 0 → Lib.bitLenAux f x = x.log2 + 1 := by
  intro f
  induction f with
  | zero => intro x h h0; simp at h; omega
  | succ f ih =>
    intro x h h0
    rw [Nat.pow_succ] at h
    unfold Lib.bitLenAux
    rw [if_neg h0, Nat.log2_def]
    by_cases h2 : x / 2 = 0
    · rw [if_neg (by omega), h2]
      cases f <;> simp [Lib.bitLenAux]
    · rw [if_pos (by omega), ih _ (by omega) h2]
      omega
theorem len_all (n : Nat) (h0 : n ≠ 0) (h : n < 4096) : Lib.bitLen n = n.log2 + 1 := len_aux 64 n (by omega) h0
theorem spl_log {n : Nat} : spl n = 2 ^ (n - 1).log2 := rfl
theorem wrap_small (q : Nat) (h : q ≤ 2048) : wrap64 (q : Int) = (q : Int) := by unfold wrap64; omega
theorem pow_small (j : Nat) (h : j < 12) : 2 ^ j ≤ 2048 := Nat.pow_le_pow_right (by decide) (show j ≤ 11 by omega)

theorem leftOf_any (n : Nat) (w : World) (h2 : 2 ≤ n) (hn : n ≤ 4096) :
    Calls Tryd.prog 35 #[.int .i64 n] w fun e w' => e = .returned (.int .i64 (spl n)) ∧ w = w' := by
  have H := Lib.hid (Tryd.bits_Len ((n : Int) - 1) w (by omega) (by omega))
  rw [show ((n : Int) - 1).toNat = n - 1 by omega, len_all (n - 1) (by omega) (by omega)] at H
  rw [spl_log]
  have hj : (n - 1).log2 < 12 := (Nat.log2_lt (by omega)).2 (by omega)
  generalize (n - 1).log2 = j at *
  have hp := pow_small j hj
  go_enter Tryd.func35, Tryd.ntmps35
  go_wp2_with (go_at_call 44; refine H.out.mono ?_; rintro e w1 ⟨rfl, rfl⟩)
  go_ret
  exact ⟨ret1_of (val_int (by
    rw [show ((2 : Int) ^ j) = ((2 ^ j : Nat) : Int) by rw [Int.natCast_pow]; rfl]
    exact wrap_small _ hp)), rfl⟩

theorem reg {f : FuncId} {args : Array Value} {W : World} {v : Value} (h : ∀ w, Below W.heap.size W w → Calls Tryd.prog f args w fun e w' => e = .returned v ∧ Below w.heap.size w w') :
    ∀ d os, Calls Tryd.prog f args (grow (redrawn W d) os) fun e w'' => e = .returned v ∧ ∃ p : Regrown, w'' = grow (redrawn W p.d) p.os := fun d os => Calls.regrown_of (h _ (below_regrown W d os))
/-- a row's root -/
abbrev rt (l : List (List UInt8)) : List UInt8 := rootL nd e0 l
theorem rt_length (l : List (List UInt8)) (h : ∀ x ∈ l, x.length = 32) : (rt l).length = 32 := by
  match l, h with
  | [], _ => exact e0_length
  | [x], h => exact h x (List.mem_singleton_self x)
  | x :: y :: r, _ =>
    unfold rt
    rw [rootL_two nd e0 (by simp)]
    exact nd_length _ _

set_option maxHeartbeats 1600000 in
theorem rootOf_small : ∀ (m : Nat) (l : List (List UInt8)) (w : World) (v : Value), l.length ≤ m → l.length ≤ 4096 → (∀ x ∈ l, x.length = 32) → Strs w v l → Tab w →
    Calls Tryd.prog 27 #[v] w fun e w' => e = .returned (.string (bytesOf (rt l))) ∧ Below w.heap.size w w' := by
  intro m
  induction m with
  | zero =>
    intro l w v h _ _ hl hT
    obtain rfl : l = [] := List.eq_nil_of_length_eq_zero (by omega)
    obtain ⟨a, c, rfl, hc, hm, hn, hl⟩ := hl
    have H := Lib.hid (sum_none w hT)
    go_enter Tryd.func27, Tryd.ntmps27
    go_wp2_with (go_at_call 28; refine H.out.mono ?_; rintro e w1 ⟨rfl, hb1⟩)
    go_ret
    exact ⟨rfl, hb1⟩
  | succ m ih =>
    intro l w v h h4 hx hl hT
    by_cases h0 : l.length = 0
    · exact ih l w v (by omega) h4 hx hl hT
    · have hs := hl
      obtain ⟨a, c, rfl, hc, hm, hn, hl⟩ := hl
      unfold maxLen at hm
      obtain ⟨b, off, rfl, hcell⟩ := hl (by intro h; subst h; exact h0 rfl)
      clear hl hn
      by_cases h1 : l.length = 1
      · obtain ⟨x, rfl⟩ := List.length_eq_one_iff.1 h1
        have hc1 := hcell 0 x rfl
        rw [Nat.add_zero] at hc1
        unfold str at hc1
        clear hcell hs
        go_enter Tryd.func27, Tryd.ntmps27
        go_wp2
        go_ret
        exact ⟨rfl, Below.refl _ _⟩
      · have hk1 := spl_lt (n := l.length) (by omega)
        have hk2 := spl_pos l.length
        have HR := Lib.hid (rootL_two nd e0 (l := l) (by omega))
        obtain ⟨k, hk⟩ : ∃ k, spl l.length = k := ⟨_, rfl⟩
        have HL := Lib.hid (leftOf_any l.length · (by omega) h4)
        rw [hk] at HL hk1 hk2 HR
        have hx1 : ∀ x ∈ l.take k, x.length = 32 := fun x hx' => hx x (List.mem_of_mem_take hx')
        have hx2 : ∀ x ∈ l.drop k, x.length = 32 := fun x hx' => hx x (List.mem_of_mem_drop hx')
        have HA := Lib.hid (fun W (hw : Below w.heap.size w W) => ih (l.take k) W _ (by rw [List.length_take]; omega) (by rw [List.length_take]; omega) hx1 ((strs_head hs (j := k) (by omega)).below hw) (hT.below hw))
        have HB := Lib.hid (fun W (hw : Below w.heap.size w W) => ih (l.drop k) W _ (by rw [List.length_drop]; omega) (by rw [List.length_drop]; omega) hx2 ((strs_tail hs (i := k) (by omega)).below hw) (hT.below hw))
        have HN := Lib.hid (fun W (hw : Below w.heap.size w W) => node_any (rt (l.take k)) (rt (l.drop k)) W (by rw [rt_length _ hx1]; decide) (by rw [rt_length _ hx2]; decide) (hT.below hw))
        clear hk hcell hx1 hx2 hs ih
        have c1 := Lib.hid (reg HA.out)
        have c2 := Lib.hid (reg HB.out)
        have c3 := Lib.hid (reg HN.out)
        clear HA HB HN
        have hi0 : ¬ (l.length : Int) = 0 := by omega
        have hi1 : ¬ (l.length : Int) = 1 := by omega
        go_enter Tryd.func27, Tryd.ntmps27
        go_upto_region 7 with (go_at_call 35; refine (HL.out _).mono ?_; rintro e w1 ⟨rfl, rfl⟩)
        refine wp_region_quiet_below (by kernel_rfl) (by kernel_rfl) ?_
        repeat (go_big_quiet_step (first | with_reducible exact c1.out _ _ | with_reducible exact c2.out _ _ | with_reducible exact c3.out _ _))
        refine wpQuiet_nil ?_
        intro w9 hw'
        obtain ⟨⟨dq, osq⟩, rfl⟩ := hw'
        go_wp2
        go_ret
        exact ⟨ret1_of (by rw [show rt l = _ from HR.out]; rfl), below_regrown w dq osq⟩
set_option maxHeartbeats 1600000 in
theorem refRoot_small : ∀ (m : Nat) (l : List (List UInt8)) (w : World) (v : Value), l.length ≤ m → l.length ≤ 4096 → (∀ x ∈ l, x.length = 32) → Strs w v l →
    Calls Tryd.prog 18 #[v] w fun e w' => e = .returned (.string (bytesOf (rt l))) ∧ Below w.heap.size w w' := by
  intro m
  induction m with
  | zero =>
    intro l w v h _ _ hl
    obtain rfl : l = [] := List.eq_nil_of_length_eq_zero (by omega)
    obtain ⟨a, c, rfl, hc, hm, hn, hl⟩ := hl
    have H := Lib.hid (refNone_any w)
    go_enter Tryd.func18, Tryd.ntmps18
    go_wp2_with (go_at_call 29; refine H.out.mono ?_; rintro e w1 ⟨rfl, hb1⟩)
    go_ret
    exact ⟨rfl, hb1⟩
  | succ m ih =>
    intro l w v h h4 hx hl
    by_cases h0 : l.length = 0
    · exact ih l w v (by omega) h4 hx hl
    · have hs := hl
      obtain ⟨a, c, rfl, hc, hm, hn, hl⟩ := hl
      unfold maxLen at hm
      obtain ⟨b, off, rfl, hcell⟩ := hl (by intro h; subst h; exact h0 rfl)
      clear hl hn
      by_cases h1 : l.length = 1
      · obtain ⟨x, rfl⟩ := List.length_eq_one_iff.1 h1
        have hc1 := hcell 0 x rfl
        rw [Nat.add_zero] at hc1
        unfold str at hc1
        clear hcell hs
        go_enter Tryd.func18, Tryd.ntmps18
        go_wp2
        go_ret
        exact ⟨rfl, Below.refl _ _⟩
      · have hk1 := spl_lt (n := l.length) (by omega)
        have hk2 := spl_pos l.length
        have HR := Lib.hid (rootL_two nd e0 (l := l) (by omega))
        obtain ⟨k, hk⟩ : ∃ k, spl l.length = k := ⟨_, rfl⟩
        have HL := Lib.hid (refSplit_any l.length · (by omega) (by omega))
        rw [hk] at HL hk1 hk2 HR
        have hx1 : ∀ x ∈ l.take k, x.length = 32 := fun x hx' => hx x (List.mem_of_mem_take hx')
        have hx2 : ∀ x ∈ l.drop k, x.length = 32 := fun x hx' => hx x (List.mem_of_mem_drop hx')
        have HA := Lib.hid (fun W (hw : Below w.heap.size w W) => ih (l.take k) W _ (by rw [List.length_take]; omega) (by rw [List.length_take]; omega) hx1 ((strs_head hs (j := k) (by omega)).below hw))
        have HB := Lib.hid (fun W (hw : Below w.heap.size w W) => ih (l.drop k) W _ (by rw [List.length_drop]; omega) (by rw [List.length_drop]; omega) hx2 ((strs_tail hs (i := k) (by omega)).below hw))
        have HN := Lib.hid (fun W (_ : Below w.heap.size w W) => refNode_any (rt (l.take k)) (rt (l.drop k)) W (by rw [rt_length _ hx1]; decide) (by rw [rt_length _ hx2]; decide))
        clear hk hcell hx1 hx2 hs ih
        have c1 := Lib.hid (reg HA.out)
        have c2 := Lib.hid (reg HB.out)
        have c3 := Lib.hid (reg HN.out)
        clear HA HB HN
        have hi0 : ¬ (l.length : Int) = 0 := by omega
        have hi1 : ¬ (l.length : Int) = 1 := by omega
        go_enter Tryd.func18, Tryd.ntmps18
        go_upto_region 6 with (go_at_call 30; refine (HL.out _).mono ?_; rintro e w1 ⟨rfl, rfl⟩)
        refine wp_region_quiet_below (by kernel_rfl) (by kernel_rfl) ?_
        repeat (go_big_quiet_step (first | with_reducible exact c1.out _ _ | with_reducible exact c2.out _ _ | with_reducible exact c3.out _ _))
        refine wpQuiet_nil ?_
        intro w9 hw'
        obtain ⟨⟨dq, osq⟩, rfl⟩ := hw'
        go_wp2
        go_ret
        exact ⟨ret1_of (by rw [show rt l = _ from HR.out]; rfl), below_regrown w dq osq⟩

theorem rootOf_any (l : List (List UInt8)) (w : World) (v : Value) (hr : rowB l = true) (hl : Strs w v l) (hT : Tab w) :
    Calls Tryd.prog 27 #[v] w fun e w' => e = .returned (.string (bytesOf (rt l))) ∧ Below w.heap.size w w' :=
  rootOf_small l.length l w v (Nat.le_refl _) (rowB_of hr).1 (rowB_of hr).2 hl hT
theorem refRoot_any (l : List (List UInt8)) (w : World) (v : Value) (hr : rowB l = true) (hl : Strs w v l) :
    Calls Tryd.prog 18 #[v] w fun e w' => e = .returned (.string (bytesOf (rt l))) ∧ Below w.heap.size w w' :=
  refRoot_small l.length l w v (Nat.le_refl _) (rowB_of hr).1 (rowB_of hr).2 hl

/-- what Root hands back -/
def rootA (l : List (List UInt8)) : Array Value := if rowB l = true then #[.string (bytesOf (rt l)), .int .i64 0] else #[.string { data := #[] }, .int .i64 1]
theorem root_any (l : List (List UInt8)) (w : World) (v : Value) (hx : ∀ x ∈ l, x.length ≤ maxLen) (hl : Strs w v l) (hT : Tab w) :
    Calls Tryd.prog 10 #[v] w fun e w' => e = .returned (.tuple (rootA l)) ∧ Below w.heap.size w w' := by
  have HR := Lib.hid (right_any w v l hl hx)
  cases hr : rowB l with
  | true =>
    have HO := Lib.hid (rootOf_any l w v hr hl hT)
    have HA := Lib.hid (show rootA l = #[.string (bytesOf (rt l)), .int .i64 0] by unfold rootA; rw [if_pos hr])
    rw [hr] at HR
    clear hr hl
    go_enter Tryd.func10, Tryd.ntmps10
    go_wp2_with (first | (go_at_call 15; refine HR.out.mono ?_; rintro e w1 ⟨rfl, rfl⟩) | (go_at_call 27; refine HO.out.mono ?_; rintro e w1 ⟨rfl, hb⟩))
    go_ret2
    exact ⟨by rw [HA.out]; rfl, hb⟩
  | false =>
    have HA := Lib.hid (show rootA l = #[.string { data := #[] }, .int .i64 1] by unfold rootA; rw [hr]; rfl)
    rw [hr] at HR
    clear hr hl
    go_enter Tryd.func10, Tryd.ntmps10
    go_wp2_with (go_at_call 15; refine HR.out.mono ?_; rintro e w1 ⟨rfl, rfl⟩)
    go_ret2
    exact ⟨by rw [HA.out]; rfl, Below.refl _ _⟩
end Go.Proofs.YtakmlmgffgoecaaDoor.R

/- How many bits are 1: the contract of the library's OnesCount, of small numbers. -/
namespace Go.Proofs.YtakmlmgffgoecaaDoor.R
open Go.RowKit Go.Sort Go.Proofs.YtakmlmgffgoecaaDoor.U
set_option maxRecDepth 100000

theorem onesF_eq : ∀ (f n : Nat), n < 2 ^ f → onesF f n = ones n := by
  intro f
  induction f with
  | zero => intro n h; obtain rfl : n = 0 := (by simpa using h); rfl
  | succ f ih =>
    intro n h
    rw [Nat.pow_succ] at h
    rw [ones_half n, ← ih (n / 2) (by omega)]
    rfl
def q1 (n : Nat) : Nat := ((n / 2 &&& 6148914691236517205) + (n &&& 6148914691236517205)) % 18446744073709551616
def q2 (n : Nat) : Nat := ((n / 4 &&& 3689348814741910323) + (n &&& 3689348814741910323)) % 18446744073709551616
def q3 (n : Nat) : Nat := (n / 16 + n) % 18446744073709551616 &&& 1085102592571150095
def q4 (n : Nat) : Nat := (n + n / 256) % 18446744073709551616
def q5 (n : Nat) : Nat := (n + n / 65536) % 18446744073709551616
def q6 (n : Nat) : Nat := (n + n / 4294967296) % 18446744073709551616
def q7 (n : Nat) : Nat := n % 128
theorem pops_all : (List.range 4097).all (fun n => q7 (q6 (q5 (q4 (q3 (q2 (q1 n)))))) == onesF 13 n) = true := by decide +kernel
theorem pops (n : Nat) (h : n ≤ 4096) : q7 (q6 (q5 (q4 (q3 (q2 (q1 n)))))) = ones n := by
  have h1 := List.all_eq_true.1 pops_all n (List.mem_range.2 (by omega))
  rw [← onesF_eq 13 n (by omega)]
  simpa using h1
theorem wrapN (a : Nat) : IntKind.u64.wrap (a : Int) = ((a % 18446744073709551616 : Nat) : Int) := by rw [IntKind.wrap_u64]; omega
theorem andN (a b : Nat) (ha : a < 18446744073709551616) (hb : b < 18446744073709551616) : bits BinOp.and IntKind.u64 (a : Int) (b : Int) = ((a &&& b : Nat) : Int) := u64_and_nat a b ha hb
theorem q1_lt (n : Nat) : q1 n < 18446744073709551616 := Nat.mod_lt _ (by decide)
theorem e1 (n : Nat) (h : n < 18446744073709551616) : IntKind.u64.wrap (bits BinOp.and IntKind.u64 ((n : Int) / 2) 6148914691236517205 + bits BinOp.and IntKind.u64 (n : Int) 6148914691236517205) = ((q1 n : Nat) : Int) := by
  rw [show ((n : Int) / 2) = ((n / 2 : Nat) : Int) by omega, show (6148914691236517205 : Int) = ((6148914691236517205 : Nat) : Int) from rfl, andN _ _ (by omega) (by decide), andN _ _ h (by decide), ← Int.natCast_add, wrapN]
  rfl
theorem e2 (n : Nat) (h : n < 18446744073709551616) : IntKind.u64.wrap (bits BinOp.and IntKind.u64 ((n : Int) / 4) 3689348814741910323 + bits BinOp.and IntKind.u64 (n : Int) 3689348814741910323) = ((q2 n : Nat) : Int) := by
  rw [show ((n : Int) / 4) = ((n / 4 : Nat) : Int) by omega, show (3689348814741910323 : Int) = ((3689348814741910323 : Nat) : Int) from rfl, andN _ _ (by omega) (by decide), andN _ _ h (by decide), ← Int.natCast_add, wrapN]
  rfl
theorem e3 (n : Nat) : bits BinOp.and IntKind.u64 (IntKind.u64.wrap ((n : Int) / 16 + (n : Int))) 1085102592571150095 = ((q3 n : Nat) : Int) := by
  rw [show ((n : Int) / 16) = ((n / 16 : Nat) : Int) by omega, show (1085102592571150095 : Int) = ((1085102592571150095 : Nat) : Int) from rfl, ← Int.natCast_add, wrapN, andN _ _ (Nat.mod_lt _ (by decide)) (by decide)]
  rfl
theorem e4 (n : Nat) : IntKind.u64.wrap ((n : Int) + (n : Int) / 256) = ((q4 n : Nat) : Int) := by
  rw [show ((n : Int) / 256) = ((n / 256 : Nat) : Int) by omega, ← Int.natCast_add, wrapN]
  rfl
theorem e5 (n : Nat) : IntKind.u64.wrap ((n : Int) + (n : Int) / 65536) = ((q5 n : Nat) : Int) := by
  rw [show ((n : Int) / 65536) = ((n / 65536 : Nat) : Int) by omega, ← Int.natCast_add, wrapN]
  rfl
theorem e6 (n : Nat) : IntKind.u64.wrap ((n : Int) + (n : Int) / 4294967296) = ((q6 n : Nat) : Int) := by
  rw [show ((n : Int) / 4294967296) = ((n / 4294967296 : Nat) : Int) by omega, ← Int.natCast_add, wrapN]
  rfl
theorem e7 (n : Nat) : bits BinOp.and IntKind.i64 (wrap64 (n : Int)) 127 = ((q7 n : Nat) : Int) := by
  rw [i64_and127]
  unfold q7 wrap64
  omega

theorem ones64_any (n : Nat) (w : World) (hn : n ≤ 4096) :
    Calls Tryd.prog 53 #[.int .u64 (n : Int)] w fun e w' => e = .returned (.int .i64 (ones n)) ∧ w = w' := by
  have hp := Lib.hid (pops n hn)
  go_enter Tryd.func53, Tryd.ntmps53
  go_wp2
  go_ret
  refine ⟨ret1_of (val_int ?_), rfl⟩
  rw [e1 n (by omega), e2 _ (q1_lt _), e3, e4, e5, e6, e7, hp.out]
theorem ones_any (n : Nat) (w : World) (hn : n ≤ 4096) :
    Calls Tryd.prog 43 #[.int .u64 (n : Int)] w fun e w' => e = .returned (.int .i64 (ones n)) ∧ w = w' := by
  have H := Lib.hid (ones64_any n w hn)
  go_enter Tryd.func43, Tryd.ntmps43
  go_wp2_with (go_at_call 53; refine H.out.mono ?_; rintro e w1 ⟨rfl, rfl⟩)
  go_ret
  exact ⟨rfl, rfl⟩
theorem ones_le_all : (List.range 4097).all (fun n => decide (onesF 13 n ≤ 12)) = true := by decide +kernel
theorem ones_le (n : Nat) (h : n ≤ 4096) : ones n ≤ 12 := by
  have h1 := List.all_eq_true.1 ones_le_all n (List.mem_range.2 (by omega))
  rw [← onesF_eq 13 n (by omega)]
  simpa using h1
end Go.Proofs.YtakmlmgffgoecaaDoor.R

/- A tree that works: which may be, and its root. -/
namespace Go.Proofs.YtakmlmgffgoecaaDoor.R
open Go.RowKit Go.Sort Go.Proofs.YtakmlmgffgoecaaDoor.U
set_option maxRecDepth 100000

/-- the cells of a tree that goes on -/
def growA (n : Int) (v : Value) : Array Value := #[.int .i64 n, v]
theorem rowGrow : RowT Tryd.prog 34 2 := ⟨⟨_, Tryd.underlying34, rfl⟩, by kernel_rfl⟩
/-- a tree that goes on may be -/
def mayB (n : Int) (ps : List (List UInt8)) : Bool := decide (0 ≤ n) && decide (n ≤ 4096) && decide (ps.length = ones n.toNat) && rowB ps

set_option maxHeartbeats 1600000 in
theorem wright_any (g : Nat) (n : Int) (v : Value) (ps : List (List UInt8)) (w : World) (hn1 : -9223372036854775808 ≤ n) (hn2 : n ≤ 9223372036854775807) (hs : Strs w v ps) (hx : ∀ x ∈ ps, x.length ≤ maxLen) (hl : Lies w g 53 (growA n v)) :
    Calls Tryd.prog 31 #[.pointer (some ⟨g, 0, none⟩)] w fun e w' => e = .returned (.bool (mayB n ps)) ∧ Below w.heap.size w w' := by
  have k0 : w.cell? ⟨g, 0, none⟩ = some (.int .i64 n) := hl.cell 0
  have k1 : w.cell? ⟨g, 1, none⟩ = some v := hl.cell 1
  have hR := fun k => right_any (w.drewN k) v ps hs hx
  obtain ⟨a, c, rfl, hc, hm, hna, hcell⟩ := hs
  clear hcell hna hl
  unfold maxLen at hm
  by_cases h0 : 0 ≤ n
  · have hd0 : decide (0 ≤ n) = true := by simpa using h0
    by_cases h4 : n ≤ 4096
    · have hd4 : decide (n ≤ 4096) = true := by simpa using h4
      obtain ⟨m, rfl⟩ : ∃ m : Nat, n = (m : Int) := ⟨n.toNat, (Int.toNat_of_nonneg h0).symm⟩
      have HO : Hid (∀ k, Calls Tryd.prog 43 #[.int .u64 (IntKind.u64.wrap (m : Int))] (w.drewN k) fun e w' => e = .returned (.int .i64 (ones m)) ∧ w.drewN k = w') := Lib.hid (fun k => by rw [wrapN, Nat.mod_eq_of_lt (by omega)]; exact ones_any m (w.drewN k) (by omega))
      by_cases ho : ps.length = ones m
      · have hi : ((ps.length : Int) == (ones m : Int)) = true := by simp; omega
        have HB := Lib.hid (show mayB (m : Int) ps = rowB ps by unfold mayB; rw [hd0, hd4, Int.toNat_natCast, ho]; simp)
        have HR := Lib.hid hR
        clear hR ho
        go_enter Tryd.func31, Tryd.ntmps31
        go_wp2
        go_quiet (first | (with_reducible exact Calls.quiet_of_same ((HO.out _).mono fun _ _ h => ⟨h.1, h.2.symm⟩)) | (with_reducible exact Calls.quiet_of_same ((HR.out _).mono fun _ _ h => ⟨h.1, h.2.symm⟩)))
        go_wp2
        go_ret
        exact ⟨ret1_of (by rw [HB.out]; rfl), below_drawn (Below.refl _ _) _⟩
      · have hi : ((ps.length : Int) == (ones m : Int)) = false := by simp; omega
        have HB := Lib.hid (show mayB (m : Int) ps = false by unfold mayB; rw [Int.toNat_natCast]; simp [ho])
        clear hR ho
        go_enter Tryd.func31, Tryd.ntmps31
        go_wp2
        go_quiet (with_reducible exact Calls.quiet_of_same ((HO.out _).mono fun _ _ h => ⟨h.1, h.2.symm⟩))
        go_wp2
        go_ret
        exact ⟨ret1_of (by rw [HB.out]; rfl), below_drawn (Below.refl _ _) _⟩
    · have hd4 : decide (n ≤ 4096) = false := by simpa using h4
      have HB := Lib.hid (show mayB n ps = false by unfold mayB; rw [hd4]; simp)
      clear hR
      go_enter Tryd.func31, Tryd.ntmps31
      go_wp2
      go_quiet (fail)
      go_wp2
      go_ret
      exact ⟨ret1_of (by rw [HB.out]; rfl), below_drawn (Below.refl _ _) _⟩
  · have hd0 : decide (0 ≤ n) = false := by simpa using h0
    have HB := Lib.hid (show mayB n ps = false by unfold mayB; rw [hd0]; simp)
    clear hR
    go_enter Tryd.func31, Tryd.ntmps31
    go_wp2
    go_quiet (fail)
    go_wp2
    go_ret
    exact ⟨ret1_of (by rw [HB.out]; rfl), below_drawn (Below.refl _ _) _⟩
end Go.Proofs.YtakmlmgffgoecaaDoor.R

/- A tree that works: its parts made one; a leaf more. -/
namespace Go.Proofs.YtakmlmgffgoecaaDoor.R
open Go.RowKit Go.Sort Go.Proofs.YtakmlmgffgoecaaDoor.U
set_option maxRecDepth 100000

theorem infoStr : (Tryd.prog.info? 9).map (fun i => (i.zero, i.size, i.bytes)) = some (some (.string ByteArray.empty), 1, 16) := by kernel_rfl
/-- a row that the call owns, or one of nothing, without room -/
def Own (w : World) (B : Nat) (v : Value) (ps : List (List UInt8)) : Prop :=
  (∃ a, v = .slice a 0 0 ∧ ps = []) ∨ ∃ gp cap, v = .slice (some ⟨gp, 0, none⟩) ps.length cap ∧ w.ownsRow B 9 1 v ps.length (ps.map str)
theorem Own.strs {w : World} {B : Nat} {v : Value} {ps : List (List UInt8)} (h : Own w B v ps) : Strs w v ps := by
  rcases h with ⟨a, rfl, rfl⟩ | ⟨gp, cap, rfl, h⟩
  · exact ⟨a, 0, rfl, Nat.le_refl _, Nat.zero_le _, fun _ => rfl, fun h => absurd rfl h⟩
  · exact Strs.owned h
theorem Own.on {w w' : World} {B : Nat} {v : Value} {ps : List (List UInt8)} (h : Own w B v ps) (hb : Below w.heap.size w w') : Own w' B v ps := by
  rcases h with ⟨a, rfl, rfl⟩ | ⟨gp, cap, rfl, h⟩
  · exact .inl ⟨a, rfl, rfl⟩
  · exact .inr ⟨gp, cap, rfl, own_on h hb⟩
theorem own_cut {w : World} {B : Nat} {e : TypeId} {g n cap : Nat} {xs : List Value} (h : w.ownsRow B e 1 (.slice (some ⟨g, 0, none⟩) n cap) n xs) {k : Nat} (hk : k ≤ n) :
    w.ownsRow B e 1 (.slice (some ⟨g, 0, none⟩) k cap) k (xs.take k) := by
  obtain ⟨h1, h2⟩ := h
  rcases h2 with ⟨h0, _⟩ | ⟨g', cap', cur, hv, hg, hh, hn, hcap, hsz, htake⟩
  · cases h0
  · cases hv
    refine ⟨by rw [List.length_take]; omega, .inr ⟨g, cap, cur, rfl, hg, hh, by omega, hcap, hsz, ?_⟩⟩
    rw [← htake, List.take_take, Nat.mul_one, Nat.mul_one, Nat.min_eq_left hk]
theorem own_block {w : World} {B : Nat} {e : TypeId} {g n cap : Nat} {xs : List Value} (h : w.ownsRow B e 1 (.slice (some ⟨g, 0, none⟩) n cap) n xs) : B ≤ g ∧ g < w.heap.size := h.lt g rfl

/-! ### the root -/
theorem ones_nil (n : Nat) : ones n = 0 ↔ n = 0 := by
  constructor
  · intro h
    rcases Nat.eq_zero_or_pos n with h0 | h0
    · exact h0
    · rw [ones_top n n (Nat.le_refl _) h0] at h
      omega
  · intro h; subst h; rfl
theorem sumP_drop {ps : List (List UInt8)} {k : Nat} {x : List UInt8} (h : ps[k]? = some x) (h2 : k + 1 < ps.length) : sumP nd e0 (ps.drop k) = nd x (sumP nd e0 (ps.drop (k + 1))) := by
  rw [List.drop_eq_getElem_cons (by omega), sumP_cons nd e0 (by intro h; have := congrArg List.length h; rw [List.length_drop] at this; simp at this; omega)]
  congr 1
  exact (List.getElem?_eq_some_iff.1 h).2
set_option maxHeartbeats 1600000 in
theorem wroot_any (g n : Nat) (v : Value) (ps : List (List UInt8)) (w : World) (hn : ps.length = ones n) (hs : Strs w v ps) (hx : ∀ x ∈ ps, x.length = 32) (hl : Lies w g 53 (growA n v)) (hT : Tab w) (hc8 : ps.length ≤ 4096) :
    Calls Tryd.prog 34 #[.pointer (some ⟨g, 0, none⟩)] w fun e w' => e = .returned (.string (bytesOf (sumP nd e0 ps))) ∧ Below w.heap.size w w' := by
  have k0 : w.cell? ⟨g, 0, none⟩ = some (.int .i64 n) := hl.cell 0
  have k1 : w.cell? ⟨g, 1, none⟩ = some v := hl.cell 1
  by_cases h0 : n = 0
  · subst h0
    obtain rfl : ps = [] := List.eq_nil_of_length_eq_zero hn
    have H := Lib.hid (sum_none w hT)
    clear k1 hs
    go_enter Tryd.func34, Tryd.ntmps34
    go_wp2_with (go_at_call 28; refine H.out.mono ?_; rintro e w1 ⟨rfl, hb1⟩)
    go_ret
    exact ⟨rfl, hb1⟩
  · have hp : 0 < ps.length := by
      rcases Nat.eq_zero_or_pos ps.length with h | h
      · rw [hn] at h; exact absurd ((ones_nil n).1 h) h0
      · exact h
    have hi0 : ((n : Int) == 0) = false := by simp; omega
    obtain ⟨a, c, rfl, hc, hm, hna, hcl⟩ := hs
    unfold maxLen at hm
    obtain ⟨b, off, rfl, hcell⟩ := hcl (by intro h; subst h; simp at hp)
    obtain ⟨x, hxk⟩ : ∃ x, ps[ps.length - 1]? = some x := ⟨ps[ps.length - 1], List.getElem?_eq_getElem (by omega)⟩
    have hc1 := hcell _ x hxk
    have hLast : sumP nd e0 (ps.drop (ps.length - 1)) = x := by
      rw [List.drop_eq_getElem_cons (by omega), List.drop_eq_nil_of_le (by omega)]
      exact (List.getElem?_eq_some_iff.1 hxk).2
    have HLast := Lib.hid hLast
    have HX32 := hx x (List.mem_of_getElem? hxk)
    have HX := Lib.hid hx
    have HC := Lib.hid hcell
    have HT := Lib.hid hT
    clear hLast hxk hn hna hx hcell hcl hT
    unfold str at hc1
    go_enter Tryd.func34, Tryd.ntmps34
    go_wp2
    go_loopw [4, 5] (fun s i wr => ∃ (j : Int) (x : List UInt8), s = .string ⟨x.toArray⟩ ∧ i = .int .i64 j ∧ -1 ≤ j ∧ j + 1 < ps.length ∧ x.length = 32 ∧ Hid (sumP nd e0 (ps.drop (j + 1).toNat) = x) ∧ Below w.heap.size w wr) (fun _ i _ => (intOf i + 1).toNat)
    case atStart => exact ⟨(ps.length : Int) - 1 - 1, x, rfl, rfl, by omega, by omega, HX32, Lib.hid (by rw [show ((ps.length : Int) - 1 - 1 + 1).toNat = ps.length - 1 by omega]; exact HLast.out), Below.refl _ _⟩
    case round =>
      obtain ⟨j, y, rfl, rfl, hj1, hj2, hy, HS, hb⟩ := hrel
      have k1' := (hl.on hb).cell 1
      simp only [growA, List.getElem?_toArray, List.getElem?_cons_succ, List.getElem?_cons_zero] at k1'
      by_cases hlt : 0 ≤ j
      · obtain ⟨i, rfl⟩ : ∃ i : Nat, j = (i : Int) := ⟨j.toNat, (Int.toNat_of_nonneg hlt).symm⟩
        obtain ⟨z, hzk⟩ : ∃ z, ps[i]? = some z := ⟨ps[i]'(by omega), List.getElem?_eq_getElem _⟩
        have hc2 := (HC.out i z hzk)
        replace hc2 := (hb.cell (p := ⟨b, off + i, none⟩) (World.block_lt_of_cell? w _ hc2)).trans hc2
        have hz32 := HX.out z (List.mem_of_getElem? hzk)
        have HN := Lib.hid (node_any z y wr (by omega) (by omega) (HT.out.below hb))
        unfold bytesOf at HN
        unfold str at hc2
        have HS2 := Lib.hid (show sumP nd e0 (ps.drop ((i : Int) - 1 + 1).toNat) = nd z y by rw [show ((i : Int) - 1 + 1).toNat = i by omega, sumP_drop hzk (by omega), ← HS.out]; rfl)
        clear hzk
        go_wp2_with (go_at_call 13; refine HN.out.mono ?_; rintro e w2 ⟨rfl, hb2⟩)
        go_roundw
        case rel => exact ⟨(i : Int) - 1, nd z y, rfl, by go_num, by omega, by omega, nd_length _ _, HS2, below_on hb hb2⟩
        case measure => simp [intOf]
      · have HS2 := Lib.hid (show y = sumP nd e0 ps by rw [← HS.out, show (j + 1).toNat = 0 by omega]; rfl)
        go_wp2
        go_ret
        exact ⟨ret1_of (by rw [← HS2.out]; rfl), hb⟩
end Go.Proofs.YtakmlmgffgoecaaDoor.R

/- A tree that works: one leaf more. -/
namespace Go.Proofs.YtakmlmgffgoecaaDoor.R
open Go.RowKit Go.Sort Go.Proofs.YtakmlmgffgoecaaDoor.U
set_option maxRecDepth 100000

/-- blocks of another type are as they were -/
def Kept (w w' : World) : Prop := ∀ g t cs, t ≠ 9 → Lies w g t cs → Lies w' g t cs
theorem Kept.on {w w1 w2 : World} (h : Kept w w1) (hb : Below w1.heap.size w1 w2) : Kept w w2 := fun g t cs ht hl => (h g t cs ht hl).on hb
theorem Kept.refl (w : World) : Kept w w := fun _ _ _ _ h => h

/-- one text goes behind a row that the call owns -/
theorem wpL_appendS {ops : Array Oper} {rest : List Oper} {a : Act} {w : World} {Q : Exit → Act → World → Prop} {t' : TypeId} {pos : String} {after : Array Edge} {d : Option Tmp} {x y : Tmp}
    (B : Nat) (v : Value) (ps : List (List UInt8)) (n0 : Nat) (z : List UInt8) (b : Nat) (hn0 : ps.length = n0) (hown : Own w B v ps) (hl : Lies w b 9 #[.string ⟨z.toArray⟩]) (hps : ps.length ≤ 100000) (hB : B ≤ w.heap.size)
    (hs : a.eval (.tmp x) = v) (hx : a.eval (.tmp y) = .slice (some ⟨b, 0, none⟩) 1 1)
    (h : ∀ g2 c2 w', Own w' B (.slice (some ⟨g2, 0, none⟩) (n0 + 1) c2) (ps ++ [z]) → Below B w w' → Kept w w' → wpList Tryd.prog ops Q rest (a.put d (.slice (some ⟨g2, 0, none⟩) (n0 + 1) c2)) w') :
    wpList Tryd.prog ops Q (⟨d, .call { callee := .builtin .append, args := #[.tmp x, .tmp y], argTypes := #[22, 22] }, t', pos, after, none⟩ :: rest) a w := by
  obtain ⟨i0, hi, hz0, hz1, hz2⟩ := info_parts infoStr
  subst hn0
  rcases hown with ⟨ao, rfl, rfl⟩ | ⟨gp, cap, rfl, hown⟩
  · refine wpList_append_grows w rfl _ _ 22 rfl 9 i0 _ 1 16 Tryd.underlying22 hi hz0 hz1 hz2 rfl (by decide) ao 0 0 [] hs (fun _ => ⟨rfl, rfl⟩) rfl (fun _ _ j u hj => by cases hj) ⟨b, 0, none⟩ 1 1 [.string ⟨z.toArray⟩] hx rfl (World.news_of_block hl) (by simp [Value.oneCell']) (by decide) (by decide) (by decide) ?_
    intro v' w' ho hg
    obtain ⟨g2, c2, rfl, _⟩ := ho.form (by decide)
    refine h g2 c2 w' (.inr ⟨g2, c2, rfl, own_less ho hB⟩) ((Below.refl B w).grown hg hB (fun k hk => by cases hk)) (fun g t cs _ hl => hl.only hg (by simp))
  · refine wpL_append (P := Tryd.prog) B 9 i0 _ 16 Tryd.underlying22 hi hz0 hz1 hz2 rfl _ ps.length _ hown b (.string ⟨z.toArray⟩) hl rfl (by unfold maxLen; omega) (by omega) hB hs hx ?_
    intro g2 c2 w' ho hg
    have hlt := own_block hown
    refine h g2 c2 w' (.inr ⟨g2, c2, by rw [List.length_append]; rfl, ?_⟩) ((Below.refl B w).grown hg hB (fun k hk => by cases hk; exact hlt.1)) (fun g t cs ht hl => hl.only hg (fun e => own_far hown hl (Ne.symm ht) e.symm))
    rw [List.length_append, List.map_append]
    exact ho

theorem Own.cut {w : World} {B : Nat} {ao : Option Addr} {c : Nat} {ps : List (List UInt8)} (h : Own w B (.slice ao ps.length c) ps) {k : Nat} (hk : k ≤ ps.length) : Own w B (.slice ao k c) (ps.take k) := by
  rcases h with ⟨a, hv, rfl⟩ | ⟨gp, cap, hv, h⟩
  · obtain rfl : k = 0 := by simpa using hk
    injection hv with h1 h2 h3
    subst h1 h3
    exact .inl ⟨ao, rfl, rfl⟩
  · injection hv with h1 h2 h3
    subst h1 h3
    have hl : (ps.take k).length = k := by rw [List.length_take]; omega
    refine .inr ⟨gp, c, by rw [hl], ?_⟩
    rw [hl, List.map_take]
    exact own_cut h hk
theorem Own.only {w w' : World} {B g : Nat} {t : TypeId} {cs : Array Value} {v : Value} {ps : List (List UInt8)} (h : Own w B v ps) (hl : Lies w g t cs) (ht : t ≠ 9) (hO : Only g w w') : Own w' B v ps := by
  rcases h with ⟨a, rfl, rfl⟩ | ⟨gp, cap, rfl, h⟩
  · exact .inl ⟨a, rfl, rfl⟩
  · refine .inr ⟨gp, cap, rfl, own_grown h hO (fun g' hg' e => ?_)⟩
    have := own_far h hl (Ne.symm ht)
    rw [hg'] at this
    injection e with e
    exact this (by rw [e])

theorem trail_le_ones (n : Nat) : trail n ≤ ones n := trail_le n n (Nat.le_refl _)
theorem mrg_step {ps : List (List UInt8)} {k : Nat} {y z : List UInt8} {t : Nat} (hz : ps[k]? = some z) : mrg nd e0 (t + 1) (ps.take (k + 1)) y = mrg nd e0 t (ps.take k) (nd z y) := by
  have hlt := (List.getElem?_eq_some_iff.1 hz).1
  have e : ps.take (k + 1) = ps.take k ++ [z] := by rw [List.take_add_one, hz]; rfl
  rw [e]
  show mrg nd e0 t (ps.take k ++ [z]).dropLast (nd ((ps.take k ++ [z]).getLastD e0) y) = _
  rw [List.dropLast_concat, show (ps.take k ++ [z]).getLastD e0 = z by simp]

set_option maxHeartbeats 3200000 in
theorem wtake_any (B g n : Nat) (v : Value) (ps : List (List UInt8)) (x : List UInt8) (w : World) (hn : ps.length = ones n) (hn4 : n ≤ 4096) (hx : ∀ x ∈ ps, x.length = 32) (hx0 : x.length = 32) (hl : Lies w g 53 (growA n v)) (ho : Own w B v ps) (hBg : B ≤ g) (hT : Tab w) :
    Calls Tryd.prog 33 #[.pointer (some ⟨g, 0, none⟩), .string (bytesOf x)] w fun e w' => e = .returned (.tuple #[]) ∧ (∃ v', Lies w' g 53 (growA ((n + 1 : Nat) : Int) v') ∧ Own w' B v' (mrg nd e0 (trail n) ps x)) ∧ Below B w w' := by
  have k0 : w.cell? ⟨g, 0, none⟩ = some (.int .i64 n) := hl.cell 0
  have k1 : w.cell? ⟨g, 1, none⟩ = some v := hl.cell 1
  have hgw := hl.lt
  have ho12 := ones_le n hn4
  have HO := Lib.hid ho
  obtain ⟨ao, c, rfl, hc, hm, hna, hcl⟩ := ho.strs
  have HT0 := Lib.hid (trail_le_ones n)
  have HX := Lib.hid hx
  have HT := Lib.hid hT
  have HN := Lib.hid hn
  have hp12 : ps.length ≤ 12 := by omega
  clear ho hT hx hn
  unfold maxLen at hm
  go_enter Tryd.func33, Tryd.ntmps33
  go_wp2
  go_quiet (fail)
  go_wp2
  go_loopw [4, 5, 6] (fun s k m wr => ∃ (kk mm : Nat) (y : List UInt8), s = .string ⟨y.toArray⟩ ∧ k = .int .i64 kk ∧ m = .int .i64 mm ∧ kk ≤ ps.length ∧ mm ≤ n ∧ y.length = 32 ∧ Hid (trail mm ≤ kk ∧ mrg nd e0 (trail mm) (ps.take kk) y = mrg nd e0 (trail n) ps x) ∧ Below w.heap.size w wr) (fun _ _ m _ => (intOf m).toNat)
  case atStart => exact ⟨ps.length, n, x, rfl, rfl, rfl, Nat.le_refl _, Nat.le_refl _, hx0, Lib.hid ⟨by have h1 := HT0.out; have h2 := HN.out; omega, by rw [List.take_length]⟩, below_drawn (Below.refl _ _) _⟩
  case round =>
    obtain ⟨kk, mm, y, rfl, rfl, rfl, hkk, hmm, hy, HM, hb⟩ := hrel
    have k1' : wr.cell? ⟨g, 1, none⟩ = some (.slice ao ps.length c) := (hl.on hb).cell 1
    rcases Nat.mod_two_eq_zero_or_one mm with h0 | h1
    · have hi : ((mm : Int) % 2 == 1) = false := by simp; omega
      have HM2 := Lib.hid (show ps.take kk ++ [y] = mrg nd e0 (trail n) ps x by rw [← HM.out.2, trail_even h0]; rfl)
      have HK := Lib.hid ((HO.out.on hb).cut hkk)
      have hlr := hl.on hb
      have hsz := hb.size
      have hBw : B ≤ w.heap.size := by omega
      have hkl2 : (ps.take kk).length = kk := by rw [List.length_take]; omega
      clear HM hcl
      go_wp2_with ((with_reducible refine wpL_appendS B _ (ps.take kk) kk y wr.heap.size hkl2 (HK.out.on ((Below.refl _ _).alloc (Nat.le_refl _) _)) (Lies.new wr _ _) (by rw [List.length_take]; omega) (by simp; omega) ?_ ?_ ?_); rfl; rfl; intro g6 c6 w6 ho6 hb6 hk6; have hl6 := hk6 g _ _ (by decide) (hlr.alloc _); have hl7 := hl6.put 1 (.slice (some ⟨g6, 0, none⟩) (kk + 1) c6); have q1 := hl6.cell 1; have f1 := hl6.frozen 1; have q2 := hl6.cell 0; have f2 := hl6.frozen 0; have q0 := hl7.cell 0; have f0 := hl7.frozen 0; simp only [growA, List.getElem?_toArray, List.getElem?_cons_succ, List.getElem?_cons_zero, List.setIfInBounds_toArray, List.set_cons_succ, List.set_cons_zero] at q1 q0 q2)
      go_end0
      have hO := ((Only.refl w6 g).put (p := ⟨g, 1, none⟩) (Or.inl rfl) (.slice (some ⟨g6, 0, none⟩) (kk + 1) c6)).put (p := ⟨g, 0, none⟩) (Or.inl rfl) (.int .i64 ((n : Int) + 1))
      refine ⟨rfl, ⟨_, hl7.put 0 (.int .i64 ((n : Int) + 1)), by rw [← HM2.out]; exact ho6.only hl6 (by decide) hO⟩, ?_⟩
      exact (((hb.mono hBw).alloc (by omega) _).trans hb6).grown hO (by have := hb6.size; simp at this; omega) (fun k hk => by cases hk; exact hBg)
    · have hi : ((mm : Int) % 2 == 1) = true := by simp; omega
      have hk1 : 1 ≤ kk := by have := HM.out.1; rw [trail_odd h1] at this; omega
      obtain ⟨j, rfl⟩ : ∃ j, kk = j + 1 := ⟨kk - 1, by omega⟩
      obtain ⟨b, off, rfl, hcell⟩ := hcl (by intro h; subst h; simp at hkk)
      obtain ⟨z, hzk⟩ : ∃ z, ps[j]? = some z := ⟨ps[j]'(by omega), List.getElem?_eq_getElem _⟩
      have hc2 := hcell j z hzk
      replace hc2 := (hb.cell (p := ⟨b, off + j, none⟩) (World.block_lt_of_cell? w _ hc2)).trans hc2
      have hz32 := HX.out z (List.mem_of_getElem? hzk)
      have HN := Lib.hid (node_any z y wr (by omega) (by omega) (HT.out.below hb))
      unfold bytesOf at HN
      unfold str at hc2
      have HM2 : Hid (trail (mm / 2) ≤ j ∧ mrg nd e0 (trail (mm / 2)) (ps.take j) (nd z y) = mrg nd e0 (trail n) ps x) := Lib.hid (by
        have h2 := HM.out
        rw [trail_odd h1] at h2
        exact ⟨by omega, by rw [← mrg_step hzk]; exact h2.2⟩)
      have hj : ((j + 1 : Nat) : Int) - 1 = (j : Int) := by omega
      have hm1 : 1 ≤ mm := by omega
      clear hzk hcell hcl HM h1
      go_wp2_with (go_at_call 13; refine HN.out.mono ?_; rintro e w2 ⟨rfl, hb2⟩)
      go_roundw
      case rel => exact ⟨j, mm / 2, nd z y, rfl, by go_num, by go_num, by omega, by omega, nd_length _ _, HM2, below_on hb hb2⟩
      case measure => simp [intOf]; omega
end Go.Proofs.YtakmlmgffgoecaaDoor.R

