/- Texts that stand on one another, put together: USums, RTree, RBase, RRight, ShelfB, RRoot. -/
import Derived.Test.YtdjglghecekeoaaGreatDoorV4
import Derived.Deep.CutRange
import Derived.Deep.RegionWith
import Derived.Laws.ShiftsVarLaws
import Derived.Laws.StructEq
import Derived.Lib.QuietBelow
import Derived.Shelf.Bits.Mul64
import Derived.Shelf.Small.Bits
import Derived.Shelf.Strconv.Itoa0
import Derived.Shelf.Strings.Builder1
import Derived.Shelf.Strings.BuilderCap
import Derived.Shelf.Strings.BuilderF
import Derived.Shelf.Strings.BuilderK
import Derived.Test.YtdjglghecekeoaaGreatDoorProg
/- What is proved: whatever bytes the statement of sums is called with, it answers true; no condition. -/
namespace Go.Proofs.YtdjglghecekeoaaGreatDoor.U
open Go.RowKit
set_option maxRecDepth 100000

/-- a new sum, of so many words -/
def newA (i : Nat) : Array Value :=
  let f := fun (j x : Nat) => u32 (if j < i then x else 0)
  #[f 0 h0.a, f 1 h0.b, f 2 h0.c, f 3 h0.d, f 4 h0.e, f 5 h0.f, f 6 h0.g, f 7 h0.h, .string noBytes, .int .u64 0]
theorem newA_at (i : Nat) (h : i < 8) : (newA i)[i]? = some (u32 0) := by
  match i, h with
  | 0, _ | 1, _ | 2, _ | 3, _ | 4, _ | 5, _ | 6, _ | 7, _ => rfl
theorem newA_set (i : Nat) (h : i < 8) : (newA i).setIfInBounds i (u32 (h0L.getD i 0)) = newA (i + 1) := by
  match i, h with
  | 0, _ | 1, _ | 2, _ | 3, _ | 4, _ | 5, _ | 6, _ | 7, _ => rfl
theorem newA_end : newA 8 = sumA h0 noBytes 0 := rfl

theorem Row32.far {w : World} {g : Nat} {l : List Nat} (h : Row32 w g l) {p : Addr} (hp : p.block ≠ g) (v : Value) : Row32 (w.setCell p v) g l := fun i hi => by
  rw [World.cell?_setCell_other w p ⟨g, i, none⟩ v (fun e => hp (by rw [e]))]
  exact h i hi

set_option maxRecDepth 100000 in
set_option maxHeartbeats 800000 in
theorem refNew_any (w : World) :
    Calls Tryz.prog 78 #[] w fun e w' => e = .returned (.agg (sumA h0 noBytes 0)) ∧ Below w.heap.size w w' := by
  go_enter Tryz.func78, Tryz.ntmps78
  go_upto_region 2 with fail
  generalize hW : World.alloc (World.alloc w _) _ = w2
  have hz : Lies w2 w.heap.size 109 (sumA h8zero noBytes 0) := by rw [← hW]; exact heap_alloc2_old w _ _
  have hx : Lies w2 (w.heap.size + 1) 109 (newA 0) := by rw [← hW]; exact heap_alloc2_new w _ _
  have hb : Below w.heap.size w w2 := by rw [← hW]; exact ((Below.refl w.heap.size w).alloc (Nat.le_refl _) _).alloc (by simp) _
  clear hW
  go_wp2_with (go_at_call 116; refine (first_any _).mono ?_; rintro e w3 ⟨gf, rfl, hgf, hf, hb3⟩; replace hz := hz.on hb3; replace hgf := Nat.lt_of_lt_of_le (Lies.lt hx) hgf; replace hx := hx.on hb3; replace hb := below_on hb hb3; clear hb3)
  go_loopw [7] (fun ix wr => ∃ k : Nat, k ≤ 8 ∧ ix = .int .i64 k ∧ Lies wr w.heap.size 109 (sumA h8zero noBytes 0) ∧ Lies wr (w.heap.size + 1) 109 (newA k) ∧ Row32 wr gf h0L ∧ Below w.heap.size w wr) (fun ix _ => 8 - (intOf ix).toNat)
  case atStart => exact ⟨0, by omega, rfl, hz, hx, hf, hb⟩
  case round =>
    clear hz hx hf hb
    obtain ⟨k, hk, rfl, hz, hx, hf, hb⟩ := hrel
    by_cases hlk : k < 8
    · have hX := hf k hlk
      have HP := Lib.hid (newA_set k hlk)
      have hc := (hx.cell k).trans (newA_at k hlk)
      have hfz := hx.frozen k
      generalize h0L.getD k 0 = X at hX HP
      have b1 : (k : Int) < 8 := by omega
      go_wp2_with fail
      go_roundw
      case rel => exact ⟨k + 1, by omega, by go_num, hz.far (by simp only; omega) _, by rw [← HP.out]; exact hx.put k _, hf.far (by simp only; omega) _, hb.setCell (p := ⟨w.heap.size + 1, k, none⟩) (by simp only; omega) _⟩
      case measure => simp [intOf]; omega
    · obtain rfl : k = 8 := by omega
      rw [newA_end] at hx
      go_wp2_with (first | ((with_reducible refine wpL_load (w.heap.size + 1) 109 (sumA h0 noBytes 0) 10 row29 rfl hx ?_ ?_); rfl) | ((with_reducible refine wpL_store w.heap.size 109 _ (sumA h0 noBytes 0) 10 row29 rfl rfl (sumA_one _ _ _) hz ?_ ?_ ?_); rfl; rfl))
      exact bodyPost_ret (results_row Tryz.results78 row29 rfl (hz.row _) rfl) rfl ⟨rfl, below_rowSet hb (Nat.le_refl _) _⟩

set_option maxHeartbeats 800000 in
theorem refSum_any (s : ByteArray) (w : World) (hs : s.size ≤ 1000) :
    Calls Tryz.prog 47 #[.string s] w fun e w' => e = .returned (.string (bytesOf (sumT s.data.toList))) ∧ Below w.heap.size w w' := by
  have hz : s.data.toList.length = s.size := (Lib.size_eq s).symm
  have hW := fun w => refWrite_any h0 noBytes s 0 w (by decide) hs (by omega) h0_ok
  rw [show noBytes.data.toList ++ s.data.toList = s.data.toList from rfl, Nat.zero_add] at hW
  have hE := fun w => refEnd_any (feed h0 s.data.toList) (bytesOf (tailB s.data.toList)) s.size w (by unfold rightB; rw [bytes_size, tail_length]; simp; omega) (feed_ok' h0_ok _)
  rw [show (bytesOf (tailB s.data.toList)).data.toList = tailB s.data.toList from rfl, ← hz, end_sum] at hE
  rw [← hz] at hW
  have HW := Lib.hid hW
  have HE := Lib.hid hE
  clear hW hE
  go_enter Tryz.func47, Tryz.ntmps47
  go_wp2_with (first | (go_at_call 78; refine (refNew_any _).mono ?_; rintro e w1 ⟨rfl, hb1⟩) | (go_at_call 77; refine (HW.out _).mono ?_; rintro e w2 ⟨rfl, hb2⟩; replace hb1 := below_on hb1 hb2) | (go_at_call 76; refine (HE.out _).mono ?_; rintro e w3 ⟨rfl, hb3⟩; replace hb1 := below_on hb1 hb3))
  go_ret
  exact ⟨rfl, hb1⟩

end Go.Proofs.YtdjglghecekeoaaGreatDoor.U

/- Trees of sums, as lists: roots, parts, how parts go on. Nothing of the program is named here. -/
namespace Go.Proofs.YtdjglghecekeoaaGreatDoor.R

/-! ### powers of 2 -/
/-- the greatest power of 2 that is no more -/
def top (n : Nat) : Nat := 2 ^ n.log2
/-- the greatest power of 2 that is less -/
def spl (n : Nat) : Nat := 2 ^ (n - 1).log2
theorem top_le {n : Nat} (h : 0 < n) : top n ≤ n := Nat.log2_self_le (by omega)
theorem lt_top (n : Nat) : n < 2 * top n := by
  have h := Nat.lt_log2_self (n := n)
  unfold top
  rw [Nat.pow_succ] at h
  omega
theorem spl_pos (n : Nat) : 0 < spl n := Nat.pow_pos (by decide)
theorem spl_lt {n : Nat} (h : 2 ≤ n) : spl n < n := by
  have h1 := Nat.log2_self_le (n := n - 1) (by omega)
  unfold spl
  omega
theorem le_spl (n : Nat) : n ≤ 2 * spl n := by
  have h1 := Nat.lt_log2_self (n := n - 1)
  unfold spl
  rw [Nat.pow_succ] at h1
  omega
theorem pow_between {a b : Nat} (h1 : 2 ^ a < 2 * 2 ^ b) (h2 : 2 ^ b < 2 * 2 ^ a) : a = b := by
  have e1 : 2 ^ a < 2 ^ (b + 1) := by rw [Nat.pow_succ]; omega
  have e2 : 2 ^ b < 2 ^ (a + 1) := by rw [Nat.pow_succ]; omega
  have k1 := (Nat.pow_lt_pow_iff_right (a := 2) (by decide)).1 e1
  have k2 := (Nat.pow_lt_pow_iff_right (a := 2) (by decide)).1 e2
  omega
theorem top_is {n j : Nat} (h1 : 2 ^ j ≤ n) (h2 : n < 2 * 2 ^ j) : top n = 2 ^ j := by
  have a := top_le (n := n) (by have := Nat.pow_pos (n := j) (show 0 < 2 by decide); omega)
  have b := lt_top n
  unfold top at *
  rw [pow_between (a := n.log2) (b := j) (by omega) (by omega)]
theorem spl_is {n j : Nat} (h1 : 2 ^ j < n) (h2 : n ≤ 2 * 2 ^ j) : spl n = 2 ^ j := by
  have a := spl_lt (n := n) (by have := Nat.pow_pos (n := j) (show 0 < 2 by decide); omega)
  have b := le_spl n
  unfold spl at *
  rw [pow_between (a := (n - 1).log2) (b := j) (by omega) (by omega)]
theorem top_double (n : Nat) (h : 0 < n) : top n = if n = 1 then 1 else 2 * top (n / 2) := by
  by_cases h1 : n = 1
  · subst h1
    rfl
  · rw [if_neg h1]
    have a := top_le (n := n / 2) (by omega)
    have b := lt_top (n / 2)
    have e : 2 * top (n / 2) = 2 ^ ((n / 2).log2 + 1) := by unfold top; rw [Nat.pow_succ]; omega
    rw [e]
    refine top_is ?_ ?_ <;> rw [← e] <;> omega

section
variable {α : Type} (nd : α → α → α) (e : α)

/-! ### roots -/
def rootF : Nat → List α → α
  | 0, _ => e
  | f + 1, l => if l.length = 0 then e else if l.length = 1 then l.headD e else nd (rootF f (l.take (spl l.length))) (rootF f (l.drop (spl l.length)))
theorem rootF_succ (f : Nat) (l : List α) : rootF nd e (f + 1) l = if l.length = 0 then e else if l.length = 1 then l.headD e else nd (rootF nd e f (l.take (spl l.length))) (rootF nd e f (l.drop (spl l.length))) := rfl
def rootL (l : List α) : α := rootF nd e l.length l
theorem rootF_any : ∀ (f g : Nat) (l : List α), l.length ≤ f → l.length ≤ g → rootF nd e f l = rootF nd e g l := by
  intro f
  induction f with
  | zero =>
    intro g l hf _
    have h0 : l.length = 0 := by omega
    cases g with
    | zero => rfl
    | succ g => simp [rootF, h0]
  | succ f ih =>
    intro g l hf hg
    cases g with
    | zero =>
      have h0 : l.length = 0 := by omega
      simp [rootF, h0]
    | succ g =>
      unfold rootF
      by_cases h0 : l.length = 0
      · rw [if_pos h0, if_pos h0]
      · rw [if_neg h0, if_neg h0]
        by_cases h1 : l.length = 1
        · rw [if_pos h1, if_pos h1]
        · rw [if_neg h1, if_neg h1]
          have a := spl_lt (n := l.length) (by omega)
          have b := spl_pos l.length
          rw [ih g (l.take (spl l.length)) (by rw [List.length_take]; omega) (by rw [List.length_take]; omega), ih g (l.drop (spl l.length)) (by rw [List.length_drop]; omega) (by rw [List.length_drop]; omega)]
theorem rootL_nil : rootL nd e [] = e := rfl
theorem rootL_two {l : List α} (h : 2 ≤ l.length) : rootL nd e l = nd (rootL nd e (l.take (spl l.length))) (rootL nd e (l.drop (spl l.length))) := by
  have a := spl_lt h
  have b := spl_pos l.length
  obtain ⟨f, hf⟩ : ∃ f, l.length = f + 1 := ⟨l.length - 1, by omega⟩
  unfold rootL
  conv => lhs; rw [hf]
  rw [rootF_succ, if_neg (by omega), if_neg (by omega), rootF_any nd e f (l.take (spl l.length)).length _ (by rw [List.length_take]; omega) (Nat.le_refl _), rootF_any nd e f (l.drop (spl l.length)).length _ (by rw [List.length_drop]; omega) (Nat.le_refl _)]

/-! ### parts -/
/-! ### one leaf more -/
/-- how many bits from the lowest one on are 1 -/
def trailF : Nat → Nat → Nat
  | 0, _ => 0
  | f + 1, n => if n % 2 = 1 then trailF f (n / 2) + 1 else 0
theorem trailF_succ (f n : Nat) : trailF (f + 1) n = if n % 2 = 1 then trailF f (n / 2) + 1 else 0 := rfl
def trail (n : Nat) : Nat := trailF n n
theorem trailF_any : ∀ (f g n : Nat), n ≤ f → n ≤ g → trailF f n = trailF g n := by
  intro f
  induction f with
  | zero =>
    intro g n hf _
    obtain rfl : n = 0 := by omega
    cases g with
    | zero => rfl
    | succ g => rfl
  | succ f ih =>
    intro g n hf hg
    cases g with
    | zero =>
      obtain rfl : n = 0 := by omega
      rfl
    | succ g =>
      unfold trailF
      by_cases h1 : n % 2 = 1
      · rw [if_pos h1, if_pos h1, ih g (n / 2) (by omega) (by omega)]
      · rw [if_neg h1, if_neg h1]
theorem trail_zero : trail 0 = 0 := rfl
theorem trail_odd {n : Nat} (h : n % 2 = 1) : trail n = trail (n / 2) + 1 := by
  obtain ⟨f, hf⟩ : ∃ f, n = f + 1 := ⟨n - 1, by omega⟩
  unfold trail
  conv => lhs; rw [hf]
  rw [trailF_succ, ← hf, if_pos h, trailF_any f (n / 2) _ (by omega) (Nat.le_refl _)]
theorem trail_even {n : Nat} (h : n % 2 = 0) : trail n = 0 := by
  cases n with
  | zero => rfl
  | succ f =>
    unfold trail trailF
    rw [if_neg (by omega)]
/-- how many bits are 1 -/
def onesF : Nat → Nat → Nat
  | 0, _ => 0
  | f + 1, n => n % 2 + onesF f (n / 2)
def ones (n : Nat) : Nat := onesF n n
theorem onesF_any : ∀ (f g n : Nat), n ≤ f → n ≤ g → onesF f n = onesF g n := by
  intro f
  induction f with
  | zero =>
    intro g n hf _
    obtain rfl : n = 0 := by omega
    induction g with
    | zero => rfl
    | succ g ih => show onesF 0 0 = 0 + onesF g 0; rw [← ih (by omega)]; rfl
  | succ f ih =>
    intro g n hf hg
    cases g with
    | zero =>
      obtain rfl : n = 0 := by omega
      show 0 + onesF f 0 = 0
      rw [ih 0 0 (by omega) (by omega)]
      rfl
    | succ g =>
      unfold onesF
      rw [ih g (n / 2) (by omega) (by omega)]
theorem ones_half (n : Nat) : ones n = n % 2 + ones (n / 2) := by
  cases n with
  | zero => rfl
  | succ f =>
    unfold ones
    conv => lhs; unfold onesF
    rw [onesF_any f ((f + 1) / 2) _ (by omega) (Nat.le_refl _)]
theorem trail_top : ∀ (m n : Nat), n ≤ m → 0 < n → n + 1 ≠ 2 * top n → trail n = trail (n - top n) := by
  intro m
  induction m with
  | zero => intro n h h0; omega
  | succ m ih =>
    intro n h h0 hne
    have e := top_double n h0
    by_cases h1 : n = 1
    · subst h1
      exact absurd (by decide) hne
    · rw [if_neg h1] at e
      have a := top_le (n := n / 2) (by omega)
      rcases Nat.mod_two_eq_zero_or_one n with hz | ho
      · rw [trail_even hz, trail_even (by omega)]
      · have i := ih (n / 2) (by omega) (by omega) (by omega)
        rw [trail_odd ho, trail_odd (n := n - top n) (by omega), i, e, show (n - 2 * top (n / 2)) / 2 = n / 2 - top (n / 2) by omega]
theorem trail_full : ∀ j, trail (2 ^ j - 1) = j ∧ ones (2 ^ j - 1) = j := by
  intro j
  induction j with
  | zero => exact ⟨rfl, rfl⟩
  | succ j ih =>
    have hp := Nat.pow_pos (n := j) (show 0 < 2 by decide)
    have h1 : (2 ^ (j + 1) - 1) % 2 = 1 := by rw [Nat.pow_succ]; omega
    have h2 : (2 ^ (j + 1) - 1) / 2 = 2 ^ j - 1 := by rw [Nat.pow_succ]; omega
    refine ⟨by rw [trail_odd h1, h2, ih.1], ?_⟩
    rw [ones_half, h1, h2, ih.2]
    omega
end

/-! ### how many leaves each part is of -/
end Go.Proofs.YtdjglghecekeoaaGreatDoor.R

/- Sums of leaves and nodes: the contracts of Leaf and Node, the program's and the reference's; rows of texts, cut. -/
namespace Go.Proofs.YtdjglghecekeoaaGreatDoor.R
open Go.RowKit Go.Proofs.YtdjglghecekeoaaGreatDoor.U
set_option maxRecDepth 100000

/-- a leaf's sum -/
def lf (d : List UInt8) : List UInt8 := sumT (0 :: d)
/-- a node's -/
def nd (a b : List UInt8) : List UInt8 := sumT (1 :: (a ++ b))
/-- that of nothing -/
def e0 : List UInt8 := sumT []
theorem lf_length (d : List UInt8) : (lf d).length = 32 := sumT_length _
theorem nd_length (a b : List UInt8) : (nd a b).length = 32 := sumT_length _
theorem e0_length : e0.length = 32 := sumT_length _
attribute [irreducible] lf nd e0
theorem lf_eq (d : List UInt8) : lf d = sumT (0 :: d) := by unfold lf; rfl
theorem nd_eq (a b : List UInt8) : nd a b = sumT (1 :: (a ++ b)) := by unfold nd; rfl
theorem e0_eq : e0 = sumT [] := by unfold e0; rfl
theorem bytesOf_toList (x : List UInt8) : (bytesOf x).data.toList = x := rfl
theorem bytesOf_all (s : ByteArray) : ∃ x, s = bytesOf x := ⟨s.data.toList, (Lib.mk_data s).symm⟩

/-- some texts as a row that was just laid -/
theorem strs_new (w : World) (l : List (List UInt8)) (h : l.length ≤ 1000) : Strs (w.alloc (.cells (l.map str).toArray 9)) (.slice (some ⟨w.heap.size, 0, none⟩) l.length l.length) l := by
  refine ⟨some ⟨w.heap.size, 0, none⟩, l.length, rfl, Nat.le_refl _, by unfold maxLen; omega, (fun h => by cases h), fun _ => ⟨w.heap.size, 0, rfl, fun i y hi => ?_⟩⟩
  rw [World.cell?_alloc_new]
  simp [hi]
theorem sum_new (w : World) (l : List (List UInt8)) (h : l.length ≤ 1000) (hx : l.flatten.length ≤ 281474976710000) (hT : Tab w) :
    Calls Tryz.prog 46 #[.slice (some ⟨w.heap.size, 0, none⟩) l.length l.length] (w.alloc (.cells (l.map str).toArray 9)) fun e w' => e = .returned (.string (bytesOf (sumT l.flatten))) ∧ Below w.heap.size w w' := by
  have hb := (Below.refl w.heap.size w).alloc (Nat.le_refl _) (.cells (l.map str).toArray 9)
  have h := sum_any _ _ l (strs_new w l h) hx (hT.below hb)
  exact h.mono fun e w' ⟨he, hb2⟩ => ⟨he, below_on hb hb2⟩

theorem leaf_any (x : List UInt8) (w : World) (hx : x.length ≤ 281474976700000) (hT : Tab w) :
    Calls Tryz.prog 25 #[.string (bytesOf x)] w fun e w' => e = .returned (.string (bytesOf (lf x))) ∧ Below w.heap.size w w' := by
  have h := sum_new w [[0], x] (by simp) (by simp; omega) hT
  rw [show [[0], x].flatten = 0 :: x by simp, ← lf_eq] at h
  have H := Lib.hid h
  go_enter Tryz.func25, Tryz.ntmps25
  go_wp2_with (go_at_call 46; refine H.out.mono ?_; rintro e w1 ⟨rfl, hb1⟩)
  go_ret
  exact ⟨rfl, hb1⟩
theorem node_any (x y : List UInt8) (w : World) (hx : x.length ≤ 1000000) (hy : y.length ≤ 1000000) (hT : Tab w) :
    Calls Tryz.prog 108 #[.string (bytesOf x), .string (bytesOf y)] w fun e w' => e = .returned (.string (bytesOf (nd x y))) ∧ Below w.heap.size w w' := by
  have h := sum_new w [[1], x, y] (by simp) (by simp; omega) hT
  rw [show [[1], x, y].flatten = 1 :: (x ++ y) by simp, ← nd_eq] at h
  have H := Lib.hid h
  go_enter Tryz.func108, Tryz.ntmps108
  go_wp2_with (go_at_call 46; refine H.out.mono ?_; rintro e w1 ⟨rfl, hb1⟩)
  go_ret
  exact ⟨rfl, hb1⟩
/-- the sum of nothing -/
theorem sum_none (w : World) (hT : Tab w) : Calls Tryz.prog 46 #[.slice none 0 0] w fun e w' => e = .returned (.string (bytesOf e0)) ∧ Below w.heap.size w w' := by
  have h := sum_any w (.slice none 0 0) [] (Strs.nil w) (by simp) hT
  rw [List.flatten_nil, ← e0_eq] at h
  exact h

theorem refNode_any (x y : List UInt8) (w : World) (hx : x.length ≤ 400) (hy : y.length ≤ 400) :
    Calls Tryz.prog 49 #[.string (bytesOf x), .string (bytesOf y)] w fun e w' => e = .returned (.string (bytesOf (nd x y))) ∧ Below w.heap.size w w' := by
  have h := fun w => refSum_any (bytesOf (1 :: (x ++ y))) w (by rw [bytes_size]; simp; omega)
  rw [bytesOf_toList, ← nd_eq] at h
  have H := Lib.hid h
  have hx1 : (bytesOf x).size ≤ 400 := by rw [bytes_size]; exact hx
  have hy1 : (bytesOf y).size ≤ 400 := by rw [bytes_size]; exact hy
  go_enter Tryz.func49, Tryz.ntmps49
  go_wp2_with (go_at_call 47; refine (H.out _).mono ?_; rintro e w1 ⟨rfl, hb1⟩)
  go_ret
  exact ⟨rfl, hb1⟩
/-- the reference's sum of nothing -/
theorem refNone_any (w : World) : Calls Tryz.prog 47 #[.string { data := #[] }] w fun e w' => e = .returned (.string (bytesOf e0)) ∧ Below w.heap.size w w' := by
  have h := refSum_any (bytesOf []) w (by rw [bytes_size]; simp)
  rw [bytesOf_toList, ← e0_eq] at h
  exact h

/-! ### rows, cut -/
theorem strs_part {w : World} {b : Nat} {off n c : Nat} {l : List (List UInt8)} (h : Strs w (.slice (some ⟨b, off, none⟩) n c) l) {i j : Nat} (hi : i ≤ j) (hj : j ≤ l.length) :
    Strs w (.slice (some ⟨b, off + i, none⟩) (j - i) (c - i)) ((l.drop i).take (j - i)) := by
  obtain ⟨a, c', hv, hc, hm, hn, hl⟩ := h
  injection hv with h1 h2 h3
  subst h1 h2 h3
  have hlen : ((l.drop i).take (j - i)).length = j - i := by rw [List.length_take, List.length_drop]; omega
  refine ⟨some ⟨b, off + i, none⟩, c - i, by rw [hlen], by rw [hlen]; omega, by omega, (fun h => by cases h), fun hne => ⟨b, off + i, rfl, fun k x hk => ?_⟩⟩
  have hk2 := (List.getElem?_eq_some_iff.1 hk).1
  rw [hlen] at hk2
  have hk3 : l[i + k]? = some x := by rw [List.getElem?_take, if_pos hk2, List.getElem?_drop] at hk; exact hk
  obtain ⟨b', off', ha, hcell⟩ := hl (by intro h; rw [h] at hk3; simp at hk3)
  injection ha with ha
  injection ha with e1 e2
  subst e1 e2
  rw [Nat.add_assoc]
  exact hcell _ _ hk3
theorem strs_head {w : World} {b : Nat} {off n c : Nat} {l : List (List UInt8)} (h : Strs w (.slice (some ⟨b, off, none⟩) n c) l) {j : Nat} (hj : j ≤ l.length) :
    Strs w (.slice (some ⟨b, off, none⟩) j c) (l.take j) := strs_part h (Nat.zero_le j) hj
theorem strs_tail {w : World} {b : Nat} {off n c : Nat} {l : List (List UInt8)} (h : Strs w (.slice (some ⟨b, off, none⟩) n c) l) {i : Nat} (hi : i ≤ l.length) :
    Strs w (.slice (some ⟨b, off + i, none⟩) (n - i) (c - i)) (l.drop i) := by
  have hn : n = l.length := by obtain ⟨a, c', hv, _⟩ := h; injection hv
  have h1 := strs_part h hi (Nat.le_refl _)
  rw [← hn, List.take_of_length_le (by rw [List.length_drop]; omega)] at h1
  exact h1
end Go.Proofs.YtdjglghecekeoaaGreatDoor.R

/- Which rows of sums may be: the contracts of the program's Right and the reference's; powers of 2: the reference's Split. -/
namespace Go.Proofs.YtdjglghecekeoaaGreatDoor.R
open Go.RowKit Go.Proofs.YtdjglghecekeoaaGreatDoor.U
set_option maxRecDepth 100000

def allB (l : List (List UInt8)) : Bool := l.all (fun x => decide (x.length = 32))
/-- a row of sums may be -/
def rowB (l : List (List UInt8)) : Bool := decide (l.length ≤ 4096) && allB l
theorem allB_mem {l : List (List UInt8)} (h : allB l = true) {x : List UInt8} (hx : x ∈ l) : x.length = 32 := by
  have := List.all_eq_true.1 h x hx
  simpa using this
theorem allB_of {l : List (List UInt8)} (h : ∀ x ∈ l, x.length = 32) : allB l = true := List.all_eq_true.2 (fun x hx => by simpa using h x hx)
theorem allB_bad {l : List (List UInt8)} {k : Nat} {x : List UInt8} (hk : l[k]? = some x) (hx : x.length ≠ 32) : allB l = false := by
  cases h : allB l with
  | false => rfl
  | true => exact absurd (allB_mem h (List.mem_of_getElem? hk)) hx
theorem allB_step {l : List (List UInt8)} {k : Nat} {x : List UInt8} (h : allB (l.take k) = true) (hk : l[k]? = some x) (hx : x.length = 32) : allB (l.take (k + 1)) = true := by
  rw [List.take_add_one, hk]
  unfold allB at *
  rw [List.all_append, h]
  simp [hx]
theorem rowB_of {l : List (List UInt8)} (h : rowB l = true) : l.length ≤ 4096 ∧ ∀ x ∈ l, x.length = 32 := by
  unfold rowB at h
  simp only [Bool.and_eq_true, decide_eq_true_eq] at h
  exact ⟨h.1, fun x hx => allB_mem h.2 hx⟩

set_option maxHeartbeats 800000 in
theorem right_any (w : World) (v : Value) (l : List (List UInt8)) (hl : Strs w v l) (hx : ∀ x ∈ l, x.length ≤ maxLen) :
    Calls Tryz.prog 50 #[v] w fun e w' => e = .returned (.bool (rowB l)) ∧ w = w' := by
  obtain ⟨a, c, rfl, hc, hm, hn, hl⟩ := hl
  unfold maxLen at hm hx
  by_cases h4 : l.length ≤ 4096
  · have hi4 : ¬ (4096 : Int) < (l.length : Int) := by omega
    have HR := Lib.hid (show rowB l = allB l by unfold rowB; simp [h4])
    clear h4
    go_enter Tryz.func50, Tryz.ntmps50
    go_wp2
    go_loop [10] (fun i => ∃ k : Nat, k ≤ l.length ∧ i = .int .i64 k ∧ Hid (allB (l.take k) = true)) (fun i => l.length - (intOf i).toNat)
    case atStart => exact ⟨0, Nat.zero_le _, rfl, rfl⟩
    case round =>
      obtain ⟨k, hk, rfl, HA⟩ := hrel
      by_cases hlt : k < l.length
      · obtain ⟨b, off, rfl, hcell⟩ := hl (by intro h; subst h; simp at hlt)
        obtain ⟨x, hxk⟩ : ∃ x, l[k]? = some x := ⟨l[k], List.getElem?_eq_getElem hlt⟩
        have hc1 := hcell k x hxk
        have hxl := hx x (List.mem_of_getElem? hxk)
        have HX := Lib.hid hxk
        clear hxk hcell
        unfold str at hc1
        by_cases h32 : x.length = 32
        · have hi : ((x.length : Int) != 32) = false := by simp; omega
          have HS := Lib.hid (allB_step HA.out HX.out h32)
          clear h32
          go_wp2
          go_round
          case rel => exact ⟨k + 1, by omega, by go_num, HS⟩
          case measure => simp [intOf]; omega
        · have hi : ((x.length : Int) != 32) = true := by simp; omega
          have HS := Lib.hid (allB_bad HX.out h32)
          clear h32
          go_wp2
          go_ret
          exact ⟨ret1_of (by rw [HR.out, HS.out]; rfl), rfl⟩
      · have HS := Lib.hid (show allB l = true by rw [← HA.out, List.take_of_length_le (by omega)])
        go_wp2
        go_ret
        exact ⟨ret1_of (by rw [HR.out, HS.out]; rfl), rfl⟩
  · have hi4 : (4096 : Int) < (l.length : Int) := by omega
    have HR := Lib.hid (show rowB l = false by unfold rowB; simp [h4])
    clear h4
    go_enter Tryz.func50, Tryz.ntmps50
    go_wp2
    go_ret
    exact ⟨ret1_of (by rw [HR.out]; rfl), rfl⟩

theorem refSplit_any (n : Nat) (w : World) (h2 : 2 ≤ n) (hn : n ≤ 1000000) :
    Calls Tryz.prog 48 #[.int .i64 n] w fun e w' => e = .returned (.int .i64 (spl n)) ∧ w = w' := by
  have HE := Lib.hid (show ∀ j, 2 ^ j < n → ¬ (2 * 2 ^ j < n) → spl n = 2 ^ j from fun j h1 h => spl_is h1 (by omega))
  go_enter Tryz.func48, Tryz.ntmps48
  go_wp2
  go_loop [3] (fun i => ∃ (m : Nat), i = .int .i64 m ∧ m < n ∧ 0 < m ∧ Hid (∃ j, m = 2 ^ j)) (fun i => n - (intOf i).toNat)
  case atStart => exact ⟨1, rfl, by omega, by omega, Lib.hid ⟨0, rfl⟩⟩
  case round =>
    obtain ⟨m, rfl, hm, hm0, HJ⟩ := hrel
    by_cases hlt : 2 * m < n
    · go_wp2
      go_round
      case rel => exact ⟨2 * m, by go_num, by omega, by omega, Lib.hid (by obtain ⟨j, hj⟩ := HJ.out; exact ⟨j + 1, by rw [Nat.pow_succ]; omega⟩)⟩
      case measure => simp [intOf]; omega
    · go_wp2
      go_ret
      exact ⟨ret1_of (val_int (by obtain ⟨j, hj⟩ := HJ.out; rw [HE.out j (by omega) (by omega), hj])), rfl⟩
end Go.Proofs.YtdjglghecekeoaaGreatDoor.R

/- The library's own contracts laid at this program: one application each. -/
namespace Go.Proofs
open Go.Shelf
def Tryz.lays125_ren : Go.Shelf.Ren := ⟨fun | 125 => 164 | 128 => 165 | 129 => 166 | n => n, fun | 46 => 84 | 3 => 3 | 51 => 106 | 53 => 54 | 4 => 4 | 5 => 5 | 9 => 9 | n => n, fun | n => n⟩
theorem Tryz.lays125 : Go.Proofs.Lays.n125 Tryz.prog Tryz.lays125_ren := {
  mixed := by kernel_rfl
  f125 := Tryz.func164.trans (congrArg some (by kernel_rfl))
  f128 := Tryz.func165.trans (congrArg some (by kernel_rfl))
  f129 := Tryz.func166.trans (congrArg some (by kernel_rfl))
  t3 := Tryz.underlying3
  a3 := Tryz.isAgg3
  z3 := Tryz.sizeOf3
  v3 := Tryz.zeroValue3
  t4 := Tryz.underlying4
  a4 := Tryz.isAgg4
  z4 := Tryz.sizeOf4
  v4 := Tryz.zeroValue4
  t5 := Tryz.underlying5
  a5 := Tryz.isAgg5
  z5 := Tryz.sizeOf5
  v5 := Tryz.zeroValue5
  t9 := Tryz.underlying9
  a9 := Tryz.isAgg9
  z9 := Tryz.sizeOf9
  v9 := Tryz.zeroValue9
  t46 := Tryz.underlying84
  a46 := Tryz.isAgg84
  z46 := Tryz.sizeOf84
  v46 := Tryz.zeroValue84
  t51 := Tryz.underlying106
  a51 := Tryz.isAgg106
  z51 := Tryz.sizeOf106
  v51 := Tryz.zeroValue106
  t53 := Tryz.underlying54
  a53 := Tryz.isAgg54
  z53 := Tryz.sizeOf54
  v53 := Tryz.zeroValue54 }
theorem Tryz.bits_Len (x : Int) (w : World) (h0 : 0 ≤ x) (h1 : x ≤ 18446744073709551615) :
    Calls Tryz.prog 164 #[.int .u64 x] w fun e w' => e = .returned (.int .i64 (Lib.bitLen x.toNat)) ∧ w' = w := Any.bits_Len Tryz.lays125 x w h0 h1
end Go.Proofs

/- A row's root: the contracts of the program's leftOf, rootOf and Root, and of the reference's Root. -/
namespace Go.Proofs.YtdjglghecekeoaaGreatDoor.R
open Go.RowKit Go.Sort Go.Proofs.YtdjglghecekeoaaGreatDoor.U
set_option maxRecDepth 100000

theorem len_aux : ∀ (f x : Nat), x < 2 ^ f → x ≠ 0 → Lib.bitLenAux f x = x.log2 + 1 := by
  intro f
  induction f with
  | zero => intro x h h0; simp at h; omega
  | succ f ih =>
    intro x h h0
    rw [Nat.pow_succ] at h
    unfold Lib.bitLenAux
    rw [if_neg h0, Nat.log2_def]
    by_cases h2 : x / 2 = 0
    · rw [if_neg (by omega), h2]
      cases f <;> simp [Lib.bitLenAux]
    · rw [if_pos (by omega), ih _ (by omega) h2]
      omega
theorem len_all (n : Nat) (h0 : n ≠ 0) (h : n < 4096) : Lib.bitLen n = n.log2 + 1 := len_aux 64 n (by omega) h0
theorem spl_log {n : Nat} : spl n = 2 ^ (n - 1).log2 := rfl
theorem wrap_small (q : Nat) (h : q ≤ 2048) : wrap64 (q : Int) = (q : Int) := by unfold wrap64; omega
theorem pow_small (j : Nat) (h : j < 12) : 2 ^ j ≤ 2048 := Nat.pow_le_pow_right (by decide) (show j ≤ 11 by omega)

theorem leftOf_any (n : Nat) (w : World) (h2 : 2 ≤ n) (hn : n ≤ 4096) :
    Calls Tryz.prog 156 #[.int .i64 n] w fun e w' => e = .returned (.int .i64 (spl n)) ∧ w = w' := by
  have H := Lib.hid (Tryz.bits_Len ((n : Int) - 1) w (by omega) (by omega))
  rw [show ((n : Int) - 1).toNat = n - 1 by omega, len_all (n - 1) (by omega) (by omega)] at H
  rw [spl_log]
  have hj : (n - 1).log2 < 12 := (Nat.log2_lt (by omega)).2 (by omega)
  generalize (n - 1).log2 = j at *
  have hp := pow_small j hj
  go_enter Tryz.func156, Tryz.ntmps156
  go_wp2_with (go_at_call 164; refine H.out.mono ?_; rintro e w1 ⟨rfl, rfl⟩)
  go_ret
  exact ⟨ret1_of (val_int (by
    rw [show ((2 : Int) ^ j) = ((2 ^ j : Nat) : Int) by rw [Int.natCast_pow]; rfl]
    exact wrap_small _ hp)), rfl⟩

theorem reg {f : FuncId} {args : Array Value} {W : World} {v : Value} (h : ∀ w, Below W.heap.size W w → Calls Tryz.prog f args w fun e w' => e = .returned v ∧ Below w.heap.size w w') :
    ∀ d os, Calls Tryz.prog f args (grow (redrawn W d) os) fun e w'' => e = .returned v ∧ ∃ p : Regrown, w'' = grow (redrawn W p.d) p.os := fun d os => Calls.regrown_of (h _ (below_regrown W d os))
/-- a row's root -/
abbrev rt (l : List (List UInt8)) : List UInt8 := rootL nd e0 l
theorem rt_length (l : List (List UInt8)) (h : ∀ x ∈ l, x.length = 32) : (rt l).length = 32 := by
  match l, h with
  | [], _ => exact e0_length
  | [x], h => exact h x (List.mem_singleton_self x)
  | x :: y :: r, _ =>
    unfold rt
    rw [rootL_two nd e0 (by simp)]
    exact nd_length _ _

set_option maxHeartbeats 1600000 in
theorem rootOf_small : ∀ (m : Nat) (l : List (List UInt8)) (w : World) (v : Value), l.length ≤ m → l.length ≤ 4096 → (∀ x ∈ l, x.length = 32) → Strs w v l → Tab w →
    Calls Tryz.prog 138 #[v] w fun e w' => e = .returned (.string (bytesOf (rt l))) ∧ Below w.heap.size w w' := by
  intro m
  induction m with
  | zero =>
    intro l w v h _ _ hl hT
    obtain rfl : l = [] := List.eq_nil_of_length_eq_zero (by omega)
    obtain ⟨a, c, rfl, hc, hm, hn, hl⟩ := hl
    have H := Lib.hid (sum_none w hT)
    go_enter Tryz.func138, Tryz.ntmps138
    go_wp2_with (go_at_call 46; refine H.out.mono ?_; rintro e w1 ⟨rfl, hb1⟩)
    go_ret
    exact ⟨rfl, hb1⟩
  | succ m ih =>
    intro l w v h h4 hx hl hT
    by_cases h0 : l.length = 0
    · exact ih l w v (by omega) h4 hx hl hT
    · have hs := hl
      obtain ⟨a, c, rfl, hc, hm, hn, hl⟩ := hl
      unfold maxLen at hm
      obtain ⟨b, off, rfl, hcell⟩ := hl (by intro h; subst h; exact h0 rfl)
      clear hl hn
      by_cases h1 : l.length = 1
      · obtain ⟨x, rfl⟩ := List.length_eq_one_iff.1 h1
        have hc1 := hcell 0 x rfl
        rw [Nat.add_zero] at hc1
        unfold str at hc1
        clear hcell hs
        go_enter Tryz.func138, Tryz.ntmps138
        go_wp2
        go_ret
        exact ⟨rfl, Below.refl _ _⟩
      · have hk1 := spl_lt (n := l.length) (by omega)
        have hk2 := spl_pos l.length
        have HR := Lib.hid (rootL_two nd e0 (l := l) (by omega))
        obtain ⟨k, hk⟩ : ∃ k, spl l.length = k := ⟨_, rfl⟩
        have HL := Lib.hid (leftOf_any l.length · (by omega) h4)
        rw [hk] at HL hk1 hk2 HR
        have hx1 : ∀ x ∈ l.take k, x.length = 32 := fun x hx' => hx x (List.mem_of_mem_take hx')
        have hx2 : ∀ x ∈ l.drop k, x.length = 32 := fun x hx' => hx x (List.mem_of_mem_drop hx')
        have HA := Lib.hid (fun W (hw : Below w.heap.size w W) => ih (l.take k) W _ (by rw [List.length_take]; omega) (by rw [List.length_take]; omega) hx1 ((strs_head hs (j := k) (by omega)).below hw) (hT.below hw))
        have HB := Lib.hid (fun W (hw : Below w.heap.size w W) => ih (l.drop k) W _ (by rw [List.length_drop]; omega) (by rw [List.length_drop]; omega) hx2 ((strs_tail hs (i := k) (by omega)).below hw) (hT.below hw))
        have HN := Lib.hid (fun W (hw : Below w.heap.size w W) => node_any (rt (l.take k)) (rt (l.drop k)) W (by rw [rt_length _ hx1]; decide) (by rw [rt_length _ hx2]; decide) (hT.below hw))
        clear hk hcell hx1 hx2 hs ih
        have c1 := Lib.hid (reg HA.out)
        have c2 := Lib.hid (reg HB.out)
        have c3 := Lib.hid (reg HN.out)
        clear HA HB HN
        have hi0 : ¬ (l.length : Int) = 0 := by omega
        have hi1 : ¬ (l.length : Int) = 1 := by omega
        go_enter Tryz.func138, Tryz.ntmps138
        go_upto_region 7 with (go_at_call 156; refine (HL.out _).mono ?_; rintro e w1 ⟨rfl, rfl⟩)
        refine wp_region_quiet_below (by kernel_rfl) (by kernel_rfl) ?_
        repeat (go_big_quiet_step (first | with_reducible exact c1.out _ _ | with_reducible exact c2.out _ _ | with_reducible exact c3.out _ _))
        refine wpQuiet_nil ?_
        intro w9 hw'
        obtain ⟨⟨dq, osq⟩, rfl⟩ := hw'
        go_wp2
        go_ret
        exact ⟨ret1_of (by rw [show rt l = _ from HR.out]; rfl), below_regrown w dq osq⟩
set_option maxHeartbeats 1600000 in
theorem refRoot_small : ∀ (m : Nat) (l : List (List UInt8)) (w : World) (v : Value), l.length ≤ m → l.length ≤ 4096 → (∀ x ∈ l, x.length = 32) → Strs w v l →
    Calls Tryz.prog 26 #[v] w fun e w' => e = .returned (.string (bytesOf (rt l))) ∧ Below w.heap.size w w' := by
  intro m
  induction m with
  | zero =>
    intro l w v h _ _ hl
    obtain rfl : l = [] := List.eq_nil_of_length_eq_zero (by omega)
    obtain ⟨a, c, rfl, hc, hm, hn, hl⟩ := hl
    have H := Lib.hid (refNone_any w)
    go_enter Tryz.func26, Tryz.ntmps26
    go_wp2_with (go_at_call 47; refine H.out.mono ?_; rintro e w1 ⟨rfl, hb1⟩)
    go_ret
    exact ⟨rfl, hb1⟩
  | succ m ih =>
    intro l w v h h4 hx hl
    by_cases h0 : l.length = 0
    · exact ih l w v (by omega) h4 hx hl
    · have hs := hl
      obtain ⟨a, c, rfl, hc, hm, hn, hl⟩ := hl
      unfold maxLen at hm
      obtain ⟨b, off, rfl, hcell⟩ := hl (by intro h; subst h; exact h0 rfl)
      clear hl hn
      by_cases h1 : l.length = 1
      · obtain ⟨x, rfl⟩ := List.length_eq_one_iff.1 h1
        have hc1 := hcell 0 x rfl
        rw [Nat.add_zero] at hc1
        unfold str at hc1
        clear hcell hs
        go_enter Tryz.func26, Tryz.ntmps26
        go_wp2
        go_ret
        exact ⟨rfl, Below.refl _ _⟩
      · have hk1 := spl_lt (n := l.length) (by omega)
        have hk2 := spl_pos l.length
        have HR := Lib.hid (rootL_two nd e0 (l := l) (by omega))
        obtain ⟨k, hk⟩ : ∃ k, spl l.length = k := ⟨_, rfl⟩
        have HL := Lib.hid (refSplit_any l.length · (by omega) (by omega))
        rw [hk] at HL hk1 hk2 HR
        have hx1 : ∀ x ∈ l.take k, x.length = 32 := fun x hx' => hx x (List.mem_of_mem_take hx')
        have hx2 : ∀ x ∈ l.drop k, x.length = 32 := fun x hx' => hx x (List.mem_of_mem_drop hx')
        have HA := Lib.hid (fun W (hw : Below w.heap.size w W) => ih (l.take k) W _ (by rw [List.length_take]; omega) (by rw [List.length_take]; omega) hx1 ((strs_head hs (j := k) (by omega)).below hw))
        have HB := Lib.hid (fun W (hw : Below w.heap.size w W) => ih (l.drop k) W _ (by rw [List.length_drop]; omega) (by rw [List.length_drop]; omega) hx2 ((strs_tail hs (i := k) (by omega)).below hw))
        have HN := Lib.hid (fun W (_ : Below w.heap.size w W) => refNode_any (rt (l.take k)) (rt (l.drop k)) W (by rw [rt_length _ hx1]; decide) (by rw [rt_length _ hx2]; decide))
        clear hk hcell hx1 hx2 hs ih
        have c1 := Lib.hid (reg HA.out)
        have c2 := Lib.hid (reg HB.out)
        have c3 := Lib.hid (reg HN.out)
        clear HA HB HN
        have hi0 : ¬ (l.length : Int) = 0 := by omega
        have hi1 : ¬ (l.length : Int) = 1 := by omega
        go_enter Tryz.func26, Tryz.ntmps26
        go_upto_region 6 with (go_at_call 48; refine (HL.out _).mono ?_; rintro e w1 ⟨rfl, rfl⟩)
        refine wp_region_quiet_below (by kernel_rfl) (by kernel_rfl) ?_
        repeat (go_big_quiet_step (first | with_reducible exact c1.out _ _ | with_reducible exact c2.out _ _ | with_reducible exact c3.out _ _))
        refine wpQuiet_nil ?_
        intro w9 hw'
        obtain ⟨⟨dq, osq⟩, rfl⟩ := hw'
        go_wp2
        go_ret
        exact ⟨ret1_of (by rw [show rt l = _ from HR.out]; rfl), below_regrown w dq osq⟩

theorem rootOf_any (l : List (List UInt8)) (w : World) (v : Value) (hr : rowB l = true) (hl : Strs w v l) (hT : Tab w) :
    Calls Tryz.prog 138 #[v] w fun e w' => e = .returned (.string (bytesOf (rt l))) ∧ Below w.heap.size w w' :=
  rootOf_small l.length l w v (Nat.le_refl _) (rowB_of hr).1 (rowB_of hr).2 hl hT
theorem refRoot_any (l : List (List UInt8)) (w : World) (v : Value) (hr : rowB l = true) (hl : Strs w v l) :
    Calls Tryz.prog 26 #[v] w fun e w' => e = .returned (.string (bytesOf (rt l))) ∧ Below w.heap.size w w' :=
  refRoot_small l.length l w v (Nat.le_refl _) (rowB_of hr).1 (rowB_of hr).2 hl

/-- what Root hands back -/
def rootA (l : List (List UInt8)) : Array Value := if rowB l = true then #[.string (bytesOf (rt l)), .int .i64 0] else #[.string { data := #[] }, .int .i64 1]
theorem root_any (l : List (List UInt8)) (w : World) (v : Value) (hx : ∀ x ∈ l, x.length ≤ maxLen) (hl : Strs w v l) (hT : Tab w) :
    Calls Tryz.prog 107 #[v] w fun e w' => e = .returned (.tuple (rootA l)) ∧ Below w.heap.size w w' := by
  have HR := Lib.hid (right_any w v l hl hx)
  cases hr : rowB l with
  | true =>
    have HO := Lib.hid (rootOf_any l w v hr hl hT)
    have HA := Lib.hid (show rootA l = #[.string (bytesOf (rt l)), .int .i64 0] by unfold rootA; rw [if_pos hr])
    rw [hr] at HR
    clear hr hl
    go_enter Tryz.func107, Tryz.ntmps107
    go_wp2_with (first | (go_at_call 50; refine HR.out.mono ?_; rintro e w1 ⟨rfl, rfl⟩) | (go_at_call 138; refine HO.out.mono ?_; rintro e w1 ⟨rfl, hb⟩))
    go_ret2
    exact ⟨by rw [HA.out]; rfl, hb⟩
  | false =>
    have HA := Lib.hid (show rootA l = #[.string { data := #[] }, .int .i64 1] by unfold rootA; rw [hr]; rfl)
    rw [hr] at HR
    clear hr hl
    go_enter Tryz.func107, Tryz.ntmps107
    go_wp2_with (go_at_call 50; refine HR.out.mono ?_; rintro e w1 ⟨rfl, rfl⟩)
    go_ret2
    exact ⟨by rw [HA.out]; rfl, Below.refl _ _⟩
end Go.Proofs.YtdjglghecekeoaaGreatDoor.R

