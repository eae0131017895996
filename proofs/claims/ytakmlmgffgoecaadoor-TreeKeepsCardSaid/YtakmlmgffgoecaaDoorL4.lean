/- Texts that stand on one another, put together: USums, RTree, RBase, RRight. -/
import Derived.Test.YtakmlmgffgoecaaDoorL3
import Derived.Deep.CutRange
import Derived.Deep.RegionWith
import Derived.Laws.StructEq
/- What is proved: whatever bytes the statement of sums is called with, it answers true; no condition. -/
namespace Go.Proofs.YtakmlmgffgoecaaDoor.U
open Go.RowKit
set_option maxRecDepth 100000

/-- a new sum, of so many words -/
def newA (i : Nat) : Array Value :=
  let f := fun (j x : Nat) => u32 (if j < i then x else 0)
  #[f 0 h0.a, f 1 h0.b, f 2 h0.c, f 3 h0.d, f 4 h0.e, f 5 h0.f, f 6 h0.g, f 7 h0.h, .string noBytes, .int .u64 0]
theorem newA_at (i : Nat) (h : i < 8) : (newA i)[i]? = some (u32 0) := by
  match i, h with
  | 0, _ | 1, _ | 2, _ | 3, _ | 4, _ | 5, _ | 6, _ | 7, _ => rfl
theorem newA_set (i : Nat) (h : i < 8) : (newA i).setIfInBounds i (u32 (h0L.getD i 0)) = newA (i + 1) := by
  match i, h with
  | 0, _ | 1, _ | 2, _ | 3, _ | 4, _ | 5, _ | 6, _ | 7, _ => rfl
theorem newA_end : newA 8 = sumA h0 noBytes 0 := rfl

theorem Row32.far {w : World} {g : Nat} {l : List Nat} (h : Row32 w g l) {p : Addr} (hp : p.block ≠ g) (v : Value) : Row32 (w.setCell p v) g l := fun i hi => by
  rw [World.cell?_setCell_other w p ⟨g, i, none⟩ v (fun e => hp (by rw [e]))]
  exact h i hi

set_option maxRecDepth 100000 in
set_option maxHeartbeats 800000 in
theorem refNew_any (w : World) :
    Calls Tryd.prog 42 #[] w fun e w' => e = .returned (.agg (sumA h0 noBytes 0)) ∧ Below w.heap.size w w' := by
  go_enter Tryd.func42, Tryd.ntmps42
  go_upto_region 2 with fail
  generalize hW : World.alloc (World.alloc w _) _ = w2
  have hz : Lies w2 w.heap.size 62 (sumA h8zero noBytes 0) := by rw [← hW]; exact heap_alloc2_old w _ _
  have hx : Lies w2 (w.heap.size + 1) 62 (newA 0) := by rw [← hW]; exact heap_alloc2_new w _ _
  have hb : Below w.heap.size w w2 := by rw [← hW]; exact ((Below.refl w.heap.size w).alloc (Nat.le_refl _) _).alloc (by simp) _
  clear hW
  go_wp2_with (go_at_call 51; refine (first_any _).mono ?_; rintro e w3 ⟨gf, rfl, hgf, hf, hb3⟩; replace hz := hz.on hb3; replace hgf := Nat.lt_of_lt_of_le (Lies.lt hx) hgf; replace hx := hx.on hb3; replace hb := below_on hb hb3; clear hb3)
  go_loopw [7] (fun ix wr => ∃ k : Nat, k ≤ 8 ∧ ix = .int .i64 k ∧ Lies wr w.heap.size 62 (sumA h8zero noBytes 0) ∧ Lies wr (w.heap.size + 1) 62 (newA k) ∧ Row32 wr gf h0L ∧ Below w.heap.size w wr) (fun ix _ => 8 - (intOf ix).toNat)
  case atStart => exact ⟨0, by omega, rfl, hz, hx, hf, hb⟩
  case round =>
    clear hz hx hf hb
    obtain ⟨k, hk, rfl, hz, hx, hf, hb⟩ := hrel
    by_cases hlk : k < 8
    · have hX := hf k hlk
      have HP := Lib.hid (newA_set k hlk)
      have hc := (hx.cell k).trans (newA_at k hlk)
      have hfz := hx.frozen k
      generalize h0L.getD k 0 = X at hX HP
      have b1 : (k : Int) < 8 := by omega
      go_wp2_with fail
      go_roundw
      case rel => exact ⟨k + 1, by omega, by go_num, hz.far (by simp only; omega) _, by rw [← HP.out]; exact hx.put k _, hf.far (by simp only; omega) _, hb.setCell (p := ⟨w.heap.size + 1, k, none⟩) (by simp only; omega) _⟩
      case measure => simp [intOf]; omega
    · obtain rfl : k = 8 := by omega
      rw [newA_end] at hx
      go_wp2_with (first | ((with_reducible refine wpL_load (w.heap.size + 1) 62 (sumA h0 noBytes 0) 10 row29 rfl hx ?_ ?_); rfl) | ((with_reducible refine wpL_store w.heap.size 62 _ (sumA h0 noBytes 0) 10 row29 rfl rfl (sumA_one _ _ _) hz ?_ ?_ ?_); rfl; rfl))
      exact bodyPost_ret (results_row Tryd.results42 row29 rfl (hz.row _) rfl) rfl ⟨rfl, below_rowSet hb (Nat.le_refl _) _⟩

set_option maxHeartbeats 800000 in
theorem refSum_any (s : ByteArray) (w : World) (hs : s.size ≤ 1000) :
    Calls Tryd.prog 29 #[.string s] w fun e w' => e = .returned (.string (bytesOf (sumT s.data.toList))) ∧ Below w.heap.size w w' := by
  have hz : s.data.toList.length = s.size := (Lib.size_eq s).symm
  have hW := fun w => refWrite_any h0 noBytes s 0 w (by decide) hs (by omega) h0_ok
  rw [show noBytes.data.toList ++ s.data.toList = s.data.toList from rfl, Nat.zero_add] at hW
  have hE := fun w => refEnd_any (feed h0 s.data.toList) (bytesOf (tailB s.data.toList)) s.size w (by unfold rightB; rw [bytes_size, tail_length]; simp; omega) (feed_ok' h0_ok _)
  rw [show (bytesOf (tailB s.data.toList)).data.toList = tailB s.data.toList from rfl, ← hz, end_sum] at hE
  rw [← hz] at hW
  have HW := Lib.hid hW
  have HE := Lib.hid hE
  clear hW hE
  go_enter Tryd.func29, Tryd.ntmps29
  go_wp2_with (first | (go_at_call 42; refine (refNew_any _).mono ?_; rintro e w1 ⟨rfl, hb1⟩) | (go_at_call 41; refine (HW.out _).mono ?_; rintro e w2 ⟨rfl, hb2⟩; replace hb1 := below_on hb1 hb2) | (go_at_call 40; refine (HE.out _).mono ?_; rintro e w3 ⟨rfl, hb3⟩; replace hb1 := below_on hb1 hb3))
  go_ret
  exact ⟨rfl, hb1⟩

end Go.Proofs.YtakmlmgffgoecaaDoor.U

/- Trees of sums, as lists: roots, parts, how parts go on. Nothing of the program is named here. -/
namespace Go.Proofs.YtakmlmgffgoecaaDoor.R

/-! ### powers of 2 -/
/-- the greatest power of 2 that is no more -/
def top (n : Nat) : Nat := 2 ^ n.log2
/-- the greatest power of 2 that is less -/
def spl (n : Nat) : Nat := 2 ^ (n - 1).log2
theorem top_le {n : Nat} (h : 0 < n) : top n ≤ n := Nat.log2_self_le (by omega)
theorem lt_top (n : Nat) : n < 2 * top n := by
  have h := Nat.lt_log2_self (n := n)
  unfold top
  rw [Nat.pow_succ] at h
  omega
theorem top_pos (n : Nat) : 0 < top n := Nat.pow_pos (by decide)
theorem spl_pos (n : Nat) : 0 < spl n := Nat.pow_pos (by decide)
theorem spl_lt {n : Nat} (h : 2 ≤ n) : spl n < n := by
  have h1 := Nat.log2_self_le (n := n - 1) (by omega)
  unfold spl
  omega
theorem le_spl (n : Nat) : n ≤ 2 * spl n := by
  have h1 := Nat.lt_log2_self (n := n - 1)
  unfold spl
  rw [Nat.pow_succ] at h1
  omega
theorem pow_between {a b : Nat} (h1 : 2 ^ a < 2 * 2 ^ b) (h2 : 2 ^ b < 2 * 2 ^ a) : a = b := by
  have e1 : 2 ^ a < 2 ^ (b + 1) := by rw [Nat.pow_succ]; omega
  have e2 : 2 ^ b < 2 ^ (a + 1) := by rw [Nat.pow_succ]; omega
  have k1 := (Nat.pow_lt_pow_iff_right (a := 2) (by decide)).1 e1
  have k2 := (Nat.pow_lt_pow_iff_right (a := 2) (by decide)).1 e2
  omega
theorem top_is {n j : Nat} (h1 : 2 ^ j ≤ n) (h2 : n < 2 * 2 ^ j) : top n = 2 ^ j := by
  have a := top_le (n := n) (by have := Nat.pow_pos (n := j) (show 0 < 2 by decide); omega)
  have b := lt_top n
  unfold top at *
  rw [pow_between (a := n.log2) (b := j) (by omega) (by omega)]
theorem spl_is {n j : Nat} (h1 : 2 ^ j < n) (h2 : n ≤ 2 * 2 ^ j) : spl n = 2 ^ j := by
  have a := spl_lt (n := n) (by have := Nat.pow_pos (n := j) (show 0 < 2 by decide); omega)
  have b := le_spl n
  unfold spl at *
  rw [pow_between (a := (n - 1).log2) (b := j) (by omega) (by omega)]
theorem top_pow (j : Nat) : top (2 ^ j) = 2 ^ j := top_is (Nat.le_refl _) (by have := Nat.pow_pos (n := j) (show 0 < 2 by decide); omega)
theorem spl_top {n : Nat} (h : top n < n) : spl n = top n := spl_is (j := n.log2) h (Nat.le_of_lt (lt_top n))
theorem top_double (n : Nat) (h : 0 < n) : top n = if n = 1 then 1 else 2 * top (n / 2) := by
  by_cases h1 : n = 1
  · subst h1
    rfl
  · rw [if_neg h1]
    have a := top_le (n := n / 2) (by omega)
    have b := lt_top (n / 2)
    have e : 2 * top (n / 2) = 2 ^ ((n / 2).log2 + 1) := by unfold top; rw [Nat.pow_succ]; omega
    rw [e]
    refine top_is ?_ ?_ <;> rw [← e] <;> omega

section
variable {α : Type} (nd : α → α → α) (e : α)

/-! ### roots -/
def rootF : Nat → List α → α
  | 0, _ => e
  | f + 1, l => if l.length = 0 then e else if l.length = 1 then l.headD e else nd (rootF f (l.take (spl l.length))) (rootF f (l.drop (spl l.length)))
theorem rootF_succ (f : Nat) (l : List α) : rootF nd e (f + 1) l = if l.length = 0 then e else if l.length = 1 then l.headD e else nd (rootF nd e f (l.take (spl l.length))) (rootF nd e f (l.drop (spl l.length))) := rfl
def rootL (l : List α) : α := rootF nd e l.length l
theorem rootF_any : ∀ (f g : Nat) (l : List α), l.length ≤ f → l.length ≤ g → rootF nd e f l = rootF nd e g l := by
  intro f
  induction f with
  | zero =>
    intro g l hf _
    have h0 : l.length = 0 := by omega
    cases g with
    | zero => rfl
    | succ g => simp [rootF, h0]
  | succ f ih =>
    intro g l hf hg
    cases g with
    | zero =>
      have h0 : l.length = 0 := by omega
      simp [rootF, h0]
    | succ g =>
      unfold rootF
      by_cases h0 : l.length = 0
      · rw [if_pos h0, if_pos h0]
      · rw [if_neg h0, if_neg h0]
        by_cases h1 : l.length = 1
        · rw [if_pos h1, if_pos h1]
        · rw [if_neg h1, if_neg h1]
          have a := spl_lt (n := l.length) (by omega)
          have b := spl_pos l.length
          rw [ih g (l.take (spl l.length)) (by rw [List.length_take]; omega) (by rw [List.length_take]; omega), ih g (l.drop (spl l.length)) (by rw [List.length_drop]; omega) (by rw [List.length_drop]; omega)]
theorem rootL_two {l : List α} (h : 2 ≤ l.length) : rootL nd e l = nd (rootL nd e (l.take (spl l.length))) (rootL nd e (l.drop (spl l.length))) := by
  have a := spl_lt h
  have b := spl_pos l.length
  obtain ⟨f, hf⟩ : ∃ f, l.length = f + 1 := ⟨l.length - 1, by omega⟩
  unfold rootL
  conv => lhs; rw [hf]
  rw [rootF_succ, if_neg (by omega), if_neg (by omega), rootF_any nd e f (l.take (spl l.length)).length _ (by rw [List.length_take]; omega) (Nat.le_refl _), rootF_any nd e f (l.drop (spl l.length)).length _ (by rw [List.length_drop]; omega) (Nat.le_refl _)]

/-! ### parts -/
def partsF : Nat → List α → List α
  | 0, _ => []
  | f + 1, l => if l.length = 0 then [] else rootL nd e (l.take (top l.length)) :: partsF f (l.drop (top l.length))
theorem partsF_succ (f : Nat) (l : List α) : partsF nd e (f + 1) l = if l.length = 0 then [] else rootL nd e (l.take (top l.length)) :: partsF nd e f (l.drop (top l.length)) := rfl
def partsL (l : List α) : List α := partsF nd e l.length l
theorem partsF_any : ∀ (f g : Nat) (l : List α), l.length ≤ f → l.length ≤ g → partsF nd e f l = partsF nd e g l := by
  intro f
  induction f with
  | zero =>
    intro g l hf _
    have h0 : l.length = 0 := by omega
    cases g with
    | zero => rfl
    | succ g => simp [partsF, h0]
  | succ f ih =>
    intro g l hf hg
    cases g with
    | zero =>
      have h0 : l.length = 0 := by omega
      simp [partsF, h0]
    | succ g =>
      unfold partsF
      by_cases h0 : l.length = 0
      · rw [if_pos h0, if_pos h0]
      · rw [if_neg h0, if_neg h0]
        have b := top_pos l.length
        rw [ih g (l.drop (top l.length)) (by rw [List.length_drop]; omega) (by rw [List.length_drop]; omega)]
theorem partsL_nil : partsL nd e [] = [] := rfl
theorem partsL_cons {l : List α} (h : 0 < l.length) : partsL nd e l = rootL nd e (l.take (top l.length)) :: partsL nd e (l.drop (top l.length)) := by
  have b := top_pos l.length
  obtain ⟨f, hf⟩ : ∃ f, l.length = f + 1 := ⟨l.length - 1, by omega⟩
  unfold partsL
  conv => lhs; rw [hf]
  rw [partsF_succ, if_neg (by omega), partsF_any nd e f (l.drop (top l.length)).length _ (by rw [List.length_drop]; omega) (Nat.le_refl _)]
theorem partsL_ne {l : List α} (h : 0 < l.length) : partsL nd e l ≠ [] := by
  rw [partsL_cons nd e h]
  exact List.cons_ne_nil _ _
theorem partsL_pow {l : List α} {j : Nat} (h : l.length = 2 ^ j) : partsL nd e l = [rootL nd e l] := by
  have hp := Nat.pow_pos (n := j) (show 0 < 2 by decide)
  rw [partsL_cons nd e (by omega), h, top_pow, ← h, List.take_length, List.drop_length, partsL_nil]

/-- the last part, with each part ahead of it, from the last one on, made one -/
def sumP : List α → α
  | [] => e
  | [p] => p
  | p :: q :: ps => nd p (sumP (q :: ps))
theorem sumP_cons {p : α} {ps : List α} (h : ps ≠ []) : sumP nd e (p :: ps) = nd p (sumP nd e ps) := by
  cases ps with
  | nil => exact absurd rfl h
  | cons q qs => rfl
/-- parts have their leaves' root -/
theorem sum_parts : ∀ (n : Nat) (l : List α), l.length ≤ n → sumP nd e (partsL nd e l) = rootL nd e l := by
  intro n
  induction n with
  | zero =>
    intro l h
    obtain rfl : l = [] := List.eq_nil_of_length_eq_zero (by omega)
    rfl
  | succ n ih =>
    intro l h
    by_cases h0 : l.length = 0
    · obtain rfl : l = [] := List.eq_nil_of_length_eq_zero h0
      rfl
    · have a := top_le (n := l.length) (by omega)
      have b := top_pos l.length
      by_cases ht : top l.length = l.length
      · rw [partsL_cons nd e (by omega), ht, List.take_length, List.drop_length, partsL_nil]
        rfl
      · have hs := spl_top (n := l.length) (by omega)
        rw [rootL_two nd e (l := l) (by omega), partsL_cons nd e (by omega), hs, sumP_cons nd e (partsL_ne nd e (by rw [List.length_drop]; omega)), ih _ (by rw [List.length_drop]; omega)]

/-! ### one leaf more -/
/-- how many bits from the lowest one on are 1 -/
def trailF : Nat → Nat → Nat
  | 0, _ => 0
  | f + 1, n => if n % 2 = 1 then trailF f (n / 2) + 1 else 0
theorem trailF_succ (f n : Nat) : trailF (f + 1) n = if n % 2 = 1 then trailF f (n / 2) + 1 else 0 := rfl
def trail (n : Nat) : Nat := trailF n n
theorem trailF_any : ∀ (f g n : Nat), n ≤ f → n ≤ g → trailF f n = trailF g n := by
  intro f
  induction f with
  | zero =>
    intro g n hf _
    obtain rfl : n = 0 := by omega
    cases g with
    | zero => rfl
    | succ g => rfl
  | succ f ih =>
    intro g n hf hg
    cases g with
    | zero =>
      obtain rfl : n = 0 := by omega
      rfl
    | succ g =>
      unfold trailF
      by_cases h1 : n % 2 = 1
      · rw [if_pos h1, if_pos h1, ih g (n / 2) (by omega) (by omega)]
      · rw [if_neg h1, if_neg h1]
theorem trail_odd {n : Nat} (h : n % 2 = 1) : trail n = trail (n / 2) + 1 := by
  obtain ⟨f, hf⟩ : ∃ f, n = f + 1 := ⟨n - 1, by omega⟩
  unfold trail
  conv => lhs; rw [hf]
  rw [trailF_succ, ← hf, if_pos h, trailF_any f (n / 2) _ (by omega) (Nat.le_refl _)]
theorem trail_even {n : Nat} (h : n % 2 = 0) : trail n = 0 := by
  cases n with
  | zero => rfl
  | succ f =>
    unfold trail trailF
    rw [if_neg (by omega)]
/-- how many bits are 1 -/
def onesF : Nat → Nat → Nat
  | 0, _ => 0
  | f + 1, n => n % 2 + onesF f (n / 2)
def ones (n : Nat) : Nat := onesF n n
theorem onesF_any : ∀ (f g n : Nat), n ≤ f → n ≤ g → onesF f n = onesF g n := by
  intro f
  induction f with
  | zero =>
    intro g n hf _
    obtain rfl : n = 0 := by omega
    induction g with
    | zero => rfl
    | succ g ih => show onesF 0 0 = 0 + onesF g 0; rw [← ih (by omega)]; rfl
  | succ f ih =>
    intro g n hf hg
    cases g with
    | zero =>
      obtain rfl : n = 0 := by omega
      show 0 + onesF f 0 = 0
      rw [ih 0 0 (by omega) (by omega)]
      rfl
    | succ g =>
      unfold onesF
      rw [ih g (n / 2) (by omega) (by omega)]
theorem ones_zero : ones 0 = 0 := rfl
theorem ones_half (n : Nat) : ones n = n % 2 + ones (n / 2) := by
  cases n with
  | zero => rfl
  | succ f =>
    unfold ones
    conv => lhs; unfold onesF
    rw [onesF_any f ((f + 1) / 2) _ (by omega) (Nat.le_refl _)]
theorem ones_top : ∀ (m n : Nat), n ≤ m → 0 < n → ones n = ones (n - top n) + 1 := by
  intro m
  induction m with
  | zero => intro n h h0; omega
  | succ m ih =>
    intro n h h0
    by_cases h1 : n = 1
    · subst h1
      decide
    · have e := top_double n h0
      rw [if_neg h1] at e
      have a := top_le (n := n / 2) (by omega)
      have i := ih (n / 2) (by omega) (by omega)
      rw [ones_half n, ones_half (n - top n), i, e, show (n - 2 * top (n / 2)) % 2 = n % 2 by omega, show (n - 2 * top (n / 2)) / 2 = n / 2 - top (n / 2) by omega]
      omega
theorem trail_le : ∀ (m n : Nat), n ≤ m → trail n ≤ ones n := by
  intro m
  induction m with
  | zero =>
    intro n h
    obtain rfl : n = 0 := by omega
    exact Nat.le_refl _
  | succ m ih =>
    intro n h
    rcases Nat.mod_two_eq_zero_or_one n with h0 | h1
    · rw [trail_even h0]; exact Nat.zero_le _
    · have i := ih (n / 2) (by omega)
      rw [trail_odd h1, ones_half n]
      omega
theorem trail_top : ∀ (m n : Nat), n ≤ m → 0 < n → n + 1 ≠ 2 * top n → trail n = trail (n - top n) := by
  intro m
  induction m with
  | zero => intro n h h0; omega
  | succ m ih =>
    intro n h h0 hne
    have e := top_double n h0
    by_cases h1 : n = 1
    · subst h1
      exact absurd (by decide) hne
    · rw [if_neg h1] at e
      have a := top_le (n := n / 2) (by omega)
      rcases Nat.mod_two_eq_zero_or_one n with hz | ho
      · rw [trail_even hz, trail_even (by omega)]
      · have i := ih (n / 2) (by omega) (by omega) (by omega)
        rw [trail_odd ho, trail_odd (n := n - top n) (by omega), i, e, show (n - 2 * top (n / 2)) / 2 = n / 2 - top (n / 2) by omega]
theorem trail_full : ∀ j, trail (2 ^ j - 1) = j ∧ ones (2 ^ j - 1) = j := by
  intro j
  induction j with
  | zero => exact ⟨rfl, rfl⟩
  | succ j ih =>
    have hp := Nat.pow_pos (n := j) (show 0 < 2 by decide)
    have h1 : (2 ^ (j + 1) - 1) % 2 = 1 := by rw [Nat.pow_succ]; omega
    have h2 : (2 ^ (j + 1) - 1) / 2 = 2 ^ j - 1 := by rw [Nat.pow_succ]; omega
    refine ⟨by rw [trail_odd h1, h2, ih.1], ?_⟩
    rw [ones_half, h1, h2, ih.2]
    omega
theorem parts_length : ∀ (n : Nat) (l : List α), l.length ≤ n → (partsL nd e l).length = ones l.length := by
  intro n
  induction n with
  | zero =>
    intro l h
    obtain rfl : l = [] := List.eq_nil_of_length_eq_zero (by omega)
    rfl
  | succ n ih =>
    intro l h
    by_cases h0 : l.length = 0
    · obtain rfl : l = [] := List.eq_nil_of_length_eq_zero h0
      rfl
    · have b := top_pos l.length
      rw [partsL_cons nd e (by omega), List.length_cons, ih _ (by rw [List.length_drop]; omega), List.length_drop, ones_top l.length l.length (Nat.le_refl _) (by omega)]

/-- a part behind others, made one with so many ahead of it -/
def mrg : Nat → List α → α → List α
  | 0, ps, x => ps ++ [x]
  | t + 1, ps, x => mrg t ps.dropLast (nd (ps.getLastD e) x)
theorem mrg_cons (p : α) : ∀ (t : Nat) (ps : List α) (x : α), t ≤ ps.length → mrg nd e t (p :: ps) x = p :: mrg nd e t ps x := by
  intro t
  induction t with
  | zero => intro ps x _; rfl
  | succ t ih =>
    intro ps x h
    have hne : ps ≠ [] := by intro h1; subst h1; simp at h
    unfold mrg
    rw [List.dropLast_cons_of_ne_nil hne, ih _ _ (by rw [List.length_dropLast]; omega)]
    congr 2
    cases ps with
    | nil => exact absurd rfl hne
    | cons q qs => rfl
theorem sumP_last : ∀ (ps : List α) (q x : α), sumP nd e (ps ++ [q] ++ [x]) = sumP nd e (ps ++ [nd q x]) := by
  intro ps
  induction ps with
  | nil => intro q x; rfl
  | cons p ps ih =>
    intro q x
    rw [List.cons_append, List.cons_append, List.cons_append, sumP_cons nd e (by simp), sumP_cons nd e (by simp), ih]
theorem mrg_all : ∀ (n : Nat) (ps : List α) (x : α), ps.length = n → mrg nd e n ps x = [sumP nd e (ps ++ [x])] := by
  intro n
  induction n with
  | zero =>
    intro ps x h
    obtain rfl : ps = [] := List.eq_nil_of_length_eq_zero h
    rfl
  | succ n ih =>
    intro ps x h
    have hne : ps ≠ [] := by intro h1; subst h1; simp at h
    obtain ⟨qs, q, rfl⟩ : ∃ qs q, ps = qs ++ [q] := ⟨ps.dropLast, ps.getLast hne, (List.dropLast_concat_getLast hne).symm⟩
    unfold mrg
    rw [List.dropLast_concat, show (qs ++ [q]).getLastD e = q by simp, ih _ _ (by simpa using h), sumP_last]
/-- as many leaves as a power of 2, from one fewer -/
theorem root_full : ∀ (j : Nat) (l : List α) (x : α), l.length + 1 = 2 ^ j → rootL nd e (l ++ [x]) = sumP nd e (partsL nd e l ++ [x]) := by
  intro j
  induction j with
  | zero =>
    intro l x h
    obtain rfl : l = [] := List.eq_nil_of_length_eq_zero (by simpa using h)
    rfl
  | succ j ih =>
    intro l x h
    have hp := Nat.pow_pos (n := j) (show 0 < 2 by decide)
    rw [Nat.pow_succ] at h
    have hl : (l ++ [x]).length = 2 ^ j * 2 := by rw [List.length_append, List.length_singleton]; exact h
    have hs : spl (l ++ [x]).length = 2 ^ j := spl_is (by omega) (by omega)
    have ht : 0 < l.length → top l.length = 2 ^ j := fun h0 => by
      by_cases hj : j = 0
      · subst hj
        obtain h1 : l.length = 1 := by omega
        rw [h1]
        decide
      · exact top_is (by
          have : 2 ≤ 2 ^ j := by
            obtain ⟨i, rfl⟩ : ∃ i, j = i + 1 := ⟨j - 1, by omega⟩
            have := Nat.pow_pos (n := i) (show 0 < 2 by decide)
            rw [Nat.pow_succ]
            omega
          omega) (by omega)
    have hlen : 0 < l.length := by omega
    rw [rootL_two nd e (by omega), hs, List.take_append_of_le_length (by omega), List.drop_append_of_le_length (by omega), ih (l.drop (2 ^ j)) x (by rw [List.length_drop]; omega), partsL_cons nd e hlen, ht hlen, List.cons_append, sumP_cons nd e (by simp)]
/-- the parts with one leaf more -/
theorem parts_more : ∀ (n : Nat) (l : List α) (x : α), l.length ≤ n → partsL nd e (l ++ [x]) = mrg nd e (trail l.length) (partsL nd e l) x := by
  intro n
  induction n with
  | zero =>
    intro l x h
    obtain rfl : l = [] := List.eq_nil_of_length_eq_zero (by omega)
    rfl
  | succ n ih =>
    intro l x h
    by_cases h0 : l.length = 0
    · obtain rfl : l = [] := List.eq_nil_of_length_eq_zero h0
      rfl
    · have a := top_le (n := l.length) (by omega)
      have b := top_pos l.length
      have c := lt_top l.length
      have hl : (l ++ [x]).length = l.length + 1 := by simp
      by_cases hf : l.length + 1 = 2 * top l.length
      · have e2 : 2 * top l.length = 2 ^ (l.length.log2 + 1) := by unfold top; rw [Nat.pow_succ]; omega
        have hlen : l.length = 2 ^ (l.length.log2 + 1) - 1 := by omega
        have ht := trail_full (l.length.log2 + 1)
        rw [← hlen] at ht
        rw [partsL_pow nd e (j := l.length.log2 + 1) (by rw [hl, ← e2]; exact hf), root_full nd e (l.length.log2 + 1) l x (by rw [← e2]; exact hf), mrg_all nd e _ _ _ (by rw [parts_length nd e _ _ (Nat.le_refl _), ht.2, ht.1])]
      · have ht : top (l.length + 1) = top l.length := top_is (j := l.length.log2) (show top l.length ≤ l.length + 1 by omega) (show l.length + 1 < 2 * top l.length by omega)
        have hk := trail_top l.length l.length (Nat.le_refl _) (by omega) hf
        have hi := ih (l.drop (top l.length)) x (by rw [List.length_drop]; omega)
        rw [List.length_drop, ← hk] at hi
        rw [partsL_cons nd e (l := l ++ [x]) (by omega), hl, ht, List.take_append_of_le_length a, List.drop_append_of_le_length a, hi, partsL_cons nd e (l := l) (by omega), mrg_cons]
        rw [parts_length nd e _ _ (Nat.le_refl _), List.length_drop, hk]
        exact trail_le _ _ (Nat.le_refl _)
end

/-! ### how many leaves each part is of -/
def szsF : Nat → Nat → List Nat
  | 0, _ => []
  | f + 1, n => if n = 0 then [] else (szsF f (n / 2)).map (2 * ·) ++ (if n % 2 = 1 then [1] else [])
theorem szsF_succ (f n : Nat) : szsF (f + 1) n = if n = 0 then [] else (szsF f (n / 2)).map (2 * ·) ++ (if n % 2 = 1 then [1] else []) := rfl
def szs (n : Nat) : List Nat := szsF n n
theorem szsF_any : ∀ (f g n : Nat), n ≤ f → n ≤ g → szsF f n = szsF g n := by
  intro f
  induction f with
  | zero =>
    intro g n hf _
    obtain rfl : n = 0 := by omega
    cases g <;> rfl
  | succ f ih =>
    intro g n hf hg
    cases g with
    | zero =>
      obtain rfl : n = 0 := by omega
      rfl
    | succ g =>
      unfold szsF
      by_cases h0 : n = 0
      · rw [if_pos h0, if_pos h0]
      · rw [if_neg h0, if_neg h0, ih g (n / 2) (by omega) (by omega)]
theorem szs_half {n : Nat} (h : 0 < n) : szs n = (szs (n / 2)).map (2 * ·) ++ (if n % 2 = 1 then [1] else []) := by
  obtain ⟨f, hf⟩ : ∃ f, n = f + 1 := ⟨n - 1, by omega⟩
  unfold szs
  conv => lhs; rw [hf]
  rw [szsF_succ, ← hf, if_neg (by omega), szsF_any f (n / 2) _ (by omega) (Nat.le_refl _)]
theorem szs_top : ∀ (m n : Nat), n ≤ m → 0 < n → szs n = top n :: szs (n - top n) := by
  intro m
  induction m with
  | zero => intro n h h0; omega
  | succ m ih =>
    intro n h h0
    have e := top_double n h0
    by_cases h1 : n = 1
    · subst h1
      rfl
    · rw [if_neg h1] at e
      have a := top_le (n := n / 2) (by omega)
      have hi := ih (n / 2) (by omega) (by omega)
      rw [szs_half h0, hi, e, List.map_cons, List.cons_append]
      congr 1
      by_cases h2 : n - 2 * top (n / 2) = 0
      · rw [h2, show n / 2 - top (n / 2) = 0 by omega, if_neg (by omega)]
        rfl
      · rw [szs_half (n := n - 2 * top (n / 2)) (by omega), show (n - 2 * top (n / 2)) % 2 = n % 2 by omega, show (n - 2 * top (n / 2)) / 2 = n / 2 - top (n / 2) by omega]
theorem szs_length : ∀ (m n : Nat), n ≤ m → (szs n).length = ones n := by
  intro m
  induction m with
  | zero =>
    intro n h
    obtain rfl : n = 0 := by omega
    rfl
  | succ m ih =>
    intro n h
    by_cases h0 : n = 0
    · subst h0; rfl
    · have b := top_pos n
      rw [szs_top n n (Nat.le_refl _) (by omega), List.length_cons, ih _ (by omega), ones_top n n (Nat.le_refl _) (by omega)]
end Go.Proofs.YtakmlmgffgoecaaDoor.R

/- Sums of leaves and nodes: the contracts of Leaf and Node, the program's and the reference's; rows of texts, cut. -/
namespace Go.Proofs.YtakmlmgffgoecaaDoor.R
open Go.RowKit Go.Proofs.YtakmlmgffgoecaaDoor.U
set_option maxRecDepth 100000

/-- a leaf's sum -/
def lf (d : List UInt8) : List UInt8 := sumT (0 :: d)
/-- a node's -/
def nd (a b : List UInt8) : List UInt8 := sumT (1 :: (a ++ b))
/-- that of nothing -/
def e0 : List UInt8 := sumT []
theorem lf_length (d : List UInt8) : (lf d).length = 32 := sumT_length _
theorem nd_length (a b : List UInt8) : (nd a b).length = 32 := sumT_length _
theorem e0_length : e0.length = 32 := sumT_length _
attribute [irreducible] lf nd e0
theorem lf_eq (d : List UInt8) : lf d = sumT (0 :: d) := by unfold lf; rfl
theorem nd_eq (a b : List UInt8) : nd a b = sumT (1 :: (a ++ b)) := by unfold nd; rfl
theorem e0_eq : e0 = sumT [] := by unfold e0; rfl
theorem bytesOf_toList (x : List UInt8) : (bytesOf x).data.toList = x := rfl
theorem bytesOf_all (s : ByteArray) : ∃ x, s = bytesOf x := ⟨s.data.toList, (Lib.mk_data s).symm⟩

/-- some texts as a row that was just laid -/
theorem strs_new (w : World) (l : List (List UInt8)) (h : l.length ≤ 1000) : Strs (w.alloc (.cells (l.map str).toArray 9)) (.slice (some ⟨w.heap.size, 0, none⟩) l.length l.length) l := by
  refine ⟨some ⟨w.heap.size, 0, none⟩, l.length, rfl, Nat.le_refl _, by unfold maxLen; omega, (fun h => by cases h), fun _ => ⟨w.heap.size, 0, rfl, fun i y hi => ?_⟩⟩
  rw [World.cell?_alloc_new]
  simp [hi]
theorem sum_new (w : World) (l : List (List UInt8)) (h : l.length ≤ 1000) (hx : l.flatten.length ≤ 281474976710000) (hT : Tab w) :
    Calls Tryd.prog 28 #[.slice (some ⟨w.heap.size, 0, none⟩) l.length l.length] (w.alloc (.cells (l.map str).toArray 9)) fun e w' => e = .returned (.string (bytesOf (sumT l.flatten))) ∧ Below w.heap.size w w' := by
  have hb := (Below.refl w.heap.size w).alloc (Nat.le_refl _) (.cells (l.map str).toArray 9)
  have h := sum_any _ _ l (strs_new w l h) hx (hT.below hb)
  exact h.mono fun e w' ⟨he, hb2⟩ => ⟨he, below_on hb hb2⟩

theorem leaf_any (x : List UInt8) (w : World) (hx : x.length ≤ 281474976700000) (hT : Tab w) :
    Calls Tryd.prog 11 #[.string (bytesOf x)] w fun e w' => e = .returned (.string (bytesOf (lf x))) ∧ Below w.heap.size w w' := by
  have h := sum_new w [[0], x] (by simp) (by simp; omega) hT
  rw [show [[0], x].flatten = 0 :: x by simp, ← lf_eq] at h
  have H := Lib.hid h
  go_enter Tryd.func11, Tryd.ntmps11
  go_wp2_with (go_at_call 28; refine H.out.mono ?_; rintro e w1 ⟨rfl, hb1⟩)
  go_ret
  exact ⟨rfl, hb1⟩
theorem node_any (x y : List UInt8) (w : World) (hx : x.length ≤ 1000000) (hy : y.length ≤ 1000000) (hT : Tab w) :
    Calls Tryd.prog 13 #[.string (bytesOf x), .string (bytesOf y)] w fun e w' => e = .returned (.string (bytesOf (nd x y))) ∧ Below w.heap.size w w' := by
  have h := sum_new w [[1], x, y] (by simp) (by simp; omega) hT
  rw [show [[1], x, y].flatten = 1 :: (x ++ y) by simp, ← nd_eq] at h
  have H := Lib.hid h
  go_enter Tryd.func13, Tryd.ntmps13
  go_wp2_with (go_at_call 28; refine H.out.mono ?_; rintro e w1 ⟨rfl, hb1⟩)
  go_ret
  exact ⟨rfl, hb1⟩
/-- the sum of nothing -/
theorem sum_none (w : World) (hT : Tab w) : Calls Tryd.prog 28 #[.slice none 0 0] w fun e w' => e = .returned (.string (bytesOf e0)) ∧ Below w.heap.size w w' := by
  have h := sum_any w (.slice none 0 0) [] (Strs.nil w) (by simp) hT
  rw [List.flatten_nil, ← e0_eq] at h
  exact h

theorem refNode_any (x y : List UInt8) (w : World) (hx : x.length ≤ 400) (hy : y.length ≤ 400) :
    Calls Tryd.prog 14 #[.string (bytesOf x), .string (bytesOf y)] w fun e w' => e = .returned (.string (bytesOf (nd x y))) ∧ Below w.heap.size w w' := by
  have h := fun w => refSum_any (bytesOf (1 :: (x ++ y))) w (by rw [bytes_size]; simp; omega)
  rw [bytesOf_toList, ← nd_eq] at h
  have H := Lib.hid h
  have hx1 : (bytesOf x).size ≤ 400 := by rw [bytes_size]; exact hx
  have hy1 : (bytesOf y).size ≤ 400 := by rw [bytes_size]; exact hy
  go_enter Tryd.func14, Tryd.ntmps14
  go_wp2_with (go_at_call 29; refine (H.out _).mono ?_; rintro e w1 ⟨rfl, hb1⟩)
  go_ret
  exact ⟨rfl, hb1⟩
/-- the reference's sum of nothing -/
theorem refNone_any (w : World) : Calls Tryd.prog 29 #[.string { data := #[] }] w fun e w' => e = .returned (.string (bytesOf e0)) ∧ Below w.heap.size w w' := by
  have h := refSum_any (bytesOf []) w (by rw [bytes_size]; simp)
  rw [bytesOf_toList, ← e0_eq] at h
  exact h

/-! ### rows, cut -/
theorem strs_part {w : World} {b : Nat} {off n c : Nat} {l : List (List UInt8)} (h : Strs w (.slice (some ⟨b, off, none⟩) n c) l) {i j : Nat} (hi : i ≤ j) (hj : j ≤ l.length) :
    Strs w (.slice (some ⟨b, off + i, none⟩) (j - i) (c - i)) ((l.drop i).take (j - i)) := by
  obtain ⟨a, c', hv, hc, hm, hn, hl⟩ := h
  injection hv with h1 h2 h3
  subst h1 h2 h3
  have hlen : ((l.drop i).take (j - i)).length = j - i := by rw [List.length_take, List.length_drop]; omega
  refine ⟨some ⟨b, off + i, none⟩, c - i, by rw [hlen], by rw [hlen]; omega, by omega, (fun h => by cases h), fun hne => ⟨b, off + i, rfl, fun k x hk => ?_⟩⟩
  have hk2 := (List.getElem?_eq_some_iff.1 hk).1
  rw [hlen] at hk2
  have hk3 : l[i + k]? = some x := by rw [List.getElem?_take, if_pos hk2, List.getElem?_drop] at hk; exact hk
  obtain ⟨b', off', ha, hcell⟩ := hl (by intro h; rw [h] at hk3; simp at hk3)
  injection ha with ha
  injection ha with e1 e2
  subst e1 e2
  rw [Nat.add_assoc]
  exact hcell _ _ hk3
theorem strs_head {w : World} {b : Nat} {off n c : Nat} {l : List (List UInt8)} (h : Strs w (.slice (some ⟨b, off, none⟩) n c) l) {j : Nat} (hj : j ≤ l.length) :
    Strs w (.slice (some ⟨b, off, none⟩) j c) (l.take j) := strs_part h (Nat.zero_le j) hj
theorem strs_tail {w : World} {b : Nat} {off n c : Nat} {l : List (List UInt8)} (h : Strs w (.slice (some ⟨b, off, none⟩) n c) l) {i : Nat} (hi : i ≤ l.length) :
    Strs w (.slice (some ⟨b, off + i, none⟩) (n - i) (c - i)) (l.drop i) := by
  have hn : n = l.length := by obtain ⟨a, c', hv, _⟩ := h; injection hv
  have h1 := strs_part h hi (Nat.le_refl _)
  rw [← hn, List.take_of_length_le (by rw [List.length_drop]; omega)] at h1
  exact h1
/-- as Go cuts it: behind the capacity the place stays -/
theorem strs_rest {w : World} {b : Nat} {off n c : Nat} {l : List (List UInt8)} (h : Strs w (.slice (some ⟨b, off, none⟩) n c) l) {i : Nat} (hi : i ≤ l.length) :
    Strs w (.slice (if c = i then some ⟨b, off, none⟩ else some ⟨b, off + i, none⟩) (n - i) (c - i)) (l.drop i) := by
  by_cases hc : c = i
  · rw [if_pos hc]
    have h2 := strs_tail h hi
    obtain ⟨a, c', hv, hc1, hm, hn, hl⟩ := h
    injection hv with e1 e2 e3
    have e : l.drop i = [] := List.drop_eq_nil_of_le (by omega)
    rw [e]
    exact ⟨_, _, by rw [show n - i = 0 by omega]; rfl, Nat.zero_le _, by omega, (fun h => by cases h), fun h => absurd rfl h⟩
  · rw [if_neg hc]
    exact strs_tail h hi
end Go.Proofs.YtakmlmgffgoecaaDoor.R

/- Which rows of sums may be: the contracts of the program's Right and the reference's; powers of 2: the reference's Split. -/
namespace Go.Proofs.YtakmlmgffgoecaaDoor.R
open Go.RowKit Go.Proofs.YtakmlmgffgoecaaDoor.U
set_option maxRecDepth 100000

def allB (l : List (List UInt8)) : Bool := l.all (fun x => decide (x.length = 32))
/-- a row of sums may be -/
def rowB (l : List (List UInt8)) : Bool := decide (l.length ≤ 4096) && allB l
theorem allB_mem {l : List (List UInt8)} (h : allB l = true) {x : List UInt8} (hx : x ∈ l) : x.length = 32 := by
  have := List.all_eq_true.1 h x hx
  simpa using this
theorem allB_of {l : List (List UInt8)} (h : ∀ x ∈ l, x.length = 32) : allB l = true := List.all_eq_true.2 (fun x hx => by simpa using h x hx)
theorem allB_bad {l : List (List UInt8)} {k : Nat} {x : List UInt8} (hk : l[k]? = some x) (hx : x.length ≠ 32) : allB l = false := by
  cases h : allB l with
  | false => rfl
  | true => exact absurd (allB_mem h (List.mem_of_getElem? hk)) hx
theorem allB_step {l : List (List UInt8)} {k : Nat} {x : List UInt8} (h : allB (l.take k) = true) (hk : l[k]? = some x) (hx : x.length = 32) : allB (l.take (k + 1)) = true := by
  rw [List.take_add_one, hk]
  unfold allB at *
  rw [List.all_append, h]
  simp [hx]
theorem rowB_of {l : List (List UInt8)} (h : rowB l = true) : l.length ≤ 4096 ∧ ∀ x ∈ l, x.length = 32 := by
  unfold rowB at h
  simp only [Bool.and_eq_true, decide_eq_true_eq] at h
  exact ⟨h.1, fun x hx => allB_mem h.2 hx⟩

set_option maxHeartbeats 800000 in
theorem right_any (w : World) (v : Value) (l : List (List UInt8)) (hl : Strs w v l) (hx : ∀ x ∈ l, x.length ≤ maxLen) :
    Calls Tryd.prog 15 #[v] w fun e w' => e = .returned (.bool (rowB l)) ∧ w = w' := by
  obtain ⟨a, c, rfl, hc, hm, hn, hl⟩ := hl
  unfold maxLen at hm hx
  by_cases h4 : l.length ≤ 4096
  · have hi4 : ¬ (4096 : Int) < (l.length : Int) := by omega
    have HR := Lib.hid (show rowB l = allB l by unfold rowB; simp [h4])
    clear h4
    go_enter Tryd.func15, Tryd.ntmps15
    go_wp2
    go_loop [10] (fun i => ∃ k : Nat, k ≤ l.length ∧ i = .int .i64 k ∧ Hid (allB (l.take k) = true)) (fun i => l.length - (intOf i).toNat)
    case atStart => exact ⟨0, Nat.zero_le _, rfl, rfl⟩
    case round =>
      obtain ⟨k, hk, rfl, HA⟩ := hrel
      by_cases hlt : k < l.length
      · obtain ⟨b, off, rfl, hcell⟩ := hl (by intro h; subst h; simp at hlt)
        obtain ⟨x, hxk⟩ : ∃ x, l[k]? = some x := ⟨l[k], List.getElem?_eq_getElem hlt⟩
        have hc1 := hcell k x hxk
        have hxl := hx x (List.mem_of_getElem? hxk)
        have HX := Lib.hid hxk
        clear hxk hcell
        unfold str at hc1
        by_cases h32 : x.length = 32
        · have hi : ((x.length : Int) != 32) = false := by simp; omega
          have HS := Lib.hid (allB_step HA.out HX.out h32)
          clear h32
          go_wp2
          go_round
          case rel => exact ⟨k + 1, by omega, by go_num, HS⟩
          case measure => simp [intOf]; omega
        · have hi : ((x.length : Int) != 32) = true := by simp; omega
          have HS := Lib.hid (allB_bad HX.out h32)
          clear h32
          go_wp2
          go_ret
          exact ⟨ret1_of (by rw [HR.out, HS.out]; rfl), rfl⟩
      · have HS := Lib.hid (show allB l = true by rw [← HA.out, List.take_of_length_le (by omega)])
        go_wp2
        go_ret
        exact ⟨ret1_of (by rw [HR.out, HS.out]; rfl), rfl⟩
  · have hi4 : (4096 : Int) < (l.length : Int) := by omega
    have HR := Lib.hid (show rowB l = false by unfold rowB; simp [h4])
    clear h4
    go_enter Tryd.func15, Tryd.ntmps15
    go_wp2
    go_ret
    exact ⟨ret1_of (by rw [HR.out]; rfl), rfl⟩

set_option maxHeartbeats 800000 in
theorem refRight_any (w : World) (v : Value) (l : List (List UInt8)) (hl : Strs w v l) (hx : ∀ x ∈ l, x.length ≤ maxLen) :
    Calls Tryd.prog 16 #[v] w fun e w' => e = .returned (.bool (rowB l)) ∧ w = w' := by
  obtain ⟨a, c, rfl, hc, hm, hn, hl⟩ := hl
  unfold maxLen at hm hx
  have HL := Lib.hid (show allB l = true → rowB l = decide ((l.length : Int) ≤ 4096) by intro h; unfold rowB; rw [h, Bool.and_true]; congr 1; simp; omega)
  have HF := Lib.hid (show allB l = false → rowB l = false by intro h; unfold rowB; rw [h, Bool.and_false])
  go_enter Tryd.func16, Tryd.ntmps16
  go_wp2
  go_loop [7] (fun i => ∃ k : Nat, k ≤ l.length ∧ i = .int .i64 k ∧ Hid (allB (l.take k) = true)) (fun i => l.length - (intOf i).toNat)
  case atStart => exact ⟨0, Nat.zero_le _, rfl, rfl⟩
  case round =>
    obtain ⟨k, hk, rfl, HA⟩ := hrel
    by_cases hlt : k < l.length
    · obtain ⟨b, off, rfl, hcell⟩ := hl (by intro h; subst h; simp at hlt)
      obtain ⟨x, hxk⟩ : ∃ x, l[k]? = some x := ⟨l[k], List.getElem?_eq_getElem hlt⟩
      have hc1 := hcell k x hxk
      have hxl := hx x (List.mem_of_getElem? hxk)
      have HX := Lib.hid hxk
      clear hxk hcell
      unfold str at hc1
      by_cases h32 : x.length = 32
      · have hi : ((x.length : Int) != 32) = false := by simp; omega
        have HS := Lib.hid (allB_step HA.out HX.out h32)
        clear h32
        go_wp2
        go_round
        case rel => exact ⟨k + 1, by omega, by go_num, HS⟩
        case measure => simp [intOf]; omega
      · have hi : ((x.length : Int) != 32) = true := by simp; omega
        have HS := Lib.hid (allB_bad HX.out h32)
        clear h32
        go_wp2
        go_ret
        exact ⟨ret1_of (by rw [HF.out HS.out]; rfl), rfl⟩
    · have HS := Lib.hid (show allB l = true by rw [← HA.out, List.take_of_length_le (by omega)])
      go_wp2
      go_ret
      exact ⟨ret1_of (by rw [HL.out HS.out]; rfl), rfl⟩

theorem refSplit_any (n : Nat) (w : World) (h2 : 2 ≤ n) (hn : n ≤ 1000000) :
    Calls Tryd.prog 30 #[.int .i64 n] w fun e w' => e = .returned (.int .i64 (spl n)) ∧ w = w' := by
  have HE := Lib.hid (show ∀ j, 2 ^ j < n → ¬ (2 * 2 ^ j < n) → spl n = 2 ^ j from fun j h1 h => spl_is h1 (by omega))
  go_enter Tryd.func30, Tryd.ntmps30
  go_wp2
  go_loop [3] (fun i => ∃ (m : Nat), i = .int .i64 m ∧ m < n ∧ 0 < m ∧ Hid (∃ j, m = 2 ^ j)) (fun i => n - (intOf i).toNat)
  case atStart => exact ⟨1, rfl, by omega, by omega, Lib.hid ⟨0, rfl⟩⟩
  case round =>
    obtain ⟨m, rfl, hm, hm0, HJ⟩ := hrel
    by_cases hlt : 2 * m < n
    · go_wp2
      go_round
      case rel => exact ⟨2 * m, by go_num, by omega, by omega, Lib.hid (by obtain ⟨j, hj⟩ := HJ.out; exact ⟨j + 1, by rw [Nat.pow_succ]; omega⟩)⟩
      case measure => simp [intOf]; omega
    · go_wp2
      go_ret
      exact ⟨ret1_of (val_int (by obtain ⟨j, hj⟩ := HJ.out; rw [HE.out j (by omega) (by omega), hj])), rfl⟩
end Go.Proofs.YtakmlmgffgoecaaDoor.R

