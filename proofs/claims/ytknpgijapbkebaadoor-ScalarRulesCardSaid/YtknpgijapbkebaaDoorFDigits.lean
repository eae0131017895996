/- Numbers as digits to the base 65536, the lowest one first: what reckoning with them comes to. Nothing of the program is named here. -/
import Derived.Test.YtknpgijapbkebaaDoorMath
namespace Go.Proofs.YtknpgijapbkebaaDoor.F

/-! ### the number of digits -/
def val : List Nat → Nat
  | [] => 0
  | d :: r => d + 65536 * val r
def Dg (l : List Nat) : Prop := ∀ d ∈ l, d < 65536
theorem Dg.at {l : List Nat} (h : Dg l) (i : Nat) : l.getD i 0 < 65536 := by
  rw [List.getD_eq_getElem?_getD]
  rcases e : l[i]? with _ | x
  · simp
  · exact h x (List.mem_of_getElem? e)
theorem Dg.take {l : List Nat} (h : Dg l) (n : Nat) : Dg (l.take n) := fun d hd => h d (List.mem_of_mem_take hd)
theorem Dg.drop {l : List Nat} (h : Dg l) (n : Nat) : Dg (l.drop n) := fun d hd => h d (List.mem_of_mem_drop hd)
theorem val_append (a b : List Nat) : val (a ++ b) = val a + 65536 ^ a.length * val b := by
  induction a with
  | nil => simp [val]
  | cons x a ih =>
    rw [List.cons_append, val, ih, val, List.length_cons, Nat.pow_succ, Nat.mul_add, Nat.mul_comm (65536 ^ a.length) 65536, Nat.mul_assoc]
    omega
theorem val_split (l : List Nat) (n : Nat) (h : n ≤ l.length) : val l = val (l.take n) + 65536 ^ n * val (l.drop n) := by
  have e := val_append (l.take n) (l.drop n)
  rw [List.take_append_drop, List.length_take, Nat.min_eq_left h] at e
  exact e
theorem val_lt {l : List Nat} (h : Dg l) : val l < 65536 ^ l.length := by
  induction l with
  | nil => simp [val]
  | cons x l ih =>
    have h1 := h x (List.mem_cons_self ..)
    have h2 := ih fun d hd => h d (List.mem_cons_of_mem _ hd)
    rw [val, List.length_cons, Nat.pow_succ]
    omega
theorem val_zeros (n : Nat) : val (List.replicate n 0) = 0 := by
  induction n with
  | zero => rfl
  | succ n ih => rw [List.replicate_succ, val, ih]
theorem val_snoc (l : List Nat) (x : Nat) : val (l ++ [x]) = val l + 65536 ^ l.length * x := by rw [val_append]; simp [val]
theorem val_take_succ (l : List Nat) (i : Nat) (h : i < l.length) : val (l.take (i + 1)) = val (l.take i) + 65536 ^ i * l.getD i 0 := by
  rw [List.take_succ_eq_append_getElem h, val_snoc, List.length_take, Nat.min_eq_left (by omega), List.getD_eq_getElem?_getD, List.getElem?_eq_getElem h]
  rfl
theorem val_set (l : List Nat) (i x : Nat) (h : i < l.length) : val (l.set i x) + 65536 ^ i * l.getD i 0 = val l + 65536 ^ i * x := by
  induction l generalizing i with
  | nil => simp at h
  | cons a l ih =>
    cases i with
    | zero => simp [val]; omega
    | succ i =>
      have := ih i (by simpa using h)
      rw [List.set_cons_succ, val, val, List.getD_cons_succ, Nat.pow_succ, Nat.mul_comm (65536 ^ i) 65536, Nat.mul_assoc, Nat.mul_assoc]
      omega

/-! ### without zeros at the end -/
def trimN (l : List Nat) : Nat → Nat
  | 0 => 0
  | n + 1 => if l.getD n 0 = 0 then trimN l n else n + 1
theorem trimN_le (l : List Nat) (n : Nat) : trimN l n ≤ n := by
  induction n with
  | zero => exact Nat.le_refl _
  | succ n ih =>
    rw [trimN]
    split <;> omega
def trimL (l : List Nat) : List Nat := l.take (trimN l l.length)
theorem trimL_length (l : List Nat) : (trimL l).length = trimN l l.length := by
  unfold trimL
  rw [List.length_take, Nat.min_eq_left (trimN_le _ _)]
theorem trimL_le (l : List Nat) : (trimL l).length ≤ l.length := by rw [trimL_length]; exact trimN_le _ _
theorem val_trimN (l : List Nat) (n : Nat) (h : n ≤ l.length) : val (l.take (trimN l n)) = val (l.take n) := by
  induction n with
  | zero => rfl
  | succ n ih =>
    rw [trimN]
    split
    · rename_i h0
      rw [ih (by omega), val_take_succ _ _ (by omega), h0]
      omega
    · rfl
theorem val_trim (l : List Nat) : val (trimL l) = val l := by
  unfold trimL
  rw [val_trimN l _ (Nat.le_refl _), List.take_of_length_le (Nat.le_refl _)]
theorem Dg.trim {l : List Nat} (h : Dg l) : Dg (trimL l) := h.take _
/-- it does not end in a zero -/
def Tr (l : List Nat) : Prop := ∀ n, l.length = n + 1 → l.getD n 0 ≠ 0
theorem trimN_last (l : List Nat) (n k : Nat) (h : trimN l n = k + 1) : l.getD k 0 ≠ 0 := by
  induction n with
  | zero => rw [trimN] at h; omega
  | succ n ih =>
    rw [trimN] at h
    split at h
    · exact ih h
    · rename_i h0
      obtain rfl : n = k := by omega
      exact h0
theorem trim_tr (l : List Nat) : Tr (trimL l) := fun n hn => by
  have h1 := trimL_length l
  have h2 := trimN_last l l.length n (by omega)
  unfold trimL
  rw [List.getD_eq_getElem?_getD, List.getElem?_take_of_lt (by omega), ← List.getD_eq_getElem?_getD]
  exact h2
theorem Tr.ge {l : List Nat} (h : Tr l) (n : Nat) (hn : l.length = n + 1) : 65536 ^ n ≤ val l := by
  have h1 := h n hn
  have h2 := val_take_succ l n (by omega)
  rw [List.take_of_length_le (by omega)] at h2
  have h3 : 65536 ^ n * 1 ≤ 65536 ^ n * l.getD n 0 := Nat.mul_le_mul_left _ (by omega)
  omega
theorem tr_shorter {a b : List Nat} (ha : Dg a) (hb : Tr b) (h : a.length < b.length) : val a < val b := by
  obtain ⟨n, hn⟩ : ∃ n, b.length = n + 1 := ⟨b.length - 1, by omega⟩
  have h1 := val_lt ha
  have h2 := hb.ge n hn
  have h3 : 65536 ^ a.length ≤ 65536 ^ n := Nat.pow_le_pow_right (by decide) (by omega)
  omega

theorem shorter {r l : List Nat} (hr : Tr r) (hl : Dg l) (h : val r ≤ val l) : r.length ≤ l.length := by
  rcases Nat.lt_or_ge l.length r.length with h1 | h1
  · have := tr_shorter hl hr h1
    omega
  · exact h1

/-! ### which one is less -/
theorem less_at (a b : List Nat) (i : Nat) (ha : Dg a) (hl : a.length = b.length) (hi : i < a.length) (he : a.drop (i + 1) = b.drop (i + 1)) (h : a.getD i 0 < b.getD i 0) : val a < val b := by
  have h1 := val_split a (i + 1) (by omega)
  have h2 := val_split b (i + 1) (by omega)
  rw [he] at h1
  have h3 := val_take_succ a i hi
  have h4 := val_take_succ b i (by omega)
  have h5 := val_lt (ha.take i)
  rw [List.length_take, Nat.min_eq_left (by omega)] at h5
  have h6 : 65536 ^ i * (a.getD i 0 + 1) ≤ 65536 ^ i * b.getD i 0 := Nat.mul_le_mul_left _ (by omega)
  rw [Nat.mul_add] at h6
  omega
theorem drop_same {a b : List Nat} {i : Nat} (hl : a.length = b.length) (hi : i < a.length) (he : a.drop (i + 1) = b.drop (i + 1)) (h : a.getD i 0 = b.getD i 0) : a.drop i = b.drop i := by
  rw [List.drop_eq_getElem_cons hi, List.drop_eq_getElem_cons (show i < b.length by omega), he]
  rw [List.getD_eq_getElem?_getD, List.getD_eq_getElem?_getD, List.getElem?_eq_getElem hi, List.getElem?_eq_getElem (show i < b.length by omega)] at h
  rw [show a[i] = b[i] from h]

/-! ### what is carried -/
def carN (d : List Nat) : Nat → Nat
  | 0 => 0
  | i + 1 => (carN d i + d.getD i 0) / 65536
def carD (d : List Nat) (i : Nat) : Nat := (carN d i + d.getD i 0) % 65536
def carL (d : List Nat) (n : Nat) : List Nat := (List.range n).map (carD d)
theorem carL_length (d : List Nat) (n : Nat) : (carL d n).length = n := by simp [carL]
theorem carL_succ (d : List Nat) (n : Nat) : carL d (n + 1) = carL d n ++ [carD d n] := by simp [carL, List.range_succ]
theorem carL_dg (d : List Nat) (n : Nat) : Dg (carL d n) := fun x hx => by
  simp only [carL, List.mem_map] at hx
  obtain ⟨i, _, rfl⟩ := hx
  exact Nat.mod_lt _ (by decide)
theorem getD_past {l : List Nat} {i : Nat} (h : ¬ i < l.length) : l.getD i 0 = 0 := by
  rw [List.getD_eq_getElem?_getD, List.getElem?_eq_none (by omega)]
  rfl
theorem val_take_any (l : List Nat) (i : Nat) : val (l.take (i + 1)) = val (l.take i) + 65536 ^ i * l.getD i 0 := by
  by_cases h : i < l.length
  · exact val_take_succ l i h
  · rw [getD_past h, List.take_of_length_le (by omega), List.take_of_length_le (by omega)]
    omega
theorem car_val (d : List Nat) (n : Nat) : val (carL d n) + 65536 ^ n * carN d n = val (d.take n) := by
  induction n with
  | zero => simp [carL, carN, val]
  | succ n ih =>
    rw [carL_succ, val_snoc, carL_length, val_take_any, ← ih, carN, carD, Nat.pow_succ]
    have h1 := Nat.div_add_mod (carN d n + d.getD n 0) 65536
    have h2 : 65536 ^ n * ((carN d n + d.getD n 0) % 65536) + 65536 ^ n * 65536 * ((carN d n + d.getD n 0) / 65536) = 65536 ^ n * (carN d n + d.getD n 0) := by
      rw [Nat.mul_assoc, ← Nat.mul_add]
      congr 1
      omega
    rw [Nat.mul_add] at h2
    omega
def Bd (M : Nat) (l : List Nat) : Prop := ∀ d ∈ l, d ≤ M
theorem Bd.at {M : Nat} {l : List Nat} (h : Bd M l) (i : Nat) : l.getD i 0 ≤ M := by
  rw [List.getD_eq_getElem?_getD]
  rcases e : l[i]? with _ | x
  · exact Nat.zero_le _
  · exact h x (List.mem_of_getElem? e)
theorem carN_le {M : Nat} {d : List Nat} (h : Bd M d) (n : Nat) : carN d n ≤ M := by
  induction n with
  | zero => exact Nat.zero_le _
  | succ n ih =>
    have := h.at n
    rw [carN]
    omega
theorem carN_end {M : Nat} {d : List Nat} (h : Bd M d) (hM : M < 18446744073709551616) : carN d (d.length + 4) = 0 := by
  have h0 := carN_le h d.length
  have g : ∀ k, d.getD (d.length + k) 0 = 0 := fun k => getD_past (by omega)
  have e1 : carN d (d.length + 1) = (carN d d.length + d.getD (d.length + 0) 0) / 65536 := rfl
  have e2 : carN d (d.length + 2) = (carN d (d.length + 1) + d.getD (d.length + 1) 0) / 65536 := rfl
  have e3 : carN d (d.length + 3) = (carN d (d.length + 2) + d.getD (d.length + 2) 0) / 65536 := rfl
  have e4 : carN d (d.length + 4) = (carN d (d.length + 3) + d.getD (d.length + 3) 0) / 65536 := rfl
  rw [g] at e1 e2 e3 e4
  omega
theorem car_end {M : Nat} {d : List Nat} (h : Bd M d) (hM : M < 18446744073709551616) : val (carL d (d.length + 4)) = val d := by
  have h1 := car_val d (d.length + 4)
  rw [carN_end h hM, List.take_of_length_le (by omega)] at h1
  omega

/-! ### a difference -/
/-- what is borrowed, and what stands there -/
def borN (a b : List Nat) : Nat → Nat
  | 0 => 0
  | i + 1 => if a.getD i 0 < borN a b i + b.getD i 0 then 1 else 0
def borD (a b : List Nat) (i : Nat) : Nat := if a.getD i 0 < borN a b i + b.getD i 0 then a.getD i 0 + 65536 - borN a b i - b.getD i 0 else a.getD i 0 - borN a b i - b.getD i 0
def borL (a b : List Nat) (n : Nat) : List Nat := (List.range n).map (borD a b)
theorem borN_le (a b : List Nat) (n : Nat) : borN a b n ≤ 1 := by
  cases n with
  | zero => exact Nat.zero_le _
  | succ n => rw [borN]; split <;> omega
theorem borL_length (a b : List Nat) (n : Nat) : (borL a b n).length = n := by simp [borL]
theorem borL_succ (a b : List Nat) (n : Nat) : borL a b (n + 1) = borL a b n ++ [borD a b n] := by simp [borL, List.range_succ]
theorem borD_lt {a b : List Nat} (ha : Dg a) (hb : Dg b) (i : Nat) : borD a b i < 65536 := by
  have h1 := ha.at i
  have h2 := hb.at i
  have h3 := borN_le a b i
  unfold borD
  split <;> omega
theorem borL_dg {a b : List Nat} (ha : Dg a) (hb : Dg b) (n : Nat) : Dg (borL a b n) := fun x hx => by
  simp only [borL, List.mem_map] at hx
  obtain ⟨i, _, rfl⟩ := hx
  exact borD_lt ha hb i
theorem bor_val {a b : List Nat} (hb : Dg b) (n : Nat) : val (borL a b n) + val (b.take n) = val (a.take n) + 65536 ^ n * borN a b n := by
  induction n with
  | zero => simp [borL, borN, val]
  | succ n ih =>
    have h1 := hb.at n
    have h2 := borN_le a b n
    rw [borL_succ, val_snoc, borL_length, val_take_any, val_take_any, Nat.pow_succ, Nat.mul_assoc]
    have h3 : borD a b n + borN a b n + b.getD n 0 = a.getD n 0 + 65536 * borN a b (n + 1) := by
      rw [borD, borN]
      split <;> omega
    have h4 : 65536 ^ n * borD a b n + 65536 ^ n * borN a b n + 65536 ^ n * b.getD n 0 = 65536 ^ n * a.getD n 0 + 65536 ^ n * (65536 * borN a b (n + 1)) := by
      rw [← Nat.mul_add, ← Nat.mul_add, ← Nat.mul_add, h3]
    omega
theorem bor_end {a b : List Nat} (ha : Dg a) (hb : Dg b) (h : val b ≤ val a) : val (borL a b a.length) = val a - val b := by
  have h1 := bor_val (a := a) hb a.length
  have h2 := val_lt (borL_dg ha hb a.length)
  have h3 := val_lt ha
  have h4 := borN_le a b a.length
  rw [borL_length] at h2
  rw [List.take_of_length_le (Nat.le_refl _)] at h1
  have h5 : val (b.take a.length) = val b := by
    by_cases hl : a.length ≤ b.length
    · have h6 := val_split b a.length hl
      rcases Nat.eq_zero_or_pos (val (b.drop a.length)) with h7 | h7
      · rw [h7] at h6
        omega
      · have h8 : 65536 ^ a.length * 1 ≤ 65536 ^ a.length * val (b.drop a.length) := Nat.mul_le_mul_left _ h7
        omega
    · rw [List.take_of_length_le (by omega)]
  rcases Nat.eq_zero_or_pos (borN a b a.length) with h6 | h6
  · rw [h6] at h1
    omega
  · rw [show borN a b a.length = 1 by omega] at h1
    omega
end Go.Proofs.YtknpgijapbkebaaDoor.F
