/- Numbers as words of 64 bits, the lowest one first. Nothing of the program is named here. -/
import Derived.Test.YtknpgijapbkebaaDoorFWords
namespace Go.Proofs.YtknpgijapbkebaaDoor.F

def valK : List Nat → Nat
  | [] => 0
  | d :: r => d + 18446744073709551616 * valK r
theorem valK_append (a b : List Nat) : valK (a ++ b) = valK a + 18446744073709551616 ^ a.length * valK b := by
  induction a with
  | nil => simp [valK]
  | cons x a ih =>
    rw [List.cons_append, valK, ih, valK, List.length_cons, Nat.pow_succ, Nat.mul_add, Nat.mul_comm (18446744073709551616 ^ a.length) 18446744073709551616, Nat.mul_assoc]
    omega
theorem valK_snoc (l : List Nat) (x : Nat) : valK (l ++ [x]) = valK l + 18446744073709551616 ^ l.length * x := by rw [valK_append]; simp [valK]
theorem valK_zeros (n : Nat) : valK (List.replicate n 0) = 0 := by
  induction n with
  | zero => rfl
  | succ n ih => rw [List.replicate_succ, valK, ih]
theorem valK_take_succ (l : List Nat) (i : Nat) : valK (l.take (i + 1)) = valK (l.take i) + 18446744073709551616 ^ i * l.getD i 0 := by
  by_cases h : i < l.length
  · rw [List.take_succ_eq_append_getElem h, valK_snoc, List.length_take, Nat.min_eq_left (by omega), List.getD_eq_getElem?_getD, List.getElem?_eq_getElem h]
    rfl
  · rw [getD_past h, List.take_of_length_le (by omega), List.take_of_length_le (by omega)]
    omega
theorem valK_set (l : List Nat) (i x : Nat) (h : i < l.length) : valK (l.set i x) + 18446744073709551616 ^ i * l.getD i 0 = valK l + 18446744073709551616 ^ i * x := by
  induction l generalizing i with
  | nil => simp at h
  | cons a l ih =>
    cases i with
    | zero => simp [valK]; omega
    | succ i =>
      have := ih i (by simpa using h)
      rw [List.set_cons_succ, valK, valK, List.getD_cons_succ, Nat.pow_succ, Nat.mul_comm (18446744073709551616 ^ i) 18446744073709551616, Nat.mul_assoc, Nat.mul_assoc]
      omega
/-- all are words -/
def Wd (l : List Nat) : Prop := ∀ d ∈ l, d < 18446744073709551616
theorem Wd.at {l : List Nat} (h : Wd l) (i : Nat) : l.getD i 0 < 18446744073709551616 := by
  rw [List.getD_eq_getElem?_getD]
  rcases e : l[i]? with _ | x
  · simp
  · exact h x (List.mem_of_getElem? e)
theorem Wd.snoc {l : List Nat} (h : Wd l) {x : Nat} (hx : x < 18446744073709551616) : Wd (l ++ [x]) := fun d hd => by
  rw [List.mem_append, List.mem_singleton] at hd
  rcases hd with hd | rfl
  · exact h d hd
  · exact hx
theorem Wd.set {l : List Nat} (h : Wd l) (i : Nat) {x : Nat} (hx : x < 18446744073709551616) : Wd (l.set i x) := fun d hd => by
  rcases List.mem_or_eq_of_mem_set hd with hd | rfl
  · exact h d hd
  · exact hx
theorem valK_lt {l : List Nat} (h : Wd l) : valK l < 18446744073709551616 ^ l.length := by
  induction l with
  | nil => simp [valK]
  | cons x l ih =>
    have h1 := h x (List.mem_cons_self ..)
    have h2 := ih fun d hd => h d (List.mem_cons_of_mem _ hd)
    rw [valK, List.length_cons, Nat.pow_succ]
    omega

/-! ### a number's four words -/
def wordsL (n : Nat) : List Nat := [wordN n 0, wordN n 1, wordN n 2, wordN n 3]
theorem wordsL_val {n : Nat} (h : n < K256) : valK (wordsL n) = n := by
  unfold wordsL valK valK valK valK valK wordN
  unfold K256 at h
  rw [Nat.pow_zero, Nat.pow_one, Nat.div_one]
  omega
theorem wordsL_wd (n : Nat) : Wd (wordsL n) := fun d hd => by
  simp only [wordsL, List.mem_cons, List.not_mem_nil, or_false] at hd
  rcases hd with rfl | rfl | rfl | rfl <;> exact wordN_lt _ _
theorem feA_wordsL (n : Nat) : feA n = ((wordsL n).map w64).toArray := by rw [feA_words]; rfl
/-- four words are those of their number -/
theorem words_feA (l : List Nat) (hl : l.length = 4) (hw : Wd l) : (l.map w64).toArray = feA (valK l) ∧ valK l < K256 := by
  match l, hl with
  | [a, b, c, d], _ =>
    have ha := hw a (by simp)
    have hb := hw b (by simp)
    have hc := hw c (by simp)
    have hd := hw d (by simp)
    obtain ⟨n, hn, he, hv⟩ := fe_of a b c d ha hb hc hd
    have e : valK [a, b, c, d] = n := by
      rw [hv]
      unfold valK valK valK valK valK
      omega
    rw [e]
    injection he with he
    exact ⟨he, hn⟩

/-! ### sums and differences, word by word -/
theorem sum_step {V A B c s xa xb i : Nat} (h : V + 18446744073709551616 ^ i * c = A + B) (hs : s = xa + xb + c) : (V + 18446744073709551616 ^ i * (s % 18446744073709551616)) + 18446744073709551616 ^ (i + 1) * (s / 18446744073709551616) = (A + 18446744073709551616 ^ i * xa) + (B + 18446744073709551616 ^ i * xb) := by
  have e := Nat.div_add_mod s 18446744073709551616
  have e2 : 18446744073709551616 ^ i * (s % 18446744073709551616) + 18446744073709551616 ^ (i + 1) * (s / 18446744073709551616) = 18446744073709551616 ^ i * s := by
    rw [Nat.pow_succ, Nat.mul_assoc, ← Nat.mul_add]
    congr 1
    omega
  have e3 : 18446744073709551616 ^ i * s = 18446744073709551616 ^ i * xa + 18446744073709551616 ^ i * xb + 18446744073709551616 ^ i * c := by rw [hs, Nat.mul_add, Nat.mul_add]
  omega
theorem diff_step {V A B c xa xb i : Nat} (h : V + B = A + 18446744073709551616 ^ i * c) (ha : xa < 18446744073709551616) (hb : xb < 18446744073709551616) (hc : c ≤ 1) :
    (V + 18446744073709551616 ^ i * ((xa + 18446744073709551616 - xb - c) % 18446744073709551616)) + (B + 18446744073709551616 ^ i * xb) = (A + 18446744073709551616 ^ i * xa) + 18446744073709551616 ^ (i + 1) * (if xa < xb + c then 1 else 0) := by
  have e : (xa + 18446744073709551616 - xb - c) % 18446744073709551616 + xb + c = xa + 18446744073709551616 * (if xa < xb + c then 1 else 0) := by
    split <;> omega
  have e2 : 18446744073709551616 ^ i * ((xa + 18446744073709551616 - xb - c) % 18446744073709551616) + 18446744073709551616 ^ i * xb + 18446744073709551616 ^ i * c = 18446744073709551616 ^ i * xa + 18446744073709551616 ^ (i + 1) * (if xa < xb + c then 1 else 0) := by
    rw [Nat.pow_succ, Nat.mul_assoc, ← Nat.mul_add, ← Nat.mul_add, ← Nat.mul_add, e]
  omega
end Go.Proofs.YtknpgijapbkebaaDoor.F
