/- Values as trees: how many one is, how deep, which may be, its text; a text tells its value. Nothing of the program is named here. -/
import Derived.Lib.ItoaMem
namespace Go.Proofs.YtaliafeekadecaaDoor.V
open Go

/-- a value: its kind, number, text, items and keys -/
inductive VT where
  | mk (kind n : Int) (s : List UInt8) (items : List VT) (keys : List (List UInt8)) : VT
def VT.kind : VT → Int | .mk k _ _ _ _ => k
def VT.num : VT → Int | .mk _ n _ _ _ => n
def VT.txt : VT → List UInt8 | .mk _ _ s _ _ => s
def VT.items : VT → List VT | .mk _ _ _ l _ => l
def VT.keys : VT → List (List UInt8) | .mk _ _ _ _ ks => ks
def vt0 : VT := .mk 0 0 [] [] []

/-! ### how many, how deep -/
mutual
def VT.count : VT → Nat
  | .mk _ _ _ l _ => 1 + countL l
def countL : List VT → Nat
  | [] => 0
  | x :: r => x.count + countL r
end
mutual
def VT.depth : VT → Nat
  | .mk _ _ _ l _ => 1 + depthL l
def depthL : List VT → Nat
  | [] => 0
  | x :: r => max x.depth (depthL r)
end
theorem count_eq (k n : Int) (s : List UInt8) (l : List VT) (ks : List (List UInt8)) : (VT.mk k n s l ks).count = 1 + countL l := by rw [VT.count]
theorem depth_eq (k n : Int) (s : List UInt8) (l : List VT) (ks : List (List UInt8)) : (VT.mk k n s l ks).depth = 1 + depthL l := by rw [VT.depth]
theorem countL_nil : countL [] = 0 := by rw [countL]
theorem countL_cons (x : VT) (r : List VT) : countL (x :: r) = x.count + countL r := by rw [countL]
theorem depthL_nil : depthL [] = 0 := by rw [depthL]
theorem depthL_cons (x : VT) (r : List VT) : depthL (x :: r) = max x.depth (depthL r) := by rw [depthL]
theorem countL_append : ∀ (a b : List VT), countL (a ++ b) = countL a + countL b := by
  intro a b
  induction a with
  | nil => rw [List.nil_append, countL_nil, Nat.zero_add]
  | cons x a ih => rw [List.cons_append, countL_cons, countL_cons, ih, Nat.add_assoc]
theorem depthL_append : ∀ (a b : List VT), depthL (a ++ b) = max (depthL a) (depthL b) := by
  intro a b
  induction a with
  | nil => rw [List.nil_append, depthL_nil, Nat.zero_max]
  | cons x a ih => rw [List.cons_append, depthL_cons, depthL_cons, ih, Nat.max_assoc]
theorem count_pos (v : VT) : 1 ≤ v.count := by obtain ⟨k, n, s, l, ks⟩ := v; rw [count_eq]; omega
theorem countL_mem {l : List VT} {x : VT} (h : x ∈ l) : x.count ≤ countL l := by
  induction l with
  | nil => cases h
  | cons y l ih =>
    rw [countL_cons]
    rcases List.mem_cons.1 h with rfl | h
    · omega
    · have := ih h; omega
theorem depthL_mem {l : List VT} {x : VT} (h : x ∈ l) : x.depth ≤ depthL l := by
  induction l with
  | nil => cases h
  | cons y l ih =>
    rw [depthL_cons]
    rcases List.mem_cons.1 h with rfl | h
    · omega
    · have := ih h; omega
theorem depth_le_count : ∀ (m : Nat) (v : VT), v.count ≤ m → v.depth ≤ v.count := by
  intro m
  induction m with
  | zero => intro v h; have := count_pos v; omega
  | succ m ih =>
    intro v h
    obtain ⟨k, n, s, l, ks⟩ := v
    rw [count_eq] at h ⊢
    rw [depth_eq]
    have : ∀ r : List VT, countL r ≤ m → depthL r ≤ countL r := by
      intro r
      induction r with
      | nil => intro _; rw [depthL_nil]; exact Nat.zero_le _
      | cons x r ihr =>
        intro hr
        rw [countL_cons] at hr ⊢
        rw [depthL_cons]
        have h1 := ih x (by omega)
        have h2 := ihr (by omega)
        omega
    have := this l (by omega)
    omega
/- how many, one above a limit told as more: the reference's own way -/
mutual
def VT.cnt : VT → Int → Int
  | .mk _ _ _ l _, lim => cntL l lim 1
def cntL : List VT → Int → Int → Int
  | [], _, n => n
  | x :: r, lim, n => if lim < n then n else cntL r lim (n + x.cnt (lim - n))
end
theorem cnt_eq (k n : Int) (s : List UInt8) (l : List VT) (ks : List (List UInt8)) (lim : Int) : (VT.mk k n s l ks).cnt lim = cntL l lim 1 := by rw [VT.cnt]
theorem cntL_nil (lim n : Int) : cntL [] lim n = n := by rw [cntL]
theorem cntL_cons (x : VT) (r : List VT) (lim n : Int) : cntL (x :: r) lim n = if lim < n then n else cntL r lim (n + x.cnt (lim - n)) := by rw [cntL]
/-- what it tells: the number, if that is no more than the limit; else more than the limit, by one at most -/
def CntOk (c : Nat) (lim t : Int) : Prop := ((c : Int) ≤ lim → t = c) ∧ (lim < (c : Int) → lim < t ∧ t ≤ max 1 (lim + 1)) ∧ 1 ≤ t
theorem cntL_more (l : List VT) (lim n : Int) (h : lim < n) : cntL l lim n = n := by
  cases l with
  | nil => exact cntL_nil _ _
  | cons x r => rw [cntL_cons, if_pos h]
theorem cnt_ok : ∀ (m : Nat) (v : VT), v.count ≤ m → ∀ lim : Int, CntOk v.count lim (v.cnt lim) := by
  intro m
  induction m with
  | zero => intro v h; have := count_pos v; omega
  | succ m ih =>
    intro v h lim
    obtain ⟨k, n, s, l, ks⟩ := v
    rw [count_eq] at h ⊢
    rw [cnt_eq]
    have key : ∀ (r : List VT) (a : Int), countL r ≤ m → 1 ≤ a → a ≤ max 1 (lim + 1) → (a + (countL r : Int) ≤ lim → cntL r lim a = a + (countL r : Int)) ∧ (lim < a + (countL r : Int) → lim < cntL r lim a ∧ cntL r lim a ≤ max 1 (lim + 1)) ∧ 1 ≤ cntL r lim a := by
      intro r
      induction r with
      | nil =>
        intro a _ h1 h2
        rw [countL_nil, cntL_nil]
        refine ⟨fun _ => by simp, fun h => ⟨by simpa using h, h2⟩, h1⟩
      | cons x r ihr =>
        intro a hr h1 h2
        rw [countL_cons] at hr ⊢
        rw [cntL_cons]
        have hx := ih x (by omega) (lim - a)
        obtain ⟨c1, c2, c3⟩ := hx
        by_cases hc : lim < a
        · rw [if_pos hc]
          exact ⟨fun h => by omega, fun _ => ⟨hc, h2⟩, h1⟩
        · rw [if_neg hc]
          by_cases hb : (x.count : Int) ≤ lim - a
          · rw [c1 hb]
            have := ihr (a + x.count) (by omega) (by omega) (by omega)
            obtain ⟨d1, d2, d3⟩ := this
            refine ⟨fun h => ?_, fun h => d2 (by push_cast at h; omega), d3⟩
            rw [d1 (by push_cast at h; omega)]
            push_cast
            omega
          · obtain ⟨e1, e2⟩ := c2 (by omega)
            have hm : lim < a + x.cnt (lim - a) := by omega
            rw [cntL_more _ _ _ hm]
            refine ⟨fun h => by push_cast at h; omega, fun _ => ⟨hm, by omega⟩, by omega⟩
    obtain ⟨k1, k2, k3⟩ := key l 1 (by omega) (by omega) (by omega)
    refine ⟨fun h => ?_, fun h => k2 (by push_cast at h; omega), k3⟩
    rw [k1 (by push_cast at h; omega)]
    push_cast
    omega
theorem cnt_more (v : VT) (lim : Int) : 1 ≤ v.cnt lim ∧ v.cnt lim ≤ max 1 (lim + 1) := by
  obtain ⟨h1, h2, h3⟩ := cnt_ok v.count v (Nat.le_refl _) lim
  refine ⟨h3, ?_⟩
  by_cases h : (v.count : Int) ≤ lim
  · rw [h1 h]; omega
  · exact (h2 (by omega)).2
end Go.Proofs.YtaliafeekadecaaDoor.V
