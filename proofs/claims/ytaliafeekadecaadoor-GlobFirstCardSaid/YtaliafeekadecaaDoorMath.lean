/- Plain facts about bytes' digits and numbers' bytes, as lists of bytes: nothing of the program is named here. -/
import Derived.Laws.BitsLemmas
import Derived.Laws.Bits64
import Derived.Lib.Bytealg
import Derived.Lib.UnsafeStr
namespace Go.Proofs.YtaliafeekadecaaDoor

/-! ### numbers -/
/-- the number of bytes, the highest first -/
def numL (l : List UInt8) : Nat := l.foldl (fun a b => 256 * a + b.toNat) 0
theorem numL_snoc (l : List UInt8) (b : UInt8) : numL (l ++ [b]) = 256 * numL l + b.toNat := by simp [numL]
theorem u8_lt (b : UInt8) : b.toNat < 256 := UInt8.toNat_lt b
theorem toNat_mod (n : Nat) : ((n % 256).toUInt8).toNat = n % 256 := by simp
theorem toNat_lt256 (n : Nat) (h : n < 256) : (n.toUInt8).toNat = n := by simp; omega

theorem numL_lt (l : List UInt8) : numL l < 256 ^ l.length := by
  suffices h : ∀ r : List UInt8, numL r.reverse < 256 ^ r.length by simpa using h l.reverse
  intro r
  induction r with
  | nil => simp [numL]
  | cons b r ih =>
    rw [List.reverse_cons, numL_snoc, List.length_cons, Nat.pow_succ]
    have := u8_lt b
    omega

/-- so many bytes of a number, the highest first -/
def bigL (n : Nat) : Nat → List UInt8
  | 0 => []
  | w + 1 => bigL (n / 256) w ++ [(n % 256).toUInt8]
theorem bigL_length (n w : Nat) : (bigL n w).length = w := by
  induction w generalizing n with
  | zero => rfl
  | succ w ih => simp [bigL, ih]
theorem bigL_head (n w : Nat) : bigL n (w + 1) = (n / 256 ^ w % 256).toUInt8 :: bigL n w := by
  induction w generalizing n with
  | zero => simp [bigL]
  | succ w ih =>
    rw [bigL, ih (n / 256), bigL, List.cons_append]
    rw [Nat.div_div_eq_div_mul, Nat.pow_succ, Nat.mul_comm]
theorem numL_bigL (n w : Nat) : numL (bigL n w) = n % 256 ^ w := by
  induction w generalizing n with
  | zero => simp [bigL, numL, Nat.mod_one]
  | succ w ih =>
    rw [bigL, numL_snoc, ih, toNat_mod, Nat.pow_succ, Nat.mul_comm (256 ^ w) 256, Nat.mod_mul]
    omega
theorem bigL_numL (l : List UInt8) : bigL (numL l) l.length = l := by
  suffices h : ∀ r : List UInt8, bigL (numL r.reverse) r.length = r.reverse by simpa using h l.reverse
  intro r
  induction r with
  | nil => rfl
  | cons b r ih =>
    have hb := u8_lt b
    rw [List.reverse_cons, numL_snoc, List.length_cons, bigL]
    rw [show (256 * numL r.reverse + b.toNat) / 256 = numL r.reverse by omega, ih]
    rw [show (256 * numL r.reverse + b.toNat) % 256 = b.toNat by omega]
    simp

/-! ### digits -/
/-- the sixteen digits -/
def digs : List UInt8 := [48, 49, 50, 51, 52, 53, 54, 55, 56, 57, 97, 98, 99, 100, 101, 102]
/-- the digit of a number below 16 -/
def dg (n : Nat) : UInt8 := digs.getD n 0
/-- bytes' digits -/
def hexL : List UInt8 → List UInt8
  | [] => []
  | b :: r => dg (b.toNat / 16) :: dg (b.toNat % 16) :: hexL r
theorem hexL_append (a b : List UInt8) : hexL (a ++ b) = hexL a ++ hexL b := by
  induction a with
  | nil => rfl
  | cons x a ih => simp [hexL, ih]
theorem hexL_length (l : List UInt8) : (hexL l).length = 2 * l.length := by
  induction l with
  | nil => rfl
  | cons x a ih => simp [hexL, ih]; omega

/-- what a digit is worth; -1: it is none -/
def dv (c : UInt8) : Int := Lib.indexByte digs c
theorem dv_all : ∀ n : Fin 256, dv n.val.toUInt8 = (if 48 ≤ n.val ∧ n.val ≤ 57 then (n.val : Int) - 48 else if 97 ≤ n.val ∧ n.val ≤ 102 then (n.val : Int) - 87 else -1) := by decide +kernel
theorem dv_eq (c : UInt8) : dv c = (if 48 ≤ c.toNat ∧ c.toNat ≤ 57 then (c.toNat : Int) - 48 else if 97 ≤ c.toNat ∧ c.toNat ≤ 102 then (c.toNat : Int) - 87 else -1) := by
  have := dv_all ⟨c.toNat, u8_lt c⟩
  simpa using this
theorem dv_dg : ∀ n : Fin 16, dv (dg n.val) = n.val := by decide +kernel
theorem dg_dv (c : UInt8) (h : 0 ≤ dv c) : dg (dv c).toNat = c := by
  have hh : ∀ n : Fin 256, 0 ≤ dv n.val.toUInt8 → dg (dv n.val.toUInt8).toNat = n.val.toUInt8 := by decide +kernel
  have := hh ⟨c.toNat, u8_lt c⟩
  simp at this
  exact this h
theorem dv_bounds (c : UInt8) : -1 ≤ dv c ∧ dv c ≤ 15 := by rw [dv_eq]; split <;> (try split) <;> omega

/-- the bytes of digits -/
def unhexL : List UInt8 → Option (List UInt8)
  | [] => some []
  | [_] => none
  | a :: b :: r => if 0 ≤ dv a ∧ 0 ≤ dv b then (unhexL r).map ((16 * (dv a).toNat + (dv b).toNat).toUInt8 :: ·) else none

theorem unhex_hex (l : List UInt8) : unhexL (hexL l) = some l := by
  induction l with
  | nil => rfl
  | cons b r ih =>
    have hb := u8_lt b
    have h1 := dv_dg ⟨b.toNat / 16, by omega⟩
    have h2 := dv_dg ⟨b.toNat % 16, by omega⟩
    simp only at h1 h2
    rw [hexL, unhexL, ih, h1, h2, if_pos (by omega)]
    simp only [Option.map_some, Int.toNat_natCast]
    congr 2
    rw [show 16 * (b.toNat / 16) + b.toNat % 16 = b.toNat by omega]
    simp

theorem hex_unhex (n : Nat) : ∀ (l x : List UInt8), l.length ≤ n → unhexL l = some x → hexL x = l := by
  induction n with
  | zero =>
    intro l x hl h
    have : l = [] := List.eq_nil_of_length_eq_zero (by omega)
    subst this
    simp only [unhexL, Option.some.injEq] at h
    subst h; rfl
  | succ n ih =>
    intro l x hl h
    match l, hl, h with
    | [], _, h => simp only [unhexL, Option.some.injEq] at h; subst h; rfl
    | [_], _, h => simp [unhexL] at h
    | a :: b :: r, hl, h =>
      rw [unhexL] at h
      by_cases hc : 0 ≤ dv a ∧ 0 ≤ dv b
      · rw [if_pos hc] at h
        obtain ⟨y, hy, rfl⟩ := Option.map_eq_some_iff.1 h
        have h1 := dv_bounds a
        have h2 := dv_bounds b
        have hr := ih r y (by simp at hl; omega) hy
        rw [hexL, hr]
        have e : (16 * (dv a).toNat + (dv b).toNat).toUInt8.toNat = 16 * (dv a).toNat + (dv b).toNat := toNat_lt256 _ (by omega)
        rw [e, show (16 * (dv a).toNat + (dv b).toNat) / 16 = (dv a).toNat by omega, show (16 * (dv a).toNat + (dv b).toNat) % 16 = (dv b).toNat by omega, dg_dv a hc.1, dg_dv b hc.2]
      · rw [if_neg hc] at h; cases h

/-- reading goes on: what the first 2k bytes gave is acc -/
def Reads (l acc : List UInt8) (i : Nat) : Prop := unhexL l = (unhexL (l.drop i)).map (acc ++ ·)
theorem reads_zero (l : List UInt8) : Reads l [] 0 := by simp [Reads]
theorem drop_two (l : List UInt8) (i : Nat) (h : i + 1 < l.length) : l.drop i = l[i] :: l[i + 1] :: l.drop (i + 2) := by
  rw [List.drop_eq_getElem_cons (by omega), List.drop_eq_getElem_cons (by omega)]
theorem reads_step (l acc : List UInt8) (i : Nat) (h : i + 1 < l.length) (hr : Reads l acc i) (ha : 0 ≤ dv l[i]) (hb : 0 ≤ dv l[i + 1]) :
    Reads l (acc ++ [(16 * (dv l[i]).toNat + (dv l[i + 1]).toNat).toUInt8]) (i + 2) := by
  unfold Reads at hr ⊢
  rw [hr, drop_two l i h, unhexL, if_pos ⟨ha, hb⟩, Option.map_map]
  congr 1
  funext x
  simp
theorem reads_stop (l acc : List UInt8) (i : Nat) (h : i + 1 < l.length) (hr : Reads l acc i) (hn : ¬ (0 ≤ dv l[i] ∧ 0 ≤ dv l[i + 1])) : unhexL l = none := by
  unfold Reads at hr
  rw [hr, drop_two l i h, unhexL, if_neg hn]; rfl
theorem reads_end (l acc : List UInt8) (hr : Reads l acc l.length) : unhexL l = some acc := by
  unfold Reads at hr
  rw [hr, List.drop_length]; simp [unhexL]
theorem unhex_odd (l : List UInt8) : ∀ n, l.length = 2 * n + 1 → unhexL l = none := by
  intro n
  induction n generalizing l with
  | zero => intro h; match l, h with | [x], _ => rfl
  | succ n ih =>
    intro h
    match l, h with
    | a :: b :: r, h =>
      rw [unhexL]
      split
      · rw [ih r (by simp at h; omega)]; rfl
      · rfl

/-- the text that Unhex answers, and its error -/
def unhexS (l : List UInt8) : ByteArray := ⟨((unhexL l).getD []).toArray⟩
def unhexE (l : List UInt8) : Int := if (unhexL l).isSome then 0 else 4
def unhexB (l : List UInt8) : Bool := (unhexL l).isSome
theorem unhexS_none {l : List UInt8} (h : unhexL l = none) : unhexS l = ByteArray.empty := by simp [unhexS, h]; rfl
theorem unhexE_none {l : List UInt8} (h : unhexL l = none) : unhexE l = 4 := by simp [unhexE, h]
theorem unhexB_none {l : List UInt8} (h : unhexL l = none) : unhexB l = false := by simp [unhexB, h]
theorem unhexS_some {l x : List UInt8} (h : unhexL l = some x) : unhexS l = ⟨x.toArray⟩ := by simp [unhexS, h]
theorem unhexE_some {l x : List UInt8} (h : unhexL l = some x) : unhexE l = 0 := by simp [unhexE, h]
theorem unhexB_some {l x : List UInt8} (h : unhexL l = some x) : unhexB l = true := by simp [unhexB, h]

/-! ### numbers in the walk's spelling -/
theorem u64_or_low (x y : Int) (hx₀ : 0 ≤ x) (hx : x % 256 = 0) (hx₁ : x < 2 ^ 64) (hy₀ : 0 ≤ y) (hy : y < 256) : bits .or .u64 x y = x + y :=
  bits_join .u64 64 (by decide) (fun n h0 h1 => by rw [IntKind.wrap_u64]; omega) 8 x y hx₀ (by omega) hx₁ hy₀ (by omega) (by omega)
theorem numL_step (a : Nat) (b : UInt8) (ha : a < 256 ^ 7) : bits BinOp.or IntKind.u64 (IntKind.u64.wrap ((a : Int) * 256)) (IntKind.u64.wrap (b.toNat : Int)) = ((256 * a + b.toNat : Nat) : Int) := by
  have hb := u8_lt b
  have e1 : IntKind.u64.wrap ((a : Int) * 256) = (a : Int) * 256 := by rw [IntKind.wrap_u64]; omega
  have e2 : IntKind.u64.wrap (b.toNat : Int) = (b.toNat : Int) := by rw [IntKind.wrap_u64]; omega
  rw [e1, e2, u64_or_low _ _ (by omega) (by omega) (by omega) (by omega) (by omega)]
  omega
theorem take_snoc (s : ByteArray) (k : Nat) (h : k < s.size) : s.data.toList.take (k + 1) = s.data.toList.take k ++ [s[k]] := by
  rw [List.take_succ_eq_append_getElem (by simpa using h)]; rfl

end Go.Proofs.YtaliafeekadecaaDoor
