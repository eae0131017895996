/- Texts that stand on one another, put together: Math, UMath, VMath, VText, VLess, FPrime, CRing, CGroup, CTimes, FDigits. -/
import Derived.Laws.Bits64
import Derived.Laws.BitsLemmas
import Derived.Lib.Bytealg
import Derived.Lib.ItoaMem
import Derived.Lib.UnsafeStr
/- Plain facts about bytes' digits and numbers' bytes, as lists of bytes: nothing of the program is named here. -/
namespace Go.Proofs.YtmekmlgpkbfjpaaGreatDoor

/-! ### numbers -/
/-- the number of bytes, the highest first -/
def numL (l : List UInt8) : Nat := l.foldl (fun a b => 256 * a + b.toNat) 0
theorem numL_snoc (l : List UInt8) (b : UInt8) : numL (l ++ [b]) = 256 * numL l + b.toNat := by simp [numL]
theorem u8_lt (b : UInt8) : b.toNat < 256 := UInt8.toNat_lt b
theorem toNat_mod (n : Nat) : ((n % 256).toUInt8).toNat = n % 256 := by simp
theorem numL_lt (l : List UInt8) : numL l < 256 ^ l.length := by
  suffices h : ∀ r : List UInt8, numL r.reverse < 256 ^ r.length by simpa using h l.reverse
  intro r
  induction r with
  | nil => simp [numL]
  | cons b r ih =>
    rw [List.reverse_cons, numL_snoc, List.length_cons, Nat.pow_succ]
    have := u8_lt b
    omega

/-- so many bytes of a number, the highest first -/
def bigL (n : Nat) : Nat → List UInt8
  | 0 => []
  | w + 1 => bigL (n / 256) w ++ [(n % 256).toUInt8]
theorem bigL_length (n w : Nat) : (bigL n w).length = w := by
  induction w generalizing n with
  | zero => rfl
  | succ w ih => simp [bigL, ih]
theorem bigL_head (n w : Nat) : bigL n (w + 1) = (n / 256 ^ w % 256).toUInt8 :: bigL n w := by
  induction w generalizing n with
  | zero => simp [bigL]
  | succ w ih =>
    rw [bigL, ih (n / 256), bigL, List.cons_append]
    rw [Nat.div_div_eq_div_mul, Nat.pow_succ, Nat.mul_comm]
/-! ### digits -/
/-- the sixteen digits -/
def digs : List UInt8 := [48, 49, 50, 51, 52, 53, 54, 55, 56, 57, 97, 98, 99, 100, 101, 102]
/-- the digit of a number below 16 -/
def dg (n : Nat) : UInt8 := digs.getD n 0
/-- bytes' digits -/
def hexL : List UInt8 → List UInt8
  | [] => []
  | b :: r => dg (b.toNat / 16) :: dg (b.toNat % 16) :: hexL r
theorem hexL_append (a b : List UInt8) : hexL (a ++ b) = hexL a ++ hexL b := by
  induction a with
  | nil => rfl
  | cons x a ih => simp [hexL, ih]
theorem hexL_length (l : List UInt8) : (hexL l).length = 2 * l.length := by
  induction l with
  | nil => rfl
  | cons x a ih => simp [hexL, ih]; omega

/-- what a digit is worth; -1: it is none -/
def dv (c : UInt8) : Int := Lib.indexByte digs c
theorem dv_all : ∀ n : Fin 256, dv n.val.toUInt8 = (if 48 ≤ n.val ∧ n.val ≤ 57 then (n.val : Int) - 48 else if 97 ≤ n.val ∧ n.val ≤ 102 then (n.val : Int) - 87 else -1) := by decide +kernel
theorem dv_eq (c : UInt8) : dv c = (if 48 ≤ c.toNat ∧ c.toNat ≤ 57 then (c.toNat : Int) - 48 else if 97 ≤ c.toNat ∧ c.toNat ≤ 102 then (c.toNat : Int) - 87 else -1) := by
  have := dv_all ⟨c.toNat, u8_lt c⟩
  simpa using this
theorem dv_dg : ∀ n : Fin 16, dv (dg n.val) = n.val := by decide +kernel
theorem dv_bounds (c : UInt8) : -1 ≤ dv c ∧ dv c ≤ 15 := by rw [dv_eq]; split <;> (try split) <;> omega

/-- the bytes of digits -/
def unhexL : List UInt8 → Option (List UInt8)
  | [] => some []
  | [_] => none
  | a :: b :: r => if 0 ≤ dv a ∧ 0 ≤ dv b then (unhexL r).map ((16 * (dv a).toNat + (dv b).toNat).toUInt8 :: ·) else none

theorem unhex_hex (l : List UInt8) : unhexL (hexL l) = some l := by
  induction l with
  | nil => rfl
  | cons b r ih =>
    have hb := u8_lt b
    have h1 := dv_dg ⟨b.toNat / 16, by omega⟩
    have h2 := dv_dg ⟨b.toNat % 16, by omega⟩
    simp only at h1 h2
    rw [hexL, unhexL, ih, h1, h2, if_pos (by omega)]
    simp only [Option.map_some, Int.toNat_natCast]
    congr 2
    rw [show 16 * (b.toNat / 16) + b.toNat % 16 = b.toNat by omega]
    simp

/-- reading goes on: what the first 2k bytes gave is acc -/
def Reads (l acc : List UInt8) (i : Nat) : Prop := unhexL l = (unhexL (l.drop i)).map (acc ++ ·)
theorem reads_zero (l : List UInt8) : Reads l [] 0 := by simp [Reads]
theorem drop_two (l : List UInt8) (i : Nat) (h : i + 1 < l.length) : l.drop i = l[i] :: l[i + 1] :: l.drop (i + 2) := by
  rw [List.drop_eq_getElem_cons (by omega), List.drop_eq_getElem_cons (by omega)]
theorem reads_step (l acc : List UInt8) (i : Nat) (h : i + 1 < l.length) (hr : Reads l acc i) (ha : 0 ≤ dv l[i]) (hb : 0 ≤ dv l[i + 1]) :
    Reads l (acc ++ [(16 * (dv l[i]).toNat + (dv l[i + 1]).toNat).toUInt8]) (i + 2) := by
  unfold Reads at hr ⊢
  rw [hr, drop_two l i h, unhexL, if_pos ⟨ha, hb⟩, Option.map_map]
  congr 1
  funext x
  simp
theorem reads_stop (l acc : List UInt8) (i : Nat) (h : i + 1 < l.length) (hr : Reads l acc i) (hn : ¬ (0 ≤ dv l[i] ∧ 0 ≤ dv l[i + 1])) : unhexL l = none := by
  unfold Reads at hr
  rw [hr, drop_two l i h, unhexL, if_neg hn]; rfl
theorem reads_end (l acc : List UInt8) (hr : Reads l acc l.length) : unhexL l = some acc := by
  unfold Reads at hr
  rw [hr, List.drop_length]; simp [unhexL]
theorem unhex_odd (l : List UInt8) : ∀ n, l.length = 2 * n + 1 → unhexL l = none := by
  intro n
  induction n generalizing l with
  | zero => intro h; match l, h with | [x], _ => rfl
  | succ n ih =>
    intro h
    match l, h with
    | a :: b :: r, h =>
      rw [unhexL]
      split
      · rw [ih r (by simp at h; omega)]; rfl
      · rfl

/-- the text that Unhex answers, and its error -/
def unhexS (l : List UInt8) : ByteArray := ⟨((unhexL l).getD []).toArray⟩
def unhexE (l : List UInt8) : Int := if (unhexL l).isSome then 0 else 4
def unhexB (l : List UInt8) : Bool := (unhexL l).isSome
theorem unhexS_none {l : List UInt8} (h : unhexL l = none) : unhexS l = ByteArray.empty := by simp [unhexS, h]; rfl
theorem unhexE_none {l : List UInt8} (h : unhexL l = none) : unhexE l = 4 := by simp [unhexE, h]
theorem unhexB_none {l : List UInt8} (h : unhexL l = none) : unhexB l = false := by simp [unhexB, h]
theorem unhexS_some {l x : List UInt8} (h : unhexL l = some x) : unhexS l = ⟨x.toArray⟩ := by simp [unhexS, h]
theorem unhexE_some {l x : List UInt8} (h : unhexL l = some x) : unhexE l = 0 := by simp [unhexE, h]
theorem unhexB_some {l x : List UInt8} (h : unhexL l = some x) : unhexB l = true := by simp [unhexB, h]

/-! ### numbers in the walk's spelling -/
theorem u64_or_low (x y : Int) (hx₀ : 0 ≤ x) (hx : x % 256 = 0) (hx₁ : x < 2 ^ 64) (hy₀ : 0 ≤ y) (hy : y < 256) : bits .or .u64 x y = x + y :=
  bits_join .u64 64 (by decide) (fun n h0 h1 => by rw [IntKind.wrap_u64]; omega) 8 x y hx₀ (by omega) hx₁ hy₀ (by omega) (by omega)
theorem numL_step (a : Nat) (b : UInt8) (ha : a < 256 ^ 7) : bits BinOp.or IntKind.u64 (IntKind.u64.wrap ((a : Int) * 256)) (IntKind.u64.wrap (b.toNat : Int)) = ((256 * a + b.toNat : Nat) : Int) := by
  have hb := u8_lt b
  have e1 : IntKind.u64.wrap ((a : Int) * 256) = (a : Int) * 256 := by rw [IntKind.wrap_u64]; omega
  have e2 : IntKind.u64.wrap (b.toNat : Int) = (b.toNat : Int) := by rw [IntKind.wrap_u64]; omega
  rw [e1, e2, u64_or_low _ _ (by omega) (by omega) (by omega) (by omega) (by omega)]
  omega
theorem take_snoc (s : ByteArray) (k : Nat) (h : k < s.size) : s.data.toList.take (k + 1) = s.data.toList.take k ++ [s[k]] := by
  rw [List.take_succ_eq_append_getElem (by simpa using h)]; rfl

end Go.Proofs.YtmekmlgpkbfjpaaGreatDoor

/- Plain facts about sums of 256 bits, as numbers and lists of bytes: nothing of the program is named here. -/
namespace Go.Proofs.YtmekmlgpkbfjpaaGreatDoor.U

/-! ### words -/
/-- a word turned right -/
def rotr (x n : Nat) : Nat := x / 2 ^ n + x % 2 ^ n * 2 ^ (32 - n)
theorem rotr_lt (x n : Nat) (hx : x < 4294967296) (hn : n ≤ 32) : rotr x n < 4294967296 := by
  unfold rotr
  obtain ⟨m, hm⟩ : ∃ m, 32 = n + m := ⟨32 - n, by omega⟩
  have e : 32 - n = m := by omega
  rw [e]
  have hp : (4294967296 : Nat) = 2 ^ n * 2 ^ m := by rw [← Nat.pow_add, ← hm]
  have h1 : x / 2 ^ n < 2 ^ m := by rw [Nat.div_lt_iff_lt_mul (Nat.two_pow_pos n), Nat.mul_comm, ← hp]; exact hx
  have h2 : x % 2 ^ n < 2 ^ n := Nat.mod_lt _ (Nat.two_pow_pos n)
  have h3 : (x % 2 ^ n + 1) * 2 ^ m ≤ 2 ^ n * 2 ^ m := Nat.mul_le_mul_right _ h2
  rw [Nat.add_mul] at h3
  omega
theorem rotr_or (x n : Nat) (hn : n ≤ 32) (hx : x < 4294967296) : (x * 2 ^ (32 - n) % 4294967296) ||| (x / 2 ^ n) = rotr x n := by
  unfold rotr
  obtain ⟨m, hm⟩ : ∃ m, 32 = n + m := ⟨32 - n, by omega⟩
  have e : 32 - n = m := by omega
  rw [e]
  have hp : (4294967296 : Nat) = 2 ^ n * 2 ^ m := by rw [← Nat.pow_add, ← hm]
  have h1 : x / 2 ^ n < 2 ^ m := by rw [Nat.div_lt_iff_lt_mul (Nat.two_pow_pos n), Nat.mul_comm, ← hp]; exact hx
  rw [hp, Nat.mul_mod_mul_right, ← Nat.shiftLeft_eq, ← Nat.shiftLeft_add_eq_or_of_lt h1, Nat.add_comm]

theorem xor_lt (a b : Nat) (ha : a < 4294967296) (hb : b < 4294967296) : a ^^^ b < 4294967296 := Nat.xor_lt_two_pow (n := 32) ha hb
theorem and_lt (a b : Nat) (hb : b < 4294967296) : a &&& b < 4294967296 := Nat.and_lt_two_pow (n := 32) a hb

def bsig0 (x : Nat) : Nat := rotr x 2 ^^^ rotr x 13 ^^^ rotr x 22
def bsig1 (x : Nat) : Nat := rotr x 6 ^^^ rotr x 11 ^^^ rotr x 25
def ssig0 (x : Nat) : Nat := rotr x 7 ^^^ rotr x 18 ^^^ x / 2 ^ 3
def ssig1 (x : Nat) : Nat := rotr x 17 ^^^ rotr x 19 ^^^ x / 2 ^ 10
def chs (e f g : Nat) : Nat := (e &&& f) ^^^ ((4294967295 - e) &&& g)
def maj (a b c : Nat) : Nat := (a &&& b) ^^^ (a &&& c) ^^^ (b &&& c)
/-! ### eight words -/
structure H8 where
  a : Nat
  b : Nat
  c : Nat
  d : Nat
  e : Nat
  f : Nat
  g : Nat
  h : Nat
  deriving DecidableEq
def H8.Ok (s : H8) : Prop := s.a < 4294967296 ∧ s.b < 4294967296 ∧ s.c < 4294967296 ∧ s.d < 4294967296 ∧ s.e < 4294967296 ∧ s.f < 4294967296 ∧ s.g < 4294967296 ∧ s.h < 4294967296
def H8.at (s : H8) : Nat → Nat
  | 0 => s.a
  | 1 => s.b
  | 2 => s.c
  | 3 => s.d
  | 4 => s.e
  | 5 => s.f
  | 6 => s.g
  | _ => s.h
theorem H8.at_lt {s : H8} (h : s.Ok) (i : Nat) : s.at i < 4294967296 := by
  obtain ⟨h0, h1, h2, h3, h4, h5, h6, h7⟩ := h
  unfold H8.at
  split <;> assumption
def H8.plus (s v : H8) : H8 := ⟨(s.a + v.a) % 4294967296, (s.b + v.b) % 4294967296, (s.c + v.c) % 4294967296, (s.d + v.d) % 4294967296, (s.e + v.e) % 4294967296, (s.f + v.f) % 4294967296, (s.g + v.g) % 4294967296, (s.h + v.h) % 4294967296⟩
theorem H8.plus_ok (s v : H8) : (s.plus v).Ok := by
  unfold H8.plus H8.Ok
  simp only
  omega

def tmp1 (s : H8) (k w : Nat) : Nat := (s.h + bsig1 s.e + chs s.e s.f s.g + k + w) % 4294967296
def tmp2 (s : H8) : Nat := (bsig0 s.a + maj s.a s.b s.c) % 4294967296
def rnd (s : H8) (k w : Nat) : H8 := ⟨(tmp1 s k w + tmp2 s) % 4294967296, s.a, s.b, s.c, (s.d + tmp1 s k w) % 4294967296, s.e, s.f, s.g⟩
theorem rnd_ok {s : H8} (h : s.Ok) (k w : Nat) : (rnd s k w).Ok := by
  obtain ⟨h0, h1, h2, h3, h4, h5, h6, h7⟩ := h
  exact ⟨Nat.mod_lt _ (by decide), h0, h1, h2, Nat.mod_lt _ (by decide), h4, h5, h6⟩

/-! ### constants -/
def ks : List Nat := [
  1116352408, 1899447441, 3049323471, 3921009573, 961987163, 1508970993, 2453635748, 2870763221,
  3624381080, 310598401, 607225278, 1426881987, 1925078388, 2162078206, 2614888103, 3248222580,
  3835390401, 4022224774, 264347078, 604807628, 770255983, 1249150122, 1555081692, 1996064986,
  2554220882, 2821834349, 2952996808, 3210313671, 3336571891, 3584528711, 113926993, 338241895,
  666307205, 773529912, 1294757372, 1396182291, 1695183700, 1986661051, 2177026350, 2456956037,
  2730485921, 2820302411, 3259730800, 3345764771, 3516065817, 3600352804, 4094571909, 275423344,
  430227734, 506948616, 659060556, 883997877, 958139571, 1322822218, 1537002063, 1747873779,
  1955562222, 2024104815, 2227730452, 2361852424, 2428436474, 2756734187, 3204031479, 3329325298]
def kAt (t : Nat) : Nat := ks.getD t 0
theorem kAt_all : ∀ t : Fin 64, kAt t.val < 4294967296 := by decide +kernel
theorem kAt_lt (t : Nat) (h : t < 64) : kAt t < 4294967296 := kAt_all ⟨t, h⟩
def h0 : H8 := ⟨1779033703, 3144134277, 1013904242, 2773480762, 1359893119, 2600822924, 528734635, 1541459225⟩
theorem h0_ok : h0.Ok := by unfold h0 H8.Ok; decide

/-! ### a block -/
/-- the words of a block's first rounds -/
def sched (b : List UInt8) : Nat → List Nat
  | 0 => []
  | t + 1 => sched b t ++ [if t < 16 then numL ((b.drop (4 * t)).take 4) else (ssig1 ((sched b t).getD (t - 2) 0) + (sched b t).getD (t - 7) 0 + ssig0 ((sched b t).getD (t - 15) 0) + (sched b t).getD (t - 16) 0) % 4294967296]
theorem sched_length (b : List UInt8) (t : Nat) : (sched b t).length = t := by
  induction t with
  | zero => rfl
  | succ t ih => simp [sched, ih]
theorem sched_lt (b : List UInt8) (t : Nat) : ∀ x ∈ sched b t, x < 4294967296 := by
  induction t with
  | zero => intro x hx; cases hx
  | succ t ih =>
    intro x hx
    rw [sched, List.mem_append] at hx
    rcases hx with hx | hx
    · exact ih x hx
    · rw [List.mem_singleton] at hx
      subst hx
      split
      · refine Nat.lt_of_lt_of_le (numL_lt _) ?_
        have : ((b.drop (4 * t)).take 4).length ≤ 4 := List.length_take_le _ _
        calc 256 ^ ((b.drop (4 * t)).take 4).length ≤ 256 ^ 4 := Nat.pow_le_pow_right (by decide) this
          _ = 4294967296 := by decide
      · exact Nat.mod_lt _ (by decide)
theorem sched_at_lt (b : List UInt8) (t i : Nat) : (sched b t).getD i 0 < 4294967296 := by
  rw [List.getD_eq_getElem?_getD]
  rcases h : (sched b t)[i]? with _ | x
  · simp
  · exact sched_lt b t x (List.mem_of_getElem? h)

def rnds (w : List Nat) (s : H8) : Nat → H8
  | 0 => s
  | t + 1 => rnd (rnds w s t) (kAt t) (w.getD t 0)
/-- eight words behind a block -/
def mix (s : H8) (b : List UInt8) : H8 := s.plus (rnds (sched b 64) s 64)
theorem mix_ok (s : H8) (b : List UInt8) : (mix s b).Ok := H8.plus_ok _ _

/-! ### blocks -/
def absorb (s : H8) : Nat → List UInt8 → H8
  | 0, _ => s
  | n + 1, l => absorb (mix s (l.take 64)) n (l.drop 64)
/-- eight words behind all whole blocks of bytes -/
def feed (s : H8) (l : List UInt8) : H8 := absorb s (l.length / 64) l
/-- what is left behind all whole blocks -/
def tailB (l : List UInt8) : List UInt8 := l.drop (64 * (l.length / 64))
theorem feed_short (s : H8) (l : List UInt8) (h : l.length < 64) : feed s l = s := by
  unfold feed; rw [Nat.div_eq_of_lt h]; rfl
theorem tail_short (l : List UInt8) (h : l.length < 64) : tailB l = l := by
  unfold tailB; rw [Nat.div_eq_of_lt h]; rfl
theorem feed_long (s : H8) (l : List UInt8) (h : 64 ≤ l.length) : feed s l = feed (mix s (l.take 64)) (l.drop 64) := by
  unfold feed
  obtain ⟨n, hn⟩ : ∃ n, l.length / 64 = n + 1 := ⟨l.length / 64 - 1, by omega⟩
  rw [hn, absorb, List.length_drop, show (l.length - 64) / 64 = n by omega]
theorem tail_long (l : List UInt8) (h : 64 ≤ l.length) : tailB l = tailB (l.drop 64) := by
  unfold tailB
  rw [List.length_drop, List.drop_drop]
  congr 1
  omega
theorem tail_length (l : List UInt8) : (tailB l).length = l.length % 64 := by
  unfold tailB
  rw [List.length_drop]
  omega
theorem feed_ok {s : H8} (h : s.Ok) : ∀ (n : Nat) (l : List UInt8), l.length ≤ n → (feed s l).Ok := by
  intro n
  induction n generalizing s with
  | zero => intro l hl; rw [feed_short _ _ (by omega)]; exact h
  | succ n ih =>
    intro l hl
    by_cases hs : l.length < 64
    · rw [feed_short _ _ hs]; exact h
    · rw [feed_long _ _ (by omega)]
      exact ih (mix_ok _ _) _ (by rw [List.length_drop]; omega)
theorem feed_ok' {s : H8} (h : s.Ok) (l : List UInt8) : (feed s l).Ok := feed_ok h _ l (Nat.le_refl _)
theorem feed_append (m : List UInt8) : ∀ (n : Nat) (s : H8) (l : List UInt8), l.length ≤ n → feed s (l ++ m) = feed (feed s l) (tailB l ++ m) := by
  intro n
  induction n with
  | zero => intro s l hl; rw [feed_short s l (by omega), tail_short l (by omega)]
  | succ n ih =>
    intro s l hl
    by_cases hs : l.length < 64
    · rw [feed_short s l hs, tail_short l hs]
    · rw [feed_long s l (by omega), tail_long l (by omega), feed_long s (l ++ m) (by rw [List.length_append]; omega), List.take_append_of_le_length (by omega), List.drop_append_of_le_length (by omega)]
      exact ih _ _ (by rw [List.length_drop]; omega)
theorem tail_append (m : List UInt8) : ∀ (n : Nat) (l : List UInt8), l.length ≤ n → tailB (l ++ m) = tailB (tailB l ++ m) := by
  intro n
  induction n with
  | zero => intro l hl; rw [tail_short l (by omega)]
  | succ n ih =>
    intro l hl
    by_cases hs : l.length < 64
    · rw [tail_short l hs]
    · rw [tail_long l (by omega), tail_long (l ++ m) (by rw [List.length_append]; omega), List.drop_append_of_le_length (by omega)]
      exact ih _ (by rw [List.length_drop]; omega)

/-! ### the sum -/
/-- what comes to so many bytes -/
def pad (n : Nat) : List UInt8 := 128 :: (List.replicate ((119 - n % 64) % 64) 0 ++ bigL (8 * n) 8)
theorem pad_length (n : Nat) : (pad n).length = 9 + (119 - n % 64) % 64 := by simp [pad, bigL_length]; omega
/-- the words' bytes -/
def outT (s : H8) : List UInt8 := bigL s.a 4 ++ bigL s.b 4 ++ bigL s.c 4 ++ bigL s.d 4 ++ bigL s.e 4 ++ bigL s.f 4 ++ bigL s.g 4 ++ bigL s.h 4
theorem outT_length (s : H8) : (outT s).length = 32 := by simp [outT, bigL_length]
/-- the sum of all bytes that were taken: the words, what waits, how many there were -/
def endT (s : H8) (b : List UInt8) (n : Nat) : List UInt8 := outT (feed s (b ++ pad n))
/-- the sum of bytes -/
def sumT (l : List UInt8) : List UInt8 := outT (feed h0 (l ++ pad l.length))
theorem sumT_length (l : List UInt8) : (sumT l).length = 32 := outT_length _
theorem end_sum (l : List UInt8) : endT (feed h0 l) (tailB l) l.length = sumT l := by
  unfold endT sumT
  rw [← feed_append _ l.length h0 l (Nat.le_refl _)]

end Go.Proofs.YtmekmlgpkbfjpaaGreatDoor.U

/- Values as trees: how many one is, how deep, which may be, its text; a text tells its value. Nothing of the program is named here. -/
namespace Go.Proofs.YtmekmlgpkbfjpaaGreatDoor.V
open Go

/-- a value: its kind, number, text, items and keys -/
inductive VT where
  | mk (kind n : Int) (s : List UInt8) (items : List VT) (keys : List (List UInt8)) : VT
def VT.kind : VT → Int | .mk k _ _ _ _ => k
def VT.num : VT → Int | .mk _ n _ _ _ => n
def VT.txt : VT → List UInt8 | .mk _ _ s _ _ => s
def VT.items : VT → List VT | .mk _ _ _ l _ => l
def VT.keys : VT → List (List UInt8) | .mk _ _ _ _ ks => ks
def vt0 : VT := .mk 0 0 [] [] []

/-! ### how many, how deep -/
mutual
def VT.count : VT → Nat
  | .mk _ _ _ l _ => 1 + countL l
def countL : List VT → Nat
  | [] => 0
  | x :: r => x.count + countL r
end
/- how many, one above a limit told as more: the reference's own way -/
mutual
def VT.cnt : VT → Int → Int
  | .mk _ _ _ l _, lim => cntL l lim 1
def cntL : List VT → Int → Int → Int
  | [], _, n => n
  | x :: r, lim, n => if lim < n then n else cntL r lim (n + x.cnt (lim - n))
end
end Go.Proofs.YtmekmlgpkbfjpaaGreatDoor.V

/- The text of a value, and which may be; values that may be have one text just if they are the same. Nothing of the program is named here. -/
namespace Go.Proofs.YtmekmlgpkbfjpaaGreatDoor.V
open Go

/-! ### decimal digits -/
/-! ### texts in quotes -/
/-! ### the text of a value -/
/-! ### which may be -/
/-- byte by byte -/
def lessL : List UInt8 → List UInt8 → Bool
  | [], [] => false
  | [], _ :: _ => true
  | _ :: _, [] => false
  | a :: r, b :: s => if a = b then lessL r s else decide (a.toNat < b.toNat)
end Go.Proofs.YtmekmlgpkbfjpaaGreatDoor.V

/- Byte by byte: three ways of saying it. Nothing of the program is named here. -/
namespace Go.Proofs.YtmekmlgpkbfjpaaGreatDoor.V
open Go

theorem lessL_same : ∀ x : List UInt8, lessL x x = false := by
  intro x
  induction x with
  | nil => rw [lessL]
  | cons a r ih => rw [lessL, if_pos rfl, ih]
theorem bytesLess_is : ∀ x y : List UInt8, Op.bytesLess x y = lessL x y := by
  intro x
  induction x with
  | nil => intro y; cases y with
    | nil => rw [lessL]; rfl
    | cons b s => rw [lessL]; rfl
  | cons a r ih =>
    intro y
    cases y with
    | nil => rw [lessL]; rfl
    | cons b s =>
      rw [lessL, Op.bytesLess]
      by_cases h : a = b
      · subst h
        rw [if_pos rfl, ih]
        simp
      · rw [if_neg h]
        by_cases h2 : a < b
        · have h3 : a.toNat < b.toNat := UInt8.lt_iff_toNat_lt.1 h2
          simp [h2, h3]
        · have h3 : ¬ a.toNat < b.toNat := fun h => h2 (UInt8.lt_iff_toNat_lt.2 h)
          simp [h2, h3, h]
/-- one of three -/
theorem less_three : ∀ x y : List UInt8, (lessL x y = true ∧ x ≠ y ∧ lessL y x = false) ∨ (x = y ∧ lessL x y = false ∧ lessL y x = false) ∨ (lessL x y = false ∧ x ≠ y ∧ lessL y x = true) := by
  intro x
  induction x with
  | nil => intro y; cases y with
    | nil => exact .inr (.inl ⟨rfl, by rw [lessL], by rw [lessL]⟩)
    | cons b s => exact .inl ⟨by rw [lessL], by simp, by rw [lessL]⟩
  | cons a r ih =>
    intro y
    cases y with
    | nil => exact .inr (.inr ⟨by rw [lessL], by simp, by rw [lessL]⟩)
    | cons b s =>
      rw [lessL, lessL]
      by_cases h : a = b
      · subst h
        rw [if_pos rfl, if_pos rfl]
        rcases ih s with ⟨h1, h2, h3⟩ | ⟨h1, h2, h3⟩ | ⟨h1, h2, h3⟩
        · exact .inl ⟨h1, by simpa using h2, h3⟩
        · exact .inr (.inl ⟨by rw [h1], h2, h3⟩)
        · exact .inr (.inr ⟨h1, by simpa using h2, h3⟩)
      · rw [if_neg h, if_neg (show ¬ b = a from fun e => h e.symm)]
        have hn : a.toNat ≠ b.toNat := fun e => h (UInt8.toNat_inj.1 e)
        have hne : a :: r ≠ b :: s := fun e => h (List.cons.inj e).1
        rcases Nat.lt_or_ge a.toNat b.toNat with h1 | h1
        · exact .inl ⟨decide_eq_true h1, hne, decide_eq_false (by omega)⟩
        · exact .inr (.inr ⟨decide_eq_false (by omega), hne, decide_eq_true (by omega)⟩)
theorem less_trans : ∀ x y z : List UInt8, lessL x y = true → lessL y z = true → lessL x z = true := by
  intro x
  induction x with
  | nil => intro y z h1 h2; cases z with
    | nil => cases y <;> simp [lessL] at h2
    | cons c t => rw [lessL]
  | cons a r ih =>
    intro y z h1 h2
    cases y with
    | nil => simp [lessL] at h1
    | cons b s =>
      cases z with
      | nil => simp [lessL] at h2
      | cons c t =>
        rw [lessL] at h1 h2 ⊢
        by_cases e1 : a = b
        · subst e1
          rw [if_pos rfl] at h1
          by_cases e2 : a = c
          · subst e2
            rw [if_pos rfl] at h2 ⊢
            exact ih s t h1 h2
          · rw [if_neg e2] at h2 ⊢
            exact h2
        · rw [if_neg e1] at h1
          by_cases e2 : b = c
          · subst e2
            rw [if_neg e1]
            exact h1
          · rw [if_neg e2] at h2
            have h1 := of_decide_eq_true h1
            have h2 := of_decide_eq_true h2
            have e3 : a ≠ c := fun e => by subst e; omega
            rw [if_neg e3]
            exact decide_eq_true (by omega)
end Go.Proofs.YtmekmlgpkbfjpaaGreatDoor.V

/- Plain facts of number theory: primes, Fermat's theorem, certificates by which a number is prime, p = 2^255 - 19 among them, and which numbers have a root modulo p. Nothing of the program is named here. -/
namespace Go.Proofs.YtmekmlgpkbfjpaaGreatDoor.F

/-! ### primes -/
def Pr (p : Nat) : Prop := 2 ≤ p ∧ ∀ d, d ∣ p → d = 1 ∨ d = p
theorem Pr.coprime {p a : Nat} (hp : Pr p) (h : ¬ p ∣ a) : Nat.Coprime p a := by
  rcases hp.2 (Nat.gcd p a) (Nat.gcd_dvd_left p a) with h1 | h1
  · exact h1
  · exact absurd (h1 ▸ Nat.gcd_dvd_right p a) h
theorem Pr.split {p a b : Nat} (hp : Pr p) (h : p ∣ a * b) : p ∣ a ∨ p ∣ b := by
  by_cases ha : p ∣ a
  · exact .inl ha
  · exact .inr ((hp.coprime ha).dvd_of_dvd_mul_left h)
theorem prime_divisor : ∀ n, 2 ≤ n → ∃ r, Pr r ∧ r ∣ n := by
  intro n
  induction n using Nat.strongRecOn with
  | ind n ih =>
    intro h2
    by_cases hp : ∀ d, d ∣ n → d = 1 ∨ d = n
    · exact ⟨n, ⟨h2, hp⟩, Nat.dvd_refl n⟩
    · obtain ⟨d, hd⟩ := Classical.not_forall.1 hp
      have hdn : d ∣ n := Classical.byContradiction fun h => hd fun h' => absurd h' h
      have hd1 : d ≠ 1 := fun h => hd fun _ => .inl h
      have hdn2 : d ≠ n := fun h => hd fun _ => .inr h
      have hle := Nat.le_of_dvd (by omega) hdn
      have hpos : 0 < d := Nat.pos_of_dvd_of_pos hdn (by omega)
      obtain ⟨r, hr, hrd⟩ := ih d (by omega) (by omega)
      exact ⟨r, hr, Nat.dvd_trans hrd hdn⟩

/-! ### binomials -/
def ch : Nat → Nat → Nat
  | _, 0 => 1
  | 0, _ + 1 => 0
  | n + 1, k + 1 => ch n k + ch n (k + 1)
theorem ch_zero (n : Nat) : ch n 0 = 1 := by cases n <;> rfl
theorem ch_past (n k : Nat) (h : n < k) : ch n k = 0 := by
  induction n generalizing k with
  | zero => match k, h with | k + 1, _ => rfl
  | succ n ih =>
    match k, h with
    | k + 1, h => rw [ch, ih k (by omega), ih (k + 1) (by omega)]
theorem ch_self (n : Nat) : ch n n = 1 := by
  induction n with
  | zero => rfl
  | succ n ih => rw [ch, ih, ch_past n (n + 1) (by omega)]
theorem ch_mul (n k : Nat) : (k + 1) * ch (n + 1) (k + 1) = (n + 1) * ch n k := by
  induction n generalizing k with
  | zero =>
    cases k with
    | zero => rfl
    | succ k => simp [ch]
  | succ n ih =>
    rw [ch, Nat.mul_add, ih k]
    cases k with
    | zero => simp [ch_zero]; omega
    | succ k =>
      have h := ih (k + 1)
      have h2 := ih k
      rw [show ch (n + 1) (k + 1) = ch n k + ch n (k + 1) from rfl] at *
      rw [show (k + 1 + 1) * (ch n k + ch n (k + 1)) = (k + 1) * (ch n k + ch n (k + 1)) + (ch n k + ch n (k + 1)) by rw [Nat.succ_mul], h2]
      simp only [Nat.mul_add, Nat.add_mul, Nat.one_mul]
      omega
def sumTo (f : Nat → Nat) : Nat → Nat
  | 0 => 0
  | n + 1 => sumTo f n + f n
theorem binom_step (a n m : Nat) : sumTo (fun k => ch (n + 1) k * a ^ k) (m + 1) = sumTo (fun k => ch n k * a ^ k) (m + 1) + a * sumTo (fun k => ch n k * a ^ k) m := by
  induction m with
  | zero => simp [sumTo, ch_zero]
  | succ m ih =>
    rw [sumTo, ih, sumTo.eq_2 _ (m + 1), sumTo.eq_2 (fun k => ch n k * a ^ k) m]
    rw [show ch (n + 1) (m + 1) = ch n m + ch n (m + 1) from rfl, Nat.add_mul, Nat.mul_add, Nat.pow_succ]
    rw [show ch n m * (a ^ m * a) = a * (ch n m * a ^ m) by rw [Nat.mul_comm (a ^ m) a, Nat.mul_left_comm]]
    omega
theorem binom (a n : Nat) : (a + 1) ^ n = sumTo (fun k => ch n k * a ^ k) (n + 1) := by
  induction n with
  | zero => simp [sumTo, ch]
  | succ n ih =>
    rw [binom_step, sumTo, ch_past n (n + 1) (by omega), Nat.zero_mul, Nat.add_zero, ← ih, Nat.pow_succ, Nat.mul_add, Nat.mul_one, Nat.mul_comm]
    omega
theorem sum_first (f : Nat → Nat) (p : Nat) : ∀ n, (∀ k, 0 < k → k < n + 1 → p ∣ f k) → ∃ c, sumTo f (n + 1) = f 0 + p * c := by
  intro n
  induction n with
  | zero => intro _; exact ⟨0, by simp [sumTo]⟩
  | succ n ih =>
    intro h
    obtain ⟨c, hc⟩ := ih fun k h1 h2 => h k h1 (by omega)
    obtain ⟨d, hd⟩ := h (n + 1) (by omega) (by omega)
    exact ⟨c + d, by rw [sumTo, hc, hd, Nat.mul_add]; omega⟩

/-! ### Fermat -/
theorem fermat_step {p : Nat} (hp : Pr p) (a : Nat) : (a + 1) ^ p % p = (a ^ p + 1) % p := by
  obtain ⟨q, rfl⟩ : ∃ q, p = q + 1 := ⟨p - 1, by have := hp.1; omega⟩
  have hd : ∀ k, 0 < k → k < q + 1 → (q + 1) ∣ ch (q + 1) k * a ^ k := by
    intro k h1 h2
    obtain ⟨j, rfl⟩ : ∃ j, k = j + 1 := ⟨k - 1, by omega⟩
    have hm := ch_mul q j
    have h3 : (q + 1) ∣ (j + 1) * ch (q + 1) (j + 1) := ⟨_, hm⟩
    rcases hp.split h3 with h | h
    · have := Nat.le_of_dvd (by omega) h
      omega
    · exact Nat.dvd_trans h ⟨_, rfl⟩
  obtain ⟨c, hc⟩ := sum_first (fun k => ch (q + 1) k * a ^ k) (q + 1) q hd
  rw [binom, sumTo, hc, ch_self]
  simp only [ch_zero, Nat.pow_zero, Nat.one_mul]
  rw [show 1 + (q + 1) * c + a ^ (q + 1) = a ^ (q + 1) + 1 + (q + 1) * c by omega, Nat.add_mul_mod_self_left]
theorem fermat {p : Nat} (hp : Pr p) (a : Nat) : a ^ p % p = a % p := by
  induction a with
  | zero => rw [Nat.zero_pow (by have := hp.1; omega)]
  | succ a ih => rw [fermat_step hp, Nat.add_mod, ih, ← Nat.add_mod]
theorem fermat_one {p : Nat} (hp : Pr p) (a : Nat) (h : ¬ p ∣ a) : a ^ (p - 1) % p = 1 := by
  have h1 := fermat hp a
  have h2 := hp.1
  have ha : 0 < a := Nat.pos_of_ne_zero fun e => h (e ▸ Nat.dvd_zero p)
  obtain ⟨q, hq⟩ : ∃ q, p = q + 1 := ⟨p - 1, by omega⟩
  have e : a ^ p = a ^ (p - 1) * a := by rw [← Nat.pow_succ, show (p - 1).succ = p by omega]
  have hpos : 0 < a ^ (p - 1) := Nat.pow_pos ha
  have h3 : p ∣ a * (a ^ (p - 1) - 1) := by
    rw [Nat.mul_sub, Nat.mul_one, Nat.mul_comm, ← e]
    exact Nat.dvd_of_mod_eq_zero (Nat.sub_mod_eq_zero_of_mod_eq h1)
  rcases hp.split h3 with h4 | h4
  · exact absurd h4 h
  · obtain ⟨c, hc⟩ := h4
    rw [show a ^ (p - 1) = 1 + p * c by omega, Nat.add_mul_mod_self_left, Nat.mod_eq_of_lt (by omega)]

/-! ### powers, quickly -/
def pm (n : Nat) : Nat → Nat → Nat → Nat
  | 0, _, _ => 1 % n
  | f + 1, a, e => if e = 0 then 1 % n else if e % 2 = 1 then a * pm n f (a * a % n) (e / 2) % n else pm n f (a * a % n) (e / 2)
theorem pm_eq (n f a e : Nat) (h : e < 2 ^ f) : pm n f a e = a ^ e % n := by
  induction f generalizing a e with
  | zero =>
    have : e = 0 := by simpa using h
    subst this
    rfl
  | succ f ih =>
    rw [pm]
    by_cases he : e = 0
    · subst he; rfl
    · have h2 : e / 2 < 2 ^ f := by rw [Nat.pow_succ] at h; omega
      have e1 : a ^ (2 * (e / 2)) % n = (a * a % n) ^ (e / 2) % n := by rw [Nat.pow_mul, ← Nat.pow_mod, Nat.pow_two]
      rw [if_neg he, ih _ _ h2, ← e1]
      split
      · rename_i ho
        rw [show a ^ e = a * a ^ (2 * (e / 2)) by rw [Nat.mul_comm, ← Nat.pow_succ]; congr 1; omega, Nat.mul_mod_mod]
      · congr 2
        omega

/-! ### certificates -/
theorem pow_gcd {r a : Nat} (hr : 2 ≤ r) (m k : Nat) : a ^ m % r = 1 → a ^ k % r = 1 → a ^ Nat.gcd m k % r = 1 := by
  induction m, k using Nat.gcd.induction with
  | H0 k => intro _ h; rwa [Nat.gcd_zero_left]
  | H1 m k hm ih =>
    intro h1 h2
    rw [Nat.gcd_rec]
    refine ih ?_ h1
    have e : a ^ k = (a ^ m) ^ (k / m) * a ^ (k % m) := by rw [← Nat.pow_mul, ← Nat.pow_add, Nat.div_add_mod]
    rw [e, Nat.mul_mod, Nat.pow_mod, h1, Nat.one_pow, Nat.mod_eq_of_lt (show 1 < r by omega), Nat.one_mul, Nat.mod_mod] at h2
    exact h2
theorem pock_q {n a q h r : Nat} (h2 : 2 ≤ n) (hn : n - 1 = q * h) (hq : Pr q) (ha : a ^ (n - 1) % n = 1) (hg : Nat.gcd (a ^ h % n + (n - 1)) n = 1) (hr : Pr r) (hrn : r ∣ n) : q ∣ r - 1 := by
  have hr2 := hr.1
  have h1 : a ^ (n - 1) % r = 1 := by
    have := congrArg (· % r) ha
    simp only [Nat.mod_mod_of_dvd _ hrn] at this
    rw [this, Nat.mod_eq_of_lt (by omega)]
  have hra : ¬ r ∣ a := by
    intro hd
    have h3 : r ∣ a ^ (n - 1) := Nat.dvd_trans hd ⟨a ^ (n - 2), by rw [← Nat.pow_succ']; congr 1; omega⟩
    rw [Nat.mod_eq_zero_of_dvd h3] at h1
    omega
  have h4 := pow_gcd (by omega) (n - 1) (r - 1) h1 (fermat_one hr a hra)
  apply Classical.byContradiction
  intro hnd
  have h5 : Nat.gcd (n - 1) (r - 1) ∣ h := by
    have h6 : Nat.gcd (n - 1) (r - 1) ∣ q * h := hn ▸ Nat.gcd_dvd_left _ _
    have h7 : Nat.Coprime q (Nat.gcd (n - 1) (r - 1)) := hq.coprime fun hd => hnd (Nat.dvd_trans hd (Nat.gcd_dvd_right _ _))
    exact h7.symm.dvd_of_dvd_mul_left h6
  obtain ⟨c, hc⟩ := h5
  have h8 : a ^ h % r = 1 := by rw [hc, Nat.pow_mul, Nat.pow_mod, h4, Nat.one_pow, Nat.mod_eq_of_lt (by omega)]
  have h9 : a ^ h % n % r = 1 := by rw [Nat.mod_mod_of_dvd _ hrn, h8]
  obtain ⟨d, hd⟩ := hrn
  have h10 : r ∣ a ^ h % n + (n - 1) := by
    have := Nat.div_add_mod (a ^ h % n) r
    rw [h9] at this
    exact ⟨a ^ h % n / r + d, by rw [Nat.mul_add, ← hd]; omega⟩
  have h11 : r ∣ Nat.gcd (a ^ h % n + (n - 1)) n := Nat.dvd_gcd h10 ⟨d, hd⟩
  rw [hg] at h11
  have := Nat.le_of_dvd (by decide) h11
  omega
theorem pock {n Q : Nat} (h2 : 2 ≤ n) (hQ : n < Q * Q) (h : ∀ r, Pr r → r ∣ n → Q ∣ r - 1) : Pr n := by
  refine ⟨h2, fun d hd => ?_⟩
  apply Classical.byContradiction
  intro hne
  obtain ⟨e, he⟩ := hd
  have hd1 : d ≠ 1 := fun x => hne (.inl x)
  have hdn : d ≠ n := fun x => hne (.inr x)
  have hd0 : d ≠ 0 := by rintro rfl; rw [Nat.zero_mul] at he; omega
  have he0 : e ≠ 0 := by rintro rfl; rw [Nat.mul_zero] at he; omega
  have he1 : e ≠ 1 := by rintro rfl; rw [Nat.mul_one] at he; omega
  have key : ∀ u v, n = u * v → 2 ≤ u → u ≤ v → False := by
    intro u v huv hu hle
    obtain ⟨r, hr, hru⟩ := prime_divisor u hu
    obtain ⟨c, hc⟩ := h r hr (Nat.dvd_trans hru ⟨v, huv⟩)
    have hr2 := hr.1
    have hle2 := Nat.le_of_dvd (by omega) hru
    have hQr : Q ≤ r - 1 := by
      cases c with
      | zero => omega
      | succ c => rw [Nat.mul_succ] at hc; omega
    have h3 : Q * Q ≤ u * u := Nat.mul_le_mul (by omega) (by omega)
    have h4 : u * u ≤ u * v := Nat.mul_le_mul_left u hle
    omega
  rcases Nat.le_total d e with hle | hle
  · exact key d e he (by omega) hle
  · exact key e d (by rw [Nat.mul_comm]; exact he) (by omega) hle
theorem cert1 (n a q h f : Nat) (hq : Pr q) (hc : (decide (2 ≤ n) && decide (n - 1 = q * h) && decide (n < 2 ^ f) && decide (pm n f a (n - 1) = 1) && decide (Nat.gcd (pm n f a h + (n - 1)) n = 1) && decide (n < q * q)) = true) : Pr n := by
  simp only [Bool.and_eq_true, decide_eq_true_eq] at hc
  obtain ⟨⟨⟨⟨⟨c1, c2⟩, c3⟩, c4⟩, c5⟩, c6⟩ := hc
  have hq2 := hq.1
  have hh : h ≤ n - 1 := by rw [c2]; exact Nat.le_mul_of_pos_left h (by omega)
  rw [pm_eq _ _ _ _ (by omega)] at c4 c5
  exact pock c1 c6 fun r hr hrn => pock_q c1 c2 hq c4 c5 hr hrn
theorem cert2 (n a q h q' h' f : Nat) (hq : Pr q) (hq' : Pr q') (hc : (decide (2 ≤ n) && decide (n - 1 = q * h) && decide (n - 1 = q' * h') && decide (n < 2 ^ f) && decide (pm n f a (n - 1) = 1) && decide (Nat.gcd (pm n f a h + (n - 1)) n = 1) && decide (Nat.gcd (pm n f a h' + (n - 1)) n = 1) && decide (n < q * q' * (q * q')) && decide (q < q')) = true) : Pr n := by
  simp only [Bool.and_eq_true, decide_eq_true_eq] at hc
  obtain ⟨⟨⟨⟨⟨⟨⟨⟨c1, c2⟩, c2'⟩, c3⟩, c4⟩, c5⟩, c5'⟩, c6⟩, c7⟩ := hc
  have hq2 := hq.1
  have hq2' := hq'.1
  have hh : h ≤ n - 1 := by rw [c2]; exact Nat.le_mul_of_pos_left h (by omega)
  have hh' : h' ≤ n - 1 := by rw [c2']; exact Nat.le_mul_of_pos_left h' (by omega)
  rw [pm_eq _ _ _ _ (by omega)] at c4 c5 c5'
  refine pock c1 c6 fun r hr hrn => ?_
  have hco : Nat.Coprime q q' := hq.coprime fun hd => by
    rcases hq'.2 q hd with h | h <;> omega
  exact hco.mul_dvd_of_dvd_of_dvd (pock_q c1 c2 hq c4 c5 hr hrn) (pock_q c1 c2' hq' c4 c5' hr hrn)
/-- no divisor from 2 up to k + 1 -/
def free (n : Nat) : Nat → Bool
  | 0 => true
  | k + 1 => decide (n % (k + 2) ≠ 0) && free n k
theorem free_all (n k : Nat) (h : free n k = true) : ∀ d, 2 ≤ d → d ≤ k + 1 → ¬ d ∣ n := by
  induction k with
  | zero => intro d h1 h2; omega
  | succ k ih =>
    intro d h1 h2 hd
    rw [free, Bool.and_eq_true, decide_eq_true_eq] at h
    by_cases e : d = k + 2
    · subst e
      exact h.1 (Nat.mod_eq_zero_of_dvd hd)
    · exact ih h.2 d h1 (by omega) hd
theorem small (n k : Nat) (hc : (decide (2 ≤ n) && free n k && decide (n < (k + 2) * (k + 2))) = true) : Pr n := by
  simp only [Bool.and_eq_true, decide_eq_true_eq] at hc
  obtain ⟨⟨c1, c2⟩, c3⟩ := hc
  refine ⟨c1, fun d hd => ?_⟩
  apply Classical.byContradiction
  intro hne
  obtain ⟨e, he⟩ := hd
  have hd1 : d ≠ 1 := fun x => hne (.inl x)
  have hd0 : d ≠ 0 := by rintro rfl; rw [Nat.zero_mul] at he; omega
  have he0 : e ≠ 0 := by rintro rfl; rw [Nat.mul_zero] at he; omega
  have he1 : e ≠ 1 := by rintro rfl; rw [Nat.mul_one] at he; exact hne (.inr he.symm)
  have hfd : k + 2 ≤ d := by
    apply Classical.byContradiction
    intro h
    exact free_all n k c2 d (by omega) (by omega) ⟨e, he⟩
  have hfe : k + 2 ≤ e := by
    apply Classical.byContradiction
    intro h
    exact free_all n k c2 e (by omega) (by omega) ⟨d, by rw [Nat.mul_comm]; exact he⟩
  have := Nat.mul_le_mul hfd hfe
  omega

set_option maxRecDepth 100000
theorem pr127 : Pr 127 := small 127 10 (by decide +kernel)
theorem pr4153 : Pr 4153 := small 4153 63 (by decide +kernel)
theorem pr430751 : Pr 430751 := small 430751 655 (by decide +kernel)
theorem pr569003 : Pr 569003 := small 569003 753 (by decide +kernel)
theorem pr8574133 : Pr 8574133 := small 8574133 2927 (by decide +kernel)
theorem pr2773320623 : Pr 2773320623 := cert1 2773320623 2 569003 4874 32 pr569003 (by decide +kernel)
theorem pr72106336199 : Pr 72106336199 := cert1 72106336199 2 2773320623 26 37 pr2773320623 (by decide +kernel)
theorem pr1919519569386763 : Pr 1919519569386763 := cert2 1919519569386763 2 127 15114327318006 8574133 223873314 51 pr127 pr8574133 (by decide +kernel)
theorem pr31757755568855353 : Pr 31757755568855353 := cert2 31757755568855353 2 4153 7646943310584 430751 73726481352 55 pr4153 pr430751 (by decide +kernel)
theorem pr543864801 : Pr 75445702479781427272750846543864801 := cert2 75445702479781427272750846543864801 2 72106336199 1046311689884858398375200 1919519569386763 39304471641247389600 116 pr72106336199 pr1919519569386763 (by decide +kernel)
theorem prQ : Pr 74058212732561358302231226437062788676166966415465897661863160754340907 := cert2 74058212732561358302231226437062788676166966415465897661863160754340907 2 31757755568855353 2331972502653487852620185443007392165117953542933313402 75445702479781427272750846543864801 981609426360740691344999861639072106 236 pr31757755568855353 pr543864801 (by decide +kernel)
theorem prP : Pr 57896044618658097711785492504343953926634992332820282019728792003956564819949 := cert1 57896044618658097711785492504343953926634992332820282019728792003956564819949 2 74058212732561358302231226437062788676166966415465897661863160754340907 781764 255 prQ (by decide +kernel)

/-! ### numbers modulo a prime -/
theorem mod_of_dvd_sub {p a b : Nat} (h : b ≤ a) (hd : p ∣ a - b) : a % p = b % p := by
  obtain ⟨c, hc⟩ := hd
  rw [show a = b + p * c by omega, Nat.add_mul_mod_self_left]
theorem inv_mul {p : Nat} (hp : Pr p) (x : Nat) (h : ¬ p ∣ x) : x * x ^ (p - 2) % p = 1 := by
  have h2 := hp.1
  rw [← Nat.pow_succ', show (p - 2).succ = p - 1 by omega]
  exact fermat_one hp x h
/-- two numbers of one square are alike, or each other's contraries -/
theorem two_roots {p : Nat} (hp : Pr p) (x y : Nat) (h : x * x % p = y * y % p) : x % p = y % p ∨ (x + y) % p = 0 := by
  have key : ∀ a b : Nat, b ≤ a → a * a % p = b * b % p → a % p = b % p ∨ (a + b) % p = 0 := by
    intro a b hle h
    have h1 : p ∣ a * a - b * b := Nat.dvd_of_mod_eq_zero (Nat.sub_mod_eq_zero_of_mod_eq h)
    rw [Nat.mul_self_sub_mul_self_eq] at h1
    rcases hp.split h1 with h2 | h2
    · exact .inr (Nat.mod_eq_zero_of_dvd h2)
    · exact .inl (mod_of_dvd_sub hle h2)
  rcases Nat.le_total x y with hle | hle
  · rcases key y x hle h.symm with h1 | h1
    · exact .inl h1.symm
    · exact .inr (by rw [Nat.add_comm]; exact h1)
  · exact key x y hle h

/-! ### p = 2^255 - 19 -/
def p25 : Nat := 57896044618658097711785492504343953926634992332820282019728792003956564819949
theorem p25_prime : Pr p25 := prP
theorem p25_pos : 0 < p25 := by decide
/-- half of p - 1 -/
def e25 : Nat := 28948022309329048855892746252171976963317496166410141009864396001978282409974
theorem euler (x : Nat) (h : ¬ p25 ∣ x) : x ^ e25 % p25 = 1 ∨ x ^ e25 % p25 = p25 - 1 := by
  have h1 : x ^ e25 * x ^ e25 % p25 = 1 * 1 % p25 := by
    rw [← Nat.pow_add, show e25 + e25 = p25 - 1 by decide]
    exact fermat_one p25_prime x h
  rcases two_roots p25_prime _ _ h1 with h2 | h2
  · exact .inl (h2.trans (by decide))
  · right
    have h3 := Nat.mod_lt (x ^ e25) p25_pos
    rw [Nat.add_mod] at h2
    generalize x ^ e25 % p25 = y at *
    have h4 : (y + 1 % p25) % p25 = 0 := h2
    rw [show 1 % p25 = 1 by decide] at h4
    by_cases h5 : y + 1 < p25
    · rw [Nat.mod_eq_of_lt h5] at h4
      omega
    · omega
/-- what has a root -/
def Sq (x : Nat) : Prop := ∃ y, y * y % p25 = x % p25
theorem sq_power (x : Nat) (h : ¬ p25 ∣ x) (hs : Sq x) : x ^ e25 % p25 = 1 := by
  obtain ⟨y, hy⟩ := hs
  have hny : ¬ p25 ∣ y := by
    intro hd
    apply h
    have h1 : y * y % p25 = 0 := Nat.mod_eq_zero_of_dvd (Nat.dvd_trans hd ⟨y, rfl⟩)
    rw [h1] at hy
    exact Nat.dvd_of_mod_eq_zero hy.symm
  rw [Nat.pow_mod, ← hy, ← Nat.pow_mod, ← Nat.pow_two, ← Nat.pow_mul, show 2 * e25 = p25 - 1 by decide]
  exact fermat_one p25_prime y hny
/-- a quarter of p - 1, and an eighth of p + 3 -/
def q25 : Nat := 14474011154664524427946373126085988481658748083205070504932198000989141204987
def d25 : Nat := 7237005577332262213973186563042994240829374041602535252466099000494570602494
theorem q25_two : q25 + q25 = e25 := by decide
theorem d25_two : d25 + d25 = q25 + 1 := by decide
/-- a root's candidate -/
def c25 (x : Nat) : Nat := x ^ d25
/-- a root of -1 -/
def i25 : Nat := 19681161376707505956807079304988542015446066515923890162744021073123829784752
theorem i25_two : i25 * i25 % p25 = p25 - 1 := by decide
theorem minus_one (x y z : Nat) (hx : x % p25 = p25 - 1) (hy : y % p25 = p25 - 1) : x * (y * z) % p25 = z % p25 := by
  rw [← Nat.mul_assoc, Nat.mul_mod, Nat.mul_mod x y, hx, hy, show (p25 - 1) * (p25 - 1) % p25 = 1 by decide, Nat.one_mul, Nat.mod_mod]
theorem cand (x : Nat) (hp : x ^ e25 % p25 = 1) : c25 x * c25 x % p25 = x % p25 ∨ (c25 x * i25) * (c25 x * i25) % p25 = x % p25 := by
  have h1 : c25 x * c25 x = x * x ^ q25 := by
    unfold c25
    rw [← Nat.pow_add, d25_two, Nat.pow_succ']
  have h2 : x ^ q25 * x ^ q25 % p25 = 1 * 1 % p25 := by
    rw [← Nat.pow_add, q25_two, hp]
    decide
  rcases two_roots p25_prime _ _ h2 with h3 | h3
  · left
    rw [h1, Nat.mul_mod, h3, ← Nat.mul_mod, Nat.mul_one]
  · right
    have h4 : x ^ q25 % p25 = p25 - 1 := by
      have h5 := Nat.mod_lt (x ^ q25) p25_pos
      rw [Nat.add_mod] at h3
      generalize x ^ q25 % p25 = y at *
      rw [show 1 % p25 = 1 by decide] at h3
      by_cases h6 : y + 1 < p25
      · rw [Nat.mod_eq_of_lt h6] at h3
        omega
      · omega
    rw [show c25 x * i25 * (c25 x * i25) = (c25 x * c25 x) * (i25 * i25) by simp only [Nat.mul_assoc, Nat.mul_left_comm], h1, Nat.mul_comm, show i25 * i25 * (x * x ^ q25) = i25 * i25 * (x ^ q25 * x) by rw [Nat.mul_comm x]]
    exact minus_one _ _ _ i25_two h4
/-- a number's contrary is of the other parity, below p -/
theorem contrary_odd (r : Nat) (hr : r < p25) : (p25 - r) % 2 ≠ r % 2 := by
  have : p25 % 2 = 1 := by decide
  omega
end Go.Proofs.YtmekmlgpkbfjpaaGreatDoor.F

/- Numbers modulo p as a ring in which what is not 0 has an inverse. Nothing of the program is named here. -/
namespace Go.Proofs.YtmekmlgpkbfjpaaGreatDoor.C
open Go.Proofs.YtmekmlgpkbfjpaaGreatDoor.F

instance : NeZero p25 := ⟨by decide⟩
abbrev Z := Fin p25
/-- a number modulo p -/
def z (n : Nat) : Z := Fin.ofNat p25 n
theorem z_val (n : Nat) : (z n).val = n % p25 := rfl
theorem z_iff {m n : Nat} : z m = z n ↔ m % p25 = n % p25 := ⟨fun h => congrArg Fin.val h, fun h => Fin.ext h⟩
theorem z_mod (n : Nat) : z (n % p25) = z n := z_iff.2 (Nat.mod_mod _ _)
theorem z_back (x : Z) : z x.val = x := Fin.ext (Nat.mod_eq_of_lt x.isLt)
theorem z_add (m n : Nat) : z (m + n) = z m + z n := Fin.ext (by rw [Fin.val_add, z_val, z_val, z_val, ← Nat.add_mod])
theorem z_mul (m n : Nat) : z (m * n) = z m * z n := Fin.ext (by rw [Fin.val_mul, z_val, z_val, z_val, ← Nat.mul_mod])
theorem z_zero : z 0 = 0 := rfl
theorem z_one : z 1 = 1 := rfl
theorem z_p : z p25 = 0 := Fin.ext (by rw [z_val, Nat.mod_self]; rfl)
theorem z_sub (m n : Nat) : z (m + (p25 - n % p25)) = z m - z n := by
  have h : z (p25 - n % p25) + z n = 0 := by
    rw [← z_mod n, ← z_add, Nat.sub_add_cancel (Nat.le_of_lt (Nat.mod_lt _ p25_pos)), z_p]
  rw [z_add]
  grind
theorem z_is_zero {n : Nat} : z n = 0 ↔ n % p25 = 0 := by
  rw [← z_zero, z_iff, Nat.zero_mod]
theorem zmul_zero {x y : Z} (h : x * y = 0) : x = 0 ∨ y = 0 := by
  rw [← z_back x, ← z_back y, ← z_mul, z_is_zero] at h
  rcases p25_prime.split (Nat.dvd_of_mod_eq_zero h) with h1 | h1
  · left; rw [← z_back x, z_is_zero]; exact Nat.mod_eq_zero_of_dvd h1
  · right; rw [← z_back y, z_is_zero]; exact Nat.mod_eq_zero_of_dvd h1
theorem zcancel {a x y : Z} (ha : a ≠ 0) (h : a * x = a * y) : x = y := by
  have h1 : a * (x - y) = 0 := by grind
  rcases zmul_zero h1 with h2 | h2
  · exact absurd h2 ha
  · grind
theorem zmul_ne {x y : Z} (hx : x ≠ 0) (hy : y ≠ 0) : x * y ≠ 0 := fun h => by
  rcases zmul_zero h with h | h
  · exact hx h
  · exact hy h
/-- the number whose product with x is 1 -/
def zinv (x : Z) : Z := z (x.val ^ (p25 - 2))
attribute [irreducible] zinv
theorem zinv_mul {x : Z} (h : x ≠ 0) : x * zinv x = 1 := by
  have hd : ¬ p25 ∣ x.val := fun hd => h (by rw [← z_back x, z_is_zero]; exact Nat.mod_eq_zero_of_dvd hd)
  have h1 := inv_mul p25_prime x.val hd
  have h2 : z (x.val * x.val ^ (p25 - 2)) = z 1 := z_iff.2 (by rw [h1]; decide)
  rw [z_mul, z_back] at h2
  unfold zinv
  exact h2
theorem one_ne : (1 : Z) ≠ 0 := by decide
theorem two_ne : (2 : Z) ≠ 0 := by decide

/-- a root of -1 -/
def zi : Z := z i25
theorem zi_two : zi * zi = -1 := by
  have h := i25_two
  have h1 : z (i25 * i25) = z (p25 - 1) := z_iff.2 (by rw [h]; decide)
  have h2 : z (p25 - 1) + z 1 = 0 := by
    rw [← z_add, show p25 - 1 + 1 = p25 by decide, z_p]
  rw [z_mul, z_one] at *
  show z i25 * z i25 = -1
  grind
/-- the curve's number d -/
def dN : Nat := 37095705934669439343138083508754565189542113879843219016388785533085940283555
def dd : Z := z dN
theorem dN_power : dN ^ e25 % p25 = p25 - 1 := by
  have h : pm p25 255 dN e25 = p25 - 1 := by decide +kernel
  rwa [pm_eq _ _ _ _ (by decide)] at h
theorem d_no_root (w : Z) : w * w ≠ dd := fun h => by
  have hs : Sq dN := ⟨w.val, by
    have h1 : z (w.val * w.val) = z dN := by rw [z_mul, z_back]; exact h
    exact z_iff.1 h1⟩
  have h1 := sq_power dN (fun hd => absurd (Nat.le_of_dvd (by decide) hd) (by decide)) hs
  rw [dN_power] at h1
  exact absurd h1 (by decide)
attribute [irreducible] z zi dd
theorem d_no_quot {u v : Z} (hv : v ≠ 0) : u * u ≠ dd * (v * v) := fun h => by
  have hi := zinv_mul hv
  refine d_no_root (u * zinv v) ?_
  grind
end Go.Proofs.YtmekmlgpkbfjpaaGreatDoor.C

/- The curve's points and their sums: sums are points, and hang neither on order nor on brackets. Nothing of the program is named here. -/
namespace Go.Proofs.YtmekmlgpkbfjpaaGreatDoor.C
open Go.Proofs.YtmekmlgpkbfjpaaGreatDoor.F

def On (x y : Z) : Prop := y * y - x * x = 1 + dd * (x * x * (y * y))
/-- what stands in both denominators -/
def kk (x1 y1 x2 y2 : Z) : Z := dd * (x1 * x2 * (y1 * y2))

theorem complete {x1 y1 x2 y2 : Z} (h1 : On x1 y1) (h2 : On x2 y2) : kk x1 y1 x2 y2 * kk x1 y1 x2 y2 ≠ 1 := by
  intro hee
  unfold On at h1 h2
  have hi := zi_two
  obtain ⟨e, he⟩ : ∃ e, kk x1 y1 x2 y2 = e := ⟨_, rfl⟩
  rw [he] at hee
  unfold kk at he
  have hxy : x1 * y1 ≠ 0 := fun h => by
    have : e = 0 := by grind
    rw [this] at hee
    exact absurd hee (by decide)
  have k1 : (zi * x1 + e * y1) * (zi * x1 + e * y1) = dd * ((x1 * y1 * (zi * x2 + y2)) * (x1 * y1 * (zi * x2 + y2))) := by grind
  have k2 : (zi * x1 - e * y1) * (zi * x1 - e * y1) = dd * ((x1 * y1 * (zi * x2 - y2)) * (x1 * y1 * (zi * x2 - y2))) := by grind
  by_cases s : zi * x2 + y2 = 0
  · by_cases t : zi * x2 - y2 = 0
    · have h3 : 2 * y2 = 0 := by grind
      rcases zmul_zero h3 with h4 | h4
      · exact two_ne h4
      · have : e = 0 := by grind
        rw [this] at hee
        exact absurd hee (by decide)
    · exact d_no_quot (zmul_ne hxy t) k2
  · exact d_no_quot (zmul_ne hxy s) k1
theorem plus_ne {x1 y1 x2 y2 : Z} (h1 : On x1 y1) (h2 : On x2 y2) : 1 + kk x1 y1 x2 y2 ≠ 0 := fun h => complete h1 h2 (by grind)
theorem minus_ne {x1 y1 x2 y2 : Z} (h1 : On x1 y1) (h2 : On x2 y2) : 1 - kk x1 y1 x2 y2 ≠ 0 := fun h => complete h1 h2 (by grind)

/-! ### points -/
structure Pt where
  x : Z
  y : Z
theorem Pt.same {P Q : Pt} (hx : P.x = Q.x) (hy : P.y = Q.y) : P = Q := by
  cases P; cases Q; simp only at hx hy; rw [hx, hy]
def Pt.On (P : Pt) : Prop := C.On P.x P.y
def Pt.k (P Q : Pt) : Z := kk P.x P.y Q.x Q.y
def Pt.add (P Q : Pt) : Pt := ⟨(P.x * Q.y + Q.x * P.y) * zinv (1 + P.k Q), (P.y * Q.y + P.x * Q.x) * zinv (1 - P.k Q)⟩
def Pt.zero : Pt := ⟨0, 1⟩
def Pt.neg (P : Pt) : Pt := ⟨-P.x, P.y⟩
theorem Pt.zero_on : Pt.zero.On := by
  unfold Pt.On C.On Pt.zero
  grind
theorem Pt.neg_on {P : Pt} (h : P.On) : P.neg.On := by
  unfold Pt.On C.On Pt.neg at *
  grind

/-- the sum, without a division -/
theorem Pt.add_is {P Q : Pt} (h1 : P.On) (h2 : Q.On) : (P.add Q).x * (1 + P.k Q) = P.x * Q.y + Q.x * P.y ∧ (P.add Q).y * (1 - P.k Q) = P.y * Q.y + P.x * Q.x := by
  have i1 := zinv_mul (plus_ne h1 h2)
  have i2 := zinv_mul (minus_ne h1 h2)
  unfold Pt.add Pt.k at *
  constructor
  · grind
  · grind
/-- .. and nothing else is it -/
theorem Pt.add_only {P Q R : Pt} (h1 : P.On) (h2 : Q.On) (hx : R.x * (1 + P.k Q) = P.x * Q.y + Q.x * P.y) (hy : R.y * (1 - P.k Q) = P.y * Q.y + P.x * Q.x) : R = P.add Q := by
  obtain ⟨a, b⟩ := Pt.add_is h1 h2
  refine Pt.same ?_ ?_
  · exact zcancel (plus_ne h1 h2) (by rw [show (1 + kk P.x P.y Q.x Q.y) = 1 + P.k Q from rfl]; grind)
  · exact zcancel (minus_ne h1 h2) (by rw [show (1 - kk P.x P.y Q.x Q.y) = 1 - P.k Q from rfl]; grind)

theorem sum_on {x1 y1 x2 y2 x3 y3 k : Z} (h1 : y1 * y1 - x1 * x1 = 1 + dd * (x1 * x1 * (y1 * y1))) (h2 : y2 * y2 - x2 * x2 = 1 + dd * (x2 * x2 * (y2 * y2))) (hk : k = dd * (x1 * x2 * (y1 * y2)))
    (hx : x3 * (1 + k) = x1 * y2 + x2 * y1) (hy : y3 * (1 - k) = y1 * y2 + x1 * x2) : ((1 + k) * (1 - k)) * ((1 + k) * (1 - k)) * (y3 * y3 - x3 * x3) = ((1 + k) * (1 - k)) * ((1 + k) * (1 - k)) * (1 + dd * (x3 * x3 * (y3 * y3))) := by
  have e1 : ((1 + k) * (1 - k)) * ((1 + k) * (1 - k)) * (y3 * y3 - x3 * x3) = (1 + k) * (1 + k) * ((y1 * y2 + x1 * x2) * (y1 * y2 + x1 * x2)) - (1 - k) * (1 - k) * ((x1 * y2 + x2 * y1) * (x1 * y2 + x2 * y1)) := by
    rw [← hx, ← hy]; grind
  have e2 : ((1 + k) * (1 - k)) * ((1 + k) * (1 - k)) * (1 + dd * (x3 * x3 * (y3 * y3))) = (1 - k * k) * (1 - k * k) + dd * ((x1 * y2 + x2 * y1) * (x1 * y2 + x2 * y1) * ((y1 * y2 + x1 * x2) * (y1 * y2 + x1 * x2))) := by
    rw [← hx, ← hy]; grind
  rw [e1, e2, hk]
  clear e1 e2 hx hy hk
  grind
theorem Pt.add_on {P Q : Pt} (h1 : P.On) (h2 : Q.On) : (P.add Q).On := by
  obtain ⟨a, b⟩ := Pt.add_is h1 h2
  have hne : ((1 + P.k Q) * (1 - P.k Q)) * ((1 + P.k Q) * (1 - P.k Q)) ≠ 0 := zmul_ne (zmul_ne (plus_ne h1 h2) (minus_ne h1 h2)) (zmul_ne (plus_ne h1 h2) (minus_ne h1 h2))
  exact zcancel hne (sum_on h1 h2 rfl a b)

theorem Pt.add_comm (P Q : Pt) : P.add Q = Q.add P := by
  have hk : P.k Q = Q.k P := by unfold Pt.k kk; grind
  unfold Pt.add
  rw [hk, show P.x * Q.y + Q.x * P.y = Q.x * P.y + P.x * Q.y by grind, show P.y * Q.y + P.x * Q.x = Q.y * P.y + Q.x * P.x by grind]
theorem Pt.add_zero {P : Pt} (h : P.On) : P.add Pt.zero = P := by
  refine (Pt.add_only h Pt.zero_on ?_ ?_).symm
  · unfold Pt.k kk Pt.zero; grind
  · unfold Pt.k kk Pt.zero; grind
theorem Pt.zero_add {P : Pt} (h : P.On) : Pt.zero.add P = P := by rw [Pt.add_comm, Pt.add_zero h]
theorem Pt.add_neg {P : Pt} (h : P.On) : P.add P.neg = Pt.zero := by
  refine (Pt.add_only h (Pt.neg_on h) ?_ ?_).symm
  · unfold Pt.k kk Pt.zero Pt.neg; grind
  · unfold Pt.On C.On at h
    unfold Pt.k kk Pt.zero Pt.neg
    grind

set_option maxHeartbeats 4000000 in
theorem assoc_x {x1 y1 x2 y2 x3 y3 d : Z} (h1 : y1 * y1 - x1 * x1 = 1 + d * (x1 * x1 * (y1 * y1))) (h2 : y2 * y2 - x2 * x2 = 1 + d * (x2 * x2 * (y2 * y2))) (h3 : y3 * y3 - x3 * x3 = 1 + d * (x3 * x3 * (y3 * y3))) :
    ((x1*y2+x2*y1)*(1 - d*(x1*x2*(y1*y2)))*y3 + x3*(y1*y2+x1*x2)*(1 + d*(x1*x2*(y1*y2)))) * ((1 + d*(x2*x3*(y2*y3)))*(1 - d*(x2*x3*(y2*y3))) + d*(x1*y1*(x2*y3+x3*y2)*(y2*y3+x2*x3)))
      = (x1*(y2*y3+x2*x3)*(1 + d*(x2*x3*(y2*y3))) + y1*(x2*y3+x3*y2)*(1 - d*(x2*x3*(y2*y3)))) * ((1 + d*(x1*x2*(y1*y2)))*(1 - d*(x1*x2*(y1*y2))) + d*((x1*y2+x2*y1)*(y1*y2+x1*x2)*x3*y3)) := by grind (splits := 0)
set_option maxHeartbeats 4000000 in
theorem assoc_y {x1 y1 x2 y2 x3 y3 d : Z} (h1 : y1 * y1 - x1 * x1 = 1 + d * (x1 * x1 * (y1 * y1))) (h2 : y2 * y2 - x2 * x2 = 1 + d * (x2 * x2 * (y2 * y2))) (h3 : y3 * y3 - x3 * x3 = 1 + d * (x3 * x3 * (y3 * y3))) :
    ((y1*y2+x1*x2)*(1 + d*(x1*x2*(y1*y2)))*y3 + (x1*y2+x2*y1)*(1 - d*(x1*x2*(y1*y2)))*x3) * ((1 + d*(x2*x3*(y2*y3)))*(1 - d*(x2*x3*(y2*y3))) - d*(x1*y1*(x2*y3+x3*y2)*(y2*y3+x2*x3)))
      = (y1*(y2*y3+x2*x3)*(1 + d*(x2*x3*(y2*y3))) + x1*(x2*y3+x3*y2)*(1 - d*(x2*x3*(y2*y3)))) * ((1 + d*(x1*x2*(y1*y2)))*(1 - d*(x1*x2*(y1*y2))) - d*((x1*y2+x2*y1)*(y1*y2+x1*x2)*x3*y3)) := by grind (splits := 0)

theorem Pt.add_assoc {P Q R : Pt} (h1 : P.On) (h2 : Q.On) (h3 : R.On) : (P.add Q).add R = P.add (Q.add R) := by
  have hPQ := Pt.add_on h1 h2
  have hQR := Pt.add_on h2 h3
  obtain ⟨a1, b1⟩ := Pt.add_is h1 h2
  obtain ⟨a2, b2⟩ := Pt.add_is h2 h3
  obtain ⟨a3, b3⟩ := Pt.add_is hPQ h3
  obtain ⟨a4, b4⟩ := Pt.add_is h1 hQR
  have n1 := plus_ne h1 h2
  have m1 := minus_ne h1 h2
  have n2 := plus_ne h2 h3
  have m2 := minus_ne h2 h3
  have n3 := plus_ne hPQ h3
  have m3 := minus_ne hPQ h3
  have n4 := plus_ne h1 hQR
  have m4 := minus_ne h1 hQR
  have hx := assoc_x h1 h2 h3
  have hy := assoc_y h1 h2 h3
  unfold Pt.k at a1 b1 a2 b2 a3 b3 a4 b4
  unfold kk at a1 b1 a2 b2 a3 b3 a4 b4 n1 m1 n2 m2 n3 m3 n4 m4
  clear h1 h2 h3 hPQ hQR
  generalize ((P.add Q).add R) = L at *
  generalize (P.add (Q.add R)) = M at *
  generalize P.add Q = U at *
  generalize Q.add R = V at *
  obtain ⟨x1, y1⟩ := P
  obtain ⟨x2, y2⟩ := Q
  obtain ⟨x3, y3⟩ := R
  obtain ⟨u, v⟩ := U
  obtain ⟨s, t⟩ := V
  obtain ⟨p, q⟩ := L
  obtain ⟨p', q'⟩ := M
  simp only at *
  obtain ⟨k, hk⟩ : ∃ k, dd * (x1 * x2 * (y1 * y2)) = k := ⟨_, rfl⟩
  obtain ⟨l, hl⟩ : ∃ l, dd * (x2 * x3 * (y2 * y3)) = l := ⟨_, rfl⟩
  rw [hk] at a1 b1 n1 m1 hx hy
  rw [hl] at a2 b2 n2 m2 hx hy
  rw [← a1, ← b1, ← a2, ← b2] at hx hy
  have hxx : ((1 + k) * (1 - k) * (1 + dd * (u * x3 * (v * y3)))) * ((1 + l) * (1 - l) * (1 + dd * (x1 * s * (y1 * t)))) * p = ((1 + k) * (1 - k) * (1 + dd * (u * x3 * (v * y3)))) * ((1 + l) * (1 - l) * (1 + dd * (x1 * s * (y1 * t)))) * p' := by
    have e1 : p * (1 + dd * (u * x3 * (v * y3))) * ((1 + k) * (1 - k)) = (u * (1 + k)) * (1 - k) * y3 + x3 * (v * (1 - k)) * (1 + k) := by rw [a3]; clear hx hy; grind
    have e2 : p' * (1 + dd * (x1 * s * (y1 * t))) * ((1 + l) * (1 - l)) = x1 * (t * (1 - l)) * (1 + l) + y1 * (s * (1 + l)) * (1 - l) := by rw [a4]; clear hx hy; grind
    have e3 : (1 + l) * (1 - l) + dd * (x1 * y1 * (s * (1 + l)) * (t * (1 - l))) = (1 + l) * (1 - l) * (1 + dd * (x1 * s * (y1 * t))) := by clear hx hy; grind
    have e4 : (1 + k) * (1 - k) + dd * ((u * (1 + k)) * (v * (1 - k)) * x3 * y3) = (1 + k) * (1 - k) * (1 + dd * (u * x3 * (v * y3))) := by clear hx hy; grind
    rw [← e1, ← e2, e3, e4] at hx
    clear hy e1 e2 e3 e4 a1 b1 a2 b2 a3 b3 a4 b4 hk hl
    grind
  have hyy : ((1 + k) * (1 - k) * (1 - dd * (u * x3 * (v * y3)))) * ((1 + l) * (1 - l) * (1 - dd * (x1 * s * (y1 * t)))) * q = ((1 + k) * (1 - k) * (1 - dd * (u * x3 * (v * y3)))) * ((1 + l) * (1 - l) * (1 - dd * (x1 * s * (y1 * t)))) * q' := by
    have e1 : q * (1 - dd * (u * x3 * (v * y3))) * ((1 + k) * (1 - k)) = (v * (1 - k)) * (1 + k) * y3 + (u * (1 + k)) * (1 - k) * x3 := by rw [b3]; clear hx hy; grind
    have e2 : q' * (1 - dd * (x1 * s * (y1 * t))) * ((1 + l) * (1 - l)) = y1 * (t * (1 - l)) * (1 + l) + x1 * (s * (1 + l)) * (1 - l) := by rw [b4]; clear hx hy; grind
    have e3 : (1 + l) * (1 - l) - dd * (x1 * y1 * (s * (1 + l)) * (t * (1 - l))) = (1 + l) * (1 - l) * (1 - dd * (x1 * s * (y1 * t))) := by clear hx hy; grind
    have e4 : (1 + k) * (1 - k) - dd * ((u * (1 + k)) * (v * (1 - k)) * x3 * y3) = (1 + k) * (1 - k) * (1 - dd * (u * x3 * (v * y3))) := by clear hx hy; grind
    rw [← e1, ← e2, e3, e4] at hy
    clear hx e1 e2 e3 e4 a1 b1 a2 b2 a3 b3 a4 b4 hk hl
    grind
  refine Pt.same ?_ ?_
  · exact zcancel (zmul_ne (zmul_ne (zmul_ne n1 m1) n3) (zmul_ne (zmul_ne n2 m2) n4)) hxx
  · exact zcancel (zmul_ne (zmul_ne (zmul_ne n1 m1) m3) (zmul_ne (zmul_ne n2 m2) m4)) hyy
end Go.Proofs.YtmekmlgpkbfjpaaGreatDoor.C

/- A point so many times; points by three numbers; the base point, and how often it is zero. Nothing of the program is named here. -/
namespace Go.Proofs.YtmekmlgpkbfjpaaGreatDoor.C
open Go.Proofs.YtmekmlgpkbfjpaaGreatDoor.F

/-! ### so many times -/
def Pt.smul (P : Pt) : Nat → Pt
  | 0 => Pt.zero
  | n + 1 => (P.smul n).add P
section
variable {P : Pt} (h : P.On)
include h
theorem Pt.smul_on (n : Nat) : (P.smul n).On := by
  induction n with
  | zero => exact Pt.zero_on
  | succ n ih => exact Pt.add_on ih h
theorem Pt.smul_one : P.smul 1 = P := Pt.zero_add h
theorem Pt.smul_add (m n : Nat) : P.smul (m + n) = (P.smul m).add (P.smul n) := by
  induction n with
  | zero => exact (Pt.add_zero (Pt.smul_on h m)).symm
  | succ n ih =>
    show (P.smul (m + n)).add P = (P.smul m).add ((P.smul n).add P)
    rw [ih, Pt.add_assoc (Pt.smul_on h m) (Pt.smul_on h n) h]
theorem Pt.smul_two (n : Nat) : P.smul (2 * n) = (P.smul n).add (P.smul n) := by rw [Nat.two_mul, Pt.smul_add h]
theorem Pt.smul_mul (m n : Nat) : P.smul (m * n) = (P.smul m).smul n := by
  induction n with
  | zero => rfl
  | succ n ih =>
    rw [Nat.mul_succ, Pt.smul_add h, ih]
    rfl
theorem Pt.smul_mod {L : Nat} (hL : P.smul L = Pt.zero) (n : Nat) : P.smul (n % L) = P.smul n := by
  have h0 : ∀ q, Pt.zero.smul q = Pt.zero := fun q => by
    induction q with
    | zero => rfl
    | succ q ih =>
      show (Pt.zero.smul q).add Pt.zero = Pt.zero
      rw [ih, Pt.add_zero Pt.zero_on]
  conv => rhs; rw [← Nat.div_add_mod n L]
  rw [Pt.smul_add h, Pt.smul_mul h, hL, h0, Pt.zero_add (Pt.smul_on h _)]
end

/-! ### points by three numbers -/
/-- x is X / Z, y is Y / Z -/
structure Rep (X Y Zc : Z) (P : Pt) : Prop where
  ne : Zc ≠ 0
  x : X = P.x * Zc
  y : Y = P.y * Zc
theorem Rep.same {X Y Zc : Z} {P Q : Pt} (h1 : Rep X Y Zc P) (h2 : Rep X Y Zc Q) : P = Q := by
  obtain ⟨n, a, b⟩ := h1
  obtain ⟨_, c, d⟩ := h2
  exact Pt.same (zcancel n (by grind)) (zcancel n (by grind))
theorem Rep.zero : Rep 0 1 1 Pt.zero := ⟨one_ne, by unfold Pt.zero; grind, by unfold Pt.zero; grind⟩
theorem Rep.one (P : Pt) : Rep P.x P.y 1 P := ⟨one_ne, by grind, by grind⟩
theorem rF (a b c e p q d : Z) : (p * q) * (p * q) - d * ((a * p) * (c * q) * ((b * p) * (e * q))) = ((p * q) * (p * q)) * (1 - d * (a * c * (b * e))) := by grind
theorem rG (a b c e p q d : Z) : (p * q) * (p * q) + d * ((a * p) * (c * q) * ((b * p) * (e * q))) = ((p * q) * (p * q)) * (1 + d * (a * c * (b * e))) := by grind
theorem rX (a b c e p q : Z) : (a * p) * (e * q) + (c * q) * (b * p) = (p * q) * (a * e + c * b) := by grind
theorem rY (a b c e p q : Z) : (b * p) * (e * q) + (a * p) * (c * q) = (p * q) * (b * e + a * c) := by grind
theorem rU (A u k : Z) : A * (A * A * (1 - k)) * (A * (u * (1 + k))) = u * (A * A * (1 - k) * (A * A * (1 + k))) := by grind
theorem rV (A v k : Z) : A * (A * A * (1 + k)) * (A * (v * (1 - k))) = v * (A * A * (1 - k) * (A * A * (1 + k))) := by grind
/-- their sum by three numbers: nothing is divided -/
theorem Rep.add {X1 Y1 Z1 X2 Y2 Z2 : Z} {P Q : Pt} (h1 : Rep X1 Y1 Z1 P) (h2 : Rep X2 Y2 Z2 Q) (hP : P.On) (hQ : Q.On) {A B C D E F G : Z} (hA : A = Z1 * Z2) (hB : B = A * A) (hC : C = X1 * X2) (hD : D = Y1 * Y2) (hE : E = dd * (C * D)) (hF : F = B - E) (hG : G = B + E) :
    Rep (A * F * (X1 * Y2 + X2 * Y1)) (A * G * (D + C)) (F * G) (P.add Q) := by
  obtain ⟨n1, a1, b1⟩ := h1
  obtain ⟨n2, a2, b2⟩ := h2
  obtain ⟨sx, sy⟩ := Pt.add_is hP hQ
  have np := plus_ne hP hQ
  have nm := minus_ne hP hQ
  rw [show kk P.x P.y Q.x Q.y = P.k Q from rfl] at np nm
  have hk : P.k Q = dd * (P.x * Q.x * (P.y * Q.y)) := rfl
  generalize P.k Q = k at *
  obtain ⟨u, hu⟩ : ∃ u, (P.add Q).x = u := ⟨_, rfl⟩
  obtain ⟨v, hv⟩ : ∃ v, (P.add Q).y = v := ⟨_, rfl⟩
  rw [hu] at sx
  rw [hv] at sy
  have eF : F = B * (1 - k) := by rw [hF, hE, hC, hD, a1, a2, b1, b2, hB, hA, hk, rF]
  have eG : G = B * (1 + k) := by rw [hG, hE, hC, hD, a1, a2, b1, b2, hB, hA, hk, rG]
  have hBne : B ≠ 0 := by
    rw [hB, hA]
    exact zmul_ne (zmul_ne n1 n2) (zmul_ne n1 n2)
  have ex : X1 * Y2 + X2 * Y1 = A * (P.x * Q.y + Q.x * P.y) := by rw [hA, a1, a2, b1, b2, rX]
  have ey : D + C = A * (P.y * Q.y + P.x * Q.x) := by rw [hC, hD, hA, a1, a2, b1, b2, rY]
  refine ⟨?_, ?_, ?_⟩
  · rw [eF, eG]
    exact zmul_ne (zmul_ne hBne nm) (zmul_ne hBne np)
  · rw [hu, ex, ← sx, eF, eG, hB, rU]
  · rw [hv, ey, ← sy, eF, eG, hB, rV]

/-! ### the base point -/
def bxN : Nat := 15112221349535400772501151409588531511454012693041857206046113283949847762202
def byN : Nat := 46316835694926478169428394003475163141307993866256225615783033603165251855960
def Bp : Pt := ⟨z bxN, z byN⟩
theorem on_nat {x y : Nat} (h : (y * y) % p25 = (1 + dN * (x * x * (y * y)) + x * x) % p25) : On (z x) (z y) := by
  have h1 := z_iff.2 h
  simp only [z_add, z_mul, z_one] at h1
  have h2 : z dN = dd := by unfold dd; rfl
  rw [h2] at h1
  unfold On
  grind
theorem Bp_on : Bp.On := on_nat (x := bxN) (y := byN) (by decide)
def l25' : Nat := 7237005577332262213973186563042994240857116359379907606001950938285454250989

/-! ### so many times, reckoned -/
/-- a number is worked out before it is handed on -/
def frc {α : Type} (n : Nat) (k : Nat → α) : α := match n with
  | 0 => k 0
  | m + 1 => k (m + 1)
theorem frc_eq {α : Type} (n : Nat) (k : Nat → α) : frc n k = k n := by cases n <;> rfl
def padd {α : Type} (X1 Y1 Z1 X2 Y2 Z2 : Nat) (k : Nat → Nat → Nat → α) : α :=
  frc (Z1 * Z2 % p25) fun A => frc (A * A % p25) fun B => frc (X1 * X2 % p25) fun C => frc (Y1 * Y2 % p25) fun D => frc (dN * (C * D) % p25) fun E =>
    frc ((B + (p25 - E % p25)) % p25) fun F => frc ((B + E) % p25) fun G => frc (A * F * (X1 * Y2 + X2 * Y1) % p25) fun X => frc (A * G * (D + C) % p25) fun Y => frc (F * G % p25) fun W => k X Y W
def lad {α : Type} (bx b : Nat) : Nat → Nat → (Nat → Nat → Nat → α) → α
  | 0, _, k => k 0 1 1
  | f + 1, n, k => lad bx b f (n / 2) fun X Y W => padd X Y W X Y W fun X Y W => if n % 2 = 1 then padd X Y W bx b 1 k else k X Y W
theorem z_neg (n : Nat) : z (p25 - n % p25) = -z n := by
  have h := z_sub 0 n
  rw [Nat.zero_add, z_zero] at h
  rw [h]
  grind
theorem z_less (a b : Z) : a - b = a + -b := by grind
theorem padd_rep {α : Type} {X1 Y1 Z1 X2 Y2 Z2 : Nat} {P Q : Pt} (h1 : Rep (z X1) (z Y1) (z Z1) P) (h2 : Rep (z X2) (z Y2) (z Z2) Q) (hP : P.On) (hQ : Q.On) (k : Nat → Nat → Nat → α) :
    ∃ X Y W, padd X1 Y1 Z1 X2 Y2 Z2 k = k X Y W ∧ Rep (z X) (z Y) (z W) (P.add Q) := by
  refine ⟨_, _, _, by unfold padd; simp only [frc_eq]; rfl, ?_⟩
  have h := Rep.add h1 h2 hP hQ rfl rfl rfl rfl rfl rfl rfl
  have hd : dd = z dN := by unfold dd; rfl
  simp only [z_mod, z_mul, z_add, z_neg]
  rw [hd, z_less] at h
  exact h
theorem lad_rep {α : Type} (x y : Nat) (hon : On (z x) (z y)) : ∀ (f n : Nat), n < 2 ^ f → ∀ k : Nat → Nat → Nat → α, ∃ X Y W, lad x y f n k = k X Y W ∧ Rep (z X) (z Y) (z W) (Pt.smul ⟨z x, z y⟩ n) := by
  intro f
  have hB : Pt.On ⟨z x, z y⟩ := hon
  induction f with
  | zero =>
    intro n hn k
    obtain rfl : n = 0 := by omega
    exact ⟨0, 1, 1, rfl, by rw [z_zero, z_one]; exact Rep.zero⟩
  | succ f ih =>
    intro n hn k
    have hn2 : n / 2 < 2 ^ f := by rw [Nat.pow_succ] at hn; omega
    obtain ⟨X, Y, W, e1, r1⟩ := ih (n / 2) hn2 (fun X Y W => padd X Y W X Y W fun X Y W => if n % 2 = 1 then padd X Y W x y 1 k else k X Y W)
    have hs := Pt.smul_on hB (n / 2)
    obtain ⟨X2, Y2, W2, e2, r2⟩ := padd_rep r1 r1 hs hs (fun X Y W => if n % 2 = 1 then padd X Y W x y 1 k else k X Y W)
    rw [← Pt.smul_two hB] at r2
    have hs2 := Pt.smul_on hB (2 * (n / 2))
    by_cases hodd : n % 2 = 1
    · obtain ⟨X3, Y3, W3, e3, r3⟩ := padd_rep r2 (show Rep (z x) (z y) (z 1) ⟨z x, z y⟩ by rw [z_one]; exact Rep.one ⟨z x, z y⟩) hs2 hB k
      refine ⟨X3, Y3, W3, ?_, ?_⟩
      · rw [lad, e1, e2, if_pos hodd, e3]
      · have h3 : Pt.smul ⟨z x, z y⟩ n = (Pt.smul ⟨z x, z y⟩ (2 * (n / 2))).add ⟨z x, z y⟩ := by
          conv => lhs; rw [show n = 2 * (n / 2) + 1 by omega]
          rfl
        rw [h3]
        exact r3
    · refine ⟨X2, Y2, W2, ?_, ?_⟩
      · rw [lad, e1, e2, if_neg hodd]
      · have h3 : Pt.smul ⟨z x, z y⟩ n = Pt.smul ⟨z x, z y⟩ (2 * (n / 2)) := by
          conv => lhs; rw [show n = 2 * (n / 2) by omega]
        rw [h3]
        exact r2
theorem lad_order : lad bxN byN 253 l25' (fun X Y W => decide (X = 0) && decide (Y = W)) = true := by decide +kernel
theorem Bp_order : Bp.smul l25' = Pt.zero := by
  obtain ⟨X, Y, W, e, r⟩ := lad_rep bxN byN Bp_on 253 l25' (by decide) (fun X Y W => decide (X = 0) && decide (Y = W))
  rw [lad_order] at e
  have e' := e.symm
  simp only [Bool.and_eq_true, decide_eq_true_eq] at e'
  obtain ⟨rfl, rfl⟩ := e'
  obtain ⟨n, a, b⟩ := r
  have hx : Bp.smul l25' = Pt.smul ⟨z bxN, z byN⟩ l25' := rfl
  rw [hx]
  refine Pt.same ?_ ?_
  · exact zcancel n (by rw [z_zero] at a; show z Y * _ = z Y * 0; grind)
  · exact zcancel n (by show z Y * _ = z Y * 1; grind)
end Go.Proofs.YtmekmlgpkbfjpaaGreatDoor.C

/- Numbers as digits to the base 65536, the lowest one first: what reckoning with them comes to. Nothing of the program is named here. -/
namespace Go.Proofs.YtmekmlgpkbfjpaaGreatDoor.F

/-! ### the number of digits -/
def val : List Nat → Nat
  | [] => 0
  | d :: r => d + 65536 * val r
def Dg (l : List Nat) : Prop := ∀ d ∈ l, d < 65536
theorem Dg.at {l : List Nat} (h : Dg l) (i : Nat) : l.getD i 0 < 65536 := by
  rw [List.getD_eq_getElem?_getD]
  rcases e : l[i]? with _ | x
  · simp
  · exact h x (List.mem_of_getElem? e)
theorem Dg.take {l : List Nat} (h : Dg l) (n : Nat) : Dg (l.take n) := fun d hd => h d (List.mem_of_mem_take hd)
theorem Dg.drop {l : List Nat} (h : Dg l) (n : Nat) : Dg (l.drop n) := fun d hd => h d (List.mem_of_mem_drop hd)
theorem val_append (a b : List Nat) : val (a ++ b) = val a + 65536 ^ a.length * val b := by
  induction a with
  | nil => simp [val]
  | cons x a ih =>
    rw [List.cons_append, val, ih, val, List.length_cons, Nat.pow_succ, Nat.mul_add, Nat.mul_comm (65536 ^ a.length) 65536, Nat.mul_assoc]
    omega
theorem val_snoc (l : List Nat) (x : Nat) : val (l ++ [x]) = val l + 65536 ^ l.length * x := by rw [val_append]; simp [val]
theorem val_take_succ (l : List Nat) (i : Nat) (h : i < l.length) : val (l.take (i + 1)) = val (l.take i) + 65536 ^ i * l.getD i 0 := by
  rw [List.take_succ_eq_append_getElem h, val_snoc, List.length_take, Nat.min_eq_left (by omega), List.getD_eq_getElem?_getD, List.getElem?_eq_getElem h]
  rfl
/-! ### without zeros at the end -/
/-- it does not end in a zero -/
def Tr (l : List Nat) : Prop := ∀ n, l.length = n + 1 → l.getD n 0 ≠ 0
theorem Tr.ge {l : List Nat} (h : Tr l) (n : Nat) (hn : l.length = n + 1) : 65536 ^ n ≤ val l := by
  have h1 := h n hn
  have h2 := val_take_succ l n (by omega)
  rw [List.take_of_length_le (by omega)] at h2
  have h3 : 65536 ^ n * 1 ≤ 65536 ^ n * l.getD n 0 := Nat.mul_le_mul_left _ (by omega)
  omega
/-! ### which one is less -/
/-! ### what is carried -/
theorem getD_past {l : List Nat} {i : Nat} (h : ¬ i < l.length) : l.getD i 0 = 0 := by
  rw [List.getD_eq_getElem?_getD, List.getElem?_eq_none (by omega)]
  rfl
def Bd (M : Nat) (l : List Nat) : Prop := ∀ d ∈ l, d ≤ M
theorem Bd.at {M : Nat} {l : List Nat} (h : Bd M l) (i : Nat) : l.getD i 0 ≤ M := by
  rw [List.getD_eq_getElem?_getD]
  rcases e : l[i]? with _ | x
  · exact Nat.zero_le _
  · exact h x (List.mem_of_getElem? e)
/-! ### a difference -/
end Go.Proofs.YtmekmlgpkbfjpaaGreatDoor.F

