/- Texts that stand on one another, put together: Math, RowsMath, JMath, UMath, Base, UMem. -/
import Derived.BigQuiet
import Derived.Deep.MidRow
import Derived.Deep.QuietTactic
import Derived.Laws.Bits64
import Derived.Laws.BitsLemmas
import Derived.Lib.Bytealg
import Derived.Lib.Hide
import Derived.Lib.Strings
import Derived.Lib.UnsafeStr
import Derived.Test.YtdjglghecekeoaaGreatDoorProg
import Derived.WalkKit
import Derived.WalkLawsBesides
import Derived.WalkSpells
/- Plain facts about bytes' digits and numbers' bytes, as lists of bytes: nothing of the program is named here. -/
namespace Go.Proofs.YtdjglghecekeoaaGreatDoor

/-! ### numbers -/
/-- the number of bytes, the highest first -/
def numL (l : List UInt8) : Nat := l.foldl (fun a b => 256 * a + b.toNat) 0
theorem numL_snoc (l : List UInt8) (b : UInt8) : numL (l ++ [b]) = 256 * numL l + b.toNat := by simp [numL]
theorem u8_lt (b : UInt8) : b.toNat < 256 := UInt8.toNat_lt b
theorem toNat_mod (n : Nat) : ((n % 256).toUInt8).toNat = n % 256 := by simp
theorem toNat_lt256 (n : Nat) (h : n < 256) : (n.toUInt8).toNat = n := by simp; omega

theorem numL_lt (l : List UInt8) : numL l < 256 ^ l.length := by
  suffices h : ∀ r : List UInt8, numL r.reverse < 256 ^ r.length by simpa using h l.reverse
  intro r
  induction r with
  | nil => simp [numL]
  | cons b r ih =>
    rw [List.reverse_cons, numL_snoc, List.length_cons, Nat.pow_succ]
    have := u8_lt b
    omega

/-- so many bytes of a number, the highest first -/
def bigL (n : Nat) : Nat → List UInt8
  | 0 => []
  | w + 1 => bigL (n / 256) w ++ [(n % 256).toUInt8]
theorem bigL_length (n w : Nat) : (bigL n w).length = w := by
  induction w generalizing n with
  | zero => rfl
  | succ w ih => simp [bigL, ih]
theorem bigL_head (n w : Nat) : bigL n (w + 1) = (n / 256 ^ w % 256).toUInt8 :: bigL n w := by
  induction w generalizing n with
  | zero => simp [bigL]
  | succ w ih =>
    rw [bigL, ih (n / 256), bigL, List.cons_append]
    rw [Nat.div_div_eq_div_mul, Nat.pow_succ, Nat.mul_comm]
/-! ### digits -/
/-- the sixteen digits -/
def digs : List UInt8 := [48, 49, 50, 51, 52, 53, 54, 55, 56, 57, 97, 98, 99, 100, 101, 102]
/-- what a digit is worth; -1: it is none -/
def dv (c : UInt8) : Int := Lib.indexByte digs c
/-! ### numbers in the walk's spelling -/
theorem u64_or_low (x y : Int) (hx₀ : 0 ≤ x) (hx : x % 256 = 0) (hx₁ : x < 2 ^ 64) (hy₀ : 0 ≤ y) (hy : y < 256) : bits .or .u64 x y = x + y :=
  bits_join .u64 64 (by decide) (fun n h0 h1 => by rw [IntKind.wrap_u64]; omega) 8 x y hx₀ (by omega) hx₁ hy₀ (by omega) (by omega)
theorem numL_step (a : Nat) (b : UInt8) (ha : a < 256 ^ 7) : bits BinOp.or IntKind.u64 (IntKind.u64.wrap ((a : Int) * 256)) (IntKind.u64.wrap (b.toNat : Int)) = ((256 * a + b.toNat : Nat) : Int) := by
  have hb := u8_lt b
  have e1 : IntKind.u64.wrap ((a : Int) * 256) = (a : Int) * 256 := by rw [IntKind.wrap_u64]; omega
  have e2 : IntKind.u64.wrap (b.toNat : Int) = (b.toNat : Int) := by rw [IntKind.wrap_u64]; omega
  rw [e1, e2, u64_or_low _ _ (by omega) (by omega) (by omega) (by omega) (by omega)]
  omega
theorem take_snoc (s : ByteArray) (k : Nat) (h : k < s.size) : s.data.toList.take (k + 1) = s.data.toList.take k ++ [s[k]] := by
  rw [List.take_succ_eq_append_getElem (by simpa using h)]; rfl

end Go.Proofs.YtdjglghecekeoaaGreatDoor

/- Plain facts about rows of parts packed into one text, as lists of bytes: nothing of the program is named here. -/
namespace Go.Proofs.YtdjglghecekeoaaGreatDoor

/-! ### rows put together -/
/-- one part, behind its length -/
def frameL (x : List UInt8) : List UInt8 := bigL x.length 4 ++ x
/-- parts, each behind its length -/
def packL : List (List UInt8) → List UInt8
  | [] => []
  | x :: r => frameL x ++ packL r
theorem frameL_length (x : List UInt8) : (frameL x).length = 4 + x.length := by simp [frameL, bigL_length]
theorem packL_append (a b : List (List UInt8)) : packL (a ++ b) = packL a ++ packL b := by
  induction a with
  | nil => rfl
  | cons x a ih => simp [packL, ih]
theorem packL_snoc (a : List (List UInt8)) (x : List UInt8) : packL (a ++ [x]) = packL a ++ frameL x := by simp [packL_append, packL]

/-- is there room for all of the parts? -/
def fitR : Int → List (List UInt8) → Bool
  | _, [] => true
  | room, x :: r => if room - 4 < (x.length : Int) then false else fitR (room - 4 - x.length) r
theorem fitR_iff (l : List (List UInt8)) : ∀ room : Int, 0 ≤ room → (fitR room l = true ↔ ((packL l).length : Int) ≤ room) := by
  induction l with
  | nil => intro room h; simp [fitR, packL]; omega
  | cons x r ih =>
    intro room h
    rw [fitR, packL, List.length_append, frameL_length]
    by_cases hc : room - 4 < (x.length : Int)
    · rw [if_pos hc]; simp; omega
    · rw [if_neg hc, ih _ (by omega)]; simp; omega

/-- Pack's error and text -/
def packE (l : List (List UInt8)) : Int := if 64 < l.length then 22 else if fitR 65536 l then 0 else 2
def packS (l : List (List UInt8)) : ByteArray := if packE l = 0 then ⟨(packL l).toArray⟩ else ByteArray.empty
theorem packE_ok {l : List (List UInt8)} (h1 : l.length ≤ 64) (h2 : (packL l).length ≤ 65536) : packE l = 0 := by
  unfold packE
  rw [if_neg (by omega), if_pos ((fitR_iff l 65536 (by omega)).2 (by omega))]
theorem packE_many {l : List (List UInt8)} (h1 : 64 < l.length) : packE l = 22 := by unfold packE; rw [if_pos h1]
theorem packE_long {l : List (List UInt8)} (h1 : l.length ≤ 64) (h2 : fitR 65536 l = false) : packE l = 2 := by unfold packE; rw [if_neg (by omega), h2]; rfl
theorem packS_ok {l : List (List UInt8)} (h : packE l = 0) : packS l = ⟨(packL l).toArray⟩ := by unfold packS; rw [if_pos h]
theorem packS_no {l : List (List UInt8)} (h : packE l ≠ 0) : packS l = ByteArray.empty := by unfold packS; rw [if_neg h]

/-! ### texts told apart -/
theorem part_lt {l : List (List UInt8)} {x : List UInt8} (h : x ∈ l) : x.length ≤ (packL l).length := by
  induction l with
  | nil => cases h
  | cons y r ih =>
    rw [packL, List.length_append, frameL_length]
    rcases List.mem_cons.1 h with e | e
    · subst e; omega
    · have := ih e; omega
end Go.Proofs.YtdjglghecekeoaaGreatDoor

/- Heads as data: which may be, what is signed of one, its text; a text tells its head. Nothing of the program is named here. -/
namespace Go.Proofs.YtdjglghecekeoaaGreatDoor.J

/-- all but the signature may be -/
def mayH (s : Int) (r : List UInt8) (t : Int) : Bool := decide (0 ≤ s) && decide (s ≤ 4096) && decide (0 ≤ t) && decide (t ≤ 1099511627776) && decide (r.length = 32)
/-- a head may be -/
def rightH (s : Int) (r : List UInt8) (t : Int) (g : List UInt8) : Bool := mayH s r t && decide (g.length = 64)
theorem mayH_of {s t : Int} {r : List UInt8} (h : mayH s r t = true) : 0 ≤ s ∧ s ≤ 4096 ∧ 0 ≤ t ∧ t ≤ 1099511627776 ∧ r.length = 32 := by
  unfold mayH at h
  simp only [Bool.and_eq_true, decide_eq_true_eq] at h
  exact ⟨h.1.1.1.1, h.1.1.1.2, h.1.1.2, h.1.2, h.2⟩
theorem mayH_yes {s t : Int} {r : List UInt8} (h1 : 0 ≤ s) (h2 : s ≤ 4096) (h3 : 0 ≤ t) (h4 : t ≤ 1099511627776) (h5 : r.length = 32) : mayH s r t = true := by
  unfold mayH
  simp only [Bool.and_eq_true, decide_eq_true_eq]
  exact ⟨⟨⟨⟨h1, h2⟩, h3⟩, h4⟩, h5⟩
theorem mayH_no {s t : Int} {r : List UInt8} (h : ¬ (0 ≤ s ∧ s ≤ 4096 ∧ 0 ≤ t ∧ t ≤ 1099511627776 ∧ r.length = 32)) : mayH s r t = false := by
  cases hm : mayH s r t with
  | false => rfl
  | true => exact absurd (mayH_of hm) h
theorem rightH_of {s t : Int} {r g : List UInt8} (h : rightH s r t g = true) : mayH s r t = true ∧ g.length = 64 := by
  unfold rightH at h
  simpa only [Bool.and_eq_true, decide_eq_true_eq] using h
theorem rightH_yes {s t : Int} {r g : List UInt8} (h : mayH s r t = true) (hg : g.length = 64) : rightH s r t g = true := by
  unfold rightH
  rw [h, decide_eq_true hg]
  rfl
theorem rightH_no {s t : Int} {r g : List UInt8} (h : ¬ (mayH s r t = true ∧ g.length = 64)) : rightH s r t g = false := by
  cases hm : rightH s r t g with
  | false => rfl
  | true => exact absurd (rightH_of hm) h

/-- the word ahead of what is signed -/
def markL : List UInt8 := [104, 101, 97, 100]
/-- the parts of what is signed -/
def partsS (s : Int) (r : List UInt8) (t : Int) : List (List UInt8) := [markL, bigL s.toNat 8, bigL t.toNat 8, r]
/-- what is signed -/
def signedT (s : Int) (r : List UInt8) (t : Int) : List UInt8 := packL (partsS s r t)
theorem signed_eq (s : Int) (r : List UInt8) (t : Int) : signedT s r t = bigL 4 4 ++ (markL ++ (bigL 8 4 ++ (bigL s.toNat 8 ++ (bigL 8 4 ++ (bigL t.toNat 8 ++ (bigL r.length 4 ++ r)))))) := by
  unfold signedT partsS
  simp [packL, frameL, bigL_length, markL]
theorem signed_length (s t : Int) (r : List UInt8) : (signedT s r t).length = 36 + r.length := by
  rw [signed_eq]
  simp [bigL_length, markL]
  omega
theorem parts_pack {s t : Int} {r : List UInt8} (hr : r.length ≤ 64) : packE (partsS s r t) = 0 := by
  refine packE_ok (show 4 ≤ 64 by decide) ?_
  show (signedT s r t).length ≤ 65536
  rw [signed_length]
  omega
theorem signed_packS {s t : Int} {r : List UInt8} (hr : r.length ≤ 64) : packS (partsS s r t) = ⟨(signedT s r t).toArray⟩ := packS_ok (parts_pack hr)
end Go.Proofs.YtdjglghecekeoaaGreatDoor.J

/- Plain facts about sums of 256 bits, as numbers and lists of bytes: nothing of the program is named here. -/
namespace Go.Proofs.YtdjglghecekeoaaGreatDoor.U

/-! ### words -/
/-- a word turned right -/
def rotr (x n : Nat) : Nat := x / 2 ^ n + x % 2 ^ n * 2 ^ (32 - n)
theorem rotr_lt (x n : Nat) (hx : x < 4294967296) (hn : n ≤ 32) : rotr x n < 4294967296 := by
  unfold rotr
  obtain ⟨m, hm⟩ : ∃ m, 32 = n + m := ⟨32 - n, by omega⟩
  have e : 32 - n = m := by omega
  rw [e]
  have hp : (4294967296 : Nat) = 2 ^ n * 2 ^ m := by rw [← Nat.pow_add, ← hm]
  have h1 : x / 2 ^ n < 2 ^ m := by rw [Nat.div_lt_iff_lt_mul (Nat.two_pow_pos n), Nat.mul_comm, ← hp]; exact hx
  have h2 : x % 2 ^ n < 2 ^ n := Nat.mod_lt _ (Nat.two_pow_pos n)
  have h3 : (x % 2 ^ n + 1) * 2 ^ m ≤ 2 ^ n * 2 ^ m := Nat.mul_le_mul_right _ h2
  rw [Nat.add_mul] at h3
  omega
theorem rotr_or (x n : Nat) (hn : n ≤ 32) (hx : x < 4294967296) : (x * 2 ^ (32 - n) % 4294967296) ||| (x / 2 ^ n) = rotr x n := by
  unfold rotr
  obtain ⟨m, hm⟩ : ∃ m, 32 = n + m := ⟨32 - n, by omega⟩
  have e : 32 - n = m := by omega
  rw [e]
  have hp : (4294967296 : Nat) = 2 ^ n * 2 ^ m := by rw [← Nat.pow_add, ← hm]
  have h1 : x / 2 ^ n < 2 ^ m := by rw [Nat.div_lt_iff_lt_mul (Nat.two_pow_pos n), Nat.mul_comm, ← hp]; exact hx
  rw [hp, Nat.mul_mod_mul_right, ← Nat.shiftLeft_eq, ← Nat.shiftLeft_add_eq_or_of_lt h1, Nat.add_comm]

theorem xor_lt (a b : Nat) (ha : a < 4294967296) (hb : b < 4294967296) : a ^^^ b < 4294967296 := Nat.xor_lt_two_pow (n := 32) ha hb
theorem and_lt (a b : Nat) (hb : b < 4294967296) : a &&& b < 4294967296 := Nat.and_lt_two_pow (n := 32) a hb

def bsig0 (x : Nat) : Nat := rotr x 2 ^^^ rotr x 13 ^^^ rotr x 22
def bsig1 (x : Nat) : Nat := rotr x 6 ^^^ rotr x 11 ^^^ rotr x 25
def ssig0 (x : Nat) : Nat := rotr x 7 ^^^ rotr x 18 ^^^ x / 2 ^ 3
def ssig1 (x : Nat) : Nat := rotr x 17 ^^^ rotr x 19 ^^^ x / 2 ^ 10
def chs (e f g : Nat) : Nat := (e &&& f) ^^^ ((4294967295 - e) &&& g)
def maj (a b c : Nat) : Nat := (a &&& b) ^^^ (a &&& c) ^^^ (b &&& c)
/-! ### eight words -/
structure H8 where
  a : Nat
  b : Nat
  c : Nat
  d : Nat
  e : Nat
  f : Nat
  g : Nat
  h : Nat
  deriving DecidableEq
def H8.Ok (s : H8) : Prop := s.a < 4294967296 ∧ s.b < 4294967296 ∧ s.c < 4294967296 ∧ s.d < 4294967296 ∧ s.e < 4294967296 ∧ s.f < 4294967296 ∧ s.g < 4294967296 ∧ s.h < 4294967296
def H8.at (s : H8) : Nat → Nat
  | 0 => s.a
  | 1 => s.b
  | 2 => s.c
  | 3 => s.d
  | 4 => s.e
  | 5 => s.f
  | 6 => s.g
  | _ => s.h
theorem H8.at_lt {s : H8} (h : s.Ok) (i : Nat) : s.at i < 4294967296 := by
  obtain ⟨h0, h1, h2, h3, h4, h5, h6, h7⟩ := h
  unfold H8.at
  split <;> assumption
def H8.plus (s v : H8) : H8 := ⟨(s.a + v.a) % 4294967296, (s.b + v.b) % 4294967296, (s.c + v.c) % 4294967296, (s.d + v.d) % 4294967296, (s.e + v.e) % 4294967296, (s.f + v.f) % 4294967296, (s.g + v.g) % 4294967296, (s.h + v.h) % 4294967296⟩
theorem H8.plus_ok (s v : H8) : (s.plus v).Ok := by
  unfold H8.plus H8.Ok
  simp only
  omega

def tmp1 (s : H8) (k w : Nat) : Nat := (s.h + bsig1 s.e + chs s.e s.f s.g + k + w) % 4294967296
def tmp2 (s : H8) : Nat := (bsig0 s.a + maj s.a s.b s.c) % 4294967296
def rnd (s : H8) (k w : Nat) : H8 := ⟨(tmp1 s k w + tmp2 s) % 4294967296, s.a, s.b, s.c, (s.d + tmp1 s k w) % 4294967296, s.e, s.f, s.g⟩
theorem rnd_ok {s : H8} (h : s.Ok) (k w : Nat) : (rnd s k w).Ok := by
  obtain ⟨h0, h1, h2, h3, h4, h5, h6, h7⟩ := h
  exact ⟨Nat.mod_lt _ (by decide), h0, h1, h2, Nat.mod_lt _ (by decide), h4, h5, h6⟩

/-! ### constants -/
def ks : List Nat := [
  1116352408, 1899447441, 3049323471, 3921009573, 961987163, 1508970993, 2453635748, 2870763221,
  3624381080, 310598401, 607225278, 1426881987, 1925078388, 2162078206, 2614888103, 3248222580,
  3835390401, 4022224774, 264347078, 604807628, 770255983, 1249150122, 1555081692, 1996064986,
  2554220882, 2821834349, 2952996808, 3210313671, 3336571891, 3584528711, 113926993, 338241895,
  666307205, 773529912, 1294757372, 1396182291, 1695183700, 1986661051, 2177026350, 2456956037,
  2730485921, 2820302411, 3259730800, 3345764771, 3516065817, 3600352804, 4094571909, 275423344,
  430227734, 506948616, 659060556, 883997877, 958139571, 1322822218, 1537002063, 1747873779,
  1955562222, 2024104815, 2227730452, 2361852424, 2428436474, 2756734187, 3204031479, 3329325298]
def kAt (t : Nat) : Nat := ks.getD t 0
theorem kAt_all : ∀ t : Fin 64, kAt t.val < 4294967296 := by decide +kernel
theorem kAt_lt (t : Nat) (h : t < 64) : kAt t < 4294967296 := kAt_all ⟨t, h⟩
def h0 : H8 := ⟨1779033703, 3144134277, 1013904242, 2773480762, 1359893119, 2600822924, 528734635, 1541459225⟩
theorem h0_ok : h0.Ok := by unfold h0 H8.Ok; decide

/-! ### a block -/
/-- the words of a block's first rounds -/
def sched (b : List UInt8) : Nat → List Nat
  | 0 => []
  | t + 1 => sched b t ++ [if t < 16 then numL ((b.drop (4 * t)).take 4) else (ssig1 ((sched b t).getD (t - 2) 0) + (sched b t).getD (t - 7) 0 + ssig0 ((sched b t).getD (t - 15) 0) + (sched b t).getD (t - 16) 0) % 4294967296]
theorem sched_length (b : List UInt8) (t : Nat) : (sched b t).length = t := by
  induction t with
  | zero => rfl
  | succ t ih => simp [sched, ih]
theorem sched_lt (b : List UInt8) (t : Nat) : ∀ x ∈ sched b t, x < 4294967296 := by
  induction t with
  | zero => intro x hx; cases hx
  | succ t ih =>
    intro x hx
    rw [sched, List.mem_append] at hx
    rcases hx with hx | hx
    · exact ih x hx
    · rw [List.mem_singleton] at hx
      subst hx
      split
      · refine Nat.lt_of_lt_of_le (numL_lt _) ?_
        have : ((b.drop (4 * t)).take 4).length ≤ 4 := List.length_take_le _ _
        calc 256 ^ ((b.drop (4 * t)).take 4).length ≤ 256 ^ 4 := Nat.pow_le_pow_right (by decide) this
          _ = 4294967296 := by decide
      · exact Nat.mod_lt _ (by decide)
theorem sched_at_lt (b : List UInt8) (t i : Nat) : (sched b t).getD i 0 < 4294967296 := by
  rw [List.getD_eq_getElem?_getD]
  rcases h : (sched b t)[i]? with _ | x
  · simp
  · exact sched_lt b t x (List.mem_of_getElem? h)

def rnds (w : List Nat) (s : H8) : Nat → H8
  | 0 => s
  | t + 1 => rnd (rnds w s t) (kAt t) (w.getD t 0)
/-- eight words behind a block -/
def mix (s : H8) (b : List UInt8) : H8 := s.plus (rnds (sched b 64) s 64)
theorem mix_ok (s : H8) (b : List UInt8) : (mix s b).Ok := H8.plus_ok _ _

/-! ### blocks -/
def absorb (s : H8) : Nat → List UInt8 → H8
  | 0, _ => s
  | n + 1, l => absorb (mix s (l.take 64)) n (l.drop 64)
/-- eight words behind all whole blocks of bytes -/
def feed (s : H8) (l : List UInt8) : H8 := absorb s (l.length / 64) l
/-- what is left behind all whole blocks -/
def tailB (l : List UInt8) : List UInt8 := l.drop (64 * (l.length / 64))
theorem feed_short (s : H8) (l : List UInt8) (h : l.length < 64) : feed s l = s := by
  unfold feed; rw [Nat.div_eq_of_lt h]; rfl
theorem tail_short (l : List UInt8) (h : l.length < 64) : tailB l = l := by
  unfold tailB; rw [Nat.div_eq_of_lt h]; rfl
theorem feed_long (s : H8) (l : List UInt8) (h : 64 ≤ l.length) : feed s l = feed (mix s (l.take 64)) (l.drop 64) := by
  unfold feed
  obtain ⟨n, hn⟩ : ∃ n, l.length / 64 = n + 1 := ⟨l.length / 64 - 1, by omega⟩
  rw [hn, absorb, List.length_drop, show (l.length - 64) / 64 = n by omega]
theorem tail_long (l : List UInt8) (h : 64 ≤ l.length) : tailB l = tailB (l.drop 64) := by
  unfold tailB
  rw [List.length_drop, List.drop_drop]
  congr 1
  omega
theorem tail_length (l : List UInt8) : (tailB l).length = l.length % 64 := by
  unfold tailB
  rw [List.length_drop]
  omega
theorem feed_ok {s : H8} (h : s.Ok) : ∀ (n : Nat) (l : List UInt8), l.length ≤ n → (feed s l).Ok := by
  intro n
  induction n generalizing s with
  | zero => intro l hl; rw [feed_short _ _ (by omega)]; exact h
  | succ n ih =>
    intro l hl
    by_cases hs : l.length < 64
    · rw [feed_short _ _ hs]; exact h
    · rw [feed_long _ _ (by omega)]
      exact ih (mix_ok _ _) _ (by rw [List.length_drop]; omega)
theorem feed_ok' {s : H8} (h : s.Ok) (l : List UInt8) : (feed s l).Ok := feed_ok h _ l (Nat.le_refl _)
theorem feed_append (m : List UInt8) : ∀ (n : Nat) (s : H8) (l : List UInt8), l.length ≤ n → feed s (l ++ m) = feed (feed s l) (tailB l ++ m) := by
  intro n
  induction n with
  | zero => intro s l hl; rw [feed_short s l (by omega), tail_short l (by omega)]
  | succ n ih =>
    intro s l hl
    by_cases hs : l.length < 64
    · rw [feed_short s l hs, tail_short l hs]
    · rw [feed_long s l (by omega), tail_long l (by omega), feed_long s (l ++ m) (by rw [List.length_append]; omega), List.take_append_of_le_length (by omega), List.drop_append_of_le_length (by omega)]
      exact ih _ _ (by rw [List.length_drop]; omega)
theorem tail_append (m : List UInt8) : ∀ (n : Nat) (l : List UInt8), l.length ≤ n → tailB (l ++ m) = tailB (tailB l ++ m) := by
  intro n
  induction n with
  | zero => intro l hl; rw [tail_short l (by omega)]
  | succ n ih =>
    intro l hl
    by_cases hs : l.length < 64
    · rw [tail_short l hs]
    · rw [tail_long l (by omega), tail_long (l ++ m) (by rw [List.length_append]; omega), List.drop_append_of_le_length (by omega)]
      exact ih _ (by rw [List.length_drop]; omega)

/-! ### the sum -/
/-- what comes to so many bytes -/
def pad (n : Nat) : List UInt8 := 128 :: (List.replicate ((119 - n % 64) % 64) 0 ++ bigL (8 * n) 8)
theorem pad_length (n : Nat) : (pad n).length = 9 + (119 - n % 64) % 64 := by simp [pad, bigL_length]; omega
/-- the words' bytes -/
def outT (s : H8) : List UInt8 := bigL s.a 4 ++ bigL s.b 4 ++ bigL s.c 4 ++ bigL s.d 4 ++ bigL s.e 4 ++ bigL s.f 4 ++ bigL s.g 4 ++ bigL s.h 4
theorem outT_length (s : H8) : (outT s).length = 32 := by simp [outT, bigL_length]
/-- the sum of all bytes that were taken: the words, what waits, how many there were -/
def endT (s : H8) (b : List UInt8) (n : Nat) : List UInt8 := outT (feed s (b ++ pad n))
/-- the sum of bytes -/
def sumT (l : List UInt8) : List UInt8 := outT (feed h0 (l ++ pad l.length))
theorem sumT_length (l : List UInt8) : (sumT l).length = 32 := outT_length _
theorem end_sum (l : List UInt8) : endT (feed h0 l) (tailB l) l.length = sumT l := by
  unfold endT sumT
  rw [← feed_append _ l.length h0 l (Nat.le_refl _)]

end Go.Proofs.YtdjglghecekeoaaGreatDoor.U

/- Small facts that every walk wants: the byte type's row of the table; a slice of bytes that the call owns, turned into a string. -/
namespace Go.Proofs.YtdjglghecekeoaaGreatDoor
open Go.RowKit

theorem val_int {k : IntKind} {a b : Int} (h : a = b) : Value.int k a = Value.int k b := by rw [h]
theorem val_str {a b : List UInt8} (h : a = b) : Value.string ⟨a.toArray⟩ = Value.string ⟨b.toArray⟩ := by rw [h]
theorem ret1_of {a b : Value} (h : a = b) : Ending.returned a = .returned b := by rw [h]
theorem ret2_of {a b c d : Value} (h : a = b) (k : c = d) : Ending.returned (.tuple #[a, c]) = .returned (.tuple #[b, d]) := by rw [h, k]

/-- one call more -/
theorem below_on {W w1 w2 : World} (hb : Below W.heap.size W w1) (h2 : Below w1.heap.size w1 w2) : Below W.heap.size W w2 := hb.trans (h2.mono hb.size)

theorem info5 : (Tryz.prog.info? 5).map (fun i => (i.zero, i.size, i.bytes)) = some (some (.int .u8 0), 1, 1) := by kernel_rfl

/-- 'string(b)', b a slice of bytes that the call owns -/
theorem str_own {w : World} {B : Nat} {v : Value} {n : Nat} {l : List UInt8} (hown : w.ownsRow B 5 1 v n (Lib.byteCells l)) :
    (convert 37 9 v).run Tryz.prog w = .ok (.string ⟨l.toArray⟩) w := by
  have hl : l.length = n := by have := hown.1; simpa [Lib.byteCells] using this
  rcases hown.2 with ⟨rfl, h0⟩ | ⟨g, cap, cur, rfl, _⟩
  · have : l = [] := List.eq_nil_of_length_eq_zero (by omega)
    subst this
    rw [run_convert_bytes_string w 37 9 5 none 0 0 Tryz.underlying37 Tryz.underlying5 Tryz.underlying9]
    rfl
  · subst hl
    exact run_convert_bytes_back w 37 9 5 ⟨g, 0, none⟩ cap l Tryz.underlying37 Tryz.underlying5 Tryz.underlying9 (by
      intro j hj
      exact hown.cells (g := g) rfl j _ (by simp [Lib.byteCells, List.getElem?_eq_getElem hj]))

end Go.Proofs.YtdjglghecekeoaaGreatDoor

/- Blocks of memory that are known whole, and words as values. -/
namespace Go.Proofs.YtdjglghecekeoaaGreatDoor.U
open Go.RowKit

abbrev u32 (x : Nat) : Value := Value.int .u32 (x : Int)
/-- block g is just these cells, none of them frozen -/
def Lies (w : World) (g : Nat) (t : TypeId) (cs : Array Value) : Prop := w.heap[g]? = some (.cells cs t (0, 0))

section
variable {w w' : World} {g : Nat} {t : TypeId} {cs : Array Value}
theorem Lies.lt (h : Lies w g t cs) : g < w.heap.size := by
  rcases Nat.lt_or_ge g w.heap.size with hlt | hge
  · exact hlt
  · unfold Lies at h; rw [Array.getElem?_eq_none hge] at h; cases h
theorem Lies.cell (h : Lies w g t cs) (i : Nat) : w.cell? ⟨g, i, none⟩ = cs[i]? := cell_of_row w g i cs t (0, 0) h
theorem Lies.frozen (h : Lies w g t cs) (i : Nat) : w.frozen? ⟨g, i, none⟩ = false := frozen_of_row w g i cs t h
theorem Lies.drewN (h : Lies w g t cs) (n : Nat) : Lies (w.drewN n) g t cs := h
theorem Lies.drew (h : Lies w g t cs) : Lies w.drew g t cs := h
theorem Lies.alloc (h : Lies w g t cs) (o : Obj) : Lies (w.alloc o) g t cs := (Below.heap_alloc w o g h.lt).trans h
theorem Lies.new (w : World) (t : TypeId) (cs : Array Value) : Lies (w.alloc (.cells cs t)) w.heap.size t cs := heap_alloc_new w _
theorem Lies.put (h : Lies w g t cs) (i : Nat) (v : Value) : Lies (w.setCell ⟨g, i, none⟩ v) g t (cs.setIfInBounds i v) := heap_setCell_same w g i cs t v h
theorem Lies.far (h : Lies w g t cs) {p : Addr} (hp : g ≠ p.block) (v : Value) : Lies (w.setCell p v) g t cs := (heap_setCell_other w p g v hp).trans h
theorem Lies.below {B : Nat} (h : Lies w g t cs) (hb : Below B w w') (hg : g < B) : Lies w' g t cs := (hb.block g hg).trans h
theorem Lies.on (h : Lies w g t cs) (hb : Below w.heap.size w w') : Lies w' g t cs := h.below hb h.lt
theorem Lies.only {row : Option Nat} (h : Lies w g t cs) (hb : w.grownBy w' row) (hg : some g ≠ row) : Lies w' g t cs := (hb.block g h.lt hg).trans h
theorem Lies.row (h : Lies w g t cs) (old : Array Value) : Lies (w.setRow g old) g t old := setRow_heap w g cs old t (0, 0) h
theorem Lies.rowFar {g' : Nat} (h : Lies w g t cs) (hg : g ≠ g') (old : Array Value) : Lies (w.setRow g' old) g t cs := (setRow_other w g' g old hg).trans h
end
theorem below_drawn {B : Nat} {a w : World} (h : Below B a w) (n : Nat) : Below B a (w.drewN n) := ⟨h.os, h.tape, h.output, h.size, h.block⟩

theorem below_rowSet {B : Nat} {a w : World} (h : Below B a w) {g : Nat} (hg : B ≤ g) (cs : Array Value) : Below B a (w.setRow g cs) :=
  h.trans ⟨rfl, rfl, rfl, by simp, fun k hk => setRow_other _ _ _ _ (by omega)⟩

/-! ### only block g, and what is new, has turned -/
abbrev Only (g : Nat) (a w : World) : Prop := a.grownBy w (some g)
section
variable {a w w' : World} {g : Nat}
theorem Only.refl (a : World) (g : Nat) : Only g a a := World.grownBy.refl a (some g)
theorem Only.trans (h : Only g a w) (k : Only g w w') : Only g a w' :=
  ⟨k.os.trans h.os, k.tape.trans h.tape, k.output.trans h.output, Nat.le_trans h.size k.size, fun i hi hne => (k.block i (Nat.lt_of_lt_of_le hi h.size) hne).trans (h.block i hi hne)⟩
theorem Only.drewN (h : Only g a w) (n : Nat) : Only g a (w.drewN n) := ⟨h.os, h.tape, h.output, h.size, h.block⟩
theorem Only.drew (h : Only g a w) : Only g a w.drew := ⟨h.os, h.tape, h.output, h.size, h.block⟩
theorem Only.alloc (h : Only g a w) (o : Obj) : Only g a (w.alloc o) :=
  ⟨h.os, h.tape, h.output, Nat.le_trans h.size (by simp), fun i hi hne => (Below.heap_alloc w o i (Nat.lt_of_lt_of_le hi h.size)).trans (h.block i hi hne)⟩
theorem Only.put (h : Only g a w) {p : Addr} (hp : p.block = g ∨ a.heap.size ≤ p.block) (u : Value) : Only g a (w.setCell p u) :=
  ⟨h.os, h.tape, h.output, by simpa [World.setCell] using h.size, fun i hi hne => (Below.heap_setCell w p u i (by
    rintro rfl
    rcases hp with hp | hp
    · exact hne (by rw [hp])
    · omega)).trans (h.block i hi hne)⟩
theorem Only.row (h : Only g a w) {k : Nat} (hk : k = g ∨ a.heap.size ≤ k) (cs : Array Value) : Only g a (w.setRow k cs) :=
  ⟨h.os, h.tape, h.output, by simpa using h.size, fun i hi hne => (setRow_other w k i cs (by
    rintro rfl
    rcases hk with hk | hk
    · exact hne (by rw [hk])
    · omega)).trans (h.block i hi hne)⟩
theorem Only.of_below (h : Below a.heap.size a w) (g : Nat) : Only g a w := ⟨h.os, h.tape, h.output, h.size, fun i hi _ => h.block i hi⟩
theorem Only.on (h : Only g a w) (k : Below w.heap.size w w') : Only g a w' := h.trans (Only.of_below k g)
/-- .. and g itself is new -/
theorem Only.below {B : Nat} {b : World} (h : Only g a w) (hb : Below B b a) (hB : B ≤ a.heap.size) (hg : B ≤ g) : Below B b w :=
  hb.grown h hB (fun k hk => by cases hk; exact hg)
end

/-! ### the program's two tables, and a sum that works -/
/-- the two tables hold their constants -/
def Tab (w : World) : Prop := (∀ i, i < 8 → w.cell? ⟨1, i, none⟩ = some (u32 (h0.at i))) ∧ (∀ t, t < 64 → w.cell? ⟨7, t, none⟩ = some (u32 (kAt t)))
theorem Tab.two {w : World} (h : Tab w) : (1 < w.heap.size ∧ 7 < w.heap.size) := by
  have h1 := block_lt_of_cell (h.1 0 (by decide))
  have h2 := block_lt_of_cell (h.2 0 (by decide))
  simp only at h1 h2
  omega
theorem Tab.below {w w' : World} (h : Tab w) (hb : Below w.heap.size w w') : Tab w' := by
  have h2 := h.two
  exact ⟨fun i hi => (hb.cell (p := ⟨_, i, none⟩) (by simp only; omega)).trans (h.1 i hi), fun t ht => (hb.cell (p := ⟨_, t, none⟩) (by simp only; omega)).trans (h.2 t ht)⟩
theorem Tab.only {w w' : World} {g : Nat} (h : Tab w) (hb : Only g w w') (hg : 1 < g ∧ 7 < g) : Tab w' := by
  have h2 := h.two
  exact ⟨fun i hi => (World.cell?_of_block (hb.block 1 (by omega) (by intro e; injection e; omega))).trans (h.1 i hi),
    fun t ht => (World.cell?_of_block (hb.block 7 (by omega) (by intro e; injection e; omega))).trans (h.2 t ht)⟩

/-- the cells of a sum that goes on -/
def sumA (s : H8) (buf : ByteArray) (n : Nat) : Array Value := #[u32 s.a, u32 s.b, u32 s.c, u32 s.d, u32 s.e, u32 s.f, u32 s.g, u32 s.h, .string buf, .int .u64 (n : Int)]

/-- a type of rows or structs, of so many cells -/
def RowT (P : Program) (ty : TypeId) (n : Nat) : Prop := (∃ d, P.underlying ty = some d ∧ d.isRow = true) ∧ (P.info? ty).map (·.size) = some n
/-- cells of one value each -/
def Ones (cs : Array Value) : Prop := cs.all (·.oneCell') = true
theorem ones_of {cs : List Value} (h : ∀ v ∈ cs, v.oneCell' = true) : Ones cs.toArray := all_oneCell_toArray h

section
variable {P : Program} {ops : Array Oper} {rest : List Oper} {a : Act} {w : World} {Q : Exit → Act → World → Prop} {t' : TypeId} {pos : String} {after : Array Edge}
/-- a variable that is a whole block is read -/
theorem wpL_load {d : Option Tmp} {x : Tmp} {ty : TypeId} (g : Nat) (t : TypeId) (cs : Array Value) (n : Nat) (hT : RowT P ty n) (hn : cs.size = n) (hg : Lies w g t cs)
    (hx : a.eval (.tmp x) = .pointer (some ⟨g, 0, none⟩)) (h : wpList P ops Q rest (a.put d (.agg cs)) w) : wpList P ops Q (⟨d, .load ty (.tmp x), t', pos, after, none⟩ :: rest) a w := by
  obtain ⟨⟨ds, hu, hd⟩, hi⟩ := hT
  exact wpList_load_row (o := ⟨d, .load ty (.tmp x), t', pos, after, none⟩) rfl ty (.tmp x) rfl g hx t cs (0, 0) ds hg hu (by cases ds <;> first | rfl | simp [TypeDesc.isRow] at hd) (by rw [hi, hn]) h
/-- .. and written -/
theorem wpL_store {x y : Tmp} {ty : TypeId} (g : Nat) (t : TypeId) (old cs : Array Value) (n : Nat) (hT : RowT P ty n) (ho : old.size = n) (hn : cs.size = n) (h1 : Ones cs) (hg : Lies w g t old)
    (hx : a.eval (.tmp x) = .pointer (some ⟨g, 0, none⟩)) (hy : a.eval (.tmp y) = .agg cs) (h : wpList P ops Q rest (a.put none undef) (w.setRow g cs)) : wpList P ops Q (⟨none, .store ty (.tmp x) (.tmp y), t', pos, after, none⟩ :: rest) a w :=
  wpList_store_row (o := ⟨none, .store ty (.tmp x) (.tmp y), t', pos, after, none⟩) rfl ty (.tmp x) (.tmp y) rfl g cs hx hy t old hg (by rw [hT.2, hn]) (by rw [ho, hn]) h1 h
/-- some cells in the middle of a block are read -/
theorem wpL_loadMid {d : Option Tmp} {x : Tmp} {ty : TypeId} (g o : Nat) (cs : List Value) (n : Nat) (hT : RowT P ty n) (hn : cs.length = n) (hg : w.rangeAt g o cs)
    (hx : a.eval (.tmp x) = .pointer (some ⟨g, o, none⟩)) (h : wpList P ops Q rest (a.put d (.agg cs.toArray)) w) : wpList P ops Q (⟨d, .load ty (.tmp x), t', pos, after, none⟩ :: rest) a w := by
  obtain ⟨⟨ds, hu, hd⟩, hi⟩ := hT
  exact wpList_load_mid (op := ⟨d, .load ty (.tmp x), t', pos, after, none⟩) rfl ty (.tmp x) rfl g o hx cs ds hg hu hd (by rw [hi, hn]) h
end
/-- what a function hands back that lies in a variable -/
theorem results_row {P : Program} {fn : Func} {p : Tmp} {ty : TypeId} {n : Nat} {w : World} {g : Nat} {t : TypeId} {cs : Array Value} {tmps : Array Value} (h : fn.results = #[.cell p ty]) (hT : RowT P ty n) (hn : cs.size = n) (hg : Lies w g t cs) (hp : tmps.getD p undef = .pointer (some ⟨g, 0, none⟩)) :
    (results fn tmps).run P w = .ok (.agg cs) w := by
  obtain ⟨⟨ds, hu, hd⟩, hi⟩ := hT
  exact results_cell_row h tmps w g t cs (0, 0) ds hp hg hu (by cases ds <;> first | rfl | simp [TypeDesc.isRow] at hd) (by rw [hi, hn])

/-- the eight words alone -/
def wordsL (s : H8) : List Value := [u32 s.a, u32 s.b, u32 s.c, u32 s.d, u32 s.e, u32 s.f, u32 s.g, u32 s.h]
theorem Lies.words {w : World} {g : Nat} {t : TypeId} {s : H8} {buf : ByteArray} {n : Nat} (h : Lies w g t (sumA s buf n)) : w.rangeAt g 0 (wordsL s) := fun j v hv => by
  rw [Nat.zero_add, h.cell j]
  match j, hv with
  | 0, hv | 1, hv | 2, hv | 3, hv | 4, hv | 5, hv | 6, hv | 7, hv => exact hv
theorem sumA_one (s : H8) (buf : ByteArray) (n : Nat) : Ones (sumA s buf n) := by unfold Ones sumA; simp [Value.oneCell']
theorem row29 : RowT Tryz.prog 109 10 := ⟨⟨_, Tryz.underlying109, rfl⟩, by kernel_rfl⟩
theorem row26 : RowT Tryz.prog 107 8 := ⟨⟨_, Tryz.underlying107, rfl⟩, by kernel_rfl⟩
theorem row64 : RowT Tryz.prog 183 64 := ⟨⟨_, Tryz.underlying183, rfl⟩, by kernel_rfl⟩

end Go.Proofs.YtdjglghecekeoaaGreatDoor.U

