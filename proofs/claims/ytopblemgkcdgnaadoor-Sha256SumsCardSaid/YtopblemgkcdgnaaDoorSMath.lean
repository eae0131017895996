/- Plain facts about sums of 256 bits, as numbers and lists of bytes: nothing of the program is named here. -/
import Derived.Test.YtopblemgkcdgnaaDoorMath
namespace Go.Proofs.YtopblemgkcdgnaaDoor

/-! ### words -/
/-- a word turned right -/
def rotr (x n : Nat) : Nat := x / 2 ^ n + x % 2 ^ n * 2 ^ (32 - n)
theorem rotr_lt (x n : Nat) (hx : x < 4294967296) (hn : n ≤ 32) : rotr x n < 4294967296 := by
  unfold rotr
  obtain ⟨m, hm⟩ : ∃ m, 32 = n + m := ⟨32 - n, by omega⟩
  have e : 32 - n = m := by omega
  rw [e]
  have hp : (4294967296 : Nat) = 2 ^ n * 2 ^ m := by rw [← Nat.pow_add, ← hm]
  have h1 : x / 2 ^ n < 2 ^ m := by rw [Nat.div_lt_iff_lt_mul (Nat.two_pow_pos n), Nat.mul_comm, ← hp]; exact hx
  have h2 : x % 2 ^ n < 2 ^ n := Nat.mod_lt _ (Nat.two_pow_pos n)
  have h3 : (x % 2 ^ n + 1) * 2 ^ m ≤ 2 ^ n * 2 ^ m := Nat.mul_le_mul_right _ h2
  rw [Nat.add_mul] at h3
  omega
theorem rotr_or (x n : Nat) (hn : n ≤ 32) (hx : x < 4294967296) : (x * 2 ^ (32 - n) % 4294967296) ||| (x / 2 ^ n) = rotr x n := by
  unfold rotr
  obtain ⟨m, hm⟩ : ∃ m, 32 = n + m := ⟨32 - n, by omega⟩
  have e : 32 - n = m := by omega
  rw [e]
  have hp : (4294967296 : Nat) = 2 ^ n * 2 ^ m := by rw [← Nat.pow_add, ← hm]
  have h1 : x / 2 ^ n < 2 ^ m := by rw [Nat.div_lt_iff_lt_mul (Nat.two_pow_pos n), Nat.mul_comm, ← hp]; exact hx
  rw [hp, Nat.mul_mod_mul_right, ← Nat.shiftLeft_eq, ← Nat.shiftLeft_add_eq_or_of_lt h1, Nat.add_comm]

theorem xor_lt (a b : Nat) (ha : a < 4294967296) (hb : b < 4294967296) : a ^^^ b < 4294967296 := Nat.xor_lt_two_pow (n := 32) ha hb
theorem and_lt (a b : Nat) (hb : b < 4294967296) : a &&& b < 4294967296 := Nat.and_lt_two_pow (n := 32) a hb

def bsig0 (x : Nat) : Nat := rotr x 2 ^^^ rotr x 13 ^^^ rotr x 22
def bsig1 (x : Nat) : Nat := rotr x 6 ^^^ rotr x 11 ^^^ rotr x 25
def ssig0 (x : Nat) : Nat := rotr x 7 ^^^ rotr x 18 ^^^ x / 2 ^ 3
def ssig1 (x : Nat) : Nat := rotr x 17 ^^^ rotr x 19 ^^^ x / 2 ^ 10
theorem bsig0_lt (x : Nat) (hx : x < 4294967296) : bsig0 x < 4294967296 := xor_lt _ _ (xor_lt _ _ (rotr_lt x 2 hx (by decide)) (rotr_lt x 13 hx (by decide))) (rotr_lt x 22 hx (by decide))
theorem bsig1_lt (x : Nat) (hx : x < 4294967296) : bsig1 x < 4294967296 := xor_lt _ _ (xor_lt _ _ (rotr_lt x 6 hx (by decide)) (rotr_lt x 11 hx (by decide))) (rotr_lt x 25 hx (by decide))
theorem ssig0_lt (x : Nat) (hx : x < 4294967296) : ssig0 x < 4294967296 := xor_lt _ _ (xor_lt _ _ (rotr_lt x 7 hx (by decide)) (rotr_lt x 18 hx (by decide))) (Nat.lt_of_le_of_lt (Nat.div_le_self _ _) hx)
theorem ssig1_lt (x : Nat) (hx : x < 4294967296) : ssig1 x < 4294967296 := xor_lt _ _ (xor_lt _ _ (rotr_lt x 17 hx (by decide)) (rotr_lt x 19 hx (by decide))) (Nat.lt_of_le_of_lt (Nat.div_le_self _ _) hx)
def chs (e f g : Nat) : Nat := (e &&& f) ^^^ ((4294967295 - e) &&& g)
def maj (a b c : Nat) : Nat := (a &&& b) ^^^ (a &&& c) ^^^ (b &&& c)
theorem chs_lt (e f g : Nat) (hf : f < 4294967296) (hg : g < 4294967296) : chs e f g < 4294967296 := xor_lt _ _ (and_lt _ _ hf) (and_lt _ _ hg)
theorem maj_lt (a b c : Nat) (hb : b < 4294967296) (hc : c < 4294967296) : maj a b c < 4294967296 := xor_lt _ _ (xor_lt _ _ (and_lt _ _ hb) (and_lt _ _ hc)) (and_lt _ _ hc)

/-! ### eight words -/
structure H8 where
  a : Nat
  b : Nat
  c : Nat
  d : Nat
  e : Nat
  f : Nat
  g : Nat
  h : Nat
  deriving DecidableEq
def H8.Ok (s : H8) : Prop := s.a < 4294967296 ∧ s.b < 4294967296 ∧ s.c < 4294967296 ∧ s.d < 4294967296 ∧ s.e < 4294967296 ∧ s.f < 4294967296 ∧ s.g < 4294967296 ∧ s.h < 4294967296
def H8.at (s : H8) : Nat → Nat
  | 0 => s.a
  | 1 => s.b
  | 2 => s.c
  | 3 => s.d
  | 4 => s.e
  | 5 => s.f
  | 6 => s.g
  | _ => s.h
theorem H8.at_lt {s : H8} (h : s.Ok) (i : Nat) : s.at i < 4294967296 := by
  obtain ⟨h0, h1, h2, h3, h4, h5, h6, h7⟩ := h
  unfold H8.at
  split <;> assumption
def H8.plus (s v : H8) : H8 := ⟨(s.a + v.a) % 4294967296, (s.b + v.b) % 4294967296, (s.c + v.c) % 4294967296, (s.d + v.d) % 4294967296, (s.e + v.e) % 4294967296, (s.f + v.f) % 4294967296, (s.g + v.g) % 4294967296, (s.h + v.h) % 4294967296⟩
theorem H8.plus_ok (s v : H8) : (s.plus v).Ok := by
  unfold H8.plus H8.Ok
  simp only
  omega

def tmp1 (s : H8) (k w : Nat) : Nat := (s.h + bsig1 s.e + chs s.e s.f s.g + k + w) % 4294967296
def tmp2 (s : H8) : Nat := (bsig0 s.a + maj s.a s.b s.c) % 4294967296
def rnd (s : H8) (k w : Nat) : H8 := ⟨(tmp1 s k w + tmp2 s) % 4294967296, s.a, s.b, s.c, (s.d + tmp1 s k w) % 4294967296, s.e, s.f, s.g⟩
theorem tmp1_lt (s : H8) (k w : Nat) : tmp1 s k w < 4294967296 := Nat.mod_lt _ (by decide)
theorem tmp2_lt (s : H8) : tmp2 s < 4294967296 := Nat.mod_lt _ (by decide)
theorem rnd_ok {s : H8} (h : s.Ok) (k w : Nat) : (rnd s k w).Ok := by
  obtain ⟨h0, h1, h2, h3, h4, h5, h6, h7⟩ := h
  exact ⟨Nat.mod_lt _ (by decide), h0, h1, h2, Nat.mod_lt _ (by decide), h4, h5, h6⟩

/-! ### constants -/
def ks : List Nat := [
  1116352408, 1899447441, 3049323471, 3921009573, 961987163, 1508970993, 2453635748, 2870763221,
  3624381080, 310598401, 607225278, 1426881987, 1925078388, 2162078206, 2614888103, 3248222580,
  3835390401, 4022224774, 264347078, 604807628, 770255983, 1249150122, 1555081692, 1996064986,
  2554220882, 2821834349, 2952996808, 3210313671, 3336571891, 3584528711, 113926993, 338241895,
  666307205, 773529912, 1294757372, 1396182291, 1695183700, 1986661051, 2177026350, 2456956037,
  2730485921, 2820302411, 3259730800, 3345764771, 3516065817, 3600352804, 4094571909, 275423344,
  430227734, 506948616, 659060556, 883997877, 958139571, 1322822218, 1537002063, 1747873779,
  1955562222, 2024104815, 2227730452, 2361852424, 2428436474, 2756734187, 3204031479, 3329325298]
def kAt (t : Nat) : Nat := ks.getD t 0
theorem kAt_all : ∀ t : Fin 64, kAt t.val < 4294967296 := by decide +kernel
theorem kAt_lt (t : Nat) (h : t < 64) : kAt t < 4294967296 := kAt_all ⟨t, h⟩
def h0 : H8 := ⟨1779033703, 3144134277, 1013904242, 2773480762, 1359893119, 2600822924, 528734635, 1541459225⟩
theorem h0_ok : h0.Ok := by unfold h0 H8.Ok; decide

/-! ### a block -/
/-- the words of a block's first rounds -/
def sched (b : List UInt8) : Nat → List Nat
  | 0 => []
  | t + 1 => sched b t ++ [if t < 16 then numL ((b.drop (4 * t)).take 4) else (ssig1 ((sched b t).getD (t - 2) 0) + (sched b t).getD (t - 7) 0 + ssig0 ((sched b t).getD (t - 15) 0) + (sched b t).getD (t - 16) 0) % 4294967296]
theorem sched_length (b : List UInt8) (t : Nat) : (sched b t).length = t := by
  induction t with
  | zero => rfl
  | succ t ih => simp [sched, ih]
theorem sched_lt (b : List UInt8) (t : Nat) : ∀ x ∈ sched b t, x < 4294967296 := by
  induction t with
  | zero => intro x hx; cases hx
  | succ t ih =>
    intro x hx
    rw [sched, List.mem_append] at hx
    rcases hx with hx | hx
    · exact ih x hx
    · rw [List.mem_singleton] at hx
      subst hx
      split
      · refine Nat.lt_of_lt_of_le (numL_lt _) ?_
        have : ((b.drop (4 * t)).take 4).length ≤ 4 := List.length_take_le _ _
        calc 256 ^ ((b.drop (4 * t)).take 4).length ≤ 256 ^ 4 := Nat.pow_le_pow_right (by decide) this
          _ = 4294967296 := by decide
      · exact Nat.mod_lt _ (by decide)
theorem sched_at_lt (b : List UInt8) (t i : Nat) : (sched b t).getD i 0 < 4294967296 := by
  rw [List.getD_eq_getElem?_getD]
  rcases h : (sched b t)[i]? with _ | x
  · simp
  · exact sched_lt b t x (List.mem_of_getElem? h)

def rnds (w : List Nat) (s : H8) : Nat → H8
  | 0 => s
  | t + 1 => rnd (rnds w s t) (kAt t) (w.getD t 0)
theorem rnds_ok (w : List Nat) {s : H8} (h : s.Ok) (t : Nat) : (rnds w s t).Ok := by
  induction t with
  | zero => exact h
  | succ t ih => exact rnd_ok ih _ _
/-- eight words behind a block -/
def mix (s : H8) (b : List UInt8) : H8 := s.plus (rnds (sched b 64) s 64)
theorem mix_ok (s : H8) (b : List UInt8) : (mix s b).Ok := H8.plus_ok _ _

/-! ### blocks -/
def absorb (s : H8) : Nat → List UInt8 → H8
  | 0, _ => s
  | n + 1, l => absorb (mix s (l.take 64)) n (l.drop 64)
/-- eight words behind all whole blocks of bytes -/
def feed (s : H8) (l : List UInt8) : H8 := absorb s (l.length / 64) l
/-- what is left behind all whole blocks -/
def tailB (l : List UInt8) : List UInt8 := l.drop (64 * (l.length / 64))
theorem feed_short (s : H8) (l : List UInt8) (h : l.length < 64) : feed s l = s := by
  unfold feed; rw [Nat.div_eq_of_lt h]; rfl
theorem tail_short (l : List UInt8) (h : l.length < 64) : tailB l = l := by
  unfold tailB; rw [Nat.div_eq_of_lt h]; rfl
theorem feed_long (s : H8) (l : List UInt8) (h : 64 ≤ l.length) : feed s l = feed (mix s (l.take 64)) (l.drop 64) := by
  unfold feed
  obtain ⟨n, hn⟩ : ∃ n, l.length / 64 = n + 1 := ⟨l.length / 64 - 1, by omega⟩
  rw [hn, absorb, List.length_drop, show (l.length - 64) / 64 = n by omega]
theorem tail_long (l : List UInt8) (h : 64 ≤ l.length) : tailB l = tailB (l.drop 64) := by
  unfold tailB
  rw [List.length_drop, List.drop_drop]
  congr 1
  omega
theorem tail_length (l : List UInt8) : (tailB l).length = l.length % 64 := by
  unfold tailB
  rw [List.length_drop]
  omega
theorem feed_ok {s : H8} (h : s.Ok) : ∀ (n : Nat) (l : List UInt8), l.length ≤ n → (feed s l).Ok := by
  intro n
  induction n generalizing s with
  | zero => intro l hl; rw [feed_short _ _ (by omega)]; exact h
  | succ n ih =>
    intro l hl
    by_cases hs : l.length < 64
    · rw [feed_short _ _ hs]; exact h
    · rw [feed_long _ _ (by omega)]
      exact ih (mix_ok _ _) _ (by rw [List.length_drop]; omega)
theorem feed_ok' {s : H8} (h : s.Ok) (l : List UInt8) : (feed s l).Ok := feed_ok h _ l (Nat.le_refl _)
theorem feed_append (m : List UInt8) : ∀ (n : Nat) (s : H8) (l : List UInt8), l.length ≤ n → feed s (l ++ m) = feed (feed s l) (tailB l ++ m) := by
  intro n
  induction n with
  | zero => intro s l hl; rw [feed_short s l (by omega), tail_short l (by omega)]
  | succ n ih =>
    intro s l hl
    by_cases hs : l.length < 64
    · rw [feed_short s l hs, tail_short l hs]
    · rw [feed_long s l (by omega), tail_long l (by omega), feed_long s (l ++ m) (by rw [List.length_append]; omega), List.take_append_of_le_length (by omega), List.drop_append_of_le_length (by omega)]
      exact ih _ _ (by rw [List.length_drop]; omega)
theorem tail_append (m : List UInt8) : ∀ (n : Nat) (l : List UInt8), l.length ≤ n → tailB (l ++ m) = tailB (tailB l ++ m) := by
  intro n
  induction n with
  | zero => intro l hl; rw [tail_short l (by omega)]
  | succ n ih =>
    intro l hl
    by_cases hs : l.length < 64
    · rw [tail_short l hs]
    · rw [tail_long l (by omega), tail_long (l ++ m) (by rw [List.length_append]; omega), List.drop_append_of_le_length (by omega)]
      exact ih _ (by rw [List.length_drop]; omega)

/-! ### the sum -/
/-- what comes to so many bytes -/
def pad (n : Nat) : List UInt8 := 128 :: (List.replicate ((119 - n % 64) % 64) 0 ++ bigL (8 * n) 8)
theorem pad_length (n : Nat) : (pad n).length = 9 + (119 - n % 64) % 64 := by simp [pad, bigL_length]; omega
/-- the words' bytes -/
def outT (s : H8) : List UInt8 := bigL s.a 4 ++ bigL s.b 4 ++ bigL s.c 4 ++ bigL s.d 4 ++ bigL s.e 4 ++ bigL s.f 4 ++ bigL s.g 4 ++ bigL s.h 4
theorem outT_length (s : H8) : (outT s).length = 32 := by simp [outT, bigL_length]
/-- the sum of all bytes that were taken: the words, what waits, how many there were -/
def endT (s : H8) (b : List UInt8) (n : Nat) : List UInt8 := outT (feed s (b ++ pad n))
/-- the sum of bytes -/
def sumT (l : List UInt8) : List UInt8 := outT (feed h0 (l ++ pad l.length))
theorem sumT_length (l : List UInt8) : (sumT l).length = 32 := outT_length _
theorem end_sum (l : List UInt8) : endT (feed h0 l) (tailB l) l.length = sumT l := by
  unfold endT sumT
  rw [← feed_append _ l.length h0 l (Nat.le_refl _)]

theorem abc_sum : (sumT [97, 98, 99]).take 4 = [186, 120, 22, 191] := by decide +kernel
end Go.Proofs.YtopblemgkcdgnaaDoor
