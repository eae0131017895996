/- Texts that stand on one another, put together: CRef, CSome, CCalls, FByteMath, TMath, EMath, Rel, Rel2, PBase, PMath, PSame, PRight, PNeg, PPlus. -/
import Derived.Test.YtmekmlgpkbfjpaaGreatDoorK5
import Derived.Deep.RegionHeld3
import Derived.Laws.BitsAllLaws
import Derived.Laws.ShiftsVarLaws
/- The contracts of the reference's D, On and Affine. -/
namespace Go.Proofs.YtmekmlgpkbfjpaaGreatDoor.C
open Go.RowKit Go.Sort Go.Proofs.YtmekmlgpkbfjpaaGreatDoor.F
set_option maxRecDepth 100000

attribute [local irreducible] feA
theorem eql_exec {o : Oper} {a : Act} {x y : Operand} {r : TypeId} (ho : o.op = .binOp .eql 72 x y r) (m n : Nat) (hm : m < K256) (hn : n < K256) (hx : a.eval x = fe m) (hy : a.eval y = fe n) (w : World) :
    (execOp a.eval o).run Tryz.prog w = .ok (.value (.bool (decide (m = n)))) w := by
  unfold execOp
  simp only [ho, hx, hy, Sem.run_bind, run_eqGuard_agg (hm := Tryz.eqGuardType72), Result.andThen_ok, eql_fe m n hm hn, Sem.run_pure]

end Go.Proofs.YtmekmlgpkbfjpaaGreatDoor.C

/- The statements' own helpers: alive, and some point of a number. -/
namespace Go.Proofs.YtmekmlgpkbfjpaaGreatDoor.C
open Go.RowKit Go.Sort Go.Proofs.YtmekmlgpkbfjpaaGreatDoor.F
set_option maxRecDepth 100000

/-! ### calls of what may be -/
section
variable {f : N4 → N4 → N4}
end
attribute [local irreducible] feA ptA
/-! ### some point -/
section
variable {w0 : World} {Q : Act → Prop} {a : Act} {rest : List Oper} {t' : TypeId} {pos : String} {after : Array Edge} {d : Option Tmp} {x : Operand}
/-- one of the scalars' numbers is read whole -/
theorem wpQB_sc (g n : Nat) (hz : Lies w0 g 67 (feA n)) (hx : a.eval x = .pointer (some ⟨g, 0, none⟩))
    (h : wpQB Tryz.prog w0 Q rest (a.put d (fe n))) : wpQB Tryz.prog w0 Q (⟨d, .load 67 x, t', pos, after, none⟩ :: rest) a :=
  wpQB_load g 67 (feA n) _ Tryz.underlying67 rfl (by rw [feA_size]; exact G.rowFe.2) hz hx h
end
end Go.Proofs.YtmekmlgpkbfjpaaGreatDoor.C

/- The points' calls where all points may be; what the statements' walks take. -/
namespace Go.Proofs.YtmekmlgpkbfjpaaGreatDoor.C
open Go.RowKit Go.Sort Go.Proofs.YtmekmlgpkbfjpaaGreatDoor.F
set_option maxRecDepth 100000

/-! ### a point's bytes, parsed -/
def parseT (P : Pt) : N4 := parseN P.y.val (decide (P.x.val % 2 = 1))
theorem text_size (P : Pt) : (textN P).size = 32 := by
  unfold textN
  rw [ByteArray.size]
  simp [leL_length]
theorem text_num (P : Pt) : numLE (textN P).data.toList = P.y.val + two255 * (P.x.val % 2) := by
  unfold textN
  have hy : P.y.val < p25 := P.y.isLt
  rw [show (⟨(leL (P.y.val + two255 * (P.x.val % 2)) 32).toArray⟩ : ByteArray).data.toList = leL (P.y.val + two255 * (P.x.val % 2)) 32 from rfl, numLE_leL, Nat.mod_eq_of_lt]
  have h1 : P.x.val % 2 < 2 := Nat.mod_lt _ (by decide)
  have h2 : (256 : Nat) ^ 32 = 2 * two255 := by decide
  rw [h2]
  unfold p25 at hy
  unfold two255
  omega
theorem text_parts (P : Pt) : numLE (textN P).data.toList % two255 = P.y.val ∧ decide (two255 ≤ numLE (textN P).data.toList) = decide (P.x.val % 2 = 1) := by
  have hy : P.y.val < p25 := P.y.isLt
  have h1 : P.x.val % 2 < 2 := Nat.mod_lt _ (by decide)
  rw [text_num]
  unfold p25 at hy
  unfold two255
  generalize P.x.val % 2 = b at *
  generalize P.y.val = y at *
  refine ⟨by omega, ?_⟩
  by_cases hb : b = 1
  · rw [decide_eq_true hb, decide_eq_true]
    omega
  · rw [decide_eq_false hb, decide_eq_false]
    omega
theorem parseB_on {P : Pt} (h : P.On) : parseB P.y.val (decide (P.x.val % 2 = 1)) = true := by
  have hon : On P.x (z P.y.val) := by rw [z_back]; exact h
  have hx := xOf_is hon
  unfold parseB
  rw [decide_eq_true P.y.isLt, (xB_iff P.y.val).2 ⟨P.x, hon⟩]
  cases hd : decide (P.x.val % 2 = 1) with
  | false => rfl
  | true =>
    rw [hd] at hx
    by_cases h0 : xE P.y.val = 0
    · rw [decide_eq_true_iff, hx] at hd
      unfold xOf at hd
      rw [if_pos rfl, h0] at hd
      exact absurd hd (by decide)
    · rw [decide_eq_false h0]
      rfl
theorem parseT_pn {P : Pt} (h : P.On) : Pn (parseT P) P := by
  have hon : On P.x (z P.y.val) := by rw [z_back]; exact h
  have hx := xOf_is hon
  have h1 := parse_pn (parseB_on h)
  rw [← hx, z_back, z_back] at h1
  exact h1

/-- whatever the points' functions make of points that may be -/
structure Pts (T : World → Prop) where
  f : N4 → N4 → N4
  g : N4 → N4
  m : Nat → N4 → N4
  add_pn : ∀ {u v P Q}, Pn u P → Pn v Q → Pn (f u v) (P.add Q)
  add : ∀ {u v P Q} (w : World), Pn u P → Pn v Q → T w → Calls Tryz.prog 66 #[pt u, pt v] w fun e w' => e = .returned (.tuple #[pt (f u v), .int .i64 0]) ∧ Below w.heap.size w w'
  neg_pn : ∀ {u P}, Pn u P → Pn (g u) P.neg
  neg : ∀ {u P} (w : World), Pn u P → T w → Calls Tryz.prog 65 #[pt u] w fun e w' => e = .returned (.tuple #[pt (g u), .int .i64 0]) ∧ Below w.heap.size w w'
  mul_pn : ∀ {n u P}, n < K256 → Pn u P → Pn (m n u) (P.smul n)
  mul : ∀ {n u P} (w : World), n < K256 → Pn u P → T w → Calls Tryz.prog 64 #[fe n, pt u] w fun e w' => e = .returned (.tuple #[pt (m n u), .int .i64 0]) ∧ Below w.heap.size w w'
  bytes : ∀ {u P} (w : World), Pn u P → T w → Calls Tryz.prog 88 #[pt u] w fun e w' => e = .returned (.tuple #[.string (textN P), .int .i64 0]) ∧ Below w.heap.size w w'
  parse : ∀ {P : Pt} (w : World), P.On → T w → TabR w → Calls Tryz.prog 37 #[.string (textN P)] w fun e w' => e = .returned (.tuple #[pt (parseT P), .int .i64 0]) ∧ Below w.heap.size w w'
  zero : ∀ (w : World), T w → Calls Tryz.prog 143 #[] w fun e w' => e = .returned (pt zeroN) ∧ Below w.heap.size w w'
  base : ∀ (w : World), T w → Calls Tryz.prog 89 #[] w fun e w' => e = .returned (pt baseN) ∧ Below w.heap.size w w'
theorem pts {T : World → Prop} (F : FieldOk) (O : PointOk) (hTp : ∀ w, T w → PtTab w) : Nonempty (Pts T) := by
  obtain ⟨f, f1, f2⟩ := O.add
  obtain ⟨g, g1, g2⟩ := O.neg
  obtain ⟨m, m1, m2⟩ := O.mul
  have _ := F
  exact ⟨{
    f := f, g := g, m := m
    add_pn := fun h k => f1 _ _ _ _ h k
    add := fun {u v P Q} w h k hT => by
      have h2 := f2 u v w h.lt k.lt (hTp _ hT)
      rw [if_pos (by rw [h.right, k.right]; rfl)] at h2
      exact h2
    neg_pn := fun h => g1 _ _ h
    neg := fun {u P} w h hT => by
      have h2 := g2 u w h.lt (hTp _ hT)
      rw [if_pos h.right] at h2
      exact h2
    mul_pn := fun hn h => m1 _ _ _ hn h
    mul := fun {n u P} w hn h hT => by
      have h2 := m2 n u w hn h.lt (hTp _ hT)
      rw [if_pos h.right] at h2
      exact h2
    bytes := fun {u P} w h hT => by
      have h2 := O.bytes u w h.lt (hTp _ hT)
      rw [if_pos h.right, h.of] at h2
      exact h2
    parse := fun {P} w h hT hR => by
      have h2 := O.parse (textN P) w (by rw [text_size]; decide) ⟨hTp _ hT, hR⟩
      rw [if_pos (text_size P), (text_parts P).1, (text_parts P).2, if_pos (parseB_on h)] at h2
      exact h2
    zero := fun w hT => O.zero w (hTp _ hT)
    base := fun w hT => O.base w (hTp _ hT)
    }⟩
end Go.Proofs.YtmekmlgpkbfjpaaGreatDoor.C

/- Bytes of words, and words of bytes. Nothing of the program is named here. -/
namespace Go.Proofs.YtmekmlgpkbfjpaaGreatDoor.F

/-- a byte of a word is a byte of the number -/
theorem word_byte (n i : Nat) : wordN n (i / 8) / 2 ^ (8 * (i % 8)) % 256 = n / 256 ^ i % 256 := by
  unfold wordN
  obtain ⟨q, hq⟩ : ∃ q, i / 8 = q := ⟨_, rfl⟩
  obtain ⟨r, hr⟩ : ∃ r, i % 8 = r := ⟨_, rfl⟩
  have hr8 : r < 8 := by omega
  have e2 : (256 : Nat) ^ i = 18446744073709551616 ^ q * 256 ^ r := by
    rw [show i = 8 * q + r by omega, Nat.pow_add, Nat.pow_mul]
  have e1 : (18446744073709551616 : Nat) = 256 ^ r * 256 ^ (8 - r) := by rw [← Nat.pow_add, show r + (8 - r) = 8 by omega]
  have e3 : (256 : Nat) ^ (8 - r) = 256 * 256 ^ (7 - r) := by rw [show 8 - r = (7 - r) + 1 by omega, Nat.pow_succ, Nat.mul_comm]
  rw [hq, hr, e2, ← Nat.div_div_eq_div_mul, show (2 : Nat) ^ (8 * r) = 256 ^ r by rw [Nat.pow_mul]]
  generalize n / 18446744073709551616 ^ q = m
  rw [e1, Nat.mod_mul_right_div_self, e3, Nat.mod_mul_right_mod]
theorem leL_succ (n k : Nat) : leL n (k + 1) = leL n k ++ [(n / 256 ^ k % 256).toUInt8] := rfl
/-- a byte laid above what a word has -/
theorem or_byte (a b r : Nat) (ha : a < 256 ^ r) (hb : b < 256) (hr : r < 8) : a ||| b * 2 ^ (8 * r) = a + b * 256 ^ r ∧ b * 2 ^ (8 * r) < 18446744073709551616 ∧ a + b * 256 ^ r < 18446744073709551616 := by
  have e : (2 : Nat) ^ (8 * r) = 256 ^ r := by rw [Nat.pow_mul]
  have h1 : a + b * 256 ^ r < 256 ^ (r + 1) := by
    rw [Nat.pow_succ]
    have := Nat.mul_le_mul_right (256 ^ r) (show b ≤ 255 by omega)
    omega
  have h2 : (256 : Nat) ^ (r + 1) ≤ 256 ^ 8 := Nat.pow_le_pow_right (by decide) (by omega)
  have h3 : (256 : Nat) ^ 8 = 18446744073709551616 := by decide
  refine ⟨?_, by rw [e]; omega, by omega⟩
  rw [Nat.or_comm, Nat.mul_comm b (2 ^ (8 * r)), ← Nat.two_pow_add_eq_or_of_lt (by rw [e]; exact ha), e, Nat.mul_comm (256 ^ r) b]
  omega
theorem valK_at_le (l : List Nat) (q : Nat) : 18446744073709551616 ^ q * l.getD q 0 ≤ valK l := by
  by_cases h : q < l.length
  · have h1 := valK_append (l.take (q + 1)) (l.drop (q + 1))
    rw [List.take_append_drop, valK_take_succ] at h1
    omega
  · rw [getD_past (by omega)]
    omega
/-- one byte more -/
theorem put_byte (l : List Nat) (i b : Nat) (hl : l.length = 4) (hi : i < 32) (hv : valK l < 256 ^ i) :
    l.getD (i / 8) 0 < 256 ^ (i % 8) ∧ valK (l.set (i / 8) (l.getD (i / 8) 0 + b * 256 ^ (i % 8))) = valK l + 256 ^ i * b := by
  have e : (256 : Nat) ^ i = 18446744073709551616 ^ (i / 8) * 256 ^ (i % 8) := by
    rw [show (18446744073709551616 : Nat) = 256 ^ 8 by decide, ← Nat.pow_mul, ← Nat.pow_add, Nat.div_add_mod]
  constructor
  · have h1 := valK_at_le l (i / 8)
    rw [e] at hv
    exact Nat.lt_of_mul_lt_mul_left (Nat.lt_of_le_of_lt h1 hv)
  · have h1 := valK_set l (i / 8) (l.getD (i / 8) 0 + b * 256 ^ (i % 8)) (by omega)
    rw [e]
    rw [Nat.mul_add] at h1
    have h2 : 18446744073709551616 ^ (i / 8) * (b * 256 ^ (i % 8)) = 18446744073709551616 ^ (i / 8) * 256 ^ (i % 8) * b := by
      rw [Nat.mul_comm b, Nat.mul_assoc]
    omega
theorem numLE_take (l : List UInt8) (i : Nat) (h : i < l.length) : numLE (l.take (i + 1)) = numLE (l.take i) + 256 ^ i * (l.getD i 0).toNat := by
  rw [take_getD l i h, numLE_append, List.length_take, Nat.min_eq_left (by omega)]
  simp [numLE]
end Go.Proofs.YtmekmlgpkbfjpaaGreatDoor.F

/- Plain facts about sums of 512 bits, as numbers and lists of bytes: nothing of the program is named here. -/
namespace Go.Proofs.YtmekmlgpkbfjpaaGreatDoor.T

/-! ### words -/
/-- a word turned right -/
def rotr (x n : Nat) : Nat := x / 2 ^ n + x % 2 ^ n * 2 ^ (64 - n)
theorem rotr_lt (x n : Nat) (hx : x < 18446744073709551616) (hn : n ≤ 64) : rotr x n < 18446744073709551616 := by
  unfold rotr
  obtain ⟨m, hm⟩ : ∃ m, 64 = n + m := ⟨64 - n, by omega⟩
  have e : 64 - n = m := by omega
  rw [e]
  have hp : (18446744073709551616 : Nat) = 2 ^ n * 2 ^ m := by rw [← Nat.pow_add, ← hm]
  have h1 : x / 2 ^ n < 2 ^ m := by rw [Nat.div_lt_iff_lt_mul (Nat.two_pow_pos n), Nat.mul_comm, ← hp]; exact hx
  have h2 : x % 2 ^ n < 2 ^ n := Nat.mod_lt _ (Nat.two_pow_pos n)
  have h3 : (x % 2 ^ n + 1) * 2 ^ m ≤ 2 ^ n * 2 ^ m := Nat.mul_le_mul_right _ h2
  rw [Nat.add_mul] at h3
  omega
theorem rotr_or (x n : Nat) (hn : n ≤ 64) (hx : x < 18446744073709551616) : (x * 2 ^ (64 - n) % 18446744073709551616) ||| (x / 2 ^ n) = rotr x n := by
  unfold rotr
  obtain ⟨m, hm⟩ : ∃ m, 64 = n + m := ⟨64 - n, by omega⟩
  have e : 64 - n = m := by omega
  rw [e]
  have hp : (18446744073709551616 : Nat) = 2 ^ n * 2 ^ m := by rw [← Nat.pow_add, ← hm]
  have h1 : x / 2 ^ n < 2 ^ m := by rw [Nat.div_lt_iff_lt_mul (Nat.two_pow_pos n), Nat.mul_comm, ← hp]; exact hx
  rw [hp, Nat.mul_mod_mul_right, ← Nat.shiftLeft_eq, ← Nat.shiftLeft_add_eq_or_of_lt h1, Nat.add_comm]

theorem xor_lt (a b : Nat) (ha : a < 18446744073709551616) (hb : b < 18446744073709551616) : a ^^^ b < 18446744073709551616 := Nat.xor_lt_two_pow (n := 64) ha hb
theorem and_lt (a b : Nat) (hb : b < 18446744073709551616) : a &&& b < 18446744073709551616 := Nat.and_lt_two_pow (n := 64) a hb

def bsig0 (x : Nat) : Nat := rotr x 28 ^^^ rotr x 34 ^^^ rotr x 39
def bsig1 (x : Nat) : Nat := rotr x 14 ^^^ rotr x 18 ^^^ rotr x 41
def ssig0 (x : Nat) : Nat := rotr x 1 ^^^ rotr x 8 ^^^ x / 2 ^ 7
def ssig1 (x : Nat) : Nat := rotr x 19 ^^^ rotr x 61 ^^^ x / 2 ^ 6
def chs (e f g : Nat) : Nat := (e &&& f) ^^^ ((18446744073709551615 - e) &&& g)
def maj (a b c : Nat) : Nat := (a &&& b) ^^^ (a &&& c) ^^^ (b &&& c)
/-! ### eight words -/
structure H8 where
  a : Nat
  b : Nat
  c : Nat
  d : Nat
  e : Nat
  f : Nat
  g : Nat
  h : Nat
  deriving DecidableEq
def H8.Ok (s : H8) : Prop := s.a < 18446744073709551616 ∧ s.b < 18446744073709551616 ∧ s.c < 18446744073709551616 ∧ s.d < 18446744073709551616 ∧ s.e < 18446744073709551616 ∧ s.f < 18446744073709551616 ∧ s.g < 18446744073709551616 ∧ s.h < 18446744073709551616
def H8.at (s : H8) : Nat → Nat
  | 0 => s.a
  | 1 => s.b
  | 2 => s.c
  | 3 => s.d
  | 4 => s.e
  | 5 => s.f
  | 6 => s.g
  | _ => s.h
theorem H8.at_lt {s : H8} (h : s.Ok) (i : Nat) : s.at i < 18446744073709551616 := by
  obtain ⟨h0, h1, h2, h3, h4, h5, h6, h7⟩ := h
  unfold H8.at
  split <;> assumption
def H8.plus (s v : H8) : H8 := ⟨(s.a + v.a) % 18446744073709551616, (s.b + v.b) % 18446744073709551616, (s.c + v.c) % 18446744073709551616, (s.d + v.d) % 18446744073709551616, (s.e + v.e) % 18446744073709551616, (s.f + v.f) % 18446744073709551616, (s.g + v.g) % 18446744073709551616, (s.h + v.h) % 18446744073709551616⟩
theorem H8.plus_ok (s v : H8) : (s.plus v).Ok := by
  unfold H8.plus H8.Ok
  simp only
  omega

def tmp1 (s : H8) (k w : Nat) : Nat := (s.h + bsig1 s.e + chs s.e s.f s.g + k + w) % 18446744073709551616
def tmp2 (s : H8) : Nat := (bsig0 s.a + maj s.a s.b s.c) % 18446744073709551616
def rnd (s : H8) (k w : Nat) : H8 := ⟨(tmp1 s k w + tmp2 s) % 18446744073709551616, s.a, s.b, s.c, (s.d + tmp1 s k w) % 18446744073709551616, s.e, s.f, s.g⟩
theorem rnd_ok {s : H8} (h : s.Ok) (k w : Nat) : (rnd s k w).Ok := by
  obtain ⟨h0, h1, h2, h3, h4, h5, h6, h7⟩ := h
  exact ⟨Nat.mod_lt _ (by decide), h0, h1, h2, Nat.mod_lt _ (by decide), h4, h5, h6⟩

/-! ### constants -/
def ks : List Nat := [
  4794697086780616226, 8158064640168781261, 13096744586834688815, 16840607885511220156,
  4131703408338449720, 6480981068601479193, 10538285296894168987, 12329834152419229976,
  15566598209576043074, 1334009975649890238, 2608012711638119052, 6128411473006802146,
  8268148722764581231, 9286055187155687089, 11230858885718282805, 13951009754708518548,
  16472876342353939154, 17275323862435702243, 1135362057144423861, 2597628984639134821,
  3308224258029322869, 5365058923640841347, 6679025012923562964, 8573033837759648693,
  10970295158949994411, 12119686244451234320, 12683024718118986047, 13788192230050041572,
  14330467153632333762, 15395433587784984357, 489312712824947311, 1452737877330783856,
  2861767655752347644, 3322285676063803686, 5560940570517711597, 5996557281743188959,
  7280758554555802590, 8532644243296465576, 9350256976987008742, 10552545826968843579,
  11727347734174303076, 12113106623233404929, 14000437183269869457, 14369950271660146224,
  15101387698204529176, 15463397548674623760, 17586052441742319658, 1182934255886127544,
  1847814050463011016, 2177327727835720531, 2830643537854262169, 3796741975233480872,
  4115178125766777443, 5681478168544905931, 6601373596472566643, 7507060721942968483,
  8399075790359081724, 8693463985226723168, 9568029438360202098, 10144078919501101548,
  10430055236837252648, 11840083180663258601, 13761210420658862357, 14299343276471374635,
  14566680578165727644, 15097957966210449927, 16922976911328602910, 17689382322260857208,
  500013540394364858, 748580250866718886, 1242879168328830382, 1977374033974150939,
  2944078676154940804, 3659926193048069267, 4368137639120453308, 4836135668995329356,
  5532061633213252278, 6448918945643986474, 6902733635092675308, 7801388544844847127]
def kAt (t : Nat) : Nat := ks.getD t 0
theorem kAt_all : ∀ t : Fin 80, kAt t.val < 18446744073709551616 := by decide +kernel
theorem kAt_lt (t : Nat) (h : t < 80) : kAt t < 18446744073709551616 := kAt_all ⟨t, h⟩
def h0 : H8 := ⟨7640891576956012808, 13503953896175478587, 4354685564936845355, 11912009170470909681, 5840696475078001361, 11170449401992604703, 2270897969802886507, 6620516959819538809⟩
theorem h0_ok : h0.Ok := by unfold h0 H8.Ok; decide

/-! ### a block -/
/-- the words of a block's first rounds -/
def sched (b : List UInt8) : Nat → List Nat
  | 0 => []
  | t + 1 => sched b t ++ [if t < 16 then numL ((b.drop (8 * t)).take 8) else (ssig1 ((sched b t).getD (t - 2) 0) + (sched b t).getD (t - 7) 0 + ssig0 ((sched b t).getD (t - 15) 0) + (sched b t).getD (t - 16) 0) % 18446744073709551616]
theorem sched_length (b : List UInt8) (t : Nat) : (sched b t).length = t := by
  induction t with
  | zero => rfl
  | succ t ih => simp [sched, ih]
theorem sched_lt (b : List UInt8) (t : Nat) : ∀ x ∈ sched b t, x < 18446744073709551616 := by
  induction t with
  | zero => intro x hx; cases hx
  | succ t ih =>
    intro x hx
    rw [sched, List.mem_append] at hx
    rcases hx with hx | hx
    · exact ih x hx
    · rw [List.mem_singleton] at hx
      subst hx
      split
      · refine Nat.lt_of_lt_of_le (numL_lt _) ?_
        have : ((b.drop (8 * t)).take 8).length ≤ 8 := List.length_take_le _ _
        calc 256 ^ ((b.drop (8 * t)).take 8).length ≤ 256 ^ 8 := Nat.pow_le_pow_right (by decide) this
          _ = 18446744073709551616 := by decide
      · exact Nat.mod_lt _ (by decide)
theorem sched_at_lt (b : List UInt8) (t i : Nat) : (sched b t).getD i 0 < 18446744073709551616 := by
  rw [List.getD_eq_getElem?_getD]
  rcases h : (sched b t)[i]? with _ | x
  · simp
  · exact sched_lt b t x (List.mem_of_getElem? h)

def rnds (w : List Nat) (s : H8) : Nat → H8
  | 0 => s
  | t + 1 => rnd (rnds w s t) (kAt t) (w.getD t 0)
/-- eight words behind a block -/
def mix (s : H8) (b : List UInt8) : H8 := s.plus (rnds (sched b 80) s 80)
theorem mix_ok (s : H8) (b : List UInt8) : (mix s b).Ok := H8.plus_ok _ _

/-! ### blocks -/
def absorb (s : H8) : Nat → List UInt8 → H8
  | 0, _ => s
  | n + 1, l => absorb (mix s (l.take 128)) n (l.drop 128)
/-- eight words behind all whole blocks of bytes -/
def feed (s : H8) (l : List UInt8) : H8 := absorb s (l.length / 128) l
/-- what is left behind all whole blocks -/
def tailB (l : List UInt8) : List UInt8 := l.drop (128 * (l.length / 128))
theorem feed_short (s : H8) (l : List UInt8) (h : l.length < 128) : feed s l = s := by
  unfold feed; rw [Nat.div_eq_of_lt h]; rfl
theorem tail_short (l : List UInt8) (h : l.length < 128) : tailB l = l := by
  unfold tailB; rw [Nat.div_eq_of_lt h]; rfl
theorem feed_long (s : H8) (l : List UInt8) (h : 128 ≤ l.length) : feed s l = feed (mix s (l.take 128)) (l.drop 128) := by
  unfold feed
  obtain ⟨n, hn⟩ : ∃ n, l.length / 128 = n + 1 := ⟨l.length / 128 - 1, by omega⟩
  rw [hn, absorb, List.length_drop, show (l.length - 128) / 128 = n by omega]
theorem tail_long (l : List UInt8) (h : 128 ≤ l.length) : tailB l = tailB (l.drop 128) := by
  unfold tailB
  rw [List.length_drop, List.drop_drop]
  congr 1
  omega
theorem tail_length (l : List UInt8) : (tailB l).length = l.length % 128 := by
  unfold tailB
  rw [List.length_drop]
  omega
theorem feed_ok {s : H8} (h : s.Ok) : ∀ (n : Nat) (l : List UInt8), l.length ≤ n → (feed s l).Ok := by
  intro n
  induction n generalizing s with
  | zero => intro l hl; rw [feed_short _ _ (by omega)]; exact h
  | succ n ih =>
    intro l hl
    by_cases hs : l.length < 128
    · rw [feed_short _ _ hs]; exact h
    · rw [feed_long _ _ (by omega)]
      exact ih (mix_ok _ _) _ (by rw [List.length_drop]; omega)
theorem feed_ok' {s : H8} (h : s.Ok) (l : List UInt8) : (feed s l).Ok := feed_ok h _ l (Nat.le_refl _)
theorem feed_append (m : List UInt8) : ∀ (n : Nat) (s : H8) (l : List UInt8), l.length ≤ n → feed s (l ++ m) = feed (feed s l) (tailB l ++ m) := by
  intro n
  induction n with
  | zero => intro s l hl; rw [feed_short s l (by omega), tail_short l (by omega)]
  | succ n ih =>
    intro s l hl
    by_cases hs : l.length < 128
    · rw [feed_short s l hs, tail_short l hs]
    · rw [feed_long s l (by omega), tail_long l (by omega), feed_long s (l ++ m) (by rw [List.length_append]; omega), List.take_append_of_le_length (by omega), List.drop_append_of_le_length (by omega)]
      exact ih _ _ (by rw [List.length_drop]; omega)
theorem tail_append (m : List UInt8) : ∀ (n : Nat) (l : List UInt8), l.length ≤ n → tailB (l ++ m) = tailB (tailB l ++ m) := by
  intro n
  induction n with
  | zero => intro l hl; rw [tail_short l (by omega)]
  | succ n ih =>
    intro l hl
    by_cases hs : l.length < 128
    · rw [tail_short l hs]
    · rw [tail_long l (by omega), tail_long (l ++ m) (by rw [List.length_append]; omega), List.drop_append_of_le_length (by omega)]
      exact ih _ (by rw [List.length_drop]; omega)

/-! ### the sum -/
/-- what comes to so many bytes -/
def pad (n : Nat) : List UInt8 := 128 :: (List.replicate ((239 - n % 128) % 128) 0 ++ bigL (8 * n) 16)
theorem pad_length (n : Nat) : (pad n).length = 17 + (239 - n % 128) % 128 := by simp [pad, bigL_length]; omega
/-- the words' bytes -/
def outT (s : H8) : List UInt8 := bigL s.a 8 ++ bigL s.b 8 ++ bigL s.c 8 ++ bigL s.d 8 ++ bigL s.e 8 ++ bigL s.f 8 ++ bigL s.g 8 ++ bigL s.h 8
theorem outT_length (s : H8) : (outT s).length = 64 := by simp [outT, bigL_length]
/-- the sum of all bytes that were taken: the words, what waits, how many there were -/
def endT (s : H8) (b : List UInt8) (n : Nat) : List UInt8 := outT (feed s (b ++ pad n))
/-- the sum of bytes -/
def sumT (l : List UInt8) : List UInt8 := outT (feed h0 (l ++ pad l.length))
theorem sumT_length (l : List UInt8) : (sumT l).length = 64 := outT_length _
theorem end_sum (l : List UInt8) : endT (feed h0 l) (tailB l) l.length = sumT l := by
  unfold endT sumT
  rw [← feed_append _ l.length h0 l (Nat.le_refl _)]

end Go.Proofs.YtmekmlgpkbfjpaaGreatDoor.T

/- What a signature comes to, as points and numbers: texts tell points, what is signed is verified, and another number is not; RFC 8032's first seed. -/
namespace Go.Proofs.YtmekmlgpkbfjpaaGreatDoor.E
open Go.Proofs.YtmekmlgpkbfjpaaGreatDoor.F Go.Proofs.YtmekmlgpkbfjpaaGreatDoor.C

/-! ### texts tell points -/
/-! ### a power of 2 times the base point is not zero -/
theorem add_back {P R : Pt} (hP : P.On) (hR : R.On) : (P.add R).add R.neg = P := by
  rw [Pt.add_assoc hP hR (Pt.neg_on hR), Pt.add_neg hR, Pt.add_zero hP]
/-! ### what is signed -/
abbrev l25 : Nat := l25'
theorem smul_left (n : Nat) : Bp.smul (n % l25) = Bp.smul n := Pt.smul_mod Bp_on Bp_order n
/-- r and k times a's number, less k times a's point, is r -/
theorem sign_point (r k a : Nat) : (Bp.smul ((r + k * a % l25) % l25)).add ((Bp.smul a).smul k).neg = Bp.smul r := by
  have ha := Pt.smul_on Bp_on a
  rw [smul_left, Pt.smul_add Bp_on, smul_left, Nat.mul_comm k a, Pt.smul_mul Bp_on]
  exact add_back (Pt.smul_on Bp_on r) (Pt.smul_on ha k)

/-! ### one bit is another one -/
/-! ### a seed's number, prefix and key -/
/-- the first 32 bytes of a sum with the bits that hang on no seed -/
def clampL (l : List UInt8) : List UInt8 := ((l.take 32).set 0 ((l.getD 0 0).toNat - (l.getD 0 0).toNat % 8).toUInt8).set 31 ((l.getD 31 0).toNat % 64 + 64).toUInt8
/-- a seed's number, and what it leaves -/
def seedN (s : List UInt8) : Nat := numLE (clampL (T.sumT s))
def leftN (s : List UInt8) : Nat := numLE (T.sumT s) % l25
def keyP (s : List UInt8) : Pt := Bp.smul (seedN s % l25)
def keyT (s : List UInt8) : ByteArray := textN (keyP s)
def prefixL (s : List UInt8) : List UInt8 := (T.sumT s).drop 32
/-- a message's signature -/
def signR (s m : List UInt8) : Nat := leftN (prefixL s ++ m)
def signT (s m : List UInt8) : ByteArray := textN (Bp.smul (signR s m))
def signK (s m : List UInt8) : Nat := leftN ((signT s m).data.toList ++ ((keyT s).data.toList ++ m))
def signS (s m : List UInt8) : Nat := (signR s m + signK s m * (seedN s % l25) % l25) % l25

/-! ### RFC 8032's first seed -/
end Go.Proofs.YtmekmlgpkbfjpaaGreatDoor.E

/- A region that draws its order, whose head only reads and makes memory, where what an operation hands back is known only by what is said of it (a fresh slice, a new variable): walked once. Nothing of the program is named here. -/
namespace Go.Proofs.YtmekmlgpkbfjpaaGreatDoor
open Go.Sort Go.RowKit

/-- what is said of an operation's value -/
abbrev Said := Value → World → Prop
section
variable {P : Program} {ops : Array Oper} {md : Region.Mode} {w0 : World}

/-- the operation hands back such a value, and only makes memory -/
def does (P : Program) (o : Oper) (a : Act) (w : World) (r : Said) : Prop := match (execOp a.eval o).run P w with
  | .ok (.value v) w' => Below w.heap.size w w' ∧ r v w'
  | .ok (.enter f args) w' => w' = w ∧ Calls P f args w fun e w'' => ∃ v, e = .returned v ∧ Below w.heap.size w w'' ∧ r v w''
  | _ => False
/-- the walk in the text's order: a fact serves an operation that looks at its slot -/
def wpRel (P : Program) (ops : Array Oper) (w0 : World) (Q : Act → World → Prop) : List (Oper × Said) → List (Tmp × (World → Prop)) → Act → Prop
  | [], G, a => ∀ w, Below w0.heap.size w0 w → (∀ p ∈ G, p.2 w) → Q a w
  | (o, r) :: rest, G, a => (∀ w, Below w0.heap.size w0 w → (∀ p ∈ G, p.1 ∈ o.looksAt ops → p.2 w) → does P o a w r) ∧
      ∀ v, wpRel P ops w0 Q rest ((o.dst.getD 0, r v) :: G) (a.put o.dst v)

/-- what the walk asks of the region, as a Bool -/
def relB (md : Region.Mode) (ops : Array Oper) (n m : Nat) : Bool :=
  Region.noSelect ops && decide (n < ops.size) && Region.sinkB md ops n && Region.chainB md ops n &&
  (List.range n).all (fun i => match ops[i]? with
    | none => false
    | some oi => (oi.guard == none) && (oi.after.all fun e => !Region.binds md e || decide (e.on < i)) && (match oi.dst with
      | none => false
      | some d => decide (d < m) && !(oi.looksAt ops).contains d && (List.range n).all (fun j => j == i || match ops[j]? with
        | none => false
        | some oj => oj.dst != some d && (!(oj.looksAt ops).contains d || Region.waitsFor md ops j i)))) &&
  Region.seqB md ops (ops.size - n) n ((List.replicate n true ++ List.replicate (ops.size - n) false).toArray)

def cnt : Nat → Array Bool → Nat
  | 0, _ => 0
  | k + 1, b => cnt k b + (if b.getD k true = false then 1 else 0)
theorem cnt_far {b : Array Bool} {j : Nat} : ∀ k, k ≤ j → cnt k (b.setIfInBounds j true) = cnt k b
  | 0, _ => rfl
  | k + 1, h => by rw [cnt, cnt, cnt_far k (by omega), getD_set_ne true (by omega)]
theorem cnt_set {b : Array Bool} {j : Nat} (hj : b.getD j true = false) : ∀ k, j < k → cnt k b = cnt k (b.setIfInBounds j true) + 1
  | 0, h => by omega
  | k + 1, h => by
    rw [cnt, cnt]
    by_cases hk : j = k
    · subst hk
      rw [cnt_far j (Nat.le_refl _), if_pos hj, if_neg (by
        have : (b.setIfInBounds j true).getD j true = true := by
          simp [Array.getElem?_setIfInBounds_self]
          split <;> rfl
        rw [this]; decide)]
    · rw [cnt_set hj k (by omega), getD_set_ne true hk]
      omega
theorem cnt_zero {b : Array Bool} : ∀ k, cnt k b = 0 → ∀ i, i < k → b.getD i true = true
  | 0, _, i, h => by omega
  | k + 1, h, i, hi => by
    rw [cnt] at h
    have h1 : ¬ b.getD k true = false := fun e => by rw [if_pos e] at h; omega
    by_cases hik : i = k
    · subst hik; simpa using h1
    · exact cnt_zero k (by omega) i (by omega)
theorem least_un {b : Array Bool} : ∀ k, cnt k b ≠ 0 → ∃ i, i < k ∧ b.getD i true = false ∧ ∀ j, j < i → b.getD j true = true
  | 0, h => absurd rfl h
  | k + 1, h => by
    by_cases h0 : cnt k b = 0
    · rw [cnt, h0] at h
      refine ⟨k, by omega, ?_, fun j hj => cnt_zero k h0 j hj⟩
      cases e : b.getD k true with
      | false => rfl
      | true => rw [e] at h; simp at h
    · obtain ⟨i, h1, h2⟩ := least_un k h0
      exact ⟨i, by omega, h2⟩

/-- the frame of the text's order, with these values -/
def putN : (Nat → Value) → List (Oper × Said) → Nat → Act → Act
  | _, [], _, a => a
  | _, _ :: _, 0, a => a
  | V, (o, _) :: l, i + 1, a => putN (fun k => V (k + 1)) l i (a.put o.dst (V 0))
theorem put_far {a : Act} {d : Option Tmp} {v : Value} {t : Tmp} (h : d ≠ some t) : (a.put d v).eval (.tmp t) = a.eval (.tmp t) :=
  Act.eval_put fun d' hd hx => h (by injection hx with hx; rw [hd, hx])
theorem put_at {a : Act} {d : Tmp} {v : Value} (h : d < a.tmps.size) : (a.put (some d) v).eval (.tmp d) = v := by
  simp [Act.put, Act.eval, Array.getElem?_setIfInBounds_self_of_lt h]
theorem put_size {a : Act} {d : Option Tmp} {v : Value} : (a.put d v).tmps.size = a.tmps.size := by cases d <;> simp [Act.put]
theorem put_defs {a : Act} {d : Option Tmp} {v : Value} : (a.put d v).defers = a.defers := by cases d <;> rfl
theorem putN_size : ∀ (l : List (Oper × Said)) (V : Nat → Value) (i : Nat) (a : Act), (putN V l i a).tmps.size = a.tmps.size ∧ (putN V l i a).defers = a.defers
  | [], _, _, _ => ⟨rfl, rfl⟩
  | _ :: _, _, 0, _ => ⟨rfl, rfl⟩
  | (o, _) :: l, V, i + 1, a => by
    obtain ⟨h1, h2⟩ := putN_size l (fun k => V (k + 1)) i (a.put o.dst (V 0))
    exact ⟨by rw [putN, h1, put_size], by rw [putN, h2, put_defs]⟩
theorem putN_far : ∀ (l : List (Oper × Said)) (V : Nat → Value) (i : Nat) (a : Act) (t : Tmp), (∀ (k : Nat) (o : Oper) (r : Said), k < i → l[k]? = some (o, r) → o.dst ≠ some t) → (putN V l i a).eval (.tmp t) = a.eval (.tmp t)
  | [], _, _, _, _, _ => rfl
  | _ :: _, _, 0, _, _, _ => rfl
  | (o, r) :: l, V, i + 1, a, t, h => by
    rw [putN, putN_far l _ i _ t (fun k o' r' hk hl => h (k + 1) o' r' (by omega) (by simpa using hl)), put_far (h 0 o r (by omega) rfl)]
theorem putN_at : ∀ (l : List (Oper × Said)) (V : Nat → Value) (i : Nat) (a : Act) (t : Tmp) (k : Nat) (o : Oper) (r : Said), k < i → l[k]? = some (o, r) → o.dst = some t → t < a.tmps.size → (∀ (j : Nat) (o' : Oper) (r' : Said), j ≠ k → l[j]? = some (o', r') → o'.dst ≠ some t) → (putN V l i a).eval (.tmp t) = V k
  | [], _, _, _, _, k, _, _, _, hl, _, _, _ => by simp at hl
  | _ :: _, _, 0, _, _, _, _, _, hk, _, _, _, _ => by omega
  | (o1, r1) :: l, V, i + 1, a, t, 0, o, r, _, hl, hd, ht, hfar => by
    simp only [List.getElem?_cons_zero, Option.some.injEq, Prod.mk.injEq] at hl
    obtain ⟨rfl, rfl⟩ := hl
    rw [putN, putN_far l _ i _ t (fun k o' r' _ hl' => hfar (k + 1) o' r' (by omega) (by simpa using hl')), hd, put_at ht]
  | (o1, r1) :: l, V, i + 1, a, t, k + 1, o, r, hk, hl, hd, ht, hfar => by
    rw [putN]
    exact putN_at l (fun k => V (k + 1)) i _ t k o r (by omega) (by simpa using hl) hd (by rw [put_size]; exact ht) (fun j o' r' hj hl' => hfar (j + 1) o' r' (by omega) (by simpa using hl'))

/-- each operation's own part of the walk -/
theorem wpRel_ob {Q : Act → World → Prop} : ∀ (l : List (Oper × Said)) (G : List (Tmp × (World → Prop))) (a : Act), (∀ (k : Nat) (o : Oper) (r : Said), l[k]? = some (o, r) → o.dst ≠ none) → wpRel P ops w0 Q l G a → ∀ (i : Nat) (o : Oper) (r : Said), l[i]? = some (o, r) → ∀ (V : Nat → Value) (w : World), Below w0.heap.size w0 w →
    (∀ p ∈ G, p.1 ∈ o.looksAt ops → p.2 w) → (∀ (k : Nat) (ok : Oper) (rk : Said) (d : Tmp), k < i → l[k]? = some (ok, rk) → ok.dst = some d → d ∈ o.looksAt ops → rk (V k) w) → does P o (putN V l i a) w r
  | [], _, _, _, _, i, _, _, hl, _, _, _, _, _ => by simp at hl
  | (o1, r1) :: l, G, a, hd, h, 0, o, r, hl, V, w, hw, hG, _ => by
    simp only [List.getElem?_cons_zero, Option.some.injEq, Prod.mk.injEq] at hl
    obtain ⟨rfl, rfl⟩ := hl
    exact h.1 w hw hG
  | (o1, r1) :: l, G, a, hd, h, i + 1, o, r, hl, V, w, hw, hG, hV => by
    rw [putN]
    refine wpRel_ob l _ _ (fun k o r hl => hd (k + 1) o r (by simpa using hl)) (h.2 (V 0)) i o r (by simpa using hl) (fun k => V (k + 1)) w hw (fun p hp hlook => ?_) (fun k ok rk d hk hl' hdk hlk => hV (k + 1) ok rk d (by omega) (by simpa using hl') hdk hlk)
    rcases List.mem_cons.1 hp with rfl | hp
    · cases hd1 : o1.dst with
      | none => exact absurd hd1 (hd 0 o1 r1 rfl)
      | some d1 =>
        simp only [hd1, Option.getD_some] at hlook
        exact hV 0 o1 r1 d1 (by omega) rfl hd1 hlook
    · exact hG p hp hlook
theorem wpRel_end {Q : Act → World → Prop} : ∀ (l : List (Oper × Said)) (G : List (Tmp × (World → Prop))) (a : Act), wpRel P ops w0 Q l G a → ∀ (V : Nat → Value) (w : World), Below w0.heap.size w0 w →
    (∀ p ∈ G, p.2 w) → (∀ (k : Nat) (ok : Oper) (rk : Said), l[k]? = some (ok, rk) → rk (V k) w) → Q (putN V l l.length a) w
  | [], _, _, h, _, w, hw, hG, _ => h w hw hG
  | (o1, r1) :: l, G, a, h, V, w, hw, hG, hV => by
    rw [List.length_cons, putN]
    refine wpRel_end l _ _ (h.2 (V 0)) (fun k => V (k + 1)) w hw (fun p hp => ?_) (fun k ok rk hl => hV (k + 1) ok rk (by simpa using hl))
    rcases List.mem_cons.1 hp with rfl | hp
    · exact hV 0 o1 r1 rfl
    · exact hG p hp
theorem does_congr {o : Oper} {a a' : Act} {w : World} {r : Said} (hs : ∀ cs b, o.op ≠ .select cs b) (h : ∀ t, t ∈ o.looksAt ops → a.eval (.tmp t) = a'.eval (.tmp t)) (hd : does P o a w r) : does P o a' w r := by
  have e : execOp a.eval o = execOp a'.eval o := execOp_congr o hs fun x hx => by
    cases x with
    | tmp t => exact h t (List.mem_append_left _ (List.mem_filterMap.2 ⟨.tmp t, by simpa using hx, rfl⟩))
    | _ => rfl
  unfold does at *
  rwa [e] at hd
theorem act_ext {a b : Act} (h1 : a.defers = b.defers) (h2 : a.tmps.size = b.tmps.size) (h3 : ∀ t, t < a.tmps.size → a.eval (.tmp t) = b.eval (.tmp t)) : a = b := by
  cases a; cases b
  simp only at h1 h2
  subst h1
  congr 1
  apply Array.ext h2
  intro i hi hj
  have := h3 i hi
  simp only [Act.eval, Array.getD_eq_getD_getElem?, Array.getElem?_eq_getElem hi, Array.getElem?_eq_getElem hj, Option.getD_some] at this
  exact this

/-- what holds on the way -/
structure Way (ops : Array Oper) (w0 : World) (n : Nat) (rs : Nat → Said) (a0 : Act) (listed : Array Bool) (a : Act) (w : World) : Prop where
  defs : a.defers = a0.defers
  size : a.tmps.size = a0.tmps.size
  same : ∀ t, (∀ (k : Nat) (ok : Oper), k < n → ops[k]? = some ok → ok.dst ≠ some t) → a.eval (.tmp t) = a0.eval (.tmp t)
  grown : Below w0.heap.size w0 w
  said : ∀ (k : Nat) (ok : Oper) (d : Tmp), k < n → ops[k]? = some ok → ok.dst = some d → listed.getD k true = true → rs k (a.eval (.tmp d)) w

theorem wpAny_rel {Q : Exit → Act → World → Prop} {l : List Oper} {n m : Nat} (hops : ops = l.toArray) (hB : relB md ops n m = true) {rs : Nat → Said} {a0 : Act} (hm : a0.tmps.size = m) (hmono : ∀ i v w w', rs i v w → Below w.heap.size w w' → rs i v w')
    (hob : ∀ (i : Nat) (oi : Oper), i < n → ops[i]? = some oi → ∀ (a : Act) (w : World), Below w0.heap.size w0 w → (∀ t, (∀ (k : Nat) (ok : Oper), k < n → ops[k]? = some ok → ok.dst ≠ some t) → a.eval (.tmp t) = a0.eval (.tmp t)) →
      (∀ (k : Nat) (ok : Oper) (d : Tmp), k < n → ops[k]? = some ok → ok.dst = some d → d ∈ oi.looksAt ops → rs k (a.eval (.tmp d)) w) → does P oi a w (rs i))
    (hend : ∀ (a : Act) (w : World), a.defers = a0.defers → a.tmps.size = a0.tmps.size → (∀ t, (∀ (k : Nat) (ok : Oper), k < n → ops[k]? = some ok → ok.dst ≠ some t) → a.eval (.tmp t) = a0.eval (.tmp t)) → Below w0.heap.size w0 w →
      (∀ (k : Nat) (ok : Oper) (d : Tmp), k < n → ops[k]? = some ok → ok.dst = some d → rs k (a.eval (.tmp d)) w) → wpList P ops Q (l.drop n) a w) :
    ∀ (f : Nat) (listed : Array Bool) (a : Act) (w : World), HeadInv md ops n listed → cnt n listed = f → Way ops w0 n rs a0 listed a w → wpAny P md ops Q (f + (ops.size - n)) listed a w := by
  simp only [relB, Bool.and_eq_true, decide_eq_true_eq] at hB
  obtain ⟨⟨⟨⟨⟨hsel, hn⟩, hs⟩, hc⟩, hall⟩, hseq⟩ := hB
  have hat : ∀ i, i < n → ∃ oi d, ops[i]? = some oi ∧ oi.dst = some d ∧ oi.guard = none ∧ d < m ∧ d ∉ oi.looksAt ops ∧ (∀ e ∈ oi.after, Region.binds md e = true → e.on < i) ∧
      (∀ j oj, j < n → j ≠ i → ops[j]? = some oj → oj.dst ≠ some d ∧ (d ∈ oj.looksAt ops → Region.waitsFor md ops j i = true)) := fun i hi => by
    have h1 := List.all_eq_true.1 hall i (List.mem_range.2 hi)
    cases ho : ops[i]? with
    | none => rw [ho] at h1; cases h1
    | some oi =>
      rw [ho] at h1
      simp only [Bool.and_eq_true] at h1
      obtain ⟨⟨hg, haf⟩, hd⟩ := h1
      cases hdst : oi.dst with
      | none => rw [hdst] at hd; cases hd
      | some d =>
        rw [hdst] at hd
        simp only [Bool.and_eq_true, decide_eq_true_eq] at hd
        obtain ⟨⟨hdm, hown⟩, hd⟩ := hd
        refine ⟨oi, d, rfl, hdst, by simpa using hg, hdm, by simpa using hown, fun e he hb => ?_, fun j oj hj hji hoj => ?_⟩
        · have := Array.all_eq_true_iff_forall_mem.1 haf e he
          rw [hb] at this
          simpa using this
        · have h2 := List.all_eq_true.1 hd j (List.mem_range.2 hj)
          rw [hoj] at h2
          simp only [Bool.or_eq_true, beq_iff_eq, Bool.and_eq_true] at h2
          rcases h2 with h2 | ⟨h2, h3⟩
          · exact absurd h2 hji
          · refine ⟨by simpa using h2, fun hlk => ?_⟩
            rcases h3 with h3 | h3
            · simp [hlk] at h3
            · exact h3
  intro f
  induction f with
  | zero =>
    intro listed a w inv hcnt way
    rw [Nat.zero_add]
    have hz := cnt_zero n hcnt
    have hF : listed = (List.replicate n true ++ List.replicate (ops.size - n) false).toArray := by
      apply Array.ext
      · simp [inv.size]; omega
      · intro i hi hi2
        by_cases hin : i < n
        · have h1 := hz i hin
          simp only [Array.getD_eq_getD_getElem?, Array.getElem?_eq_getElem hi, Option.getD_some] at h1
          rw [h1, List.getElem_toArray, List.getElem_append_left (by simpa using hin), List.getElem_replicate]
        · have h1 := inv.tail i (by omega) (by rw [← inv.size]; exact hi)
          simp only [Array.getD_eq_getD_getElem?, Array.getElem?_eq_getElem hi, Option.getD_some] at h1
          rw [h1, List.getElem_toArray, List.getElem_append_right (by simpa using hin), List.getElem_replicate]
    have hdl : (l.drop n).length = ops.size - n := by rw [hops]; simp
    have := wpAny_of_seq (md := md) (Q' := Q) (l.drop n) n listed a w (fun j => by rw [hops]; simp [List.getElem?_drop]) (by rw [hdl, hF]; exact hseq) (hend a w way.defs way.size way.same way.grown (fun k ok d hk hok hd => way.said k ok d hk hok hd (hz k hk)))
    rwa [hdl] at this
  | succ f ih =>
    intro listed a w inv hcnt way
    obtain ⟨i0, hi0, hun0, hbef⟩ := least_un (b := listed) n (by omega)
    have hready : i0 ∈ Region.ready md ops listed := by
      obtain ⟨oi, d, hoi, _, _, _, _, haf, _⟩ := hat i0 hi0
      refine mem_ready.2 ⟨hun0, oi, hoi, fun e he hb => ?_⟩
      have h1 := haf e he hb
      have h2 := hbef e.on h1
      have hlt : e.on < listed.size := by rw [inv.size]; omega
      simpa [hlt] using h2
    rw [show f + 1 + (ops.size - n) = (f + (ops.size - n)) + 1 by omega]
    refine ⟨fun h => (by rw [h] at hready; cases hready), fun i hi => ?_⟩
    have hin : i < n := by
      rcases Nat.lt_or_ge i n with h | h
      · exact h
      · exact absurd hi (tail_waits hs hc hn inv _ i0 rfl hi0 hun0 i h)
    obtain ⟨oi, d, hoi, hdst, hg, hdm, hown, haf, hfar⟩ := hat i hin
    obtain ⟨huni, oi', hoi', hdeps⟩ := mem_ready.1 hi
    obtain rfl : oi' = oi := Option.some.inj (hoi'.symm.trans hoi)
    have hdo := hob i oi' hin hoi a w way.grown way.same (fun k ok dk hk hok hdk hlk => by
      by_cases hki : k = i
      · subst hki
        obtain rfl : ok = oi' := Option.some.inj (hok.symm.trans hoi)
        rw [hdst] at hdk
        obtain rfl := Option.some.inj hdk
        exact absurd hlk hown
      · obtain ⟨ok', dk', hok', hdk', _, _, _, _, hf⟩ := hat k hk
        obtain rfl : ok' = ok := Option.some.inj (hok'.symm.trans hok)
        rw [hdk'] at hdk
        obtain rfl := Option.some.inj hdk
        obtain ⟨oj, hoj, e, he, hb, hon⟩ := Region.waitsFor_spec ((hf i oi' hin (Ne.symm hki) hoi).2 hlk)
        obtain rfl : oj = oi' := Option.some.inj (hoj.symm.trans hoi)
        have h1 := hdeps e he hb
        rw [hon] at h1
        refine way.said k ok' dk' hk hok' hdk' ?_
        have hlt : k < listed.size := by rw [inv.size]; omega
        simpa [hlt] using h1)
    have hgo : ∀ v w', Below w.heap.size w w' → rs i v w' → wpAny P md ops Q (f + (ops.size - n)) (listed.setIfInBounds i true) (a.put oi'.dst v) w' := fun v w' hb hr => by
      refine ih _ _ _ (inv.set hi hin) (by have := cnt_set huni n hin; omega) ⟨by rw [put_defs]; exact way.defs, by rw [put_size]; exact way.size, fun t ht => ?_, way.grown.trans (hb.mono way.grown.size), fun k ok dk hk hok hdk hl => ?_⟩
      · rw [put_far (ht i oi' hin hoi)]
        exact way.same t ht
      · by_cases hki : k = i
        · subst hki
          obtain rfl : ok = oi' := Option.some.inj (hok.symm.trans hoi)
          rw [hdk, put_at (by rw [hdst] at hdk; obtain rfl := Option.some.inj hdk; rw [way.size, hm]; exact hdm)]
          exact hr
        · rw [getD_set_ne true (Ne.symm hki)] at hl
          have hne : oi'.dst ≠ some dk := by
            rw [hdst]
            intro e
            exact (hfar k ok hk hki hok).1 (by rw [hdk, e])
          rw [put_far hne]
          exact hmono _ _ _ _ (way.said k ok dk hk hok hdk hl) hb
    unfold wpOp
    rw [hoi]
    have hw : Region.wanted oi' (yielded ops a.tmps) = true := by unfold Region.wanted; rw [hg]
    simp only [hw, if_true]
    left
    unfold Oper.wp
    unfold does at hdo
    generalize (execOp a.eval oi').run P w = res at *
    cases res with
    | ok nx w' =>
      cases nx <;> simp only at hdo <;> simp only [Oper.upon]
      case value v => exact hgo v w' hdo.1 hdo.2
      case enter fn args =>
        obtain ⟨rfl, hcalls⟩ := hdo
        exact hcalls.mono fun e w'' ⟨v, he, hb, hr⟩ => by subst he; exact hgo v w'' hb hr
    | halt x w' => exact hdo.elim
theorem relB_spec {n m : Nat} (hB : relB md ops n m = true) : Region.noSelect ops = true ∧ n < ops.size ∧ ∀ i, i < n → ∃ oi d, ops[i]? = some oi ∧ oi.dst = some d ∧ oi.guard = none ∧ d < m ∧ d ∉ oi.looksAt ops ∧ (∀ e ∈ oi.after, Region.binds md e = true → e.on < i) ∧
      (∀ j oj, j < n → j ≠ i → ops[j]? = some oj → oj.dst ≠ some d ∧ (d ∈ oj.looksAt ops → Region.waitsFor md ops j i = true)) := by
  simp only [relB, Bool.and_eq_true, decide_eq_true_eq] at hB
  obtain ⟨⟨⟨⟨⟨hsel, hn⟩, hs⟩, hc⟩, hall⟩, hseq⟩ := hB
  have hat : ∀ i, i < n → ∃ oi d, ops[i]? = some oi ∧ oi.dst = some d ∧ oi.guard = none ∧ d < m ∧ d ∉ oi.looksAt ops ∧ (∀ e ∈ oi.after, Region.binds md e = true → e.on < i) ∧
      (∀ j oj, j < n → j ≠ i → ops[j]? = some oj → oj.dst ≠ some d ∧ (d ∈ oj.looksAt ops → Region.waitsFor md ops j i = true)) := fun i hi => by
    have h1 := List.all_eq_true.1 hall i (List.mem_range.2 hi)
    cases ho : ops[i]? with
    | none => rw [ho] at h1; cases h1
    | some oi =>
      rw [ho] at h1
      simp only [Bool.and_eq_true] at h1
      obtain ⟨⟨hg, haf⟩, hd⟩ := h1
      cases hdst : oi.dst with
      | none => rw [hdst] at hd; cases hd
      | some d =>
        rw [hdst] at hd
        simp only [Bool.and_eq_true, decide_eq_true_eq] at hd
        obtain ⟨⟨hdm, hown⟩, hd⟩ := hd
        refine ⟨oi, d, rfl, hdst, by simpa using hg, hdm, by simpa using hown, fun e he hb => ?_, fun j oj hj hji hoj => ?_⟩
        · have := Array.all_eq_true_iff_forall_mem.1 haf e he
          rw [hb] at this
          simpa using this
        · have h2 := List.all_eq_true.1 hd j (List.mem_range.2 hj)
          rw [hoj] at h2
          simp only [Bool.or_eq_true, beq_iff_eq, Bool.and_eq_true] at h2
          rcases h2 with h2 | ⟨h2, h3⟩
          · exact absurd h2 hji
          · refine ⟨by simpa using h2, fun hlk => ?_⟩
            rcases h3 with h3 | h3
            · simp [hlk] at h3
            · exact h3
  exact ⟨hsel, hn, hat⟩

theorem any_rel {Q : Exit → Act → World → Prop} {a0 : Act} {l : List Oper} (n m : Nat) (rs : List Said) (hlen : rs.length = n) (hsz : a0.tmps.size = m) (hB : relB .any l.toArray n m = true)
    (hmono : ∀ r ∈ rs, ∀ v w w', r v w → Below w.heap.size w w' → r v w')
    (h : wpRel P l.toArray w0 (fun a' w' => wpList P l.toArray Q (l.drop n) a' w') ((l.take n).zip rs) [] a0) : wpAny P .any l.toArray Q l.toArray.size (Array.replicate l.toArray.size false) a0 { w0 with drawn := w0.drawn + 1 } := by
  obtain ⟨hsel, hn, hat⟩ := relB_spec hB
  have hnl : n < l.length := by simpa using hn
  have hpair : ∀ (k : Nat) (ok : Oper), k < n → l.toArray[k]? = some ok → ∃ rk, ((l.take n).zip rs)[k]? = some (ok, rk) ∧ rs[k]? = some rk := fun k ok hk hok => by
    have h1 : k < rs.length := by omega
    refine ⟨rs[k], ?_, List.getElem?_eq_getElem h1⟩
    rw [List.getElem?_zip_eq_some]
    exact ⟨by rw [List.getElem?_take_of_lt hk]; simpa using hok, List.getElem?_eq_getElem h1⟩
  have hunp : ∀ (k : Nat) (ok : Oper) (rk : Said), ((l.take n).zip rs)[k]? = some (ok, rk) → k < n ∧ l.toArray[k]? = some ok ∧ rs[k]? = some rk := fun k ok rk hk => by
    rw [List.getElem?_zip_eq_some] at hk
    obtain ⟨h1, h2⟩ := hk
    have hkn : k < n := by
      have := (List.getElem?_eq_some_iff.1 h2).1
      omega
    rw [List.getElem?_take_of_lt hkn] at h1
    exact ⟨hkn, by simpa using h1, h2⟩
  have hdst : ∀ (k : Nat) (o : Oper) (r : Said), ((l.take n).zip rs)[k]? = some (o, r) → o.dst ≠ none := fun k o r hk => by
    obtain ⟨hkn, hok, _⟩ := hunp k o r hk
    obtain ⟨o', d, ho', hd, _⟩ := hat k hkn
    obtain rfl : o' = o := Option.some.inj (ho'.symm.trans hok)
    rw [hd]
    exact fun e => by cases e
  have hrs : ∀ (k : Nat) (rk : Said), rs[k]? = some rk → rs.getD k (fun _ _ => True) = rk := fun k rk hk => by rw [List.getD_eq_getElem?_getD, hk]; rfl
  -- the values of a frame
  have hval : ∀ (a : Act), ∃ V : Nat → Value, ∀ (k : Nat) (ok : Oper) (d : Tmp), k < n → l.toArray[k]? = some ok → ok.dst = some d → V k = a.eval (.tmp d) := fun a =>
    ⟨fun k => match l.toArray[k]? with | some ok => a.eval (.tmp (ok.dst.getD 0)) | none => undef, fun k ok d _ hok hd => by simp only [hok, hd, Option.getD_some]⟩
  -- what a slot holds in the frame of the text's order
  have hslot : ∀ (V : Nat → Value) (i k : Nat) (ok : Oper) (d : Tmp), k < i → k < n → l.toArray[k]? = some ok → ok.dst = some d → (putN V ((l.take n).zip rs) i a0).eval (.tmp d) = V k := fun V i k ok d hki hk hok hd => by
    obtain ⟨rk, hp, _⟩ := hpair k ok hk hok
    obtain ⟨o', d', ho', hd', _, hdm, _, _, hf⟩ := hat k hk
    obtain rfl : o' = ok := Option.some.inj (ho'.symm.trans hok)
    obtain rfl := Option.some.inj (hd'.symm.trans hd)
    refine putN_at _ V i a0 d' k o' rk hki hp hd (by rw [hsz]; exact hdm) (fun j oj rj hjk hj => ?_)
    obtain ⟨hjn, hoj, _⟩ := hunp j oj rj hj
    exact (hf j oj hjn hjk hoj).1
  have hother : ∀ (V : Nat → Value) (i : Nat) (t : Tmp), (∀ (k : Nat) (ok : Oper), k < n → l.toArray[k]? = some ok → ok.dst ≠ some t) → (putN V ((l.take n).zip rs) i a0).eval (.tmp t) = a0.eval (.tmp t) := fun V i t ht =>
    putN_far _ V i a0 t (fun k o r _ hk => ht k o (hunp k o r hk).1 (hunp k o r hk).2.1)
  have H := wpAny_rel (md := .any) (P := P) (Q := Q) (w0 := w0) (l := l) (n := n) (m := m) rfl hB (rs := fun i => rs.getD i (fun _ _ => True)) (a0 := a0) hsz (fun i v w w' hr hb => by
      rcases Nat.lt_or_ge i rs.length with hi | hi
      · rw [List.getD_eq_getElem?_getD, List.getElem?_eq_getElem hi, Option.getD_some] at hr ⊢
        exact hmono _ (List.getElem_mem hi) v w w' hr hb
      · rw [List.getD_eq_getElem?_getD, List.getElem?_eq_none hi]
        trivial)
    (fun i oi hi hoi a w hw hsame hdeps => by
      obtain ⟨V, hV⟩ := hval a
      obtain ⟨ri, hp, hri⟩ := hpair i oi hi hoi
      rw [hrs i ri hri]
      have h1 := wpRel_ob _ [] a0 hdst h i oi ri hp V w hw (fun p hp => by cases hp) (fun k ok rk d hk hl hd hlk => by
        obtain ⟨hkn, hok, hrk⟩ := hunp k ok rk hl
        have := hdeps k ok d hkn hok hd hlk
        rw [hrs k rk hrk] at this
        rwa [hV k ok d hkn hok hd])
      refine does_congr (ops := l.toArray) (fun cs b => Region.noSelect_spec hsel i oi cs b hoi) (fun t ht => ?_) h1
      by_cases hex : ∃ (k : Nat) (ok : Oper), k < n ∧ l.toArray[k]? = some ok ∧ ok.dst = some t
      · obtain ⟨k, ok, hkn, hok, hdk⟩ := hex
        obtain ⟨oi', di, hoi', hdi, _, _, hown, haf, _⟩ := hat i hi
        obtain rfl : oi' = oi := Option.some.inj (hoi'.symm.trans hoi)
        have hki : k < i := by
          by_cases hk : k = i
          · subst hk
            obtain rfl : ok = oi' := Option.some.inj (hok.symm.trans hoi)
            rw [hdi] at hdk
            obtain rfl := Option.some.inj hdk
            exact absurd ht hown
          · obtain ⟨ok', dk', hok', hdk', _, _, _, _, hf⟩ := hat k hkn
            obtain rfl : ok' = ok := Option.some.inj (hok'.symm.trans hok)
            obtain rfl := Option.some.inj (hdk'.symm.trans hdk)
            obtain ⟨oj, hoj, e, he, hb, hon⟩ := Region.waitsFor_spec ((hf i oi' hi (Ne.symm hk) hoi).2 ht)
            obtain rfl : oj = oi' := Option.some.inj (hoj.symm.trans hoi)
            have := haf e he hb
            omega
        rw [hslot V i k ok t hki hkn hok hdk, hV k ok t hkn hok hdk]
      · rw [hother V i t (fun k ok hk hok hd => hex ⟨k, ok, hk, hok, hd⟩), hsame t (fun k ok hk hok hd => hex ⟨k, ok, hk, hok, hd⟩)])
    (fun a w hdef hsize hsame hw hsaid => by
      obtain ⟨V, hV⟩ := hval a
      have hll : ((l.take n).zip rs).length = n := by simp [hlen]; omega
      have h1 := wpRel_end _ [] a0 h V w hw (fun p hp => by cases hp) (fun k ok rk hk => by
        obtain ⟨hkn, hok, hrk⟩ := hunp k ok rk hk
        obtain ⟨ok', d, hok', hd, _⟩ := hat k hkn
        obtain rfl : ok' = ok := Option.some.inj (hok'.symm.trans hok)
        have := hsaid k ok' d hkn hok hd
        rw [hrs k rk hrk] at this
        rwa [hV k ok' d hkn hok hd])
      rw [hll] at h1
      have hsz2 := putN_size ((l.take n).zip rs) V n a0
      have e : putN V ((l.take n).zip rs) n a0 = a := act_ext (by rw [hsz2.2, hdef]) (by rw [hsz2.1, hsize]) (fun t _ => by
        by_cases hex : ∃ (k : Nat) (ok : Oper), k < n ∧ l.toArray[k]? = some ok ∧ ok.dst = some t
        · obtain ⟨k, ok, hkn, hok, hdk⟩ := hex
          rw [hslot V n k ok t hkn hkn hok hdk, hV k ok t hkn hok hdk]
        · rw [hother V n t (fun k ok hk hok hd => hex ⟨k, ok, hk, hok, hd⟩), hsame t (fun k ok hk hok hd => hex ⟨k, ok, hk, hok, hd⟩)])
      rw [e] at h1
      exact h1)
    (cnt n (Array.replicate l.toArray.size false)) (Array.replicate l.toArray.size false) a0 { w0 with drawn := w0.drawn + 1 }
    ⟨by simp, fun j oj _ hl => (by rw [getD_replicate_false] at hl; cases hl), fun t _ ht => getD_in (by simpa using ht) (getD_replicate_false _ _)⟩ rfl
    ⟨rfl, rfl, fun _ _ => rfl, (Below.refl w0.heap.size w0).drew, fun k ok d hk _ _ hl => by
      have : (Array.replicate l.toArray.size false).getD k true = false := getD_in (by simp; omega) (getD_replicate_false _ _)
      rw [this] at hl
      cases hl⟩
  have hc : ∀ k, k ≤ l.toArray.size → cnt k (Array.replicate l.toArray.size false) = k := fun k => by
    induction k with
    | zero => intro _; rfl
    | succ k ih =>
      intro hk
      rw [cnt, ih (by omega), if_pos (getD_in (by rw [Array.size_replicate]; omega) (getD_replicate_false _ _))]
  rw [hc n (by omega), show n + (l.toArray.size - n) = l.toArray.size by omega] at H
  exact H
/-- **the law** -/
theorem wp_region_rel {id : Nat} {Q : Exit → Act → World → Prop} {a0 : Act} {l : List Oper} (n m : Nat) (rs : List Said) (hlen : rs.length = n) (hsz : a0.tmps.size = m) (hm : P.follows .mixedOrders = true) (hB : relB .any l.toArray n m = true)
    (hmono : ∀ r ∈ rs, ∀ v w w', r v w → Below w.heap.size w w' → r v w')
    (h : wpRel P l.toArray w0 (fun a' w' => wpList P l.toArray Q (l.drop n) a' w') ((l.take n).zip rs) [] a0) : (Code.region id l.toArray true).wp P Q a0 w0 :=
  wp_region_any hm (any_rel n m rs hlen hsz hB hmono h)
/-! ### the steps -/
theorem does_run {o : Oper} {a : Act} {w : World} {r : Said} (v : Value) (hr : (execOp a.eval o).run P w = .ok (.value v) w) (h : r v w) : does P o a w r := by
  unfold does
  rw [hr]
  exact ⟨Below.refl _ _, h⟩
theorem does_made {o : Oper} {a : Act} {w w' : World} {r : Said} (v : Value) (hr : (execOp a.eval o).run P w = .ok (.value v) w') (hb : Below w.heap.size w w') (h : r v w') : does P o a w r := by
  unfold does
  rw [hr]
  exact ⟨hb, h⟩
theorem does_call {o : Oper} {a : Act} {w : World} {r : Said} (f : FuncId) (args : Array Value) (hr : (execOp a.eval o).run P w = .ok (.enter f args) w) (h : Calls P f args w fun e w'' => ∃ v, e = .returned v ∧ Below w.heap.size w w'' ∧ r v w'') : does P o a w r := by
  unfold does
  rw [hr]
  exact ⟨rfl, h⟩
/-- it is just this value -/
abbrev sayFix (c : Value) : Said := fun v _ => v = c
theorem sayFix_mono (c : Value) : ∀ v w w', sayFix c v w → Below w.heap.size w w' → sayFix c v w' := fun _ _ _ h _ => h
theorem wpRel_nil {Q : Act → World → Prop} {G : List (Tmp × (World → Prop))} {a : Act} (h : ∀ w, Below w0.heap.size w0 w → (∀ p ∈ G, p.2 w) → Q a w) : wpRel P ops w0 Q [] G a := h
theorem wpRel_step {Q : Act → World → Prop} {G : List (Tmp × (World → Prop))} {a : Act} {o : Oper} {r : Said} {rest : List (Oper × Said)}
    (h1 : ∀ w, Below w0.heap.size w0 w → (∀ p ∈ G, p.1 ∈ o.looksAt ops → p.2 w) → does P o a w r) (h2 : ∀ v, wpRel P ops w0 Q rest ((o.dst.getD 0, r v) :: G) (a.put o.dst v)) : wpRel P ops w0 Q ((o, r) :: rest) G a := ⟨h1, h2⟩
/-- a fact that the walk has laid, by its place -/
theorem laid_at {G : List (Tmp × (World → Prop))} {S : Tmp → Prop} {w : World} (k : Nat) {t : Tmp} {F : World → Prop} (hG : ∀ p ∈ G, S p.1 → p.2 w) (hk : G[k]? = some (t, F)) (hS : S t) : F w := hG (t, F) (List.mem_of_getElem? hk) hS
end
end Go.Proofs.YtmekmlgpkbfjpaaGreatDoor

/- A region that draws its order, whose head makes two variables: they lie apart; walked once. Nothing of the program is named here. -/
namespace Go.Proofs.YtmekmlgpkbfjpaaGreatDoor
open Go.Sort Go.RowKit

/-- it makes a new variable -/
def Fresh (P : Program) (o : Oper) : Prop := ∀ (a : Act) (w : World), ∃ w', (execOp a.eval o).run P w = .ok (.value (.pointer (some ⟨w.heap.size, 0, none⟩))) w'
section
variable {P : Program} {ops : Array Oper} {md : Region.Mode} {w0 : World}
theorem wpAny_rel2 {Q : Exit → Act → World → Prop} {l : List Oper} {n m : Nat} (hops : ops = l.toArray) (hB : relB md ops n m = true) {rs : Nat → Said} {a0 : Act} (hm : a0.tmps.size = m) (hmono : ∀ i v w w', rs i v w → Below w.heap.size w w' → rs i v w')
    {i1 j1 : Nat} {o1 o2 : Oper} {d1 d2 : Tmp} (hij : i1 ≠ j1) (hi1 : i1 < n) (hj1 : j1 < n) (ho1 : ops[i1]? = some o1) (ho2 : ops[j1]? = some o2) (hd1 : o1.dst = some d1) (hd2 : o2.dst = some d2) (hn1 : Fresh P o1) (hn2 : Fresh P o2) (hs1 : ∀ v w, rs i1 v w → ∃ g, v = .pointer (some ⟨g, 0, none⟩) ∧ g < w.heap.size) (hs2 : ∀ v w, rs j1 v w → ∃ g, v = .pointer (some ⟨g, 0, none⟩) ∧ g < w.heap.size)
    (hob : ∀ (i : Nat) (oi : Oper), i < n → ops[i]? = some oi → ∀ (a : Act) (w : World), Below w0.heap.size w0 w → (∀ t, (∀ (k : Nat) (ok : Oper), k < n → ops[k]? = some ok → ok.dst ≠ some t) → a.eval (.tmp t) = a0.eval (.tmp t)) →
      (∀ (k : Nat) (ok : Oper) (d : Tmp), k < n → ops[k]? = some ok → ok.dst = some d → d ∈ oi.looksAt ops → rs k (a.eval (.tmp d)) w) → does P oi a w (rs i))
    (hend : ∀ (a : Act) (w : World), a.defers = a0.defers → a.tmps.size = a0.tmps.size → (∀ t, (∀ (k : Nat) (ok : Oper), k < n → ops[k]? = some ok → ok.dst ≠ some t) → a.eval (.tmp t) = a0.eval (.tmp t)) → Below w0.heap.size w0 w →
      (∀ (k : Nat) (ok : Oper) (d : Tmp), k < n → ops[k]? = some ok → ok.dst = some d → rs k (a.eval (.tmp d)) w) → a.eval (.tmp d1) ≠ a.eval (.tmp d2) → wpList P ops Q (l.drop n) a w) :
    ∀ (f : Nat) (listed : Array Bool) (a : Act) (w : World), HeadInv md ops n listed → cnt n listed = f → Way ops w0 n rs a0 listed a w → (listed.getD i1 true = true → listed.getD j1 true = true → a.eval (.tmp d1) ≠ a.eval (.tmp d2)) → wpAny P md ops Q (f + (ops.size - n)) listed a w := by
  simp only [relB, Bool.and_eq_true, decide_eq_true_eq] at hB
  obtain ⟨⟨⟨⟨⟨hsel, hn⟩, hs⟩, hc⟩, hall⟩, hseq⟩ := hB
  have hat : ∀ i, i < n → ∃ oi d, ops[i]? = some oi ∧ oi.dst = some d ∧ oi.guard = none ∧ d < m ∧ d ∉ oi.looksAt ops ∧ (∀ e ∈ oi.after, Region.binds md e = true → e.on < i) ∧
      (∀ j oj, j < n → j ≠ i → ops[j]? = some oj → oj.dst ≠ some d ∧ (d ∈ oj.looksAt ops → Region.waitsFor md ops j i = true)) := fun i hi => by
    have h1 := List.all_eq_true.1 hall i (List.mem_range.2 hi)
    cases ho : ops[i]? with
    | none => rw [ho] at h1; cases h1
    | some oi =>
      rw [ho] at h1
      simp only [Bool.and_eq_true] at h1
      obtain ⟨⟨hg, haf⟩, hd⟩ := h1
      cases hdst : oi.dst with
      | none => rw [hdst] at hd; cases hd
      | some d =>
        rw [hdst] at hd
        simp only [Bool.and_eq_true, decide_eq_true_eq] at hd
        obtain ⟨⟨hdm, hown⟩, hd⟩ := hd
        refine ⟨oi, d, rfl, hdst, by simpa using hg, hdm, by simpa using hown, fun e he hb => ?_, fun j oj hj hji hoj => ?_⟩
        · have := Array.all_eq_true_iff_forall_mem.1 haf e he
          rw [hb] at this
          simpa using this
        · have h2 := List.all_eq_true.1 hd j (List.mem_range.2 hj)
          rw [hoj] at h2
          simp only [Bool.or_eq_true, beq_iff_eq, Bool.and_eq_true] at h2
          rcases h2 with h2 | ⟨h2, h3⟩
          · exact absurd h2 hji
          · refine ⟨by simpa using h2, fun hlk => ?_⟩
            rcases h3 with h3 | h3
            · simp [hlk] at h3
            · exact h3
  intro f
  induction f with
  | zero =>
    intro listed a w inv hcnt way hap
    rw [Nat.zero_add]
    have hz := cnt_zero n hcnt
    have hF : listed = (List.replicate n true ++ List.replicate (ops.size - n) false).toArray := by
      apply Array.ext
      · simp [inv.size]; omega
      · intro i hi hi2
        by_cases hin : i < n
        · have h1 := hz i hin
          simp only [Array.getD_eq_getD_getElem?, Array.getElem?_eq_getElem hi, Option.getD_some] at h1
          rw [h1, List.getElem_toArray, List.getElem_append_left (by simpa using hin), List.getElem_replicate]
        · have h1 := inv.tail i (by omega) (by rw [← inv.size]; exact hi)
          simp only [Array.getD_eq_getD_getElem?, Array.getElem?_eq_getElem hi, Option.getD_some] at h1
          rw [h1, List.getElem_toArray, List.getElem_append_right (by simpa using hin), List.getElem_replicate]
    have hdl : (l.drop n).length = ops.size - n := by rw [hops]; simp
    have := wpAny_of_seq (md := md) (Q' := Q) (l.drop n) n listed a w (fun j => by rw [hops]; simp [List.getElem?_drop]) (by rw [hdl, hF]; exact hseq) (hend a w way.defs way.size way.same way.grown (fun k ok d hk hok hd => way.said k ok d hk hok hd (hz k hk)) (hap (hz i1 hi1) (hz j1 hj1)))
    rwa [hdl] at this
  | succ f ih =>
    intro listed a w inv hcnt way hap
    obtain ⟨i0, hi0, hun0, hbef⟩ := least_un (b := listed) n (by omega)
    have hready : i0 ∈ Region.ready md ops listed := by
      obtain ⟨oi, d, hoi, _, _, _, _, haf, _⟩ := hat i0 hi0
      refine mem_ready.2 ⟨hun0, oi, hoi, fun e he hb => ?_⟩
      have h1 := haf e he hb
      have h2 := hbef e.on h1
      have hlt : e.on < listed.size := by rw [inv.size]; omega
      simpa [hlt] using h2
    rw [show f + 1 + (ops.size - n) = (f + (ops.size - n)) + 1 by omega]
    refine ⟨fun h => (by rw [h] at hready; cases hready), fun i hi => ?_⟩
    have hin : i < n := by
      rcases Nat.lt_or_ge i n with h | h
      · exact h
      · exact absurd hi (tail_waits hs hc hn inv _ i0 rfl hi0 hun0 i h)
    obtain ⟨oi, d, hoi, hdst, hg, hdm, hown, haf, hfar⟩ := hat i hin
    obtain ⟨huni, oi', hoi', hdeps⟩ := mem_ready.1 hi
    obtain rfl : oi' = oi := Option.some.inj (hoi'.symm.trans hoi)
    have hdo := hob i oi' hin hoi a w way.grown way.same (fun k ok dk hk hok hdk hlk => by
      by_cases hki : k = i
      · subst hki
        obtain rfl : ok = oi' := Option.some.inj (hok.symm.trans hoi)
        rw [hdst] at hdk
        obtain rfl := Option.some.inj hdk
        exact absurd hlk hown
      · obtain ⟨ok', dk', hok', hdk', _, _, _, _, hf⟩ := hat k hk
        obtain rfl : ok' = ok := Option.some.inj (hok'.symm.trans hok)
        rw [hdk'] at hdk
        obtain rfl := Option.some.inj hdk
        obtain ⟨oj, hoj, e, he, hb, hon⟩ := Region.waitsFor_spec ((hf i oi' hin (Ne.symm hki) hoi).2 hlk)
        obtain rfl : oj = oi' := Option.some.inj (hoj.symm.trans hoi)
        have h1 := hdeps e he hb
        rw [hon] at h1
        refine way.said k ok' dk' hk hok' hdk' ?_
        have hlt : k < listed.size := by rw [inv.size]; omega
        simpa [hlt] using h1)
    have hgo : ∀ v w', (i = i1 ∨ i = j1 → v = .pointer (some ⟨w.heap.size, 0, none⟩)) → Below w.heap.size w w' → rs i v w' → wpAny P md ops Q (f + (ops.size - n)) (listed.setIfInBounds i true) (a.put oi'.dst v) w' := fun v w' hfr hb hr => by
      refine ih _ _ _ (inv.set hi hin) (by have := cnt_set huni n hin; omega) ⟨by rw [put_defs]; exact way.defs, by rw [put_size]; exact way.size, fun t ht => ?_, way.grown.trans (hb.mono way.grown.size), fun k ok dk hk hok hdk hl => ?_⟩ (fun hl1 hl2 => ?_)
      · rw [put_far (ht i oi' hin hoi)]
        exact way.same t ht
      · by_cases hki : k = i
        · subst hki
          obtain rfl : ok = oi' := Option.some.inj (hok.symm.trans hoi)
          rw [hdk, put_at (by rw [hdst] at hdk; obtain rfl := Option.some.inj hdk; rw [way.size, hm]; exact hdm)]
          exact hr
        · rw [getD_set_ne true (Ne.symm hki)] at hl
          have hne : oi'.dst ≠ some dk := by
            rw [hdst]
            intro e
            exact (hfar k ok hk hki hok).1 (by rw [hdk, e])
          rw [put_far hne]
          exact hmono _ _ _ _ (way.said k ok dk hk hok hdk hl) hb
      · by_cases h1 : i = i1
        · subst h1
          obtain rfl : o1 = oi' := Option.some.inj (ho1.symm.trans hoi)
          have hne : o1.dst ≠ some d2 := by rw [hdst]; intro e; exact (hfar j1 o2 hj1 (Ne.symm hij) ho2).1 (by rw [hd2, e])
          rw [getD_set_ne true hij] at hl2
          obtain ⟨g, hg2, hg3⟩ := hs2 _ _ (way.said j1 o2 d2 hj1 ho2 hd2 hl2)
          have hsz : d1 < a.tmps.size := by rw [hdst] at hd1; obtain rfl := Option.some.inj hd1; rw [way.size, hm]; exact hdm
          rw [put_far hne, hg2, hd1, put_at hsz, hfr (.inl rfl)]
          intro e
          injection e with e; injection e with e; injection e with e
          omega
        · by_cases h2 : i = j1
          · subst h2
            obtain rfl : o2 = oi' := Option.some.inj (ho2.symm.trans hoi)
            have hne : o2.dst ≠ some d1 := by rw [hdst]; intro e; exact (hfar i1 o1 hi1 hij ho1).1 (by rw [hd1, e])
            rw [getD_set_ne true (Ne.symm hij)] at hl1
            obtain ⟨g, hg2, hg3⟩ := hs1 _ _ (way.said i1 o1 d1 hi1 ho1 hd1 hl1)
            have hsz : d2 < a.tmps.size := by rw [hdst] at hd2; obtain rfl := Option.some.inj hd2; rw [way.size, hm]; exact hdm
            rw [put_far hne, hg2, hd2, put_at hsz, hfr (.inr rfl)]
            intro e
            injection e with e; injection e with e; injection e with e
            omega
          · rw [getD_set_ne true h1] at hl1
            rw [getD_set_ne true h2] at hl2
            rw [put_far (by rw [hdst]; intro e; exact (hfar i1 o1 hi1 (Ne.symm h1) ho1).1 (by rw [hd1, e])), put_far (by rw [hdst]; intro e; exact (hfar j1 o2 hj1 (Ne.symm h2) ho2).1 (by rw [hd2, e]))]
            exact hap hl1 hl2
    unfold wpOp
    rw [hoi]
    have hw : Region.wanted oi' (yielded ops a.tmps) = true := by unfold Region.wanted; rw [hg]
    simp only [hw, if_true]
    left
    unfold Oper.wp
    unfold does at hdo
    have hfr : ∀ v w', (execOp a.eval oi').run P w = .ok (.value v) w' → i = i1 ∨ i = j1 → v = .pointer (some ⟨w.heap.size, 0, none⟩) := fun v w' hv h => by
      rcases h with rfl | rfl
      · obtain rfl : o1 = oi' := Option.some.inj (ho1.symm.trans hoi)
        obtain ⟨w2, h2⟩ := hn1 a w
        rw [h2] at hv
        injection hv with hv _
        injection hv with hv
        exact hv.symm
      · obtain rfl : o2 = oi' := Option.some.inj (ho2.symm.trans hoi)
        obtain ⟨w2, h2⟩ := hn2 a w
        rw [h2] at hv
        injection hv with hv _
        injection hv with hv
        exact hv.symm
    have hen : ∀ fn args w', (execOp a.eval oi').run P w = .ok (.enter fn args) w' → ¬ (i = i1 ∨ i = j1) := fun fn args w' hv h => by
      rcases h with rfl | rfl
      · obtain rfl : o1 = oi' := Option.some.inj (ho1.symm.trans hoi)
        obtain ⟨w2, h2⟩ := hn1 a w
        rw [h2] at hv
        injection hv with hv _
        cases hv
      · obtain rfl : o2 = oi' := Option.some.inj (ho2.symm.trans hoi)
        obtain ⟨w2, h2⟩ := hn2 a w
        rw [h2] at hv
        injection hv with hv _
        cases hv
    generalize (execOp a.eval oi').run P w = res at *
    cases res with
    | ok nx w' =>
      cases nx <;> simp only at hdo <;> simp only [Oper.upon]
      case value v => exact hgo v w' (hfr v w' rfl) hdo.1 hdo.2
      case enter fn args =>
        have hno := hen fn args w' rfl
        obtain ⟨rfl, hcalls⟩ := hdo
        exact hcalls.mono fun e w'' ⟨v, he, hb, hr⟩ => by subst he; exact hgo v w'' (fun h => absurd h hno) hb hr
    | halt x w' => exact hdo.elim
theorem any_rel2 {Q : Exit → Act → World → Prop} {a0 : Act} {l : List Oper} (n m : Nat) (rs : List Said) (hlen : rs.length = n) (hsz : a0.tmps.size = m) (hB : relB .any l.toArray n m = true)
    (hmono : ∀ r ∈ rs, ∀ v w w', r v w → Below w.heap.size w w' → r v w')
    (i1 j1 : Nat) (o1 o2 : Oper) (d1 d2 : Tmp) (r1 r2 : Said) (hij : i1 ≠ j1) (hi1 : i1 < n) (hj1 : j1 < n) (ho1 : l[i1]? = some o1) (ho2 : l[j1]? = some o2) (hd1 : o1.dst = some d1) (hd2 : o2.dst = some d2) (hn1 : Fresh P o1) (hn2 : Fresh P o2) (hr1 : rs[i1]? = some r1) (hr2 : rs[j1]? = some r2) (hs1 : ∀ v w, r1 v w → ∃ g, v = .pointer (some ⟨g, 0, none⟩) ∧ g < w.heap.size) (hs2 : ∀ v w, r2 v w → ∃ g, v = .pointer (some ⟨g, 0, none⟩) ∧ g < w.heap.size)
    (h : wpRel P l.toArray w0 (fun a' w' => a'.eval (.tmp d1) ≠ a'.eval (.tmp d2) → wpList P l.toArray Q (l.drop n) a' w') ((l.take n).zip rs) [] a0) : wpAny P .any l.toArray Q l.toArray.size (Array.replicate l.toArray.size false) a0 { w0 with drawn := w0.drawn + 1 } := by
  obtain ⟨hsel, hn, hat⟩ := relB_spec hB
  have hnl : n < l.length := by simpa using hn
  have hpair : ∀ (k : Nat) (ok : Oper), k < n → l.toArray[k]? = some ok → ∃ rk, ((l.take n).zip rs)[k]? = some (ok, rk) ∧ rs[k]? = some rk := fun k ok hk hok => by
    have h1 : k < rs.length := by omega
    refine ⟨rs[k], ?_, List.getElem?_eq_getElem h1⟩
    rw [List.getElem?_zip_eq_some]
    exact ⟨by rw [List.getElem?_take_of_lt hk]; simpa using hok, List.getElem?_eq_getElem h1⟩
  have hunp : ∀ (k : Nat) (ok : Oper) (rk : Said), ((l.take n).zip rs)[k]? = some (ok, rk) → k < n ∧ l.toArray[k]? = some ok ∧ rs[k]? = some rk := fun k ok rk hk => by
    rw [List.getElem?_zip_eq_some] at hk
    obtain ⟨h1, h2⟩ := hk
    have hkn : k < n := by
      have := (List.getElem?_eq_some_iff.1 h2).1
      omega
    rw [List.getElem?_take_of_lt hkn] at h1
    exact ⟨hkn, by simpa using h1, h2⟩
  have hdst : ∀ (k : Nat) (o : Oper) (r : Said), ((l.take n).zip rs)[k]? = some (o, r) → o.dst ≠ none := fun k o r hk => by
    obtain ⟨hkn, hok, _⟩ := hunp k o r hk
    obtain ⟨o', d, ho', hd, _⟩ := hat k hkn
    obtain rfl : o' = o := Option.some.inj (ho'.symm.trans hok)
    rw [hd]
    exact fun e => by cases e
  have hrs : ∀ (k : Nat) (rk : Said), rs[k]? = some rk → rs.getD k (fun _ _ => True) = rk := fun k rk hk => by rw [List.getD_eq_getElem?_getD, hk]; rfl
  -- the values of a frame
  have hval : ∀ (a : Act), ∃ V : Nat → Value, ∀ (k : Nat) (ok : Oper) (d : Tmp), k < n → l.toArray[k]? = some ok → ok.dst = some d → V k = a.eval (.tmp d) := fun a =>
    ⟨fun k => match l.toArray[k]? with | some ok => a.eval (.tmp (ok.dst.getD 0)) | none => undef, fun k ok d _ hok hd => by simp only [hok, hd, Option.getD_some]⟩
  -- what a slot holds in the frame of the text's order
  have hslot : ∀ (V : Nat → Value) (i k : Nat) (ok : Oper) (d : Tmp), k < i → k < n → l.toArray[k]? = some ok → ok.dst = some d → (putN V ((l.take n).zip rs) i a0).eval (.tmp d) = V k := fun V i k ok d hki hk hok hd => by
    obtain ⟨rk, hp, _⟩ := hpair k ok hk hok
    obtain ⟨o', d', ho', hd', _, hdm, _, _, hf⟩ := hat k hk
    obtain rfl : o' = ok := Option.some.inj (ho'.symm.trans hok)
    obtain rfl := Option.some.inj (hd'.symm.trans hd)
    refine putN_at _ V i a0 d' k o' rk hki hp hd (by rw [hsz]; exact hdm) (fun j oj rj hjk hj => ?_)
    obtain ⟨hjn, hoj, _⟩ := hunp j oj rj hj
    exact (hf j oj hjn hjk hoj).1
  have hother : ∀ (V : Nat → Value) (i : Nat) (t : Tmp), (∀ (k : Nat) (ok : Oper), k < n → l.toArray[k]? = some ok → ok.dst ≠ some t) → (putN V ((l.take n).zip rs) i a0).eval (.tmp t) = a0.eval (.tmp t) := fun V i t ht =>
    putN_far _ V i a0 t (fun k o r _ hk => ht k o (hunp k o r hk).1 (hunp k o r hk).2.1)
  have H := wpAny_rel2 (md := .any) (P := P) (Q := Q) (w0 := w0) (l := l) (n := n) (m := m) rfl hB (rs := fun i => rs.getD i (fun _ _ => True)) (a0 := a0) hsz (fun i v w w' hr hb => by
      rcases Nat.lt_or_ge i rs.length with hi | hi
      · rw [List.getD_eq_getElem?_getD, List.getElem?_eq_getElem hi, Option.getD_some] at hr ⊢
        exact hmono _ (List.getElem_mem hi) v w w' hr hb
      · rw [List.getD_eq_getElem?_getD, List.getElem?_eq_none hi]
        trivial)
    hij hi1 hj1 (by simpa using ho1) (by simpa using ho2) hd1 hd2 hn1 hn2 (fun v w h => hs1 v w (by rwa [hrs i1 r1 hr1] at h)) (fun v w h => hs2 v w (by rwa [hrs j1 r2 hr2] at h))
    (fun i oi hi hoi a w hw hsame hdeps => by
      obtain ⟨V, hV⟩ := hval a
      obtain ⟨ri, hp, hri⟩ := hpair i oi hi hoi
      rw [hrs i ri hri]
      have h1 := wpRel_ob _ [] a0 hdst h i oi ri hp V w hw (fun p hp => by cases hp) (fun k ok rk d hk hl hd hlk => by
        obtain ⟨hkn, hok, hrk⟩ := hunp k ok rk hl
        have := hdeps k ok d hkn hok hd hlk
        rw [hrs k rk hrk] at this
        rwa [hV k ok d hkn hok hd])
      refine does_congr (ops := l.toArray) (fun cs b => Region.noSelect_spec hsel i oi cs b hoi) (fun t ht => ?_) h1
      by_cases hex : ∃ (k : Nat) (ok : Oper), k < n ∧ l.toArray[k]? = some ok ∧ ok.dst = some t
      · obtain ⟨k, ok, hkn, hok, hdk⟩ := hex
        obtain ⟨oi', di, hoi', hdi, _, _, hown, haf, _⟩ := hat i hi
        obtain rfl : oi' = oi := Option.some.inj (hoi'.symm.trans hoi)
        have hki : k < i := by
          by_cases hk : k = i
          · subst hk
            obtain rfl : ok = oi' := Option.some.inj (hok.symm.trans hoi)
            rw [hdi] at hdk
            obtain rfl := Option.some.inj hdk
            exact absurd ht hown
          · obtain ⟨ok', dk', hok', hdk', _, _, _, _, hf⟩ := hat k hkn
            obtain rfl : ok' = ok := Option.some.inj (hok'.symm.trans hok)
            obtain rfl := Option.some.inj (hdk'.symm.trans hdk)
            obtain ⟨oj, hoj, e, he, hb, hon⟩ := Region.waitsFor_spec ((hf i oi' hi (Ne.symm hk) hoi).2 ht)
            obtain rfl : oj = oi' := Option.some.inj (hoj.symm.trans hoi)
            have := haf e he hb
            omega
        rw [hslot V i k ok t hki hkn hok hdk, hV k ok t hkn hok hdk]
      · rw [hother V i t (fun k ok hk hok hd => hex ⟨k, ok, hk, hok, hd⟩), hsame t (fun k ok hk hok hd => hex ⟨k, ok, hk, hok, hd⟩)])
    (fun a w hdef hsize hsame hw hsaid hap => by
      obtain ⟨V, hV⟩ := hval a
      have hll : ((l.take n).zip rs).length = n := by simp [hlen]; omega
      have h1 := wpRel_end _ [] a0 h V w hw (fun p hp => by cases hp) (fun k ok rk hk => by
        obtain ⟨hkn, hok, hrk⟩ := hunp k ok rk hk
        obtain ⟨ok', d, hok', hd, _⟩ := hat k hkn
        obtain rfl : ok' = ok := Option.some.inj (hok'.symm.trans hok)
        have := hsaid k ok' d hkn hok hd
        rw [hrs k rk hrk] at this
        rwa [hV k ok' d hkn hok hd])
      rw [hll] at h1
      have hsz2 := putN_size ((l.take n).zip rs) V n a0
      have e : putN V ((l.take n).zip rs) n a0 = a := act_ext (by rw [hsz2.2, hdef]) (by rw [hsz2.1, hsize]) (fun t _ => by
        by_cases hex : ∃ (k : Nat) (ok : Oper), k < n ∧ l.toArray[k]? = some ok ∧ ok.dst = some t
        · obtain ⟨k, ok, hkn, hok, hdk⟩ := hex
          rw [hslot V n k ok t hkn hkn hok hdk, hV k ok t hkn hok hdk]
        · rw [hother V n t (fun k ok hk hok hd => hex ⟨k, ok, hk, hok, hd⟩), hsame t (fun k ok hk hok hd => hex ⟨k, ok, hk, hok, hd⟩)])
      rw [e] at h1
      exact h1 hap)
    (cnt n (Array.replicate l.toArray.size false)) (Array.replicate l.toArray.size false) a0 { w0 with drawn := w0.drawn + 1 }
    ⟨by simp, fun j oj _ hl => (by rw [getD_replicate_false] at hl; cases hl), fun t _ ht => getD_in (by simpa using ht) (getD_replicate_false _ _)⟩ rfl
    ⟨rfl, rfl, fun _ _ => rfl, (Below.refl w0.heap.size w0).drew, fun k ok d hk _ _ hl => by
      have : (Array.replicate l.toArray.size false).getD k true = false := getD_in (by simp; omega) (getD_replicate_false _ _)
      rw [this] at hl
      cases hl⟩ (fun hl1 _ => by
      have : (Array.replicate l.toArray.size false).getD i1 true = false := getD_in (by simp; omega) (getD_replicate_false _ _)
      rw [this] at hl1
      cases hl1)
  have hc : ∀ k, k ≤ l.toArray.size → cnt k (Array.replicate l.toArray.size false) = k := fun k => by
    induction k with
    | zero => intro _; rfl
    | succ k ih =>
      intro hk
      rw [cnt, ih (by omega), if_pos (getD_in (by rw [Array.size_replicate]; omega) (getD_replicate_false _ _))]
  rw [hc n (by omega), show n + (l.toArray.size - n) = l.toArray.size by omega] at H
  exact H
theorem wp_region_rel2 {id : Nat} {Q : Exit → Act → World → Prop} {a0 : Act} {l : List Oper} (n m : Nat) (rs : List Said) (hlen : rs.length = n) (hsz : a0.tmps.size = m) (hm : P.follows .mixedOrders = true) (hB : relB .any l.toArray n m = true)
    (hmono : ∀ r ∈ rs, ∀ v w w', r v w → Below w.heap.size w w' → r v w')
    (i1 j1 : Nat) (o1 o2 : Oper) (d1 d2 : Tmp) (r1 r2 : Said) (hij : i1 ≠ j1) (hi1 : i1 < n) (hj1 : j1 < n) (ho1 : l[i1]? = some o1) (ho2 : l[j1]? = some o2) (hd1 : o1.dst = some d1) (hd2 : o2.dst = some d2) (hn1 : Fresh P o1) (hn2 : Fresh P o2) (hr1 : rs[i1]? = some r1) (hr2 : rs[j1]? = some r2) (hs1 : ∀ v w, r1 v w → ∃ g, v = .pointer (some ⟨g, 0, none⟩) ∧ g < w.heap.size) (hs2 : ∀ v w, r2 v w → ∃ g, v = .pointer (some ⟨g, 0, none⟩) ∧ g < w.heap.size)
    (h : wpRel P l.toArray w0 (fun a' w' => a'.eval (.tmp d1) ≠ a'.eval (.tmp d2) → wpList P l.toArray Q (l.drop n) a' w') ((l.take n).zip rs) [] a0) : (Code.region id l.toArray true).wp P Q a0 w0 :=
  wp_region_any hm (any_rel2 n m rs hlen hsz hB hmono i1 j1 o1 o2 d1 d2 r1 r2 hij hi1 hj1 ho1 ho2 hd1 hd2 hn1 hn2 hr1 hr2 hs1 hs2 h)
end
end Go.Proofs.YtmekmlgpkbfjpaaGreatDoor

/- The contracts of the small functions of point: at, minus, odd, Zero, Base, onCurve. -/
namespace Go.Proofs.YtmekmlgpkbfjpaaGreatDoor.C
open Go.RowKit Go.Sort Go.Proofs.YtmekmlgpkbfjpaaGreatDoor.F
set_option maxRecDepth 100000
theorem rowWk : RowT Tryz.prog 151 16 := ⟨⟨_, Tryz.underlying151, rfl⟩, by kernel_rfl⟩
abbrev z16P : Array Value := #[.int .u64 0, .int .u64 0, .int .u64 0, .int .u64 0, .int .u64 0, .int .u64 0, .int .u64 0, .int .u64 0, .int .u64 0, .int .u64 0, .int .u64 0, .int .u64 0, .int .u64 0, .int .u64 0, .int .u64 0, .int .u64 0]
theorem allocPt {o : Oper} (h : o.op = .alloc 74) (a : Act) (w : World) : (execOp a.eval o).run Tryz.prog w = .ok (.value (.pointer (some ⟨w.heap.size, 0, none⟩))) (w.alloc (.cells z16P 74)) := by
  unfold execOp
  rw [h]
  kernel_rfl
theorem allocWk {o : Oper} (h : o.op = .alloc 151) (a : Act) (w : World) : (execOp a.eval o).run Tryz.prog w = .ok (.value (.pointer (some ⟨w.heap.size, 0, none⟩))) (w.alloc (.cells z16P 151)) := by
  unfold execOp
  rw [h]
  kernel_rfl
theorem ptIs (u : N4) : pt u = .agg (feA u.X ++ feA u.Y ++ feA u.Z ++ feA u.T) := rfl
section
variable {w0 : World} {Q : Act → Prop} {a : Act} {rest : List Oper} {t' : TypeId} {pos : String} {after : Array Edge} {d : Option Tmp} {x : Operand}
end
/-- a new variable's content -/
abbrev sayVar (B : Nat) (t : TypeId) (cs : Array Value) : Said := fun v w => ∃ g, v = .pointer (some ⟨g, 0, none⟩) ∧ B ≤ g ∧ Lies w g t cs
theorem sayVar_mono (B : Nat) (t : TypeId) (cs : Array Value) : ∀ v w w', sayVar B t cs v w → Below w.heap.size w w' → sayVar B t cs v w' := fun _ _ _ ⟨g, h1, h0, h2⟩ hb => ⟨g, h1, h0, h2.on hb⟩
theorem sayVar_lt {B : Nat} {t : TypeId} {cs : Array Value} : ∀ v w, sayVar B t cs v w → ∃ g, v = .pointer (some ⟨g, 0, none⟩) ∧ g < w.heap.size := fun _ _ ⟨g, h1, _, h2⟩ => ⟨g, h1, h2.lt⟩
theorem does_new {P : Program} {o : Oper} {a : Act} {w0 w : World} {t : TypeId} {cs : Array Value} (hb : Below w0.heap.size w0 w) (hr : (execOp a.eval o).run P w = .ok (.value (.pointer (some ⟨w.heap.size, 0, none⟩))) (w.alloc (.cells cs t))) : does P o a w (sayVar w0.heap.size t cs) :=
  does_made _ hr ((Below.refl _ w).alloc (Nat.le_refl _) _) ⟨_, rfl, hb.size, Lies.new w t cs⟩
theorem run_load_row {w0 w : World} {a : Act} {d : Option Tmp} {x : Operand} {t' : TypeId} {pos : String} {after : Array Edge} {gd : Option (Nat × Bool)} {ty t : TypeId} {cs : Array Value} {n : Nat} (hT : RowT Tryz.prog ty n) (hn : cs.size = n) (g : Nat) (hz : Lies w0 g t cs) (hb : Below w0.heap.size w0 w) (hx : a.eval x = .pointer (some ⟨g, 0, none⟩)) :
    (execOp a.eval ⟨d, .load ty x, t', pos, after, gd⟩).run Tryz.prog w = .ok (.value (.agg cs)) w := by
  have hg' := hz.on hb
  obtain ⟨⟨ds, hu, hd⟩, hi⟩ := hT
  unfold execOp
  simp only [hx, Instr.loadAt, Instr.sureAddr, Sem.run_bind, Sem.run_pure, Result.andThen_ok, run_loadVar_row w g t ty cs (0, 0) ds hg' hu (by cases ds <;> first | rfl | simp [TypeDesc.isRow] at hd) (by rw [hi, hn])]
section
variable {P : Program} {ops : Array Oper} {rest : List Oper} {a : Act} {w : World} {Q : Exit → Act → World → Prop} {t' : TypeId} {pos : String} {after : Array Edge} {d : Option Tmp}
theorem wpL_val {o : Oper} (v : Value) (hg : o.guard = none) (hr : (execOp a.eval o).run P w = .ok (.value v) w) (h : wpList P ops Q rest (a.put o.dst v) w) : wpList P ops Q (o :: rest) a w :=
  wpList_plain hg fun K hK => by
    unfold Oper.wp
    rw [hr]
    exact hK _ _ h
theorem wpL_bld {ty : TypeId} {parts : Array (Nat × Operand)} (v : Value) (hr : (execOp a.eval ⟨d, .build ty parts, t', pos, after, none⟩).run P w = .ok (.value v) w) (h : wpList P ops Q rest (a.put d v) w) : wpList P ops Q (⟨d, .build ty parts, t', pos, after, none⟩ :: rest) a w := wpL_val v rfl hr h
theorem wpL_fld {ty : TypeId} {x : Operand} {i : Nat} (v : Value) (hr : (execOp a.eval ⟨d, .field ty x i, t', pos, after, none⟩).run P w = .ok (.value v) w) (h : wpList P ops Q rest (a.put d v) w) : wpList P ops Q (⟨d, .field ty x i, t', pos, after, none⟩ :: rest) a w := wpL_val v rfl hr h
theorem wpL_idx {ty : TypeId} {x y : Operand} (v : Value) (hr : (execOp a.eval ⟨d, .index ty x y, t', pos, after, none⟩).run P w = .ok (.value v) w) (h : wpList P ops Q rest (a.put d v) w) : wpList P ops Q (⟨d, .index ty x y, t', pos, after, none⟩ :: rest) a w := wpL_val v rfl hr h
end
def minusN (n : Nat) : Nat := (0 + (p25 - n % p25)) % p25
/-- the equation, by X, Y, Z and T -/
def ocB (u : N4) : Bool := decide ((u.Y * u.Y % p25 + (p25 - u.X * u.X % p25 % p25)) % p25 = (u.Z * u.Z % p25 + dN * (u.T * u.T % p25) % p25) % p25)
attribute [local irreducible] feA ptA
set_option maxHeartbeats 1600000 in
theorem wat_any (F : FieldOk) (x y : Nat) (W : World) (hx : x < K256) (hy : y < K256) (hT : PtTab W) :
    Calls Tryz.prog 101 #[fe x, fe y] W fun e w' => e = .returned (pt ⟨x, y, 1, x * y % p25⟩) ∧ Below W.heap.size W w' := by
  have hT0 := Lib.hid hT
  have hbuild := ptIs ⟨x, y, 1, x * y % p25⟩
  have HO1 : Hid (∀ w, Tab w → Calls Tryz.prog 96 #[.int .u64 1] w fun e w' => e = .returned (fe 1) ∧ Below w.heap.size w w') := Lib.hid (fun w hT => F.of 1 w (by decide) hT)
  have Ht := Lib.hid (fun w hT => F.mul x y w hx hy hT)
  have kt := mod_K (x * y)
  generalize x * y % p25 = t at *
  generalize hvv : (⟨x, y, 1, t⟩ : N4) = v at *
  have hb1 : pt v = .agg (feA x ++ feA y ++ feA 1 ++ feA t) := by rw [← hvv]; exact ptIs _
  clear hbuild hvv hT kt hx hy
  go_enter Tryz.func101, Tryz.ntmps101
  have hx := ((Lies.new W 72 (feA x)).alloc (.cells (feA y) 72)).alloc (.cells z16P 74)
  have hy : Lies ((W.alloc (.cells (feA x) 72)).alloc (.cells (feA y) 72)) (W.heap.size + 1) 72 (feA y) := heap_alloc2_new W _ _
  replace hy := hy.alloc (.cells z16P 74)
  have hr := lies3 W (.cells (feA x) 72) (.cells (feA y) 72) 74 z16P
  have hB := (((Below.refl W.heap.size W).alloc (Nat.le_refl _) (.cells (feA x) 72)).alloc (by simp) (.cells (feA y) 72)).alloc (by simp; omega) (.cells z16P 74)
  go_upto_region 1 with fail
  generalize World.alloc (World.alloc (World.alloc W _) _) _ = w0 at *
  have hT := (hT0.out.on hB).f
  refine wp_region_plain 7 (by kernel_rfl) (by kernel_rfl) ?_
  simp only [List.take_succ_cons, List.take_zero, List.drop_succ_cons, List.drop_zero]
  refine wpQB_fe (W.heap.size) x hx rfl ?_
  simp only [Act.put, List.setIfInBounds_toArray, List.set_cons_succ, List.set_cons_zero]
  refine wpQB_fe (W.heap.size + 1) y hy rfl ?_
  simp only [Act.put, List.setIfInBounds_toArray, List.set_cons_succ, List.set_cons_zero]
  refine wpQB_call 96 #[.int .u64 1] (fe 1) rfl rfl (fun _ => by kernel_rfl) (fun w hb => HO1.out w (hT.on hb)) ?_
  simp only [Act.put, List.setIfInBounds_toArray, List.set_cons_succ, List.set_cons_zero]
  refine wpQB_fe (W.heap.size) x hx rfl ?_
  simp only [Act.put, List.setIfInBounds_toArray, List.set_cons_succ, List.set_cons_zero]
  refine wpQB_fe (W.heap.size + 1) y hy rfl ?_
  simp only [Act.put, List.setIfInBounds_toArray, List.set_cons_succ, List.set_cons_zero]
  refine wpQB_call 94 #[fe x, fe y] (fe t) rfl rfl (fun _ => by kernel_rfl) (fun w hb => Ht.out w (hT.on hb)) ?_
  simp only [Act.put, List.setIfInBounds_toArray, List.set_cons_succ, List.set_cons_zero]
  refine wpQB_run (.agg (feA x ++ feA y ++ feA 1 ++ feA t)) rfl (fun _ _ => by kernel_rfl) ?_
  simp only [Act.put, List.setIfInBounds_toArray, List.set_cons_succ, List.set_cons_zero]
  refine wpQB_nil ?_
  intro wz hb
  rw [← hb1]
  replace hx := hx.on hb
  replace hy := hy.on hb
  replace hr := hr.on hb
  replace hB := below_on hB hb
  clear hb
  go_wp2_with ((with_reducible refine wpL_store (W.heap.size + 2) 74 _ (ptA v) 16 rowPt rfl (ptA_size _) (ptA_one _) hr ?_ ?_ ?_); rfl; rfl)
  exact bodyPost_ret (results_row Tryz.results101 rowPt (ptA_size _) (hr.row _) rfl) rfl ⟨rfl, below_rowSet hB (by omega) _⟩

set_option maxHeartbeats 1600000 in
theorem wminus_any (F : FieldOk) (n : Nat) (W : World) (hn : n < K256) (hT : PtTab W) :
    Calls Tryz.prog 100 #[fe n] W fun e w' => e = .returned (fe (minusN n)) ∧ Below W.heap.size W w' := by
  have hT0 := Lib.hid hT
  unfold minusN
  have HO0 : Hid (∀ w, Tab w → Calls Tryz.prog 96 #[.int .u64 0] w fun e w' => e = .returned (fe 0) ∧ Below w.heap.size w w') := Lib.hid (fun w hT => F.of 0 w (by decide) hT)
  have Hm := Lib.hid (fun w hT => F.sub 0 n w (by decide) hn hT)
  have km := mod_K (0 + (p25 - n % p25))
  generalize (0 + (p25 - n % p25)) % p25 = m at *
  clear hT km hn
  go_enter Tryz.func100, Tryz.ntmps100
  have hn := (Lies.new W 72 (feA n)).alloc (.cells fe0A 72)
  have hr : Lies ((W.alloc (.cells (feA n) 72)).alloc (.cells fe0A 72)) (W.heap.size + 1) 72 fe0A := heap_alloc2_new W _ _
  have hB := ((Below.refl W.heap.size W).alloc (Nat.le_refl _) (.cells (feA n) 72)).alloc (by simp) (.cells fe0A 72)
  go_upto_region 1 with fail
  generalize World.alloc (World.alloc W _) _ = w0 at *
  have hT := (hT0.out.on hB).f
  refine wp_region_plain 3 (by kernel_rfl) (by kernel_rfl) ?_
  simp only [List.take_succ_cons, List.take_zero, List.drop_succ_cons, List.drop_zero]
  refine wpQB_call 96 #[.int .u64 0] (fe 0) rfl rfl (fun _ => by kernel_rfl) (fun w hb => HO0.out w (hT.on hb)) ?_
  simp only [Act.put, List.setIfInBounds_toArray, List.set_cons_succ, List.set_cons_zero]
  refine wpQB_fe (W.heap.size) n hn rfl ?_
  simp only [Act.put, List.setIfInBounds_toArray, List.set_cons_succ, List.set_cons_zero]
  refine wpQB_call 95 #[fe 0, fe n] (fe m) rfl rfl (fun _ => by kernel_rfl) (fun w hb => Hm.out w (hT.on hb)) ?_
  simp only [Act.put, List.setIfInBounds_toArray, List.set_cons_succ, List.set_cons_zero]
  refine wpQB_nil ?_
  intro wz hb
  replace hn := hn.on hb
  replace hr := hr.on hb
  replace hB := below_on hB hb
  clear hb
  go_wp2_with ((with_reducible refine wpL_store (W.heap.size + 1) 72 _ (feA m) 4 rowFe rfl (feA_size _) (feA_one _) hr ?_ ?_ ?_); rfl; rfl)
  exact bodyPost_ret (results_row Tryz.results100 rowFe (feA_size _) (hr.row _) rfl) rfl ⟨rfl, below_rowSet hB (by omega) _⟩

set_option maxHeartbeats 1600000 in
theorem wodd_any (n : Nat) (W : World) :
    Calls Tryz.prog 102 #[fe n] W fun e w' => e = .returned (.bool (decide (n % 2 = 1))) ∧ Below W.heap.size W w' := by
  obtain ⟨a, b, c, d, ha, ha2, haK⟩ := word_low n
  rw [← ha2]
  have HA := Lib.hid ha
  have hc : decide (a % 2 = 1) = decide ((a : Int) % 2 = 1) := by
    by_cases h : a % 2 = 1
    · rw [decide_eq_true h, decide_eq_true (by omega)]
    · rw [decide_eq_false h, decide_eq_false (by omega)]
  rw [hc]
  clear ha ha2 hc
  go_enter Tryz.func102, Tryz.ntmps102
  have hn := Lies.new W 72 (feA n)
  have hB := (Below.refl W.heap.size W).alloc (Nat.le_refl _) (.cells (feA n) 72)
  go_upto_region 1 with fail
  generalize World.alloc W _ = w0 at *
  rw [HA.out] at hn
  have c0 := hn.cell 0
  clear HA hn
  go_wp2_with fail
  go_ret
  exact ⟨rfl, hB⟩

set_option maxHeartbeats 1600000 in
theorem wzero_any (F : FieldOk) (W : World) (hT : PtTab W) :
    Calls Tryz.prog 143 #[] W fun e w' => e = .returned (pt zeroN) ∧ Below W.heap.size W w' := by
  have hT0 := Lib.hid hT
  have HO0 : Hid (∀ w, Tab w → Calls Tryz.prog 96 #[.int .u64 0] w fun e w' => e = .returned (fe 0) ∧ Below w.heap.size w w') := Lib.hid (fun w hT => F.of 0 w (by decide) hT)
  have HO1 : Hid (∀ w, Tab w → Calls Tryz.prog 96 #[.int .u64 1] w fun e w' => e = .returned (fe 1) ∧ Below w.heap.size w w') := Lib.hid (fun w hT => F.of 1 w (by decide) hT)
  have HA : Hid (∀ w, PtTab w → Calls Tryz.prog 101 #[fe 0, fe 1] w fun e w' => e = .returned (pt zeroN) ∧ Below w.heap.size w w') := Lib.hid (fun w hT => wat_any F 0 1 w (by decide) (by decide) hT)
  clear hT
  go_enter Tryz.func143, Tryz.ntmps143
  have hr := Lies.new W 74 z16P
  have hB := (Below.refl W.heap.size W).alloc (Nat.le_refl _) (.cells z16P 74)
  go_upto_region 1 with fail
  generalize World.alloc W _ = w0 at *
  have hP := hT0.out.on hB
  have hT := (hT0.out.on hB).f
  go_wp2_with (first
    | (go_at_call 96; (with_reducible refine (HO0.out _ hT).mono ?_); rintro e u1 ⟨rfl, hb⟩; replace hr := hr.on hb; replace hP := hP.on hb; replace hT := hT.on hb; replace hB := below_on hB hb; clear hb)
    | (go_at_call 96; (with_reducible refine (HO1.out _ hT).mono ?_); rintro e u2 ⟨rfl, hb⟩; replace hr := hr.on hb; replace hP := hP.on hb; replace hT := hT.on hb; replace hB := below_on hB hb; clear hb)
    | (go_at_call 101; (with_reducible refine (HA.out _ hP).mono ?_); rintro e u3 ⟨rfl, hb⟩; replace hr := hr.on hb; replace hB := below_on hB hb; clear hb)
    | ((with_reducible refine wpL_store (W.heap.size) 74 _ (ptA zeroN) 16 rowPt rfl (ptA_size _) (ptA_one _) hr ?_ ?_ ?_); rfl; rfl))
  exact bodyPost_ret (results_row Tryz.results143 rowPt (ptA_size _) (hr.row _) rfl) rfl ⟨rfl, below_rowSet hB (by omega) _⟩

set_option maxHeartbeats 1600000 in
theorem wbase_any (F : FieldOk) (W : World) (hT : PtTab W) :
    Calls Tryz.prog 89 #[] W fun e w' => e = .returned (pt baseN) ∧ Below W.heap.size W w' := by
  have hT0 := Lib.hid hT
  have HA : Hid (∀ w, PtTab w → Calls Tryz.prog 101 #[fe bxN, fe byN] w fun e w' => e = .returned (pt baseN) ∧ Below w.heap.size w w') := Lib.hid (fun w hT => wat_any F bxN byN w (by decide) (by decide) hT)
  have HX : Hid (∀ w, PtTab w → w.rangeAt 4 0 (feA bxN).toList) := Lib.hid (fun w h => h.2.2.1.root)
  have HY : Hid (∀ w, PtTab w → w.rangeAt 5 0 (feA byN).toList) := Lib.hid (fun w h => h.2.2.2.root)
  generalize baseN = v at *
  generalize bxN = x at *
  generalize byN = y at *
  clear hT
  go_enter Tryz.func89, Tryz.ntmps89
  have hr := Lies.new W 74 z16P
  have hB := (Below.refl W.heap.size W).alloc (Nat.le_refl _) (.cells z16P 74)
  go_upto_region 1 with fail
  generalize World.alloc W _ = w0 at *
  have hP := hT0.out.on hB
  have hX := HX.out _ hP
  have hY := HY.out _ hP
  go_wp2_with (first
    | ((with_reducible refine wpL_loadGlobal 4 0 (feA x).toList 4 rowFe (by rw [Array.length_toList]; exact feA_size _) hX ?_ ?_); rfl; rw [Array.toArray_toList])
    | ((with_reducible refine wpL_loadGlobal 5 0 (feA y).toList 4 rowFe (by rw [Array.length_toList]; exact feA_size _) hY ?_ ?_); rfl; rw [Array.toArray_toList])
    | (go_at_call 101; (with_reducible refine (HA.out _ hP).mono ?_); rintro e u3 ⟨rfl, hb⟩; replace hr := hr.on hb; replace hB := below_on hB hb; clear hb)
    | ((with_reducible refine wpL_store (W.heap.size) 74 _ (ptA v) 16 rowPt rfl (ptA_size _) (ptA_one _) hr ?_ ?_ ?_); rfl; rfl))
  exact bodyPost_ret (results_row Tryz.results89 rowPt (ptA_size _) (hr.row _) rfl) rfl ⟨rfl, below_rowSet hB (by omega) _⟩

set_option maxHeartbeats 1600000 in
theorem wonCurve_any (F : FieldOk) (u : N4) (hu : u.Lt) (W : World) (hT : PtTab W) :
    Calls Tryz.prog 142 #[pt u] W fun e w' => e = .returned (.bool (ocB u)) ∧ Below W.heap.size W w' := by
  have hT0 := Lib.hid hT
  unfold ocB
  have HD : Hid (∀ w, PtTab w → w.rangeAt 1 0 (feA dN).toList) := Lib.hid (fun w h => h.2.1.root)
  have kD : dN < K256 := by decide
  generalize dN = D at *
  have Hyy := Lib.hid (fun w hT => F.mul u.Y u.Y w hu.Y hu.Y hT)
  have kyy := mod_K (u.Y * u.Y)
  generalize u.Y * u.Y % p25 = yy at *
  have Hxx := Lib.hid (fun w hT => F.mul u.X u.X w hu.X hu.X hT)
  have kxx := mod_K (u.X * u.X)
  generalize u.X * u.X % p25 = xx at *
  have Hl := Lib.hid (fun w hT => F.sub yy xx w kyy kxx hT)
  have kl := mod_K (yy + (p25 - xx % p25))
  generalize (yy + (p25 - xx % p25)) % p25 = l at *
  have Hzz := Lib.hid (fun w hT => F.mul u.Z u.Z w hu.Z hu.Z hT)
  have kzz := mod_K (u.Z * u.Z)
  generalize u.Z * u.Z % p25 = zz at *
  have Htt := Lib.hid (fun w hT => F.mul u.T u.T w hu.T hu.T hT)
  have ktt := mod_K (u.T * u.T)
  generalize u.T * u.T % p25 = tt at *
  have Hdt := Lib.hid (fun w hT => F.mul D tt w kD ktt hT)
  have kdt := mod_K (D * tt)
  generalize D * tt % p25 = dt at *
  have Hr := Lib.hid (fun w hT => F.add zz dt w kzz kdt hT)
  have kr := mod_K (zz + dt)
  generalize (zz + dt) % p25 = r at *
  have heq := eql_fe l r kl kr
  clear hT kyy kxx kzz ktt kdt kl kr kD hu
  go_enter Tryz.func142, Tryz.ntmps142
  have hp := Lies.new W 151 (ptA u)
  have hB := (Below.refl W.heap.size W).alloc (Nat.le_refl _) (.cells (ptA u) 151)
  go_upto_region 1 with fail
  generalize World.alloc W _ = w0 at *
  have hT := (hT0.out.on hB).f
  have hpX := pt_X hp
  have hpY := pt_Y hp
  have hpZ := pt_Z hp
  have hpT := pt_T hp
  refine wp_region_made 15 3 _ 72 fe0A rfl rfl (by kernel_rfl) (by kernel_rfl) (alloc_fe rfl) ?_
  simp only [List.take_succ_cons, List.take_zero, List.drop_succ_cons, List.drop_zero]
  refine wpQB_run (.pointer (some ⟨W.heap.size, 0, none⟩)) rfl (fun _ _ => by kernel_rfl) ?_
  simp only [Act.put, List.setIfInBounds_toArray, List.set_cons_succ, List.set_cons_zero]
  refine wpQB_run (.pointer (some ⟨W.heap.size, 4, none⟩)) rfl (fun _ _ => by kernel_rfl) ?_
  simp only [Act.put, List.setIfInBounds_toArray, List.set_cons_succ, List.set_cons_zero]
  refine wpQB_mid (W.heap.size) 4 u.Y hpY rfl ?_
  simp only [Act.put, List.setIfInBounds_toArray, List.set_cons_succ, List.set_cons_zero]
  refine wpQB_run (.pointer (some ⟨W.heap.size, 0, none⟩)) rfl (fun _ _ => by kernel_rfl) ?_
  simp only [Act.put, List.setIfInBounds_toArray, List.set_cons_succ, List.set_cons_zero]
  refine wpQB_run (.pointer (some ⟨W.heap.size, 4, none⟩)) rfl (fun _ _ => by kernel_rfl) ?_
  simp only [Act.put, List.setIfInBounds_toArray, List.set_cons_succ, List.set_cons_zero]
  refine wpQB_mid (W.heap.size) 4 u.Y hpY rfl ?_
  simp only [Act.put, List.setIfInBounds_toArray, List.set_cons_succ, List.set_cons_zero]
  refine wpQB_call 94 #[fe u.Y, fe u.Y] (fe yy) rfl rfl (fun _ => by kernel_rfl) (fun w hb => Hyy.out w (hT.on hb)) ?_
  simp only [Act.put, List.setIfInBounds_toArray, List.set_cons_succ, List.set_cons_zero]
  refine wpQB_run (.pointer (some ⟨W.heap.size, 0, none⟩)) rfl (fun _ _ => by kernel_rfl) ?_
  simp only [Act.put, List.setIfInBounds_toArray, List.set_cons_succ, List.set_cons_zero]
  refine wpQB_run (.pointer (some ⟨W.heap.size, 0, none⟩)) rfl (fun _ _ => by kernel_rfl) ?_
  simp only [Act.put, List.setIfInBounds_toArray, List.set_cons_succ, List.set_cons_zero]
  refine wpQB_mid (W.heap.size) 0 u.X hpX rfl ?_
  simp only [Act.put, List.setIfInBounds_toArray, List.set_cons_succ, List.set_cons_zero]
  refine wpQB_run (.pointer (some ⟨W.heap.size, 0, none⟩)) rfl (fun _ _ => by kernel_rfl) ?_
  simp only [Act.put, List.setIfInBounds_toArray, List.set_cons_succ, List.set_cons_zero]
  refine wpQB_run (.pointer (some ⟨W.heap.size, 0, none⟩)) rfl (fun _ _ => by kernel_rfl) ?_
  simp only [Act.put, List.setIfInBounds_toArray, List.set_cons_succ, List.set_cons_zero]
  refine wpQB_mid (W.heap.size) 0 u.X hpX rfl ?_
  simp only [Act.put, List.setIfInBounds_toArray, List.set_cons_succ, List.set_cons_zero]
  refine wpQB_call 94 #[fe u.X, fe u.X] (fe xx) rfl rfl (fun _ => by kernel_rfl) (fun w hb => Hxx.out w (hT.on hb)) ?_
  simp only [Act.put, List.setIfInBounds_toArray, List.set_cons_succ, List.set_cons_zero]
  refine wpQB_call 95 #[fe yy, fe xx] (fe l) rfl rfl (fun _ => by kernel_rfl) (fun w hb => Hl.out w (hT.on hb)) ?_
  simp only [Act.put, List.setIfInBounds_toArray, List.set_cons_succ, List.set_cons_zero]
  refine wpQB_nil ?_
  intro glhs w1 hb hk hy
  simp only [List.setIfInBounds_toArray, List.set_cons_succ, List.set_cons_zero]
  replace hy : Lies w1 glhs 72 fe0A := hy
  have hl := hp.lt
  replace hp := (hp.on hb).rowFar (show W.heap.size ≠ glhs by omega) (feA l)
  clear hl
  have hsz := hB.size
  replace hB := below_rowSet (below_on hB hb) (show W.heap.size ≤ glhs by omega) (feA l)
  clear hb hsz
  have hlhs := hy.row (feA l)
  clear hk
  go_upto_region 2 with ((with_reducible refine wpL_store glhs 72 _ (feA l) 4 rowFe rfl (feA_size _) (feA_one _) hy ?_ ?_ ?_); rfl; rfl)
  clear hy
  generalize World.setRow _ _ _ = w1b at *
  clear hT
  clear hpX hpY hpZ hpT
  have hT := (hT0.out.on hB).f
  have hD := HD.out _ (hT0.out.on hB)
  have hpX := pt_X hp
  have hpY := pt_Y hp
  have hpZ := pt_Z hp
  have hpT := pt_T hp
  refine wp_region_made 17 4 _ 72 fe0A rfl rfl (by kernel_rfl) (by kernel_rfl) (alloc_fe rfl) ?_
  simp only [List.take_succ_cons, List.take_zero, List.drop_succ_cons, List.drop_zero]
  refine wpQB_run (.pointer (some ⟨W.heap.size, 0, none⟩)) rfl (fun _ _ => by kernel_rfl) ?_
  simp only [Act.put, List.setIfInBounds_toArray, List.set_cons_succ, List.set_cons_zero]
  refine wpQB_run (.pointer (some ⟨W.heap.size, 8, none⟩)) rfl (fun _ _ => by kernel_rfl) ?_
  simp only [Act.put, List.setIfInBounds_toArray, List.set_cons_succ, List.set_cons_zero]
  refine wpQB_mid (W.heap.size) 8 u.Z hpZ rfl ?_
  simp only [Act.put, List.setIfInBounds_toArray, List.set_cons_succ, List.set_cons_zero]
  refine wpQB_run (.pointer (some ⟨W.heap.size, 0, none⟩)) rfl (fun _ _ => by kernel_rfl) ?_
  simp only [Act.put, List.setIfInBounds_toArray, List.set_cons_succ, List.set_cons_zero]
  refine wpQB_run (.pointer (some ⟨W.heap.size, 8, none⟩)) rfl (fun _ _ => by kernel_rfl) ?_
  simp only [Act.put, List.setIfInBounds_toArray, List.set_cons_succ, List.set_cons_zero]
  refine wpQB_mid (W.heap.size) 8 u.Z hpZ rfl ?_
  simp only [Act.put, List.setIfInBounds_toArray, List.set_cons_succ, List.set_cons_zero]
  refine wpQB_call 94 #[fe u.Z, fe u.Z] (fe zz) rfl rfl (fun _ => by kernel_rfl) (fun w hb => Hzz.out w (hT.on hb)) ?_
  simp only [Act.put, List.setIfInBounds_toArray, List.set_cons_succ, List.set_cons_zero]
  refine wpQB_mid 1 0 D hD rfl ?_
  simp only [Act.put, List.setIfInBounds_toArray, List.set_cons_succ, List.set_cons_zero]
  refine wpQB_run (.pointer (some ⟨W.heap.size, 0, none⟩)) rfl (fun _ _ => by kernel_rfl) ?_
  simp only [Act.put, List.setIfInBounds_toArray, List.set_cons_succ, List.set_cons_zero]
  refine wpQB_run (.pointer (some ⟨W.heap.size, 12, none⟩)) rfl (fun _ _ => by kernel_rfl) ?_
  simp only [Act.put, List.setIfInBounds_toArray, List.set_cons_succ, List.set_cons_zero]
  refine wpQB_mid (W.heap.size) 12 u.T hpT rfl ?_
  simp only [Act.put, List.setIfInBounds_toArray, List.set_cons_succ, List.set_cons_zero]
  refine wpQB_run (.pointer (some ⟨W.heap.size, 0, none⟩)) rfl (fun _ _ => by kernel_rfl) ?_
  simp only [Act.put, List.setIfInBounds_toArray, List.set_cons_succ, List.set_cons_zero]
  refine wpQB_run (.pointer (some ⟨W.heap.size, 12, none⟩)) rfl (fun _ _ => by kernel_rfl) ?_
  simp only [Act.put, List.setIfInBounds_toArray, List.set_cons_succ, List.set_cons_zero]
  refine wpQB_mid (W.heap.size) 12 u.T hpT rfl ?_
  simp only [Act.put, List.setIfInBounds_toArray, List.set_cons_succ, List.set_cons_zero]
  refine wpQB_call 94 #[fe u.T, fe u.T] (fe tt) rfl rfl (fun _ => by kernel_rfl) (fun w hb => Htt.out w (hT.on hb)) ?_
  simp only [Act.put, List.setIfInBounds_toArray, List.set_cons_succ, List.set_cons_zero]
  refine wpQB_call 94 #[fe D, fe tt] (fe dt) rfl rfl (fun _ => by kernel_rfl) (fun w hb => Hdt.out w (hT.on hb)) ?_
  simp only [Act.put, List.setIfInBounds_toArray, List.set_cons_succ, List.set_cons_zero]
  refine wpQB_call 97 #[fe zz, fe dt] (fe r) rfl rfl (fun _ => by kernel_rfl) (fun w hb => Hr.out w (hT.on hb)) ?_
  simp only [Act.put, List.setIfInBounds_toArray, List.set_cons_succ, List.set_cons_zero]
  refine wpQB_nil ?_
  intro ge w2 hb hk hy
  simp only [List.setIfInBounds_toArray, List.set_cons_succ, List.set_cons_zero]
  replace hy : Lies w2 ge 72 fe0A := hy
  have hl := hp.lt
  replace hp := (hp.on hb).rowFar (show W.heap.size ≠ ge by omega) (feA r)
  clear hl
  have hl := hlhs.lt
  replace hlhs := (hlhs.on hb).rowFar (show glhs ≠ ge by omega) (feA r)
  clear hl
  have hsz := hB.size
  replace hB := below_rowSet (below_on hB hb) (show W.heap.size ≤ ge by omega) (feA r)
  clear hb hsz
  have he := hy.row (feA r)
  clear hk
  go_upto_region 3 with ((with_reducible refine wpL_store ge 72 _ (feA r) 4 rowFe rfl (feA_size _) (feA_one _) hy ?_ ?_ ?_); rfl; rfl)
  clear hy
  generalize World.setRow _ _ _ = w2b at *
  clear hpX hpY hpZ hpT
  clear hT hD
  go_wp2_with (first | ((with_reducible refine wpL_load (glhs) 72 (feA l) 4 rowFe (feA_size _) hlhs ?_ ?_); rfl) | ((with_reducible refine wpL_load (ge) 72 (feA r) 4 rowFe (feA_size _) he ?_ ?_); rfl))
  go_ret
  exact ⟨rfl, hB⟩
end Go.Proofs.YtmekmlgpkbfjpaaGreatDoor.C

/- The points' sums, contraries and multiples as numbers tell them; whether numbers tell a point, by the equation without a division. -/
namespace Go.Proofs.YtmekmlgpkbfjpaaGreatDoor.C
open Go.RowKit Go.Sort Go.Proofs.YtmekmlgpkbfjpaaGreatDoor.F
set_option maxRecDepth 100000

def pxN (u v : N4) : Nat := (u.X * v.Y % p25 + v.X * u.Y % p25) % p25
def pyN (u v : N4) : Nat := (u.Y * v.Y % p25 + u.X * v.X % p25) % p25
def poN (u v : N4) : Nat := u.Z * v.Z % p25
def prN (u v : N4) : Nat := dN * (u.T * v.T % p25) % p25
def puxN (u v : N4) : Nat := (poN u v + prN u v) % p25
def puyN (u v : N4) : Nat := (poN u v + (p25 - prN u v % p25)) % p25
/-- the sum -/
def plusN (u v : N4) : N4 := ⟨pxN u v * puyN u v % p25, pyN u v * puxN u v % p25, puxN u v * puyN u v % p25, pxN u v * pyN u v % p25⟩
theorem rep_scale {A r E H : Z} {P : Pt} (hA : A ≠ 0) (h : Rep (A * (A * A - A * r) * E) (A * (A * A + A * r) * H) ((A * A - A * r) * (A * A + A * r)) P) : Rep (E * (A - r)) (H * (A + r)) ((A + r) * (A - r)) P := by
  obtain ⟨n, a, b⟩ := h
  have hs : A * A ≠ 0 := zmul_ne hA hA
  refine ⟨fun e => n ?_, zcancel hs ?_, zcancel hs ?_⟩
  · clear a b; grind
  · generalize P.x = px at *
    clear n b hs hA
    grind
  · generalize P.y = py at *
    clear n a hs hA
    grind
theorem oc_ring {X Y Zc T i : Z} (hz : Zc * Zc ≠ 0) (hi : Zc * i = 1) (ht : X * Y = Zc * T) : (Y * i * (Y * i) - X * i * (X * i) = 1 + dd * (X * i * (X * i) * (Y * i * (Y * i)))) ↔ Y * Y - X * X = Zc * Zc + dd * (T * T) := by
  have hT : X * i * (Y * i) = T * i := by grind
  have hT2 : X * i * (X * i) * (Y * i * (Y * i)) = T * i * (T * i) := by rw [← hT]; grind
  rw [hT2]
  constructor
  · intro h; grind
  · intro h; refine zcancel hz ?_; grind
theorem plusN_pn {u v : N4} {P Q : Pt} (h : Pn u P) (k : Pn v Q) : Pn (plusN u v) (P.add Q) := by
  have hR := Rep.add h.rep k.rep h.on k.on rfl rfl rfl rfl rfl rfl rfl
  have hz1 := h.rep.ne
  have hz2 := k.rep.ne
  have ht1 := h.t
  have ht2 := k.t
  have eX : z (plusN u v).X = (z u.X * z v.Y + z v.X * z u.Y) * (z u.Z * z v.Z - dd * (z u.T * z v.T)) := by
    show z (pxN u v * puyN u v % p25) = _
    unfold pxN puyN poN prN
    simp only [z_mod, z_mul, z_add, z_neg, z_dN]
    grind
  have eY : z (plusN u v).Y = (z u.Y * z v.Y + z u.X * z v.X) * (z u.Z * z v.Z + dd * (z u.T * z v.T)) := by
    show z (pyN u v * puxN u v % p25) = _
    unfold pyN puxN poN prN
    simp only [z_mod, z_mul, z_add, z_dN]
  have eZ : z (plusN u v).Z = (z u.Z * z v.Z + dd * (z u.T * z v.T)) * (z u.Z * z v.Z - dd * (z u.T * z v.T)) := by
    show z (puxN u v * puyN u v % p25) = _
    unfold puxN puyN poN prN
    simp only [z_mod, z_mul, z_add, z_neg, z_dN]
    grind
  have eT : z (plusN u v).T = (z u.X * z v.Y + z v.X * z u.Y) * (z u.Y * z v.Y + z u.X * z v.X) := by
    show z (pxN u v * pyN u v % p25) = _
    unfold pxN pyN
    simp only [z_mod, z_mul, z_add]
  have hA : z u.Z * z v.Z ≠ 0 := zmul_ne hz1 hz2
  have hE : dd * (z u.X * z v.X * (z u.Y * z v.Y)) = z u.Z * z v.Z * (dd * (z u.T * z v.T)) := by
    have e1 : z u.X * z v.X * (z u.Y * z v.Y) = (z u.X * z u.Y) * (z v.X * z v.Y) := by grind
    rw [e1, ht1, ht2]
    grind
  rw [hE] at hR
  refine ⟨Nat.mod_lt _ p25_pos, Nat.mod_lt _ p25_pos, Nat.mod_lt _ p25_pos, Nat.mod_lt _ p25_pos, ?_, ?_, Pt.add_on h.on k.on⟩
  · rw [eX, eY, eZ]
    exact rep_scale hA hR
  · rw [eX, eY, eZ, eT]
    generalize z u.X * z v.Y + z v.X * z u.Y = E
    generalize z u.Y * z v.Y + z u.X * z v.X = H
    generalize z u.Z * z v.Z = A
    generalize dd * (z u.T * z v.T) = r
    grind

/-! ### the contrary -/
theorem z_minusN (n : Nat) : z (minusN n) = - z n := by
  unfold minusN
  rw [Nat.zero_add, z_mod, z_neg]
theorem minusN_lt (n : Nat) : minusN n < p25 := Nat.mod_lt _ p25_pos
def negN (u : N4) : N4 := ⟨minusN u.X, u.Y, u.Z, minusN u.T⟩
theorem negN_pn {u : N4} {P : Pt} (h : Pn u P) : Pn (negN u) P.neg := by
  obtain ⟨n, a, b⟩ := h.rep
  have ht := h.t
  refine ⟨minusN_lt _, h.lY, h.lZ, minusN_lt _, ⟨n, ?_, b⟩, ?_, Pt.neg_on h.on⟩
  · show z (minusN u.X) = - P.x * z u.Z
    rw [z_minusN, a]
    grind
  · show z (minusN u.X) * z u.Y = z u.Z * z (minusN u.T)
    rw [z_minusN, z_minusN]
    grind

/-! ### so many times, bit by bit -/
def stepN (u s : N4) (b : Nat) : N4 := if b = 1 then plusN (plusN s s) u else plusN s s
def tN (n : Nat) (u : N4) : Nat → N4
  | 0 => zeroN
  | k + 1 => stepN u (tN n u k) (n / 2 ^ (255 - k) % 2)
theorem tN_pn {n : Nat} {u : N4} {P : Pt} (hn : n < K256) (h : Pn u P) : ∀ k, k ≤ 256 → Pn (tN n u k) (P.smul (n / 2 ^ (256 - k)))
  | 0, _ => by
    rw [show n / 2 ^ (256 - 0) = 0 from Nat.div_eq_of_lt (by rw [show (2 : Nat) ^ (256 - 0) = K256 by decide]; exact hn)]
    exact zero_pn
  | k + 1, hk => by
    have ih := tN_pn hn h k (by omega)
    have hd : n / 2 ^ (256 - k) = n / 2 ^ (255 - k) / 2 := by
      rw [Nat.div_div_eq_div_mul, ← Nat.pow_succ, show (255 - k).succ = 256 - k by omega]
    rw [show 256 - (k + 1) = 255 - k by omega]
    rw [hd] at ih
    rw [tN]
    generalize n / 2 ^ (255 - k) = m at *
    have h2 := plusN_pn ih ih
    rw [← Pt.smul_two h.on] at h2
    unfold stepN
    by_cases hb : m % 2 = 1
    · rw [if_pos hb]
      have h3 := plusN_pn h2 h
      have h4 : P.smul m = (P.smul (2 * (m / 2))).add P := by
        have h5 := Pt.smul_add h.on (2 * (m / 2)) 1
        rwa [show 2 * (m / 2) + 1 = m by omega, Pt.smul_one h.on] at h5
      rw [h4]
      exact h3
    · rw [if_neg hb]
      rwa [show 2 * (m / 2) = m by omega] at h2
theorem step_lt {s u : N4} (b : Nat) : (stepN u s b).Lt := by
  have h : ∀ a b : N4, (plusN a b).Lt := fun a b => ⟨mod_K _, mod_K _, mod_K _, mod_K _⟩
  unfold stepN
  split <;> exact h _ _
theorem plusN_lt (a b : N4) : (plusN a b).Lt := ⟨mod_K _, mod_K _, mod_K _, mod_K _⟩
theorem tN_lt (n : Nat) (u : N4) : ∀ k, (tN n u k).Lt
  | 0 => zero_pn.lt
  | k + 1 => by rw [tN]; exact step_lt _

/-! ### whether numbers tell a point -/
theorem oc_on {u : N4} (hz : u.Z < p25) (h0 : u.Z ≠ 0) (ht : u.X * u.Y % p25 = u.Z * u.T % p25) : onB (u.X * invN u.Z % p25) (u.Y * invN u.Z % p25) = ocB u := by
  have hn := z_ne hz h0
  have hi := zinv_mul hn
  have h1 : z u.X * z u.Y = z u.Z * z u.T := by rw [← z_mul, ← z_mul]; exact z_iff.2 ht
  have hb : ocB u = true ↔ z u.Y * z u.Y - z u.X * z u.X = z u.Z * z u.Z + dd * (z u.T * z u.T) := by
    unfold ocB
    rw [decide_eq_true_iff, ← z_iff]
    simp only [z_mod, z_mul, z_add, z_neg, z_dN]
    rw [z_less]
  have ha := onB_iff (u.X * invN u.Z % p25) (u.Y * invN u.Z % p25)
  simp only [z_mod, z_mul, z_inv] at ha
  have hz2 : z u.Z * z u.Z ≠ 0 := zmul_ne hn hn
  have he : On (z u.X * zinv (z u.Z)) (z u.Y * zinv (z u.Z)) ↔ z u.Y * z u.Y - z u.X * z u.X = z u.Z * z u.Z + dd * (z u.T * z u.T) := by
    unfold On
    generalize zinv (z u.Z) = i at *
    generalize z u.X = X at *
    generalize z u.Y = Y at *
    generalize z u.Z = Zc at *
    generalize z u.T = T at *
    exact oc_ring hz2 hi h1
  rw [he, ← hb] at ha
  cases hx : onB (u.X * invN u.Z % p25) (u.Y * invN u.Z % p25) with
  | true => exact (ha.1 hx).symm
  | false =>
    cases hy : ocB u with
    | true => rw [ha.2 hy] at hx; cases hx
    | false => rfl
theorem right_is (u : N4) : u.right = (decide (u.X < p25) && decide (u.Y < p25) && decide (u.Z < p25) && decide (u.T < p25) && !decide (u.Z = 0) && decide (u.X * u.Y % p25 = u.Z * u.T % p25) && ocB u) := by
  unfold N4.right
  simp only [ne_eq, decide_not]
  by_cases h1 : u.X < p25 <;> by_cases h2 : u.Y < p25 <;> by_cases h3 : u.Z < p25 <;> by_cases h4 : u.T < p25 <;> by_cases h5 : u.Z = 0 <;> by_cases h6 : u.X * u.Y % p25 = u.Z * u.T % p25 <;> simp only [h1, h2, h3, h4, h5, h6, decide_true, decide_false, Bool.and_true, Bool.and_false, Bool.false_and, Bool.true_and, Bool.not_true, Bool.not_false]
  exact oc_on h3 h5 h6
end Go.Proofs.YtmekmlgpkbfjpaaGreatDoor.C

/- The contract of same. -/
namespace Go.Proofs.YtmekmlgpkbfjpaaGreatDoor.C
open Go.RowKit Go.Sort Go.Proofs.YtmekmlgpkbfjpaaGreatDoor.F
set_option maxRecDepth 100000

/-- the frame is worked out by itself: the kernel then never opens the walk -/
theorem qA {P : Program} {ops : Array Oper} {C : World → Prop} {Q : Act → Prop} {rest : List Oper} {a a' : Act} (h : wpQuiet P ops C Q rest a') (ha : a = a') : wpQuiet P ops C Q rest a := ha ▸ h
/-- a number that is a field is read, maybe under a guard -/
theorem wpQg_midP {w0 : World} {ops : Array Oper} {Q : Act → Prop} {a : Act} {rest : List Oper} {t' : TypeId} {pos : String} {after : Array Edge} {gd : Option (Nat × Bool)} {d : Option Tmp} {x : Operand} (g o n : Nat) (hr : w0.rangeAt g o (feA n).toList) (hx : a.eval x = .pointer (some ⟨g, o, none⟩)) (hw : Region.wanted ⟨d, .load 72 x, t', pos, after, gd⟩ (yielded ops a.tmps) = true)
    (h : wpQuiet Tryz.prog ops (Gr w0) Q rest (a.put d (fe n))) : wpQuiet Tryz.prog ops (Gr w0) Q (⟨d, .load 72 x, t', pos, after, gd⟩ :: rest) a :=
  wpQg_run (fe n) hw (fun w hw => by
    have hr' : w.rangeAt g o (feA n).toList := fun j v hv => by
      have h1 := hr j v hv
      exact (hw.cell (p := ⟨g, o + j, none⟩) (World.block_lt_of_cell? w0 _ h1)).trans h1
    unfold execOp
    simp only [hx, Instr.loadAt, Instr.sureAddr, Sem.run_bind, Sem.run_pure, Result.andThen_ok, run_loadVar_mid w g o 72 (feA n).toList _ hr' Tryz.underlying72 rfl (by rw [Array.length_toList, feA_size]; exact rowFe.2), Array.toArray_toList]) h
attribute [local irreducible] feA ptA wpQuiet
end Go.Proofs.YtmekmlgpkbfjpaaGreatDoor.C

/- The contract of right. -/
namespace Go.Proofs.YtmekmlgpkbfjpaaGreatDoor.C
open Go.RowKit Go.Sort Go.Proofs.YtmekmlgpkbfjpaaGreatDoor.F
set_option maxRecDepth 100000

def nthN (u : N4) : Nat → Nat
  | 0 => u.X
  | 1 => u.Y
  | 2 => u.Z
  | _ => u.T
theorem nthN_lt {u : N4} (h : u.Lt) (i : Nat) : nthN u i < K256 := match i with
  | 0 => h.X
  | 1 => h.Y
  | 2 => h.Z
  | _ + 3 => h.T
theorem index_pt (u : N4) (i : Nat) (h : i < 4) (w : World) : (Instr.index 184 (.agg (feA u.X ++ (feA u.Y ++ (feA u.Z ++ feA u.T)))) (.int .i64 (i : Int))).run Tryz.prog w = .ok (fe (nthN u i)) w := by
  match i, h with
  | 0, _ | 1, _ | 2, _ | 3, _ => (show _ = _; kernel_rfl)
theorem idx_exec {o : Oper} {a : Act} {x y : Operand} (u : N4) (i : Nat) (h : i < 4) (ho : o.op = .index 184 x y) (hx : a.eval x = .agg (feA u.X ++ (feA u.Y ++ (feA u.Z ++ feA u.T)))) (hy : a.eval y = .int .i64 (i : Int)) (w : World) : (execOp a.eval o).run Tryz.prog w = .ok (.value (fe (nthN u i))) w := by
  unfold execOp
  simp only [ho, hx, hy, Sem.run_bind, index_pt u i h, Result.andThen_ok, Sem.run_pure]
theorem wpQg_wk {w0 : World} {ops : Array Oper} {Q : Act → Prop} {a : Act} {rest : List Oper} {t' : TypeId} {pos : String} {after : Array Edge} {gd : Option (Nat × Bool)} {d : Option Tmp} {x : Operand} (g : Nat) (u : N4) (hz : Lies w0 g 151 (ptA u)) (hx : a.eval x = .pointer (some ⟨g, 0, none⟩)) (hw : Region.wanted ⟨d, .load 151 x, t', pos, after, gd⟩ (yielded ops a.tmps) = true)
    (h : wpQuiet Tryz.prog ops (Gr w0) Q rest (a.put d (pt u))) : wpQuiet Tryz.prog ops (Gr w0) Q (⟨d, .load 151 x, t', pos, after, gd⟩ :: rest) a :=
  wpQg_load g 151 (ptA u) _ Tryz.underlying151 rfl (by rw [ptA_size]; exact rowWk.2) hz hx hw h
theorem least_neqP (n : Nat) : (!decide (n % p25 = n)) = !decide (n < p25) := by
  by_cases h : n < p25
  · rw [decide_eq_true h, decide_eq_true (Nat.mod_eq_of_lt h)]
  · rw [decide_eq_false h, decide_eq_false]
    intro e
    have := Nat.mod_lt n p25_pos
    omega
theorem all_four {u : N4} (h : ∀ i, i < 4 → nthN u i < p25) : u.right = (!decide (u.Z = 0) && decide (u.X * u.Y % p25 = u.Z * u.T % p25) && ocB u) := by
  rw [right_is, decide_eq_true (show u.X < p25 from h 0 (by decide)), decide_eq_true (show u.Y < p25 from h 1 (by decide)), decide_eq_true (show u.Z < p25 from h 2 (by decide)), decide_eq_true (show u.T < p25 from h 3 (by decide))]
  rfl
theorem not_four {u : N4} {i : Nat} (hi : i < 4) (h : ¬ nthN u i < p25) : u.right = false := by
  rw [right_is]
  match i, hi with
  | 0, _ => rw [decide_eq_false (show ¬ u.X < p25 from h)]; rfl
  | 1, _ => rw [decide_eq_false (show ¬ u.Y < p25 from h)]; simp
  | 2, _ => rw [decide_eq_false (show ¬ u.Z < p25 from h)]; simp
  | 3, _ => rw [decide_eq_false (show ¬ u.T < p25 from h)]; simp
attribute [local irreducible] feA ptA wpQuiet
set_option maxHeartbeats 3200000 in
theorem wright_any (F : FieldOk) (u : N4) (hu : u.Lt) (W : World) (hT : PtTab W) :
    Calls Tryz.prog 103 #[pt u] W fun e w' => e = .returned (.bool u.right) ∧ Below W.heap.size W w' := by
  have hT0 := Lib.hid hT
  have HF := Lib.hid (fun (h : ∀ i, i < 4 → nthN u i < p25) => all_four h)
  have HN := Lib.hid (fun (i : Nat) (hi : i < 4) (h : ¬ nthN u i < p25) => not_four hi h)
  have HO := Lib.hid (fun w hT => wonCurve_any F u hu w hT)
  have HL := Lib.hid (fun i w hT => F.least (nthN u i) w (nthN_lt hu i) hT)
  have HK := Lib.hid (fun i => nthN_lt hu i)
  have HO0 : Hid (∀ w, Tab w → Calls Tryz.prog 96 #[.int .u64 0] w fun e w' => e = .returned (fe 0) ∧ Below w.heap.size w w') := Lib.hid (fun w hT => F.of 0 w (by decide) hT)
  have Ha := Lib.hid (fun w hT => F.mul u.X u.Y w hu.X hu.Y hT)
  have ka := mod_K (u.X * u.Y)
  generalize u.X * u.Y % p25 = a at *
  have Hb := Lib.hid (fun w hT => F.mul u.Z u.T w hu.Z hu.T hT)
  have kb := mod_K (u.Z * u.T)
  generalize u.Z * u.T % p25 = b at *
  have kZ := hu.Z
  obtain ⟨z, hz⟩ : ∃ z, (!decide (u.Z = 0)) = z := ⟨_, rfl⟩
  obtain ⟨m, hm⟩ : ∃ m, decide (a = b) = m := ⟨_, rfl⟩
  rw [hz, hm] at HF
  have EZ := Lib.hid hz
  have EM := Lib.hid hm
  generalize ocB u = oc at *
  generalize u.right = R at *
  clear hT hz hm hu
  go_enter Tryz.func103, Tryz.ntmps103
  have hp := Lies.new W 151 (ptA u)
  have hB := (Below.refl W.heap.size W).alloc (Nat.le_refl _) (.cells (ptA u) 151)
  go_upto_region 1 with fail
  generalize World.alloc W _ = w0 at *
  have hpX := pt_X hp
  have hpY := pt_Y hp
  have hpZ := pt_Z hp
  have hpT := pt_T hp
  go_wp2_with (first
    | ((with_reducible refine wpL_loadMid (W.heap.size) 0 (feA u.X).toList 4 rowFe (by rw [Array.length_toList]; exact feA_size _) hpX ?_ ?_); rfl; rw [Array.toArray_toList])
    | ((with_reducible refine wpL_loadMid (W.heap.size) 4 (feA u.Y).toList 4 rowFe (by rw [Array.length_toList]; exact feA_size _) hpY ?_ ?_); rfl; rw [Array.toArray_toList])
    | ((with_reducible refine wpL_loadMid (W.heap.size) 8 (feA u.Z).toList 4 rowFe (by rw [Array.length_toList]; exact feA_size _) hpZ ?_ ?_); rfl; rw [Array.toArray_toList])
    | ((with_reducible refine wpL_loadMid (W.heap.size) 12 (feA u.T).toList 4 rowFe (by rw [Array.length_toList]; exact feA_size _) hpT ?_ ?_); rfl; rw [Array.toArray_toList])
    | ((with_reducible refine wpL_bld (.agg (feA u.X ++ feA u.Y ++ feA u.Z ++ feA u.T)) ?_ ?_); kernel_rfl))
  clear hpX hpY hpZ hpT
  go_loopw [18] (fun ix wr => ∃ i : Nat, i ≤ 4 ∧ ix = .int .i64 (i : Int) ∧ Hid (∀ j, j < i → nthN u j < p25) ∧ Lies wr W.heap.size 151 (ptA u) ∧ Below W.heap.size W wr) (fun ix _ => 4 - (intOf ix).toNat)
  case atStart => exact ⟨0, by omega, rfl, Lib.hid (fun j hj => absurd hj (Nat.not_lt_zero j)), hp, hB⟩
  case round =>
    clear hp hB
    obtain ⟨i, hi, rfl, HI, hp, hB⟩ := hrel
    by_cases hlt : i < 4
    · have hc4 : (i : Int) < 4 := by omega
      go_upto_region 4 with (first
        | ((with_reducible refine wpL_idx (fe (nthN u i)) ?_ ?_); exact idx_exec u i hlt rfl rfl rfl _)
        | ((with_reducible refine wpL_store wr.heap.size 72 _ (feA (nthN u i)) 4 rowFe ?_ (feA_size _) (feA_one _) (Lies.new wr _ _) ?_ ?_ ?_); rfl; rfl; rfl))
      have hx := newly_lies wr 72 fe0A (feA (nthN u i))
      have hnw := newly wr (.cells fe0A 72) (feA (nthN u i))
      replace hp := hp.on hnw
      replace hB := below_on hB hnw
      clear hnw
      generalize World.setRow _ _ _ = w1 at *
      generalize wr.heap.size = gx at *
      have hT := (hT0.out.on hB).f
      have HLi := Lib.hid (fun w hT => HL.out i w hT)
      have kx := HK.out i
      have hls := least_neqP (nthN u i)
      have kmx := mod_K (nthN u i)
      have HNi := Lib.hid (HN.out i hlt)
      have HIn : Hid (nthN u i < p25 → ∀ j, j < i + 1 → nthN u j < p25) := Lib.hid (fun h j hj => by
        by_cases hji : j < i
        · exact HI.out j hji
        · obtain rfl : j = i := by omega
          exact h)
      generalize nthN u i = x at *
      generalize x % p25 = mx at *
      obtain ⟨c, hc⟩ : ∃ c, decide (x < p25) = c := ⟨_, rfl⟩
      rw [hc] at hls
      have HC := Lib.hid hc
      have HLS := Lib.hid hls
      clear hc hls hc4
      cases c
      case false =>
        refine wp_region_all (by kernel_rfl) (by kernel_rfl) ?_
        refine wpQB_fe gx x hx rfl ?_
        simp only [Act.put, List.setIfInBounds_toArray, List.set_cons_succ, List.set_cons_zero]
        refine wpQB_call 93 #[fe x] (fe mx) rfl rfl (fun _ => by kernel_rfl) (fun w hb => HLi.out w (hT.on hb)) ?_
        simp only [Act.put, List.setIfInBounds_toArray, List.set_cons_succ, List.set_cons_zero]
        refine wpQB_fe gx x hx rfl ?_
        simp only [Act.put, List.setIfInBounds_toArray, List.set_cons_succ, List.set_cons_zero]
        refine wpQB_run (.bool true) rfl (fun w _ => (neq_exec rfl mx x kmx kx rfl rfl w).trans (by rw [HLS.out]; rfl)) ?_
        simp only [Act.put, List.setIfInBounds_toArray, List.set_cons_succ, List.set_cons_zero]
        refine wpQB_nil ?_
        intro w2 hb
        replace hB := below_on hB hb
        go_wp2_with fail
        go_ret
        exact ⟨by rw [HNi.out (by have := HC.out; simpa using this)]; rfl, hB⟩
      case true =>
        refine wp_region_all (by kernel_rfl) (by kernel_rfl) ?_
        refine wpQB_fe gx x hx rfl ?_
        simp only [Act.put, List.setIfInBounds_toArray, List.set_cons_succ, List.set_cons_zero]
        refine wpQB_call 93 #[fe x] (fe mx) rfl rfl (fun _ => by kernel_rfl) (fun w hb => HLi.out w (hT.on hb)) ?_
        simp only [Act.put, List.setIfInBounds_toArray, List.set_cons_succ, List.set_cons_zero]
        refine wpQB_fe gx x hx rfl ?_
        simp only [Act.put, List.setIfInBounds_toArray, List.set_cons_succ, List.set_cons_zero]
        refine wpQB_run (.bool false) rfl (fun w _ => (neq_exec rfl mx x kmx kx rfl rfl w).trans (by rw [HLS.out]; rfl)) ?_
        simp only [Act.put, List.setIfInBounds_toArray, List.set_cons_succ, List.set_cons_zero]
        refine wpQB_nil ?_
        intro w2 hb
        replace hp := hp.on hb
        replace hB := below_on hB hb
        go_wp2_with fail
        go_roundw
        case rel => exact ⟨i + 1, by omega, by go_num, Lib.hid (HIn.out (by have := HC.out; simpa using this)), hp, hB⟩
        case measure => simp [intOf]; omega
    · obtain rfl : i = 4 := by omega
      have HR := Lib.hid (HF.out HI.out)
      clear HF HN HL HK HI
      go_upto_region 7 with fail
      have hT := (hT0.out.on hB).f
      have hP := hT0.out.on hB
      have hpX := pt_X hp
      have hpY := pt_Y hp
      have hpZ := pt_Z hp
      have hpT := pt_T hp
      cases z
      case false =>
        refine wp_region_all_g (by kernel_rfl) (by kernel_rfl) ?_
        refine wpQg_run (.pointer (some ⟨W.heap.size, 0, none⟩)) rfl (fun _ _ => by kernel_rfl) (qA ?_ (by simp only [Act.put, List.setIfInBounds_toArray, List.set_cons_succ, List.set_cons_zero]; rfl))
        refine wpQg_run (.pointer (some ⟨W.heap.size, 8, none⟩)) rfl (fun _ _ => by kernel_rfl) (qA ?_ (by simp only [Act.put, List.setIfInBounds_toArray, List.set_cons_succ, List.set_cons_zero]; rfl))
        refine wpQg_midP (W.heap.size) 8 u.Z hpZ rfl rfl (qA ?_ (by simp only [Act.put, List.setIfInBounds_toArray, List.set_cons_succ, List.set_cons_zero]; rfl))
        refine wpQg_call 96 #[.int .u64 0] (fe 0) rfl rfl (fun _ => by kernel_rfl) (fun w hb => HO0.out w (hT.on hb)) (qA ?_ (by simp only [Act.put, List.setIfInBounds_toArray, List.set_cons_succ, List.set_cons_zero]; rfl))
        refine wpQg_run (.bool false) rfl (fun w _ => (neq_exec rfl u.Z 0 kZ (by decide) rfl rfl w).trans (by rw [EZ.out])) (qA ?_ (by simp only [Act.put, List.setIfInBounds_toArray, List.set_cons_succ, List.set_cons_zero]; rfl))
        refine wpQg_run (.bool false) rfl (fun _ _ => rfl) (qA ?_ (by simp only [Act.put, List.setIfInBounds_toArray, List.set_cons_succ, List.set_cons_zero]; rfl))
        refine wpQg_skip rfl (qA ?_ (by simp only [Act.put, List.setIfInBounds_toArray, List.set_cons_succ, List.set_cons_zero]; rfl))
        refine wpQg_skip rfl (qA ?_ (by simp only [Act.put, List.setIfInBounds_toArray, List.set_cons_succ, List.set_cons_zero]; rfl))
        refine wpQg_skip rfl (qA ?_ (by simp only [Act.put, List.setIfInBounds_toArray, List.set_cons_succ, List.set_cons_zero]; rfl))
        refine wpQg_skip rfl (qA ?_ (by simp only [Act.put, List.setIfInBounds_toArray, List.set_cons_succ, List.set_cons_zero]; rfl))
        refine wpQg_skip rfl (qA ?_ (by simp only [Act.put, List.setIfInBounds_toArray, List.set_cons_succ, List.set_cons_zero]; rfl))
        refine wpQg_skip rfl (qA ?_ (by simp only [Act.put, List.setIfInBounds_toArray, List.set_cons_succ, List.set_cons_zero]; rfl))
        refine wpQg_skip rfl (qA ?_ (by simp only [Act.put, List.setIfInBounds_toArray, List.set_cons_succ, List.set_cons_zero]; rfl))
        refine wpQg_skip rfl (qA ?_ (by simp only [Act.put, List.setIfInBounds_toArray, List.set_cons_succ, List.set_cons_zero]; rfl))
        refine wpQg_skip rfl (qA ?_ (by simp only [Act.put, List.setIfInBounds_toArray, List.set_cons_succ, List.set_cons_zero]; rfl))
        refine wpQg_skip rfl (qA ?_ (by simp only [Act.put, List.setIfInBounds_toArray, List.set_cons_succ, List.set_cons_zero]; rfl))
        refine wpQg_skip rfl (qA ?_ (by simp only [Act.put, List.setIfInBounds_toArray, List.set_cons_succ, List.set_cons_zero]; rfl))
        refine wpQg_skip rfl (qA ?_ (by simp only [Act.put, List.setIfInBounds_toArray, List.set_cons_succ, List.set_cons_zero]; rfl))
        refine wpQg_skip rfl (qA ?_ (by simp only [Act.put, List.setIfInBounds_toArray, List.set_cons_succ, List.set_cons_zero]; rfl))
        refine wpQg_skip rfl (qA ?_ (by simp only [Act.put, List.setIfInBounds_toArray, List.set_cons_succ, List.set_cons_zero]; rfl))
        refine wpQg_skip rfl (qA ?_ (by simp only [Act.put, List.setIfInBounds_toArray, List.set_cons_succ, List.set_cons_zero]; rfl))
        refine wpQg_run (.bool false) rfl (fun _ _ => by kernel_rfl) (qA ?_ (by simp only [Act.put, List.setIfInBounds_toArray, List.set_cons_succ, List.set_cons_zero]; rfl))
        refine wpQg_run (.bool false) rfl (fun _ _ => rfl) (qA ?_ (by simp only [Act.put, List.setIfInBounds_toArray, List.set_cons_succ, List.set_cons_zero]; rfl))
        refine wpQg_skip rfl (qA ?_ (by simp only [Act.put, List.setIfInBounds_toArray, List.set_cons_succ, List.set_cons_zero]; rfl))
        refine wpQg_skip rfl (qA ?_ (by simp only [Act.put, List.setIfInBounds_toArray, List.set_cons_succ, List.set_cons_zero]; rfl))
        refine wpQg_run (.bool false) rfl (fun _ _ => by kernel_rfl) (qA ?_ (by simp only [Act.put, List.setIfInBounds_toArray, List.set_cons_succ, List.set_cons_zero]; rfl))
        refine wpQg_run (.bool false) rfl (fun _ _ => rfl) (qA ?_ (by simp only [Act.put, List.setIfInBounds_toArray, List.set_cons_succ, List.set_cons_zero]; rfl))
        refine wpQuiet_nil ?_
        intro w3 hb
        replace hB := below_on hB hb
        go_wp2_with fail
        go_ret
        exact ⟨by rw [HR.out]; rfl, hB⟩
      case true =>
        cases m
        case false =>
          refine wp_region_all_g (by kernel_rfl) (by kernel_rfl) ?_
          refine wpQg_run (.pointer (some ⟨W.heap.size, 0, none⟩)) rfl (fun _ _ => by kernel_rfl) (qA ?_ (by simp only [Act.put, List.setIfInBounds_toArray, List.set_cons_succ, List.set_cons_zero]; rfl))
          refine wpQg_run (.pointer (some ⟨W.heap.size, 8, none⟩)) rfl (fun _ _ => by kernel_rfl) (qA ?_ (by simp only [Act.put, List.setIfInBounds_toArray, List.set_cons_succ, List.set_cons_zero]; rfl))
          refine wpQg_midP (W.heap.size) 8 u.Z hpZ rfl rfl (qA ?_ (by simp only [Act.put, List.setIfInBounds_toArray, List.set_cons_succ, List.set_cons_zero]; rfl))
          refine wpQg_call 96 #[.int .u64 0] (fe 0) rfl rfl (fun _ => by kernel_rfl) (fun w hb => HO0.out w (hT.on hb)) (qA ?_ (by simp only [Act.put, List.setIfInBounds_toArray, List.set_cons_succ, List.set_cons_zero]; rfl))
          refine wpQg_run (.bool true) rfl (fun w _ => (neq_exec rfl u.Z 0 kZ (by decide) rfl rfl w).trans (by rw [EZ.out])) (qA ?_ (by simp only [Act.put, List.setIfInBounds_toArray, List.set_cons_succ, List.set_cons_zero]; rfl))
          refine wpQg_run (.bool true) rfl (fun _ _ => rfl) (qA ?_ (by simp only [Act.put, List.setIfInBounds_toArray, List.set_cons_succ, List.set_cons_zero]; rfl))
          refine wpQg_run (.pointer (some ⟨W.heap.size, 0, none⟩)) rfl (fun _ _ => by kernel_rfl) (qA ?_ (by simp only [Act.put, List.setIfInBounds_toArray, List.set_cons_succ, List.set_cons_zero]; rfl))
          refine wpQg_run (.pointer (some ⟨W.heap.size, 0, none⟩)) rfl (fun _ _ => by kernel_rfl) (qA ?_ (by simp only [Act.put, List.setIfInBounds_toArray, List.set_cons_succ, List.set_cons_zero]; rfl))
          refine wpQg_midP (W.heap.size) 0 u.X hpX rfl rfl (qA ?_ (by simp only [Act.put, List.setIfInBounds_toArray, List.set_cons_succ, List.set_cons_zero]; rfl))
          refine wpQg_run (.pointer (some ⟨W.heap.size, 0, none⟩)) rfl (fun _ _ => by kernel_rfl) (qA ?_ (by simp only [Act.put, List.setIfInBounds_toArray, List.set_cons_succ, List.set_cons_zero]; rfl))
          refine wpQg_run (.pointer (some ⟨W.heap.size, 4, none⟩)) rfl (fun _ _ => by kernel_rfl) (qA ?_ (by simp only [Act.put, List.setIfInBounds_toArray, List.set_cons_succ, List.set_cons_zero]; rfl))
          refine wpQg_midP (W.heap.size) 4 u.Y hpY rfl rfl (qA ?_ (by simp only [Act.put, List.setIfInBounds_toArray, List.set_cons_succ, List.set_cons_zero]; rfl))
          refine wpQg_call 94 #[fe u.X, fe u.Y] (fe a) rfl rfl (fun _ => by kernel_rfl) (fun w hb => Ha.out w (hT.on hb)) (qA ?_ (by simp only [Act.put, List.setIfInBounds_toArray, List.set_cons_succ, List.set_cons_zero]; rfl))
          refine wpQg_run (.pointer (some ⟨W.heap.size, 0, none⟩)) rfl (fun _ _ => by kernel_rfl) (qA ?_ (by simp only [Act.put, List.setIfInBounds_toArray, List.set_cons_succ, List.set_cons_zero]; rfl))
          refine wpQg_run (.pointer (some ⟨W.heap.size, 8, none⟩)) rfl (fun _ _ => by kernel_rfl) (qA ?_ (by simp only [Act.put, List.setIfInBounds_toArray, List.set_cons_succ, List.set_cons_zero]; rfl))
          refine wpQg_midP (W.heap.size) 8 u.Z hpZ rfl rfl (qA ?_ (by simp only [Act.put, List.setIfInBounds_toArray, List.set_cons_succ, List.set_cons_zero]; rfl))
          refine wpQg_run (.pointer (some ⟨W.heap.size, 0, none⟩)) rfl (fun _ _ => by kernel_rfl) (qA ?_ (by simp only [Act.put, List.setIfInBounds_toArray, List.set_cons_succ, List.set_cons_zero]; rfl))
          refine wpQg_run (.pointer (some ⟨W.heap.size, 12, none⟩)) rfl (fun _ _ => by kernel_rfl) (qA ?_ (by simp only [Act.put, List.setIfInBounds_toArray, List.set_cons_succ, List.set_cons_zero]; rfl))
          refine wpQg_midP (W.heap.size) 12 u.T hpT rfl rfl (qA ?_ (by simp only [Act.put, List.setIfInBounds_toArray, List.set_cons_succ, List.set_cons_zero]; rfl))
          refine wpQg_call 94 #[fe u.Z, fe u.T] (fe b) rfl rfl (fun _ => by kernel_rfl) (fun w hb => Hb.out w (hT.on hb)) (qA ?_ (by simp only [Act.put, List.setIfInBounds_toArray, List.set_cons_succ, List.set_cons_zero]; rfl))
          refine wpQg_run (.bool false) rfl (fun w _ => (eql_exec rfl a b ka kb rfl rfl w).trans (by rw [EM.out])) (qA ?_ (by simp only [Act.put, List.setIfInBounds_toArray, List.set_cons_succ, List.set_cons_zero]; rfl))
          refine wpQg_run (.bool false) rfl (fun _ _ => by kernel_rfl) (qA ?_ (by simp only [Act.put, List.setIfInBounds_toArray, List.set_cons_succ, List.set_cons_zero]; rfl))
          refine wpQg_run (.bool false) rfl (fun _ _ => rfl) (qA ?_ (by simp only [Act.put, List.setIfInBounds_toArray, List.set_cons_succ, List.set_cons_zero]; rfl))
          refine wpQg_skip rfl (qA ?_ (by simp only [Act.put, List.setIfInBounds_toArray, List.set_cons_succ, List.set_cons_zero]; rfl))
          refine wpQg_skip rfl (qA ?_ (by simp only [Act.put, List.setIfInBounds_toArray, List.set_cons_succ, List.set_cons_zero]; rfl))
          refine wpQg_run (.bool false) rfl (fun _ _ => by kernel_rfl) (qA ?_ (by simp only [Act.put, List.setIfInBounds_toArray, List.set_cons_succ, List.set_cons_zero]; rfl))
          refine wpQg_run (.bool false) rfl (fun _ _ => rfl) (qA ?_ (by simp only [Act.put, List.setIfInBounds_toArray, List.set_cons_succ, List.set_cons_zero]; rfl))
          refine wpQuiet_nil ?_
          intro w3 hb
          replace hB := below_on hB hb
          go_wp2_with fail
          go_ret
          exact ⟨by rw [HR.out]; rfl, hB⟩
        case true =>
          refine wp_region_all_g (by kernel_rfl) (by kernel_rfl) ?_
          refine wpQg_run (.pointer (some ⟨W.heap.size, 0, none⟩)) rfl (fun _ _ => by kernel_rfl) (qA ?_ (by simp only [Act.put, List.setIfInBounds_toArray, List.set_cons_succ, List.set_cons_zero]; rfl))
          refine wpQg_run (.pointer (some ⟨W.heap.size, 8, none⟩)) rfl (fun _ _ => by kernel_rfl) (qA ?_ (by simp only [Act.put, List.setIfInBounds_toArray, List.set_cons_succ, List.set_cons_zero]; rfl))
          refine wpQg_midP (W.heap.size) 8 u.Z hpZ rfl rfl (qA ?_ (by simp only [Act.put, List.setIfInBounds_toArray, List.set_cons_succ, List.set_cons_zero]; rfl))
          refine wpQg_call 96 #[.int .u64 0] (fe 0) rfl rfl (fun _ => by kernel_rfl) (fun w hb => HO0.out w (hT.on hb)) (qA ?_ (by simp only [Act.put, List.setIfInBounds_toArray, List.set_cons_succ, List.set_cons_zero]; rfl))
          refine wpQg_run (.bool true) rfl (fun w _ => (neq_exec rfl u.Z 0 kZ (by decide) rfl rfl w).trans (by rw [EZ.out])) (qA ?_ (by simp only [Act.put, List.setIfInBounds_toArray, List.set_cons_succ, List.set_cons_zero]; rfl))
          refine wpQg_run (.bool true) rfl (fun _ _ => rfl) (qA ?_ (by simp only [Act.put, List.setIfInBounds_toArray, List.set_cons_succ, List.set_cons_zero]; rfl))
          refine wpQg_run (.pointer (some ⟨W.heap.size, 0, none⟩)) rfl (fun _ _ => by kernel_rfl) (qA ?_ (by simp only [Act.put, List.setIfInBounds_toArray, List.set_cons_succ, List.set_cons_zero]; rfl))
          refine wpQg_run (.pointer (some ⟨W.heap.size, 0, none⟩)) rfl (fun _ _ => by kernel_rfl) (qA ?_ (by simp only [Act.put, List.setIfInBounds_toArray, List.set_cons_succ, List.set_cons_zero]; rfl))
          refine wpQg_midP (W.heap.size) 0 u.X hpX rfl rfl (qA ?_ (by simp only [Act.put, List.setIfInBounds_toArray, List.set_cons_succ, List.set_cons_zero]; rfl))
          refine wpQg_run (.pointer (some ⟨W.heap.size, 0, none⟩)) rfl (fun _ _ => by kernel_rfl) (qA ?_ (by simp only [Act.put, List.setIfInBounds_toArray, List.set_cons_succ, List.set_cons_zero]; rfl))
          refine wpQg_run (.pointer (some ⟨W.heap.size, 4, none⟩)) rfl (fun _ _ => by kernel_rfl) (qA ?_ (by simp only [Act.put, List.setIfInBounds_toArray, List.set_cons_succ, List.set_cons_zero]; rfl))
          refine wpQg_midP (W.heap.size) 4 u.Y hpY rfl rfl (qA ?_ (by simp only [Act.put, List.setIfInBounds_toArray, List.set_cons_succ, List.set_cons_zero]; rfl))
          refine wpQg_call 94 #[fe u.X, fe u.Y] (fe a) rfl rfl (fun _ => by kernel_rfl) (fun w hb => Ha.out w (hT.on hb)) (qA ?_ (by simp only [Act.put, List.setIfInBounds_toArray, List.set_cons_succ, List.set_cons_zero]; rfl))
          refine wpQg_run (.pointer (some ⟨W.heap.size, 0, none⟩)) rfl (fun _ _ => by kernel_rfl) (qA ?_ (by simp only [Act.put, List.setIfInBounds_toArray, List.set_cons_succ, List.set_cons_zero]; rfl))
          refine wpQg_run (.pointer (some ⟨W.heap.size, 8, none⟩)) rfl (fun _ _ => by kernel_rfl) (qA ?_ (by simp only [Act.put, List.setIfInBounds_toArray, List.set_cons_succ, List.set_cons_zero]; rfl))
          refine wpQg_midP (W.heap.size) 8 u.Z hpZ rfl rfl (qA ?_ (by simp only [Act.put, List.setIfInBounds_toArray, List.set_cons_succ, List.set_cons_zero]; rfl))
          refine wpQg_run (.pointer (some ⟨W.heap.size, 0, none⟩)) rfl (fun _ _ => by kernel_rfl) (qA ?_ (by simp only [Act.put, List.setIfInBounds_toArray, List.set_cons_succ, List.set_cons_zero]; rfl))
          refine wpQg_run (.pointer (some ⟨W.heap.size, 12, none⟩)) rfl (fun _ _ => by kernel_rfl) (qA ?_ (by simp only [Act.put, List.setIfInBounds_toArray, List.set_cons_succ, List.set_cons_zero]; rfl))
          refine wpQg_midP (W.heap.size) 12 u.T hpT rfl rfl (qA ?_ (by simp only [Act.put, List.setIfInBounds_toArray, List.set_cons_succ, List.set_cons_zero]; rfl))
          refine wpQg_call 94 #[fe u.Z, fe u.T] (fe b) rfl rfl (fun _ => by kernel_rfl) (fun w hb => Hb.out w (hT.on hb)) (qA ?_ (by simp only [Act.put, List.setIfInBounds_toArray, List.set_cons_succ, List.set_cons_zero]; rfl))
          refine wpQg_run (.bool true) rfl (fun w _ => (eql_exec rfl a b ka kb rfl rfl w).trans (by rw [EM.out])) (qA ?_ (by simp only [Act.put, List.setIfInBounds_toArray, List.set_cons_succ, List.set_cons_zero]; rfl))
          refine wpQg_run (.bool true) rfl (fun _ _ => by kernel_rfl) (qA ?_ (by simp only [Act.put, List.setIfInBounds_toArray, List.set_cons_succ, List.set_cons_zero]; rfl))
          refine wpQg_run (.bool true) rfl (fun _ _ => rfl) (qA ?_ (by simp only [Act.put, List.setIfInBounds_toArray, List.set_cons_succ, List.set_cons_zero]; rfl))
          refine wpQg_wk (W.heap.size) u hp rfl rfl (qA ?_ (by simp only [Act.put, List.setIfInBounds_toArray, List.set_cons_succ, List.set_cons_zero]; rfl))
          refine wpQg_call 142 #[pt u] (.bool oc) rfl rfl (fun _ => by kernel_rfl) (fun w hb => HO.out w (hP.on hb)) (qA ?_ (by simp only [Act.put, List.setIfInBounds_toArray, List.set_cons_succ, List.set_cons_zero]; rfl))
          refine wpQg_run (.bool oc) rfl (fun _ _ => by kernel_rfl) (qA ?_ (by simp only [Act.put, List.setIfInBounds_toArray, List.set_cons_succ, List.set_cons_zero]; rfl))
          refine wpQg_run (.bool oc) rfl (fun _ _ => rfl) (qA ?_ (by simp only [Act.put, List.setIfInBounds_toArray, List.set_cons_succ, List.set_cons_zero]; rfl))
          refine wpQuiet_nil ?_
          intro w3 hb
          replace hB := below_on hB hb
          go_wp2_with fail
          go_ret
          exact ⟨by rw [HR.out]; rfl, hB⟩
end Go.Proofs.YtmekmlgpkbfjpaaGreatDoor.C

/- The contract of contrary; a store into the middle of a block. -/
namespace Go.Proofs.YtmekmlgpkbfjpaaGreatDoor.C
open Go.RowKit Go.Sort Go.Proofs.YtmekmlgpkbfjpaaGreatDoor.F
set_option maxRecDepth 100000

/-- values go into a row, from a place on -/
def putAll (cs : Array Value) (o : Nat) : List Value → Array Value
  | [] => cs
  | v :: r => putAll (cs.setIfInBounds o v) (o + 1) r
theorem Lies.putAll {g : Nat} {t : TypeId} : ∀ (vs : List Value) (o : Nat) {w : World} {cs : Array Value}, Lies w g t cs → Lies (w.setCells g o vs) g t (Go.Proofs.YtmekmlgpkbfjpaaGreatDoor.C.putAll cs o vs)
  | [], _, _, _, h => h
  | v :: r, o, _, _, h => Lies.putAll r (o + 1) (h.put o v)
theorem Lies.cellsFar {g g' : Nat} {t : TypeId} (hne : g ≠ g') : ∀ (vs : List Value) (o : Nat) {w : World} {cs : Array Value}, Lies w g t cs → Lies (w.setCells g' o vs) g t cs
  | [], _, _, _, h => h
  | v :: r, o, _, _, h => Lies.cellsFar hne r (o + 1) (h.far (p := ⟨g', o, none⟩) hne v)
theorem below_cells {B g : Nat} {a : World} (hg : B ≤ g) : ∀ (vs : List Value) (o : Nat) {w : World}, Below B a w → Below B a (w.setCells g o vs)
  | [], _, _, h => h
  | v :: r, o, _, h => below_cells hg r (o + 1) (below_put h hg o v)
theorem put_X (u : N4) (x : Nat) : putAll (ptA u) 0 (feA x).toList = ptA ⟨x, u.Y, u.Z, u.T⟩ := by simp [putAll, ptA, feA]
theorem put_T (u : N4) (x : Nat) : putAll (ptA u) 12 (feA x).toList = ptA ⟨u.X, u.Y, u.Z, x⟩ := by simp [putAll, ptA, feA]
theorem Lies.putX {w : World} {g t : Nat} {u : N4} (h : Lies w g t (ptA u)) (x : Nat) : Lies (w.setCells g 0 (feA x).toList) g t (ptA ⟨x, u.Y, u.Z, u.T⟩) := by rw [← put_X]; exact Lies.putAll _ _ h
theorem Lies.putT {w : World} {g t : Nat} {u : N4} (h : Lies w g t (ptA u)) (x : Nat) : Lies (w.setCells g 12 (feA x).toList) g t (ptA ⟨u.X, u.Y, u.Z, x⟩) := by rw [← put_T]; exact Lies.putAll _ _ h
theorem wpL_storeMid {P : Program} {ops : Array Oper} {rest : List Oper} {a : Act} {w : World} {Q : Exit → Act → World → Prop} {t' : TypeId} {pos : String} {after : Array Edge} {x y : Tmp} {ty : TypeId} (g o : Nat) (t : TypeId) (old cs : Array Value) (n : Nat) (hT : RowT P ty n) (hn : cs.size = n) (h1 : Ones cs) (hg : Lies w g t old) (hl : o + n ≤ old.size)
    (hx : a.eval (.tmp x) = .pointer (some ⟨g, o, none⟩)) (hy : a.eval (.tmp y) = .agg cs) (h : wpList P ops Q rest (a.put none undef) (w.setCells g o cs.toList)) : wpList P ops Q (⟨none, .store ty (.tmp x) (.tmp y), t', pos, after, none⟩ :: rest) a w :=
  wpList_store_mid (op := ⟨none, .store ty (.tmp x) (.tmp y), t', pos, after, none⟩) rfl ty (.tmp x) (.tmp y) rfl g o cs hx hy (fun j hj => ⟨by rw [hg.cell, Array.getElem?_eq_getElem (by omega)]; rfl, hg.frozen _⟩) (by rw [hT.2, hn]) h1 h
attribute [local irreducible] feA ptA
set_option maxHeartbeats 1600000 in
theorem wcontrary_any (F : FieldOk) (u : N4) (hu : u.Lt) (W : World) (hT : PtTab W) :
    Calls Tryz.prog 105 #[pt u] W fun e w' => e = .returned (pt (negN u)) ∧ Below W.heap.size W w' := by
  have hT0 := Lib.hid hT
  have HX := Lib.hid (fun w hT => wminus_any F u.X w hu.X hT)
  have HT := Lib.hid (fun w hT => wminus_any F u.T w hu.T hT)
  have hres : negN u = ⟨minusN u.X, u.Y, u.Z, minusN u.T⟩ := rfl
  rw [hres]
  generalize minusN u.X = mx at *
  generalize minusN u.T = mt at *
  obtain ⟨v, hvv⟩ : ∃ v : N4, v = ⟨mx, u.Y, u.Z, mt⟩ := ⟨_, rfl⟩
  rw [← hvv]
  have HV := Lib.hid hvv
  clear hvv hres hT hu
  go_enter Tryz.func105, Tryz.ntmps105
  have hp := (Lies.new W 151 (ptA u)).alloc (.cells z16P 151)
  have hr : Lies ((W.alloc (.cells (ptA u) 151)).alloc (.cells z16P 151)) (W.heap.size + 1) 151 z16P := heap_alloc2_new W _ _
  have hB := ((Below.refl W.heap.size W).alloc (Nat.le_refl _) (.cells (ptA u) 151)).alloc (by simp) (.cells z16P 151)
  go_upto_region 1 with fail
  generalize World.alloc (World.alloc W _) _ = w0 at *
  have hT := hT0.out.on hB
  have hpX := pt_X hp
  have hpY := pt_Y hp
  have hpZ := pt_Z hp
  have hpT := pt_T hp
  refine wp_region_plain 10 (by kernel_rfl) (by kernel_rfl) ?_
  simp only [List.take_succ_cons, List.take_zero, List.drop_succ_cons, List.drop_zero]
  refine wpQB_run (.pointer (some ⟨W.heap.size, 0, none⟩)) rfl (fun _ _ => by kernel_rfl) ?_
  simp only [Act.put, List.setIfInBounds_toArray, List.set_cons_succ, List.set_cons_zero]
  refine wpQB_run (.pointer (some ⟨W.heap.size, 0, none⟩)) rfl (fun _ _ => by kernel_rfl) ?_
  simp only [Act.put, List.setIfInBounds_toArray, List.set_cons_succ, List.set_cons_zero]
  refine wpQB_mid (W.heap.size) 0 u.X hpX rfl ?_
  simp only [Act.put, List.setIfInBounds_toArray, List.set_cons_succ, List.set_cons_zero]
  refine wpQB_call 100 #[fe u.X] (fe mx) rfl rfl (fun _ => by kernel_rfl) (fun w hb => HX.out w (hT.on hb)) ?_
  simp only [Act.put, List.setIfInBounds_toArray, List.set_cons_succ, List.set_cons_zero]
  refine wpQB_run (.pointer (some ⟨W.heap.size, 0, none⟩)) rfl (fun _ _ => by kernel_rfl) ?_
  simp only [Act.put, List.setIfInBounds_toArray, List.set_cons_succ, List.set_cons_zero]
  refine wpQB_run (.pointer (some ⟨W.heap.size, 12, none⟩)) rfl (fun _ _ => by kernel_rfl) ?_
  simp only [Act.put, List.setIfInBounds_toArray, List.set_cons_succ, List.set_cons_zero]
  refine wpQB_mid (W.heap.size) 12 u.T hpT rfl ?_
  simp only [Act.put, List.setIfInBounds_toArray, List.set_cons_succ, List.set_cons_zero]
  refine wpQB_call 100 #[fe u.T] (fe mt) rfl rfl (fun _ => by kernel_rfl) (fun w hb => HT.out w (hT.on hb)) ?_
  simp only [Act.put, List.setIfInBounds_toArray, List.set_cons_succ, List.set_cons_zero]
  refine wpQB_run (.pointer (some ⟨W.heap.size, 0, none⟩)) rfl (fun _ _ => by kernel_rfl) ?_
  simp only [Act.put, List.setIfInBounds_toArray, List.set_cons_succ, List.set_cons_zero]
  refine wpQB_run (.pointer (some ⟨W.heap.size, 0, none⟩)) rfl (fun _ _ => by kernel_rfl) ?_
  simp only [Act.put, List.setIfInBounds_toArray, List.set_cons_succ, List.set_cons_zero]
  refine wpQB_nil ?_
  intro wy hb
  clear hpX hpY hpZ hpT
  clear hT HX HT
  replace hp := hp.on hb
  replace hr := hr.on hb
  replace hB := below_on hB hb
  clear hb
  go_upto_region 2 with (first
    | ((with_reducible refine wpL_storeMid (W.heap.size) 0 151 (ptA u) (feA mx) 4 rowFe (feA_size _) (feA_one _) hp (by rw [ptA_size]; decide) ?_ ?_ ?_); rfl; rfl)
    | ((with_reducible refine wpL_storeMid (W.heap.size) 12 151 _ (feA mt) 4 rowFe (feA_size _) (feA_one _) (Lies.putX hp mx) (by rw [ptA_size]; decide) ?_ ?_ ?_); rfl; rfl))
  replace hp := Lies.putT (Lies.putX hp mx) mt
  replace hr := Lies.cellsFar (show W.heap.size + 1 ≠ W.heap.size by omega) (feA mt).toList 12 (Lies.cellsFar (show W.heap.size + 1 ≠ W.heap.size by omega) (feA mx).toList 0 hr)
  replace hB := below_cells (Nat.le_refl _) (feA mt).toList 12 (below_cells (Nat.le_refl _) (feA mx).toList 0 hB)
  generalize World.setCells (World.setCells _ _ _ _) _ _ _ = w2 at *
  rw [← HV.out] at hp
  go_wp2_with (first | ((with_reducible refine wpL_load (W.heap.size) 151 (ptA v) 16 rowWk (ptA_size _) hp ?_ ?_); rfl) | ((with_reducible refine wpL_store (W.heap.size + 1) 151 _ (ptA v) 16 rowWk rfl (ptA_size _) (ptA_one _) hr ?_ ?_ ?_); rfl; rfl))
  exact bodyPost_ret (results_row Tryz.results105 rowWk (ptA_size _) (hr.row _) rfl) rfl ⟨rfl, below_rowSet hB (by omega) _⟩

end Go.Proofs.YtmekmlgpkbfjpaaGreatDoor.C

/- The contract of plus. -/
namespace Go.Proofs.YtmekmlgpkbfjpaaGreatDoor.C
open Go.RowKit Go.Sort Go.Proofs.YtmekmlgpkbfjpaaGreatDoor.F
set_option maxRecDepth 100000
attribute [local irreducible] feA ptA
set_option maxHeartbeats 3200000 in
theorem wplus_any (F : FieldOk) (u v : N4) (hu : u.Lt) (hv : v.Lt) (W : World) (hT : PtTab W) :
    Calls Tryz.prog 106 #[pt u, pt v] W fun e w' => e = .returned (pt (plusN u v)) ∧ Below W.heap.size W w' := by
  have hT0 := Lib.hid hT
  have hres : plusN u v = ⟨pxN u v * puyN u v % p25, pyN u v * puxN u v % p25, puxN u v * puyN u v % p25, pxN u v * pyN u v % p25⟩ := rfl
  unfold pxN pyN puxN puyN poN prN at hres
  have HD : Hid (∀ w, PtTab w → w.rangeAt 1 0 (feA dN).toList) := Lib.hid (fun w h => h.2.1.root)
  have kD : dN < K256 := by decide
  generalize dN = D at *
  have Hxa := Lib.hid (fun w hT => F.mul u.X v.Y w hu.X hv.Y hT)
  have kxa := mod_K (u.X * v.Y)
  generalize u.X * v.Y % p25 = xa at *
  have Hxb := Lib.hid (fun w hT => F.mul v.X u.Y w hv.X hu.Y hT)
  have kxb := mod_K (v.X * u.Y)
  generalize v.X * u.Y % p25 = xb at *
  have Hex := Lib.hid (fun w hT => F.add xa xb w kxa kxb hT)
  have kex := mod_K (xa + xb)
  generalize (xa + xb) % p25 = ex at *
  have Hya := Lib.hid (fun w hT => F.mul u.Y v.Y w hu.Y hv.Y hT)
  have kya := mod_K (u.Y * v.Y)
  generalize u.Y * v.Y % p25 = ya at *
  have Hyb := Lib.hid (fun w hT => F.mul u.X v.X w hu.X hv.X hT)
  have kyb := mod_K (u.X * v.X)
  generalize u.X * v.X % p25 = yb at *
  have Hey := Lib.hid (fun w hT => F.add ya yb w kya kyb hT)
  have key := mod_K (ya + yb)
  generalize (ya + yb) % p25 = ey at *
  have Hon := Lib.hid (fun w hT => F.mul u.Z v.Z w hu.Z hv.Z hT)
  have kon := mod_K (u.Z * v.Z)
  generalize u.Z * v.Z % p25 = on at *
  have Htt := Lib.hid (fun w hT => F.mul u.T v.T w hu.T hv.T hT)
  have ktt := mod_K (u.T * v.T)
  generalize u.T * v.T % p25 = tt at *
  have Hre := Lib.hid (fun w hT => F.mul D tt w kD ktt hT)
  have kre := mod_K (D * tt)
  generalize D * tt % p25 = re at *
  have Hux := Lib.hid (fun w hT => F.add on re w kon kre hT)
  have kux := mod_K (on + re)
  generalize (on + re) % p25 = ux at *
  have Huy := Lib.hid (fun w hT => F.sub on re w kon kre hT)
  have kuy := mod_K (on + (p25 - re % p25))
  generalize (on + (p25 - re % p25)) % p25 = uy at *
  have HrX := Lib.hid (fun w hT => F.mul ex uy w kex kuy hT)
  have krX := mod_K (ex * uy)
  generalize ex * uy % p25 = rX at *
  have HrY := Lib.hid (fun w hT => F.mul ey ux w key kux hT)
  have krY := mod_K (ey * ux)
  generalize ey * ux % p25 = rY at *
  have HrZ := Lib.hid (fun w hT => F.mul ux uy w kux kuy hT)
  have krZ := mod_K (ux * uy)
  generalize ux * uy % p25 = rZ at *
  have HrT := Lib.hid (fun w hT => F.mul ex ey w kex key hT)
  have krT := mod_K (ex * ey)
  generalize ex * ey % p25 = rT at *
  rw [hres]
  generalize hvv : (⟨rX, rY, rZ, rT⟩ : N4) = r at *
  have hb1 : pt r = .agg (feA rX ++ feA rY ++ feA rZ ++ feA rT) := by rw [← hvv]; exact ptIs _
  clear hres hvv hT hu hv kD kxa kxb kex kya kyb key kon ktt kre kux kuy krX krY krZ krT
  go_enter Tryz.func106, Tryz.ntmps106
  have hp := ((Lies.new W 151 (ptA u)).alloc (.cells (ptA v) 151)).alloc (.cells z16P 151)
  have hq : Lies ((W.alloc (.cells (ptA u) 151)).alloc (.cells (ptA v) 151)) (W.heap.size + 1) 151 (ptA v) := heap_alloc2_new W _ _
  replace hq := hq.alloc (.cells z16P 151)
  have hr := lies3 W (.cells (ptA u) 151) (.cells (ptA v) 151) 151 z16P
  have hB := (((Below.refl W.heap.size W).alloc (Nat.le_refl _) (.cells (ptA u) 151)).alloc (by simp) (.cells (ptA v) 151)).alloc (by simp; omega) (.cells z16P 151)
  go_upto_region 1 with fail
  generalize World.alloc (World.alloc (World.alloc W _) _) _ = w0 at *
  have hT := (hT0.out.on hB).f
  have hpX := pt_X hp
  have hpY := pt_Y hp
  have hpZ := pt_Z hp
  have hpT := pt_T hp
  have hqX := pt_X hq
  have hqY := pt_Y hq
  have hqZ := pt_Z hq
  have hqT := pt_T hq
  refine wp_region_made 15 5 _ 72 fe0A rfl rfl (by kernel_rfl) (by kernel_rfl) (alloc_fe rfl) ?_
  simp only [List.take_succ_cons, List.take_zero, List.drop_succ_cons, List.drop_zero]
  refine wpQB_run (.pointer (some ⟨W.heap.size, 0, none⟩)) rfl (fun _ _ => by kernel_rfl) ?_
  simp only [Act.put, List.setIfInBounds_toArray, List.set_cons_succ, List.set_cons_zero]
  refine wpQB_run (.pointer (some ⟨W.heap.size, 0, none⟩)) rfl (fun _ _ => by kernel_rfl) ?_
  simp only [Act.put, List.setIfInBounds_toArray, List.set_cons_succ, List.set_cons_zero]
  refine wpQB_mid (W.heap.size) 0 u.X hpX rfl ?_
  simp only [Act.put, List.setIfInBounds_toArray, List.set_cons_succ, List.set_cons_zero]
  refine wpQB_run (.pointer (some ⟨W.heap.size + 1, 0, none⟩)) rfl (fun _ _ => by kernel_rfl) ?_
  simp only [Act.put, List.setIfInBounds_toArray, List.set_cons_succ, List.set_cons_zero]
  refine wpQB_run (.pointer (some ⟨W.heap.size + 1, 4, none⟩)) rfl (fun _ _ => by kernel_rfl) ?_
  simp only [Act.put, List.setIfInBounds_toArray, List.set_cons_succ, List.set_cons_zero]
  refine wpQB_mid (W.heap.size + 1) 4 v.Y hqY rfl ?_
  simp only [Act.put, List.setIfInBounds_toArray, List.set_cons_succ, List.set_cons_zero]
  refine wpQB_call 94 #[fe u.X, fe v.Y] (fe xa) rfl rfl (fun _ => by kernel_rfl) (fun w hb => Hxa.out w (hT.on hb)) ?_
  simp only [Act.put, List.setIfInBounds_toArray, List.set_cons_succ, List.set_cons_zero]
  refine wpQB_run (.pointer (some ⟨W.heap.size + 1, 0, none⟩)) rfl (fun _ _ => by kernel_rfl) ?_
  simp only [Act.put, List.setIfInBounds_toArray, List.set_cons_succ, List.set_cons_zero]
  refine wpQB_run (.pointer (some ⟨W.heap.size + 1, 0, none⟩)) rfl (fun _ _ => by kernel_rfl) ?_
  simp only [Act.put, List.setIfInBounds_toArray, List.set_cons_succ, List.set_cons_zero]
  refine wpQB_mid (W.heap.size + 1) 0 v.X hqX rfl ?_
  simp only [Act.put, List.setIfInBounds_toArray, List.set_cons_succ, List.set_cons_zero]
  refine wpQB_run (.pointer (some ⟨W.heap.size, 0, none⟩)) rfl (fun _ _ => by kernel_rfl) ?_
  simp only [Act.put, List.setIfInBounds_toArray, List.set_cons_succ, List.set_cons_zero]
  refine wpQB_run (.pointer (some ⟨W.heap.size, 4, none⟩)) rfl (fun _ _ => by kernel_rfl) ?_
  simp only [Act.put, List.setIfInBounds_toArray, List.set_cons_succ, List.set_cons_zero]
  refine wpQB_mid (W.heap.size) 4 u.Y hpY rfl ?_
  simp only [Act.put, List.setIfInBounds_toArray, List.set_cons_succ, List.set_cons_zero]
  refine wpQB_call 94 #[fe v.X, fe u.Y] (fe xb) rfl rfl (fun _ => by kernel_rfl) (fun w hb => Hxb.out w (hT.on hb)) ?_
  simp only [Act.put, List.setIfInBounds_toArray, List.set_cons_succ, List.set_cons_zero]
  refine wpQB_call 97 #[fe xa, fe xb] (fe ex) rfl rfl (fun _ => by kernel_rfl) (fun w hb => Hex.out w (hT.on hb)) ?_
  simp only [Act.put, List.setIfInBounds_toArray, List.set_cons_succ, List.set_cons_zero]
  refine wpQB_nil ?_
  intro gex w1 hb hk hy
  simp only [List.setIfInBounds_toArray, List.set_cons_succ, List.set_cons_zero]
  replace hy : Lies w1 gex 72 fe0A := hy
  have hl := hp.lt
  replace hp := (hp.on hb).rowFar (show W.heap.size ≠ gex by omega) (feA ex)
  clear hl
  have hl := hq.lt
  replace hq := (hq.on hb).rowFar (show W.heap.size + 1 ≠ gex by omega) (feA ex)
  clear hl
  have hl := hr.lt
  replace hr := (hr.on hb).rowFar (show W.heap.size + 2 ≠ gex by omega) (feA ex)
  clear hl
  have hsz := hB.size
  replace hB := below_rowSet (below_on hB hb) (show W.heap.size ≤ gex by omega) (feA ex)
  clear hb hsz
  have hex := hy.row (feA ex)
  clear hk
  go_upto_region 2 with ((with_reducible refine wpL_store gex 72 _ (feA ex) 4 rowFe rfl (feA_size _) (feA_one _) hy ?_ ?_ ?_); rfl; rfl)
  clear hy
  generalize World.setRow _ _ _ = w1b at *
  clear hpX hpY hpZ hpT hqX hqY hqZ hqT
  clear hT Hxa Hxb Hex
  have hT := (hT0.out.on hB).f
  have hpX := pt_X hp
  have hpY := pt_Y hp
  have hpZ := pt_Z hp
  have hpT := pt_T hp
  have hqX := pt_X hq
  have hqY := pt_Y hq
  have hqZ := pt_Z hq
  have hqT := pt_T hq
  refine wp_region_made 15 6 _ 72 fe0A rfl rfl (by kernel_rfl) (by kernel_rfl) (alloc_fe rfl) ?_
  simp only [List.take_succ_cons, List.take_zero, List.drop_succ_cons, List.drop_zero]
  refine wpQB_run (.pointer (some ⟨W.heap.size, 0, none⟩)) rfl (fun _ _ => by kernel_rfl) ?_
  simp only [Act.put, List.setIfInBounds_toArray, List.set_cons_succ, List.set_cons_zero]
  refine wpQB_run (.pointer (some ⟨W.heap.size, 4, none⟩)) rfl (fun _ _ => by kernel_rfl) ?_
  simp only [Act.put, List.setIfInBounds_toArray, List.set_cons_succ, List.set_cons_zero]
  refine wpQB_mid (W.heap.size) 4 u.Y hpY rfl ?_
  simp only [Act.put, List.setIfInBounds_toArray, List.set_cons_succ, List.set_cons_zero]
  refine wpQB_run (.pointer (some ⟨W.heap.size + 1, 0, none⟩)) rfl (fun _ _ => by kernel_rfl) ?_
  simp only [Act.put, List.setIfInBounds_toArray, List.set_cons_succ, List.set_cons_zero]
  refine wpQB_run (.pointer (some ⟨W.heap.size + 1, 4, none⟩)) rfl (fun _ _ => by kernel_rfl) ?_
  simp only [Act.put, List.setIfInBounds_toArray, List.set_cons_succ, List.set_cons_zero]
  refine wpQB_mid (W.heap.size + 1) 4 v.Y hqY rfl ?_
  simp only [Act.put, List.setIfInBounds_toArray, List.set_cons_succ, List.set_cons_zero]
  refine wpQB_call 94 #[fe u.Y, fe v.Y] (fe ya) rfl rfl (fun _ => by kernel_rfl) (fun w hb => Hya.out w (hT.on hb)) ?_
  simp only [Act.put, List.setIfInBounds_toArray, List.set_cons_succ, List.set_cons_zero]
  refine wpQB_run (.pointer (some ⟨W.heap.size, 0, none⟩)) rfl (fun _ _ => by kernel_rfl) ?_
  simp only [Act.put, List.setIfInBounds_toArray, List.set_cons_succ, List.set_cons_zero]
  refine wpQB_run (.pointer (some ⟨W.heap.size, 0, none⟩)) rfl (fun _ _ => by kernel_rfl) ?_
  simp only [Act.put, List.setIfInBounds_toArray, List.set_cons_succ, List.set_cons_zero]
  refine wpQB_mid (W.heap.size) 0 u.X hpX rfl ?_
  simp only [Act.put, List.setIfInBounds_toArray, List.set_cons_succ, List.set_cons_zero]
  refine wpQB_run (.pointer (some ⟨W.heap.size + 1, 0, none⟩)) rfl (fun _ _ => by kernel_rfl) ?_
  simp only [Act.put, List.setIfInBounds_toArray, List.set_cons_succ, List.set_cons_zero]
  refine wpQB_run (.pointer (some ⟨W.heap.size + 1, 0, none⟩)) rfl (fun _ _ => by kernel_rfl) ?_
  simp only [Act.put, List.setIfInBounds_toArray, List.set_cons_succ, List.set_cons_zero]
  refine wpQB_mid (W.heap.size + 1) 0 v.X hqX rfl ?_
  simp only [Act.put, List.setIfInBounds_toArray, List.set_cons_succ, List.set_cons_zero]
  refine wpQB_call 94 #[fe u.X, fe v.X] (fe yb) rfl rfl (fun _ => by kernel_rfl) (fun w hb => Hyb.out w (hT.on hb)) ?_
  simp only [Act.put, List.setIfInBounds_toArray, List.set_cons_succ, List.set_cons_zero]
  refine wpQB_call 97 #[fe ya, fe yb] (fe ey) rfl rfl (fun _ => by kernel_rfl) (fun w hb => Hey.out w (hT.on hb)) ?_
  simp only [Act.put, List.setIfInBounds_toArray, List.set_cons_succ, List.set_cons_zero]
  refine wpQB_nil ?_
  intro gey w2 hb hk hy
  simp only [List.setIfInBounds_toArray, List.set_cons_succ, List.set_cons_zero]
  replace hy : Lies w2 gey 72 fe0A := hy
  have hl := hp.lt
  replace hp := (hp.on hb).rowFar (show W.heap.size ≠ gey by omega) (feA ey)
  clear hl
  have hl := hq.lt
  replace hq := (hq.on hb).rowFar (show W.heap.size + 1 ≠ gey by omega) (feA ey)
  clear hl
  have hl := hr.lt
  replace hr := (hr.on hb).rowFar (show W.heap.size + 2 ≠ gey by omega) (feA ey)
  clear hl
  have hl := hex.lt
  replace hex := (hex.on hb).rowFar (show gex ≠ gey by omega) (feA ey)
  clear hl
  have hsz := hB.size
  replace hB := below_rowSet (below_on hB hb) (show W.heap.size ≤ gey by omega) (feA ey)
  clear hb hsz
  have hey := hy.row (feA ey)
  clear hk
  go_upto_region 3 with ((with_reducible refine wpL_store gey 72 _ (feA ey) 4 rowFe rfl (feA_size _) (feA_one _) hy ?_ ?_ ?_); rfl; rfl)
  clear hy
  generalize World.setRow _ _ _ = w2b at *
  clear hpX hpY hpZ hpT hqX hqY hqZ hqT
  clear hT Hya Hyb Hey
  have hT := (hT0.out.on hB).f
  have hpZ := pt_Z hp
  have hqZ := pt_Z hq
  go_upto_region 4 with (first
    | ((with_reducible refine wpL_loadMid (W.heap.size) 8 (feA u.Z).toList 4 rowFe (by rw [Array.length_toList]; exact feA_size _) hpZ ?_ ?_); rfl; rw [Array.toArray_toList])
    | ((with_reducible refine wpL_loadMid (W.heap.size + 1) 8 (feA v.Z).toList 4 rowFe (by rw [Array.length_toList]; exact feA_size _) hqZ ?_ ?_); rfl; rw [Array.toArray_toList])
    | (go_at_call 94; (with_reducible refine (Hon.out _ hT).mono ?_); rintro e u3 ⟨rfl, hb⟩; replace hp := hp.on hb; replace hq := hq.on hb; replace hr := hr.on hb; replace hex := hex.on hb; replace hey := hey.on hb; replace hT := hT.on hb; replace hB := below_on hB hb; clear hb)
    | ((with_reducible refine wpL_store u3.heap.size 72 _ (feA on) 4 rowFe ?_ (feA_size _) (feA_one _) (Lies.new u3 _ _) ?_ ?_ ?_); rfl; rfl; rfl))
  have hon := newly_lies u3 72 fe0A (feA on)
  have hnw := newly u3 (.cells fe0A 72) (feA on)
  replace hp := hp.on hnw
  replace hq := hq.on hnw
  replace hr := hr.on hnw
  replace hex := hex.on hnw
  replace hey := hey.on hnw
  replace hB := below_on hB hnw
  clear hnw hT
  generalize World.setRow _ _ _ = w3 at *
  generalize u3.heap.size = gon at *
  clear hpZ hqZ Hon
  have hT := (hT0.out.on hB).f
  have hD := HD.out _ (hT0.out.on hB)
  have hpX := pt_X hp
  have hpY := pt_Y hp
  have hpZ := pt_Z hp
  have hpT := pt_T hp
  have hqX := pt_X hq
  have hqY := pt_Y hq
  have hqZ := pt_Z hq
  have hqT := pt_T hq
  refine wp_region_made 9 8 _ 72 fe0A rfl rfl (by kernel_rfl) (by kernel_rfl) (alloc_fe rfl) ?_
  simp only [List.take_succ_cons, List.take_zero, List.drop_succ_cons, List.drop_zero]
  refine wpQB_mid 1 0 D hD rfl ?_
  simp only [Act.put, List.setIfInBounds_toArray, List.set_cons_succ, List.set_cons_zero]
  refine wpQB_run (.pointer (some ⟨W.heap.size, 0, none⟩)) rfl (fun _ _ => by kernel_rfl) ?_
  simp only [Act.put, List.setIfInBounds_toArray, List.set_cons_succ, List.set_cons_zero]
  refine wpQB_run (.pointer (some ⟨W.heap.size, 12, none⟩)) rfl (fun _ _ => by kernel_rfl) ?_
  simp only [Act.put, List.setIfInBounds_toArray, List.set_cons_succ, List.set_cons_zero]
  refine wpQB_mid (W.heap.size) 12 u.T hpT rfl ?_
  simp only [Act.put, List.setIfInBounds_toArray, List.set_cons_succ, List.set_cons_zero]
  refine wpQB_run (.pointer (some ⟨W.heap.size + 1, 0, none⟩)) rfl (fun _ _ => by kernel_rfl) ?_
  simp only [Act.put, List.setIfInBounds_toArray, List.set_cons_succ, List.set_cons_zero]
  refine wpQB_run (.pointer (some ⟨W.heap.size + 1, 12, none⟩)) rfl (fun _ _ => by kernel_rfl) ?_
  simp only [Act.put, List.setIfInBounds_toArray, List.set_cons_succ, List.set_cons_zero]
  refine wpQB_mid (W.heap.size + 1) 12 v.T hqT rfl ?_
  simp only [Act.put, List.setIfInBounds_toArray, List.set_cons_succ, List.set_cons_zero]
  refine wpQB_call 94 #[fe u.T, fe v.T] (fe tt) rfl rfl (fun _ => by kernel_rfl) (fun w hb => Htt.out w (hT.on hb)) ?_
  simp only [Act.put, List.setIfInBounds_toArray, List.set_cons_succ, List.set_cons_zero]
  refine wpQB_call 94 #[fe D, fe tt] (fe re) rfl rfl (fun _ => by kernel_rfl) (fun w hb => Hre.out w (hT.on hb)) ?_
  simp only [Act.put, List.setIfInBounds_toArray, List.set_cons_succ, List.set_cons_zero]
  refine wpQB_nil ?_
  intro gre w4 hb hk hy
  simp only [List.setIfInBounds_toArray, List.set_cons_succ, List.set_cons_zero]
  replace hy : Lies w4 gre 72 fe0A := hy
  have hl := hp.lt
  replace hp := (hp.on hb).rowFar (show W.heap.size ≠ gre by omega) (feA re)
  clear hl
  have hl := hq.lt
  replace hq := (hq.on hb).rowFar (show W.heap.size + 1 ≠ gre by omega) (feA re)
  clear hl
  have hl := hr.lt
  replace hr := (hr.on hb).rowFar (show W.heap.size + 2 ≠ gre by omega) (feA re)
  clear hl
  have hl := hex.lt
  replace hex := (hex.on hb).rowFar (show gex ≠ gre by omega) (feA re)
  clear hl
  have hl := hey.lt
  replace hey := (hey.on hb).rowFar (show gey ≠ gre by omega) (feA re)
  clear hl
  have hl := hon.lt
  replace hon := (hon.on hb).rowFar (show gon ≠ gre by omega) (feA re)
  clear hl
  have hsz := hB.size
  replace hB := below_rowSet (below_on hB hb) (show W.heap.size ≤ gre by omega) (feA re)
  clear hb hsz
  have hre := hy.row (feA re)
  clear hk
  go_upto_region 5 with ((with_reducible refine wpL_store gre 72 _ (feA re) 4 rowFe rfl (feA_size _) (feA_one _) hy ?_ ?_ ?_); rfl; rfl)
  clear hy
  generalize World.setRow _ _ _ = w4b at *
  clear hpX hpY hpZ hpT hqX hqY hqZ hqT
  clear hT hD Htt Hre
  clear hp hq
  have hT := (hT0.out.on hB).f
  refine wp_region_rel2 8 77 [sayFix (fe on), sayFix (fe re), sayFix (fe ux), sayFix (fe on), sayFix (fe re), sayFix (fe uy), sayVar w4b.heap.size 72 fe0A, sayVar w4b.heap.size 72 fe0A] rfl rfl (by kernel_rfl) (by kernel_rfl) (fun r hr => by
      simp only [List.mem_cons, List.not_mem_nil, or_false] at hr
      rcases hr with rfl | rfl | rfl | rfl | rfl | rfl | rfl | rfl <;> first | exact sayFix_mono _ | exact sayVar_mono _ _ _)
    6 7 _ _ 9 10 _ _ (by decide) (by decide) (by decide) rfl rfl rfl rfl (fun a w => ⟨_, alloc_fe rfl a w⟩) (fun a w => ⟨_, alloc_fe rfl a w⟩) rfl rfl sayVar_lt sayVar_lt ?_
  simp only [List.take_succ_cons, List.take_zero, List.drop_succ_cons, List.drop_zero, List.zip_cons_cons, List.zip_nil_right]
  refine wpRel_step (fun w hb hG => does_run (.agg (feA on)) (run_load_row rowFe (feA_size _) (gon) hon hb rfl) rfl) (fun v0 => ?_)
  simp only [Act.put, List.setIfInBounds_toArray, List.set_cons_succ, List.set_cons_zero, Option.getD_some]
  refine wpRel_step (fun w hb hG => does_run (.agg (feA re)) (run_load_row rowFe (feA_size _) (gre) hre hb rfl) rfl) (fun v1 => ?_)
  simp only [Act.put, List.setIfInBounds_toArray, List.set_cons_succ, List.set_cons_zero, Option.getD_some]
  refine wpRel_step (fun w hb hG => ?_) (fun v2 => ?_)
  · obtain rfl := laid_at 1 hG rfl (by decide)
    obtain rfl := laid_at 0 hG rfl (by decide)
    refine does_call 97 #[fe on, fe re] (by kernel_rfl) ((Hux.out w (hT.on hb)).mono ?_)
    rintro e w2 ⟨rfl, hb2⟩
    exact ⟨_, rfl, hb2, rfl⟩
  simp only [Act.put, List.setIfInBounds_toArray, List.set_cons_succ, List.set_cons_zero, Option.getD_some]
  refine wpRel_step (fun w hb hG => does_run (.agg (feA on)) (run_load_row rowFe (feA_size _) (gon) hon hb rfl) rfl) (fun v3 => ?_)
  simp only [Act.put, List.setIfInBounds_toArray, List.set_cons_succ, List.set_cons_zero, Option.getD_some]
  refine wpRel_step (fun w hb hG => does_run (.agg (feA re)) (run_load_row rowFe (feA_size _) (gre) hre hb rfl) rfl) (fun v4 => ?_)
  simp only [Act.put, List.setIfInBounds_toArray, List.set_cons_succ, List.set_cons_zero, Option.getD_some]
  refine wpRel_step (fun w hb hG => ?_) (fun v5 => ?_)
  · obtain rfl := laid_at 1 hG rfl (by decide)
    obtain rfl := laid_at 0 hG rfl (by decide)
    refine does_call 95 #[fe on, fe re] (by kernel_rfl) ((Huy.out w (hT.on hb)).mono ?_)
    rintro e w2 ⟨rfl, hb2⟩
    exact ⟨_, rfl, hb2, rfl⟩
  simp only [Act.put, List.setIfInBounds_toArray, List.set_cons_succ, List.set_cons_zero, Option.getD_some]
  refine wpRel_step (fun w hb hG => does_new hb (alloc_fe rfl _ _)) (fun v6 => ?_)
  simp only [Act.put, List.setIfInBounds_toArray, List.set_cons_succ, List.set_cons_zero, Option.getD_some]
  refine wpRel_step (fun w hb hG => does_new hb (alloc_fe rfl _ _)) (fun v7 => ?_)
  simp only [Act.put, List.setIfInBounds_toArray, List.set_cons_succ, List.set_cons_zero, Option.getD_some]
  refine wpRel_nil (fun w hb hG hap => ?_)
  obtain rfl := hG _ (List.mem_of_getElem? (i := 2) rfl)
  obtain rfl := hG _ (List.mem_of_getElem? (i := 5) rfl)
  obtain ⟨gux, rfl, hlux, hux⟩ := hG _ (List.mem_of_getElem? (i := 1) rfl)
  obtain ⟨guy, rfl, hluy, huy⟩ := hG _ (List.mem_of_getElem? (i := 0) rfl)
  have hne : gux ≠ guy := fun e => hap (by subst e; rfl)
  clear hG hap
  have hwb := hB.size
  have hltr := hr.lt
  have hltex := hex.lt
  have hltey := hey.lt
  have hlton := hon.lt
  have hltre := hre.lt
  replace hr := hr.on hb
  replace hex := hex.on hb
  replace hey := hey.on hb
  replace hon := hon.on hb
  replace hre := hre.on hb
  replace hB := below_on hB hb
  clear hb
  clear hT Hux Huy
  go_upto_region 6 with (first | ((with_reducible refine wpL_store (gux) 72 _ (feA ux) 4 rowFe rfl (feA_size _) (feA_one _) hux ?_ ?_ ?_); rfl; rfl) | ((with_reducible refine wpL_store (guy) 72 _ (feA uy) 4 rowFe rfl (feA_size _) (feA_one _) (huy.rowFar (Ne.symm hne) _) ?_ ?_ ?_); rfl; rfl))
  replace huy := (huy.rowFar (Ne.symm hne) (feA ux)).row (feA uy)
  replace hux := (hux.row (feA ux)).rowFar hne (feA uy)
  replace hr := (hr.rowFar (show W.heap.size + 2 ≠ gux by omega) (feA ux)).rowFar (show W.heap.size + 2 ≠ guy by omega) (feA uy)
  replace hex := (hex.rowFar (show gex ≠ gux by omega) (feA ux)).rowFar (show gex ≠ guy by omega) (feA uy)
  replace hey := (hey.rowFar (show gey ≠ gux by omega) (feA ux)).rowFar (show gey ≠ guy by omega) (feA uy)
  replace hon := (hon.rowFar (show gon ≠ gux by omega) (feA ux)).rowFar (show gon ≠ guy by omega) (feA uy)
  replace hre := (hre.rowFar (show gre ≠ gux by omega) (feA ux)).rowFar (show gre ≠ guy by omega) (feA uy)
  replace hB := below_rowSet (below_rowSet hB (show W.heap.size ≤ gux by omega) (feA ux)) (show W.heap.size ≤ guy by omega) (feA uy)
  clear hwb hlux hluy hltr hltex hltey hlton hltre
  generalize World.setRow (World.setRow _ _ _) _ _ = w7 at *
  have hT := (hT0.out.on hB).f
  refine wp_region_plain 14 (by kernel_rfl) (by kernel_rfl) ?_
  simp only [List.take_succ_cons, List.take_zero, List.drop_succ_cons, List.drop_zero]
  refine wpQB_fe (gex) ex hex rfl ?_
  simp only [Act.put, List.setIfInBounds_toArray, List.set_cons_succ, List.set_cons_zero]
  refine wpQB_fe (guy) uy huy rfl ?_
  simp only [Act.put, List.setIfInBounds_toArray, List.set_cons_succ, List.set_cons_zero]
  refine wpQB_call 94 #[fe ex, fe uy] (fe rX) rfl rfl (fun _ => by kernel_rfl) (fun w hb => HrX.out w (hT.on hb)) ?_
  simp only [Act.put, List.setIfInBounds_toArray, List.set_cons_succ, List.set_cons_zero]
  refine wpQB_fe (gey) ey hey rfl ?_
  simp only [Act.put, List.setIfInBounds_toArray, List.set_cons_succ, List.set_cons_zero]
  refine wpQB_fe (gux) ux hux rfl ?_
  simp only [Act.put, List.setIfInBounds_toArray, List.set_cons_succ, List.set_cons_zero]
  refine wpQB_call 94 #[fe ey, fe ux] (fe rY) rfl rfl (fun _ => by kernel_rfl) (fun w hb => HrY.out w (hT.on hb)) ?_
  simp only [Act.put, List.setIfInBounds_toArray, List.set_cons_succ, List.set_cons_zero]
  refine wpQB_fe (gux) ux hux rfl ?_
  simp only [Act.put, List.setIfInBounds_toArray, List.set_cons_succ, List.set_cons_zero]
  refine wpQB_fe (guy) uy huy rfl ?_
  simp only [Act.put, List.setIfInBounds_toArray, List.set_cons_succ, List.set_cons_zero]
  refine wpQB_call 94 #[fe ux, fe uy] (fe rZ) rfl rfl (fun _ => by kernel_rfl) (fun w hb => HrZ.out w (hT.on hb)) ?_
  simp only [Act.put, List.setIfInBounds_toArray, List.set_cons_succ, List.set_cons_zero]
  refine wpQB_fe (gex) ex hex rfl ?_
  simp only [Act.put, List.setIfInBounds_toArray, List.set_cons_succ, List.set_cons_zero]
  refine wpQB_fe (gey) ey hey rfl ?_
  simp only [Act.put, List.setIfInBounds_toArray, List.set_cons_succ, List.set_cons_zero]
  refine wpQB_call 94 #[fe ex, fe ey] (fe rT) rfl rfl (fun _ => by kernel_rfl) (fun w hb => HrT.out w (hT.on hb)) ?_
  simp only [Act.put, List.setIfInBounds_toArray, List.set_cons_succ, List.set_cons_zero]
  refine wpQB_run (.agg (feA rX ++ feA rY ++ feA rZ ++ feA rT)) rfl (fun _ _ => by kernel_rfl) ?_
  simp only [Act.put, List.setIfInBounds_toArray, List.set_cons_succ, List.set_cons_zero]
  refine wpQB_run (.agg (feA rX ++ feA rY ++ feA rZ ++ feA rT)) rfl (fun _ _ => by kernel_rfl) ?_
  simp only [Act.put, List.setIfInBounds_toArray, List.set_cons_succ, List.set_cons_zero]
  refine wpQB_nil ?_
  intro wz hb
  rw [← hb1]
  replace hr := hr.on hb
  replace hex := hex.on hb
  replace hey := hey.on hb
  replace hon := hon.on hb
  replace hre := hre.on hb
  replace hux := hux.on hb
  replace huy := huy.on hb
  replace hB := below_on hB hb
  clear hb
  go_wp2_with ((with_reducible refine wpL_store (W.heap.size + 2) 151 _ (ptA r) 16 rowWk rfl (ptA_size _) (ptA_one _) hr ?_ ?_ ?_); rfl; rfl)
  exact bodyPost_ret (results_row Tryz.results106 rowWk (ptA_size _) (hr.row _) rfl) rfl ⟨rfl, below_rowSet hB (by omega) _⟩

end Go.Proofs.YtmekmlgpkbfjpaaGreatDoor.C

