/- Texts that stand on one another, put together: UOwn, URefTimes, URootMath, URefRot, URefRoot, URot, USpread, UAdd. -/
import Derived.Test.YtdjglghecekeoaaGreatDoorV1
import Derived.BigQuiet
import Derived.Deep.AppendLies
import Derived.Deep.CutRange
import Derived.Deep.MidRow
import Derived.Deep.QuietTactic
import Derived.Laws.Bits64
import Derived.Laws.BitsAllLaws
import Derived.Laws.ShiftsVarLaws
import Derived.Outline
import Derived.StillTailTactics
/- Rows that a call owns: kept, told apart, and added to. -/
namespace Go.Proofs.YtdjglghecekeoaaGreatDoor.U
open Go.RowKit

theorem own_on {wr w1 : World} {B : Nat} {e : TypeId} {v : Value} {n : Nat} {xs : List Value} (h : wr.ownsRow B e 1 v n xs) (hb : Below wr.heap.size wr w1) : w1.ownsRow B e 1 v n xs := by
  obtain ⟨hl, h⟩ := h
  refine ⟨hl, ?_⟩
  rcases h with h | ⟨g, cap, cur, hv, hg, hh, hr⟩
  · exact Or.inl h
  · exact Or.inr ⟨g, cap, cur, hv, hg, Lies.on (t := e) hh hb, hr⟩

theorem own_far {w : World} {B e n g t : Nat} {v : Value} {xs : List Value} {cs : Array Value} (h : w.ownsRow B e 1 v n xs) (hl : Lies w g t cs) (hne : e ≠ t) : v.ownBlock ≠ some g := by
  rcases h.2 with ⟨rfl, _⟩ | ⟨g1, cap, cur, rfl, _, hh, _⟩
  · intro e; cases e
  · intro e2
    simp only [Value.ownBlock, Option.some.injEq] at e2
    subst e2
    unfold Lies at hl
    rw [hh] at hl
    injection hl with hl
    injection hl with _ ht
    exact hne ht
theorem own_grown {w w' : World} {B e n : Nat} {v : Value} {xs : List Value} {row : Option Nat} (h : w.ownsRow B e 1 v n xs) (hg : w.grownBy w' row) (hne : ∀ g, v.ownBlock = some g → row ≠ some g) : w'.ownsRow B e 1 v n xs := by
  obtain ⟨hl, h⟩ := h
  refine ⟨hl, ?_⟩
  rcases h with h | ⟨g, cap, cur, hv, hB, hh, hr⟩
  · exact Or.inl h
  · refine Or.inr ⟨g, cap, cur, hv, hB, ?_, hr⟩
    have hlt := Lies.lt (t := e) hh
    exact (hg.block g hlt (fun e => hne g (by rw [hv]; rfl) e.symm)).trans hh

theorem own_less {w : World} {B B' e n : Nat} {v : Value} {xs : List Value} (h : w.ownsRow B e 1 v n xs) (hB : B' ≤ B) : w.ownsRow B' e 1 v n xs := by
  obtain ⟨hl, h⟩ := h
  refine ⟨hl, ?_⟩
  rcases h with h | ⟨g, cap, cur, hv, hg, hh, hr⟩
  · exact Or.inl h
  · exact Or.inr ⟨g, cap, cur, hv, Nat.le_trans hB hg, hh, hr⟩
/-- a row of nothing that was just laid -/
theorem own_empty {w : World} {B g : Nat} {e : TypeId} (hl : Lies w g e #[]) (hB : B ≤ g) : w.ownsRow B e 1 (.slice (some ⟨g, 0, none⟩) 0 0) 0 [] :=
  ⟨rfl, .inr ⟨g, 0, #[], rfl, hB, hl, Nat.le_refl _, Nat.zero_le _, rfl, rfl⟩⟩
/-- one value goes behind a row that the call owns -/
theorem wpL_append {P : Program} {ops : Array Oper} {rest : List Oper} {a : Act} {w : World} {Q : Exit → Act → World → Prop} {t' : TypeId} {pos : String} {after : Array Edge} {d : Option Tmp} {x y : Tmp} {ty : TypeId}
    (B : Nat) (e : TypeId) (i : TypeInfo) (z : Value) (bytes : Nat) (ht : P.underlying ty = some (.slice e)) (hi : P.info? e = some i) (hz : i.zero = some z) (hsize : i.size = 1) (hby : i.bytes = bytes) (hzs : z.cells.size = 1)
    (v : Value) (n : Nat) (xs : List Value) (hown : w.ownsRow B e 1 v n xs) (b : Nat) (u : Value) (hl : Lies w b e #[u]) (hu : u.oneCell' = true) (h63 : n + 1 ≤ maxLen) (hbytes : (n + 1) * bytes ≤ 140737488355328) (hbase : B ≤ w.heap.size)
    (hs : a.eval (.tmp x) = v) (hx : a.eval (.tmp y) = .slice (some ⟨b, 0, none⟩) 1 1)
    (h : ∀ g cap w', w'.ownsRow B e 1 (.slice (some ⟨g, 0, none⟩) (n + 1) cap) (n + 1) (xs ++ [u]) → w.grownBy w' v.ownBlock → wpList P ops Q rest (a.put d (.slice (some ⟨g, 0, none⟩) (n + 1) cap)) w') :
    wpList P ops Q (⟨d, .call { callee := .builtin .append, args := #[.tmp x, .tmp y], argTypes := #[ty, ty] }, t', pos, after, none⟩ :: rest) a w :=
  wpList_append_lies (o := ⟨d, .call { callee := .builtin .append, args := #[.tmp x, .tmp y], argTypes := #[ty, ty] }, t', pos, after, none⟩) w rfl _ _ ty rfl B e i z 1 bytes ht hi hz hsize hby hzs (by decide) v n xs hs hown ⟨b, 0, none⟩ 1 1 [u] hx rfl (World.news_of_block hl) (by simpa using hu) (by decide) h63 hbytes hbase w.heap.size rfl (fun g cap w' h2 h3 _ _ => h g cap w' h2 h3)

end Go.Proofs.YtdjglghecekeoaaGreatDoor.U

/- The contracts of the reference's times and above: numbers of digits. -/
namespace Go.Proofs.YtdjglghecekeoaaGreatDoor.U
open Go.RowKit
set_option maxRecDepth 100000

abbrev w64 (x : Nat) : Value := Value.int .u64 (x : Int)
/-! ### what they reckon -/
def innerL (a b : List Nat) (i : Nat) (out : List Nat) : Nat → List Nat × Nat
  | 0 => (out, 0)
  | k + 1 => ((innerL a b i out k).1.set (i + k) (((innerL a b i out k).2 + (innerL a b i out k).1.getD (i + k) 0 + a.getD i 0 * b.getD k 0) % 18446744073709551616 % 65536), ((innerL a b i out k).2 + (innerL a b i out k).1.getD (i + k) 0 + a.getD i 0 * b.getD k 0) % 18446744073709551616 / 65536)
def outerL (a b : List Nat) : Nat → List Nat
  | 0 => List.replicate (a.length + b.length) 0
  | i + 1 => (innerL a b i (outerL a b i) b.length).1.set (i + b.length) (innerL a b i (outerL a b i) b.length).2
def timesL (a b : List Nat) : List Nat := outerL a b a.length
def aboveL (a b : List Nat) : Nat → Bool
  | 0 => false
  | n + 1 => if a.getD n 0 = b.getD n 0 then aboveL a b n else decide (b.getD n 0 < a.getD n 0)
/-! ### rows of them in memory -/
/-- digits lie there -/
def Digs (w : World) (g : Nat) (l : List Nat) : Prop := ∀ i, i < l.length → w.cell? ⟨g, i, none⟩ = some (w64 (l.getD i 0))
theorem Digs.on {w w' : World} {g : Nat} {l : List Nat} (h : Digs w g l) (hb : Below w.heap.size w w') : Digs w' g l := fun i hi => by
  have h1 := h i hi
  exact (hb.cell (p := ⟨g, i, none⟩) (World.block_lt_of_cell? w _ h1)).trans h1
theorem getD_past {l : List Nat} {i : Nat} (h : ¬ i < l.length) : l.getD i 0 = 0 := by
  rw [List.getD_eq_getElem?_getD, List.getElem?_eq_none (by omega)]
  rfl

end Go.Proofs.YtdjglghecekeoaaGreatDoor.U

/- What the reference's constants are made of: roots of primes, digit by digit. -/
namespace Go.Proofs.YtdjglghecekeoaaGreatDoor.U

def powL (r : List Nat) : Nat → List Nat
  | 0 => r
  | d + 1 => timesL (powL r d) r
def wholeL (p d : Nat) : List Nat := (List.replicate (2 * d + 1) 0).set (2 * d) p
def triedL (r : List Nat) (m : Nat) : List Nat := r.set (m / 16) ((r.getD (m / 16) 0 + 2 ^ (m % 16)) % 18446744073709551616)
def stepL (p d : Nat) (r : List Nat) (m : Nat) : List Nat :=
  if aboveL (powL (triedL r m) (d - 1)) (wholeL p d) (3 * (d - 1 + 1) + (2 * d + 1)) = true then (triedL r m).set (m / 16) (((triedL r m).getD (m / 16) 0 + 18446744073709551616 - 2 ^ (m % 16)) % 18446744073709551616) else triedL r m
def digitsL (p d : Nat) : Nat → List Nat
  | 0 => [0, 0, 0]
  | n + 1 => stepL p d (digitsL p d n) (36 - n)
def valL (r : List Nat) : Nat → Nat
  | 0 => 0
  | j + 1 => (valL r j * 65536 + r.getD (1 - j) 0) % 4294967296
def rootL (p d : Nat) : Nat := valL (digitsL p d 37) 2

end Go.Proofs.YtdjglghecekeoaaGreatDoor.U

/- The contracts of the reference's small calls on words: a word turned right, a word moved right. -/
namespace Go.Proofs.YtdjglghecekeoaaGreatDoor.U
open Go.RowKit
set_option maxRecDepth 100000

theorem two_pow_le (k : Nat) (h : k ≤ 31) : 2 ^ k ≤ 2147483648 := by
  have := Nat.pow_le_pow_right (n := 2) (by decide) h
  exact Nat.le_trans this (by decide)

theorem two_pow_lt (k : Nat) (h : k < 31) : 2 ^ k ≤ 1073741824 := by
  have := Nat.pow_le_pow_right (n := 2) (by decide) (show k ≤ 30 by omega)
  exact Nat.le_trans this (by decide)
theorem turn_eq (x n : Nat) : ((x : Int) / ((2 ^ n : Nat) : Int) + (x : Int) % ((2 ^ n : Nat) : Int) * ((2 ^ (32 - n) : Nat) : Int)) = ((rotr x n : Nat) : Int) := by
  unfold rotr
  rw [Int.natCast_add, Int.natCast_mul, Int.natCast_ediv, Int.natCast_emod]

set_option maxHeartbeats 400000 in
theorem turn_any (x n : Nat) (w : World) (hx : x < 4294967296) (h1 : 0 < n) (h2 : n < 32) :
    Calls Tryz.prog 143 #[.int .u32 x, .int .i64 n] w fun e w' => e = .returned (.int .u32 (rotr x n)) ∧ ∃ n, w' = w.drewN n := by
  go_enter Tryz.func143, Tryz.ntmps143
  go_wp2
  go_loopw [5, 6] (fun p i wr => ∃ k : Nat, k ≤ n ∧ i = .int .i64 k ∧ p = .int .u32 ((2 ^ k : Nat) : Int) ∧ wr = w) (fun _ i _ => n - (intOf i).toNat)
  case atStart => exact ⟨0, Nat.zero_le _, rfl, rfl, rfl⟩
  case round =>
    obtain ⟨k, hk, rfl, rfl, rfl⟩ := hrel
    by_cases hlt : k < n
    · have hp := two_pow_lt k (by omega)
      have HS := Lib.hid (Nat.pow_succ 2 k)
      generalize 2 ^ k = P at *
      go_wp2
      go_roundw
      case rel =>
        refine ⟨k + 1, by omega, by go_num, val_int ?_, trivial⟩
        rw [HS.out]
        omega
      case measure => simp [intOf]; omega
    · obtain rfl : k = n := by omega
      have hp := two_pow_le k (by omega)
      have h0 : 0 < 2 ^ k := Nat.two_pow_pos k
      have HE := Lib.hid (turn_eq x k)
      generalize 2 ^ k = P at *
      go_wp2
      go_loopw [7, 8] (fun q i wv => ∃ m : Nat, k ≤ m ∧ m ≤ 32 ∧ i = .int .i64 m ∧ q = .int .u32 ((2 ^ (m - k) : Nat) : Int) ∧ wv = wr) (fun _ i _ => 32 - (intOf i).toNat)
      case atStart => exact ⟨k, by omega, by omega, rfl, by rw [Nat.sub_self]; rfl, rfl⟩
      case round =>
        obtain ⟨m, hm1, hm2, rfl, rfl, rfl⟩ := hrel
        by_cases hlt : m < 32
        · have hp2 := two_pow_lt (m - k) (by omega)
          have HS : Hid (2 ^ (m + 1 - k) = 2 ^ (m - k) * 2) := Lib.hid (by rw [← Nat.pow_succ]; congr 1; omega)
          generalize 2 ^ (m - k) = P2 at *
          go_wp2
          go_roundw
          case rel =>
            refine ⟨m + 1, by omega, by omega, by go_num, val_int ?_, trivial⟩
            rw [HS.out]
            omega
          case measure => simp [intOf]; omega
        · obtain rfl : m = 32 := by omega
          have hq := two_pow_le (32 - k) (by omega)
          generalize 2 ^ (32 - k) = Q at *
          have hd : 0 ≤ (x : Int) / (P : Int) := Int.ediv_nonneg (by omega) (by omega)
          have hm : 0 ≤ (x : Int) % (P : Int) * (Q : Int) := Int.mul_nonneg (Int.emod_nonneg _ (by omega)) (by omega)
          have hr := rotr_lt x k hx (by omega)
          have he := HE.out
          have hz : (P : Int) ≠ 0 := by omega
          go_wp2
          go_quiet (fail)
          go_wp2
          go_ret
          exact ⟨rfl, _, rfl⟩

set_option maxHeartbeats 400000 in
theorem move_any (x n : Nat) (w : World) (hx : x < 4294967296) (h2 : n < 32) :
    Calls Tryz.prog 144 #[.int .u32 x, .int .i64 n] w fun e w' => e = .returned (.int .u32 ((x / 2 ^ n : Nat) : Int)) ∧ w' = w := by
  go_enter Tryz.func144, Tryz.ntmps144
  go_wp2
  go_loopw [0, 5] (fun v i wr => ∃ k : Nat, k ≤ n ∧ i = .int .i64 k ∧ v = .int .u32 ((x / 2 ^ k : Nat) : Int) ∧ wr = w) (fun _ i _ => n - (intOf i).toNat)
  case atStart => exact ⟨0, Nat.zero_le _, rfl, by simp, rfl⟩
  case round =>
    obtain ⟨k, hk, rfl, rfl, rfl⟩ := hrel
    by_cases hlt : k < n
    · have HS : Hid (x / 2 ^ (k + 1) = x / 2 ^ k / 2) := Lib.hid (by rw [Nat.pow_succ, Nat.div_div_eq_div_mul])
      have hl : x / 2 ^ k < 4294967296 := Nat.lt_of_le_of_lt (Nat.div_le_self _ _) hx
      generalize x / 2 ^ k = y at *
      go_wp2
      go_roundw
      case rel =>
        refine ⟨k + 1, by omega, by go_num, val_int ?_, trivial⟩
        rw [HS.out]
        omega
      case measure => simp [intOf]; omega
    · obtain rfl : k = n := by omega
      go_wp2
      go_ret
      exact ⟨rfl, rfl⟩
end Go.Proofs.YtdjglghecekeoaaGreatDoor.U

/- The contract of the reference's root: a root's first bits, digit by digit. -/
namespace Go.Proofs.YtdjglghecekeoaaGreatDoor.U
open Go.RowKit
set_option maxRecDepth 100000

theorem Digs.far {w : World} {g : Nat} {l : List Nat} (h : Digs w g l) {p : Addr} (hp : p.block ≠ g) (v : Value) : Digs (w.setCell p v) g l := fun i hi => by
  rw [World.cell?_setCell_other w p ⟨g, i, none⟩ v (fun e => hp (by rw [e]))]
  exact h i hi
theorem Digs.lt {w : World} {g : Nat} {l : List Nat} (h : Digs w g l) (h0 : 0 < l.length) : g < w.heap.size := World.block_lt_of_cell? w ⟨g, 0, none⟩ (h 0 h0)
end Go.Proofs.YtdjglghecekeoaaGreatDoor.U

/- The contracts of the program's small calls on words: a word turned left by a contrary number, the two xors, the word of four bytes. -/
namespace Go.Proofs.YtdjglghecekeoaaGreatDoor.U
open Go.RowKit
set_option maxRecDepth 100000

theorem low_five (n m : Nat) (h : n + m = 32) (h1 : 0 < n) (h2 : 0 < m) : bits BinOp.and IntKind.u64 (IntKind.u64.wrap (-(n : Int))) 31 = (m : Int) := by
  have e : IntKind.u64.wrap (-(n : Int)) = ((18446744073709551616 - n : Nat) : Int) := by rw [IntKind.wrap_u64]; omega
  have hh : (18446744073709551616 - n) &&& 31 = m := by
    have h3 : (18446744073709551616 - n) &&& (2 ^ 5 - 1) = (18446744073709551616 - n) % 2 ^ 5 := Nat.and_two_pow_sub_one_eq_mod _ 5
    rw [show (31 : Nat) = 2 ^ 5 - 1 by decide, h3]
    omega
  rw [e, show (31 : Int) = ((31 : Nat) : Int) by rfl, u64_and_nat _ _ (by omega) (by omega), hh]

theorem rot_eq (x n m : Nat) (h : n + m = 32) (hx : x < 4294967296) : bits BinOp.or IntKind.u32 ((x : Int) * 2 ^ m % 4294967296) ((x : Int) / 2 ^ n) = ((rotr x n : Nat) : Int) := by
  have e1 : (x : Int) * 2 ^ m % 4294967296 = ((x * 2 ^ m % 4294967296 : Nat) : Int) := by rw [Int.natCast_emod, Int.natCast_mul, Int.natCast_pow]; rfl
  have e2 : (x : Int) / 2 ^ n = ((x / 2 ^ n : Nat) : Int) := by rw [Int.natCast_ediv, Int.natCast_pow]; rfl
  rw [e1, e2, u32_or_nat _ _ (Nat.mod_lt _ (by decide)) (Nat.lt_of_le_of_lt (Nat.div_le_self _ _) hx), show m = 32 - n by omega, rotr_or x n (by omega) hx]

set_option maxHeartbeats 400000 in
theorem rot_any (x n : Nat) (w : World) (hx : x < 4294967296) (h1 : 0 < n) (h2 : n < 32) :
    Calls Tryz.prog 159 #[.int .u32 x, .int .i64 (-(n : Int))] w fun e w' => e = .returned (.int .u32 (rotr x n)) ∧ w = w' := by
  obtain ⟨m, hm⟩ : ∃ m, n + m = 32 := ⟨32 - n, by omega⟩
  have hm1 : 0 < m := by omega
  have hm2 : m < 32 := by omega
  have hs := low_five n m hm h1 hm1
  have hq := Lib.hid (rot_eq x n m hm hx)
  have hn : (32 - (m : Int)).toNat = n := by omega
  clear hm
  go_enter Tryz.func159, Tryz.ntmps159
  go_wp2
  go_ret
  exact ⟨ret1_of (val_int hq.out), rfl⟩

theorem xor_words {x y z : Nat} (hx : x < 4294967296) (hy : y < 4294967296) (hz : z < 4294967296) : bits BinOp.xor IntKind.u32 (bits BinOp.xor IntKind.u32 (x : Int) (y : Int)) (z : Int) = ((x ^^^ y ^^^ z : Nat) : Int) := by
  rw [u32_xor_nat _ _ hx hy, u32_xor_nat _ _ (xor_lt _ _ hx hy) hz]

set_option maxHeartbeats 400000 in
theorem turned_any (x a b c : Nat) (w : World) (hx : x < 4294967296) (ha : 0 < a) (ha' : a < 32) (hb : 0 < b) (hb' : b < 32) (hc : 0 < c) (hc' : c < 32) :
    Calls Tryz.prog 140 #[.int .u32 x, .int .i64 (a : Int), .int .i64 (b : Int), .int .i64 (c : Int)] w fun e w' => e = .returned (.int .u32 ((rotr x a ^^^ rotr x b ^^^ rotr x c : Nat) : Int)) ∧ w = w' := by
  have H1 := Lib.hid (rot_any x a w hx ha ha')
  have H2 := Lib.hid (rot_any x b w hx hb hb')
  have H3 := Lib.hid (rot_any x c w hx hc hc')
  have hq := Lib.hid (xor_words (rotr_lt x a hx (by omega)) (rotr_lt x b hx (by omega)) (rotr_lt x c hx (by omega)))
  go_enter Tryz.func140, Tryz.ntmps140
  go_wp2_with (go_at_call 159; first | ((with_reducible refine H1.out.mono ?_); rintro e w1 ⟨rfl, rfl⟩) | ((with_reducible refine H2.out.mono ?_); rintro e w1 ⟨rfl, rfl⟩) | ((with_reducible refine H3.out.mono ?_); rintro e w1 ⟨rfl, rfl⟩))
  go_ret
  exact ⟨ret1_of (val_int hq.out), rfl⟩

set_option maxHeartbeats 400000 in
theorem moved_any (x a b c : Nat) (w : World) (hx : x < 4294967296) (ha : 0 < a) (ha' : a < 32) (hb : 0 < b) (hb' : b < 32) (hc' : c < 32) :
    Calls Tryz.prog 158 #[.int .u32 x, .int .i64 (a : Int), .int .i64 (b : Int), .int .u64 (c : Int)] w fun e w' => e = .returned (.int .u32 ((rotr x a ^^^ rotr x b ^^^ x / 2 ^ c : Nat) : Int)) ∧ w = w' := by
  have H1 := Lib.hid (rot_any x a w hx ha ha')
  have H2 := Lib.hid (rot_any x b w hx hb hb')
  have hq := Lib.hid (xor_words (rotr_lt x a hx (by omega)) (rotr_lt x b hx (by omega)) (Nat.lt_of_le_of_lt (Nat.div_le_self x (2 ^ c)) hx))
  have hd : ((x / 2 ^ c : Nat) : Int) = (x : Int) / 2 ^ c := by rw [Int.natCast_ediv, Int.natCast_pow]; rfl
  have HD := Lib.hid hd
  clear hd
  go_enter Tryz.func158, Tryz.ntmps158
  go_wp2_with (go_at_call 159; first | ((with_reducible refine H1.out.mono ?_); rintro e w1 ⟨rfl, rfl⟩) | ((with_reducible refine H2.out.mono ?_); rintro e w1 ⟨rfl, rfl⟩))
  go_ret
  exact ⟨ret1_of (val_int (by rw [← hq.out, HD.out])), rfl⟩

theorem turned_e (x : Nat) (w : World) (hx : x < 4294967296) : Calls Tryz.prog 140 #[.int .u32 x, .int .i64 6, .int .i64 11, .int .i64 25] w fun e w' => e = .returned (.int .u32 (bsig1 x : Nat)) ∧ w' = w :=
  (turned_any x 6 11 25 w hx (by decide) (by decide) (by decide) (by decide) (by decide) (by decide)).mono fun _ _ ⟨he, hw⟩ => ⟨he, hw.symm⟩
theorem turned_a (x : Nat) (w : World) (hx : x < 4294967296) : Calls Tryz.prog 140 #[.int .u32 x, .int .i64 2, .int .i64 13, .int .i64 22] w fun e w' => e = .returned (.int .u32 (bsig0 x : Nat)) ∧ w' = w :=
  (turned_any x 2 13 22 w hx (by decide) (by decide) (by decide) (by decide) (by decide) (by decide)).mono fun _ _ ⟨he, hw⟩ => ⟨he, hw.symm⟩
theorem moved_one (x : Nat) (w : World) (hx : x < 4294967296) : Calls Tryz.prog 158 #[.int .u32 x, .int .i64 17, .int .i64 19, .int .u64 10] w fun e w' => e = .returned (.int .u32 (ssig1 x : Nat)) ∧ w' = w :=
  (moved_any x 17 19 10 w hx (by decide) (by decide) (by decide) (by decide) (by decide)).mono fun _ _ ⟨he, hw⟩ => ⟨he, hw.symm⟩
theorem moved_zero (x : Nat) (w : World) (hx : x < 4294967296) : Calls Tryz.prog 158 #[.int .u32 x, .int .i64 7, .int .i64 18, .int .u64 3] w fun e w' => e = .returned (.int .u32 (ssig0 x : Nat)) ∧ w' = w :=
  (moved_any x 7 18 3 w hx (by decide) (by decide) (by decide) (by decide) (by decide)).mono fun _ _ ⟨he, hw⟩ => ⟨he, hw.symm⟩

theorem or_low (x y k : Nat) (h : y < 2 ^ k) : (x * 2 ^ k) ||| y = x * 2 ^ k + y := by
  rw [← Nat.shiftLeft_eq, ← Nat.shiftLeft_add_eq_or_of_lt h]
theorem word_eq (a b c d : UInt8) : bits BinOp.or IntKind.u32 (bits BinOp.or IntKind.u32 (bits BinOp.or IntKind.u32 (IntKind.u32.wrap (IntKind.u32.wrap (a.toNat : Int) * 16777216)) (IntKind.u32.wrap (IntKind.u32.wrap (b.toNat : Int) * 65536))) (IntKind.u32.wrap (IntKind.u32.wrap (c.toNat : Int) * 256))) (IntKind.u32.wrap (d.toNat : Int)) = ((numL [a, b, c, d] : Nat) : Int) := by
  have ha := u8_lt a
  have hb := u8_lt b
  have hc := u8_lt c
  have hd := u8_lt d
  have e1 : IntKind.u32.wrap (IntKind.u32.wrap (a.toNat : Int) * 16777216) = ((a.toNat * 2 ^ 24 : Nat) : Int) := by rw [IntKind.wrap_u32, IntKind.wrap_u32]; omega
  have e2 : IntKind.u32.wrap (IntKind.u32.wrap (b.toNat : Int) * 65536) = ((b.toNat * 65536 : Nat) : Int) := by rw [IntKind.wrap_u32, IntKind.wrap_u32]; omega
  have e3 : IntKind.u32.wrap (IntKind.u32.wrap (c.toNat : Int) * 256) = ((c.toNat * 256 : Nat) : Int) := by rw [IntKind.wrap_u32, IntKind.wrap_u32]; omega
  have e4 : IntKind.u32.wrap (d.toNat : Int) = ((d.toNat : Nat) : Int) := by rw [IntKind.wrap_u32]; omega
  have f1 : (a.toNat * 2 ^ 24) ||| (b.toNat * 65536) = (a.toNat * 256 + b.toNat) * 2 ^ 16 := by rw [or_low _ _ 24 (by omega)]; omega
  have f2 : ((a.toNat * 256 + b.toNat) * 2 ^ 16) ||| (c.toNat * 256) = (a.toNat * 65536 + b.toNat * 256 + c.toNat) * 2 ^ 8 := by rw [or_low _ _ 16 (by omega)]; omega
  have f3 : ((a.toNat * 65536 + b.toNat * 256 + c.toNat) * 2 ^ 8) ||| d.toNat = numL [a, b, c, d] := by
    rw [or_low _ _ 8 (by omega)]
    simp only [numL, List.foldl]
    omega
  rw [e1, e2, e3, e4, u32_or_nat _ _ (by omega) (by omega), f1, u32_or_nat _ _ (by omega) (by omega), f2, u32_or_nat _ _ (by omega) (by omega), f3]
theorem four_bytes (s : ByteArray) (h : s.size = 4) : s.data.toList = [s[0], s[1], s[2], s[3]] := by
  have hl : s.data.toList.length = 4 := by rw [← Lib.size_eq]; exact h
  apply List.ext_getElem (by simpa using hl)
  intro i h1 h2
  match i, h2 with
  | 0, _ => rfl
  | 1, _ => rfl
  | 2, _ => rfl
  | 3, _ => rfl

set_option maxHeartbeats 400000 in
theorem word_any (s : ByteArray) (w : World) (hs : s.size = 4) :
    Calls Tryz.prog 157 #[.string s] w fun e w' => e = .returned (.int .u32 (numL s.data.toList)) ∧ ∃ n, w' = w.drewN n := by
  have h0 : 0 < s.size := by omega
  have h1 : (1 : Int) < (s.size : Int) := by omega
  have h2 : (2 : Int) < (s.size : Int) := by omega
  have h3 : (3 : Int) < (s.size : Int) := by omega
  have n1 : 1 < s.size := by omega
  have n2 : 2 < s.size := by omega
  have n3 : 3 < s.size := by omega
  have HS := Lib.hid hs
  clear hs
  have HQ := Lib.hid ((word_eq (s[0]'h0) (s[1]'n1) (s[2]'n2) (s[3]'n3)).trans (by rw [← four_bytes s HS.out]))
  go_enter Tryz.func157, Tryz.ntmps157
  go_wp2
  go_quiet (fail)
  go_wp2
  go_ret
  exact ⟨ret1_of (val_int HQ.out), _, rfl⟩
end Go.Proofs.YtdjglghecekeoaaGreatDoor.U

/- The contract of the program's spread: a block as a word for each round. -/
namespace Go.Proofs.YtdjglghecekeoaaGreatDoor.U
open Go.RowKit
set_option maxRecDepth 100000

/-- what lies in the row of words when t of them are there -/
def allA (b : List UInt8) (t : Nat) : Array Value := ((sched b t).map u32 ++ List.replicate (64 - t) (u32 0)).toArray
theorem allA_at (b : List UInt8) (t i : Nat) (h : i < t) : (allA b t)[i]? = some (u32 ((sched b t).getD i 0)) := by
  have hl := sched_length b t
  unfold allA
  rw [List.getElem?_toArray, List.getElem?_append_left (by simp; omega), List.getElem?_map, List.getD_eq_getElem?_getD, List.getElem?_eq_getElem (by omega)]
  rfl
theorem allA_next (b : List UInt8) (t : Nat) (h : t < 64) : (allA b t)[t]? = some (u32 0) := by
  have hl := sched_length b t
  unfold allA
  rw [List.getElem?_toArray, List.getElem?_append_right (by simp [hl]), List.getElem?_replicate, if_pos (by simp [hl]; omega)]
theorem allA_set (b : List UInt8) (t : Nat) (h : t < 64) (x : Nat) (hx : sched b (t + 1) = sched b t ++ [x]) : (allA b t).setIfInBounds t (u32 x) = allA b (t + 1) := by
  have hl := sched_length b t
  unfold allA
  rw [List.setIfInBounds_toArray]
  congr 1
  rw [List.set_append_right _ _ (by simp [hl]), hx, List.map_append, List.length_map, hl, Nat.sub_self, show 64 - t = (64 - (t + 1)) + 1 by omega, List.replicate_succ, List.set_cons_zero, List.append_assoc]
  rfl
theorem sched_head (b : List UInt8) (t : Nat) (h : t < 16) : sched b (t + 1) = sched b t ++ [numL ((b.drop (4 * t)).take 4)] := by rw [sched, if_pos h]
theorem sched_rest (b : List UInt8) (t : Nat) (h : ¬ t < 16) : sched b (t + 1) = sched b t ++ [(ssig1 ((sched b t).getD (t - 2) 0) + (sched b t).getD (t - 7) 0 + ssig0 ((sched b t).getD (t - 15) 0) + (sched b t).getD (t - 16) 0) % 4294967296] := by rw [sched, if_neg h]

theorem extract_list (s : ByteArray) (a b : Nat) : (s.extract a b).data.toList = (s.data.toList.drop a).take (b - a) := by
  rw [ByteArray.data_extract, Array.toList_extract, List.extract_eq_take_drop]
theorem extract_size (s : ByteArray) (a b : Nat) (h : b ≤ s.size) : (s.extract a b).size = b - a := by
  rw [ByteArray.size_extract]; omega

theorem allA_size (b : List UInt8) (t : Nat) (h : t ≤ 64) : (allA b t).size = 64 := by
  have hl := sched_length b t
  simp [allA, hl]
  omega
theorem allA_one (b : List UInt8) (t : Nat) : Ones (allA b t) := by
  refine ones_of fun v hv => ?_
  rw [List.mem_append, List.mem_map, List.mem_replicate] at hv
  rcases hv with ⟨x, _, rfl⟩ | ⟨_, rfl⟩ <;> rfl
theorem sum_words (a b c d : Nat) :
    ((ssig1 a : Nat) + (b : Int) + (ssig0 c : Nat) + (d : Int)) % 4294967296 = (((ssig1 a + b + ssig0 c + d) % 4294967296 : Nat) : Int) := by
  generalize ssig1 a = p
  generalize ssig0 c = q
  omega

set_option maxRecDepth 100000 in
set_option maxHeartbeats 1600000 in
theorem spread_any (s : ByteArray) (w : World) (hs : s.size = 64) :
    Calls Tryz.prog 139 #[.string s] w fun e w' => e = .returned (.agg (allA s.data.toList 64)) ∧ Below w.heap.size w w' := by
  have HS := Lib.hid hs
  have hs1 : 64 ≤ s.size := by omega
  have hs2 : s.size ≤ 64 := by omega
  clear hs
  go_enter Tryz.func139, Tryz.ntmps139
  go_wp2
  go_loopw [6] (fun i wr => ∃ t : Nat, t ≤ 16 ∧ i = .int .i64 t ∧ Lies wr (w.heap.size + 1) 183 (allA s.data.toList t) ∧ Lies wr w.heap.size 183 (allA s.data.toList 0) ∧ Below w.heap.size w wr) (fun i _ => 16 - (intOf i).toNat)
  case atStart => exact ⟨0, Nat.zero_le _, rfl, heap_alloc2_new w _ _, heap_alloc2_old w _ _, ((Below.refl _ w).alloc (Nat.le_refl _) _).alloc (by simp) _⟩
  case round =>
    obtain ⟨t, ht, rfl, hl, hr, hb⟩ := hrel
    by_cases hlt : t < 16
    · have hc := (hl.cell t).trans (allA_next s.data.toList t (by omega))
      have hf := hl.frozen t
      have HN := Lib.hid (allA_set s.data.toList t (by omega) _ (sched_head s.data.toList t hlt))
      have HW := Lib.hid (show 4 * (t + 1) - 4 * t = 4 by omega)
      have HZ := Lib.hid (show (s.extract (4 * t) (4 * (t + 1))).size = 4 by rw [extract_size _ _ _ (by omega)]; omega)
      go_wp2_with (go_at_call 157; refine (word_any _ _ HZ.out).mono ?_; rintro e w1 ⟨rfl, n1, rfl⟩)
      go_roundw
      case rel => exact ⟨t + 1, by omega, by go_num, by rw [HW.out, ← HN.out]; exact (hl.drewN n1).put t _, (hr.drewN n1).far (by simp) _, (below_drawn hb n1).setCell (by simp) _⟩
      case measure => simp [intOf]; omega
    · obtain rfl : t = 16 := by omega
      rw [show ((16 : Nat) : Int) = 16 from rfl]
      go_wp2_with fail
      go_loopw [5] (fun i wr => ∃ t : Nat, 16 ≤ t ∧ t ≤ 64 ∧ i = .int .i64 t ∧ Lies wr (w.heap.size + 1) 183 (allA s.data.toList t) ∧ Lies wr w.heap.size 183 (allA s.data.toList 0) ∧ Below w.heap.size w wr) (fun i _ => 64 - (intOf i).toNat)
      case atStart => exact ⟨16, by omega, by omega, rfl, hl, hr, hb⟩
      case round =>
        rename_i wo
        clear hl hr hb
        obtain ⟨t, ht1, ht2, rfl, hl, hr, hb⟩ := hrel
        by_cases hlt : t < 64
        · have hc := (hl.cell t).trans (allA_next s.data.toList t (by omega))
          have hf := hl.frozen t
          have k2 := (hl.cell (t - 2)).trans (allA_at s.data.toList t (t - 2) (by omega))
          have k7 := (hl.cell (t - 7)).trans (allA_at s.data.toList t (t - 7) (by omega))
          have k15 := (hl.cell (t - 15)).trans (allA_at s.data.toList t (t - 15) (by omega))
          have k16 := (hl.cell (t - 16)).trans (allA_at s.data.toList t (t - 16) (by omega))
          have HN := Lib.hid (allA_set s.data.toList t (by omega) _ (sched_rest s.data.toList t (by omega)))
          have l2 := sched_at_lt s.data.toList t (t - 2)
          have l7 := sched_at_lt s.data.toList t (t - 7)
          have l15 := sched_at_lt s.data.toList t (t - 15)
          have l16 := sched_at_lt s.data.toList t (t - 16)
          have e2 : IntKind.i64.wrap ((t : Int) - 2) = ((t - 2 : Nat) : Int) := by rw [IntWalk.i64_in _ (by omega)]; omega
          have e7 : IntKind.i64.wrap ((t : Int) - 7) = ((t - 7 : Nat) : Int) := by rw [IntWalk.i64_in _ (by omega)]; omega
          have e15 : IntKind.i64.wrap ((t : Int) - 15) = ((t - 15 : Nat) : Int) := by rw [IntWalk.i64_in _ (by omega)]; omega
          have e16 : IntKind.i64.wrap ((t : Int) - 16) = ((t - 16 : Nat) : Int) := by rw [IntWalk.i64_in _ (by omega)]; omega
          have b2 : ((t - 2 : Nat) : Int) < 64 := by omega
          have b7 : ((t - 7 : Nat) : Int) < 64 := by omega
          have b15 : ((t - 15 : Nat) : Int) < 64 := by omega
          have b16 : ((t - 16 : Nat) : Int) < 64 := by omega
          generalize t - 2 = u2 at e2 b2 k2 l2 HN
          generalize t - 7 = u7 at e7 b7 k7 l7 HN
          generalize t - 15 = u15 at e15 b15 k15 l15 HN
          generalize t - 16 = u16 at e16 b16 k16 l16 HN
          generalize (sched s.data.toList t).getD u2 0 = x2 at k2 l2 HN
          generalize (sched s.data.toList t).getD u7 0 = x7 at k7 l7 HN
          generalize (sched s.data.toList t).getD u15 0 = x15 at k15 l15 HN
          generalize (sched s.data.toList t).getD u16 0 = x16 at k16 l16 HN
          go_wp2_with fail
          refine wp_region_still_tail 23 (by kernel_rfl) (by kernel_rfl) ?_
          simp only [List.take_succ_cons, List.take_zero, List.drop_succ_cons, List.drop_zero]
          change wpStill _ _ wr.drew _ _ _
          repeat still_step
          still_call (moved_one _ _ l2)
          repeat still_step
          still_call (moved_zero _ _ l15)
          repeat still_step
          refine wpStill_nil ?_
          change wpList _ _ _ _ _ wr.drew
          go_wp2
          go_roundw
          case rel =>
            exact ⟨t + 1, by omega, by omega, by go_num, by rw [← HN.out, sum_words]; exact (hl.put t _).drew, (hr.far (by simp) _).drew, (hb.setCell (by simp) _).drew⟩
          case measure => simp [intOf]; omega
        · obtain rfl : t = 64 := by omega
          have HN := Lib.hid (allA_size s.data.toList 64 (by omega))
          have H0 := Lib.hid (allA_size s.data.toList 0 (by omega))
          have HO := Lib.hid (allA_one s.data.toList 64)
          have HL := Lib.hid hl
          have HR := Lib.hid hr
          clear hl hr
          obtain ⟨cs, hcs⟩ : ∃ cs, allA s.data.toList 64 = cs := ⟨_, rfl⟩
          rw [hcs] at HN HO HL
          have HQ := Lib.hid hcs
          clear hcs
          go_wp2_with (first | ((with_reducible refine wpL_load (w.heap.size + 1) 183 cs 64 row64 HN.out HL.out ?_ ?_); rfl) | ((with_reducible refine wpL_store w.heap.size 183 _ cs 64 row64 H0.out HN.out HO.out HR.out ?_ ?_ ?_); rfl; rfl))
          exact bodyPost_ret (results_row Tryz.results139 row64 HN.out (HR.out.row cs) rfl) rfl ⟨by rw [HQ.out], below_rowSet hb (Nat.le_refl _) _⟩
end Go.Proofs.YtdjglghecekeoaaGreatDoor.U

/- The contract of the program's add: a block's words go into the sum's. -/
namespace Go.Proofs.YtdjglghecekeoaaGreatDoor.U
open Go.RowKit
set_option maxRecDepth 100000

/-- the cells of a sum while its words are added up, i of them done -/
def partA (s v : H8) (buf : ByteArray) (n i : Nat) : Array Value :=
  let f := fun (j x y : Nat) => u32 (if j < i then (x + y) % 4294967296 else x)
  #[f 0 s.a v.a, f 1 s.b v.b, f 2 s.c v.c, f 3 s.d v.d, f 4 s.e v.e, f 5 s.f v.f, f 6 s.g v.g, f 7 s.h v.h, .string buf, .int .u64 (n : Int)]
theorem partA_at (s v : H8) (buf : ByteArray) (n i : Nat) (h : i < 8) : (partA s v buf n i)[i]? = some (u32 (s.at i)) := by
  match i, h with
  | 0, _ | 1, _ | 2, _ | 3, _ | 4, _ | 5, _ | 6, _ | 7, _ => rfl
theorem partA_set (s v : H8) (buf : ByteArray) (n i : Nat) (h : i < 8) : (partA s v buf n i).setIfInBounds i (u32 ((s.at i + v.at i) % 4294967296)) = partA s v buf n (i + 1) := by
  match i, h with
  | 0, _ | 1, _ | 2, _ | 3, _ | 4, _ | 5, _ | 6, _ | 7, _ => rfl
theorem index_eight (v : H8) (i : Nat) (h : i < 8) (W : World) : (Instr.index 107 (.agg #[u32 v.a, u32 v.b, u32 v.c, u32 v.d, u32 v.e, u32 v.f, u32 v.g, u32 v.h]) (.int .i64 (i : Int))).run Tryz.prog W = .ok (u32 (v.at i)) W := by
  match i, h with
  | 0, _ | 1, _ | 2, _ | 3, _ | 4, _ | 5, _ | 6, _ | 7, _ => (show _ = _; kernel_rfl)

theorem plus_cast (a b : Nat) : ((a : Int) + (b : Int)) % 4294967296 = (((a + b) % 4294967296 : Nat) : Int) := by omega
theorem ones_xor (e : Nat) (he : e < 4294967296) : 4294967295 ^^^ e = 4294967295 - e := by
  have h := BitVec.toNat_not (x := BitVec.ofNat 32 e)
  rw [BitVec.not_def, BitVec.toNat_xor, BitVec.toNat_allOnes, BitVec.toNat_ofNat, Nat.mod_eq_of_lt (show e < 2 ^ 32 from he)] at h
  exact h
theorem ch_walk (e f g : Nat) (he : e < 4294967296) (hf : f < 4294967296) (hg : g < 4294967296) :
    bits BinOp.xor IntKind.u32 (bits BinOp.and IntKind.u32 (e : Int) (f : Int)) (bits BinOp.and IntKind.u32 (bits BinOp.xor IntKind.u32 (if IntKind.u32.signed = true then -1 else IntKind.u32.max) (e : Int)) (g : Int)) = ((chs e f g : Nat) : Int) := by
  rw [show (if IntKind.u32.signed = true then (-1 : Int) else IntKind.u32.max) = ((4294967295 : Nat) : Int) from rfl, u32_xor_nat _ _ (by decide) he, ones_xor e he, u32_and_nat _ _ he hf, u32_and_nat _ _ (by omega) hg, u32_xor_nat _ _ (and_lt _ _ hf) (and_lt _ _ hg)]
  rfl
theorem maj_walk (a b c : Nat) (ha : a < 4294967296) (hb : b < 4294967296) (hc : c < 4294967296) :
    bits BinOp.xor IntKind.u32 (bits BinOp.xor IntKind.u32 (bits BinOp.and IntKind.u32 (a : Int) (b : Int)) (bits BinOp.and IntKind.u32 (a : Int) (c : Int))) (bits BinOp.and IntKind.u32 (b : Int) (c : Int)) = ((maj a b c : Nat) : Int) := by
  rw [u32_and_nat _ _ ha hb, u32_and_nat _ _ ha hc, u32_and_nat _ _ hb hc, u32_xor_nat _ _ (and_lt _ _ hb) (and_lt _ _ hc), u32_xor_nat _ _ (xor_lt _ _ (and_lt _ _ hb) (and_lt _ _ hc)) (and_lt _ _ hc)]
  rfl

set_option maxRecDepth 100000 in
set_option maxHeartbeats 1600000 in
theorem add_any (s : ByteArray) (g : Nat) (H : H8) (buf : ByteArray) (n : Nat) (w : World) (hs : s.size = 64) (hT : Tab w) (hl : Lies w g 153 (sumA H buf n)) (hok : H.Ok) :
    Calls Tryz.prog 110 #[.pointer (some ⟨g, 0, none⟩), .string s] w fun e w' => e = .returned (.tuple #[]) ∧ Lies w' g 153 (sumA (mix H s.data.toList) buf n) ∧ Only g w w' := by
  have HN := Lib.hid (allA_size s.data.toList 64 (by omega))
  have HO := Lib.hid (allA_one s.data.toList 64)
  have HS := Lib.hid (spread_any s w hs)
  clear hs
  go_enter Tryz.func110, Tryz.ntmps110
  go_wp2_with (first | (go_at_call 139; refine HS.out.mono ?_; rintro e w1 ⟨rfl, hb1⟩) | ((with_reducible refine wpL_store w1.heap.size 183 _ (allA s.data.toList 64) 64 row64 ?_ HN.out HO.out (Lies.new _ _ _) ?_ ?_ ?_); rfl; rfl; rfl))
  generalize hW : World.setRow _ _ _ = W2
  have hb2 : Below w.heap.size w W2 := by rw [← hW]; exact below_rowSet (hb1.alloc hb1.size _) hb1.size _
  have hA : Lies W2 w1.heap.size 183 (allA s.data.toList 64) := by rw [← hW]; exact (Lies.new _ _ _).row _
  have hl2 := hl.on hb2
  have hT2 := hT.below hb2
  have hO2 := Only.of_below hb2 g
  have hne : g ≠ w1.heap.size := by have := hl.lt; have := hb1.size; omega
  have HNE := Lib.hid hne
  have HB := Lib.hid (show w.heap.size ≤ w1.heap.size from hb1.size)
  clear hW hb1 hb2 hl hT hne
  have c0 := hl2.cell 0
  have c1 := hl2.cell 1
  have c2 := hl2.cell 2
  have c3 := hl2.cell 3
  have c4 := hl2.cell 4
  have c5 := hl2.cell 5
  have c6 := hl2.cell 6
  have c7 := hl2.cell 7
  simp only [sumA, List.getElem?_toArray, List.getElem?_cons_zero, List.getElem?_cons_succ] at c0 c1 c2 c3 c4 c5 c6 c7
  go_quiet (fail)
  go_wp2_with fail
  clear c0 c1 c2 c3 c4 c5 c6 c7
  go_loopw [5, 6, 7, 8, 9, 10, 11, 12, 68] (fun a b c d e f gg h i wr => ∃ (t : Nat) (v : H8), t ≤ 64 ∧ i = .int .i64 t ∧ a = u32 v.a ∧ b = u32 v.b ∧ c = u32 v.c ∧ d = u32 v.d ∧ e = u32 v.e ∧ f = u32 v.f ∧ gg = u32 v.g ∧ h = u32 v.h ∧ v.Ok ∧ Hid (v = rnds (sched s.data.toList 64) H t) ∧ Lies wr w1.heap.size 183 (allA s.data.toList 64) ∧ Lies wr g 153 (sumA H buf n) ∧ Tab wr ∧ Only g w wr) (fun _ _ _ _ _ _ _ _ i _ => 64 - (intOf i).toNat)
  case atStart => exact ⟨0, H, by omega, rfl, rfl, rfl, rfl, rfl, rfl, rfl, rfl, rfl, hok, Lib.hid rfl, hA, hl2, hT2, hO2.drewN _⟩
  case round =>
    clear hA hl2 hT2 hO2
    obtain ⟨t, v, ht, rfl, rfl, rfl, rfl, rfl, rfl, rfl, rfl, rfl, hv, HV, hA, hl, hT, hO⟩ := hrel
    by_cases hlt : t < 64
    · have kT : wr.cell? ⟨7, t, none⟩ = some (u32 (kAt t)) := hT.2 t hlt
      have wT : wr.cell? ⟨w1.heap.size, t, none⟩ = some (u32 ((sched s.data.toList 64).getD t 0)) := (hA.cell t).trans (allA_at _ _ _ hlt)
      have HR := Lib.hid (show rnds (sched s.data.toList 64) H (t + 1) = rnd v (kAt t) ((sched s.data.toList 64).getD t 0) by rw [rnds, HV.out])
      have lk := kAt_lt t hlt
      have lw := sched_at_lt s.data.toList 64 t
      have HK := Lib.hid hv
      obtain ⟨va, vb, vc, vd, ve, vf, vg, vh⟩ := hv
      generalize kAt t = k at kT HR lk
      generalize (sched s.data.toList 64).getD t 0 = x at wT HR lw
      have hi : (t : Int) < 64 := by omega
      go_wp2_with fail
      go_quiet ((go_at_call 140; exact Calls.quiet_of_same (turned_e _ _ ve)))
      go_wp2_with (go_at_call 140; refine (turned_a _ _ va).mono ?_; rintro e w3 ⟨rfl, rfl⟩)
      go_roundw
      case rel =>
        refine ⟨t + 1, rnd v k x, by omega, by go_num, ?_, rfl, rfl, rfl, ?_, rfl, rfl, rfl, rnd_ok HK.out _ _, Lib.hid HR.out.symm, hA, hl, hT, hO.drewN _⟩
        · rw [ch_walk _ _ _ ve vf vg, maj_walk _ _ _ va vb vc]
          exact val_int (by simp only [rnd, tmp1, tmp2]; omega)
        · rw [ch_walk _ _ _ ve vf vg]
          exact val_int (by simp only [rnd, tmp1]; omega)
      case measure => simp [intOf]; omega
    · obtain rfl : t = 64 := by omega
      rw [show ((64 : Nat) : Int) = 64 from rfl]
      have hix := index_eight v
      go_wp2_with fail
      go_loopw [128] (fun i wr => ∃ t : Nat, t ≤ 8 ∧ i = .int .i64 t ∧ Lies wr g 153 (partA H v buf n t) ∧ Only g w wr) (fun i _ => 8 - (intOf i).toNat)
      case atStart => exact ⟨0, by omega, rfl, hl, hO⟩
      case round =>
        clear hA hl hT hO
        obtain ⟨t, ht, rfl, hl, hO⟩ := hrel
        by_cases hlt : t < 8
        · have hx := hix t hlt
          clear hix
          have hc := (hl.cell t).trans (partA_at H v buf n t hlt)
          have hf := hl.frozen t
          have hi : (t : Int) < 8 := by omega
          have HP := Lib.hid (partA_set H v buf n t hlt)
          go_wp2_with fail
          refine wp_region_still_tail 13 (by kernel_rfl) (by kernel_rfl) ?_
          simp only [List.take_succ_cons, List.take_zero, List.drop_succ_cons, List.drop_zero]
          change wpStill _ _ wr.drew _ _ _
          repeat still_step
          refine wpStill_nil ?_
          change wpList _ _ _ _ _ wr.drew
          go_wp2
          go_roundw
          case rel =>
            exact ⟨t + 1, by omega, by go_num, by rw [← HP.out, plus_cast]; exact (hl.put t _).drew, (hO.put (Or.inl rfl) _).drew⟩
          case measure => simp [intOf]; omega
        · obtain rfl : t = 8 := by omega
          clear hix
          go_wp2
          go_end0
          exact ⟨rfl, by rw [mix, ← HV.out]; exact hl, hO⟩

end Go.Proofs.YtdjglghecekeoaaGreatDoor.U

