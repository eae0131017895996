/- The contracts of the program's small calls on words: a word turned left by a contrary number, the two xors, the word of four bytes. -/
import Derived.Test.YtopblemgkcdgnaaDoorSMath
import Derived.Test.YtopblemgkcdgnaaDoorBase
import Derived.Laws.BitsAllLaws
import Derived.Laws.ShiftsVarLaws
import Derived.Deep.QuietTactic
import Derived.BigQuiet
namespace Go.Proofs.YtopblemgkcdgnaaDoor
open Go.RowKit

theorem low_five (n m : Nat) (h : n + m = 32) (h1 : 0 < n) (h2 : 0 < m) : bits BinOp.and IntKind.u64 (IntKind.u64.wrap (-(n : Int))) 31 = (m : Int) := by
  have e : IntKind.u64.wrap (-(n : Int)) = ((18446744073709551616 - n : Nat) : Int) := by rw [IntKind.wrap_u64]; omega
  have hh : (18446744073709551616 - n) &&& 31 = m := by
    have h3 : (18446744073709551616 - n) &&& (2 ^ 5 - 1) = (18446744073709551616 - n) % 2 ^ 5 := Nat.and_two_pow_sub_one_eq_mod _ 5
    rw [show (31 : Nat) = 2 ^ 5 - 1 by decide, h3]
    omega
  rw [e, show (31 : Int) = ((31 : Nat) : Int) by rfl, u64_and_nat _ _ (by omega) (by omega), hh]

theorem rot_eq (x n m : Nat) (h : n + m = 32) (hx : x < 4294967296) : bits BinOp.or IntKind.u32 ((x : Int) * 2 ^ m % 4294967296) ((x : Int) / 2 ^ n) = ((rotr x n : Nat) : Int) := by
  have e1 : (x : Int) * 2 ^ m % 4294967296 = ((x * 2 ^ m % 4294967296 : Nat) : Int) := by rw [Int.natCast_emod, Int.natCast_mul, Int.natCast_pow]; rfl
  have e2 : (x : Int) / 2 ^ n = ((x / 2 ^ n : Nat) : Int) := by rw [Int.natCast_ediv, Int.natCast_pow]; rfl
  rw [e1, e2, u32_or_nat _ _ (Nat.mod_lt _ (by decide)) (Nat.lt_of_le_of_lt (Nat.div_le_self _ _) hx), show m = 32 - n by omega, rotr_or x n (by omega) hx]

set_option maxHeartbeats 400000 in
theorem rot_any (x n : Nat) (w : World) (hx : x < 4294967296) (h1 : 0 < n) (h2 : n < 32) :
    Calls Tryd.prog 45 #[.int .u32 x, .int .i64 (-(n : Int))] w fun e w' => e = .returned (.int .u32 (rotr x n)) ∧ w = w' := by
  obtain ⟨m, hm⟩ : ∃ m, n + m = 32 := ⟨32 - n, by omega⟩
  have hm1 : 0 < m := by omega
  have hm2 : m < 32 := by omega
  have hs := low_five n m hm h1 hm1
  have hq := Lib.hid (rot_eq x n m hm hx)
  have hn : (32 - (m : Int)).toNat = n := by omega
  clear hm
  go_enter Tryd.func45, Tryd.ntmps45
  go_wp2
  go_ret
  exact ⟨ret1_of (val_int hq.out), rfl⟩

theorem xor_words {x y z : Nat} (hx : x < 4294967296) (hy : y < 4294967296) (hz : z < 4294967296) : bits BinOp.xor IntKind.u32 (bits BinOp.xor IntKind.u32 (x : Int) (y : Int)) (z : Int) = ((x ^^^ y ^^^ z : Nat) : Int) := by
  rw [u32_xor_nat _ _ hx hy, u32_xor_nat _ _ (xor_lt _ _ hx hy) hz]

set_option maxHeartbeats 400000 in
theorem turned_any (x a b c : Nat) (w : World) (hx : x < 4294967296) (ha : 0 < a) (ha' : a < 32) (hb : 0 < b) (hb' : b < 32) (hc : 0 < c) (hc' : c < 32) :
    Calls Tryd.prog 40 #[.int .u32 x, .int .i64 (a : Int), .int .i64 (b : Int), .int .i64 (c : Int)] w fun e w' => e = .returned (.int .u32 ((rotr x a ^^^ rotr x b ^^^ rotr x c : Nat) : Int)) ∧ w = w' := by
  have H1 := Lib.hid (rot_any x a w hx ha ha')
  have H2 := Lib.hid (rot_any x b w hx hb hb')
  have H3 := Lib.hid (rot_any x c w hx hc hc')
  have hq := Lib.hid (xor_words (rotr_lt x a hx (by omega)) (rotr_lt x b hx (by omega)) (rotr_lt x c hx (by omega)))
  go_enter Tryd.func40, Tryd.ntmps40
  go_wp2_with (go_at_call 45; first | ((with_reducible refine H1.out.mono ?_); rintro e w1 ⟨rfl, rfl⟩) | ((with_reducible refine H2.out.mono ?_); rintro e w1 ⟨rfl, rfl⟩) | ((with_reducible refine H3.out.mono ?_); rintro e w1 ⟨rfl, rfl⟩))
  go_ret
  exact ⟨ret1_of (val_int hq.out), rfl⟩

set_option maxHeartbeats 400000 in
theorem moved_any (x a b c : Nat) (w : World) (hx : x < 4294967296) (ha : 0 < a) (ha' : a < 32) (hb : 0 < b) (hb' : b < 32) (hc' : c < 32) :
    Calls Tryd.prog 44 #[.int .u32 x, .int .i64 (a : Int), .int .i64 (b : Int), .int .u64 (c : Int)] w fun e w' => e = .returned (.int .u32 ((rotr x a ^^^ rotr x b ^^^ x / 2 ^ c : Nat) : Int)) ∧ w = w' := by
  have H1 := Lib.hid (rot_any x a w hx ha ha')
  have H2 := Lib.hid (rot_any x b w hx hb hb')
  have hq := Lib.hid (xor_words (rotr_lt x a hx (by omega)) (rotr_lt x b hx (by omega)) (Nat.lt_of_le_of_lt (Nat.div_le_self x (2 ^ c)) hx))
  have hd : ((x / 2 ^ c : Nat) : Int) = (x : Int) / 2 ^ c := by rw [Int.natCast_ediv, Int.natCast_pow]; rfl
  have HD := Lib.hid hd
  clear hd
  go_enter Tryd.func44, Tryd.ntmps44
  go_wp2_with (go_at_call 45; first | ((with_reducible refine H1.out.mono ?_); rintro e w1 ⟨rfl, rfl⟩) | ((with_reducible refine H2.out.mono ?_); rintro e w1 ⟨rfl, rfl⟩))
  go_ret
  exact ⟨ret1_of (val_int (by rw [← hq.out, HD.out])), rfl⟩

theorem turned_e (x : Nat) (w : World) (hx : x < 4294967296) : Calls Tryd.prog 40 #[.int .u32 x, .int .i64 6, .int .i64 11, .int .i64 25] w fun e w' => e = .returned (.int .u32 (bsig1 x : Nat)) ∧ w' = w :=
  (turned_any x 6 11 25 w hx (by decide) (by decide) (by decide) (by decide) (by decide) (by decide)).mono fun _ _ ⟨he, hw⟩ => ⟨he, hw.symm⟩
theorem turned_a (x : Nat) (w : World) (hx : x < 4294967296) : Calls Tryd.prog 40 #[.int .u32 x, .int .i64 2, .int .i64 13, .int .i64 22] w fun e w' => e = .returned (.int .u32 (bsig0 x : Nat)) ∧ w' = w :=
  (turned_any x 2 13 22 w hx (by decide) (by decide) (by decide) (by decide) (by decide) (by decide)).mono fun _ _ ⟨he, hw⟩ => ⟨he, hw.symm⟩
theorem moved_one (x : Nat) (w : World) (hx : x < 4294967296) : Calls Tryd.prog 44 #[.int .u32 x, .int .i64 17, .int .i64 19, .int .u64 10] w fun e w' => e = .returned (.int .u32 (ssig1 x : Nat)) ∧ w' = w :=
  (moved_any x 17 19 10 w hx (by decide) (by decide) (by decide) (by decide) (by decide)).mono fun _ _ ⟨he, hw⟩ => ⟨he, hw.symm⟩
theorem moved_zero (x : Nat) (w : World) (hx : x < 4294967296) : Calls Tryd.prog 44 #[.int .u32 x, .int .i64 7, .int .i64 18, .int .u64 3] w fun e w' => e = .returned (.int .u32 (ssig0 x : Nat)) ∧ w' = w :=
  (moved_any x 7 18 3 w hx (by decide) (by decide) (by decide) (by decide) (by decide)).mono fun _ _ ⟨he, hw⟩ => ⟨he, hw.symm⟩

theorem or_low (x y k : Nat) (h : y < 2 ^ k) : (x * 2 ^ k) ||| y = x * 2 ^ k + y := by
  rw [← Nat.shiftLeft_eq, ← Nat.shiftLeft_add_eq_or_of_lt h]
theorem word_eq (a b c d : UInt8) : bits BinOp.or IntKind.u32 (bits BinOp.or IntKind.u32 (bits BinOp.or IntKind.u32 (IntKind.u32.wrap (IntKind.u32.wrap (a.toNat : Int) * 16777216)) (IntKind.u32.wrap (IntKind.u32.wrap (b.toNat : Int) * 65536))) (IntKind.u32.wrap (IntKind.u32.wrap (c.toNat : Int) * 256))) (IntKind.u32.wrap (d.toNat : Int)) = ((numL [a, b, c, d] : Nat) : Int) := by
  have ha := u8_lt a
  have hb := u8_lt b
  have hc := u8_lt c
  have hd := u8_lt d
  have e1 : IntKind.u32.wrap (IntKind.u32.wrap (a.toNat : Int) * 16777216) = ((a.toNat * 2 ^ 24 : Nat) : Int) := by rw [IntKind.wrap_u32, IntKind.wrap_u32]; omega
  have e2 : IntKind.u32.wrap (IntKind.u32.wrap (b.toNat : Int) * 65536) = ((b.toNat * 65536 : Nat) : Int) := by rw [IntKind.wrap_u32, IntKind.wrap_u32]; omega
  have e3 : IntKind.u32.wrap (IntKind.u32.wrap (c.toNat : Int) * 256) = ((c.toNat * 256 : Nat) : Int) := by rw [IntKind.wrap_u32, IntKind.wrap_u32]; omega
  have e4 : IntKind.u32.wrap (d.toNat : Int) = ((d.toNat : Nat) : Int) := by rw [IntKind.wrap_u32]; omega
  have f1 : (a.toNat * 2 ^ 24) ||| (b.toNat * 65536) = (a.toNat * 256 + b.toNat) * 2 ^ 16 := by rw [or_low _ _ 24 (by omega)]; omega
  have f2 : ((a.toNat * 256 + b.toNat) * 2 ^ 16) ||| (c.toNat * 256) = (a.toNat * 65536 + b.toNat * 256 + c.toNat) * 2 ^ 8 := by rw [or_low _ _ 16 (by omega)]; omega
  have f3 : ((a.toNat * 65536 + b.toNat * 256 + c.toNat) * 2 ^ 8) ||| d.toNat = numL [a, b, c, d] := by
    rw [or_low _ _ 8 (by omega)]
    simp only [numL, List.foldl]
    omega
  rw [e1, e2, e3, e4, u32_or_nat _ _ (by omega) (by omega), f1, u32_or_nat _ _ (by omega) (by omega), f2, u32_or_nat _ _ (by omega) (by omega), f3]
theorem four_bytes (s : ByteArray) (h : s.size = 4) : s.data.toList = [s[0], s[1], s[2], s[3]] := by
  have hl : s.data.toList.length = 4 := by rw [← Lib.size_eq]; exact h
  apply List.ext_getElem (by simpa using hl)
  intro i h1 h2
  match i, h2 with
  | 0, _ => rfl
  | 1, _ => rfl
  | 2, _ => rfl
  | 3, _ => rfl

set_option maxHeartbeats 400000 in
theorem word_any (s : ByteArray) (w : World) (hs : s.size = 4) :
    Calls Tryd.prog 43 #[.string s] w fun e w' => e = .returned (.int .u32 (numL s.data.toList)) ∧ ∃ n, w' = w.drewN n := by
  have h0 : 0 < s.size := by omega
  have h1 : (1 : Int) < (s.size : Int) := by omega
  have h2 : (2 : Int) < (s.size : Int) := by omega
  have h3 : (3 : Int) < (s.size : Int) := by omega
  have n1 : 1 < s.size := by omega
  have n2 : 2 < s.size := by omega
  have n3 : 3 < s.size := by omega
  have HS := Lib.hid hs
  clear hs
  have HQ := Lib.hid ((word_eq (s[0]'h0) (s[1]'n1) (s[2]'n2) (s[3]'n3)).trans (by rw [← four_bytes s HS.out]))
  go_enter Tryd.func43, Tryd.ntmps43
  go_wp2
  go_quiet (fail)
  go_wp2
  go_ret
  exact ⟨ret1_of (val_int HQ.out), _, rfl⟩
end Go.Proofs.YtopblemgkcdgnaaDoor
