/- Texts that stand on one another, put together: URot, USpread, UAdd, URefMix. -/
import Derived.Test.YtpcckanhmdlahaaDoorK1
import Derived.BigQuiet
import Derived.Deep.CutRange
import Derived.Deep.MidRow
import Derived.Deep.QuietTactic
import Derived.Deep.RegionWith
import Derived.Deep.WholeRow
import Derived.Laws.BitsAllLaws
import Derived.Laws.ShiftsVarLaws
import Derived.Outline
import Derived.StillTailTactics
/- The contracts of the program's small calls on words: a word turned left by a contrary number, the two xors, the word of four bytes. -/
namespace Go.Proofs.YtpcckanhmdlahaaDoor.U
open Go.RowKit
set_option maxRecDepth 100000

theorem low_five (n m : Nat) (h : n + m = 32) (h1 : 0 < n) (h2 : 0 < m) : bits BinOp.and IntKind.u64 (IntKind.u64.wrap (-(n : Int))) 31 = (m : Int) := by
  have e : IntKind.u64.wrap (-(n : Int)) = ((18446744073709551616 - n : Nat) : Int) := by rw [IntKind.wrap_u64]; omega
  have hh : (18446744073709551616 - n) &&& 31 = m := by
    have h3 : (18446744073709551616 - n) &&& (2 ^ 5 - 1) = (18446744073709551616 - n) % 2 ^ 5 := Nat.and_two_pow_sub_one_eq_mod _ 5
    rw [show (31 : Nat) = 2 ^ 5 - 1 by decide, h3]
    omega
  rw [e, show (31 : Int) = ((31 : Nat) : Int) by rfl, u64_and_nat _ _ (by omega) (by omega), hh]

theorem rot_eq (x n m : Nat) (h : n + m = 32) (hx : x < 4294967296) : bits BinOp.or IntKind.u32 ((x : Int) * 2 ^ m % 4294967296) ((x : Int) / 2 ^ n) = ((rotr x n : Nat) : Int) := by
  have e1 : (x : Int) * 2 ^ m % 4294967296 = ((x * 2 ^ m % 4294967296 : Nat) : Int) := by rw [Int.natCast_emod, Int.natCast_mul, Int.natCast_pow]; rfl
  have e2 : (x : Int) / 2 ^ n = ((x / 2 ^ n : Nat) : Int) := by rw [Int.natCast_ediv, Int.natCast_pow]; rfl
  rw [e1, e2, u32_or_nat _ _ (Nat.mod_lt _ (by decide)) (Nat.lt_of_le_of_lt (Nat.div_le_self _ _) hx), show m = 32 - n by omega, rotr_or x n (by omega) hx]

set_option maxHeartbeats 400000 in
theorem rot_any (x n : Nat) (w : World) (hx : x < 4294967296) (h1 : 0 < n) (h2 : n < 32) :
    Calls Tryd.prog 73 #[.int .u32 x, .int .i64 (-(n : Int))] w fun e w' => e = .returned (.int .u32 (rotr x n)) ∧ w = w' := by
  obtain ⟨m, hm⟩ : ∃ m, n + m = 32 := ⟨32 - n, by omega⟩
  have hm1 : 0 < m := by omega
  have hm2 : m < 32 := by omega
  have hs := low_five n m hm h1 hm1
  have hq := Lib.hid (rot_eq x n m hm hx)
  have hn : (32 - (m : Int)).toNat = n := by omega
  clear hm
  go_enter Tryd.func73, Tryd.ntmps73
  go_wp2
  go_ret
  exact ⟨ret1_of (val_int hq.out), rfl⟩

theorem xor_words {x y z : Nat} (hx : x < 4294967296) (hy : y < 4294967296) (hz : z < 4294967296) : bits BinOp.xor IntKind.u32 (bits BinOp.xor IntKind.u32 (x : Int) (y : Int)) (z : Int) = ((x ^^^ y ^^^ z : Nat) : Int) := by
  rw [u32_xor_nat _ _ hx hy, u32_xor_nat _ _ (xor_lt _ _ hx hy) hz]

set_option maxHeartbeats 400000 in
theorem turned_any (x a b c : Nat) (w : World) (hx : x < 4294967296) (ha : 0 < a) (ha' : a < 32) (hb : 0 < b) (hb' : b < 32) (hc : 0 < c) (hc' : c < 32) :
    Calls Tryd.prog 63 #[.int .u32 x, .int .i64 (a : Int), .int .i64 (b : Int), .int .i64 (c : Int)] w fun e w' => e = .returned (.int .u32 ((rotr x a ^^^ rotr x b ^^^ rotr x c : Nat) : Int)) ∧ w = w' := by
  have H1 := Lib.hid (rot_any x a w hx ha ha')
  have H2 := Lib.hid (rot_any x b w hx hb hb')
  have H3 := Lib.hid (rot_any x c w hx hc hc')
  have hq := Lib.hid (xor_words (rotr_lt x a hx (by omega)) (rotr_lt x b hx (by omega)) (rotr_lt x c hx (by omega)))
  go_enter Tryd.func63, Tryd.ntmps63
  go_wp2_with (go_at_call 73; first | ((with_reducible refine H1.out.mono ?_); rintro e w1 ⟨rfl, rfl⟩) | ((with_reducible refine H2.out.mono ?_); rintro e w1 ⟨rfl, rfl⟩) | ((with_reducible refine H3.out.mono ?_); rintro e w1 ⟨rfl, rfl⟩))
  go_ret
  exact ⟨ret1_of (val_int hq.out), rfl⟩

set_option maxHeartbeats 400000 in
theorem moved_any (x a b c : Nat) (w : World) (hx : x < 4294967296) (ha : 0 < a) (ha' : a < 32) (hb : 0 < b) (hb' : b < 32) (hc' : c < 32) :
    Calls Tryd.prog 72 #[.int .u32 x, .int .i64 (a : Int), .int .i64 (b : Int), .int .u64 (c : Int)] w fun e w' => e = .returned (.int .u32 ((rotr x a ^^^ rotr x b ^^^ x / 2 ^ c : Nat) : Int)) ∧ w = w' := by
  have H1 := Lib.hid (rot_any x a w hx ha ha')
  have H2 := Lib.hid (rot_any x b w hx hb hb')
  have hq := Lib.hid (xor_words (rotr_lt x a hx (by omega)) (rotr_lt x b hx (by omega)) (Nat.lt_of_le_of_lt (Nat.div_le_self x (2 ^ c)) hx))
  have hd : ((x / 2 ^ c : Nat) : Int) = (x : Int) / 2 ^ c := by rw [Int.natCast_ediv, Int.natCast_pow]; rfl
  have HD := Lib.hid hd
  clear hd
  go_enter Tryd.func72, Tryd.ntmps72
  go_wp2_with (go_at_call 73; first | ((with_reducible refine H1.out.mono ?_); rintro e w1 ⟨rfl, rfl⟩) | ((with_reducible refine H2.out.mono ?_); rintro e w1 ⟨rfl, rfl⟩))
  go_ret
  exact ⟨ret1_of (val_int (by rw [← hq.out, HD.out])), rfl⟩

theorem turned_e (x : Nat) (w : World) (hx : x < 4294967296) : Calls Tryd.prog 63 #[.int .u32 x, .int .i64 6, .int .i64 11, .int .i64 25] w fun e w' => e = .returned (.int .u32 (bsig1 x : Nat)) ∧ w' = w :=
  (turned_any x 6 11 25 w hx (by decide) (by decide) (by decide) (by decide) (by decide) (by decide)).mono fun _ _ ⟨he, hw⟩ => ⟨he, hw.symm⟩
theorem turned_a (x : Nat) (w : World) (hx : x < 4294967296) : Calls Tryd.prog 63 #[.int .u32 x, .int .i64 2, .int .i64 13, .int .i64 22] w fun e w' => e = .returned (.int .u32 (bsig0 x : Nat)) ∧ w' = w :=
  (turned_any x 2 13 22 w hx (by decide) (by decide) (by decide) (by decide) (by decide) (by decide)).mono fun _ _ ⟨he, hw⟩ => ⟨he, hw.symm⟩
theorem moved_one (x : Nat) (w : World) (hx : x < 4294967296) : Calls Tryd.prog 72 #[.int .u32 x, .int .i64 17, .int .i64 19, .int .u64 10] w fun e w' => e = .returned (.int .u32 (ssig1 x : Nat)) ∧ w' = w :=
  (moved_any x 17 19 10 w hx (by decide) (by decide) (by decide) (by decide) (by decide)).mono fun _ _ ⟨he, hw⟩ => ⟨he, hw.symm⟩
theorem moved_zero (x : Nat) (w : World) (hx : x < 4294967296) : Calls Tryd.prog 72 #[.int .u32 x, .int .i64 7, .int .i64 18, .int .u64 3] w fun e w' => e = .returned (.int .u32 (ssig0 x : Nat)) ∧ w' = w :=
  (moved_any x 7 18 3 w hx (by decide) (by decide) (by decide) (by decide) (by decide)).mono fun _ _ ⟨he, hw⟩ => ⟨he, hw.symm⟩

theorem or_low (x y k : Nat) (h : y < 2 ^ k) : (x * 2 ^ k) ||| y = x * 2 ^ k + y := by
  rw [← Nat.shiftLeft_eq, ← Nat.shiftLeft_add_eq_or_of_lt h]
theorem word_eq (a b c d : UInt8) : bits BinOp.or IntKind.u32 (bits BinOp.or IntKind.u32 (bits BinOp.or IntKind.u32 (IntKind.u32.wrap (IntKind.u32.wrap (a.toNat : Int) * 16777216)) (IntKind.u32.wrap (IntKind.u32.wrap (b.toNat : Int) * 65536))) (IntKind.u32.wrap (IntKind.u32.wrap (c.toNat : Int) * 256))) (IntKind.u32.wrap (d.toNat : Int)) = ((numL [a, b, c, d] : Nat) : Int) := by
  have ha := u8_lt a
  have hb := u8_lt b
  have hc := u8_lt c
  have hd := u8_lt d
  have e1 : IntKind.u32.wrap (IntKind.u32.wrap (a.toNat : Int) * 16777216) = ((a.toNat * 2 ^ 24 : Nat) : Int) := by rw [IntKind.wrap_u32, IntKind.wrap_u32]; omega
  have e2 : IntKind.u32.wrap (IntKind.u32.wrap (b.toNat : Int) * 65536) = ((b.toNat * 65536 : Nat) : Int) := by rw [IntKind.wrap_u32, IntKind.wrap_u32]; omega
  have e3 : IntKind.u32.wrap (IntKind.u32.wrap (c.toNat : Int) * 256) = ((c.toNat * 256 : Nat) : Int) := by rw [IntKind.wrap_u32, IntKind.wrap_u32]; omega
  have e4 : IntKind.u32.wrap (d.toNat : Int) = ((d.toNat : Nat) : Int) := by rw [IntKind.wrap_u32]; omega
  have f1 : (a.toNat * 2 ^ 24) ||| (b.toNat * 65536) = (a.toNat * 256 + b.toNat) * 2 ^ 16 := by rw [or_low _ _ 24 (by omega)]; omega
  have f2 : ((a.toNat * 256 + b.toNat) * 2 ^ 16) ||| (c.toNat * 256) = (a.toNat * 65536 + b.toNat * 256 + c.toNat) * 2 ^ 8 := by rw [or_low _ _ 16 (by omega)]; omega
  have f3 : ((a.toNat * 65536 + b.toNat * 256 + c.toNat) * 2 ^ 8) ||| d.toNat = numL [a, b, c, d] := by
    rw [or_low _ _ 8 (by omega)]
    simp only [numL, List.foldl]
    omega
  rw [e1, e2, e3, e4, u32_or_nat _ _ (by omega) (by omega), f1, u32_or_nat _ _ (by omega) (by omega), f2, u32_or_nat _ _ (by omega) (by omega), f3]
theorem four_bytes (s : ByteArray) (h : s.size = 4) : s.data.toList = [s[0], s[1], s[2], s[3]] := by
  have hl : s.data.toList.length = 4 := by rw [← Lib.size_eq]; exact h
  apply List.ext_getElem (by simpa using hl)
  intro i h1 h2
  match i, h2 with
  | 0, _ => rfl
  | 1, _ => rfl
  | 2, _ => rfl
  | 3, _ => rfl

set_option maxHeartbeats 400000 in
theorem word_any (s : ByteArray) (w : World) (hs : s.size = 4) :
    Calls Tryd.prog 71 #[.string s] w fun e w' => e = .returned (.int .u32 (numL s.data.toList)) ∧ ∃ n, w' = w.drewN n := by
  have h0 : 0 < s.size := by omega
  have h1 : (1 : Int) < (s.size : Int) := by omega
  have h2 : (2 : Int) < (s.size : Int) := by omega
  have h3 : (3 : Int) < (s.size : Int) := by omega
  have n1 : 1 < s.size := by omega
  have n2 : 2 < s.size := by omega
  have n3 : 3 < s.size := by omega
  have HS := Lib.hid hs
  clear hs
  have HQ := Lib.hid ((word_eq (s[0]'h0) (s[1]'n1) (s[2]'n2) (s[3]'n3)).trans (by rw [← four_bytes s HS.out]))
  go_enter Tryd.func71, Tryd.ntmps71
  go_wp2
  go_quiet (fail)
  go_wp2
  go_ret
  exact ⟨ret1_of (val_int HQ.out), _, rfl⟩
end Go.Proofs.YtpcckanhmdlahaaDoor.U

/- The contract of the program's spread: a block as a word for each round. -/
namespace Go.Proofs.YtpcckanhmdlahaaDoor.U
open Go.RowKit
set_option maxRecDepth 100000

/-- what lies in the row of words when t of them are there -/
def allA (b : List UInt8) (t : Nat) : Array Value := ((sched b t).map u32 ++ List.replicate (64 - t) (u32 0)).toArray
theorem allA_at (b : List UInt8) (t i : Nat) (h : i < t) : (allA b t)[i]? = some (u32 ((sched b t).getD i 0)) := by
  have hl := sched_length b t
  unfold allA
  rw [List.getElem?_toArray, List.getElem?_append_left (by simp; omega), List.getElem?_map, List.getD_eq_getElem?_getD, List.getElem?_eq_getElem (by omega)]
  rfl
theorem allA_next (b : List UInt8) (t : Nat) (h : t < 64) : (allA b t)[t]? = some (u32 0) := by
  have hl := sched_length b t
  unfold allA
  rw [List.getElem?_toArray, List.getElem?_append_right (by simp [hl]), List.getElem?_replicate, if_pos (by simp [hl]; omega)]
theorem allA_set (b : List UInt8) (t : Nat) (h : t < 64) (x : Nat) (hx : sched b (t + 1) = sched b t ++ [x]) : (allA b t).setIfInBounds t (u32 x) = allA b (t + 1) := by
  have hl := sched_length b t
  unfold allA
  rw [List.setIfInBounds_toArray]
  congr 1
  rw [List.set_append_right _ _ (by simp [hl]), hx, List.map_append, List.length_map, hl, Nat.sub_self, show 64 - t = (64 - (t + 1)) + 1 by omega, List.replicate_succ, List.set_cons_zero, List.append_assoc]
  rfl
theorem sched_head (b : List UInt8) (t : Nat) (h : t < 16) : sched b (t + 1) = sched b t ++ [numL ((b.drop (4 * t)).take 4)] := by rw [sched, if_pos h]
theorem sched_rest (b : List UInt8) (t : Nat) (h : ¬ t < 16) : sched b (t + 1) = sched b t ++ [(ssig1 ((sched b t).getD (t - 2) 0) + (sched b t).getD (t - 7) 0 + ssig0 ((sched b t).getD (t - 15) 0) + (sched b t).getD (t - 16) 0) % 4294967296] := by rw [sched, if_neg h]

theorem extract_list (s : ByteArray) (a b : Nat) : (s.extract a b).data.toList = (s.data.toList.drop a).take (b - a) := by
  rw [ByteArray.data_extract, Array.toList_extract, List.extract_eq_take_drop]
theorem extract_size (s : ByteArray) (a b : Nat) (h : b ≤ s.size) : (s.extract a b).size = b - a := by
  rw [ByteArray.size_extract]; omega

theorem allA_size (b : List UInt8) (t : Nat) (h : t ≤ 64) : (allA b t).size = 64 := by
  have hl := sched_length b t
  simp [allA, hl]
  omega
theorem allA_one (b : List UInt8) (t : Nat) : Ones (allA b t) := by
  refine ones_of fun v hv => ?_
  rw [List.mem_append, List.mem_map, List.mem_replicate] at hv
  rcases hv with ⟨x, _, rfl⟩ | ⟨_, rfl⟩ <;> rfl
theorem sum_words (a b c d : Nat) :
    ((ssig1 a : Nat) + (b : Int) + (ssig0 c : Nat) + (d : Int)) % 4294967296 = (((ssig1 a + b + ssig0 c + d) % 4294967296 : Nat) : Int) := by
  generalize ssig1 a = p
  generalize ssig0 c = q
  omega

set_option maxRecDepth 100000 in
set_option maxHeartbeats 1600000 in
theorem spread_any (s : ByteArray) (w : World) (hs : s.size = 64) :
    Calls Tryd.prog 62 #[.string s] w fun e w' => e = .returned (.agg (allA s.data.toList 64)) ∧ Below w.heap.size w w' := by
  have HS := Lib.hid hs
  have hs1 : 64 ≤ s.size := by omega
  have hs2 : s.size ≤ 64 := by omega
  clear hs
  go_enter Tryd.func62, Tryd.ntmps62
  go_wp2
  go_loopw [6] (fun i wr => ∃ t : Nat, t ≤ 16 ∧ i = .int .i64 t ∧ Lies wr (w.heap.size + 1) 94 (allA s.data.toList t) ∧ Lies wr w.heap.size 94 (allA s.data.toList 0) ∧ Below w.heap.size w wr) (fun i _ => 16 - (intOf i).toNat)
  case atStart => exact ⟨0, Nat.zero_le _, rfl, heap_alloc2_new w _ _, heap_alloc2_old w _ _, ((Below.refl _ w).alloc (Nat.le_refl _) _).alloc (by simp) _⟩
  case round =>
    obtain ⟨t, ht, rfl, hl, hr, hb⟩ := hrel
    by_cases hlt : t < 16
    · have hc := (hl.cell t).trans (allA_next s.data.toList t (by omega))
      have hf := hl.frozen t
      have HN := Lib.hid (allA_set s.data.toList t (by omega) _ (sched_head s.data.toList t hlt))
      have HW := Lib.hid (show 4 * (t + 1) - 4 * t = 4 by omega)
      have HZ := Lib.hid (show (s.extract (4 * t) (4 * (t + 1))).size = 4 by rw [extract_size _ _ _ (by omega)]; omega)
      go_wp2_with (go_at_call 71; refine (word_any _ _ HZ.out).mono ?_; rintro e w1 ⟨rfl, n1, rfl⟩)
      go_roundw
      case rel => exact ⟨t + 1, by omega, by go_num, by rw [HW.out, ← HN.out]; exact (hl.drewN n1).put t _, (hr.drewN n1).far (by simp) _, (below_drawn hb n1).setCell (by simp) _⟩
      case measure => simp [intOf]; omega
    · obtain rfl : t = 16 := by omega
      rw [show ((16 : Nat) : Int) = 16 from rfl]
      go_wp2_with fail
      go_loopw [5] (fun i wr => ∃ t : Nat, 16 ≤ t ∧ t ≤ 64 ∧ i = .int .i64 t ∧ Lies wr (w.heap.size + 1) 94 (allA s.data.toList t) ∧ Lies wr w.heap.size 94 (allA s.data.toList 0) ∧ Below w.heap.size w wr) (fun i _ => 64 - (intOf i).toNat)
      case atStart => exact ⟨16, by omega, by omega, rfl, hl, hr, hb⟩
      case round =>
        rename_i wo
        clear hl hr hb
        obtain ⟨t, ht1, ht2, rfl, hl, hr, hb⟩ := hrel
        by_cases hlt : t < 64
        · have hc := (hl.cell t).trans (allA_next s.data.toList t (by omega))
          have hf := hl.frozen t
          have k2 := (hl.cell (t - 2)).trans (allA_at s.data.toList t (t - 2) (by omega))
          have k7 := (hl.cell (t - 7)).trans (allA_at s.data.toList t (t - 7) (by omega))
          have k15 := (hl.cell (t - 15)).trans (allA_at s.data.toList t (t - 15) (by omega))
          have k16 := (hl.cell (t - 16)).trans (allA_at s.data.toList t (t - 16) (by omega))
          have HN := Lib.hid (allA_set s.data.toList t (by omega) _ (sched_rest s.data.toList t (by omega)))
          have l2 := sched_at_lt s.data.toList t (t - 2)
          have l7 := sched_at_lt s.data.toList t (t - 7)
          have l15 := sched_at_lt s.data.toList t (t - 15)
          have l16 := sched_at_lt s.data.toList t (t - 16)
          have e2 : IntKind.i64.wrap ((t : Int) - 2) = ((t - 2 : Nat) : Int) := by rw [IntWalk.i64_in _ (by omega)]; omega
          have e7 : IntKind.i64.wrap ((t : Int) - 7) = ((t - 7 : Nat) : Int) := by rw [IntWalk.i64_in _ (by omega)]; omega
          have e15 : IntKind.i64.wrap ((t : Int) - 15) = ((t - 15 : Nat) : Int) := by rw [IntWalk.i64_in _ (by omega)]; omega
          have e16 : IntKind.i64.wrap ((t : Int) - 16) = ((t - 16 : Nat) : Int) := by rw [IntWalk.i64_in _ (by omega)]; omega
          have b2 : ((t - 2 : Nat) : Int) < 64 := by omega
          have b7 : ((t - 7 : Nat) : Int) < 64 := by omega
          have b15 : ((t - 15 : Nat) : Int) < 64 := by omega
          have b16 : ((t - 16 : Nat) : Int) < 64 := by omega
          generalize t - 2 = u2 at e2 b2 k2 l2 HN
          generalize t - 7 = u7 at e7 b7 k7 l7 HN
          generalize t - 15 = u15 at e15 b15 k15 l15 HN
          generalize t - 16 = u16 at e16 b16 k16 l16 HN
          generalize (sched s.data.toList t).getD u2 0 = x2 at k2 l2 HN
          generalize (sched s.data.toList t).getD u7 0 = x7 at k7 l7 HN
          generalize (sched s.data.toList t).getD u15 0 = x15 at k15 l15 HN
          generalize (sched s.data.toList t).getD u16 0 = x16 at k16 l16 HN
          go_wp2_with fail
          refine wp_region_still_tail 23 (by kernel_rfl) (by kernel_rfl) ?_
          simp only [List.take_succ_cons, List.take_zero, List.drop_succ_cons, List.drop_zero]
          change wpStill _ _ wr.drew _ _ _
          repeat still_step
          still_call (moved_one _ _ l2)
          repeat still_step
          still_call (moved_zero _ _ l15)
          repeat still_step
          refine wpStill_nil ?_
          change wpList _ _ _ _ _ wr.drew
          go_wp2
          go_roundw
          case rel =>
            exact ⟨t + 1, by omega, by omega, by go_num, by rw [← HN.out, sum_words]; exact (hl.put t _).drew, (hr.far (by simp) _).drew, (hb.setCell (by simp) _).drew⟩
          case measure => simp [intOf]; omega
        · obtain rfl : t = 64 := by omega
          have HN := Lib.hid (allA_size s.data.toList 64 (by omega))
          have H0 := Lib.hid (allA_size s.data.toList 0 (by omega))
          have HO := Lib.hid (allA_one s.data.toList 64)
          have HL := Lib.hid hl
          have HR := Lib.hid hr
          clear hl hr
          obtain ⟨cs, hcs⟩ : ∃ cs, allA s.data.toList 64 = cs := ⟨_, rfl⟩
          rw [hcs] at HN HO HL
          have HQ := Lib.hid hcs
          clear hcs
          go_wp2_with (first | ((with_reducible refine wpL_load (w.heap.size + 1) 94 cs 64 row64 HN.out HL.out ?_ ?_); rfl) | ((with_reducible refine wpL_store w.heap.size 94 _ cs 64 row64 H0.out HN.out HO.out HR.out ?_ ?_ ?_); rfl; rfl))
          exact bodyPost_ret (results_row Tryd.results62 row64 HN.out (HR.out.row cs) rfl) rfl ⟨by rw [HQ.out], below_rowSet hb (Nat.le_refl _) _⟩
end Go.Proofs.YtpcckanhmdlahaaDoor.U

/- The contract of the program's add: a block's words go into the sum's. -/
namespace Go.Proofs.YtpcckanhmdlahaaDoor.U
open Go.RowKit
set_option maxRecDepth 100000

/-- the cells of a sum while its words are added up, i of them done -/
def partA (s v : H8) (buf : ByteArray) (n i : Nat) : Array Value :=
  let f := fun (j x y : Nat) => u32 (if j < i then (x + y) % 4294967296 else x)
  #[f 0 s.a v.a, f 1 s.b v.b, f 2 s.c v.c, f 3 s.d v.d, f 4 s.e v.e, f 5 s.f v.f, f 6 s.g v.g, f 7 s.h v.h, .string buf, .int .u64 (n : Int)]
theorem partA_at (s v : H8) (buf : ByteArray) (n i : Nat) (h : i < 8) : (partA s v buf n i)[i]? = some (u32 (s.at i)) := by
  match i, h with
  | 0, _ | 1, _ | 2, _ | 3, _ | 4, _ | 5, _ | 6, _ | 7, _ => rfl
theorem partA_set (s v : H8) (buf : ByteArray) (n i : Nat) (h : i < 8) : (partA s v buf n i).setIfInBounds i (u32 ((s.at i + v.at i) % 4294967296)) = partA s v buf n (i + 1) := by
  match i, h with
  | 0, _ | 1, _ | 2, _ | 3, _ | 4, _ | 5, _ | 6, _ | 7, _ => rfl
theorem index_eight (v : H8) (i : Nat) (h : i < 8) (W : World) : (Instr.index 63 (.agg #[u32 v.a, u32 v.b, u32 v.c, u32 v.d, u32 v.e, u32 v.f, u32 v.g, u32 v.h]) (.int .i64 (i : Int))).run Tryd.prog W = .ok (u32 (v.at i)) W := by
  match i, h with
  | 0, _ | 1, _ | 2, _ | 3, _ | 4, _ | 5, _ | 6, _ | 7, _ => (show _ = _; kernel_rfl)

theorem plus_cast (a b : Nat) : ((a : Int) + (b : Int)) % 4294967296 = (((a + b) % 4294967296 : Nat) : Int) := by omega
theorem ones_xor (e : Nat) (he : e < 4294967296) : 4294967295 ^^^ e = 4294967295 - e := by
  have h := BitVec.toNat_not (x := BitVec.ofNat 32 e)
  rw [BitVec.not_def, BitVec.toNat_xor, BitVec.toNat_allOnes, BitVec.toNat_ofNat, Nat.mod_eq_of_lt (show e < 2 ^ 32 from he)] at h
  exact h
theorem ch_walk (e f g : Nat) (he : e < 4294967296) (hf : f < 4294967296) (hg : g < 4294967296) :
    bits BinOp.xor IntKind.u32 (bits BinOp.and IntKind.u32 (e : Int) (f : Int)) (bits BinOp.and IntKind.u32 (bits BinOp.xor IntKind.u32 (if IntKind.u32.signed = true then -1 else IntKind.u32.max) (e : Int)) (g : Int)) = ((chs e f g : Nat) : Int) := by
  rw [show (if IntKind.u32.signed = true then (-1 : Int) else IntKind.u32.max) = ((4294967295 : Nat) : Int) from rfl, u32_xor_nat _ _ (by decide) he, ones_xor e he, u32_and_nat _ _ he hf, u32_and_nat _ _ (by omega) hg, u32_xor_nat _ _ (and_lt _ _ hf) (and_lt _ _ hg)]
  rfl
theorem maj_walk (a b c : Nat) (ha : a < 4294967296) (hb : b < 4294967296) (hc : c < 4294967296) :
    bits BinOp.xor IntKind.u32 (bits BinOp.xor IntKind.u32 (bits BinOp.and IntKind.u32 (a : Int) (b : Int)) (bits BinOp.and IntKind.u32 (a : Int) (c : Int))) (bits BinOp.and IntKind.u32 (b : Int) (c : Int)) = ((maj a b c : Nat) : Int) := by
  rw [u32_and_nat _ _ ha hb, u32_and_nat _ _ ha hc, u32_and_nat _ _ hb hc, u32_xor_nat _ _ (and_lt _ _ hb) (and_lt _ _ hc), u32_xor_nat _ _ (xor_lt _ _ (and_lt _ _ hb) (and_lt _ _ hc)) (and_lt _ _ hc)]
  rfl

set_option maxRecDepth 100000 in
set_option maxHeartbeats 1600000 in
theorem add_any (s : ByteArray) (g : Nat) (H : H8) (buf : ByteArray) (n : Nat) (w : World) (hs : s.size = 64) (hT : Tab w) (hl : Lies w g 83 (sumA H buf n)) (hok : H.Ok) :
    Calls Tryd.prog 53 #[.pointer (some ⟨g, 0, none⟩), .string s] w fun e w' => e = .returned (.tuple #[]) ∧ Lies w' g 83 (sumA (mix H s.data.toList) buf n) ∧ Only g w w' := by
  have HN := Lib.hid (allA_size s.data.toList 64 (by omega))
  have HO := Lib.hid (allA_one s.data.toList 64)
  have HS := Lib.hid (spread_any s w hs)
  clear hs
  go_enter Tryd.func53, Tryd.ntmps53
  go_wp2_with (first | (go_at_call 62; refine HS.out.mono ?_; rintro e w1 ⟨rfl, hb1⟩) | ((with_reducible refine wpL_store w1.heap.size 94 _ (allA s.data.toList 64) 64 row64 ?_ HN.out HO.out (Lies.new _ _ _) ?_ ?_ ?_); rfl; rfl; rfl))
  generalize hW : World.setRow _ _ _ = W2
  have hb2 : Below w.heap.size w W2 := by rw [← hW]; exact below_rowSet (hb1.alloc hb1.size _) hb1.size _
  have hA : Lies W2 w1.heap.size 94 (allA s.data.toList 64) := by rw [← hW]; exact (Lies.new _ _ _).row _
  have hl2 := hl.on hb2
  have hT2 := hT.below hb2
  have hO2 := Only.of_below hb2 g
  have hne : g ≠ w1.heap.size := by have := hl.lt; have := hb1.size; omega
  have HNE := Lib.hid hne
  have HB := Lib.hid (show w.heap.size ≤ w1.heap.size from hb1.size)
  clear hW hb1 hb2 hl hT hne
  have c0 := hl2.cell 0
  have c1 := hl2.cell 1
  have c2 := hl2.cell 2
  have c3 := hl2.cell 3
  have c4 := hl2.cell 4
  have c5 := hl2.cell 5
  have c6 := hl2.cell 6
  have c7 := hl2.cell 7
  simp only [sumA, List.getElem?_toArray, List.getElem?_cons_zero, List.getElem?_cons_succ] at c0 c1 c2 c3 c4 c5 c6 c7
  go_quiet (fail)
  go_wp2_with fail
  clear c0 c1 c2 c3 c4 c5 c6 c7
  go_loopw [5, 6, 7, 8, 9, 10, 11, 12, 68] (fun a b c d e f gg h i wr => ∃ (t : Nat) (v : H8), t ≤ 64 ∧ i = .int .i64 t ∧ a = u32 v.a ∧ b = u32 v.b ∧ c = u32 v.c ∧ d = u32 v.d ∧ e = u32 v.e ∧ f = u32 v.f ∧ gg = u32 v.g ∧ h = u32 v.h ∧ v.Ok ∧ Hid (v = rnds (sched s.data.toList 64) H t) ∧ Lies wr w1.heap.size 94 (allA s.data.toList 64) ∧ Lies wr g 83 (sumA H buf n) ∧ Tab wr ∧ Only g w wr) (fun _ _ _ _ _ _ _ _ i _ => 64 - (intOf i).toNat)
  case atStart => exact ⟨0, H, by omega, rfl, rfl, rfl, rfl, rfl, rfl, rfl, rfl, rfl, hok, Lib.hid rfl, hA, hl2, hT2, hO2.drewN _⟩
  case round =>
    clear hA hl2 hT2 hO2
    obtain ⟨t, v, ht, rfl, rfl, rfl, rfl, rfl, rfl, rfl, rfl, rfl, hv, HV, hA, hl, hT, hO⟩ := hrel
    by_cases hlt : t < 64
    · have kT : wr.cell? ⟨1, t, none⟩ = some (u32 (kAt t)) := hT.2 t hlt
      have wT : wr.cell? ⟨w1.heap.size, t, none⟩ = some (u32 ((sched s.data.toList 64).getD t 0)) := (hA.cell t).trans (allA_at _ _ _ hlt)
      have HR := Lib.hid (show rnds (sched s.data.toList 64) H (t + 1) = rnd v (kAt t) ((sched s.data.toList 64).getD t 0) by rw [rnds, HV.out])
      have lk := kAt_lt t hlt
      have lw := sched_at_lt s.data.toList 64 t
      have HK := Lib.hid hv
      obtain ⟨va, vb, vc, vd, ve, vf, vg, vh⟩ := hv
      generalize kAt t = k at kT HR lk
      generalize (sched s.data.toList 64).getD t 0 = x at wT HR lw
      have hi : (t : Int) < 64 := by omega
      go_wp2_with fail
      go_quiet ((go_at_call 63; exact Calls.quiet_of_same (turned_e _ _ ve)))
      go_wp2_with (go_at_call 63; refine (turned_a _ _ va).mono ?_; rintro e w3 ⟨rfl, rfl⟩)
      go_roundw
      case rel =>
        refine ⟨t + 1, rnd v k x, by omega, by go_num, ?_, rfl, rfl, rfl, ?_, rfl, rfl, rfl, rnd_ok HK.out _ _, Lib.hid HR.out.symm, hA, hl, hT, hO.drewN _⟩
        · rw [ch_walk _ _ _ ve vf vg, maj_walk _ _ _ va vb vc]
          exact val_int (by simp only [rnd, tmp1, tmp2]; omega)
        · rw [ch_walk _ _ _ ve vf vg]
          exact val_int (by simp only [rnd, tmp1]; omega)
      case measure => simp [intOf]; omega
    · obtain rfl : t = 64 := by omega
      rw [show ((64 : Nat) : Int) = 64 from rfl]
      have hix := index_eight v
      go_wp2_with fail
      go_loopw [128] (fun i wr => ∃ t : Nat, t ≤ 8 ∧ i = .int .i64 t ∧ Lies wr g 83 (partA H v buf n t) ∧ Only g w wr) (fun i _ => 8 - (intOf i).toNat)
      case atStart => exact ⟨0, by omega, rfl, hl, hO⟩
      case round =>
        clear hA hl hT hO
        obtain ⟨t, ht, rfl, hl, hO⟩ := hrel
        by_cases hlt : t < 8
        · have hx := hix t hlt
          clear hix
          have hc := (hl.cell t).trans (partA_at H v buf n t hlt)
          have hf := hl.frozen t
          have hi : (t : Int) < 8 := by omega
          have HP := Lib.hid (partA_set H v buf n t hlt)
          go_wp2_with fail
          refine wp_region_still_tail 13 (by kernel_rfl) (by kernel_rfl) ?_
          simp only [List.take_succ_cons, List.take_zero, List.drop_succ_cons, List.drop_zero]
          change wpStill _ _ wr.drew _ _ _
          repeat still_step
          refine wpStill_nil ?_
          change wpList _ _ _ _ _ wr.drew
          go_wp2
          go_roundw
          case rel =>
            exact ⟨t + 1, by omega, by go_num, by rw [← HP.out, plus_cast]; exact (hl.put t _).drew, (hO.put (Or.inl rfl) _).drew⟩
          case measure => simp [intOf]; omega
        · obtain rfl : t = 8 := by omega
          clear hix
          go_wp2
          go_end0
          exact ⟨rfl, by rw [mix, ← HV.out]; exact hl, hO⟩

end Go.Proofs.YtpcckanhmdlahaaDoor.U

/- The contract of the reference's Mix: eight words behind a block. -/
namespace Go.Proofs.YtpcckanhmdlahaaDoor.U
open Go.RowKit
set_option maxRecDepth 100000

theorem info25 : (Tryd.prog.info? 62).map (fun i => (i.zero, i.size, i.bytes)) = some (some (.int .u32 0), 1, 4) := by kernel_rfl
/-- eight words as a row -/
abbrev wordsA (s : H8) : Array Value := #[u32 s.a, u32 s.b, u32 s.c, u32 s.d, u32 s.e, u32 s.f, u32 s.g, u32 s.h]
/-- the constants as a row -/
def ksA : Array Value := (ks.map u32).toArray
/-- the reference's constants in memory -/
def Keysat (w : World) (g : Nat) : Prop := Lies w g 62 ksA

theorem byte_step (s : ByteArray) (t k : Nat) (hk : k < 4) (hi : 4 * t + k < s.size) : numL ((s.data.toList.drop (4 * t)).take (k + 1)) = 256 * numL ((s.data.toList.drop (4 * t)).take k) + (s[4 * t + k]'hi).toNat ∧ numL ((s.data.toList.drop (4 * t)).take k) < 16777216 := by
  have hl : 4 * t + k < s.data.toList.length := by rw [← Lib.size_eq]; exact hi
  refine ⟨?_, ?_⟩
  · rw [List.take_add_one, List.getElem?_drop, List.getElem?_eq_getElem hl, Option.toList_some, numL_snoc]
    rfl
  · refine Nat.lt_of_lt_of_le (numL_lt _) ?_
    have h4 : ((s.data.toList.drop (4 * t)).take k).length ≤ 3 := Nat.le_trans (List.length_take_le _ _) (by omega)
    exact Nat.le_trans (Nat.pow_le_pow_right (by decide) h4) (by decide)

theorem sched_cell (b : List UInt8) (t i : Nat) (h : i < t) : ((sched b t).map u32)[i]? = some (u32 ((sched b t).getD i 0)) := by
  have hl := sched_length b t
  rw [List.getElem?_map, List.getD_eq_getElem?_getD, List.getElem?_eq_getElem (by omega)]
  rfl
theorem turn_is (x n : Nat) (m : Int) (w : World) (hm : m = (n : Int)) (hx : x < 4294967296) (h1 : 0 < n) (h2 : n < 32) :
    Calls Tryd.prog 69 #[.int .u32 x, .int .i64 m] w fun e w' => e = .returned (.int .u32 (rotr x n)) ∧ ∃ n, w' = w.drewN n := by
  rw [hm]
  exact turn_any x n w hx h1 h2
theorem move_is (x n y : Nat) (m : Int) (w : World) (hm : m = (n : Int)) (hx : x < 4294967296) (h2 : n < 32) (hy : x / 2 ^ n = y) :
    Calls Tryd.prog 70 #[.int .u32 x, .int .i64 m] w fun e w' => e = .returned (.int .u32 (y : Int)) ∧ w' = w := by
  rw [hm, ← hy]
  exact move_any x n w hx h2

theorem sig_one (x : Nat) (hx : x < 4294967296) : bits BinOp.xor IntKind.u32 (bits BinOp.xor IntKind.u32 (rotr x 17 : Nat) (rotr x 19 : Nat)) ((x : Int) / 1024) = ((ssig1 x : Nat) : Int) := by
  rw [show (x : Int) / 1024 = ((x / 2 ^ 10 : Nat) : Int) by omega]
  exact xor_words (rotr_lt x 17 hx (by decide)) (rotr_lt x 19 hx (by decide)) (Nat.lt_of_le_of_lt (Nat.div_le_self _ _) hx)
theorem sig_zero (x : Nat) (hx : x < 4294967296) : bits BinOp.xor IntKind.u32 (bits BinOp.xor IntKind.u32 (rotr x 7 : Nat) (rotr x 18 : Nat)) ((x : Int) / 8) = ((ssig0 x : Nat) : Int) := by
  rw [show (x : Int) / 8 = ((x / 2 ^ 3 : Nat) : Int) by omega]
  exact xor_words (rotr_lt x 7 hx (by decide)) (rotr_lt x 18 hx (by decide)) (Nat.lt_of_le_of_lt (Nat.div_le_self _ _) hx)

theorem big_one (x : Nat) (hx : x < 4294967296) : bits BinOp.xor IntKind.u32 (bits BinOp.xor IntKind.u32 (rotr x 6 : Nat) (rotr x 11 : Nat)) (rotr x 25 : Nat) = ((bsig1 x : Nat) : Int) :=
  xor_words (rotr_lt x 6 hx (by decide)) (rotr_lt x 11 hx (by decide)) (rotr_lt x 25 hx (by decide))
theorem big_zero (x : Nat) (hx : x < 4294967296) : bits BinOp.xor IntKind.u32 (bits BinOp.xor IntKind.u32 (rotr x 2 : Nat) (rotr x 13 : Nat)) (rotr x 22 : Nat) = ((bsig0 x : Nat) : Int) :=
  xor_words (rotr_lt x 2 hx (by decide)) (rotr_lt x 13 hx (by decide)) (rotr_lt x 22 hx (by decide))
/-- the eight words while they are moved on, from the last one down to i -/
def shiftA (v : H8) : Nat → Array Value
  | 0 => #[u32 v.a, u32 v.a, u32 v.b, u32 v.c, u32 v.d, u32 v.e, u32 v.f, u32 v.g]
  | 1 => #[u32 v.a, u32 v.b, u32 v.b, u32 v.c, u32 v.d, u32 v.e, u32 v.f, u32 v.g]
  | 2 => #[u32 v.a, u32 v.b, u32 v.c, u32 v.c, u32 v.d, u32 v.e, u32 v.f, u32 v.g]
  | 3 => #[u32 v.a, u32 v.b, u32 v.c, u32 v.d, u32 v.d, u32 v.e, u32 v.f, u32 v.g]
  | 4 => #[u32 v.a, u32 v.b, u32 v.c, u32 v.d, u32 v.e, u32 v.e, u32 v.f, u32 v.g]
  | 5 => #[u32 v.a, u32 v.b, u32 v.c, u32 v.d, u32 v.e, u32 v.f, u32 v.f, u32 v.g]
  | 6 => #[u32 v.a, u32 v.b, u32 v.c, u32 v.d, u32 v.e, u32 v.f, u32 v.g, u32 v.g]
  | _ => #[u32 v.a, u32 v.b, u32 v.c, u32 v.d, u32 v.e, u32 v.f, u32 v.g, u32 v.h]
theorem shiftA_at (v : H8) (m : Nat) (h : m < 7) : (shiftA v (m + 1))[m]? = some (u32 (v.at m)) := by
  match m, h with
  | 0, _ | 1, _ | 2, _ | 3, _ | 4, _ | 5, _ | 6, _ => rfl
theorem shiftA_cur (v : H8) (m : Nat) (h : m < 7) : ∃ y : Int, (shiftA v (m + 1))[m + 1]? = some (.int .u32 y) := by
  match m, h with
  | 0, _ | 1, _ | 2, _ | 3, _ | 4, _ | 5, _ | 6, _ => exact ⟨_, rfl⟩
theorem ch_ref (e f g : Nat) (he : e < 4294967296) (hf : f < 4294967296) (hg : g < 4294967296) :
    bits BinOp.xor IntKind.u32 (bits BinOp.and IntKind.u32 (e : Int) (f : Int)) (bits BinOp.and IntKind.u32 (bits BinOp.xor IntKind.u32 IntKind.u32.max (e : Int)) (g : Int)) = ((chs e f g : Nat) : Int) := ch_walk e f g he hf hg
theorem shiftA_set (v : H8) (m : Nat) (h : m < 7) : (shiftA v (m + 1)).setIfInBounds (m + 1) (u32 (v.at m)) = shiftA v m := by
  match m, h with
  | 0, _ | 1, _ | 2, _ | 3, _ | 4, _ | 5, _ | 6, _ => rfl
theorem shiftA_end (v : H8) (k x : Nat) : ((shiftA v 0).setIfInBounds 4 (u32 ((v.d + tmp1 v k x) % 4294967296))).setIfInBounds 0 (u32 ((tmp1 v k x + tmp2 v) % 4294967296)) = wordsA (rnd v k x) := rfl
/-- the eight words while they are added up, i of them done -/
def plusA (s v : H8) (i : Nat) : Array Value :=
  let f := fun (j x y : Nat) => u32 (if j < i then (x + y) % 4294967296 else x)
  #[f 0 s.a v.a, f 1 s.b v.b, f 2 s.c v.c, f 3 s.d v.d, f 4 s.e v.e, f 5 s.f v.f, f 6 s.g v.g, f 7 s.h v.h]
theorem plusA_at (s v : H8) (i : Nat) (h : i < 8) : (plusA s v i)[i]? = some (u32 (s.at i)) := by
  match i, h with
  | 0, _ | 1, _ | 2, _ | 3, _ | 4, _ | 5, _ | 6, _ | 7, _ => rfl
theorem plusA_set (s v : H8) (i : Nat) (h : i < 8) : (plusA s v i).setIfInBounds i (u32 ((s.at i + v.at i) % 4294967296)) = plusA s v (i + 1) := by
  match i, h with
  | 0, _ | 1, _ | 2, _ | 3, _ | 4, _ | 5, _ | 6, _ | 7, _ => rfl
theorem wordsA_at (v : H8) (i : Nat) (h : i < 8) : (wordsA v)[i]? = some (u32 (v.at i)) := by
  match i, h with
  | 0, _ | 1, _ | 2, _ | 3, _ | 4, _ | 5, _ | 6, _ | 7, _ => rfl
theorem Lies.words8 {w : World} {g : Nat} {t : TypeId} {v : H8} (h : Lies w g t (wordsA v)) :
    w.cell? ⟨g, 0, none⟩ = some (u32 v.a) ∧ w.cell? ⟨g, 1, none⟩ = some (u32 v.b) ∧ w.cell? ⟨g, 2, none⟩ = some (u32 v.c) ∧ w.cell? ⟨g, 3, none⟩ = some (u32 v.d) ∧ w.cell? ⟨g, 4, none⟩ = some (u32 v.e) ∧ w.cell? ⟨g, 5, none⟩ = some (u32 v.f) ∧ w.cell? ⟨g, 6, none⟩ = some (u32 v.g) ∧ w.cell? ⟨g, 7, none⟩ = some (u32 v.h) :=
  ⟨h.cell 0, h.cell 1, h.cell 2, h.cell 3, h.cell 4, h.cell 5, h.cell 6, h.cell 7⟩
theorem only_cell {a w : World} {g : Nat} {p : Addr} {v : Value} (h : Only g a w) (hc : a.cell? p = some v) (hne : p.block ≠ g) : w.cell? p = some v :=
  (World.cell?_of_block (h.block p.block (World.block_lt_of_cell? a _ hc) (fun e => hne (by injection e)))).trans hc
theorem ksA_at (t : Nat) (h : t < 64) : ksA[t]? = some (u32 (kAt t)) := by
  have hl : ks.length = 64 := rfl
  unfold ksA kAt
  rw [List.getElem?_toArray, List.getElem?_map, List.getD_eq_getElem?_getD, List.getElem?_eq_getElem (by omega)]
  rfl
theorem keys_cells {w : World} {g : Nat} (h : Keysat w g) : ∀ t, t < 64 → w.cell? ⟨g, t, none⟩ = some (u32 (kAt t)) := fun t ht => (h.cell t).trans (ksA_at t ht)
theorem row_cells {w : World} {B g cap : Nat} {b : List UInt8} (h : w.ownsRow B 62 1 (.slice (some ⟨g, 0, none⟩) 64 cap) 64 ((sched b 64).map u32)) : ∀ t, t < 64 → w.cell? ⟨g, t, none⟩ = some (u32 ((sched b 64).getD t 0)) := fun t ht => (h.cellAt t ht).trans (sched_cell _ _ _ ht)
theorem own_drewN {w : World} {B e n : Nat} {v : Value} {xs : List Value} (h : w.ownsRow B e 1 v n xs) (k : Nat) : (w.drewN k).ownsRow B e 1 v n xs := h

/-- what the next round's word is, whichever round -/
def nextW (b : List UInt8) (t x : Nat) : Prop := sched b (t + 1) = sched b t ++ [x]

set_option maxRecDepth 100000 in
set_option maxHeartbeats 1600000 in
theorem mix_any (H : H8) (s : ByteArray) (gk : Nat) (W : World) (hs : s.size = 64) (hok : H.Ok) (hk : Keysat W gk) :
    Calls Tryd.prog 60 #[.agg (wordsA H), .string s, .slice (some ⟨gk, 0, none⟩) 64 64] W fun e W' => e = .returned (.agg (wordsA (mix H s.data.toList))) ∧ Below W.heap.size W W' := by
  obtain ⟨i0, hi, hz0, hz1, hz2⟩ := info_parts info25
  have HS := Lib.hid hs
  have hs1 : 64 ≤ s.size := by omega
  have hs2 : s.size ≤ 64 := by omega
  have hsl : s.data.toList.length = 64 := by rw [← Lib.size_eq]; exact hs
  clear hs
  go_enter Tryd.func60, Tryd.ntmps60
  go_upto_region 1 with fail
  have hh : Lies ((W.alloc (.cells (wordsA H) 63)).alloc (.cells (wordsA ⟨0, 0, 0, 0, 0, 0, 0, 0⟩) 63)) W.heap.size 63 (wordsA H) := heap_alloc2_old W _ _
  have hr : Lies ((W.alloc (.cells (wordsA H) 63)).alloc (.cells (wordsA ⟨0, 0, 0, 0, 0, 0, 0, 0⟩) 63)) (W.heap.size + 1) 63 (wordsA ⟨0, 0, 0, 0, 0, 0, 0, 0⟩) := heap_alloc2_new W _ _
  have hb := ((Below.refl W.heap.size W).alloc (Nat.le_refl _) (.cells (wordsA H) 63)).alloc (by simp) (.cells (wordsA ⟨0, 0, 0, 0, 0, 0, 0, 0⟩) 63)
  have hk2 : Keysat ((W.alloc (.cells (wordsA H) 63)).alloc (.cells (wordsA ⟨0, 0, 0, 0, 0, 0, 0, 0⟩) 63)) gk := (Lies.alloc hk _).alloc _
  have hgk := Lies.lt hk
  generalize (W.alloc (.cells (wordsA H) 63)).alloc (.cells (wordsA ⟨0, 0, 0, 0, 0, 0, 0, 0⟩) 63) = w2 at *
  go_wp2_with fail
  go_loopw [7, 8] (fun v i wr => ∃ t g cap : Nat, t ≤ 64 ∧ i = .int .i64 t ∧ v = .slice (some ⟨g, 0, none⟩) t cap ∧ wr.ownsRow w2.heap.size 62 1 (.slice (some ⟨g, 0, none⟩) t cap) t ((sched s.data.toList t).map u32) ∧ Below w2.heap.size w2 wr) (fun _ i _ => 64 - (intOf i).toNat)
  case atStart => exact ⟨0, _, _, by omega, rfl, rfl, own_empty (Lies.new _ _ _) (Nat.le_refl _), (Below.refl _ _).alloc (Nat.le_refl _) _⟩
  case round =>
    obtain ⟨t, g, cap, ht, rfl, rfl, ho, hbr⟩ := hrel
    by_cases hlt : t < 64
    · go_upto_if 27 with fail
      rw [decide_eq_true (show (t : Int) < 64 by omega)]
      go_cut [9, 10, 11, 12] from 27 to 80 (fun s9 _ _ _ wx => ∃ x n : Nat, s9 = .int .u32 (x : Int) ∧ nextW s.data.toList t x ∧ wx = wr.drewN n)
      case first =>
        by_cases h16 : t < 16
        · rw [decide_eq_true (show (t : Int) < 16 by omega)]
          go_wp2_with fail
          go_loopw [9, 10] (fun n i wv => ∃ k : Nat, k ≤ 4 ∧ i = .int .i64 k ∧ n = .int .u32 ((numL ((s.data.toList.drop (4 * t)).take k) : Nat) : Int) ∧ wv = wr) (fun _ i _ => 4 - (intOf i).toNat)
          case atStart => exact ⟨0, by omega, rfl, rfl, rfl⟩
          case round =>
            obtain ⟨k, hk4, rfl, rfl, rfl⟩ := hrel
            by_cases hlt4 : k < 4
            · have hi4 : 4 * t + k < s.size := by omega
              obtain ⟨hN, hN2⟩ := byte_step s t k hlt4 hi4
              have HN := Lib.hid hN
              clear hN
              generalize numL ((s.data.toList.drop (4 * t)).take k) = N at *
              have hu8 := u8_lt (s[4 * t + k]'hi4)
              go_wp2_with fail
              go_roundw
              case rel =>
                refine ⟨k + 1, by omega, by go_num, val_int ?_, trivial⟩
                rw [HN.out]
                omega
              case measure => simp [intOf]; omega
            · obtain rfl : k = 4 := by omega
              go_wp2_with fail
              go_meet
              exact ⟨_, 0, rfl, sched_head _ _ h16, rfl⟩
        · rw [decide_eq_false (show ¬ (t : Int) < 16 by omega)]
          have k2 := (ho.cellAt (t - 2) (by omega)).trans (sched_cell s.data.toList t (t - 2) (by omega))
          have k7 := (ho.cellAt (t - 7) (by omega)).trans (sched_cell s.data.toList t (t - 7) (by omega))
          have k15 := (ho.cellAt (t - 15) (by omega)).trans (sched_cell s.data.toList t (t - 15) (by omega))
          have k16 := (ho.cellAt (t - 16) (by omega)).trans (sched_cell s.data.toList t (t - 16) (by omega))
          have HN := Lib.hid (sched_rest s.data.toList t h16)
          have l2 := sched_at_lt s.data.toList t (t - 2)
          have l7 := sched_at_lt s.data.toList t (t - 7)
          have l15 := sched_at_lt s.data.toList t (t - 15)
          have l16 := sched_at_lt s.data.toList t (t - 16)
          have e2 : IntKind.i64.wrap ((t : Int) - 2) = ((t - 2 : Nat) : Int) := by rw [IntWalk.i64_in _ (by omega)]; omega
          have e7 : IntKind.i64.wrap ((t : Int) - 7) = ((t - 7 : Nat) : Int) := by rw [IntWalk.i64_in _ (by omega)]; omega
          have e15 : IntKind.i64.wrap ((t : Int) - 15) = ((t - 15 : Nat) : Int) := by rw [IntWalk.i64_in _ (by omega)]; omega
          have e16 : IntKind.i64.wrap ((t : Int) - 16) = ((t - 16 : Nat) : Int) := by rw [IntWalk.i64_in _ (by omega)]; omega
          have b2 : ((t - 2 : Nat) : Int) < (t : Int) := by omega
          have b7 : ((t - 7 : Nat) : Int) < (t : Int) := by omega
          have b15 : ((t - 15 : Nat) : Int) < (t : Int) := by omega
          have b16 : ((t - 16 : Nat) : Int) < (t : Int) := by omega
          generalize t - 2 = u2 at e2 b2 k2 l2 HN
          generalize t - 7 = u7 at e7 b7 k7 l7 HN
          generalize t - 15 = u15 at e15 b15 k15 l15 HN
          generalize t - 16 = u16 at e16 b16 k16 l16 HN
          generalize (sched s.data.toList t).getD u2 0 = x2 at k2 l2 HN
          generalize (sched s.data.toList t).getD u7 0 = x7 at k7 l7 HN
          generalize (sched s.data.toList t).getD u15 0 = x15 at k15 l15 HN
          generalize (sched s.data.toList t).getD u16 0 = x16 at k16 l16 HN
          go_wp2_with fail
          have T1 := Lib.hid (fun w => turn_is x2 17 17 w rfl l2 (by decide) (by decide))
          have T2 := Lib.hid (fun w => turn_is x2 19 19 w rfl l2 (by decide) (by decide))
          have T3 := Lib.hid (fun w => move_is x2 10 _ 10 w rfl l2 (by decide) rfl)
          have T4 := Lib.hid (fun w => turn_is x15 7 7 w rfl l15 (by decide) (by decide))
          have T5 := Lib.hid (fun w => turn_is x15 18 18 w rfl l15 (by decide) (by decide))
          have T6 := Lib.hid (fun w => move_is x15 3 _ 3 w rfl l15 (by decide) rfl)
          go_quiet (first | (with_reducible exact Calls.quiet_of (T1.out _)) | (with_reducible exact Calls.quiet_of (T2.out _)) | (with_reducible exact Calls.quiet_of_same (T3.out _)) | (with_reducible exact Calls.quiet_of (T4.out _)) | (with_reducible exact Calls.quiet_of (T5.out _)) | (with_reducible exact Calls.quiet_of_same (T6.out _)))
          go_wp2
          go_meet
          refine ⟨_, nq, val_int ?_, HN.out, rfl⟩
          rw [sig_one x2 l2, sig_zero x15 l15]
          omega
      case rest =>
        obtain ⟨x, nx, rfl, hx, rfl⟩ := hcut
        have HX := Lib.hid hx
        have hno := own_drewN ho nx
        have hsz := hbr.size
        clear hx
        go_wp2_with ((with_reducible refine wpL_append w2.heap.size 62 i0 (.int .u32 0) 4 Tryd.underlying90 hi hz0 hz1 hz2 rfl _ t _ (hno.alloc _) (wr.drewN nx).heap.size (.int .u32 (x : Int)) (Lies.new (wr.drewN nx) _ _) rfl (by unfold maxLen; omega) (by omega) (by simp; omega) ?_ ?_ ?_); rfl; rfl; intro g6 cap6 w6 ho6 hgrow6)
        go_roundw
        case rel =>
          refine ⟨t + 1, g6, cap6, by omega, by go_num, rfl, ?_, ((below_drawn hbr nx).alloc hsz _).grown hgrow6 (by simp; omega) (fun k hk => (ho.lt k hk).1)⟩
          rw [HX.out, List.map_append]
          exact ho6
        case measure => simp [intOf]; omega
    · obtain rfl : t = 64 := by omega
      rw [show ((64 : Nat) : Int) = 64 from rfl]
      have hh5 := hh.on hbr
      have hr5 := hr.on hbr
      have hk5 : Keysat wr gk := Lies.on hk2 hbr
      have hb5 := below_on hb hbr
      have hgw := own_far ho (t := 63) hh5 (by decide)
      go_upto_region 16 with ((with_reducible refine wpL_load W.heap.size 63 (wordsA H) 8 row26 rfl hh5 ?_ ?_); rfl)
      have hv6 := Lies.new wr 63 (wordsA H)
      have hh6 := hh5.alloc (.cells (wordsA H) 63)
      have hr6 := hr5.alloc (.cells (wordsA H) 63)
      have hk6 := keys_cells (Lies.alloc hk5 (.cells (wordsA H) 63))
      have ho6 := ho.alloc (.cells (wordsA H) 63)
      have hw6 := row_cells ho6
      have hb6 := hb5.alloc hb5.size (.cells (wordsA H) 63)
      have hgw2 : g < wr.heap.size := block_lt_of_cell ((ho.cellAt 0 (by decide)).trans (sched_cell _ _ _ (by decide)))
      have hgh := hh5.lt
      have hgr := hr5.lt
      have hgv : W.heap.size ≤ wr.heap.size := hb5.size
      clear hh hr hk hk2 hb hbr hh5 hr5 hk5 hb5 ho ho6 hgw hi hz0 hz1 hz2
      generalize wr.alloc (.cells (wordsA H) 63) = w6 at *
      generalize wr.heap.size = gv at *
      go_wp2_with fail
      go_loopw [14] (fun i wr => ∃ (t : Nat) (v : H8), t ≤ 64 ∧ i = .int .i64 t ∧ v.Ok ∧ Hid (v = rnds (sched s.data.toList 64) H t) ∧ Lies wr gv 63 (wordsA v) ∧ Only gv w6 wr) (fun i _ => 64 - (intOf i).toNat)
      case atStart => exact ⟨0, H, by omega, rfl, hok, Lib.hid rfl, hv6, Only.refl _ _⟩
      case round =>
        clear hv6
        obtain ⟨t, v, ht, rfl, hv, HV, hl, hO⟩ := hrel
        by_cases hlt : t < 64
        · have kT := only_cell hO (hk6 t hlt) (by simp only; omega)
          have wT := only_cell hO (hw6 t hlt) (by simp only; omega)
          have HR := Lib.hid (show rnds (sched s.data.toList 64) H (t + 1) = rnd v (kAt t) ((sched s.data.toList 64).getD t 0) by rw [rnds, HV.out])
          have lk := kAt_lt t hlt
          have lw := sched_at_lt s.data.toList 64 t
          have HK := Lib.hid hv
          obtain ⟨va, vb, vc, vd, ve, vf, vg, vh⟩ := hv
          generalize kAt t = k at kT HR lk
          generalize (sched s.data.toList 64).getD t 0 = x at wT HR lw
          have hi : (t : Int) < 64 := by omega
          obtain ⟨c0, c1, c2, c3, c4, c5, c6, c7⟩ := hl.words8
          go_upto_region 21 with fail
          have A1 := Lib.hid (fun w => turn_is v.e 6 6 w rfl ve (by decide) (by decide))
          have A2 := Lib.hid (fun w => turn_is v.e 11 11 w rfl ve (by decide) (by decide))
          have A3 := Lib.hid (fun w => turn_is v.e 25 25 w rfl ve (by decide) (by decide))
          have A4 := Lib.hid (fun w => turn_is v.a 2 2 w rfl va (by decide) (by decide))
          have A5 := Lib.hid (fun w => turn_is v.a 13 13 w rfl va (by decide) (by decide))
          have A6 := Lib.hid (fun w => turn_is v.a 22 22 w rfl va (by decide) (by decide))
          go_cut [17] from 94 to 125 (fun s17 wx => s17 = .int .u32 (tmp1 v k x : Int) ∧ Lies wx gv 63 (wordsA v) ∧ Only gv w6 wx)
          case first =>
            go_quiet (first | (with_reducible exact Calls.quiet_of (A1.out _)) | (with_reducible exact Calls.quiet_of (A2.out _)) | (with_reducible exact Calls.quiet_of (A3.out _)))
            go_wp2
            go_meet
            refine ⟨?_, hl.drewN nq, hO.drewN nq⟩
            rw [big_one _ ve, ch_ref _ _ _ ve vf vg]
            exact val_int (by simp only [tmp1]; omega)
          case rest =>
            clear hl hO c0 c1 c2 c3 c4 c5 c6 c7 kT wT
            obtain ⟨rfl, hl, hO⟩ := hcut
            obtain ⟨c0, c1, c2, c3, c4, c5, c6, c7⟩ := hl.words8
            go_upto_region 22 with fail
            go_cut [18] from 126 to 149 (fun s18 wx => s18 = .int .u32 (tmp2 v : Int) ∧ Lies wx gv 63 (wordsA v) ∧ Only gv w6 wx)
            case first =>
              go_quiet (first | (with_reducible exact Calls.quiet_of (A4.out _)) | (with_reducible exact Calls.quiet_of (A5.out _)) | (with_reducible exact Calls.quiet_of (A6.out _)))
              go_wp2
              go_meet
              refine ⟨?_, hl.drewN nq, hO.drewN nq⟩
              rw [big_zero _ va, maj_walk _ _ _ va vb vc]
              exact val_int (by simp only [tmp2]; omega)
            case rest =>
              clear hl hO
              obtain ⟨rfl, hl, hO⟩ := hcut
              clear A1 A2 A3 A4 A5 A6 c0 c1 c2 c3 c4 c5 c6 c7 va vb vc vd ve vf vg vh lk lw
              have HE := Lib.hid (shiftA_end v k x)
              go_wp2_with fail
              go_loopw [19] (fun i wv => ∃ j : Nat, j ≤ 7 ∧ i = .int .i64 j ∧ Lies wv gv 63 (shiftA v j) ∧ Only gv w6 wv) (fun i _ => (intOf i).toNat)
              case atStart => exact ⟨7, by omega, rfl, hl, hO⟩
              case round =>
                clear hl hO
                obtain ⟨j, hj, rfl, hl, hO⟩ := hrel
                by_cases h0 : 0 < j
                · obtain ⟨m, rfl⟩ : ∃ m, j = m + 1 := ⟨j - 1, by omega⟩
                  have hc := (hl.cell m).trans (shiftA_at v m (by omega))
                  have hf := hl.frozen (m + 1)
                  obtain ⟨y, hy⟩ := shiftA_cur v m (by omega)
                  have hc1 := (hl.cell (m + 1)).trans hy
                  clear hy
                  have e1 : IntKind.i64.wrap (((m + 1 : Nat) : Int) - 1) = (m : Int) := by rw [IntWalk.i64_in _ (by omega)]; omega
                  have HP := Lib.hid (shiftA_set v m (by omega))
                  have b1 : (m : Int) < 8 := by omega
                  have b2 : ((m + 1 : Nat) : Int) < 8 := by omega
                  go_wp2_with fail
                  go_roundw
                  case rel => exact ⟨m, by omega, rfl, by rw [← HP.out]; exact hl.put _ _, hO.put (Or.inl rfl) _⟩
                  case measure => simp [intOf]
                · obtain rfl : j = 0 := by omega
                  have hc4 : wr.cell? ⟨gv, 4, none⟩ = some (.int .u32 (v.d : Int)) := hl.cell 4
                  have hc0 : wr.cell? ⟨gv, 0, none⟩ = some (.int .u32 (v.a : Int)) := hl.cell 0
                  have hf4 := hl.frozen 4
                  have hf0 := hl.frozen 0
                  go_wp2_with fail
                  go_roundw
                  case rel =>
                    refine ⟨t + 1, rnd v k x, by omega, by go_num, rnd_ok HK.out _ _, Lib.hid HR.out.symm, ?_, (hO.put (Or.inl rfl) _).put (Or.inl rfl) _⟩
                    rw [← HE.out]
                    simp only [plus_cast]
                    exact (hl.put 4 _).put 0 _
                  case measure => simp [intOf]; omega
        · obtain rfl : t = 64 := by omega
          rw [show ((64 : Nat) : Int) = 64 from rfl]
          have hhv := hh6.only hO (by intro e; injection e; omega)
          have hrv := hr6.only hO (by intro e; injection e; omega)
          have hbv := hO.below hb6 hb6.size hgv
          clear hh6 hr6 hb6 hO hk6 hw6
          go_wp2_with fail
          go_loopw [20] (fun i wr => ∃ t : Nat, t ≤ 8 ∧ i = .int .i64 t ∧ Lies wr W.heap.size 63 (plusA H v t) ∧ Lies wr gv 63 (wordsA v) ∧ Lies wr (W.heap.size + 1) 63 (wordsA ⟨0, 0, 0, 0, 0, 0, 0, 0⟩) ∧ Below W.heap.size W wr) (fun i _ => 8 - (intOf i).toNat)
          case atStart => exact ⟨0, by omega, rfl, hhv, hl, hrv, hbv⟩
          case round =>
            clear hhv hl hrv hbv
            obtain ⟨t, ht, rfl, hh, hl, hr, hb⟩ := hrel
            by_cases hlt : t < 8
            · have hc := (hh.cell t).trans (plusA_at H v t hlt)
              have hd := (hl.cell t).trans (wordsA_at v t hlt)
              have hf := hh.frozen t
              have hi : (t : Int) < 8 := by omega
              have HP := Lib.hid (plusA_set H v t hlt)
              go_upto_region 32 with fail
              go_region
              all_goals
                go_wp2
                go_roundw
                case rel =>
                  exact ⟨t + 1, by omega, by go_num, by rw [← HP.out, plus_cast]; exact (hh.put t _).drew, (hl.far (by simp only; omega) _).drew, (hr.far (by simp only; omega) _).drew, (hb.setCell (p := ⟨W.heap.size, t, none⟩) (Nat.le_refl _) _).drew⟩
                case measure => simp [intOf]; omega
            · obtain rfl : t = 8 := by omega
              rw [show ((8 : Nat) : Int) = 8 from rfl]
              have HE := Lib.hid (show plusA H v 8 = wordsA (mix H s.data.toList) by rw [mix, ← HV.out]; rfl)
              have HN := Lib.hid (show (plusA H v 8).size = 8 from rfl)
              have HO := Lib.hid (show Ones (plusA H v 8) by simp [Ones, plusA, Value.oneCell'])
              have H0 := Lib.hid (show (wordsA ⟨0, 0, 0, 0, 0, 0, 0, 0⟩).size = 8 from rfl)
              have HL := Lib.hid hh
              have HR := Lib.hid hr
              clear hh hr hl
              obtain ⟨cs, hcs⟩ : ∃ cs, plusA H v 8 = cs := ⟨_, rfl⟩
              rw [hcs] at HE HN HO HL
              obtain ⟨zs, hzs⟩ : ∃ zs, wordsA ⟨0, 0, 0, 0, 0, 0, 0, 0⟩ = zs := ⟨_, rfl⟩
              rw [hzs] at H0 HR
              clear hcs hzs
              go_wp2_with (first | ((with_reducible refine wpL_load W.heap.size 63 cs 8 row26 HN.out HL.out ?_ ?_); rfl) | ((with_reducible refine wpL_store (W.heap.size + 1) 63 _ cs 8 row26 H0.out HN.out HO.out HR.out ?_ ?_ ?_); rfl; rfl))
              exact bodyPost_ret (results_row Tryd.results60 row26 HN.out (HR.out.row cs) rfl) rfl ⟨by rw [HE.out], below_rowSet hb (by omega) _⟩
end Go.Proofs.YtpcckanhmdlahaaDoor.U

