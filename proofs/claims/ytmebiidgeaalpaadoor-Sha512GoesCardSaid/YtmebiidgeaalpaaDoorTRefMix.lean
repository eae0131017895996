/- The contract of the reference's Mix: eight words behind a block. -/
import Derived.Test.YtmebiidgeaalpaaDoorTRefRot
import Derived.Test.YtmebiidgeaalpaaDoorTOwn
import Derived.Test.YtmebiidgeaalpaaDoorTAdd
import Derived.Deep.RegionWith
import Derived.Deep.CutRange
import Derived.Deep.WholeRow
namespace Go.Proofs.YtmebiidgeaalpaaDoor.T
open Go.RowKit

theorem info25 : (Tryd.prog.info? 25).map (fun i => (i.zero, i.size, i.bytes)) = some (some (.int .u64 0), 1, 8) := by kernel_rfl
/-- eight words as a row -/
abbrev wordsA (s : H8) : Array Value := #[w64 s.a, w64 s.b, w64 s.c, w64 s.d, w64 s.e, w64 s.f, w64 s.g, w64 s.h]
/-- the constants as a row -/
def ksA : Array Value := (ks.map w64).toArray
/-- the reference's constants in memory -/
def Keysat (w : World) (g : Nat) : Prop := Lies w g 25 ksA

theorem byte_step (s : ByteArray) (t k : Nat) (hk : k < 8) (hi : 8 * t + k < s.size) : numL ((s.data.toList.drop (8 * t)).take (k + 1)) = 256 * numL ((s.data.toList.drop (8 * t)).take k) + (s[8 * t + k]'hi).toNat ∧ numL ((s.data.toList.drop (8 * t)).take k) < 72057594037927936 := by
  have hl : 8 * t + k < s.data.toList.length := by rw [← Lib.size_eq]; exact hi
  refine ⟨?_, ?_⟩
  · rw [List.take_add_one, List.getElem?_drop, List.getElem?_eq_getElem hl, Option.toList_some, numL_snoc]
    rfl
  · refine Nat.lt_of_lt_of_le (numL_lt _) ?_
    have h4 : ((s.data.toList.drop (8 * t)).take k).length ≤ 7 := Nat.le_trans (List.length_take_le _ _) (by omega)
    exact Nat.le_trans (Nat.pow_le_pow_right (by decide) h4) (by decide)

theorem sched_cell (b : List UInt8) (t i : Nat) (h : i < t) : ((sched b t).map w64)[i]? = some (w64 ((sched b t).getD i 0)) := by
  have hl := sched_length b t
  rw [List.getElem?_map, List.getD_eq_getElem?_getD, List.getElem?_eq_getElem (by omega)]
  rfl
theorem turn_is (x n : Nat) (m : Int) (w : World) (hm : m = (n : Int)) (hx : x < 18446744073709551616) (h1 : 0 < n) (h2 : n < 64) :
    Calls Tryd.prog 37 #[.int .u64 x, .int .i64 m] w fun e w' => e = .returned (.int .u64 (rotr x n)) ∧ ∃ n, w' = w.drewN n := by
  rw [hm]
  exact turn_any x n w hx h1 h2
theorem move_is (x n y : Nat) (m : Int) (w : World) (hm : m = (n : Int)) (hx : x < 18446744073709551616) (h2 : n < 64) (hy : x / 2 ^ n = y) :
    Calls Tryd.prog 38 #[.int .u64 x, .int .i64 m] w fun e w' => e = .returned (.int .u64 (y : Int)) ∧ w' = w := by
  rw [hm, ← hy]
  exact move_any x n w hx h2

theorem sig_one (x : Nat) (hx : x < 18446744073709551616) : bits BinOp.xor IntKind.u64 (bits BinOp.xor IntKind.u64 (rotr x 19 : Nat) (rotr x 61 : Nat)) ((x : Int) / 64) = ((ssig1 x : Nat) : Int) := by
  rw [show (x : Int) / 64 = ((x / 2 ^ 6 : Nat) : Int) by omega]
  exact xor_words (rotr_lt x 19 hx (by decide)) (rotr_lt x 61 hx (by decide)) (Nat.lt_of_le_of_lt (Nat.div_le_self _ _) hx)
theorem sig_zero (x : Nat) (hx : x < 18446744073709551616) : bits BinOp.xor IntKind.u64 (bits BinOp.xor IntKind.u64 (rotr x 1 : Nat) (rotr x 8 : Nat)) ((x : Int) / 128) = ((ssig0 x : Nat) : Int) := by
  rw [show (x : Int) / 128 = ((x / 2 ^ 7 : Nat) : Int) by omega]
  exact xor_words (rotr_lt x 1 hx (by decide)) (rotr_lt x 8 hx (by decide)) (Nat.lt_of_le_of_lt (Nat.div_le_self _ _) hx)

theorem big_one (x : Nat) (hx : x < 18446744073709551616) : bits BinOp.xor IntKind.u64 (bits BinOp.xor IntKind.u64 (rotr x 14 : Nat) (rotr x 18 : Nat)) (rotr x 41 : Nat) = ((bsig1 x : Nat) : Int) :=
  xor_words (rotr_lt x 14 hx (by decide)) (rotr_lt x 18 hx (by decide)) (rotr_lt x 41 hx (by decide))
theorem big_zero (x : Nat) (hx : x < 18446744073709551616) : bits BinOp.xor IntKind.u64 (bits BinOp.xor IntKind.u64 (rotr x 28 : Nat) (rotr x 34 : Nat)) (rotr x 39 : Nat) = ((bsig0 x : Nat) : Int) :=
  xor_words (rotr_lt x 28 hx (by decide)) (rotr_lt x 34 hx (by decide)) (rotr_lt x 39 hx (by decide))
/-- the eight words while they are moved on, from the last one down to i -/
def shiftA (v : H8) : Nat → Array Value
  | 0 => #[w64 v.a, w64 v.a, w64 v.b, w64 v.c, w64 v.d, w64 v.e, w64 v.f, w64 v.g]
  | 1 => #[w64 v.a, w64 v.b, w64 v.b, w64 v.c, w64 v.d, w64 v.e, w64 v.f, w64 v.g]
  | 2 => #[w64 v.a, w64 v.b, w64 v.c, w64 v.c, w64 v.d, w64 v.e, w64 v.f, w64 v.g]
  | 3 => #[w64 v.a, w64 v.b, w64 v.c, w64 v.d, w64 v.d, w64 v.e, w64 v.f, w64 v.g]
  | 4 => #[w64 v.a, w64 v.b, w64 v.c, w64 v.d, w64 v.e, w64 v.e, w64 v.f, w64 v.g]
  | 5 => #[w64 v.a, w64 v.b, w64 v.c, w64 v.d, w64 v.e, w64 v.f, w64 v.f, w64 v.g]
  | 6 => #[w64 v.a, w64 v.b, w64 v.c, w64 v.d, w64 v.e, w64 v.f, w64 v.g, w64 v.g]
  | _ => #[w64 v.a, w64 v.b, w64 v.c, w64 v.d, w64 v.e, w64 v.f, w64 v.g, w64 v.h]
theorem shiftA_at (v : H8) (m : Nat) (h : m < 7) : (shiftA v (m + 1))[m]? = some (w64 (v.at m)) := by
  match m, h with
  | 0, _ | 1, _ | 2, _ | 3, _ | 4, _ | 5, _ | 6, _ => rfl
theorem shiftA_cur (v : H8) (m : Nat) (h : m < 7) : ∃ y : Int, (shiftA v (m + 1))[m + 1]? = some (.int .u64 y) := by
  match m, h with
  | 0, _ | 1, _ | 2, _ | 3, _ | 4, _ | 5, _ | 6, _ => exact ⟨_, rfl⟩
theorem ch_ref (e f g : Nat) (he : e < 18446744073709551616) (hf : f < 18446744073709551616) (hg : g < 18446744073709551616) :
    bits BinOp.xor IntKind.u64 (bits BinOp.and IntKind.u64 (e : Int) (f : Int)) (bits BinOp.and IntKind.u64 (bits BinOp.xor IntKind.u64 IntKind.u64.max (e : Int)) (g : Int)) = ((chs e f g : Nat) : Int) := ch_walk e f g he hf hg
theorem shiftA_set (v : H8) (m : Nat) (h : m < 7) : (shiftA v (m + 1)).setIfInBounds (m + 1) (w64 (v.at m)) = shiftA v m := by
  match m, h with
  | 0, _ | 1, _ | 2, _ | 3, _ | 4, _ | 5, _ | 6, _ => rfl
theorem shiftA_end (v : H8) (k x : Nat) : ((shiftA v 0).setIfInBounds 4 (w64 ((v.d + tmp1 v k x) % 18446744073709551616))).setIfInBounds 0 (w64 ((tmp1 v k x + tmp2 v) % 18446744073709551616)) = wordsA (rnd v k x) := rfl
/-- the eight words while they are added up, i of them done -/
def plusA (s v : H8) (i : Nat) : Array Value :=
  let f := fun (j x y : Nat) => w64 (if j < i then (x + y) % 18446744073709551616 else x)
  #[f 0 s.a v.a, f 1 s.b v.b, f 2 s.c v.c, f 3 s.d v.d, f 4 s.e v.e, f 5 s.f v.f, f 6 s.g v.g, f 7 s.h v.h]
theorem plusA_at (s v : H8) (i : Nat) (h : i < 8) : (plusA s v i)[i]? = some (w64 (s.at i)) := by
  match i, h with
  | 0, _ | 1, _ | 2, _ | 3, _ | 4, _ | 5, _ | 6, _ | 7, _ => rfl
theorem plusA_set (s v : H8) (i : Nat) (h : i < 8) : (plusA s v i).setIfInBounds i (w64 ((s.at i + v.at i) % 18446744073709551616)) = plusA s v (i + 1) := by
  match i, h with
  | 0, _ | 1, _ | 2, _ | 3, _ | 4, _ | 5, _ | 6, _ | 7, _ => rfl
theorem wordsA_at (v : H8) (i : Nat) (h : i < 8) : (wordsA v)[i]? = some (w64 (v.at i)) := by
  match i, h with
  | 0, _ | 1, _ | 2, _ | 3, _ | 4, _ | 5, _ | 6, _ | 7, _ => rfl
theorem Lies.words8 {w : World} {g : Nat} {t : TypeId} {v : H8} (h : Lies w g t (wordsA v)) :
    w.cell? ⟨g, 0, none⟩ = some (w64 v.a) ∧ w.cell? ⟨g, 1, none⟩ = some (w64 v.b) ∧ w.cell? ⟨g, 2, none⟩ = some (w64 v.c) ∧ w.cell? ⟨g, 3, none⟩ = some (w64 v.d) ∧ w.cell? ⟨g, 4, none⟩ = some (w64 v.e) ∧ w.cell? ⟨g, 5, none⟩ = some (w64 v.f) ∧ w.cell? ⟨g, 6, none⟩ = some (w64 v.g) ∧ w.cell? ⟨g, 7, none⟩ = some (w64 v.h) :=
  ⟨h.cell 0, h.cell 1, h.cell 2, h.cell 3, h.cell 4, h.cell 5, h.cell 6, h.cell 7⟩
theorem only_cell {a w : World} {g : Nat} {p : Addr} {v : Value} (h : Only g a w) (hc : a.cell? p = some v) (hne : p.block ≠ g) : w.cell? p = some v :=
  (World.cell?_of_block (h.block p.block (World.block_lt_of_cell? a _ hc) (fun e => hne (by injection e)))).trans hc
theorem ksA_at (t : Nat) (h : t < 80) : ksA[t]? = some (w64 (kAt t)) := by
  have hl : ks.length = 80 := rfl
  unfold ksA kAt
  rw [List.getElem?_toArray, List.getElem?_map, List.getD_eq_getElem?_getD, List.getElem?_eq_getElem (by omega)]
  rfl
theorem keys_cells {w : World} {g : Nat} (h : Keysat w g) : ∀ t, t < 80 → w.cell? ⟨g, t, none⟩ = some (w64 (kAt t)) := fun t ht => (h.cell t).trans (ksA_at t ht)
theorem row_cells {w : World} {B g cap : Nat} {b : List UInt8} (h : w.ownsRow B 25 1 (.slice (some ⟨g, 0, none⟩) 80 cap) 80 ((sched b 80).map w64)) : ∀ t, t < 80 → w.cell? ⟨g, t, none⟩ = some (w64 ((sched b 80).getD t 0)) := fun t ht => (h.cellAt t ht).trans (sched_cell _ _ _ ht)
theorem own_drewN {w : World} {B e n : Nat} {v : Value} {xs : List Value} (h : w.ownsRow B e 1 v n xs) (k : Nat) : (w.drewN k).ownsRow B e 1 v n xs := h

/-- what the next round's word is, whichever round -/
def nextW (b : List UInt8) (t x : Nat) : Prop := sched b (t + 1) = sched b t ++ [x]

set_option maxRecDepth 100000 in
set_option maxHeartbeats 1600000 in
theorem mix_any (H : H8) (s : ByteArray) (gk : Nat) (W : World) (hs : s.size = 128) (hok : H.Ok) (hk : Keysat W gk) :
    Calls Tryd.prog 30 #[.agg (wordsA H), .string s, .slice (some ⟨gk, 0, none⟩) 80 80] W fun e W' => e = .returned (.agg (wordsA (mix H s.data.toList))) ∧ Below W.heap.size W W' := by
  obtain ⟨i0, hi, hz0, hz1, hz2⟩ := info_parts info25
  have HS := Lib.hid hs
  have hs1 : 128 ≤ s.size := by omega
  have hs2 : s.size ≤ 128 := by omega
  have hsl : s.data.toList.length = 128 := by rw [← Lib.size_eq]; exact hs
  clear hs
  go_enter Tryd.func30, Tryd.ntmps30
  go_upto_region 1 with fail
  have hh : Lies ((W.alloc (.cells (wordsA H) 26)).alloc (.cells (wordsA ⟨0, 0, 0, 0, 0, 0, 0, 0⟩) 26)) W.heap.size 26 (wordsA H) := heap_alloc2_old W _ _
  have hr : Lies ((W.alloc (.cells (wordsA H) 26)).alloc (.cells (wordsA ⟨0, 0, 0, 0, 0, 0, 0, 0⟩) 26)) (W.heap.size + 1) 26 (wordsA ⟨0, 0, 0, 0, 0, 0, 0, 0⟩) := heap_alloc2_new W _ _
  have hb := ((Below.refl W.heap.size W).alloc (Nat.le_refl _) (.cells (wordsA H) 26)).alloc (by simp) (.cells (wordsA ⟨0, 0, 0, 0, 0, 0, 0, 0⟩) 26)
  have hk2 : Keysat ((W.alloc (.cells (wordsA H) 26)).alloc (.cells (wordsA ⟨0, 0, 0, 0, 0, 0, 0, 0⟩) 26)) gk := (Lies.alloc hk _).alloc _
  have hgk := Lies.lt hk
  generalize (W.alloc (.cells (wordsA H) 26)).alloc (.cells (wordsA ⟨0, 0, 0, 0, 0, 0, 0, 0⟩) 26) = w2 at *
  go_wp2_with fail
  go_loopw [7, 8] (fun v i wr => ∃ t g cap : Nat, t ≤ 80 ∧ i = .int .i64 t ∧ v = .slice (some ⟨g, 0, none⟩) t cap ∧ wr.ownsRow w2.heap.size 25 1 (.slice (some ⟨g, 0, none⟩) t cap) t ((sched s.data.toList t).map w64) ∧ Below w2.heap.size w2 wr) (fun _ i _ => 80 - (intOf i).toNat)
  case atStart => exact ⟨0, _, _, by omega, rfl, rfl, own_empty (Lies.new _ _ _) (Nat.le_refl _), (Below.refl _ _).alloc (Nat.le_refl _) _⟩
  case round =>
    obtain ⟨t, g, cap, ht, rfl, rfl, ho, hbr⟩ := hrel
    by_cases hlt : t < 80
    · go_upto_if 27 with fail
      rw [decide_eq_true (show (t : Int) < 80 by omega)]
      go_cut [9, 10, 11, 12] from 27 to 80 (fun s9 _ _ _ wx => ∃ x n : Nat, s9 = .int .u64 (x : Int) ∧ nextW s.data.toList t x ∧ wx = wr.drewN n)
      case first =>
        by_cases h16 : t < 16
        · rw [decide_eq_true (show (t : Int) < 16 by omega)]
          go_wp2_with fail
          go_loopw [9, 10] (fun n i wv => ∃ k : Nat, k ≤ 8 ∧ i = .int .i64 k ∧ n = .int .u64 ((numL ((s.data.toList.drop (8 * t)).take k) : Nat) : Int) ∧ wv = wr) (fun _ i _ => 8 - (intOf i).toNat)
          case atStart => exact ⟨0, by omega, rfl, rfl, rfl⟩
          case round =>
            obtain ⟨k, hk8, rfl, rfl, rfl⟩ := hrel
            by_cases hlt4 : k < 8
            · have hi4 : 8 * t + k < s.size := by omega
              obtain ⟨hN, hN2⟩ := byte_step s t k hlt4 hi4
              have HN := Lib.hid hN
              clear hN
              generalize numL ((s.data.toList.drop (8 * t)).take k) = N at *
              have hu8 := u8_lt (s[8 * t + k]'hi4)
              go_wp2_with fail
              go_roundw
              case rel =>
                refine ⟨k + 1, by omega, by go_num, val_int ?_, trivial⟩
                rw [HN.out]
                omega
              case measure => simp [intOf]; omega
            · obtain rfl : k = 8 := by omega
              go_wp2_with fail
              go_meet
              exact ⟨_, 0, rfl, sched_head _ _ h16, rfl⟩
        · rw [decide_eq_false (show ¬ (t : Int) < 16 by omega)]
          have k2 := (ho.cellAt (t - 2) (by omega)).trans (sched_cell s.data.toList t (t - 2) (by omega))
          have k7 := (ho.cellAt (t - 7) (by omega)).trans (sched_cell s.data.toList t (t - 7) (by omega))
          have k15 := (ho.cellAt (t - 15) (by omega)).trans (sched_cell s.data.toList t (t - 15) (by omega))
          have k16 := (ho.cellAt (t - 16) (by omega)).trans (sched_cell s.data.toList t (t - 16) (by omega))
          have HN := Lib.hid (sched_rest s.data.toList t h16)
          have l2 := sched_at_lt s.data.toList t (t - 2)
          have l7 := sched_at_lt s.data.toList t (t - 7)
          have l15 := sched_at_lt s.data.toList t (t - 15)
          have l16 := sched_at_lt s.data.toList t (t - 16)
          have e2 : IntKind.i64.wrap ((t : Int) - 2) = ((t - 2 : Nat) : Int) := by rw [IntWalk.i64_in _ (by omega)]; omega
          have e7 : IntKind.i64.wrap ((t : Int) - 7) = ((t - 7 : Nat) : Int) := by rw [IntWalk.i64_in _ (by omega)]; omega
          have e15 : IntKind.i64.wrap ((t : Int) - 15) = ((t - 15 : Nat) : Int) := by rw [IntWalk.i64_in _ (by omega)]; omega
          have e16 : IntKind.i64.wrap ((t : Int) - 16) = ((t - 16 : Nat) : Int) := by rw [IntWalk.i64_in _ (by omega)]; omega
          have b2 : ((t - 2 : Nat) : Int) < (t : Int) := by omega
          have b7 : ((t - 7 : Nat) : Int) < (t : Int) := by omega
          have b15 : ((t - 15 : Nat) : Int) < (t : Int) := by omega
          have b16 : ((t - 16 : Nat) : Int) < (t : Int) := by omega
          generalize t - 2 = u2 at e2 b2 k2 l2 HN
          generalize t - 7 = u7 at e7 b7 k7 l7 HN
          generalize t - 15 = u15 at e15 b15 k15 l15 HN
          generalize t - 16 = u16 at e16 b16 k16 l16 HN
          generalize (sched s.data.toList t).getD u2 0 = x2 at k2 l2 HN
          generalize (sched s.data.toList t).getD u7 0 = x7 at k7 l7 HN
          generalize (sched s.data.toList t).getD u15 0 = x15 at k15 l15 HN
          generalize (sched s.data.toList t).getD u16 0 = x16 at k16 l16 HN
          go_wp2_with fail
          have T1 := Lib.hid (fun w => turn_is x2 19 19 w rfl l2 (by decide) (by decide))
          have T2 := Lib.hid (fun w => turn_is x2 61 61 w rfl l2 (by decide) (by decide))
          have T3 := Lib.hid (fun w => move_is x2 6 _ 6 w rfl l2 (by decide) rfl)
          have T4 := Lib.hid (fun w => turn_is x15 1 1 w rfl l15 (by decide) (by decide))
          have T5 := Lib.hid (fun w => turn_is x15 8 8 w rfl l15 (by decide) (by decide))
          have T6 := Lib.hid (fun w => move_is x15 7 _ 7 w rfl l15 (by decide) rfl)
          go_quiet (first | (with_reducible exact Calls.quiet_of (T1.out _)) | (with_reducible exact Calls.quiet_of (T2.out _)) | (with_reducible exact Calls.quiet_of_same (T3.out _)) | (with_reducible exact Calls.quiet_of (T4.out _)) | (with_reducible exact Calls.quiet_of (T5.out _)) | (with_reducible exact Calls.quiet_of_same (T6.out _)))
          go_wp2
          go_meet
          refine ⟨_, nq, val_int ?_, HN.out, rfl⟩
          rw [sig_one x2 l2, sig_zero x15 l15]
          simp only [IntKind.wrap_u64]
          omega
      case rest =>
        obtain ⟨x, nx, rfl, hx, rfl⟩ := hcut
        have HX := Lib.hid hx
        have hno := own_drewN ho nx
        have hsz := hbr.size
        clear hx
        go_wp2_with ((with_reducible refine wpL_append w2.heap.size 25 i0 (.int .u64 0) 8 Tryd.underlying31 hi hz0 hz1 hz2 rfl _ t _ (hno.alloc _) (wr.drewN nx).heap.size (.int .u64 (x : Int)) (Lies.new (wr.drewN nx) _ _) rfl (by unfold maxLen; omega) (by omega) (by simp; omega) ?_ ?_ ?_); rfl; rfl; intro g6 cap6 w6 ho6 hgrow6)
        go_roundw
        case rel =>
          refine ⟨t + 1, g6, cap6, by omega, by go_num, rfl, ?_, ((below_drawn hbr nx).alloc hsz _).grown hgrow6 (by simp; omega) (fun k hk => (ho.lt k hk).1)⟩
          rw [HX.out, List.map_append]
          exact ho6
        case measure => simp [intOf]; omega
    · obtain rfl : t = 80 := by omega
      rw [show ((80 : Nat) : Int) = 80 from rfl]
      have hh5 := hh.on hbr
      have hr5 := hr.on hbr
      have hk5 : Keysat wr gk := Lies.on hk2 hbr
      have hb5 := below_on hb hbr
      have hgw := own_far ho (t := 26) hh5 (by decide)
      go_upto_region 16 with ((with_reducible refine wpL_load W.heap.size 26 (wordsA H) 8 row26 rfl hh5 ?_ ?_); rfl)
      have hv6 := Lies.new wr 26 (wordsA H)
      have hh6 := hh5.alloc (.cells (wordsA H) 26)
      have hr6 := hr5.alloc (.cells (wordsA H) 26)
      have hk6 := keys_cells (Lies.alloc hk5 (.cells (wordsA H) 26))
      have ho6 := ho.alloc (.cells (wordsA H) 26)
      have hw6 := row_cells ho6
      have hb6 := hb5.alloc hb5.size (.cells (wordsA H) 26)
      have hgw2 : g < wr.heap.size := block_lt_of_cell ((ho.cellAt 0 (by decide)).trans (sched_cell _ _ _ (by decide)))
      have hgh := hh5.lt
      have hgr := hr5.lt
      have hgv : W.heap.size ≤ wr.heap.size := hb5.size
      clear hh hr hk hk2 hb hbr hh5 hr5 hk5 hb5 ho ho6 hgw hi hz0 hz1 hz2
      generalize wr.alloc (.cells (wordsA H) 26) = w6 at *
      generalize wr.heap.size = gv at *
      go_wp2_with fail
      go_loopw [14] (fun i wr => ∃ (t : Nat) (v : H8), t ≤ 80 ∧ i = .int .i64 t ∧ v.Ok ∧ Hid (v = rnds (sched s.data.toList 80) H t) ∧ Lies wr gv 26 (wordsA v) ∧ Only gv w6 wr) (fun i _ => 80 - (intOf i).toNat)
      case atStart => exact ⟨0, H, by omega, rfl, hok, Lib.hid rfl, hv6, Only.refl _ _⟩
      case round =>
        clear hv6
        obtain ⟨t, v, ht, rfl, hv, HV, hl, hO⟩ := hrel
        by_cases hlt : t < 80
        · have kT := only_cell hO (hk6 t hlt) (by simp only; omega)
          have wT := only_cell hO (hw6 t hlt) (by simp only; omega)
          have HR := Lib.hid (show rnds (sched s.data.toList 80) H (t + 1) = rnd v (kAt t) ((sched s.data.toList 80).getD t 0) by rw [rnds, HV.out])
          have lk := kAt_lt t hlt
          have lw := sched_at_lt s.data.toList 80 t
          have HK := Lib.hid hv
          obtain ⟨va, vb, vc, vd, ve, vf, vg, vh⟩ := hv
          generalize kAt t = k at kT HR lk
          generalize (sched s.data.toList 80).getD t 0 = x at wT HR lw
          have hi : (t : Int) < 80 := by omega
          obtain ⟨c0, c1, c2, c3, c4, c5, c6, c7⟩ := hl.words8
          go_upto_region 21 with fail
          have A1 := Lib.hid (fun w => turn_is v.e 14 14 w rfl ve (by decide) (by decide))
          have A2 := Lib.hid (fun w => turn_is v.e 18 18 w rfl ve (by decide) (by decide))
          have A3 := Lib.hid (fun w => turn_is v.e 41 41 w rfl ve (by decide) (by decide))
          have A4 := Lib.hid (fun w => turn_is v.a 28 28 w rfl va (by decide) (by decide))
          have A5 := Lib.hid (fun w => turn_is v.a 34 34 w rfl va (by decide) (by decide))
          have A6 := Lib.hid (fun w => turn_is v.a 39 39 w rfl va (by decide) (by decide))
          go_cut [17] from 94 to 125 (fun s17 wx => s17 = .int .u64 (tmp1 v k x : Int) ∧ Lies wx gv 26 (wordsA v) ∧ Only gv w6 wx)
          case first =>
            go_quiet (first | (with_reducible exact Calls.quiet_of (A1.out _)) | (with_reducible exact Calls.quiet_of (A2.out _)) | (with_reducible exact Calls.quiet_of (A3.out _)))
            go_wp2
            go_meet
            refine ⟨?_, hl.drewN nq, hO.drewN nq⟩
            rw [big_one _ ve, ch_ref _ _ _ ve vf vg]
            exact val_int (by simp only [tmp1, IntKind.wrap_u64]; omega)
          case rest =>
            clear hl hO c0 c1 c2 c3 c4 c5 c6 c7 kT wT
            obtain ⟨rfl, hl, hO⟩ := hcut
            obtain ⟨c0, c1, c2, c3, c4, c5, c6, c7⟩ := hl.words8
            go_upto_region 22 with fail
            go_cut [18] from 126 to 149 (fun s18 wx => s18 = .int .u64 (tmp2 v : Int) ∧ Lies wx gv 26 (wordsA v) ∧ Only gv w6 wx)
            case first =>
              go_quiet (first | (with_reducible exact Calls.quiet_of (A4.out _)) | (with_reducible exact Calls.quiet_of (A5.out _)) | (with_reducible exact Calls.quiet_of (A6.out _)))
              go_wp2
              go_meet
              refine ⟨?_, hl.drewN nq, hO.drewN nq⟩
              rw [big_zero _ va, maj_walk _ _ _ va vb vc]
              exact val_int (by simp only [tmp2, IntKind.wrap_u64]; omega)
            case rest =>
              clear hl hO
              obtain ⟨rfl, hl, hO⟩ := hcut
              clear A1 A2 A3 A4 A5 A6 c0 c1 c2 c3 c4 c5 c6 c7 va vb vc vd ve vf vg vh lk lw
              have HE := Lib.hid (shiftA_end v k x)
              go_wp2_with fail
              go_loopw [19] (fun i wv => ∃ j : Nat, j ≤ 7 ∧ i = .int .i64 j ∧ Lies wv gv 26 (shiftA v j) ∧ Only gv w6 wv) (fun i _ => (intOf i).toNat)
              case atStart => exact ⟨7, by omega, rfl, hl, hO⟩
              case round =>
                clear hl hO
                obtain ⟨j, hj, rfl, hl, hO⟩ := hrel
                by_cases h0 : 0 < j
                · obtain ⟨m, rfl⟩ : ∃ m, j = m + 1 := ⟨j - 1, by omega⟩
                  have hc := (hl.cell m).trans (shiftA_at v m (by omega))
                  have hf := hl.frozen (m + 1)
                  obtain ⟨y, hy⟩ := shiftA_cur v m (by omega)
                  have hc1 := (hl.cell (m + 1)).trans hy
                  clear hy
                  have e1 : IntKind.i64.wrap (((m + 1 : Nat) : Int) - 1) = (m : Int) := by rw [IntWalk.i64_in _ (by omega)]; omega
                  have HP := Lib.hid (shiftA_set v m (by omega))
                  have b1 : (m : Int) < 8 := by omega
                  have b2 : ((m + 1 : Nat) : Int) < 8 := by omega
                  go_wp2_with fail
                  go_roundw
                  case rel => exact ⟨m, by omega, rfl, by rw [← HP.out]; exact hl.put _ _, hO.put (Or.inl rfl) _⟩
                  case measure => simp [intOf]
                · obtain rfl : j = 0 := by omega
                  have hc4 : wr.cell? ⟨gv, 4, none⟩ = some (.int .u64 (v.d : Int)) := hl.cell 4
                  have hc0 : wr.cell? ⟨gv, 0, none⟩ = some (.int .u64 (v.a : Int)) := hl.cell 0
                  have hf4 := hl.frozen 4
                  have hf0 := hl.frozen 0
                  go_wp2_with fail
                  go_roundw
                  case rel =>
                    refine ⟨t + 1, rnd v k x, by omega, by go_num, rnd_ok HK.out _ _, Lib.hid HR.out.symm, ?_, (hO.put (Or.inl rfl) _).put (Or.inl rfl) _⟩
                    rw [← HE.out]
                    simp only [plus_cast]
                    exact (hl.put 4 _).put 0 _
                  case measure => simp [intOf]; omega
        · obtain rfl : t = 80 := by omega
          rw [show ((80 : Nat) : Int) = 80 from rfl]
          have hhv := hh6.only hO (by intro e; injection e; omega)
          have hrv := hr6.only hO (by intro e; injection e; omega)
          have hbv := hO.below hb6 hb6.size hgv
          clear hh6 hr6 hb6 hO hk6 hw6
          go_wp2_with fail
          go_loopw [20] (fun i wr => ∃ t : Nat, t ≤ 8 ∧ i = .int .i64 t ∧ Lies wr W.heap.size 26 (plusA H v t) ∧ Lies wr gv 26 (wordsA v) ∧ Lies wr (W.heap.size + 1) 26 (wordsA ⟨0, 0, 0, 0, 0, 0, 0, 0⟩) ∧ Below W.heap.size W wr) (fun i _ => 8 - (intOf i).toNat)
          case atStart => exact ⟨0, by omega, rfl, hhv, hl, hrv, hbv⟩
          case round =>
            clear hhv hl hrv hbv
            obtain ⟨t, ht, rfl, hh, hl, hr, hb⟩ := hrel
            by_cases hlt : t < 8
            · have hc := (hh.cell t).trans (plusA_at H v t hlt)
              have hd := (hl.cell t).trans (wordsA_at v t hlt)
              have hf := hh.frozen t
              have hi : (t : Int) < 8 := by omega
              have HP := Lib.hid (plusA_set H v t hlt)
              go_upto_region 32 with fail
              go_region
              all_goals
                go_wp2
                go_roundw
                case rel =>
                  exact ⟨t + 1, by omega, by go_num, by rw [← HP.out, plus_cast]; exact (hh.put t _).drew, (hl.far (by simp only; omega) _).drew, (hr.far (by simp only; omega) _).drew, (hb.setCell (p := ⟨W.heap.size, t, none⟩) (Nat.le_refl _) _).drew⟩
                case measure => simp [intOf]; omega
            · obtain rfl : t = 8 := by omega
              rw [show ((8 : Nat) : Int) = 8 from rfl]
              have HE := Lib.hid (show plusA H v 8 = wordsA (mix H s.data.toList) by rw [mix, ← HV.out]; rfl)
              have HN := Lib.hid (show (plusA H v 8).size = 8 from rfl)
              have HO := Lib.hid (show Ones (plusA H v 8) by simp [Ones, plusA, Value.oneCell'])
              have H0 := Lib.hid (show (wordsA ⟨0, 0, 0, 0, 0, 0, 0, 0⟩).size = 8 from rfl)
              have HL := Lib.hid hh
              have HR := Lib.hid hr
              clear hh hr hl
              obtain ⟨cs, hcs⟩ : ∃ cs, plusA H v 8 = cs := ⟨_, rfl⟩
              rw [hcs] at HE HN HO HL
              obtain ⟨zs, hzs⟩ : ∃ zs, wordsA ⟨0, 0, 0, 0, 0, 0, 0, 0⟩ = zs := ⟨_, rfl⟩
              rw [hzs] at H0 HR
              clear hcs hzs
              go_wp2_with (first | ((with_reducible refine wpL_load W.heap.size 26 cs 8 row26 HN.out HL.out ?_ ?_); rfl) | ((with_reducible refine wpL_store (W.heap.size + 1) 26 _ cs 8 row26 H0.out HN.out HO.out HR.out ?_ ?_ ?_); rfl; rfl))
              exact bodyPost_ret (results_row Tryd.results30 row26 HN.out (HR.out.row cs) rfl) rfl ⟨by rw [HE.out], below_rowSet hb (by omega) _⟩
end Go.Proofs.YtmebiidgeaalpaaDoor.T
