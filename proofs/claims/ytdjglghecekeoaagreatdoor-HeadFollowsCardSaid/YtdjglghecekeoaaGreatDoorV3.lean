/- Texts that stand on one another, put together: URefMix, UClone, UTake, UNum. -/
import Derived.Test.YtdjglghecekeoaaGreatDoorV2
import Derived.Deep.AppendLies
import Derived.Deep.CutRange
import Derived.Deep.RegionWith
import Derived.Deep.WholeRow
import Derived.Lib.BufferWrite
import Derived.Lib.Strings
import Derived.Lib.UnsafeStr
import Derived.Lib.Walk
/- The contract of the reference's Mix: eight words behind a block. -/
namespace Go.Proofs.YtdjglghecekeoaaGreatDoor.U
open Go.RowKit
set_option maxRecDepth 100000

theorem info25 : (Tryz.prog.info? 106).map (fun i => (i.zero, i.size, i.bytes)) = some (some (.int .u32 0), 1, 4) := by kernel_rfl
/-- eight words as a row -/
abbrev wordsA (s : H8) : Array Value := #[u32 s.a, u32 s.b, u32 s.c, u32 s.d, u32 s.e, u32 s.f, u32 s.g, u32 s.h]
/-- the constants as a row -/
def ksA : Array Value := (ks.map u32).toArray
/-- the reference's constants in memory -/
def Keysat (w : World) (g : Nat) : Prop := Lies w g 106 ksA

theorem byte_step (s : ByteArray) (t k : Nat) (hk : k < 4) (hi : 4 * t + k < s.size) : numL ((s.data.toList.drop (4 * t)).take (k + 1)) = 256 * numL ((s.data.toList.drop (4 * t)).take k) + (s[4 * t + k]'hi).toNat ∧ numL ((s.data.toList.drop (4 * t)).take k) < 16777216 := by
  have hl : 4 * t + k < s.data.toList.length := by rw [← Lib.size_eq]; exact hi
  refine ⟨?_, ?_⟩
  · rw [List.take_add_one, List.getElem?_drop, List.getElem?_eq_getElem hl, Option.toList_some, numL_snoc]
    rfl
  · refine Nat.lt_of_lt_of_le (numL_lt _) ?_
    have h4 : ((s.data.toList.drop (4 * t)).take k).length ≤ 3 := Nat.le_trans (List.length_take_le _ _) (by omega)
    exact Nat.le_trans (Nat.pow_le_pow_right (by decide) h4) (by decide)

theorem sched_cell (b : List UInt8) (t i : Nat) (h : i < t) : ((sched b t).map u32)[i]? = some (u32 ((sched b t).getD i 0)) := by
  have hl := sched_length b t
  rw [List.getElem?_map, List.getD_eq_getElem?_getD, List.getElem?_eq_getElem (by omega)]
  rfl
theorem turn_is (x n : Nat) (m : Int) (w : World) (hm : m = (n : Int)) (hx : x < 4294967296) (h1 : 0 < n) (h2 : n < 32) :
    Calls Tryz.prog 143 #[.int .u32 x, .int .i64 m] w fun e w' => e = .returned (.int .u32 (rotr x n)) ∧ ∃ n, w' = w.drewN n := by
  rw [hm]
  exact turn_any x n w hx h1 h2
theorem move_is (x n y : Nat) (m : Int) (w : World) (hm : m = (n : Int)) (hx : x < 4294967296) (h2 : n < 32) (hy : x / 2 ^ n = y) :
    Calls Tryz.prog 144 #[.int .u32 x, .int .i64 m] w fun e w' => e = .returned (.int .u32 (y : Int)) ∧ w' = w := by
  rw [hm, ← hy]
  exact move_any x n w hx h2

theorem sig_one (x : Nat) (hx : x < 4294967296) : bits BinOp.xor IntKind.u32 (bits BinOp.xor IntKind.u32 (rotr x 17 : Nat) (rotr x 19 : Nat)) ((x : Int) / 1024) = ((ssig1 x : Nat) : Int) := by
  rw [show (x : Int) / 1024 = ((x / 2 ^ 10 : Nat) : Int) by omega]
  exact xor_words (rotr_lt x 17 hx (by decide)) (rotr_lt x 19 hx (by decide)) (Nat.lt_of_le_of_lt (Nat.div_le_self _ _) hx)
theorem sig_zero (x : Nat) (hx : x < 4294967296) : bits BinOp.xor IntKind.u32 (bits BinOp.xor IntKind.u32 (rotr x 7 : Nat) (rotr x 18 : Nat)) ((x : Int) / 8) = ((ssig0 x : Nat) : Int) := by
  rw [show (x : Int) / 8 = ((x / 2 ^ 3 : Nat) : Int) by omega]
  exact xor_words (rotr_lt x 7 hx (by decide)) (rotr_lt x 18 hx (by decide)) (Nat.lt_of_le_of_lt (Nat.div_le_self _ _) hx)

theorem big_one (x : Nat) (hx : x < 4294967296) : bits BinOp.xor IntKind.u32 (bits BinOp.xor IntKind.u32 (rotr x 6 : Nat) (rotr x 11 : Nat)) (rotr x 25 : Nat) = ((bsig1 x : Nat) : Int) :=
  xor_words (rotr_lt x 6 hx (by decide)) (rotr_lt x 11 hx (by decide)) (rotr_lt x 25 hx (by decide))
theorem big_zero (x : Nat) (hx : x < 4294967296) : bits BinOp.xor IntKind.u32 (bits BinOp.xor IntKind.u32 (rotr x 2 : Nat) (rotr x 13 : Nat)) (rotr x 22 : Nat) = ((bsig0 x : Nat) : Int) :=
  xor_words (rotr_lt x 2 hx (by decide)) (rotr_lt x 13 hx (by decide)) (rotr_lt x 22 hx (by decide))
/-- the eight words while they are moved on, from the last one down to i -/
def shiftA (v : H8) : Nat → Array Value
  | 0 => #[u32 v.a, u32 v.a, u32 v.b, u32 v.c, u32 v.d, u32 v.e, u32 v.f, u32 v.g]
  | 1 => #[u32 v.a, u32 v.b, u32 v.b, u32 v.c, u32 v.d, u32 v.e, u32 v.f, u32 v.g]
  | 2 => #[u32 v.a, u32 v.b, u32 v.c, u32 v.c, u32 v.d, u32 v.e, u32 v.f, u32 v.g]
  | 3 => #[u32 v.a, u32 v.b, u32 v.c, u32 v.d, u32 v.d, u32 v.e, u32 v.f, u32 v.g]
  | 4 => #[u32 v.a, u32 v.b, u32 v.c, u32 v.d, u32 v.e, u32 v.e, u32 v.f, u32 v.g]
  | 5 => #[u32 v.a, u32 v.b, u32 v.c, u32 v.d, u32 v.e, u32 v.f, u32 v.f, u32 v.g]
  | 6 => #[u32 v.a, u32 v.b, u32 v.c, u32 v.d, u32 v.e, u32 v.f, u32 v.g, u32 v.g]
  | _ => #[u32 v.a, u32 v.b, u32 v.c, u32 v.d, u32 v.e, u32 v.f, u32 v.g, u32 v.h]
theorem shiftA_at (v : H8) (m : Nat) (h : m < 7) : (shiftA v (m + 1))[m]? = some (u32 (v.at m)) := by
  match m, h with
  | 0, _ | 1, _ | 2, _ | 3, _ | 4, _ | 5, _ | 6, _ => rfl
theorem shiftA_cur (v : H8) (m : Nat) (h : m < 7) : ∃ y : Int, (shiftA v (m + 1))[m + 1]? = some (.int .u32 y) := by
  match m, h with
  | 0, _ | 1, _ | 2, _ | 3, _ | 4, _ | 5, _ | 6, _ => exact ⟨_, rfl⟩
theorem ch_ref (e f g : Nat) (he : e < 4294967296) (hf : f < 4294967296) (hg : g < 4294967296) :
    bits BinOp.xor IntKind.u32 (bits BinOp.and IntKind.u32 (e : Int) (f : Int)) (bits BinOp.and IntKind.u32 (bits BinOp.xor IntKind.u32 IntKind.u32.max (e : Int)) (g : Int)) = ((chs e f g : Nat) : Int) := ch_walk e f g he hf hg
theorem shiftA_set (v : H8) (m : Nat) (h : m < 7) : (shiftA v (m + 1)).setIfInBounds (m + 1) (u32 (v.at m)) = shiftA v m := by
  match m, h with
  | 0, _ | 1, _ | 2, _ | 3, _ | 4, _ | 5, _ | 6, _ => rfl
theorem shiftA_end (v : H8) (k x : Nat) : ((shiftA v 0).setIfInBounds 4 (u32 ((v.d + tmp1 v k x) % 4294967296))).setIfInBounds 0 (u32 ((tmp1 v k x + tmp2 v) % 4294967296)) = wordsA (rnd v k x) := rfl
/-- the eight words while they are added up, i of them done -/
def plusA (s v : H8) (i : Nat) : Array Value :=
  let f := fun (j x y : Nat) => u32 (if j < i then (x + y) % 4294967296 else x)
  #[f 0 s.a v.a, f 1 s.b v.b, f 2 s.c v.c, f 3 s.d v.d, f 4 s.e v.e, f 5 s.f v.f, f 6 s.g v.g, f 7 s.h v.h]
theorem plusA_at (s v : H8) (i : Nat) (h : i < 8) : (plusA s v i)[i]? = some (u32 (s.at i)) := by
  match i, h with
  | 0, _ | 1, _ | 2, _ | 3, _ | 4, _ | 5, _ | 6, _ | 7, _ => rfl
theorem plusA_set (s v : H8) (i : Nat) (h : i < 8) : (plusA s v i).setIfInBounds i (u32 ((s.at i + v.at i) % 4294967296)) = plusA s v (i + 1) := by
  match i, h with
  | 0, _ | 1, _ | 2, _ | 3, _ | 4, _ | 5, _ | 6, _ | 7, _ => rfl
theorem wordsA_at (v : H8) (i : Nat) (h : i < 8) : (wordsA v)[i]? = some (u32 (v.at i)) := by
  match i, h with
  | 0, _ | 1, _ | 2, _ | 3, _ | 4, _ | 5, _ | 6, _ | 7, _ => rfl
theorem Lies.words8 {w : World} {g : Nat} {t : TypeId} {v : H8} (h : Lies w g t (wordsA v)) :
    w.cell? ⟨g, 0, none⟩ = some (u32 v.a) ∧ w.cell? ⟨g, 1, none⟩ = some (u32 v.b) ∧ w.cell? ⟨g, 2, none⟩ = some (u32 v.c) ∧ w.cell? ⟨g, 3, none⟩ = some (u32 v.d) ∧ w.cell? ⟨g, 4, none⟩ = some (u32 v.e) ∧ w.cell? ⟨g, 5, none⟩ = some (u32 v.f) ∧ w.cell? ⟨g, 6, none⟩ = some (u32 v.g) ∧ w.cell? ⟨g, 7, none⟩ = some (u32 v.h) :=
  ⟨h.cell 0, h.cell 1, h.cell 2, h.cell 3, h.cell 4, h.cell 5, h.cell 6, h.cell 7⟩
theorem only_cell {a w : World} {g : Nat} {p : Addr} {v : Value} (h : Only g a w) (hc : a.cell? p = some v) (hne : p.block ≠ g) : w.cell? p = some v :=
  (World.cell?_of_block (h.block p.block (World.block_lt_of_cell? a _ hc) (fun e => hne (by injection e)))).trans hc
theorem ksA_at (t : Nat) (h : t < 64) : ksA[t]? = some (u32 (kAt t)) := by
  have hl : ks.length = 64 := rfl
  unfold ksA kAt
  rw [List.getElem?_toArray, List.getElem?_map, List.getD_eq_getElem?_getD, List.getElem?_eq_getElem (by omega)]
  rfl
theorem keys_cells {w : World} {g : Nat} (h : Keysat w g) : ∀ t, t < 64 → w.cell? ⟨g, t, none⟩ = some (u32 (kAt t)) := fun t ht => (h.cell t).trans (ksA_at t ht)
theorem row_cells {w : World} {B g cap : Nat} {b : List UInt8} (h : w.ownsRow B 106 1 (.slice (some ⟨g, 0, none⟩) 64 cap) 64 ((sched b 64).map u32)) : ∀ t, t < 64 → w.cell? ⟨g, t, none⟩ = some (u32 ((sched b 64).getD t 0)) := fun t ht => (h.cellAt t ht).trans (sched_cell _ _ _ ht)
theorem own_drewN {w : World} {B e n : Nat} {v : Value} {xs : List Value} (h : w.ownsRow B e 1 v n xs) (k : Nat) : (w.drewN k).ownsRow B e 1 v n xs := h

/-- what the next round's word is, whichever round -/
def nextW (b : List UInt8) (t x : Nat) : Prop := sched b (t + 1) = sched b t ++ [x]

set_option maxRecDepth 100000 in
set_option maxHeartbeats 1600000 in
theorem mix_any (H : H8) (s : ByteArray) (gk : Nat) (W : World) (hs : s.size = 64) (hok : H.Ok) (hk : Keysat W gk) :
    Calls Tryz.prog 115 #[.agg (wordsA H), .string s, .slice (some ⟨gk, 0, none⟩) 64 64] W fun e W' => e = .returned (.agg (wordsA (mix H s.data.toList))) ∧ Below W.heap.size W W' := by
  obtain ⟨i0, hi, hz0, hz1, hz2⟩ := info_parts info25
  have HS := Lib.hid hs
  have hs1 : 64 ≤ s.size := by omega
  have hs2 : s.size ≤ 64 := by omega
  have hsl : s.data.toList.length = 64 := by rw [← Lib.size_eq]; exact hs
  clear hs
  go_enter Tryz.func115, Tryz.ntmps115
  go_upto_region 1 with fail
  have hh : Lies ((W.alloc (.cells (wordsA H) 107)).alloc (.cells (wordsA ⟨0, 0, 0, 0, 0, 0, 0, 0⟩) 107)) W.heap.size 107 (wordsA H) := heap_alloc2_old W _ _
  have hr : Lies ((W.alloc (.cells (wordsA H) 107)).alloc (.cells (wordsA ⟨0, 0, 0, 0, 0, 0, 0, 0⟩) 107)) (W.heap.size + 1) 107 (wordsA ⟨0, 0, 0, 0, 0, 0, 0, 0⟩) := heap_alloc2_new W _ _
  have hb := ((Below.refl W.heap.size W).alloc (Nat.le_refl _) (.cells (wordsA H) 107)).alloc (by simp) (.cells (wordsA ⟨0, 0, 0, 0, 0, 0, 0, 0⟩) 107)
  have hk2 : Keysat ((W.alloc (.cells (wordsA H) 107)).alloc (.cells (wordsA ⟨0, 0, 0, 0, 0, 0, 0, 0⟩) 107)) gk := (Lies.alloc hk _).alloc _
  have hgk := Lies.lt hk
  generalize (W.alloc (.cells (wordsA H) 107)).alloc (.cells (wordsA ⟨0, 0, 0, 0, 0, 0, 0, 0⟩) 107) = w2 at *
  go_wp2_with fail
  go_loopw [7, 8] (fun v i wr => ∃ t g cap : Nat, t ≤ 64 ∧ i = .int .i64 t ∧ v = .slice (some ⟨g, 0, none⟩) t cap ∧ wr.ownsRow w2.heap.size 106 1 (.slice (some ⟨g, 0, none⟩) t cap) t ((sched s.data.toList t).map u32) ∧ Below w2.heap.size w2 wr) (fun _ i _ => 64 - (intOf i).toNat)
  case atStart => exact ⟨0, _, _, by omega, rfl, rfl, own_empty (Lies.new _ _ _) (Nat.le_refl _), (Below.refl _ _).alloc (Nat.le_refl _) _⟩
  case round =>
    obtain ⟨t, g, cap, ht, rfl, rfl, ho, hbr⟩ := hrel
    by_cases hlt : t < 64
    · go_upto_if 27 with fail
      rw [decide_eq_true (show (t : Int) < 64 by omega)]
      go_cut [9, 10, 11, 12] from 27 to 80 (fun s9 _ _ _ wx => ∃ x n : Nat, s9 = .int .u32 (x : Int) ∧ nextW s.data.toList t x ∧ wx = wr.drewN n)
      case first =>
        by_cases h16 : t < 16
        · rw [decide_eq_true (show (t : Int) < 16 by omega)]
          go_wp2_with fail
          go_loopw [9, 10] (fun n i wv => ∃ k : Nat, k ≤ 4 ∧ i = .int .i64 k ∧ n = .int .u32 ((numL ((s.data.toList.drop (4 * t)).take k) : Nat) : Int) ∧ wv = wr) (fun _ i _ => 4 - (intOf i).toNat)
          case atStart => exact ⟨0, by omega, rfl, rfl, rfl⟩
          case round =>
            obtain ⟨k, hk4, rfl, rfl, rfl⟩ := hrel
            by_cases hlt4 : k < 4
            · have hi4 : 4 * t + k < s.size := by omega
              obtain ⟨hN, hN2⟩ := byte_step s t k hlt4 hi4
              have HN := Lib.hid hN
              clear hN
              generalize numL ((s.data.toList.drop (4 * t)).take k) = N at *
              have hu8 := u8_lt (s[4 * t + k]'hi4)
              go_wp2_with fail
              go_roundw
              case rel =>
                refine ⟨k + 1, by omega, by go_num, val_int ?_, trivial⟩
                rw [HN.out]
                omega
              case measure => simp [intOf]; omega
            · obtain rfl : k = 4 := by omega
              go_wp2_with fail
              go_meet
              exact ⟨_, 0, rfl, sched_head _ _ h16, rfl⟩
        · rw [decide_eq_false (show ¬ (t : Int) < 16 by omega)]
          have k2 := (ho.cellAt (t - 2) (by omega)).trans (sched_cell s.data.toList t (t - 2) (by omega))
          have k7 := (ho.cellAt (t - 7) (by omega)).trans (sched_cell s.data.toList t (t - 7) (by omega))
          have k15 := (ho.cellAt (t - 15) (by omega)).trans (sched_cell s.data.toList t (t - 15) (by omega))
          have k16 := (ho.cellAt (t - 16) (by omega)).trans (sched_cell s.data.toList t (t - 16) (by omega))
          have HN := Lib.hid (sched_rest s.data.toList t h16)
          have l2 := sched_at_lt s.data.toList t (t - 2)
          have l7 := sched_at_lt s.data.toList t (t - 7)
          have l15 := sched_at_lt s.data.toList t (t - 15)
          have l16 := sched_at_lt s.data.toList t (t - 16)
          have e2 : IntKind.i64.wrap ((t : Int) - 2) = ((t - 2 : Nat) : Int) := by rw [IntWalk.i64_in _ (by omega)]; omega
          have e7 : IntKind.i64.wrap ((t : Int) - 7) = ((t - 7 : Nat) : Int) := by rw [IntWalk.i64_in _ (by omega)]; omega
          have e15 : IntKind.i64.wrap ((t : Int) - 15) = ((t - 15 : Nat) : Int) := by rw [IntWalk.i64_in _ (by omega)]; omega
          have e16 : IntKind.i64.wrap ((t : Int) - 16) = ((t - 16 : Nat) : Int) := by rw [IntWalk.i64_in _ (by omega)]; omega
          have b2 : ((t - 2 : Nat) : Int) < (t : Int) := by omega
          have b7 : ((t - 7 : Nat) : Int) < (t : Int) := by omega
          have b15 : ((t - 15 : Nat) : Int) < (t : Int) := by omega
          have b16 : ((t - 16 : Nat) : Int) < (t : Int) := by omega
          generalize t - 2 = u2 at e2 b2 k2 l2 HN
          generalize t - 7 = u7 at e7 b7 k7 l7 HN
          generalize t - 15 = u15 at e15 b15 k15 l15 HN
          generalize t - 16 = u16 at e16 b16 k16 l16 HN
          generalize (sched s.data.toList t).getD u2 0 = x2 at k2 l2 HN
          generalize (sched s.data.toList t).getD u7 0 = x7 at k7 l7 HN
          generalize (sched s.data.toList t).getD u15 0 = x15 at k15 l15 HN
          generalize (sched s.data.toList t).getD u16 0 = x16 at k16 l16 HN
          go_wp2_with fail
          have T1 := Lib.hid (fun w => turn_is x2 17 17 w rfl l2 (by decide) (by decide))
          have T2 := Lib.hid (fun w => turn_is x2 19 19 w rfl l2 (by decide) (by decide))
          have T3 := Lib.hid (fun w => move_is x2 10 _ 10 w rfl l2 (by decide) rfl)
          have T4 := Lib.hid (fun w => turn_is x15 7 7 w rfl l15 (by decide) (by decide))
          have T5 := Lib.hid (fun w => turn_is x15 18 18 w rfl l15 (by decide) (by decide))
          have T6 := Lib.hid (fun w => move_is x15 3 _ 3 w rfl l15 (by decide) rfl)
          go_quiet (first | (with_reducible exact Calls.quiet_of (T1.out _)) | (with_reducible exact Calls.quiet_of (T2.out _)) | (with_reducible exact Calls.quiet_of_same (T3.out _)) | (with_reducible exact Calls.quiet_of (T4.out _)) | (with_reducible exact Calls.quiet_of (T5.out _)) | (with_reducible exact Calls.quiet_of_same (T6.out _)))
          go_wp2
          go_meet
          refine ⟨_, nq, val_int ?_, HN.out, rfl⟩
          rw [sig_one x2 l2, sig_zero x15 l15]
          omega
      case rest =>
        obtain ⟨x, nx, rfl, hx, rfl⟩ := hcut
        have HX := Lib.hid hx
        have hno := own_drewN ho nx
        have hsz := hbr.size
        clear hx
        go_wp2_with ((with_reducible refine wpL_append w2.heap.size 106 i0 (.int .u32 0) 4 Tryz.underlying155 hi hz0 hz1 hz2 rfl _ t _ (hno.alloc _) (wr.drewN nx).heap.size (.int .u32 (x : Int)) (Lies.new (wr.drewN nx) _ _) rfl (by unfold maxLen; omega) (by omega) (by simp; omega) ?_ ?_ ?_); rfl; rfl; intro g6 cap6 w6 ho6 hgrow6)
        go_roundw
        case rel =>
          refine ⟨t + 1, g6, cap6, by omega, by go_num, rfl, ?_, ((below_drawn hbr nx).alloc hsz _).grown hgrow6 (by simp; omega) (fun k hk => (ho.lt k hk).1)⟩
          rw [HX.out, List.map_append]
          exact ho6
        case measure => simp [intOf]; omega
    · obtain rfl : t = 64 := by omega
      rw [show ((64 : Nat) : Int) = 64 from rfl]
      have hh5 := hh.on hbr
      have hr5 := hr.on hbr
      have hk5 : Keysat wr gk := Lies.on hk2 hbr
      have hb5 := below_on hb hbr
      have hgw := own_far ho (t := 107) hh5 (by decide)
      go_upto_region 16 with ((with_reducible refine wpL_load W.heap.size 107 (wordsA H) 8 row26 rfl hh5 ?_ ?_); rfl)
      have hv6 := Lies.new wr 107 (wordsA H)
      have hh6 := hh5.alloc (.cells (wordsA H) 107)
      have hr6 := hr5.alloc (.cells (wordsA H) 107)
      have hk6 := keys_cells (Lies.alloc hk5 (.cells (wordsA H) 107))
      have ho6 := ho.alloc (.cells (wordsA H) 107)
      have hw6 := row_cells ho6
      have hb6 := hb5.alloc hb5.size (.cells (wordsA H) 107)
      have hgw2 : g < wr.heap.size := block_lt_of_cell ((ho.cellAt 0 (by decide)).trans (sched_cell _ _ _ (by decide)))
      have hgh := hh5.lt
      have hgr := hr5.lt
      have hgv : W.heap.size ≤ wr.heap.size := hb5.size
      clear hh hr hk hk2 hb hbr hh5 hr5 hk5 hb5 ho ho6 hgw hi hz0 hz1 hz2
      generalize wr.alloc (.cells (wordsA H) 107) = w6 at *
      generalize wr.heap.size = gv at *
      go_wp2_with fail
      go_loopw [14] (fun i wr => ∃ (t : Nat) (v : H8), t ≤ 64 ∧ i = .int .i64 t ∧ v.Ok ∧ Hid (v = rnds (sched s.data.toList 64) H t) ∧ Lies wr gv 107 (wordsA v) ∧ Only gv w6 wr) (fun i _ => 64 - (intOf i).toNat)
      case atStart => exact ⟨0, H, by omega, rfl, hok, Lib.hid rfl, hv6, Only.refl _ _⟩
      case round =>
        clear hv6
        obtain ⟨t, v, ht, rfl, hv, HV, hl, hO⟩ := hrel
        by_cases hlt : t < 64
        · have kT := only_cell hO (hk6 t hlt) (by simp only; omega)
          have wT := only_cell hO (hw6 t hlt) (by simp only; omega)
          have HR := Lib.hid (show rnds (sched s.data.toList 64) H (t + 1) = rnd v (kAt t) ((sched s.data.toList 64).getD t 0) by rw [rnds, HV.out])
          have lk := kAt_lt t hlt
          have lw := sched_at_lt s.data.toList 64 t
          have HK := Lib.hid hv
          obtain ⟨va, vb, vc, vd, ve, vf, vg, vh⟩ := hv
          generalize kAt t = k at kT HR lk
          generalize (sched s.data.toList 64).getD t 0 = x at wT HR lw
          have hi : (t : Int) < 64 := by omega
          obtain ⟨c0, c1, c2, c3, c4, c5, c6, c7⟩ := hl.words8
          go_upto_region 21 with fail
          have A1 := Lib.hid (fun w => turn_is v.e 6 6 w rfl ve (by decide) (by decide))
          have A2 := Lib.hid (fun w => turn_is v.e 11 11 w rfl ve (by decide) (by decide))
          have A3 := Lib.hid (fun w => turn_is v.e 25 25 w rfl ve (by decide) (by decide))
          have A4 := Lib.hid (fun w => turn_is v.a 2 2 w rfl va (by decide) (by decide))
          have A5 := Lib.hid (fun w => turn_is v.a 13 13 w rfl va (by decide) (by decide))
          have A6 := Lib.hid (fun w => turn_is v.a 22 22 w rfl va (by decide) (by decide))
          go_cut [17] from 94 to 125 (fun s17 wx => s17 = .int .u32 (tmp1 v k x : Int) ∧ Lies wx gv 107 (wordsA v) ∧ Only gv w6 wx)
          case first =>
            go_quiet (first | (with_reducible exact Calls.quiet_of (A1.out _)) | (with_reducible exact Calls.quiet_of (A2.out _)) | (with_reducible exact Calls.quiet_of (A3.out _)))
            go_wp2
            go_meet
            refine ⟨?_, hl.drewN nq, hO.drewN nq⟩
            rw [big_one _ ve, ch_ref _ _ _ ve vf vg]
            exact val_int (by simp only [tmp1]; omega)
          case rest =>
            clear hl hO c0 c1 c2 c3 c4 c5 c6 c7 kT wT
            obtain ⟨rfl, hl, hO⟩ := hcut
            obtain ⟨c0, c1, c2, c3, c4, c5, c6, c7⟩ := hl.words8
            go_upto_region 22 with fail
            go_cut [18] from 126 to 149 (fun s18 wx => s18 = .int .u32 (tmp2 v : Int) ∧ Lies wx gv 107 (wordsA v) ∧ Only gv w6 wx)
            case first =>
              go_quiet (first | (with_reducible exact Calls.quiet_of (A4.out _)) | (with_reducible exact Calls.quiet_of (A5.out _)) | (with_reducible exact Calls.quiet_of (A6.out _)))
              go_wp2
              go_meet
              refine ⟨?_, hl.drewN nq, hO.drewN nq⟩
              rw [big_zero _ va, maj_walk _ _ _ va vb vc]
              exact val_int (by simp only [tmp2]; omega)
            case rest =>
              clear hl hO
              obtain ⟨rfl, hl, hO⟩ := hcut
              clear A1 A2 A3 A4 A5 A6 c0 c1 c2 c3 c4 c5 c6 c7 va vb vc vd ve vf vg vh lk lw
              have HE := Lib.hid (shiftA_end v k x)
              go_wp2_with fail
              go_loopw [19] (fun i wv => ∃ j : Nat, j ≤ 7 ∧ i = .int .i64 j ∧ Lies wv gv 107 (shiftA v j) ∧ Only gv w6 wv) (fun i _ => (intOf i).toNat)
              case atStart => exact ⟨7, by omega, rfl, hl, hO⟩
              case round =>
                clear hl hO
                obtain ⟨j, hj, rfl, hl, hO⟩ := hrel
                by_cases h0 : 0 < j
                · obtain ⟨m, rfl⟩ : ∃ m, j = m + 1 := ⟨j - 1, by omega⟩
                  have hc := (hl.cell m).trans (shiftA_at v m (by omega))
                  have hf := hl.frozen (m + 1)
                  obtain ⟨y, hy⟩ := shiftA_cur v m (by omega)
                  have hc1 := (hl.cell (m + 1)).trans hy
                  clear hy
                  have e1 : IntKind.i64.wrap (((m + 1 : Nat) : Int) - 1) = (m : Int) := by rw [IntWalk.i64_in _ (by omega)]; omega
                  have HP := Lib.hid (shiftA_set v m (by omega))
                  have b1 : (m : Int) < 8 := by omega
                  have b2 : ((m + 1 : Nat) : Int) < 8 := by omega
                  go_wp2_with fail
                  go_roundw
                  case rel => exact ⟨m, by omega, rfl, by rw [← HP.out]; exact hl.put _ _, hO.put (Or.inl rfl) _⟩
                  case measure => simp [intOf]
                · obtain rfl : j = 0 := by omega
                  have hc4 : wr.cell? ⟨gv, 4, none⟩ = some (.int .u32 (v.d : Int)) := hl.cell 4
                  have hc0 : wr.cell? ⟨gv, 0, none⟩ = some (.int .u32 (v.a : Int)) := hl.cell 0
                  have hf4 := hl.frozen 4
                  have hf0 := hl.frozen 0
                  go_wp2_with fail
                  go_roundw
                  case rel =>
                    refine ⟨t + 1, rnd v k x, by omega, by go_num, rnd_ok HK.out _ _, Lib.hid HR.out.symm, ?_, (hO.put (Or.inl rfl) _).put (Or.inl rfl) _⟩
                    rw [← HE.out]
                    simp only [plus_cast]
                    exact (hl.put 4 _).put 0 _
                  case measure => simp [intOf]; omega
        · obtain rfl : t = 64 := by omega
          rw [show ((64 : Nat) : Int) = 64 from rfl]
          have hhv := hh6.only hO (by intro e; injection e; omega)
          have hrv := hr6.only hO (by intro e; injection e; omega)
          have hbv := hO.below hb6 hb6.size hgv
          clear hh6 hr6 hb6 hO hk6 hw6
          go_wp2_with fail
          go_loopw [20] (fun i wr => ∃ t : Nat, t ≤ 8 ∧ i = .int .i64 t ∧ Lies wr W.heap.size 107 (plusA H v t) ∧ Lies wr gv 107 (wordsA v) ∧ Lies wr (W.heap.size + 1) 107 (wordsA ⟨0, 0, 0, 0, 0, 0, 0, 0⟩) ∧ Below W.heap.size W wr) (fun i _ => 8 - (intOf i).toNat)
          case atStart => exact ⟨0, by omega, rfl, hhv, hl, hrv, hbv⟩
          case round =>
            clear hhv hl hrv hbv
            obtain ⟨t, ht, rfl, hh, hl, hr, hb⟩ := hrel
            by_cases hlt : t < 8
            · have hc := (hh.cell t).trans (plusA_at H v t hlt)
              have hd := (hl.cell t).trans (wordsA_at v t hlt)
              have hf := hh.frozen t
              have hi : (t : Int) < 8 := by omega
              have HP := Lib.hid (plusA_set H v t hlt)
              go_upto_region 32 with fail
              go_region
              all_goals
                go_wp2
                go_roundw
                case rel =>
                  exact ⟨t + 1, by omega, by go_num, by rw [← HP.out, plus_cast]; exact (hh.put t _).drew, (hl.far (by simp only; omega) _).drew, (hr.far (by simp only; omega) _).drew, (hb.setCell (p := ⟨W.heap.size, t, none⟩) (Nat.le_refl _) _).drew⟩
                case measure => simp [intOf]; omega
            · obtain rfl : t = 8 := by omega
              rw [show ((8 : Nat) : Int) = 8 from rfl]
              have HE := Lib.hid (show plusA H v 8 = wordsA (mix H s.data.toList) by rw [mix, ← HV.out]; rfl)
              have HN := Lib.hid (show (plusA H v 8).size = 8 from rfl)
              have HO := Lib.hid (show Ones (plusA H v 8) by simp [Ones, plusA, Value.oneCell'])
              have H0 := Lib.hid (show (wordsA ⟨0, 0, 0, 0, 0, 0, 0, 0⟩).size = 8 from rfl)
              have HL := Lib.hid hh
              have HR := Lib.hid hr
              clear hh hr hl
              obtain ⟨cs, hcs⟩ : ∃ cs, plusA H v 8 = cs := ⟨_, rfl⟩
              rw [hcs] at HE HN HO HL
              obtain ⟨zs, hzs⟩ : ∃ zs, wordsA ⟨0, 0, 0, 0, 0, 0, 0, 0⟩ = zs := ⟨_, rfl⟩
              rw [hzs] at H0 HR
              clear hcs hzs
              go_wp2_with (first | ((with_reducible refine wpL_load W.heap.size 107 cs 8 row26 HN.out HL.out ?_ ?_); rfl) | ((with_reducible refine wpL_store (W.heap.size + 1) 107 _ cs 8 row26 H0.out HN.out HO.out HR.out ?_ ?_ ?_); rfl; rfl))
              exact bodyPost_ret (results_row Tryz.results115 row26 HN.out (HR.out.row cs) rfl) rfl ⟨by rw [HE.out], below_rowSet hb (by omega) _⟩
end Go.Proofs.YtdjglghecekeoaaGreatDoor.U

/- The contract of the library's Clone: a copy of a text. -/
namespace Go.Proofs.YtdjglghecekeoaaGreatDoor.U
open Go.RowKit
set_option maxRecDepth 100000

theorem cells5 : Tryz.prog.cellsOf 5 = 1 := by kernel_rfl
set_option maxHeartbeats 400000 in
theorem cloneLite_any (s : ByteArray) (w : World) (hlim : s.size ≤ 281474976710656) :
    Calls Tryz.prog 141 #[.string s] w fun e w' => e = .returned (.string s) ∧ Below w.heap.size w w' := by
  by_cases h0 : s.size = 0
  · have hs : s = ⟨#[]⟩ := by
      apply ByteArray.ext
      exact Array.eq_empty_of_size_eq_zero h0
    subst hs
    go_enter Tryz.func141, Tryz.ntmps141
    go_wp2
    go_ret
    exact ⟨rfl, Below.refl _ _⟩
  · obtain ⟨i0, hi, hz0, hz1, hz2⟩ := info_parts info5
    have hinfo : (Tryz.prog.info? 5).map (·.size) = some 1 := by rw [hi]; simp [hz1]
    obtain ⟨M, hM⟩ : ∃ M, M = madeCells (Value.int .u8 0).cells (((s.size : Nat) : Int).toNat * i0.size) := ⟨_, rfl⟩
    have hMs : M.size = s.size := by rw [hM, size_madeCells, hz1]; simp
    have hmk : ∀ W : World, (Instr.makeSlice 37 (.int .i64 (s.size : Int)) (.int .i64 (s.size : Int))).run Tryz.prog W = .ok (.slice (some ⟨W.heap.size, 0, none⟩) s.size s.size) (W.alloc (.cells M 5)) := fun W => by
      have h := run_make (P := Tryz.prog) W 37 5 i0 (.int .u8 0) Tryz.underlying37 hi hz0 .i64 .i64 (s.size : Int) (s.size : Int) (by omega) (by omega) (by rw [hz2]; omega) (by omega)
      rw [← hM] at h
      simpa using h
    clear hM
    have hcp := Lib.run_copy_row_string (P := Tryz.prog) (w.alloc (.cells M 5)) 37 9 3 5 w.heap.size 0 s.size s.size s M 5 Tryz.underlying37 hinfo (heap_alloc_new w _) (Nat.le_refl _) (by omega)
    obtain ⟨Y, hY⟩ : ∃ Y, Y = (M.toList.take 0 ++ Lib.byteCells s.data.toList ++ M.toList.drop (0 + s.size)).toArray := ⟨_, rfl⟩
    rw [← hY] at hcp
    have hYl : Y.toList = Lib.byteCells s.data.toList := by
      rw [hY, List.toList_toArray, List.take_zero, List.nil_append, List.drop_of_length_le (by rw [Array.length_toList]; omega), List.append_nil]
    have hYs : Y.size = s.size := by rw [← Array.length_toList, hYl, Lib.byteCells_length, ← Lib.size_eq]
    have hgY : ((w.alloc (.cells M 5)).setRow w.heap.size Y).heap[w.heap.size]? = some (.cells Y 5 (0, 0)) := setRow_heap _ _ M _ 5 (0, 0) (heap_alloc_new w _)
    have hne : s.data.toList ≠ [] := fun e => h0 (by rw [Lib.size_eq, e]; rfl)
    have hUS := Lib.run_unsafeString_row (P := Tryz.prog) ((w.alloc (.cells M 5)).setRow w.heap.size Y) 190 3 9 5 Tryz.underlying190 cells5 w.heap.size Y.size (by unfold World.shape?; rw [hgY]) s.data.toList hne (by rw [← Lib.size_eq]; omega) (by rw [← Lib.size_eq]; omega)
      (fun j x hx => Lib.cells_of_row hgY Y.size j _ (by rw [List.take_of_length_le (by rw [Array.length_toList]; exact Nat.le_refl _), hYl]; simp [Lib.byteCells, hx]))
    rw [← Lib.size_eq] at hUS
    clear hY
    go_enter Tryz.func141, Tryz.ntmps141
    go_wp2
    go_ret
    have hb1 : Below w.heap.size w (w.alloc (.cells M 5)) := (Below.refl _ w).alloc (Nat.le_refl _) _
    exact ⟨rfl, Lib.below_freeze (below_rowSet hb1 (Nat.le_refl _) Y) (p := ⟨w.heap.size, 0, none⟩) (Nat.le_refl _) _⟩

theorem clone_any (s : ByteArray) (w : World) (hlim : s.size ≤ 281474976710656) :
    Calls Tryz.prog 111 #[.string s] w fun e w' => e = .returned (.string s) ∧ Below w.heap.size w w' := by
  go_enter Tryz.func111, Tryz.ntmps111
  go_wp2_with (go_at_call 141; refine (cloneLite_any _ _ hlim).mono ?_; rintro e w1 ⟨rfl, hb1⟩)
  go_ret
  exact ⟨rfl, hb1⟩
end Go.Proofs.YtdjglghecekeoaaGreatDoor.U

/- The contract of the program's take: bytes go into a sum that works. -/
namespace Go.Proofs.YtdjglghecekeoaaGreatDoor.U
open Go.RowKit
set_option maxRecDepth 100000

def strSize : Value → Nat | .string b => b.size | _ => 0
def bytesOf (l : List UInt8) : ByteArray := ⟨l.toArray⟩
theorem list_append (a b : ByteArray) : (a ++ b).data.toList = a.data.toList ++ b.data.toList := by
  rw [ByteArray.data_append, Array.toList_append]
theorem Lies.len {w : World} {g : Nat} {t : TypeId} {s : H8} {buf : ByteArray} {n : Nat} (h : Lies w g t (sumA s buf n)) (m : Nat) : Lies (w.setCell ⟨g, 9, none⟩ (.int .u64 (m : Int))) g t (sumA s buf m) := h.put 9 _
theorem Lies.buf {w : World} {g : Nat} {t : TypeId} {s : H8} {buf : ByteArray} {n : Nat} (h : Lies w g t (sumA s buf n)) (b : ByteArray) : Lies (w.setCell ⟨g, 8, none⟩ (.string b)) g t (sumA s b n) := h.put 8 _
theorem Lies.c8 {w : World} {g : Nat} {t : TypeId} {s : H8} {buf : ByteArray} {n : Nat} (h : Lies w g t (sumA s buf n)) : w.cell? ⟨g, 8, none⟩ = some (.string buf) := h.cell 8
theorem Lies.c9 {w : World} {g : Nat} {t : TypeId} {s : H8} {buf : ByteArray} {n : Nat} (h : Lies w g t (sumA s buf n)) : w.cell? ⟨g, 9, none⟩ = some (.int .u64 (n : Int)) := h.cell 9

set_option maxRecDepth 100000 in
set_option maxHeartbeats 800000 in
theorem take_short (g : Nat) (H : H8) (buf s : ByteArray) (n : Nat) (w : World) (hs : buf.size + s.size < 64) (hn : n + s.size < 18446744073709551616) (hl : Lies w g 153 (sumA H buf n)) :
    Calls Tryz.prog 74 #[.pointer (some ⟨g, 0, none⟩), .string s] w fun e w' => e = .returned (.tuple #[]) ∧ Lies w' g 153 (sumA H (buf ++ s) (n + s.size)) ∧ Only g w w' := by
  have k8 := hl.c8
  have k9 := hl.c9
  have f8 := hl.frozen 8
  have f9 := hl.frozen 9
  have hz : (buf ++ s).size ≤ 281474976710656 := by rw [ByteArray.size_append]; omega
  go_enter Tryz.func74, Tryz.ntmps74
  go_wp2_with (go_at_call 111; refine (clone_any _ _ hz).mono ?_; rintro e w1 ⟨rfl, hb1⟩; have hl1 := Lies.on (hl.len (n + s.size)) hb1; have k18 := hl1.c8; have f18 := hl1.frozen 8; have hO := (((Only.refl w g).put (p := ⟨g, 9, none⟩) (Or.inl rfl) (.int .u64 ((n + s.size : Nat) : Int))).on hb1).put (p := ⟨g, 8, none⟩) (Or.inl rfl) (.string (buf ++ s)))
  go_end0
  exact ⟨rfl, hl1.buf _, hO⟩
theorem Tab.put {w : World} (h : Tab w) {p : Addr} (hp : 1 < p.block ∧ 7 < p.block) (v : Value) : Tab (w.setCell p v) :=
  ⟨fun i hi => (World.cell?_of_block (Below.heap_setCell w p v 1 (by omega))).trans (h.1 i hi), fun t ht => (World.cell?_of_block (Below.heap_setCell w p v 7 (by omega))).trans (h.2 t ht)⟩
theorem Tab.drew {w : World} (h : Tab w) : Tab w.drew := h

theorem feed_first (H : H8) (a b : List UInt8) (m : Nat) (ha : a.length + m = 64) (hb : m ≤ b.length) : feed H (a ++ b) = feed (mix H (a ++ b.take m)) (b.drop m) := by
  rw [feed_long H (a ++ b) (by rw [List.length_append]; omega), List.take_append, List.drop_append, List.take_of_length_le (by omega), List.drop_of_length_le (by omega), show 64 - a.length = m by omega, List.nil_append]
theorem tail_first (a b : List UInt8) (m : Nat) (ha : a.length + m = 64) (hb : m ≤ b.length) : tailB (a ++ b) = tailB (b.drop m) := by
  rw [tail_long (a ++ b) (by rw [List.length_append]; omega), List.drop_append, List.drop_of_length_le (by omega), show 64 - a.length = m by omega, List.nil_append]

theorem empty_cat (r : ByteArray) : ({ data := #[] } : ByteArray) ++ r = r := by
  apply ByteArray.ext
  rw [ByteArray.data_append]
  simp
theorem head_list (s : ByteArray) (m : Nat) : (s.extract 0 m).data.toList = s.data.toList.take m := by rw [extract_list, List.drop_zero, Nat.sub_zero]
theorem rest_list (s : ByteArray) (m : Nat) : (s.extract m s.size).data.toList = s.data.toList.drop m := by
  rw [extract_list, List.take_of_length_le (by rw [List.length_drop, ← Lib.size_eq]; exact Nat.le_refl _)]

set_option maxRecDepth 100000 in
set_option maxHeartbeats 1600000 in
theorem take_long (g : Nat) (H : H8) (buf s : ByteArray) (n : Nat) (w : World) (hb : buf.size < 64) (hs : 64 ≤ buf.size + s.size) (hs2 : s.size ≤ 281474976710000) (hn : n + s.size < 18446744073709551616) (hg : 1 < g ∧ 7 < g) (hT : Tab w) (hl : Lies w g 153 (sumA H buf n)) (hok : H.Ok) :
    Calls Tryz.prog 74 #[.pointer (some ⟨g, 0, none⟩), .string s] w fun e w' => e = .returned (.tuple #[]) ∧ Lies w' g 153 (sumA (feed H (buf.data.toList ++ s.data.toList)) (bytesOf (tailB (buf.data.toList ++ s.data.toList))) (n + s.size)) ∧ Only g w w' := by
  obtain ⟨m, hm⟩ : ∃ m, buf.size + m = 64 := ⟨64 - buf.size, by omega⟩
  have hm1 : m ≤ s.size := by omega
  have em : (64 : Int) - (buf.size : Int) = (m : Int) := by omega
  have hsz : (buf ++ s.extract 0 m).size = 64 := by rw [ByteArray.size_append, extract_size _ _ _ hm1]; omega
  have HF := Lib.hid (feed_first H buf.data.toList s.data.toList m (by rw [← Lib.size_eq]; exact hm) (by rw [← Lib.size_eq]; exact hm1))
  have HL := Lib.hid (tail_first buf.data.toList s.data.toList m (by rw [← Lib.size_eq]; exact hm) (by rw [← Lib.size_eq]; exact hm1))
  have hx : (s.extract 0 m).size ≤ 64 := by rw [extract_size _ _ _ hm1]; omega
  have hno : ¬ 9223372036854775807 < buf.size + m := by omega
  have HM := Lib.hid hm
  have HZ := Lib.hid hsz
  clear hm hsz
  have k8 := hl.c8
  have k9 := hl.c9
  have f9 := hl.frozen 9
  go_enter Tryz.func74, Tryz.ntmps74
  go_wp2_with fail
  generalize hW : World.setCell w _ _ = w0
  have hl0 : Lies w0 g 153 (sumA H buf (n + s.size)) := by rw [← hW]; exact hl.len (n + s.size)
  have hT0 : Tab w0 := by rw [← hW]; exact hT.put hg _
  have hO0 : Only g w w0 := by rw [← hW]; exact (Only.refl w g).put (Or.inl rfl) _
  clear hW k8 k9 f9 hl hT
  have k8 := hl0.c8
  refine wp_region_still_tail 13 (by kernel_rfl) (by kernel_rfl) ?_
  simp only [List.take_succ_cons, List.take_zero, List.drop_succ_cons, List.drop_zero]
  change wpStill _ _ w0.drew _ _ _
  repeat still_step
  refine wpStill_nil ?_
  change wpList _ _ _ _ _ w0.drew
  go_wp2_with (go_at_call 110; refine (add_any _ g H buf (n + s.size) _ HZ.out hT0.drew hl0.drew hok).mono ?_; rintro e w1 ⟨rfl, hl1, hO1⟩)
  have hT1 := hT0.only (Only.drew (Only.refl w0 g)|>.trans hO1) hg
  have hO2 := hO0.drew.trans hO1
  clear k8 hT0 hl0 hO0 hO1 hx hno em
  go_loopw [1] (fun v wr => ∃ (r : ByteArray) (K : H8), v = .string r ∧ r.size ≤ 281474976710000 ∧ Lies wr g 153 (sumA K buf (n + s.size)) ∧ K.Ok ∧ Hid (feed H (buf.data.toList ++ s.data.toList) = feed K r.data.toList) ∧ Hid (tailB (buf.data.toList ++ s.data.toList) = tailB r.data.toList) ∧ Tab wr ∧ Only g w wr) (fun v _ => strSize v)
  case atStart => exact ⟨_, _, rfl, by rw [ByteArray.size_extract]; omega, hl1, mix_ok _ _, Lib.hid (by rw [HF.out, list_append, head_list, rest_list]), Lib.hid (by rw [HL.out, rest_list]), hT1, hO2⟩
  case round =>
    clear hl1 hT1 hO2 HF HL HM HZ
    obtain ⟨r, K, rfl, hr, hl, hK, HF, HL, hT, hO⟩ := hrel
    by_cases hlt : 64 ≤ r.size
    · have h64 : (r.extract 0 64).size = 64 := by rw [extract_size _ _ _ hlt]
      have HZ := Lib.hid h64
      clear h64
      go_wp2_with fail
      refine wp_region_still_tail 5 (by kernel_rfl) (by kernel_rfl) ?_
      simp only [List.take_succ_cons, List.take_zero, List.drop_succ_cons, List.drop_zero]
      change wpStill _ _ wr.drew _ _ _
      repeat still_step
      refine wpStill_nil ?_
      change wpList _ _ _ _ _ wr.drew
      go_wp2_with (go_at_call 110; refine (add_any _ g K buf (n + s.size) _ HZ.out hT.drew hl.drew hK).mono ?_; rintro e w2 ⟨rfl, hl2, hO2⟩)
      have hT2 := hT.only (Only.drew (Only.refl wr g)|>.trans hO2) hg
      go_roundw
      case rel =>
        exact ⟨_, _, rfl, by rw [ByteArray.size_extract]; omega, hl2, mix_ok _ _, Lib.hid (by rw [HF.out, feed_long K r.data.toList (by rw [← Lib.size_eq]; exact hlt), head_list, rest_list]), Lib.hid (by rw [HL.out, tail_long r.data.toList (by rw [← Lib.size_eq]; exact hlt), rest_list]), hT2, hO.drew.trans hO2⟩
      case measure => simp [strSize]; omega
    · have k8 := hl.c8
      have f8 := hl.frozen 8
      have hz : (({ data := #[] } : ByteArray) ++ r).size ≤ 281474976710656 := by rw [empty_cat]; omega
      go_wp2_with (go_at_call 111; refine (clone_any _ _ hz).mono ?_; rintro e w3 ⟨rfl, hb3⟩; have hl3 := Lies.on (hl.buf { data := #[] }) hb3; have k18 := hl3.c8; have f18 := hl3.frozen 8; have hO3 := ((hO.put (p := ⟨g, 8, none⟩) (Or.inl rfl) (.string { data := #[] })).on hb3).put (p := ⟨g, 8, none⟩) (Or.inl rfl) (.string (({ data := #[] } : ByteArray) ++ r)))
      go_end0
      have hsh : r.data.toList.length < 64 := by rw [← Lib.size_eq]; omega
      refine ⟨rfl, ?_, hO3⟩
      rw [HF.out, HL.out, feed_short K _ hsh, tail_short _ hsh, show bytesOf r.data.toList = ({ data := #[] } : ByteArray) ++ r by rw [empty_cat]; exact Lib.mk_data r]
      exact hl3.buf _

/-- bytes go into a sum that works -/
theorem take_any (g : Nat) (H : H8) (buf s : ByteArray) (n : Nat) (w : World) (hb : buf.size < 64) (hs2 : s.size ≤ 281474976710000) (hn : n + s.size < 18446744073709551616) (hg : 1 < g ∧ 7 < g) (hT : Tab w) (hl : Lies w g 153 (sumA H buf n)) (hok : H.Ok) :
    Calls Tryz.prog 74 #[.pointer (some ⟨g, 0, none⟩), .string s] w fun e w' => e = .returned (.tuple #[]) ∧ Lies w' g 153 (sumA (feed H (buf.data.toList ++ s.data.toList)) (bytesOf (tailB (buf.data.toList ++ s.data.toList))) (n + s.size)) ∧ Only g w w' := by
  by_cases hs : 64 ≤ buf.size + s.size
  · exact take_long g H buf s n w hb hs hs2 hn hg hT hl hok
  · have hsh : (buf.data.toList ++ s.data.toList).length < 64 := by rw [List.length_append, ← Lib.size_eq, ← Lib.size_eq]; omega
    rw [feed_short H _ hsh, tail_short _ hsh, ← list_append, show bytesOf (buf ++ s).data.toList = buf ++ s from Lib.mk_data _]
    exact take_short g H buf s n w (by omega) hn hl
end Go.Proofs.YtdjglghecekeoaaGreatDoor.U

/- The contracts of the program's calls that put a number's bytes behind others. -/
namespace Go.Proofs.YtdjglghecekeoaaGreatDoor.U
open Go.RowKit
set_option maxRecDepth 100000

/-- what a row holds when k of a number's bytes are behind others -/
def upto (acc : List UInt8) (n w k : Nat) : List UInt8 := acc ++ (bigL n w).take k
theorem upto_zero (acc : List UInt8) (n w : Nat) : upto acc n w 0 = acc := by simp [upto]
theorem upto_end (acc : List UInt8) (n w : Nat) : upto acc n w w = acc ++ bigL n w := by
  unfold upto
  rw [List.take_of_length_le (by rw [bigL_length]; exact Nat.le_refl _)]
theorem upto_length (acc : List UInt8) (n w k : Nat) (h : k ≤ w) : (upto acc n w k).length = acc.length + k := by
  unfold upto
  rw [List.length_append, List.length_take, bigL_length]
  omega
theorem bigL_take (n w k : Nat) (h : k < w) : (bigL n w).take (k + 1) = (bigL n w).take k ++ [(n / 256 ^ (w - 1 - k) % 256).toUInt8] := by
  induction w generalizing k with
  | zero => omega
  | succ w ih =>
    rw [bigL_head]
    cases k with
    | zero => simp
    | succ k =>
      rw [List.take_succ_cons, List.take_succ_cons, ih k (by omega), show w + 1 - 1 - (k + 1) = w - 1 - k by omega]
      rfl
theorem upto_step (acc : List UInt8) (n w k : Nat) (h : k < w) : upto acc n w (k + 1) = upto acc n w k ++ [(n / 256 ^ (w - 1 - k) % 256).toUInt8] := by
  unfold upto
  rw [bigL_take n w k h, List.append_assoc]

theorem byte_shift (n k : Nat) : (n : Int) / 2 ^ (8 * k) % 256 = (((n / 256 ^ k % 256).toUInt8).toNat : Int) := by
  have e : (2 : Int) ^ (8 * k) = ((256 ^ k : Nat) : Int) := by rw [Int.pow_mul]; simp
  rw [toNat_mod, e]
  omega

set_option maxHeartbeats 400000 in
theorem appendNumber_any (v : Value) (acc : List UInt8) (n x : Nat) (B : Nat) (W : World) (hx : x ≤ 8) (ha : acc.length ≤ 1000) (hB : B ≤ W.heap.size) (hown : W.ownsRow B 5 1 v acc.length (Lib.byteCells acc)) :
    Calls Tryz.prog 142 #[v, .int .u64 n, .int .i64 x] W fun e W' => ∃ v', e = .returned v' ∧ W'.ownsRow B 5 1 v' (acc ++ bigL n x).length (Lib.byteCells (acc ++ bigL n x)) ∧ Below B W W' := by
  obtain ⟨i0, hi, hz0, hz1, hz2⟩ := info_parts info5
  go_enter Tryz.func142, Tryz.ntmps142
  go_wp2_with fail
  go_loopw [0, 9] (fun o i wr => ∃ k : Nat, k ≤ x ∧ i = .int .i64 k ∧ wr.ownsRow B 5 1 o (upto acc n x k).length (Lib.byteCells (upto acc n x k)) ∧ Below B W wr) (fun _ i _ => x - (intOf i).toNat)
  case atStart => exact ⟨0, Nat.zero_le _, rfl, by rw [upto_zero]; exact hown, Below.refl _ _⟩
  case round =>
    clear hown
    obtain ⟨k, hk, rfl, ho, hb⟩ := hrel
    have hBr := Nat.le_trans hB hb.size
    by_cases hlt : k < x
    · have HS := Lib.hid (upto_step acc n x k hlt)
      have hl := upto_length acc n x k hk
      have hl1 : (upto acc n x k).length ≤ 1008 := by omega
      clear hl
      go_wp2_with (at_builtin; refine wpList_append_lies _ rfl _ _ 37 (by rfl) B 5 i0 _ 1 1 Tryz.underlying37 hi hz0 hz1 hz2 rfl (by omega) _ (upto acc n x k).length _ (by rfl) (ho.alloc _) ⟨wr.heap.size, 0, none⟩ 1 1 _ (by rfl) (by rfl) (World.news_of_block (t := 5) (fr := (0, 0)) (heap_alloc_new wr _)) (by simp [Value.oneCell']) (by omega) (by unfold maxLen; omega) (by omega) (by simp; omega) (wr.heap.size + 1) (by simp) ?_; intro g cap w2 hown2 hgrow2 hat2 hlt3)
      go_roundw
      case rel =>
        exact ⟨k + 1, by omega, by go_num, by rw [HS.out]; rw [byte_shift] at hown2; simpa [Lib.byteCells] using hown2, (hb.alloc hBr _).grown hgrow2 (by simp; omega) (fun j hj => (ho.lt j hj).1)⟩
      case measure => simp [intOf]; omega
    · obtain rfl : k = x := by omega
      have HS := Lib.hid (upto_end acc n k)
      go_wp2
      go_ret
      exact ⟨_, rfl, by rw [← HS.out]; exact ho, hb⟩
end Go.Proofs.YtdjglghecekeoaaGreatDoor.U

