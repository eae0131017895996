/- What is proved: whatever number of blocks, byte and rest the statement of whole blocks is called with, it answers true; no condition. -/
import Derived.Test.YtmebiidgeaalpaaDoorTAlive
import Derived.Test.YtmebiidgeaalpaaDoorTEq
import Derived.Test.YtmebiidgeaalpaaDoorTOwn
import Derived.Deep.RegionWith
import Derived.Deep.CutRange
import Derived.Deep.WholeRow
namespace Go.Proofs.YtmebiidgeaalpaaDoor.T
open Go.RowKit

/-- the byte at a place of the row -/
def rowB (f : Int) (i : Nat) : UInt8 := ((f + i) % 256).toNat.toUInt8
def rowT (f : Int) (k : Nat) : List UInt8 := (List.range k).map (rowB f)
theorem rowT_length (f : Int) (k : Nat) : (rowT f k).length = k := by simp [rowT]
theorem rowT_succ (f : Int) (k : Nat) : rowT f (k + 1) = rowT f k ++ [rowB f k] := by simp [rowT, List.range_succ]
/-- what lies in the row when k of m places are written -/
def rowC (f : Int) (m k : Nat) : List Value := Lib.byteCells (rowT f k) ++ List.replicate (m - k) (Value.int .u8 0)
theorem rowC_at (f : Int) (m k : Nat) (h : k < m) : (rowC f m k)[k]? = some (Value.int .u8 0) := by
  have hl : (Lib.byteCells (rowT f k)).length = k := by rw [Lib.byteCells_length, rowT_length]
  unfold rowC
  rw [List.getElem?_append_right (by omega), List.getElem?_replicate, if_pos (by omega)]
theorem rowC_set (f : Int) (m k : Nat) (h : k < m) : (rowC f m k).set k (Value.int .u8 ((f + k) % 256)) = rowC f m (k + 1) := by
  have hl : (Lib.byteCells (rowT f k)).length = k := by rw [Lib.byteCells_length, rowT_length]
  have e : ((rowB f k).toNat : Int) = (f + k) % 256 := by unfold rowB; rw [toNat_lt256 _ (by omega)]; omega
  unfold rowC
  rw [List.set_append_right _ _ (by omega), hl, Nat.sub_self, show m - k = (m - (k + 1)) + 1 by omega, List.replicate_succ, List.set_cons_zero, rowT_succ, Lib.byteCells_append, List.append_assoc]
  simp [Lib.byteCells, e]
theorem rowC_end (f : Int) (m : Nat) : rowC f m m = Lib.byteCells (rowT f m) := by simp [rowC]

theorem Lies.eight {w : World} {g : Nat} {t : TypeId} {s : H8} {buf : ByteArray} {n : Nat} (h : Lies w g t (sumA s buf n)) :
    w.cell? ⟨g, 0, none⟩ = some (w64 s.a) ∧ w.cell? ⟨g, 1, none⟩ = some (w64 s.b) ∧ w.cell? ⟨g, 2, none⟩ = some (w64 s.c) ∧ w.cell? ⟨g, 3, none⟩ = some (w64 s.d) ∧ w.cell? ⟨g, 4, none⟩ = some (w64 s.e) ∧ w.cell? ⟨g, 5, none⟩ = some (w64 s.f) ∧ w.cell? ⟨g, 6, none⟩ = some (w64 s.g) ∧ w.cell? ⟨g, 7, none⟩ = some (w64 s.h) :=
  ⟨h.cell 0, h.cell 1, h.cell 2, h.cell 3, h.cell 4, h.cell 5, h.cell 6, h.cell 7⟩
/-- whole blocks go into a new sum -/
theorem write_row (l : List UInt8) (m : Nat) (w : World) (hl : l.length = m) (hm : m % 128 = 0) (h : m ≤ 1000000) (hT : Tab w) :
    Calls Tryd.prog 18 #[.agg (sumA h0 noBytes 0), .string ⟨l.toArray⟩] w fun e w' => e = .returned (.tuple #[.agg (sumA (feed h0 l) noBytes m), .int .i64 0]) ∧ Below w.heap.size w w' := by
  have hz : (bytesOf l).size = m := by rw [bytes_size, hl]
  have hw := write_yes h0 noBytes (bytesOf l) 0 w (by decide) (by rw [hz]; omega) hT h0_ok
  have ht : tailB l = [] := List.eq_nil_of_length_eq_zero (by rw [tail_length, hl, hm])
  rw [show noBytes.data.toList ++ (bytesOf l).data.toList = l from rfl, ht, hz, Nat.zero_add] at hw
  exact hw
/-- a rest goes into a sum of whole blocks -/
theorem write_rest (K : H8) (r : ByteArray) (m : Nat) (w : World) (hK : K.Ok) (hm : m % 128 = 0) (h : m ≤ 1000000) (hr : r.size ≤ 127) (hT : Tab w) :
    Calls Tryd.prog 18 #[.agg (sumA K noBytes m), .string r] w fun e w' => e = .returned (.tuple #[.agg (sumA K r (m + r.size)), .int .i64 0]) ∧ Below w.heap.size w w' := by
  have hw := write_yes K noBytes r m w (by unfold rightB; rw [show noBytes.size = 0 from rfl]; simp; omega) (by omega) hT hK
  have hsh : r.data.toList.length < 128 := by rw [← Lib.size_eq]; omega
  rw [show noBytes.data.toList ++ r.data.toList = r.data.toList from rfl, feed_short K _ hsh, tail_short _ hsh, show bytesOf r.data.toList = r from Lib.mk_data r] at hw
  exact hw

/-- a sum goes into a variable that was just laid -/
theorem store_new (K : H8) (b : ByteArray) (n : Nat) (w : World) :
    (storeCells ⟨w.heap.size, 0, none⟩ (sumA K b n).toList).run Tryd.prog (w.alloc (.cells #[.int .u64 0, .int .u64 0, .int .u64 0, .int .u64 0, .int .u64 0, .int .u64 0, .int .u64 0, .int .u64 0, .string { data := #[] }, .int .u64 0] 28)) = .ok () (w.alloc (.cells (sumA K b n) 28)) := by
  have h := run_storeCells_from (P := Tryd.prog) w.heap.size 28 (sumA K b n).toList 0 (sumA h8zero noBytes 0) _ (Lies.new w _ _) rfl (fun v hv => (Array.all_eq_true_iff_forall_mem.1 (sumA_one K b n)) v (by simpa using hv))
  rw [World.setRow_alloc_new, List.take_zero, List.nil_append, Array.toArray_toList] at h
  exact h
/-- .. into one that was laid before -/
theorem store_old {K : H8} {b : ByteArray} {n : Nat} {w : World} {g : Nat} (hl : Lies w g 28 (sumA h8zero noBytes 0)) :
    (storeCells ⟨g, 0, none⟩ (sumA K b n).toList).run Tryd.prog w = .ok () (w.setRow g (sumA K b n)) := by
  have h := run_storeCells_from (P := Tryd.prog) g 28 (sumA K b n).toList 0 _ w hl rfl (fun v hv => (Array.all_eq_true_iff_forall_mem.1 (sumA_one K b n)) v (by simpa using hv))
  rw [List.take_zero, List.nil_append, Array.toArray_toList] at h
  exact h

set_option maxHeartbeats 1600000 in
theorem blocks_walk (b f : Int) (rest : ByteArray) (W : World) (hb1 : -9223372036854775808 ≤ b) (hb2 : b ≤ 9223372036854775807) (hr : rest.size ≤ maxLen) (hT : Tab W) :
    Calls Tryd.prog 6 #[.int .i64 b, .int .u8 f, .string rest] W fun e W' => e = .returned (.bool true) ∧ Below W.heap.size W W' := by
  unfold maxLen at hr
  obtain ⟨i0, hi, hz0, hz1, hz2⟩ := info_parts info5
  obtain ⟨k, hk, ek⟩ : ∃ k : Nat, k ≤ 5 ∧ min (max b 0) 5 = (k : Int) := ⟨(min (max b 0) 5).toNat, by omega, by omega⟩
  obtain ⟨m, hm, em⟩ : ∃ m : Nat, m = 128 * k ∧ (128 : Int) * (k : Int) = (m : Int) := ⟨128 * k, rfl, by omega⟩
  have hm2 : m ≤ 640 := by omega
  have HM := Lib.hid hm
  clear hm
  go_enter Tryd.func6, Tryd.ntmps6
  go_wp2_with fail
  go_quiet (fail)
  have hr127 : (rest.extract 0 (min (rest.size : Int) 127).toNat).size ≤ 127 := by rw [ByteArray.size_extract]; omega
  generalize rest.extract 0 (min (rest.size : Int) 127).toNat = r at hr127 ⊢
  go_wp2_with (at_make; refine wpList_make_full _ rfl _ _ 47 rfl W.heap.size 5 i0 (.int .u8 0) 1 Tryd.underlying47 hi hz0 hz1 _ _ _ _ m rfl rfl rfl rfl ?b2 ?b3 (Nat.le_refl _) ?_)
  case b2 => rw [hz2]; omega
  case b3 => unfold maxLen; omega
  intro w1 hown hgrow
  have hb1 := ((below_drawn (Below.refl W.heap.size W) nq)).grown hgrow (Nat.le_refl _) (fun k hk => by cases hk)
  clear hgrow
  go_wp2_with fail
  go_loopw [26] (fun i wr => ∃ t : Nat, t ≤ m ∧ i = .int .i64 t ∧ wr.ownsRow W.heap.size 5 1 (.slice (some ⟨W.heap.size, 0, none⟩) m m) m (rowC f m t) ∧ Below W.heap.size W wr) (fun i _ => m - (intOf i).toNat)
  case atStart => exact ⟨0, Nat.zero_le _, rfl, by simpa [rowC, rowT, Lib.byteCells, toList_madeCells_one] using hown, hb1⟩
  case round =>
    clear hown hb1
    obtain ⟨t, ht, rfl, ho, hb⟩ := hrel
    by_cases hlt : t < m
    · have hc : wr.cell? ⟨W.heap.size, t, none⟩ = some (.int .u8 0) := (ho.cellAt t (by omega)).trans (rowC_at f m t hlt)
      have hz := ho.frozenAt t
      have HS := Lib.hid (rowC_set f m t hlt)
      go_wp2
      go_roundw
      case rel =>
        exact ⟨t + 1, by omega, by go_num, by rw [← HS.out]; exact (ho.stored _ _).1, hb.setCell (p := ⟨W.heap.size, t, none⟩) (Nat.le_refl _) _⟩
      case measure => simp [intOf]; omega
    · obtain rfl : t = m := by omega
      rw [rowC_end] at ho
      have hcv := str_own (w := wr.drew) ho
      have hm64 : t % 128 = 0 := by have := HM.out; omega
      have HW1 := Lib.hid (fun w hw => write_row (rowT f t) t w (rowT_length f t) hm64 (by omega) hw)
      have HW2 := Lib.hid (fun w hw => write_rest (feed h0 (rowT f t)) r t w (feed_ok' h0_ok _) hm64 (by omega) (by omega) hw)
      clear hm64
      generalize feed h0 (rowT f t) = K1 at HW1 HW2
      have hTr := hT.below hb.drew
      have hst1 := store_new K1 noBytes t
      have hcv3 := (fun (o : Obj) => str_own (w := (wr.alloc o).drew) (ho.alloc o))
      have HTA := Lib.hid (fun (o : Obj) => (show Tab (wr.alloc o).drew from (hT.below hb).below ((Below.refl _ _).alloc (Nat.le_refl _) o).drew))
      go_upto_region 8 with fail
      go_cut [9, 10] from 37 to 43 (fun s9 s10 wx => ∃ g9 : Nat, s9 = .pointer (some ⟨g9, 0, none⟩) ∧ s10 = .int .i64 0 ∧ Lies wx g9 28 (sumA K1 noBytes t) ∧ Below W.heap.size W wx)
      case first =>
        go_region_with (first | (go_at_call 10; first | ((with_reducible refine (new_any wr.drew hTr).mono ?_); rintro e w3 ⟨rfl, hb3⟩; have hcv1 := str_own (own_on (wr := wr.drew) ho hb3); have hcv2 := (fun (o : Obj) => str_own ((own_on (wr := wr.drew) ho hb3).alloc o)); have hT3 := hTr.below hb3; have hB3 := below_on hb.drew hb3) | ((with_reducible refine (new_any (wr.alloc _).drew (HTA.out _)).mono ?_); rintro e w3 ⟨rfl, hb3⟩; have hcv1 := str_own (own_on (wr := (wr.alloc _).drew) (ho.alloc _) hb3); have hT3 := (HTA.out _).below hb3; have hB3 := below_on (hb.alloc hb.size _).drew hb3; have hz3 := Lies.on (Lies.new wr 28 (sumA h8zero noBytes 0)).drew hb3)) | (go_at_call 18; first | ((with_reducible refine (HW1.out w3 hT3).mono ?_); rintro e w4 ⟨rfl, hb4⟩; have hB4 := below_on hB3 hb4; try (have hz4 := hz3.on hb4; have hst3 := store_old (K := K1) (b := noBytes) (n := t) hz4)) | ((with_reducible refine (HW1.out (w3.alloc _) (hT3.below ((Below.refl _ _).alloc (Nat.le_refl _) _))).mono ?_); rintro e w4 ⟨rfl, hb4⟩; have hz4 := (Lies.new w3 _ (sumA h8zero noBytes 0)).on hb4; have hB4 := below_on (hB3.alloc hB3.size _) hb4; have hst3 := store_old (K := K1) (b := noBytes) (n := t) hz4)))
        all_goals
          go_wp2_with fail
          go_meet
          first | exact ⟨_, rfl, rfl, Lies.new _ _ _, hB4.alloc hB4.size _⟩ | exact ⟨_, rfl, rfl, hz4.row _, below_rowSet hB4 hB3.size _⟩ | exact ⟨_, rfl, rfl, hz4.row _, below_rowSet hB4 hb.size _⟩
      case rest =>
        obtain ⟨g9, rfl, rfl, hl9, hb9⟩ := hcut
        have hT9 := hT.below hb9
        have hst5 := store_new K1 r (t + r.size)
        clear hst1 hcv hcv3 HTA hTr ho
        go_upto_region 10 with (first | ((with_reducible refine wpL_load g9 28 _ 10 row29 ?_ hl9 ?_ ?_); rfl; rfl) | (go_at_call 18; refine (HW2.out wc hT9).mono ?_; rintro e w5 ⟨rfl, hb5⟩; replace hl9 := hl9.on hb5; replace hb9 := below_on hb9 hb5; clear hT9 hb5))
        have hly := Lies.new w5 28 (sumA K1 r (t + r.size))
        have hlx := hl9.alloc (.cells (sumA K1 r (t + r.size)) 28)
        have hbz := hb9.alloc hb9.size (.cells (sumA K1 r (t + r.size)) 28)
        clear hl9 hb9 hst5
        generalize hW : w5.alloc (.cells (sumA K1 r (t + r.size)) 28) = wz at *
        generalize w5.heap.size = gy at *
        clear hW
        have hTz := hT.below hbz
        have heq := fun w => eql_words w K1 K1
        simp only [decide_true, wordsL] at heq
        go_wp2_with (go_at_call 7; refine (alive_any wz hTz).mono ?_; rintro e wa ⟨rfl, hba⟩; replace hlx := hlx.on hba; replace hly := hly.on hba; have x8 := hlx.c8; have x9 := hlx.c9; have y8 := hly.c8; have y9 := hly.c9; obtain ⟨x0, x1, x2, x3, x4, x5, x6, x7⟩ := hlx.eight; obtain ⟨y0, y1, y2, y3, y4, y5, y6, y7⟩ := hly.eight)
        go_ret
        exact ⟨ret1_of rfl, below_on hbz hba⟩
end Go.Proofs.YtmebiidgeaalpaaDoor.T
