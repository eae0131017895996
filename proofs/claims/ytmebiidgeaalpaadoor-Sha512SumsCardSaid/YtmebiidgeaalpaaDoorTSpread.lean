/- The contract of the program's spread: a block as a word for each round. -/
import Derived.Test.YtmebiidgeaalpaaDoorTRot
import Derived.Test.YtmebiidgeaalpaaDoorTMem
import Derived.Outline
import Derived.StillTailTactics
import Derived.Deep.MidRow
namespace Go.Proofs.YtmebiidgeaalpaaDoor.T
open Go.RowKit

/-- what lies in the row of words when t of them are there -/
def allA (b : List UInt8) (t : Nat) : Array Value := ((sched b t).map w64 ++ List.replicate (80 - t) (w64 0)).toArray
theorem allA_at (b : List UInt8) (t i : Nat) (h : i < t) : (allA b t)[i]? = some (w64 ((sched b t).getD i 0)) := by
  have hl := sched_length b t
  unfold allA
  rw [List.getElem?_toArray, List.getElem?_append_left (by simp; omega), List.getElem?_map, List.getD_eq_getElem?_getD, List.getElem?_eq_getElem (by omega)]
  rfl
theorem allA_next (b : List UInt8) (t : Nat) (h : t < 80) : (allA b t)[t]? = some (w64 0) := by
  have hl := sched_length b t
  unfold allA
  rw [List.getElem?_toArray, List.getElem?_append_right (by simp [hl]), List.getElem?_replicate, if_pos (by simp [hl]; omega)]
theorem allA_set (b : List UInt8) (t : Nat) (h : t < 80) (x : Nat) (hx : sched b (t + 1) = sched b t ++ [x]) : (allA b t).setIfInBounds t (w64 x) = allA b (t + 1) := by
  have hl := sched_length b t
  unfold allA
  rw [List.setIfInBounds_toArray]
  congr 1
  rw [List.set_append_right _ _ (by simp [hl]), hx, List.map_append, List.length_map, hl, Nat.sub_self, show 80 - t = (80 - (t + 1)) + 1 by omega, List.replicate_succ, List.set_cons_zero, List.append_assoc]
  rfl
theorem allA_start (b : List UInt8) : allA b 0 = (List.replicate 80 (w64 0)).toArray := rfl

theorem sched_head (b : List UInt8) (t : Nat) (h : t < 16) : sched b (t + 1) = sched b t ++ [numL ((b.drop (8 * t)).take 8)] := by rw [sched, if_pos h]
theorem sched_rest (b : List UInt8) (t : Nat) (h : ¬ t < 16) : sched b (t + 1) = sched b t ++ [(ssig1 ((sched b t).getD (t - 2) 0) + (sched b t).getD (t - 7) 0 + ssig0 ((sched b t).getD (t - 15) 0) + (sched b t).getD (t - 16) 0) % 18446744073709551616] := by rw [sched, if_neg h]

theorem extract_list (s : ByteArray) (a b : Nat) : (s.extract a b).data.toList = (s.data.toList.drop a).take (b - a) := by
  rw [ByteArray.data_extract, Array.toList_extract, List.extract_eq_take_drop]
theorem extract_size (s : ByteArray) (a b : Nat) (h : b ≤ s.size) : (s.extract a b).size = b - a := by
  rw [ByteArray.size_extract]; omega

theorem allA_size (b : List UInt8) (t : Nat) (h : t ≤ 80) : (allA b t).size = 80 := by
  have hl := sched_length b t
  simp [allA, hl]
  omega
theorem allA_one (b : List UInt8) (t : Nat) : Ones (allA b t) := by
  refine ones_of fun v hv => ?_
  rw [List.mem_append, List.mem_map, List.mem_replicate] at hv
  rcases hv with ⟨x, _, rfl⟩ | ⟨_, rfl⟩ <;> rfl
theorem sum_words (a b c d : Nat) :
    IntKind.u64.wrap (IntKind.u64.wrap (IntKind.u64.wrap ((ssig1 a : Nat) + (b : Int)) + (ssig0 c : Nat)) + (d : Int)) = (((ssig1 a + b + ssig0 c + d) % 18446744073709551616 : Nat) : Int) := by
  rw [IntKind.wrap_u64, IntKind.wrap_u64, IntKind.wrap_u64]
  generalize ssig1 a = p
  generalize ssig0 c = q
  omega

theorem zero80 (b : List UInt8) (w : World) : (zeroValue 63).run Tryd.prog w = .ok (.agg (allA b 0)) w := by kernel_rfl
set_option maxRecDepth 100000 in
set_option maxHeartbeats 1600000 in
theorem spread_any (s : ByteArray) (w : World) (hs : s.size = 128) :
    Calls Tryd.prog 39 #[.string s] w fun e w' => e = .returned (.agg (allA s.data.toList 80)) ∧ Below w.heap.size w w' := by
  have HS := Lib.hid hs
  have hs1 : 128 ≤ s.size := by omega
  have hs2 : s.size ≤ 128 := by omega
  clear hs
  have hz80 : ∀ w : World, (zeroValue 63).run Tryd.prog w = .ok (.agg (allA s.data.toList 0)) w := fun w => zero80 s.data.toList w
  go_enter Tryd.func39, Tryd.ntmps39
  go_wp2
  go_loopw [6] (fun i wr => ∃ t : Nat, t ≤ 16 ∧ i = .int .i64 t ∧ Lies wr (w.heap.size + 1) 63 (allA s.data.toList t) ∧ Lies wr w.heap.size 63 (allA s.data.toList 0) ∧ Below w.heap.size w wr) (fun i _ => 16 - (intOf i).toNat)
  case atStart => exact ⟨0, Nat.zero_le _, rfl, heap_alloc2_new w _ _, heap_alloc2_old w _ _, ((Below.refl _ w).alloc (Nat.le_refl _) _).alloc (by simp) _⟩
  case round =>
    obtain ⟨t, ht, rfl, hl, hr, hb⟩ := hrel
    by_cases hlt : t < 16
    · have hc := (hl.cell t).trans (allA_next s.data.toList t (by omega))
      have hf := hl.frozen t
      have HN := Lib.hid (allA_set s.data.toList t (by omega) _ (sched_head s.data.toList t hlt))
      have HW := Lib.hid (show 8 * (t + 1) - 8 * t = 8 by omega)
      have HZ := Lib.hid (show (s.extract (8 * t) (8 * (t + 1))).size = 8 by rw [extract_size _ _ _ (by omega)]; omega)
      go_wp2_with (go_at_call 43; refine (word_any _ _ HZ.out).mono ?_; rintro e w1 ⟨rfl, n1, rfl⟩)
      go_roundw
      case rel => exact ⟨t + 1, by omega, by go_num, by rw [HW.out, ← HN.out]; exact (hl.drewN n1).put t _, (hr.drewN n1).far (by simp) _, (below_drawn hb n1).setCell (by simp) _⟩
      case measure => simp [intOf]; omega
    · obtain rfl : t = 16 := by omega
      rw [show ((16 : Nat) : Int) = 16 from rfl]
      go_wp2_with fail
      go_loopw [5] (fun i wr => ∃ t : Nat, 16 ≤ t ∧ t ≤ 80 ∧ i = .int .i64 t ∧ Lies wr (w.heap.size + 1) 63 (allA s.data.toList t) ∧ Lies wr w.heap.size 63 (allA s.data.toList 0) ∧ Below w.heap.size w wr) (fun i _ => 80 - (intOf i).toNat)
      case atStart => exact ⟨16, by omega, by omega, rfl, hl, hr, hb⟩
      case round =>
        rename_i wo
        clear hl hr hb
        obtain ⟨t, ht1, ht2, rfl, hl, hr, hb⟩ := hrel
        by_cases hlt : t < 80
        · have hc := (hl.cell t).trans (allA_next s.data.toList t (by omega))
          have hf := hl.frozen t
          have k2 := (hl.cell (t - 2)).trans (allA_at s.data.toList t (t - 2) (by omega))
          have k7 := (hl.cell (t - 7)).trans (allA_at s.data.toList t (t - 7) (by omega))
          have k15 := (hl.cell (t - 15)).trans (allA_at s.data.toList t (t - 15) (by omega))
          have k16 := (hl.cell (t - 16)).trans (allA_at s.data.toList t (t - 16) (by omega))
          have HN := Lib.hid (allA_set s.data.toList t (by omega) _ (sched_rest s.data.toList t (by omega)))
          have l2 := sched_at_lt s.data.toList t (t - 2)
          have l7 := sched_at_lt s.data.toList t (t - 7)
          have l15 := sched_at_lt s.data.toList t (t - 15)
          have l16 := sched_at_lt s.data.toList t (t - 16)
          have e2 : IntKind.i64.wrap ((t : Int) - 2) = ((t - 2 : Nat) : Int) := by rw [IntWalk.i64_in _ (by omega)]; omega
          have e7 : IntKind.i64.wrap ((t : Int) - 7) = ((t - 7 : Nat) : Int) := by rw [IntWalk.i64_in _ (by omega)]; omega
          have e15 : IntKind.i64.wrap ((t : Int) - 15) = ((t - 15 : Nat) : Int) := by rw [IntWalk.i64_in _ (by omega)]; omega
          have e16 : IntKind.i64.wrap ((t : Int) - 16) = ((t - 16 : Nat) : Int) := by rw [IntWalk.i64_in _ (by omega)]; omega
          have b2 : ((t - 2 : Nat) : Int) < 80 := by omega
          have b7 : ((t - 7 : Nat) : Int) < 80 := by omega
          have b15 : ((t - 15 : Nat) : Int) < 80 := by omega
          have b16 : ((t - 16 : Nat) : Int) < 80 := by omega
          generalize t - 2 = u2 at e2 b2 k2 l2 HN
          generalize t - 7 = u7 at e7 b7 k7 l7 HN
          generalize t - 15 = u15 at e15 b15 k15 l15 HN
          generalize t - 16 = u16 at e16 b16 k16 l16 HN
          generalize (sched s.data.toList t).getD u2 0 = x2 at k2 l2 HN
          generalize (sched s.data.toList t).getD u7 0 = x7 at k7 l7 HN
          generalize (sched s.data.toList t).getD u15 0 = x15 at k15 l15 HN
          generalize (sched s.data.toList t).getD u16 0 = x16 at k16 l16 HN
          go_wp2_with fail
          refine wp_region_still_tail 23 (by kernel_rfl) (by kernel_rfl) ?_
          simp only [List.take_succ_cons, List.take_zero, List.drop_succ_cons, List.drop_zero]
          change wpStill _ _ wr.drew _ _ _
          repeat still_step
          still_call (moved_one _ _ l2)
          repeat still_step
          still_call (moved_zero _ _ l15)
          repeat still_step
          refine wpStill_nil ?_
          change wpList _ _ _ _ _ wr.drew
          go_wp2
          go_roundw
          case rel =>
            exact ⟨t + 1, by omega, by omega, by go_num, by rw [← HN.out, sum_words]; exact (hl.put t _).drew, (hr.far (by simp) _).drew, (hb.setCell (by simp) _).drew⟩
          case measure => simp [intOf]; omega
        · obtain rfl : t = 80 := by omega
          have HN := Lib.hid (allA_size s.data.toList 80 (by omega))
          have H0 := Lib.hid (allA_size s.data.toList 0 (by omega))
          have HO := Lib.hid (allA_one s.data.toList 80)
          have HL := Lib.hid hl
          have HR := Lib.hid hr
          clear hl hr
          obtain ⟨cs, hcs⟩ : ∃ cs, allA s.data.toList 80 = cs := ⟨_, rfl⟩
          rw [hcs] at HN HO HL
          have HQ := Lib.hid hcs
          clear hcs
          go_wp2_with (first | ((with_reducible refine wpL_load (w.heap.size + 1) 63 cs 80 row80 HN.out HL.out ?_ ?_); rfl) | ((with_reducible refine wpL_store w.heap.size 63 _ cs 80 row80 H0.out HN.out HO.out HR.out ?_ ?_ ?_); rfl; rfl))
          exact bodyPost_ret (results_row Tryd.results39 row80 HN.out (HR.out.row cs) rfl) rfl ⟨by rw [HQ.out], below_rowSet hb (Nat.le_refl _) _⟩
end Go.Proofs.YtmebiidgeaalpaaDoor.T
