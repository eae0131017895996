/- The contract of the program's padding: what comes to so many bytes, so that there are whole blocks. -/
import Derived.Test.YtmebiidgeaalpaaDoorTNum
import Derived.Lib.AppendZerosOnto
namespace Go.Proofs.YtmebiidgeaalpaaDoor.T
open Go.RowKit

theorem zeros_list (n : Nat) : (Builtin.zeroCells (Value.int .u8 0).cells n).toList = List.replicate n (Value.int .u8 0) := by
  apply List.ext_getElem
  · rw [Array.length_toList, size_zeroCells, List.length_replicate]; simp [Value.cells]
  · intro i h1 h2
    simp [Builtin.zeroCells, Value.cells, Nat.mod_one]

/-- a byte, and as many zeros as are asked for -/
theorem pad_append (W : World) (B g k : Nat) (hB : B ≤ g) (hk : k < 128) (hl : Lies W g 5 #[.int .u8 128]) :
    ∃ v w', (Builtin.append_ #[47, 25] 47 #[.slice (some ⟨g, 0, none⟩) 1 1, .int .u64 (k : Int)]).run Tryd.prog W = .ok v w' ∧
      w'.ownsRow B 5 1 v (128 :: List.replicate k (0 : UInt8)).length (Lib.byteCells (128 :: List.replicate k 0)) ∧ Below B W w' := by
  obtain ⟨i0, hi, hz0, hz1, hz2⟩ := info_parts info5
  have hlt := hl.lt
  rcases Nat.eq_zero_or_pos k with rfl | h0
  · refine ⟨.slice (some ⟨g, 0, none⟩) 1 1, W, ?_, ?_, Below.refl _ _⟩
    · have e0 : IntKind.i64.wrap 0 = 0 := rfl
      simp [Builtin.append_, run_underlying Tryd.underlying47, run_underlying Tryd.underlying25, sizeOf, typeInfo, hi, hz2, asInt, asIntOf, storeCells, e0]
    · exact ⟨rfl, .inr ⟨g, 1, _, rfl, hB, hl, Nat.le_refl _, by unfold maxLen; omega, rfl, rfl⟩⟩
  · have hn := nextslicecap_le (need := 1 + k) (old := 1) (by omega)
    have hold : (Builtin.firstCells i0.size 1 (.slice (some ⟨g, 0, none⟩) 1 1)).run Tryd.prog W.drew = .ok [Value.int .u8 128].toArray W.drew := by
      rw [hz1]
      exact run_loadCells_list (P := Tryd.prog) W.drew ⟨g, 0, none⟩ [Value.int .u8 128] (World.news_of_block (cs := #[Value.int .u8 128]) (t := 5) (fr := (0, 0)) hl)
    have hr := Lib.run_append_grow_zeros (P := Tryd.prog) W 47 25 47 5 i0 (.int .u8 0) .u64 .u64 Tryd.underlying47 Tryd.underlying25 hi hz0 (some ⟨g, 0, none⟩) 1 1 [.int .u8 128] hold k h0 (by omega) (by omega) (by omega) (by rw [hz2]; omega) (by rw [hz2]; omega)
    have e : (128 :: List.replicate k (0 : UInt8)).length = 1 + k := by simp; omega
    have hge := grownCap_ge W (1 + k) 1 5
    refine ⟨_, _, hr, ?_, (Below.refl B W).drew.alloc (by show B ≤ W.heap.size; omega) _⟩
    rw [e]
    refine ⟨by rw [Lib.byteCells_length, e]; omega, .inr ⟨W.heap.size, _, _, rfl, by omega, heap_alloc_new W.drew _, hge, grownCap_le_maxLen W (1 + k) 1 _ (by unfold maxLen; omega), ?_, ?_⟩⟩
    · simp only [Array.size_append, List.size_toArray, size_zeroCells, Value.cells, List.length_cons, List.length_nil]
      omega
    · simp only [Array.toList_append, zeros_list]
      rw [List.take_left' (by simp; omega)]
      simp [Lib.byteCells]

set_option maxHeartbeats 400000 in
theorem padding_any (n : Nat) (W : World) (hn : n < 2305843009213693952) :
    Calls Tryd.prog 33 #[.int .u64 n] W fun e W' => e = .returned (.string ⟨(pad n).toArray⟩) ∧ Below W.heap.size W W' := by
  obtain ⟨v, w1, hr, ho, hb⟩ := pad_append (W.alloc (.cells #[.int .u8 128] 5)) W.heap.size W.heap.size ((239 - n % 128) % 128) (Nat.le_refl _) (Nat.mod_lt _ (by decide)) (Lies.new _ _ _)
  rw [show (((239 - n % 128) % 128 : Nat) : Int) = (239 - (n : Int) % 128) % 128 by omega] at hr
  have HR := Lib.hid hr
  have hb1 : Below W.heap.size W w1 := ((Below.refl _ W).alloc (Nat.le_refl _) _).trans hb
  have hB := hb1.size
  have hl : (128 :: List.replicate ((239 - n % 128) % 128) (0 : UInt8)).length ≤ 128 := by simp; omega
  have HP := Lib.hid (show pad n = (128 :: List.replicate ((239 - n % 128) % 128) 0) ++ bigL (8 * n) 16 from rfl)
  generalize (128 :: List.replicate ((239 - n % 128) % 128) (0 : UInt8)) = acc at ho hl HP
  clear hr hb
  go_enter Tryd.func33, Tryd.ntmps33
  go_wp2_with (at_builtin; refine Lib.wpList_append_run _ rfl _ _ 47 25 (by rfl) _ _ (by rfl) (by rfl) _ _ HR.out ?_)
  have HA := Lib.hid (appendNumber_any v acc (8 * n) 16 W.heap.size w1 (by omega) (by omega) (by omega) hB ho)
  go_wp2_with (go_at_call 42; refine HA.out.mono ?_; rintro e w2 ⟨v2, rfl, ho2, hb2⟩; have hcv := str_own ho2)
  go_ret
  exact ⟨ret1_of (val_str HP.out.symm), hb1.trans hb2⟩
end Go.Proofs.YtmebiidgeaalpaaDoor.T
