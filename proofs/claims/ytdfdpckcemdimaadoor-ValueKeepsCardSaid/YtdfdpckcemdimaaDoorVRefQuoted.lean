/- The reference's Quoted. -/
import Derived.Test.YtdfdpckcemdimaaDoorVText
import Derived.Test.YtdfdpckcemdimaaDoorBase
import Derived.Deep.AppendLies
import Derived.BigQuiet
import Derived.Laws.OwnMore
namespace Go.Proofs.YtdfdpckcemdimaaDoor.V
open Go.RowKit Go.Sort
set_option maxRecDepth 100000

theorem take_esc {l : List UInt8} {k : Nat} (h : k < l.length) : escL (l.take (k + 1)) = escL (l.take k) ++ (if l[k] = 34 ∨ l[k] = 92 then [92, l[k]] else [l[k]]) := by
  rw [List.take_succ_eq_append_getElem h, escL_snoc]
theorem esc_len : ∀ l : List UInt8, (escL l).length ≤ 2 * l.length := by
  intro l
  induction l with
  | nil => simp [escL]
  | cons c l ih =>
    rw [escL, List.length_append, List.length_cons]
    split
    · simp; omega
    · simp; omega
theorem quot_row {w : World} {B n : Nat} {v : Value} {acc : List UInt8} {x : Int} {c : UInt8} (hx : x = c.toNat) (hn : n = acc.length) (hown : w.ownsRow B 5 1 v (n + 1) (Lib.byteCells acc ++ #[Value.int .u8 x].toList)) : w.ownsRow B 5 1 v (acc ++ [c]).length (Lib.byteCells (acc ++ [c])) := by
  subst hx hn
  rw [Lib.byteCells_append, List.length_append]
  exact hown

theorem quot_row2 {w : World} {B : Nat} {v : Value} {acc : List UInt8} {x : Int} {c : UInt8} (hx : x = c.toNat) (hown : w.ownsRow B 5 1 v (acc.length + 1 + 1) (Lib.byteCells acc ++ #[Value.int .u8 92].toList ++ #[Value.int .u8 x].toList)) : w.ownsRow B 5 1 v (acc ++ [92] ++ [c]).length (Lib.byteCells (acc ++ [92] ++ [c])) := by
  subst hx
  rw [Lib.byteCells_append, Lib.byteCells_append, List.length_append, List.length_append]
  exact hown

set_option maxHeartbeats 3200000 in
theorem refQuoted_any (s : ByteArray) (W : World) (hs : s.size ≤ 1000000) :
    Calls Tryd.prog 32 #[.string s] W fun e w' => e = .returned (.string ⟨(quotL s.data.toList).toArray⟩) ∧ Below W.heap.size W w' := by
  obtain ⟨i0, hi, hz0, hz1, hz2⟩ := info_parts info5
  have hl1 : s.data.toList.length = s.size := Array.length_toList
  go_enter Tryd.func32, Tryd.ntmps32
  go_wp2_with fail
  go_loopw [3, 4] (fun o i wr => ∃ (k : Nat) (acc : List UInt8), k ≤ s.size ∧ i = .int .i64 k ∧ Hid (acc = 34 :: escL (s.data.toList.take k)) ∧ acc.length ≤ 2 * k + 1 ∧ wr.ownsRow W.heap.size 5 1 o acc.length (Lib.byteCells acc) ∧ Below W.heap.size W wr) (fun _ i _ => s.size - (intOf i).toNat)
  case atStart => exact ⟨0, [34], Nat.zero_le _, rfl, Lib.hid (by simp [escL]), by simp, World.ownsRow_lit W #[.int .u8 34] 1 (Nat.le_refl _) (by unfold maxLen; omega) rfl, (Below.refl _ W).alloc (Nat.le_refl _) _⟩
  case round =>
    obtain ⟨k, acc, hk, rfl, HA, hal, ho, hb⟩ := hrel
    have hB := hb.size
    by_cases hlt : k < s.size
    · have hi1 : (k : Int) < (s.size : Int) := by omega
      have he : s.data.toList[k]'(by omega) = s[k] := rfl
      have hT := take_esc (l := s.data.toList) (k := k) (by omega)
      rw [he] at hT
      by_cases h34 : s[k] = 34
      · rw [if_pos (.inl h34)] at hT
        have HT := Lib.hid (show (acc ++ [92]) ++ [s[k]] = 34 :: escL (s.data.toList.take (k + 1)) by rw [HA.out, hT]; simp)
        have c1 : ((s[k].toNat : Int) == 34) = true := by rw [h34]; rfl
        clear hT he HA
        go_wp2_with (first | (at_builtin; refine wpList_append_lies _ rfl _ _ 65 (by rfl) W.heap.size 5 i0 _ 1 1 Tryd.underlying65 hi hz0 hz1 hz2 rfl (by omega) _ acc.length _ (by rfl) (ho.alloc _) ⟨wr.heap.size, 0, none⟩ 1 1 _ (by rfl) (by rfl) (World.news_of_block (t := 5) (fr := (0, 0)) (heap_alloc_new wr _)) (by simp [Value.oneCell']) (by omega) (by unfold maxLen; omega) (by omega) (by simp; omega) (wr.heap.size + 1) (by simp) ?_; intro g1 cap1 w1 hown1 hgrow1 hat1 hlt1; have hB1 : W.heap.size ≤ w1.heap.size := Nat.le_trans (by simp; omega) hgrow1.size) | (at_builtin; refine wpList_append_lies _ rfl _ _ 65 (by rfl) W.heap.size 5 i0 _ 1 1 Tryd.underlying65 hi hz0 hz1 hz2 rfl (by omega) _ (acc.length + 1) _ (by rfl) (hown1.alloc _) ⟨w1.heap.size, 0, none⟩ 1 1 _ (by rfl) (by rfl) (World.news_of_block (t := 5) (fr := (0, 0)) (heap_alloc_new w1 _)) (by simp [Value.oneCell']) (by omega) (by unfold maxLen; omega) (by omega) (by simp; omega) (w1.heap.size + 1) (by simp) ?_; intro g2 cap2 w2 hown2 hgrow2 hat2 hlt2; have hB2 : W.heap.size ≤ w2.heap.size := Nat.le_trans (by simp; omega) hgrow2.size))
        go_wp2
        go_roundw
        case rel => exact ⟨k + 1, _, by omega, by go_num, HT, by simp; omega, quot_row2 (by rw [h34]; rfl) hown2, (((((hb.alloc hB _).grown hgrow1 (by simp; omega) (fun j hj => (ho.lt j hj).1)).alloc hB1 _)).grown hgrow2 (by simp; omega) (fun j hj => (hown1.lt j hj).1))⟩
        case measure => simp [intOf]; omega
      by_cases h92 : s[k] = 92
      · rw [if_pos (.inr h92)] at hT
        have HT := Lib.hid (show (acc ++ [92]) ++ [s[k]] = 34 :: escL (s.data.toList.take (k + 1)) by rw [HA.out, hT]; simp)
        have c1 : ((s[k].toNat : Int) == 34) = false := by rw [h92]; rfl
        have c2 : ((s[k].toNat : Int) == 92) = true := by rw [h92]; rfl
        clear hT he HA
        go_wp2_with (first | (at_builtin; refine wpList_append_lies _ rfl _ _ 65 (by rfl) W.heap.size 5 i0 _ 1 1 Tryd.underlying65 hi hz0 hz1 hz2 rfl (by omega) _ acc.length _ (by rfl) (ho.alloc _) ⟨wr.heap.size, 0, none⟩ 1 1 _ (by rfl) (by rfl) (World.news_of_block (t := 5) (fr := (0, 0)) (heap_alloc_new wr _)) (by simp [Value.oneCell']) (by omega) (by unfold maxLen; omega) (by omega) (by simp; omega) (wr.heap.size + 1) (by simp) ?_; intro g1 cap1 w1 hown1 hgrow1 hat1 hlt1; have hB1 : W.heap.size ≤ w1.heap.size := Nat.le_trans (by simp; omega) hgrow1.size) | (at_builtin; refine wpList_append_lies _ rfl _ _ 65 (by rfl) W.heap.size 5 i0 _ 1 1 Tryd.underlying65 hi hz0 hz1 hz2 rfl (by omega) _ (acc.length + 1) _ (by rfl) (hown1.alloc _) ⟨w1.heap.size, 0, none⟩ 1 1 _ (by rfl) (by rfl) (World.news_of_block (t := 5) (fr := (0, 0)) (heap_alloc_new w1 _)) (by simp [Value.oneCell']) (by omega) (by unfold maxLen; omega) (by omega) (by simp; omega) (w1.heap.size + 1) (by simp) ?_; intro g2 cap2 w2 hown2 hgrow2 hat2 hlt2; have hB2 : W.heap.size ≤ w2.heap.size := Nat.le_trans (by simp; omega) hgrow2.size))
        go_wp2
        go_roundw
        case rel => exact ⟨k + 1, _, by omega, by go_num, HT, by simp; omega, quot_row2 (by rw [h92]; rfl) hown2, (((((hb.alloc hB _).grown hgrow1 (by simp; omega) (fun j hj => (ho.lt j hj).1)).alloc hB1 _)).grown hgrow2 (by simp; omega) (fun j hj => (hown1.lt j hj).1))⟩
        case measure => simp [intOf]; omega
      rw [if_neg (fun h => h.elim h34 h92)] at hT
      have HT := Lib.hid (show acc ++ [s[k]] = 34 :: escL (s.data.toList.take (k + 1)) by rw [HA.out, hT]; simp)
      have c1 : ((s[k].toNat : Int) == 34) = false := by
        simp only [beq_eq_false_iff_ne, ne_eq]
        intro e
        exact h34 (UInt8.toNat_inj.1 (by simpa using (by omega : s[k].toNat = 34)))
      have c2 : ((s[k].toNat : Int) == 92) = false := by
        simp only [beq_eq_false_iff_ne, ne_eq]
        intro e
        exact h92 (UInt8.toNat_inj.1 (by simpa using (by omega : s[k].toNat = 92)))
      clear hT he HA
      go_wp2_with (at_builtin; refine wpList_append_lies _ rfl _ _ 65 (by rfl) W.heap.size 5 i0 _ 1 1 Tryd.underlying65 hi hz0 hz1 hz2 rfl (by omega) _ acc.length _ (by rfl) (ho.alloc _) ⟨wr.heap.size, 0, none⟩ 1 1 _ (by rfl) (by rfl) (World.news_of_block (t := 5) (fr := (0, 0)) (heap_alloc_new wr _)) (by simp [Value.oneCell']) (by omega) (by unfold maxLen; omega) (by omega) (by simp; omega) (wr.heap.size + 1) (by simp) ?_; intro g1 cap1 w1 hown1 hgrow1 hat1 hlt1; have hB1 : W.heap.size ≤ w1.heap.size := Nat.le_trans (by simp; omega) hgrow1.size)
      go_wp2
      go_roundw
      case rel => exact ⟨k + 1, _, by omega, by go_num, HT, by simp; omega, quot_row rfl rfl hown1, ((hb.alloc hB _).grown hgrow1 (by simp; omega) (fun j hj => (ho.lt j hj).1))⟩
      case measure => simp [intOf]; omega
    · obtain rfl : k = s.size := by omega
      have HT := Lib.hid (show acc ++ [34] = quotL s.data.toList by rw [HA.out, List.take_of_length_le (by omega)]; rfl)
      clear HA
      go_wp2_with (at_builtin; refine wpList_append_lies _ rfl _ _ 65 (by rfl) W.heap.size 5 i0 _ 1 1 Tryd.underlying65 hi hz0 hz1 hz2 rfl (by omega) _ acc.length _ (by rfl) (ho.alloc _) ⟨wr.heap.size, 0, none⟩ 1 1 _ (by rfl) (by rfl) (World.news_of_block (t := 5) (fr := (0, 0)) (heap_alloc_new wr _)) (by simp [Value.oneCell']) (by omega) (by unfold maxLen; omega) (by omega) (by simp; omega) (wr.heap.size + 1) (by simp) ?_; intro g1 cap1 w1 hown1 hgrow1 hat1 hlt1; have hB1 : W.heap.size ≤ w1.heap.size := Nat.le_trans (by simp; omega) hgrow1.size; have ho2 := quot_row (acc := acc) (c := 34) rfl rfl hown1; rw [HT.out] at ho2; have hcv := str_own ho2)
      go_wp2
      go_ret
      exact ⟨rfl, ((hb.alloc hB _).grown hgrow1 (by simp; omega) (fun j hj => (ho.lt j hj).1))⟩
end Go.Proofs.YtdfdpckcemdimaaDoor.V
