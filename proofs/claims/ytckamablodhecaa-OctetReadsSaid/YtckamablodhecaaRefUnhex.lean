/- The contract of the reference's Unhex. -/
import Derived.Test.YtckamablodhecaaUnhex
import Derived.Deep.RegionHeld3
namespace Go.Proofs.Ytckamablodhecaa
open Go.RowKit
attribute [local go_sem ↓] Go.wp_at_zero Go.wp_at_succ

theorem refUnhex_row {w : World} {B : Nat} {v : Value} {acc : List UInt8} {c d : UInt8} (hown : w.ownsRow B 5 1 v (acc.length + 1) (Lib.byteCells acc ++ #[Value.int .u8 (IntKind.u8.wrap (IntKind.i64.wrap (IntKind.i64.wrap (16 * dv c) + dv d)))].toList)) (hc : 0 ≤ dv c) (hd : 0 ≤ dv d) :
    w.ownsRow B 5 1 v (acc ++ [(16 * (dv c).toNat + (dv d).toNat).toUInt8]).length (Lib.byteCells (acc ++ [(16 * (dv c).toNat + (dv d).toNat).toUInt8])) := by
  have h1 := (dv_bounds c).2
  have h2 := (dv_bounds d).2
  have e : IntKind.u8.wrap (IntKind.i64.wrap (IntKind.i64.wrap (16 * dv c) + dv d)) = (((16 * (dv c).toNat + (dv d).toNat).toUInt8).toNat : Int) := by
    rw [IntWalk.i64_in (16 * dv c) (by omega), IntWalk.i64_in (16 * dv c + dv d) (by omega), wrap_u8_eq, toNat_lt256 _ (by omega)]; omega
  rw [e] at hown
  rw [Lib.byteCells_append, List.length_append]
  exact hown

set_option maxRecDepth 100000 in
set_option maxHeartbeats 1600000 in
theorem refUnhex_any (s : ByteArray) (W : World) (hs : s.size ≤ 1000000) :
    Calls Try.prog 11 #[.string s] W fun e W' => e = .returned (.tuple #[.string (unhexS s.data.toList), .bool (unhexB s.data.toList)]) ∧ Below W.heap.size W W' := by
  obtain ⟨i0, hi, hz0, hz1, hz2⟩ := info_parts info5
  go_enter Try.func11, Try.ntmps11
  go_wp2_with fail
  go_loopw [4, 5] (fun o i wr => ∃ (k : Nat) (acc : List UInt8), k ≤ s.size ∧ i = .int .i64 k ∧ 2 * acc.length = k ∧ wr.ownsRow W.heap.size 5 1 o acc.length (Lib.byteCells acc) ∧ Reads s.data.toList acc k ∧ Below W.heap.size W wr) (fun _ i _ => s.size - (intOf i).toNat)
  case atStart => exact ⟨0, [], Nat.zero_le _, rfl, rfl, World.ownsRow_made W #[] 0 (Nat.le_refl _) (Nat.zero_le _) rfl, reads_zero _, (Below.refl _ W).alloc (Nat.le_refl _) _⟩
  case round =>
    obtain ⟨k, acc, hk, rfl, hka, ho, hrd, hb⟩ := hrel
    have HK := Lib.hid hka
    clear hka
    by_cases hlt : k + 1 < s.size
    · have d1 := dv_bounds s[k]
      have d2 := dv_bounds s[k + 1]
      have e1 : (k : Int) + 1 < (s.size : Int) := by omega
      have e0 : (k : Int) < (s.size : Int) := by omega
      have e2 : (0 : Int) ≤ (k : Int) + 1 := by omega
      have e3 : ((k : Int) + 1).toNat = k + 1 := by omega
      have e4 : IntKind.i64.wrap ((k : Int) + 1) = (k : Int) + 1 := IntWalk.i64_in _ (by omega)
      have hB := hb.size
      by_cases ha : 0 ≤ dv s[k]
      · by_cases hb' : 0 ≤ dv s[k + 1]
        · have hl : acc.length ≤ 1000000 := by have := HK.out; omega
          go_wp2_with (go_at_call 25; refine (digit_any _ _).mono ?_; rintro e w' ⟨rfl, rfl⟩)
          go_region_held3 (fun _ => True) (trivial) (first | (refine step_append_lies _ (by rfl) _ _ _ (by rfl) W.heap.size 5 i0 _ 1 1 Try.underlying48 hi hz0 hz1 hz2 rfl (by omega) u4 acc.length _ (by rfl) ((ho.alloc _).drew) ⟨wr.heap.size, 0, none⟩ 1 1 _ (by rfl) (by rfl) (World.news_of_block (t := 5) (fr := (0, 0)) (heap_alloc_new wr _)) (by simp [Value.oneCell']) (by omega) (by unfold maxLen; omega) (by omega) (by simp; omega) (wr.heap.size + 1) (by simp) ?_; intro g cap w2 hown2 hgrow2 hat2 hlt3) | (go_at_call 25; refine (digit_any _ _).mono ?_; rintro e w' ⟨rfl, rfl⟩))
          all_goals
            go_wp2
            go_roundw
            case rel => exact ⟨k + 2, _, by omega, by go_num, by simp; have := HK.out; omega, refUnhex_row hown2 ha hb', reads_step _ _ _ (by simpa using hlt) hrd ha hb', (hb.alloc hB _).drew.grown hgrow2 (by simp; omega) (fun j hj => (ho.lt j hj).1)⟩
            case measure => simp [intOf]; omega
        · have hn := reads_stop _ _ _ (by simpa using hlt) hrd (fun h => hb' h.2)
          have h1 := Lib.hid (unhexS_none hn)
          have h2 := Lib.hid (unhexB_none hn)
          clear hn hrd
          go_wp2_with (go_at_call 25; refine (digit_any _ _).mono ?_; rintro e w' ⟨rfl, rfl⟩)
          go_ret2
          exact ⟨by rw [h1.out, h2.out]; rfl, hb⟩
      · have hn := reads_stop _ _ _ (by simpa using hlt) hrd (fun h => ha h.1)
        have h1 := Lib.hid (unhexS_none hn)
        have h2 := Lib.hid (unhexB_none hn)
        clear hn hrd
        go_wp2_with (go_at_call 25; refine (digit_any _ _).mono ?_; rintro e w' ⟨rfl, rfl⟩)
        go_ret2
        exact ⟨by rw [h1.out, h2.out]; rfl, hb⟩
    · rcases (show k = s.size ∨ k + 1 = s.size by omega) with hks | hks
      · rw [show k = s.data.toList.length by simp; omega] at hrd
        have hn := reads_end _ _ hrd
        have h1 := Lib.hid (unhexS_some hn)
        have h2 := Lib.hid (unhexB_some hn)
        have hcv := str_own ho
        have hp : ((s.size : Int) % 2 == 1) = false := by have := HK.out; simp; omega
        clear hn hrd hks
        go_wp2
        go_ret2
        exact ⟨by rw [h1.out, h2.out]; rfl, hb⟩
      · have hn := unhex_odd s.data.toList acc.length (by have := HK.out; simp; omega)
        have h1 := Lib.hid (unhexS_none hn)
        have h2 := Lib.hid (unhexB_none hn)
        have hp : ((s.size : Int) % 2 == 1) = true := by have := HK.out; simp; omega
        clear hn hrd hks
        go_wp2
        go_ret2
        exact ⟨by rw [h1.out, h2.out]; rfl, hb⟩
end Go.Proofs.Ytckamablodhecaa
