/- The contracts of the calls that turn digits into bytes: octet's Unhex and the reference's. -/
import Derived.Test.YtckamablodhecaaRefHex
import Derived.Test.YtckamablodhecaaShelf
import Derived.Deep.QuietTactic
import Derived.BigQuiet
namespace Go.Proofs.Ytckamablodhecaa
open Go.RowKit

theorem idx_any (c : UInt8) (w : World) :
    Calls Try.prog 24 #[.string digB, .int .u8 c.toNat] w fun e w' => e = .returned (.int .i64 (dv c)) ∧ w' = w := by
  have h := Try.strings_IndexByte digB (c.toNat : Int) w
  have e : Lib.indexByte digB.data.toList ((c.toNat : Int)).toNat.toUInt8 = dv c := by rw [show ((c.toNat : Int)).toNat.toUInt8 = c by simp]; rfl
  rw [e] at h
  exact h

theorem or_nibbles : ∀ a b : Fin 16, bits BinOp.or IntKind.i64 ((a.val : Int) * 16) (b.val : Int) % 256 = (((16 * a.val + b.val).toUInt8).toNat : Int) := by decide +kernel
theorem or_dv (a b : Int) (ha : 0 ≤ a) (hb : 0 ≤ b) (ha' : a ≤ 15) (hb' : b ≤ 15) : bits BinOp.or IntKind.i64 (a * 16) b % 256 = (((16 * a.toNat + b.toNat).toUInt8).toNat : Int) := by
  have h := or_nibbles ⟨a.toNat, by omega⟩ ⟨b.toNat, by omega⟩
  simp only at h
  rw [show ((a.toNat : Nat) : Int) = a by omega, show ((b.toNat : Nat) : Int) = b by omega] at h
  exact h
theorem unhex_row {w : World} {B : Nat} {v : Value} {acc : List UInt8} {c d : UInt8} (hown : w.ownsRow B 5 1 v (acc.length + 1) (Lib.byteCells acc ++ #[Value.int .u8 (bits BinOp.or IntKind.i64 (dv c * 16) (dv d) % 256)].toList)) (hc : 0 ≤ dv c) (hd : 0 ≤ dv d) :
    w.ownsRow B 5 1 v (acc ++ [(16 * (dv c).toNat + (dv d).toNat).toUInt8]).length (Lib.byteCells (acc ++ [(16 * (dv c).toNat + (dv d).toNat).toUInt8])) := by
  rw [or_dv _ _ hc hd (dv_bounds c).2 (dv_bounds d).2] at hown
  rw [Lib.byteCells_append, List.length_append]
  exact hown

set_option maxHeartbeats 400000 in
theorem unhex_bad (s : ByteArray) (W : World) (m : Nat) (hm : 2 * m + 1 = s.size) :
    Calls Try.prog 8 #[.string s] W fun e W' => e = .returned (.tuple #[.string ByteArray.empty, .int .i64 4]) ∧ Below W.heap.size W W' := by
  have ho : ((s.size : Int) % 2 != 0) = true := by simp; omega
  go_enter Try.func8, Try.ntmps8
  go_wp2
  go_ret2
  exact ⟨rfl, Below.refl _ _⟩

set_option maxRecDepth 100000 in
set_option maxHeartbeats 800000 in
theorem unhex_even (s : ByteArray) (W : World) (hs : s.size ≤ 1000000) (m : Nat) (hm : 2 * m = s.size) :
    Calls Try.prog 8 #[.string s] W fun e W' => e = .returned (.tuple #[.string (unhexS s.data.toList), .int .i64 (unhexE s.data.toList)]) ∧ Below W.heap.size W W' := by
  obtain ⟨i0, hi, hz0, hz1, hz2⟩ := info_parts info5
  have ho : ((s.size : Int) % 2 != 0) = false := by simp; omega
  go_enter Try.func8, Try.ntmps8
  go_wp2_with (at_make; refine wpList_make_own _ rfl _ _ 48 rfl W.heap.size 5 i0 (.int .u8 0) 1 Try.underlying48 hi hz0 hz1 _ _ _ m rfl rfl (by omega) ?b2 ?b3 (Nat.le_refl _) ?_)
  case b2 => rw [hz2]; omega
  case b3 => unfold maxLen; omega
  intro w1 hown hgrow
  have hb1 := (Below.refl W.heap.size W).grown hgrow (Nat.le_refl _) (fun k hk => by cases hk)
  clear hgrow
  go_wp2_with fail
  go_loopw [4, 5] (fun o i wr => ∃ (k : Nat) (acc : List UInt8), k ≤ s.size ∧ i = .int .i64 k ∧ 2 * acc.length = k ∧ wr.ownsRow W.heap.size 5 1 o acc.length (Lib.byteCells acc) ∧ Reads s.data.toList acc k ∧ Below W.heap.size W wr) (fun _ i _ => s.size - (intOf i).toNat)
  case atStart => exact ⟨0, [], Nat.zero_le _, rfl, rfl, by simpa [Lib.byteCells] using hown, reads_zero _, hb1⟩
  case round =>
    obtain ⟨k, acc, hk, rfl, hka, ho, hrd, hb⟩ := hrel
    have HK := Lib.hid hka
    clear hka
    by_cases hlt : k < s.size
    · have hlt2 : k + 1 < s.size := by have := HK.out; omega
      have d1 := dv_bounds s[k]
      have d2 := dv_bounds s[k + 1]
      have e1 : (k : Int) + 1 < (s.size : Int) := by omega
      have e0 : (k : Int) < (s.size : Int) := by omega
      have e2 : (0 : Int) ≤ (k : Int) + 1 := by omega
      have e3 : ((k : Int) + 1).toNat = k + 1 := by omega
      have e4 : IntKind.i64.wrap ((k : Int) + 1) = (k : Int) + 1 := IntWalk.i64_in _ (by omega)
      go_wp2_with fail
      go_quiet ((go_at_call 24; exact Calls.quiet_of_same (idx_any _ _)))
      have hoq : (wr.drewN nq).ownsRow W.heap.size 5 1 u4 acc.length (Lib.byteCells acc) := ho
      have hbq : Below W.heap.size W (wr.drewN nq) := below_drewN hb nq
      clear ho hb
      generalize wr.drewN nq = w3 at hoq hbq ⊢
      have hB := hbq.size
      by_cases ha : 0 ≤ dv s[k]
      · by_cases hb' : 0 ≤ dv s[k + 1]
        · have hl : acc.length ≤ 1000000 := by have := HK.out; omega
          go_wp2_with (at_builtin; refine wpList_append_lies _ rfl _ _ 48 (by rfl) W.heap.size 5 i0 _ 1 1 Try.underlying48 hi hz0 hz1 hz2 rfl (by omega) u4 acc.length _ (by rfl) (hoq.alloc _) ⟨w3.heap.size, 0, none⟩ 1 1 _ (by rfl) (by rfl) (World.news_of_block (t := 5) (fr := (0, 0)) (heap_alloc_new w3 _)) (by simp [Value.oneCell']) (by omega) (by unfold maxLen; omega) (by omega) (by simp; omega) (w3.heap.size + 1) (by simp) ?_; intro g cap w2 hown2 hgrow2 hat2 hlt3)
          go_wp2
          go_roundw
          case rel => exact ⟨k + 2, _, by omega, by go_num, by simp; have := HK.out; omega, unhex_row hown2 ha hb', reads_step _ _ _ (by simpa using hlt2) hrd ha hb', (hbq.alloc hB _).grown hgrow2 (by simp; omega) (fun j hj => (hoq.lt j hj).1)⟩
          case measure => simp [intOf]; omega
        · have hn := reads_stop _ _ _ (by simpa using hlt2) hrd (fun h => hb' h.2)
          have h1 := Lib.hid (unhexS_none hn)
          have h2 := Lib.hid (unhexE_none hn)
          clear hn hrd
          go_wp2
          go_ret2
          exact ⟨by rw [h1.out, h2.out]; rfl, hbq⟩
      · have hn := reads_stop _ _ _ (by simpa using hlt2) hrd (fun h => ha h.1)
        have h1 := Lib.hid (unhexS_none hn)
        have h2 := Lib.hid (unhexE_none hn)
        clear hn hrd
        go_wp2
        go_ret2
        exact ⟨by rw [h1.out, h2.out]; rfl, hbq⟩
    · have hks : k = s.data.toList.length := by simp; omega
      rw [hks] at hrd
      have hn := reads_end _ _ hrd
      have h1 := Lib.hid (unhexS_some hn)
      have h2 := Lib.hid (unhexE_some hn)
      have hcv := str_own ho
      clear hn hrd hks
      go_wp2
      go_ret2
      exact ⟨by rw [h1.out, h2.out]; rfl, hb⟩

theorem unhex_any (s : ByteArray) (W : World) (hs : s.size ≤ 1000000) :
    Calls Try.prog 8 #[.string s] W fun e W' => e = .returned (.tuple #[.string (unhexS s.data.toList), .int .i64 (unhexE s.data.toList)]) ∧ Below W.heap.size W W' := by
  rcases Nat.mod_two_eq_zero_or_one s.size with h | h
  · exact unhex_even s W hs (s.size / 2) (by omega)
  · have hn := unhex_odd s.data.toList (s.size / 2) (by simp; omega)
    rw [unhexS_none hn, unhexE_none hn]
    exact unhex_bad s W (s.size / 2) (by omega)
end Go.Proofs.Ytckamablodhecaa
