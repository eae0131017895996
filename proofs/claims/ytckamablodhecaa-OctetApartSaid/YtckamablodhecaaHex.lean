/- The contracts of the calls that turn bytes into digits: octet's Hex and the reference's. -/
import Derived.Test.YtckamablodhecaaBase
import Derived.Deep.RegionLaw
import Derived.Deep.AppendLies
import Derived.Deep.DrawnRows
import Derived.BigQuiet
namespace Go.Proofs.Ytckamablodhecaa
open Go.RowKit
attribute [local go_sem ↓] Go.wp_at_zero Go.wp_at_succ

theorem low_all : ∀ n : Fin 256, bits BinOp.and IntKind.u8 (n.val : Int) 15 = ((n.val % 16 : Nat) : Int) := by decide +kernel
theorem low_nibble (c : UInt8) : 0 ≤ bits BinOp.and IntKind.u8 (c.toNat : Int) 15 ∧ bits BinOp.and IntKind.u8 (c.toNat : Int) 15 < 16 ∧ bits BinOp.and IntKind.u8 (c.toNat : Int) 15 = ((c.toNat % 16 : Nat) : Int) := by
  have h := low_all ⟨c.toNat, u8_lt c⟩
  simp only at h
  rw [h]
  omega

/-- the constant text of the sixteen digits -/
abbrev digB : ByteArray := { data := #[48, 49, 50, 51, 52, 53, 54, 55, 56, 57, 97, 98, 99, 100, 101, 102] }
theorem digB_all : ∀ n : Fin 16, digB[n.val]'n.isLt = dg n.val := by decide +kernel
theorem digB_at (i : Nat) (h : i < digB.size) : digB[i] = dg i := digB_all ⟨i, h⟩
theorem hex_row {w : World} {B : Nat} {v : Value} (s : ByteArray) (k : Nat) (hlt : k < s.size) (h1 : ((s[k].toNat : Int) / 16).toNat < digB.size) (h2 : (bits BinOp.and IntKind.u8 (s[k].toNat : Int) 15).toNat < digB.size)
    (hown : w.ownsRow B 5 1 v (2 * k + 2) (Lib.byteCells (hexL (s.data.toList.take k)) ++ #[Value.int .u8 (digB[((s[k].toNat : Int) / 16).toNat].toNat), Value.int .u8 (digB[(bits BinOp.and IntKind.u8 (s[k].toNat : Int) 15).toNat].toNat)].toList)) :
    w.ownsRow B 5 1 v (2 * (k + 1)) (Lib.byteCells (hexL (s.data.toList.take (k + 1)))) := by
  have e : ((s[k].toNat : Int) / 16).toNat = s[k].toNat / 16 := by omega
  have e' : (bits BinOp.and IntKind.u8 (s[k].toNat : Int) 15).toNat = s[k].toNat % 16 := by rw [(low_nibble s[k]).2.2]; rfl
  rw [digB_at _ h1, digB_at _ h2, e, e'] at hown
  rw [take_snoc s k hlt, hexL_append]
  rw [show 2 * (k + 1) = 2 * k + 2 by omega]
  simpa [hexL, Lib.byteCells] using hown

set_option maxRecDepth 100000 in
set_option maxHeartbeats 800000 in
theorem hex_any (s : ByteArray) (W : World) (hs : s.size ≤ 1000000) :
    Calls Try.prog 12 #[.string s] W fun e W' => e = .returned (.string ⟨(hexL s.data.toList).toArray⟩) ∧ Below W.heap.size W W' := by
  obtain ⟨i0, hi, hz0, hz1, hz2⟩ := info_parts info5
  go_enter Try.func12, Try.ntmps12
  go_wp2_with (at_make; refine wpList_make_own _ rfl _ _ 48 rfl W.heap.size 5 i0 (.int .u8 0) 1 Try.underlying48 hi hz0 hz1 _ _ _ (2 * s.size) rfl rfl (by omega) ?b2 ?b3 (Nat.le_refl _) ?_)
  case b2 => rw [hz2]; omega
  case b3 => unfold maxLen; omega
  intro w1 hown hgrow
  have hb1 := (Below.refl W.heap.size W).grown hgrow (Nat.le_refl _) (fun k hk => by cases hk)
  clear hgrow
  go_wp2_with fail
  go_loopw [3, 11] (fun o i wr => ∃ k : Nat, k ≤ s.size ∧ i = .int .i64 k ∧ wr.ownsRow W.heap.size 5 1 o (2 * k) (Lib.byteCells (hexL (s.data.toList.take k))) ∧ Below W.heap.size W wr) (fun _ i _ => s.size - (intOf i).toNat)
  case atStart => exact ⟨0, Nat.zero_le _, rfl, by simpa [hexL, Lib.byteCells] using hown, hb1⟩
  case round =>
    obtain ⟨k, hk, rfl, ho, hb⟩ := hrel
    by_cases hlt : k < s.size
    · have hi1 : (k : Int) < (s.size : Int) := by omega
      have hi0 : (0 : Int) ≤ (k : Int) := by omega
      have hc1 : (0 : Int) ≤ (s[k].toNat : Int) / 16 := by omega
      have hc2 : (s[k].toNat : Int) / 16 < 16 := by have := u8_lt s[k]; omega
      have hc3 := (low_nibble s[k]).1
      have hc4 := (low_nibble s[k]).2.1
      go_wp2_with fail
      go_region_law ((refine step_append_lies _ (by rfl) _ _ _ (by rfl) W.heap.size 5 i0 _ 1 1 Try.underlying48 hi hz0 hz1 hz2 rfl (by omega) u3 (2 * k) _ (by rfl) ((ho.alloc _).drew) ⟨wr.heap.size, 0, none⟩ 2 2 _ (by rfl) (by rfl) (World.news_of_block (t := 5) (fr := (0, 0)) (heap_alloc_new wr _)) (by simp [Value.oneCell']) (by omega) (by unfold maxLen; omega) (by omega) (by have := hb.size; simp; omega) (wr.heap.size + 1) (by simp) ?_; intro g cap w2 hown2 hgrow2 hat2 hlt2))
      all_goals
        go_wp2
        go_roundw
        case rel => exact ⟨k + 1, by omega, by go_num, hex_row s k hlt _ _ hown2, (hb.alloc hb.size _).drew.grown hgrow2 (by have := hb.size; simp; omega) (fun j hj => (ho.lt j hj).1)⟩
        case measure => simp [intOf]; omega
    · obtain rfl : k = s.size := by omega
      have hcv := str_own ho
      go_wp2
      go_ret
      exact ⟨ret1_of (val_str (by rw [List.take_of_length_le (by simp)])), hb⟩
end Go.Proofs.Ytckamablodhecaa
