/- Texts that stand on one another, put together: Hex, ShelfI, Unhex, ELaw, COpen, CLaid, TLaid, ELaid. -/
import Derived.Test.YtgefhfcmiefocaaDoorLot11
import Derived.BigQuiet
import Derived.ChangeOld
import Derived.Deep.AppendLies
import Derived.Deep.DrawnRows
import Derived.Deep.QuietTactic
import Derived.Deep.RegionLaw
import Derived.Deep.Strs
import Derived.LaidMore
import Derived.OpenShut
import Derived.ProofKit
import Derived.Shelf.Bits.Mul64
import Derived.Shelf.Small.Strs
import Derived.Shelf.Strings.Builder1
import Derived.Shelf.Strings.BuilderF
import Derived.Shelf.Strings.Search1
import Derived.ShutString
import Derived.Stop.Joined
import Derived.Test.YtgefhfcmiefocaaDoorProg
import Derived.Test.YtgefhfcmiefocaaDoorRows
/- The contracts of the calls that turn bytes into digits: octet's Hex and the reference's. -/
namespace Go.Proofs.YtgefhfcmiefocaaDoor
open Go.RowKit
attribute [local go_sem ↓] Go.wp_at_zero Go.wp_at_succ

theorem low_all : ∀ n : Fin 256, bits BinOp.and IntKind.u8 (n.val : Int) 15 = ((n.val % 16 : Nat) : Int) := by decide +kernel
theorem low_nibble (c : UInt8) : 0 ≤ bits BinOp.and IntKind.u8 (c.toNat : Int) 15 ∧ bits BinOp.and IntKind.u8 (c.toNat : Int) 15 < 16 ∧ bits BinOp.and IntKind.u8 (c.toNat : Int) 15 = ((c.toNat % 16 : Nat) : Int) := by
  have h := low_all ⟨c.toNat, u8_lt c⟩
  simp only at h
  rw [h]
  omega

/-- the constant text of the sixteen digits -/
abbrev digB : ByteArray := { data := #[48, 49, 50, 51, 52, 53, 54, 55, 56, 57, 97, 98, 99, 100, 101, 102] }
theorem digB_all : ∀ n : Fin 16, digB[n.val]'n.isLt = dg n.val := by decide +kernel
theorem digB_at (i : Nat) (h : i < digB.size) : digB[i] = dg i := digB_all ⟨i, h⟩
theorem hex_row {w : World} {B : Nat} {v : Value} (s : ByteArray) (k : Nat) (hlt : k < s.size) (h1 : ((s[k].toNat : Int) / 16).toNat < digB.size) (h2 : (bits BinOp.and IntKind.u8 (s[k].toNat : Int) 15).toNat < digB.size)
    (hown : w.ownsRow B 5 1 v (2 * k + 2) (Lib.byteCells (hexL (s.data.toList.take k)) ++ #[Value.int .u8 (digB[((s[k].toNat : Int) / 16).toNat].toNat), Value.int .u8 (digB[(bits BinOp.and IntKind.u8 (s[k].toNat : Int) 15).toNat].toNat)].toList)) :
    w.ownsRow B 5 1 v (2 * (k + 1)) (Lib.byteCells (hexL (s.data.toList.take (k + 1)))) := by
  have e : ((s[k].toNat : Int) / 16).toNat = s[k].toNat / 16 := by omega
  have e' : (bits BinOp.and IntKind.u8 (s[k].toNat : Int) 15).toNat = s[k].toNat % 16 := by rw [(low_nibble s[k]).2.2]; rfl
  rw [digB_at _ h1, digB_at _ h2, e, e'] at hown
  rw [take_snoc s k hlt, hexL_append]
  rw [show 2 * (k + 1) = 2 * k + 2 by omega]
  simpa [hexL, Lib.byteCells] using hown

set_option maxRecDepth 100000 in
set_option maxHeartbeats 800000 in
theorem hex_any (s : ByteArray) (W : World) (hs : s.size ≤ 1000000) :
    Calls Tryd.prog 19 #[.string s] W fun e W' => e = .returned (.string ⟨(hexL s.data.toList).toArray⟩) ∧ Below W.heap.size W W' := by
  obtain ⟨i0, hi, hz0, hz1, hz2⟩ := info_parts info5
  go_enter Tryd.func19, Tryd.ntmps19
  go_wp2_with (at_make; refine wpList_make_own _ rfl _ _ 29 rfl W.heap.size 5 i0 (.int .u8 0) 1 Tryd.underlying29 hi hz0 hz1 _ _ _ (2 * s.size) rfl rfl (by omega) ?b2 ?b3 (Nat.le_refl _) ?_)
  case b2 => rw [hz2]; omega
  case b3 => unfold maxLen; omega
  intro w1 hown hgrow
  have hb1 := (Below.refl W.heap.size W).grown hgrow (Nat.le_refl _) (fun k hk => by cases hk)
  clear hgrow
  go_wp2_with fail
  go_loopw [3, 11] (fun o i wr => ∃ k : Nat, k ≤ s.size ∧ i = .int .i64 k ∧ wr.ownsRow W.heap.size 5 1 o (2 * k) (Lib.byteCells (hexL (s.data.toList.take k))) ∧ Below W.heap.size W wr) (fun _ i _ => s.size - (intOf i).toNat)
  case atStart => exact ⟨0, Nat.zero_le _, rfl, by simpa [hexL, Lib.byteCells] using hown, hb1⟩
  case round =>
    obtain ⟨k, hk, rfl, ho, hb⟩ := hrel
    by_cases hlt : k < s.size
    · have hi1 : (k : Int) < (s.size : Int) := by omega
      have hi0 : (0 : Int) ≤ (k : Int) := by omega
      have hc1 : (0 : Int) ≤ (s[k].toNat : Int) / 16 := by omega
      have hc2 : (s[k].toNat : Int) / 16 < 16 := by have := u8_lt s[k]; omega
      have hc3 := (low_nibble s[k]).1
      have hc4 := (low_nibble s[k]).2.1
      go_wp2_with fail
      go_region_law ((refine step_append_lies _ (by rfl) _ _ _ (by rfl) W.heap.size 5 i0 _ 1 1 Tryd.underlying29 hi hz0 hz1 hz2 rfl (by omega) u3 (2 * k) _ (by rfl) ((ho.alloc _).drew) ⟨wr.heap.size, 0, none⟩ 2 2 _ (by rfl) (by rfl) (World.news_of_block (t := 5) (fr := (0, 0)) (heap_alloc_new wr _)) (by simp [Value.oneCell']) (by omega) (by unfold maxLen; omega) (by omega) (by have := hb.size; simp; omega) (wr.heap.size + 1) (by simp) ?_; intro g cap w2 hown2 hgrow2 hat2 hlt2))
      all_goals
        go_wp2
        go_roundw
        case rel => exact ⟨k + 1, by omega, by go_num, hex_row s k hlt _ _ hown2, (hb.alloc hb.size _).drew.grown hgrow2 (by have := hb.size; simp; omega) (fun j hj => (ho.lt j hj).1)⟩
        case measure => simp [intOf]; omega
    · obtain rfl : k = s.size := by omega
      have hcv := str_own ho
      go_wp2
      go_ret
      exact ⟨ret1_of (val_str (by rw [List.take_of_length_le (by simp)])), hb⟩
end Go.Proofs.YtgefhfcmiefocaaDoor

/- The library's own contracts laid at this program: one application each. -/
namespace Go.Proofs
open Go.Shelf
def Tryd.lays137_ren : Go.Shelf.Ren := ⟨fun | 137 => 26 | 217 => 47 | 266 => 73 | n => n, fun | 9 => 9 | 5 => 5 | 3 => 3 | n => n, fun | n => n⟩
theorem Tryd.lays137 : Go.Proofs.Lays.n137 Tryd.prog Tryd.lays137_ren := {
  mixed := by kernel_rfl
  f137 := Tryd.func26.trans (congrArg some (by kernel_rfl))
  f217 := Tryd.func47.trans (congrArg some (by kernel_rfl))
  f266 := Tryd.func73.trans (congrArg some (by kernel_rfl))
  t3 := Tryd.underlying3
  a3 := Tryd.isAgg3
  z3 := Tryd.sizeOf3
  v3 := Tryd.zeroValue3
  t5 := Tryd.underlying5
  a5 := Tryd.isAgg5
  z5 := Tryd.sizeOf5
  v5 := Tryd.zeroValue5
  t9 := Tryd.underlying9
  a9 := Tryd.isAgg9
  z9 := Tryd.sizeOf9
  v9 := Tryd.zeroValue9 }
open Go.RowKit in
theorem Tryd.strings_IndexByte (s : ByteArray) (c : Int) (w : World) :
    Calls Tryd.prog 26 #[.string s, .int .u8 c] w fun e w' => e = .returned (.int .i64 (Lib.indexByte s.data.toList c.toNat.toUInt8)) ∧ w' = w := Any.strings_IndexByte Tryd.lays137 s c w
end Go.Proofs

/- The contracts of the calls that turn digits into bytes: octet's Unhex and the reference's. -/
namespace Go.Proofs.YtgefhfcmiefocaaDoor
open Go.RowKit

theorem idx_any (c : UInt8) (w : World) :
    Calls Tryd.prog 26 #[.string digB, .int .u8 c.toNat] w fun e w' => e = .returned (.int .i64 (dv c)) ∧ w' = w := by
  have h := Tryd.strings_IndexByte digB (c.toNat : Int) w
  have e : Lib.indexByte digB.data.toList ((c.toNat : Int)).toNat.toUInt8 = dv c := by rw [show ((c.toNat : Int)).toNat.toUInt8 = c by simp]; rfl
  rw [e] at h
  exact h

theorem or_nibbles : ∀ a b : Fin 16, bits BinOp.or IntKind.i64 ((a.val : Int) * 16) (b.val : Int) % 256 = (((16 * a.val + b.val).toUInt8).toNat : Int) := by decide +kernel
theorem or_dv (a b : Int) (ha : 0 ≤ a) (hb : 0 ≤ b) (ha' : a ≤ 15) (hb' : b ≤ 15) : bits BinOp.or IntKind.i64 (a * 16) b % 256 = (((16 * a.toNat + b.toNat).toUInt8).toNat : Int) := by
  have h := or_nibbles ⟨a.toNat, by omega⟩ ⟨b.toNat, by omega⟩
  simp only at h
  rw [show ((a.toNat : Nat) : Int) = a by omega, show ((b.toNat : Nat) : Int) = b by omega] at h
  exact h
theorem unhex_row {w : World} {B : Nat} {v : Value} {acc : List UInt8} {c d : UInt8} (hown : w.ownsRow B 5 1 v (acc.length + 1) (Lib.byteCells acc ++ #[Value.int .u8 (bits BinOp.or IntKind.i64 (dv c * 16) (dv d) % 256)].toList)) (hc : 0 ≤ dv c) (hd : 0 ≤ dv d) :
    w.ownsRow B 5 1 v (acc ++ [(16 * (dv c).toNat + (dv d).toNat).toUInt8]).length (Lib.byteCells (acc ++ [(16 * (dv c).toNat + (dv d).toNat).toUInt8])) := by
  rw [or_dv _ _ hc hd (dv_bounds c).2 (dv_bounds d).2] at hown
  rw [Lib.byteCells_append, List.length_append]
  exact hown

set_option maxHeartbeats 400000 in
theorem unhex_bad (s : ByteArray) (W : World) (m : Nat) (hm : 2 * m + 1 = s.size) :
    Calls Tryd.prog 12 #[.string s] W fun e W' => e = .returned (.tuple #[.string ByteArray.empty, .int .i64 4]) ∧ Below W.heap.size W W' := by
  have ho : ((s.size : Int) % 2 != 0) = true := by simp; omega
  go_enter Tryd.func12, Tryd.ntmps12
  go_wp2
  go_ret2
  exact ⟨rfl, Below.refl _ _⟩

set_option maxRecDepth 100000 in
set_option maxHeartbeats 800000 in
theorem unhex_even (s : ByteArray) (W : World) (hs : s.size ≤ 1000000) (m : Nat) (hm : 2 * m = s.size) :
    Calls Tryd.prog 12 #[.string s] W fun e W' => e = .returned (.tuple #[.string (unhexS s.data.toList), .int .i64 (unhexE s.data.toList)]) ∧ Below W.heap.size W W' := by
  obtain ⟨i0, hi, hz0, hz1, hz2⟩ := info_parts info5
  have ho : ((s.size : Int) % 2 != 0) = false := by simp; omega
  go_enter Tryd.func12, Tryd.ntmps12
  go_wp2_with (at_make; refine wpList_make_own _ rfl _ _ 29 rfl W.heap.size 5 i0 (.int .u8 0) 1 Tryd.underlying29 hi hz0 hz1 _ _ _ m rfl rfl (by omega) ?b2 ?b3 (Nat.le_refl _) ?_)
  case b2 => rw [hz2]; omega
  case b3 => unfold maxLen; omega
  intro w1 hown hgrow
  have hb1 := (Below.refl W.heap.size W).grown hgrow (Nat.le_refl _) (fun k hk => by cases hk)
  clear hgrow
  go_wp2_with fail
  go_loopw [4, 5] (fun o i wr => ∃ (k : Nat) (acc : List UInt8), k ≤ s.size ∧ i = .int .i64 k ∧ 2 * acc.length = k ∧ wr.ownsRow W.heap.size 5 1 o acc.length (Lib.byteCells acc) ∧ Reads s.data.toList acc k ∧ Below W.heap.size W wr) (fun _ i _ => s.size - (intOf i).toNat)
  case atStart => exact ⟨0, [], Nat.zero_le _, rfl, rfl, by simpa [Lib.byteCells] using hown, reads_zero _, hb1⟩
  case round =>
    obtain ⟨k, acc, hk, rfl, hka, ho, hrd, hb⟩ := hrel
    have HK := Lib.hid hka
    clear hka
    by_cases hlt : k < s.size
    · have hlt2 : k + 1 < s.size := by have := HK.out; omega
      have d1 := dv_bounds s[k]
      have d2 := dv_bounds s[k + 1]
      have e1 : (k : Int) + 1 < (s.size : Int) := by omega
      have e0 : (k : Int) < (s.size : Int) := by omega
      have e2 : (0 : Int) ≤ (k : Int) + 1 := by omega
      have e3 : ((k : Int) + 1).toNat = k + 1 := by omega
      have e4 : IntKind.i64.wrap ((k : Int) + 1) = (k : Int) + 1 := IntWalk.i64_in _ (by omega)
      go_wp2_with fail
      go_quiet ((go_at_call 26; exact Calls.quiet_of_same (idx_any _ _)))
      have hoq : (wr.drewN nq).ownsRow W.heap.size 5 1 u4 acc.length (Lib.byteCells acc) := ho
      have hbq : Below W.heap.size W (wr.drewN nq) := below_drewN hb nq
      clear ho hb
      generalize wr.drewN nq = w3 at hoq hbq ⊢
      have hB := hbq.size
      by_cases ha : 0 ≤ dv s[k]
      · by_cases hb' : 0 ≤ dv s[k + 1]
        · have hl : acc.length ≤ 1000000 := by have := HK.out; omega
          go_wp2_with (at_builtin; refine wpList_append_lies _ rfl _ _ 29 (by rfl) W.heap.size 5 i0 _ 1 1 Tryd.underlying29 hi hz0 hz1 hz2 rfl (by omega) u4 acc.length _ (by rfl) (hoq.alloc _) ⟨w3.heap.size, 0, none⟩ 1 1 _ (by rfl) (by rfl) (World.news_of_block (t := 5) (fr := (0, 0)) (heap_alloc_new w3 _)) (by simp [Value.oneCell']) (by omega) (by unfold maxLen; omega) (by omega) (by simp; omega) (w3.heap.size + 1) (by simp) ?_; intro g cap w2 hown2 hgrow2 hat2 hlt3)
          go_wp2
          go_roundw
          case rel => exact ⟨k + 2, _, by omega, by go_num, by simp; have := HK.out; omega, unhex_row hown2 ha hb', reads_step _ _ _ (by simpa using hlt2) hrd ha hb', (hbq.alloc hB _).grown hgrow2 (by simp; omega) (fun j hj => (hoq.lt j hj).1)⟩
          case measure => simp [intOf]; omega
        · have hn := reads_stop _ _ _ (by simpa using hlt2) hrd (fun h => hb' h.2)
          have h1 := Lib.hid (unhexS_none hn)
          have h2 := Lib.hid (unhexE_none hn)
          clear hn hrd
          go_wp2
          go_ret2
          exact ⟨by rw [h1.out, h2.out]; rfl, hbq⟩
      · have hn := reads_stop _ _ _ (by simpa using hlt2) hrd (fun h => ha h.1)
        have h1 := Lib.hid (unhexS_none hn)
        have h2 := Lib.hid (unhexE_none hn)
        clear hn hrd
        go_wp2
        go_ret2
        exact ⟨by rw [h1.out, h2.out]; rfl, hbq⟩
    · have hks : k = s.data.toList.length := by simp; omega
      rw [hks] at hrd
      have hn := reads_end _ _ hrd
      have h1 := Lib.hid (unhexS_some hn)
      have h2 := Lib.hid (unhexE_some hn)
      have hcv := str_own ho
      clear hn hrd hks
      go_wp2
      go_ret2
      exact ⟨by rw [h1.out, h2.out]; rfl, hb⟩

theorem unhex_any (s : ByteArray) (W : World) (hs : s.size ≤ 1000000) :
    Calls Tryd.prog 12 #[.string s] W fun e W' => e = .returned (.tuple #[.string (unhexS s.data.toList), .int .i64 (unhexE s.data.toList)]) ∧ Below W.heap.size W W' := by
  rcases Nat.mod_two_eq_zero_or_one s.size with h | h
  · exact unhex_even s W hs (s.size / 2) (by omega)
  · have hn := unhex_odd s.data.toList (s.size / 2) (by simp; omega)
    rw [unhexS_none hn, unhexE_none hn]
    exact unhex_bad s W (s.size / 2) (by omega)
end Go.Proofs.YtgefhfcmiefocaaDoor

/- The statements' own calls: short, first, alive; what is signed is verified, and not with another number. -/
namespace Go.Proofs.YtgefhfcmiefocaaDoor.E
open Go.RowKit Go.Sort Go.Proofs.YtgefhfcmiefocaaDoor.F Go.Proofs.YtgefhfcmiefocaaDoor.C
set_option maxRecDepth 100000

/-! ### short, first, alive -/
set_option maxHeartbeats 400000 in
theorem short_any (s : ByteArray) (W : World) : Calls Tryd.prog 5 #[.string s] W fun e w' => ∃ t : ByteArray, t.size ≤ 300 ∧ t = s.extract 0 (min (s.size : Int) 300).toNat ∧ e = .returned (.string t) ∧ Below W.heap.size W w' := by
  have hB := Below.refl W.heap.size W
  go_enter Tryd.func5, Tryd.ntmps5
  go_wp2_with fail
  go_ret
  exact ⟨_, by rw [ByteArray.size_extract]; omega, rfl, rfl, hB⟩
def firstHex : ByteArray := ⟨#[57, 100, 54, 49, 98, 49, 57, 100, 101, 102, 102, 100, 53, 97, 54, 48, 98, 97, 56, 52, 52, 97, 102, 52, 57, 50, 101, 99, 50, 99, 99, 52, 52, 52, 52, 57, 99, 53, 54, 57, 55, 98, 51, 50, 54, 57, 49, 57, 55, 48, 51, 98, 97, 99, 48, 51, 49, 99, 97, 101, 55, 102, 54, 48]⟩
theorem first_unhex : unhexL firstHex.data.toList = some firstL := by decide +kernel
def firstS : ByteArray := ⟨firstL.toArray⟩
theorem firstS_size : firstS.size = 32 := by decide
set_option maxHeartbeats 400000 in
theorem first_any (W : World) : Calls Tryd.prog 6 #[] W fun e w' => e = .returned (.string firstS) ∧ Below W.heap.size W w' := by
  have H := Lib.hid (fun w => unhex_any firstHex w (by decide))
  rw [unhexS_some first_unhex, unhexE_some first_unhex, show (⟨firstL.toArray⟩ : ByteArray) = firstS from rfl] at H
  unfold firstHex at H
  generalize firstS = f at *
  have hB := Below.refl W.heap.size W
  go_enter Tryd.func6, Tryd.ntmps6
  go_wp2_with (go_at_call 12; (with_reducible refine (H.out _).mono ?_); rintro e w1 ⟨rfl, hb⟩; replace hB := below_on hB hb; clear hb)
  go_ret
  exact ⟨rfl, hB⟩
theorem first_hex : hexL [215, 90, 152, 1] = [100, 55, 53, 97, 57, 56, 48, 49] := by decide +kernel
set_option maxHeartbeats 800000 in
theorem alive_any (A : Pts EdTab) (W : World) (hT : EdTab W) : Calls Tryd.prog 10 #[] W fun e w' => e = .returned (.bool true) ∧ Below W.heap.size W w' := by
  have HF := Lib.hid (fun w => first_any w)
  have HP := Lib.hid (fun w (hb : Below W.heap.size W w) => public_any A firstS (by decide) w (hT.on hb))
  rw [if_pos firstS_size, show firstS.data.toList = firstL from rfl, first_text] at HP
  have hsz : (firstT.size : Int) = 32 := by decide
  have h4 : firstT.extract 0 4 = ⟨[215, 90, 152, 1].toArray⟩ := by decide
  have HH := Lib.hid (fun w => hex_any ⟨[215, 90, 152, 1].toArray⟩ w (by decide))
  rw [show (⟨[215, 90, 152, 1].toArray⟩ : ByteArray).data.toList = [215, 90, 152, 1] from rfl, first_hex, ← h4] at HH
  have h5 : 4 ≤ firstT.size := by decide
  generalize firstT = k at *
  generalize firstS = s at *
  have hB := Below.refl W.heap.size W
  clear h4 hT
  go_enter Tryd.func10, Tryd.ntmps10
  go_wp2_with (first
    | (go_at_call 6; (with_reducible refine (HF.out _).mono ?_); rintro e w1 ⟨rfl, hb⟩; replace hB := below_on hB hb; clear hb)
    | (go_at_call 7; (with_reducible refine (HP.out _ hB).mono ?_); rintro e w2 ⟨rfl, hb⟩; replace hB := below_on hB hb; clear hb)
    | (go_at_call 19; (with_reducible refine (HH.out _).mono ?_); rintro e w3 ⟨rfl, hb⟩; replace hB := below_on hB hb; clear hb))
  go_ret
  exact ⟨rfl, hB⟩

/-! ### what is signed is verified -/
theorem key_text {P : Pt} (h : P.On) : keyB (textN P) = true ∧ keyQ (textN P) = P := by
  have hp := text_parts P
  have e1 : keyY (textN P) = P.y.val := hp.1
  have e2 : keyO (textN P) = decide (P.x.val % 2 = 1) := hp.2
  have hb : keyB (textN P) = true := by unfold keyB; rw [e1, e2]; exact parseB_on h
  refine ⟨hb, ?_⟩
  have h1 := key_pn hb
  rw [e1, e2] at h1
  exact h1.same (parseT_pn h)
section
variable (s m : ByteArray)
theorem seedT_size : (seedT s m).size = 64 := by
  unfold seedT signT
  rw [ByteArray.size_append, text_size]
  simp [ByteArray.size, leL_length]
theorem seedT_list : (seedT s m).data.toList = (signT s.data.toList m.data.toList).data.toList ++ leL (signS s.data.toList m.data.toList) 32 := by
  unfold seedT
  rw [T.list_append]
theorem seedT_take : (seedT s m).data.toList.take 32 = (signT s.data.toList m.data.toList).data.toList := by
  have h : (signT s.data.toList m.data.toList).data.toList.length = 32 := by rw [← Lib.size_eq]; exact text_size _
  rw [seedT_list, ← h, List.take_left']
  rfl
theorem seedT_drop : (seedT s m).data.toList.drop 32 = leL (signS s.data.toList m.data.toList) 32 := by
  have h : (signT s.data.toList m.data.toList).data.toList.length = 32 := by rw [← Lib.size_eq]; exact text_size _
  rw [seedT_list, List.drop_left' h]
theorem signS_lt (a b : List UInt8) : signS a b < l25 := Nat.mod_lt _ (by decide)
theorem sigN_own : sigN (seedT s m) = signS s.data.toList m.data.toList := by
  unfold sigN
  rw [seedT_drop, numLE_leL, Nat.mod_eq_of_lt (Nat.lt_trans (signS_lt _ _) (by decide))]
theorem text_back (x : ByteArray) (l : List UInt8) (h : x.data.toList = l) : x = ⟨l.toArray⟩ := by rw [← h, Lib.mk_data]
theorem key_on : (keyP s.data.toList).On := Pt.smul_on Bp_on _
theorem keyT_is : keyB (keyT s.data.toList) = true := (key_text (key_on s)).1
theorem own_point : (Bp.smul (signS s.data.toList m.data.toList)).add ((keyP s.data.toList).smul (signK s.data.toList m.data.toList)).neg = Bp.smul (signR s.data.toList m.data.toList) := by
  unfold signS keyP
  exact sign_point _ _ _
theorem sigK_of (x : ByteArray) (h : x.data.toList.take 32 = (signT s.data.toList m.data.toList).data.toList) : sigK (keyT s.data.toList) m x = signK s.data.toList m.data.toList := by
  unfold sigK signK
  rw [h]
theorem first_of (x : ByteArray) (h : x.data.toList.take 32 = (signT s.data.toList m.data.toList).data.toList) : x.extract 0 32 = signT s.data.toList m.data.toList := by
  rw [text_back (x.extract 0 32) _ (T.head_list x 32), h, Lib.mk_data]
theorem sigR_of (x : ByteArray) (h : x.data.toList.take 32 = (signT s.data.toList m.data.toList).data.toList) :
    sigR (keyT s.data.toList) m x = textN ((Bp.smul (sigN x)).add ((keyP s.data.toList).smul (signK s.data.toList m.data.toList)).neg) := by
  unfold sigR
  rw [sigK_of s m x h]
  unfold keyT
  rw [(key_text (key_on s)).2]
theorem verify_own : verifyE (keyT s.data.toList) m (seedT s m) = 0 := by
  unfold verifyE
  rw [if_pos ⟨text_size _, seedT_size s m⟩, if_pos (keyT_is s), sigN_own, if_pos (signS_lt _ _), if_pos]
  rw [sigR_of s m _ (seedT_take s m), sigN_own, own_point, first_of s m _ (seedT_take s m)]
  rfl
/-- one bit of the last 32 bytes is another one -/
theorem verify_other (i b : Nat) (hi : i < 32) (hb : b < 8) (x : UInt8) (hx : x.toNat = ((seedT s m).data.toList.getD (32 + i) 0).toNat ^^^ 2 ^ b) :
    verifyE (keyT s.data.toList) m ⟨((seedT s m).data.toList.set (32 + i) x).toArray⟩ = 12 ∨ verifyE (keyT s.data.toList) m ⟨((seedT s m).data.toList.set (32 + i) x).toArray⟩ = 11 := by
  obtain ⟨Y, hY⟩ : ∃ Y : ByteArray, (⟨((seedT s m).data.toList.set (32 + i) x).toArray⟩ : ByteArray) = Y := ⟨_, rfl⟩
  have hl : Y.data.toList = (seedT s m).data.toList.set (32 + i) x := by rw [← hY]
  have hYs : Y.size = 64 := by rw [Lib.size_eq, hl, List.length_set, ← Lib.size_eq, seedT_size]
  have hYt : Y.data.toList.take 32 = (signT s.data.toList m.data.toList).data.toList := by rw [hl, List.take_set_of_le (by omega), seedT_take]
  have hYd : Y.data.toList.drop 32 = (leL (signS s.data.toList m.data.toList) 32).set i x := by
    rw [hl, List.drop_set, if_neg (by omega), seedT_drop]
    congr 1
    omega
  have hg : (seedT s m).data.toList.getD (32 + i) 0 = (leL (signS s.data.toList m.data.toList) 32).getD i 0 := by
    rw [← seedT_drop s m, List.getD_eq_getElem?_getD, List.getD_eq_getElem?_getD, List.getElem?_drop]
  rw [hg] at hx
  have hf := flip_num (leL (signS s.data.toList m.data.toList) 32) i b (by rw [leL_length]; exact hi) hb x hx
  rw [numLE_leL, Nat.mod_eq_of_lt (Nat.lt_trans (signS_lt _ _) (by decide)), ← hYd, show numLE (Y.data.toList.drop 32) = sigN Y from rfl] at hf
  rw [hY]
  unfold verifyE
  rw [if_pos ⟨text_size _, hYs⟩, if_pos (keyT_is s)]
  by_cases hn : sigN Y < l25
  · rw [if_pos hn, if_neg]
    · exact .inl rfl
    · rw [sigR_of s m Y hYt, first_of s m Y hYt]
      intro e
      refine other_text (Pt.neg_on (Pt.smul_on (key_on s) (signK s.data.toList m.data.toList))) hf ?_
      rw [e, own_point]
      rfl
  · rw [if_neg hn]
    exact .inr rfl
end
end Go.Proofs.YtgefhfcmiefocaaDoor.E

/- A number that comes in as an argument is one of four words. -/
namespace Go.Proofs.YtgefhfcmiefocaaDoor.C
open Go.Proofs.YtgefhfcmiefocaaDoor.F
set_option maxRecDepth 100000
open Go.ChangeShapes Go.WideShapes Go.ChangeAt Go.RowKit

theorem rowOwn : ownKnob Tryd.prog.godebug = none := by kernel_rfl
theorem rowLaid : laidOutB Tryd.prog = true := by kernel_rfl
theorem cellsU64 : Tryd.prog.cellsOf 34 = 1 := by kernel_rfl
theorem cellsFe : Tryd.prog.cellsOf 36 = 4 := by kernel_rfl
theorem array4 {α : Type} {cs : Array α} (h : cs.size = 4) : ∃ c0 c1 c2 c3, cs = #[c0, c1, c2, c3] := by
  obtain ⟨l⟩ := cs
  match l, h with
  | [c0, c1, c2, c3], _ => exact ⟨c0, c1, c2, c3, rfl⟩
theorem nat_of_u64 {k : Int} (h : (Lit.int .u64 k).wf = true) : ∃ x : Nat, k = (x : Int) ∧ x < 18446744073709551616 := by
  have := bounds_u64 h
  exact ⟨k.toNat, by omega, by omega⟩
theorem okWide_array {w : World} {r : Reach} {base : Nat} {t e n : Nat} {v : Value} (ht : Tryd.prog.underlying t = some (.array n e)) (h : Value.okWide Tryd.prog w r base t v) : ∃ cs, v = .agg cs ∧ cs.size = Tryd.prog.cellsOf t := by
  simp only [Value.okWide, ht] at h
  obtain ⟨cs, h1, h2, _⟩ := h
  exact ⟨cs, h1, h2⟩
theorem words_open {H : Type} {enc : TypeId × Value → H} {W : World} {fuel : Nat} {l : List Value} {x : DataW H × List MemPlace}
    (h : DataW.trod enc Tryd.prog W 0 (fun _ => true) true fuel 36 l = some x) : ∀ i, i < 4 → ∃ k : Nat, l[i]? = some (w64 k) ∧ k < 18446744073709551616 := by
  intro i hi
  obtain ⟨xs, m, rfl, hx, _, hxn, hel⟩ := DataW.trod_array Tryd.underlying36 h
  have h1 := hel i hi
  have hxi : xs[i]? = some (xs[i]'(by omega)) := List.getElem?_eq_getElem (by omega)
  rw [hxi, cellsU64, Nat.mul_one] at h1
  obtain ⟨k, e1, _, hw⟩ := DataW.trod_int Tryd.underlying34 h1
  obtain ⟨k, rfl, hk⟩ := nat_of_u64 hw
  have h3 : ((l.drop i).take 1)[0]? = some (.int .u64 (k : Int)) := by rw [e1]; rfl
  rw [List.getElem?_take, if_pos (by decide), List.getElem?_drop, Nat.add_zero] at h3
  exact ⟨k, h3, hk⟩
theorem fe_open {H : Type} {enc : TypeId × Value → H} {W : World} {r : Reach} {b0 : Nat} {v : Value} {d : DataW H} {p : List MemPlace}
    (hv : Value.okWide Tryd.prog W r b0 36 v) (h : DataW.Trod enc Tryd.prog W 0 (fun _ => true) true 36 v d p) : ∃ n, n < K256 ∧ v = fe n := by
  obtain ⟨cs, rfl, hsz⟩ := okWide_array Tryd.underlying36 hv
  obtain ⟨c0, c1, c2, c3, rfl⟩ := array4 (hsz.trans cellsFe)
  obtain ⟨fuel, hf⟩ := h
  have hw := words_open hf
  obtain ⟨k0, e0, l0⟩ := hw 0 (by decide)
  obtain ⟨k1, e1, l1⟩ := hw 1 (by decide)
  obtain ⟨k2, e2, l2⟩ := hw 2 (by decide)
  obtain ⟨k3, e3, l3⟩ := hw 3 (by decide)
  injection e0 with e0
  injection e1 with e1
  injection e2 with e2
  injection e3 with e3
  subst e0 e1 e2 e3
  obtain ⟨n, hn, he, _⟩ := fe_of k0 k1 k2 k3 l0 l1 l2 l3
  exact ⟨n, hn, he⟩
end Go.Proofs.YtgefhfcmiefocaaDoor.C

/- What the listed variables give; and a start that meets it. -/
namespace Go.Proofs.YtgefhfcmiefocaaDoor.C
open Go.Proofs.YtgefhfcmiefocaaDoor.F
set_option maxRecDepth 100000
open Go.ChangeShapes Go.WideShapes Go.ChangeAt Go.RowKit

theorem arr_cells {W : World} {name : String} {g t n fuel : Nat} {cs : Array Value} {p : List MemPlace} (L : List Nat) (hg : Tryd.prog.globalNamed name = some g) (ht : Tryd.prog.underlying t = some (.array n 34)) (hv : W.var? Tryd.prog name = some cs)
    (hd : DataW.trod (fun _ => ()) Tryd.prog W 0 (fun _ => true) false fuel t cs.toList = some (.agg (L.map fun x : Nat => .lit (.int .u64 (x : Int))), p)) (hn : L.length = n) :
    ∀ i, i < n → W.cell? ⟨g, i, none⟩ = some (w64 (L.getD i 0)) := by
  intro i hi
  obtain ⟨xs, m, rfl, hx, _, hxn, hel⟩ := DataW.trod_array ht hd
  have h1 := hel i hi
  simp only [Prod.mk.injEq, DataW.agg.injEq] at hx
  have hxi : xs[i]? = some (xs[i]'(by omega)) := List.getElem?_eq_getElem (by omega)
  rw [hxi, cellsU64, Nat.mul_one] at h1
  obtain ⟨k, e1, e2, _⟩ := DataW.trod_int Tryd.underlying34 h1
  have h2 : (xs.map (·.1))[i]? = some (.lit (.int .u64 k)) := by rw [List.getElem?_map, hxi, e2]; rfl
  rw [← hx.1, List.getElem?_map] at h2
  have hLi : L[i]? = some (L[i]'(by omega)) := List.getElem?_eq_getElem (by omega)
  rw [hLi] at h2
  simp only [Option.map_some, Option.some.injEq, DataW.lit.injEq, Lit.int.injEq, true_and] at h2
  rw [World.var?_cell hg hv i, ← Array.getElem?_toList]
  have h3 : ((cs.toList.drop i).take 1)[0]? = some (.int .u64 k) := by rw [e1]; rfl
  rw [List.getElem?_take, if_pos (by decide), List.getElem?_drop, Nat.add_zero] at h3
  rw [h3, ← h2, List.getD_eq_getElem?_getD, hLi]
  rfl

theorem g_pr : Tryd.prog.globalNamed "imprimatur/field.prime" = some 4 := by kernel_rfl
theorem t_pr : (Tryd.prog.globals[4]?).map (·.type) = some 40 := by kernel_rfl
def w_pr : List Nat := [18446744073709551597, 18446744073709551615, 18446744073709551615, 9223372036854775807]
theorem a_pr (i : Nat) (h : i < 4) : w_pr.getD i 0 = wordN p25 i := by
  match i, h with
  | 0, _ | 1, _ | 2, _ | 3, _ => decide
theorem g_ro : Tryd.prog.globalNamed "imprimatur/field.rootOfMinusOne" = some 5 := by kernel_rfl
theorem t_ro : (Tryd.prog.globals[5]?).map (·.type) = some 40 := by kernel_rfl
def w_ro : List Nat := [14190309331451158704, 3405592160176694392, 3120150775007532967, 3135389899092516619]
theorem a_ro (i : Nat) (h : i < 4) : w_ro.getD i 0 = wordN i25 i := by
  match i, h with
  | 0, _ | 1, _ | 2, _ | 3, _ => decide
theorem g_dd : Tryd.prog.globalNamed "imprimatur/point.d" = some 0 := by kernel_rfl
theorem t_dd : (Tryd.prog.globals[0]?).map (·.type) = some 40 := by kernel_rfl
def w_dd : List Nat := [8496970652267935907, 31536524315187371, 10144147576115030168, 5909686906226998899]
theorem a_dd (i : Nat) (h : i < 4) : w_dd.getD i 0 = wordN dN i := by
  match i, h with
  | 0, _ | 1, _ | 2, _ | 3, _ => decide
theorem g_bx : Tryd.prog.globalNamed "imprimatur/point.baseX" = some 2 := by kernel_rfl
theorem t_bx : (Tryd.prog.globals[2]?).map (·.type) = some 40 := by kernel_rfl
def w_bx : List Nat := [14507833142362363162, 7578651490590762930, 13881468655802702940, 2407515759118799870]
theorem a_bx (i : Nat) (h : i < 4) : w_bx.getD i 0 = wordN bxN i := by
  match i, h with
  | 0, _ | 1, _ | 2, _ | 3, _ => decide
theorem g_by : Tryd.prog.globalNamed "imprimatur/point.baseY" = some 3 := by kernel_rfl
theorem t_by : (Tryd.prog.globals[3]?).map (·.type) = some 40 := by kernel_rfl
def w_by : List Nat := [7378697629483820632, 7378697629483820646, 7378697629483820646, 7378697629483820646]
theorem a_by (i : Nat) (h : i < 4) : w_by.getD i 0 = wordN byN i := by
  match i, h with
  | 0, _ | 1, _ | 2, _ | 3, _ => decide
theorem g_or : Tryd.prog.globalNamed "imprimatur/scalar.order" = some 8 := by kernel_rfl
theorem t_or : (Tryd.prog.globals[8]?).map (·.type) = some 36 := by kernel_rfl
def w_or : List Nat := [6346243789798364141, 1503914060200516822, 0, 1152921504606846976]
theorem a_or (i : Nat) (h : i < 4) : w_or.getD i 0 = wordN G.l25 i := by
  match i, h with
  | 0, _ | 1, _ | 2, _ | 3, _ => decide
abbrev laidP : List (String × DataW Unit) := [("imprimatur/field.prime", Rows.laid_imprimatur_field_prime), ("imprimatur/point.d", Rows.laid_imprimatur_point_d), ("imprimatur/point.baseX", Rows.laid_imprimatur_point_baseX), ("imprimatur/point.baseY", Rows.laid_imprimatur_point_baseY)]
theorem tabP_of_laid {W : World} (h : laidMetH Tryd.prog laidP W) : PtTab W := by
  rw [MakeChecks.laidMetH_plain _ _ _ (by kernel_rfl)] at h
  obtain ⟨ps, ⟨g0, t0, cs0, f0, p0, q0, hg0, ht0, hv0, hd0, ⟨g1, t1, cs1, f1, p1, q1, hg1, ht1, hv1, hd1, ⟨g2, t2, cs2, f2, p2, q2, hg2, ht2, hv2, hd2, ⟨g3, t3, cs3, f3, p3, q3, hg3, ht3, hv3, hd3, _, _⟩, _⟩, _⟩, _⟩, _, _⟩ := h
  obtain rfl := Option.some.inj (g_pr.symm.trans hg0)
  obtain rfl := Option.some.inj (g_dd.symm.trans hg1)
  obtain rfl := Option.some.inj (g_bx.symm.trans hg2)
  obtain rfl := Option.some.inj (g_by.symm.trans hg3)
  obtain rfl := Option.some.inj (t_pr.symm.trans ht0)
  obtain rfl := Option.some.inj (t_dd.symm.trans ht1)
  obtain rfl := Option.some.inj (t_bx.symm.trans ht2)
  obtain rfl := Option.some.inj (t_by.symm.trans ht3)
  have c_pr : VarN 4 p25 W := fun i hi => by rw [← a_pr i hi]; exact arr_cells w_pr g_pr Tryd.underlying40 hv0 hd0 rfl i hi
  have c_dd : VarN 0 dN W := fun i hi => by rw [← a_dd i hi]; exact arr_cells w_dd g_dd Tryd.underlying40 hv1 hd1 rfl i hi
  have c_bx : VarN 2 bxN W := fun i hi => by rw [← a_bx i hi]; exact arr_cells w_bx g_bx Tryd.underlying40 hv2 hd2 rfl i hi
  have c_by : VarN 3 byN W := fun i hi => by rw [← a_by i hi]; exact arr_cells w_by g_by Tryd.underlying40 hv3 hd3 rfl i hi
  exact ⟨c_pr, c_dd, c_bx, c_by⟩
theorem door_metP (os : Os) (args : Array Value) : laidMetH Tryd.prog laidP ((World.doorLaid Tryd.prog 400 os).forCall (fun _ _ => 0) ⟨#[], args, []⟩).memory :=
  laidMetH_of_parts3 (fuel := 8) (laidMet_of_run' 8 (by kernel_rfl) (by kernel_rfl)) (by kernel_rfl) (by kernel_rfl)
abbrev laidR : List (String × DataW Unit) := [("imprimatur/field.rootOfMinusOne", Rows.laid_imprimatur_field_rootOfMinusOne), ("imprimatur/field.prime", Rows.laid_imprimatur_field_prime), ("imprimatur/point.d", Rows.laid_imprimatur_point_d), ("imprimatur/point.baseX", Rows.laid_imprimatur_point_baseX), ("imprimatur/point.baseY", Rows.laid_imprimatur_point_baseY)]
theorem tabR_of_laid {W : World} (h : laidMetH Tryd.prog laidR W) : PtTab2 W := by
  rw [MakeChecks.laidMetH_plain _ _ _ (by kernel_rfl)] at h
  obtain ⟨ps, ⟨g0, t0, cs0, f0, p0, q0, hg0, ht0, hv0, hd0, ⟨g1, t1, cs1, f1, p1, q1, hg1, ht1, hv1, hd1, ⟨g2, t2, cs2, f2, p2, q2, hg2, ht2, hv2, hd2, ⟨g3, t3, cs3, f3, p3, q3, hg3, ht3, hv3, hd3, ⟨g4, t4, cs4, f4, p4, q4, hg4, ht4, hv4, hd4, _, _⟩, _⟩, _⟩, _⟩, _⟩, _, _⟩ := h
  obtain rfl := Option.some.inj (g_ro.symm.trans hg0)
  obtain rfl := Option.some.inj (g_pr.symm.trans hg1)
  obtain rfl := Option.some.inj (g_dd.symm.trans hg2)
  obtain rfl := Option.some.inj (g_bx.symm.trans hg3)
  obtain rfl := Option.some.inj (g_by.symm.trans hg4)
  obtain rfl := Option.some.inj (t_ro.symm.trans ht0)
  obtain rfl := Option.some.inj (t_pr.symm.trans ht1)
  obtain rfl := Option.some.inj (t_dd.symm.trans ht2)
  obtain rfl := Option.some.inj (t_bx.symm.trans ht3)
  obtain rfl := Option.some.inj (t_by.symm.trans ht4)
  have c_ro : VarN 5 i25 W := fun i hi => by rw [← a_ro i hi]; exact arr_cells w_ro g_ro Tryd.underlying40 hv0 hd0 rfl i hi
  have c_pr : VarN 4 p25 W := fun i hi => by rw [← a_pr i hi]; exact arr_cells w_pr g_pr Tryd.underlying40 hv1 hd1 rfl i hi
  have c_dd : VarN 0 dN W := fun i hi => by rw [← a_dd i hi]; exact arr_cells w_dd g_dd Tryd.underlying40 hv2 hd2 rfl i hi
  have c_bx : VarN 2 bxN W := fun i hi => by rw [← a_bx i hi]; exact arr_cells w_bx g_bx Tryd.underlying40 hv3 hd3 rfl i hi
  have c_by : VarN 3 byN W := fun i hi => by rw [← a_by i hi]; exact arr_cells w_by g_by Tryd.underlying40 hv4 hd4 rfl i hi
  exact ⟨⟨c_pr, c_dd, c_bx, c_by⟩, c_ro⟩
theorem door_metR (os : Os) (args : Array Value) : laidMetH Tryd.prog laidR ((World.doorLaid Tryd.prog 400 os).forCall (fun _ _ => 0) ⟨#[], args, []⟩).memory :=
  laidMetH_of_parts3 (fuel := 8) (laidMet_of_run' 8 (by kernel_rfl) (by kernel_rfl)) (by kernel_rfl) (by kernel_rfl)
abbrev laidO : List (String × DataW Unit) := [("imprimatur/field.prime", Rows.laid_imprimatur_field_prime), ("imprimatur/point.d", Rows.laid_imprimatur_point_d), ("imprimatur/point.baseX", Rows.laid_imprimatur_point_baseX), ("imprimatur/point.baseY", Rows.laid_imprimatur_point_baseY), ("imprimatur/scalar.order", Rows.laid_imprimatur_scalar_order)]
theorem tabO_of_laid {W : World} (h : laidMetH Tryd.prog laidO W) : PtTab W ∧ G.Tab W := by
  rw [MakeChecks.laidMetH_plain _ _ _ (by kernel_rfl)] at h
  obtain ⟨ps, ⟨g0, t0, cs0, f0, p0, q0, hg0, ht0, hv0, hd0, ⟨g1, t1, cs1, f1, p1, q1, hg1, ht1, hv1, hd1, ⟨g2, t2, cs2, f2, p2, q2, hg2, ht2, hv2, hd2, ⟨g3, t3, cs3, f3, p3, q3, hg3, ht3, hv3, hd3, ⟨g4, t4, cs4, f4, p4, q4, hg4, ht4, hv4, hd4, _, _⟩, _⟩, _⟩, _⟩, _⟩, _, _⟩ := h
  obtain rfl := Option.some.inj (g_pr.symm.trans hg0)
  obtain rfl := Option.some.inj (g_dd.symm.trans hg1)
  obtain rfl := Option.some.inj (g_bx.symm.trans hg2)
  obtain rfl := Option.some.inj (g_by.symm.trans hg3)
  obtain rfl := Option.some.inj (g_or.symm.trans hg4)
  obtain rfl := Option.some.inj (t_pr.symm.trans ht0)
  obtain rfl := Option.some.inj (t_dd.symm.trans ht1)
  obtain rfl := Option.some.inj (t_bx.symm.trans ht2)
  obtain rfl := Option.some.inj (t_by.symm.trans ht3)
  obtain rfl := Option.some.inj (t_or.symm.trans ht4)
  have c_pr : VarN 4 p25 W := fun i hi => by rw [← a_pr i hi]; exact arr_cells w_pr g_pr Tryd.underlying40 hv0 hd0 rfl i hi
  have c_dd : VarN 0 dN W := fun i hi => by rw [← a_dd i hi]; exact arr_cells w_dd g_dd Tryd.underlying40 hv1 hd1 rfl i hi
  have c_bx : VarN 2 bxN W := fun i hi => by rw [← a_bx i hi]; exact arr_cells w_bx g_bx Tryd.underlying40 hv2 hd2 rfl i hi
  have c_by : VarN 3 byN W := fun i hi => by rw [← a_by i hi]; exact arr_cells w_by g_by Tryd.underlying40 hv3 hd3 rfl i hi
  have c_or : VarN 8 G.l25 W := fun i hi => by rw [← a_or i hi]; exact arr_cells w_or g_or Tryd.underlying36 hv4 hd4 rfl i hi
  exact ⟨⟨c_pr, c_dd, c_bx, c_by⟩, c_or⟩
theorem door_metO (os : Os) (args : Array Value) : laidMetH Tryd.prog laidO ((World.doorLaid Tryd.prog 400 os).forCall (fun _ _ => 0) ⟨#[], args, []⟩).memory :=
  laidMetH_of_parts3 (fuel := 8) (laidMet_of_run' 8 (by kernel_rfl) (by kernel_rfl)) (by kernel_rfl) (by kernel_rfl)
end Go.Proofs.YtgefhfcmiefocaaDoor.C

/- What the listed variables give: the two tables hold their constants; and a start that meets it. -/
namespace Go.Proofs.YtgefhfcmiefocaaDoor.T
open Go.ChangeShapes Go.WideShapes Go.ChangeAt Go.RowKit

theorem rowOwn : ownKnob Tryd.prog.godebug = none := by kernel_rfl
theorem rowLaid : laidOutB Tryd.prog = true := by kernel_rfl

/-- the list that every row lists -/
abbrev laidL : List (String × DataW Unit) := [("imprimatur/sha512.squareRoots", Rows.laid_imprimatur_sha512_squareRoots), ("imprimatur/sha512.cubeRoots", Rows.laid_imprimatur_sha512_cubeRoots)]

theorem cells25 : Tryd.prog.cellsOf 34 = 1 := by kernel_rfl
theorem arr_cells {W : World} {name : String} {g t n fuel : Nat} {cs : Array Value} {p : List MemPlace} (L : List Nat) (hg : Tryd.prog.globalNamed name = some g) (ht : Tryd.prog.underlying t = some (.array n 34)) (hv : W.var? Tryd.prog name = some cs)
    (hd : DataW.trod (fun _ => ()) Tryd.prog W 0 (fun _ => true) false fuel t cs.toList = some (.agg (L.map fun x : Nat => .lit (.int .u64 (x : Int))), p)) (hn : L.length = n) :
    ∀ i, i < n → W.cell? ⟨g, i, none⟩ = some (w64 (L.getD i 0)) := by
  intro i hi
  obtain ⟨xs, m, rfl, hx, _, hxn, hel⟩ := DataW.trod_array ht hd
  have h1 := hel i hi
  simp only [Prod.mk.injEq, DataW.agg.injEq] at hx
  have hxi : xs[i]? = some (xs[i]'(by omega)) := List.getElem?_eq_getElem (by omega)
  rw [hxi, cells25, Nat.mul_one] at h1
  obtain ⟨k, e1, e2, _⟩ := DataW.trod_int Tryd.underlying34 h1
  have h2 : (xs.map (·.1))[i]? = some (.lit (.int .u64 k)) := by rw [List.getElem?_map, hxi, e2]; rfl
  rw [← hx.1, List.getElem?_map] at h2
  have hLi : L[i]? = some (L[i]'(by omega)) := List.getElem?_eq_getElem (by omega)
  rw [hLi] at h2
  simp only [Option.map_some, Option.some.injEq, DataW.lit.injEq, Lit.int.injEq, true_and] at h2
  rw [World.var?_cell hg hv i, ← Array.getElem?_toList]
  have h3 : ((cs.toList.drop i).take 1)[0]? = some (.int .u64 k) := by rw [e1]; rfl
  rw [List.getElem?_take, if_pos (by decide), List.getElem?_drop, Nat.add_zero] at h3
  rw [h3, ← h2, List.getD_eq_getElem?_getD, hLi]
  rfl

theorem gSq : Tryd.prog.globalNamed "imprimatur/sha512.squareRoots" = some 1 := by kernel_rfl
theorem gCu : Tryd.prog.globalNamed "imprimatur/sha512.cubeRoots" = some 7 := by kernel_rfl
theorem tSq : (Tryd.prog.globals[1]?).map (·.type) = some 72 := by kernel_rfl
theorem tCu : (Tryd.prog.globals[7]?).map (·.type) = some 131 := by kernel_rfl
def sq : List Nat := [h0.a, h0.b, h0.c, h0.d, h0.e, h0.f, h0.g, h0.h]
theorem sq_at (i : Nat) (h : i < 8) : sq.getD i 0 = h0.at i := by
  match i, h with
  | 0, _ | 1, _ | 2, _ | 3, _ | 4, _ | 5, _ | 6, _ | 7, _ => rfl

theorem tab_of_laid {W : World} (h : laidMetH Tryd.prog laidL W) : Tab W := by
  rw [MakeChecks.laidMetH_plain _ _ _ (by kernel_rfl)] at h
  obtain ⟨ps, ⟨g0, t0, cs0, f0, p0, q0, hg0, ht0, hv0, hd0, ⟨g1, t1, cs1, f1, p1, q1, hg1, ht1, hv1, hd1, _, _⟩, _⟩, _, _⟩ := h
  obtain rfl := Option.some.inj (gSq.symm.trans hg0)
  obtain rfl := Option.some.inj (gCu.symm.trans hg1)
  obtain rfl := Option.some.inj (tSq.symm.trans ht0)
  obtain rfl := Option.some.inj (tCu.symm.trans ht1)
  have c0 := arr_cells sq gSq Tryd.underlying72 hv0 hd0 rfl
  have c1 := arr_cells ks gCu Tryd.underlying131 hv1 hd1 rfl
  exact ⟨fun i hi => by rw [← sq_at i hi]; exact c0 i hi, c1⟩

/-- the door's own heap meets the condition -/
theorem door_met (os : Os) (args : Array Value) : laidMetH Tryd.prog laidL ((World.doorLaid Tryd.prog 400 os).forCall (fun _ _ => 0) ⟨#[], args, []⟩).memory :=
  laidMetH_of_parts3 (fuel := 8) (laidMet_of_run' 8 (by kernel_rfl) (by kernel_rfl)) (by kernel_rfl) (by kernel_rfl)
end Go.Proofs.YtgefhfcmiefocaaDoor.T

/- What the listed variables give; and a start that meets it. -/
namespace Go.Proofs.YtgefhfcmiefocaaDoor.E
open Go.Proofs.YtgefhfcmiefocaaDoor.F Go.Proofs.YtgefhfcmiefocaaDoor.C
set_option maxRecDepth 100000
open Go.ChangeShapes Go.WideShapes Go.ChangeAt Go.RowKit

theorem nat_of_u8 {k : Int} (h : (Lit.int .u8 k).wf = true) : ∃ x : Nat, k = (x : Int) ∧ x < 256 := by
  have := bounds_u8 h
  exact ⟨k.toNat, by omega, by omega⟩
abbrev laidR : List (String × DataW Unit) := [("imprimatur/field.rootOfMinusOne", Rows.laid_imprimatur_field_rootOfMinusOne), ("imprimatur/field.prime", Rows.laid_imprimatur_field_prime), ("imprimatur/point.d", Rows.laid_imprimatur_point_d), ("imprimatur/point.baseX", Rows.laid_imprimatur_point_baseX), ("imprimatur/point.baseY", Rows.laid_imprimatur_point_baseY), ("imprimatur/scalar.order", Rows.laid_imprimatur_scalar_order), ("imprimatur/sha512.squareRoots", Rows.laid_imprimatur_sha512_squareRoots), ("imprimatur/sha512.cubeRoots", Rows.laid_imprimatur_sha512_cubeRoots)]
theorem tabR_of_laid {W : World} (h : laidMetH Tryd.prog laidR W) : EdTab2 W := by
  rw [MakeChecks.laidMetH_plain _ _ _ (by kernel_rfl)] at h
  obtain ⟨ps, ⟨g0, t0, cs0, f0, p0, q0, hg0, ht0, hv0, hd0, ⟨g1, t1, cs1, f1, p1, q1, hg1, ht1, hv1, hd1, ⟨g2, t2, cs2, f2, p2, q2, hg2, ht2, hv2, hd2, ⟨g3, t3, cs3, f3, p3, q3, hg3, ht3, hv3, hd3, ⟨g4, t4, cs4, f4, p4, q4, hg4, ht4, hv4, hd4, ⟨g5, t5, cs5, f5, p5, q5, hg5, ht5, hv5, hd5, ⟨g6, t6, cs6, f6, p6, q6, hg6, ht6, hv6, hd6, ⟨g7, t7, cs7, f7, p7, q7, hg7, ht7, hv7, hd7, _, _⟩, _⟩, _⟩, _⟩, _⟩, _⟩, _⟩, _⟩, _, _⟩ := h
  obtain rfl := Option.some.inj (C.g_ro.symm.trans hg0)
  obtain rfl := Option.some.inj (C.g_pr.symm.trans hg1)
  obtain rfl := Option.some.inj (C.g_dd.symm.trans hg2)
  obtain rfl := Option.some.inj (C.g_bx.symm.trans hg3)
  obtain rfl := Option.some.inj (C.g_by.symm.trans hg4)
  obtain rfl := Option.some.inj (C.g_or.symm.trans hg5)
  obtain rfl := Option.some.inj (T.gSq.symm.trans hg6)
  obtain rfl := Option.some.inj (T.gCu.symm.trans hg7)
  obtain rfl := Option.some.inj (C.t_ro.symm.trans ht0)
  obtain rfl := Option.some.inj (C.t_pr.symm.trans ht1)
  obtain rfl := Option.some.inj (C.t_dd.symm.trans ht2)
  obtain rfl := Option.some.inj (C.t_bx.symm.trans ht3)
  obtain rfl := Option.some.inj (C.t_by.symm.trans ht4)
  obtain rfl := Option.some.inj (C.t_or.symm.trans ht5)
  obtain rfl := Option.some.inj (T.tSq.symm.trans ht6)
  obtain rfl := Option.some.inj (T.tCu.symm.trans ht7)
  have c_ro : VarN 5 i25 W := fun i hi => by rw [← C.a_ro i hi]; exact C.arr_cells C.w_ro C.g_ro Tryd.underlying40 hv0 hd0 rfl i hi
  have c_pr : VarN 4 p25 W := fun i hi => by rw [← C.a_pr i hi]; exact C.arr_cells C.w_pr C.g_pr Tryd.underlying40 hv1 hd1 rfl i hi
  have c_dd : VarN 0 dN W := fun i hi => by rw [← C.a_dd i hi]; exact C.arr_cells C.w_dd C.g_dd Tryd.underlying40 hv2 hd2 rfl i hi
  have c_bx : VarN 2 bxN W := fun i hi => by rw [← C.a_bx i hi]; exact C.arr_cells C.w_bx C.g_bx Tryd.underlying40 hv3 hd3 rfl i hi
  have c_by : VarN 3 byN W := fun i hi => by rw [← C.a_by i hi]; exact C.arr_cells C.w_by C.g_by Tryd.underlying40 hv4 hd4 rfl i hi
  have c_or : VarN 8 G.l25 W := fun i hi => by rw [← C.a_or i hi]; exact C.arr_cells C.w_or C.g_or Tryd.underlying36 hv5 hd5 rfl i hi
  have c_sq := T.arr_cells T.sq T.gSq Tryd.underlying72 hv6 hd6 rfl
  have c_cu := T.arr_cells T.ks T.gCu Tryd.underlying131 hv7 hd7 rfl
  exact ⟨⟨⟨fun i hi => by rw [← T.sq_at i hi]; exact c_sq i hi, c_cu⟩, c_or, ⟨c_pr, c_dd, c_bx, c_by⟩⟩, c_ro⟩
theorem door_metR (os : Os) (args : Array Value) : laidMetH Tryd.prog laidR ((World.doorLaid Tryd.prog 400 os).forCall (fun _ _ => 0) ⟨#[], args, []⟩).memory :=
  laidMetH_of_parts3 (fuel := 8) (laidMet_of_run' 8 (by kernel_rfl) (by kernel_rfl)) (by kernel_rfl) (by kernel_rfl)
abbrev laidP : List (String × DataW Unit) := [("imprimatur/field.prime", Rows.laid_imprimatur_field_prime), ("imprimatur/point.d", Rows.laid_imprimatur_point_d), ("imprimatur/point.baseX", Rows.laid_imprimatur_point_baseX), ("imprimatur/point.baseY", Rows.laid_imprimatur_point_baseY), ("imprimatur/scalar.order", Rows.laid_imprimatur_scalar_order), ("imprimatur/sha512.squareRoots", Rows.laid_imprimatur_sha512_squareRoots), ("imprimatur/sha512.cubeRoots", Rows.laid_imprimatur_sha512_cubeRoots)]
theorem tabP_of_laid {W : World} (h : laidMetH Tryd.prog laidP W) : EdTab W := by
  rw [MakeChecks.laidMetH_plain _ _ _ (by kernel_rfl)] at h
  obtain ⟨ps, ⟨g0, t0, cs0, f0, p0, q0, hg0, ht0, hv0, hd0, ⟨g1, t1, cs1, f1, p1, q1, hg1, ht1, hv1, hd1, ⟨g2, t2, cs2, f2, p2, q2, hg2, ht2, hv2, hd2, ⟨g3, t3, cs3, f3, p3, q3, hg3, ht3, hv3, hd3, ⟨g4, t4, cs4, f4, p4, q4, hg4, ht4, hv4, hd4, ⟨g5, t5, cs5, f5, p5, q5, hg5, ht5, hv5, hd5, ⟨g6, t6, cs6, f6, p6, q6, hg6, ht6, hv6, hd6, _, _⟩, _⟩, _⟩, _⟩, _⟩, _⟩, _⟩, _, _⟩ := h
  obtain rfl := Option.some.inj (C.g_pr.symm.trans hg0)
  obtain rfl := Option.some.inj (C.g_dd.symm.trans hg1)
  obtain rfl := Option.some.inj (C.g_bx.symm.trans hg2)
  obtain rfl := Option.some.inj (C.g_by.symm.trans hg3)
  obtain rfl := Option.some.inj (C.g_or.symm.trans hg4)
  obtain rfl := Option.some.inj (T.gSq.symm.trans hg5)
  obtain rfl := Option.some.inj (T.gCu.symm.trans hg6)
  obtain rfl := Option.some.inj (C.t_pr.symm.trans ht0)
  obtain rfl := Option.some.inj (C.t_dd.symm.trans ht1)
  obtain rfl := Option.some.inj (C.t_bx.symm.trans ht2)
  obtain rfl := Option.some.inj (C.t_by.symm.trans ht3)
  obtain rfl := Option.some.inj (C.t_or.symm.trans ht4)
  obtain rfl := Option.some.inj (T.tSq.symm.trans ht5)
  obtain rfl := Option.some.inj (T.tCu.symm.trans ht6)
  have c_pr : VarN 4 p25 W := fun i hi => by rw [← C.a_pr i hi]; exact C.arr_cells C.w_pr C.g_pr Tryd.underlying40 hv0 hd0 rfl i hi
  have c_dd : VarN 0 dN W := fun i hi => by rw [← C.a_dd i hi]; exact C.arr_cells C.w_dd C.g_dd Tryd.underlying40 hv1 hd1 rfl i hi
  have c_bx : VarN 2 bxN W := fun i hi => by rw [← C.a_bx i hi]; exact C.arr_cells C.w_bx C.g_bx Tryd.underlying40 hv2 hd2 rfl i hi
  have c_by : VarN 3 byN W := fun i hi => by rw [← C.a_by i hi]; exact C.arr_cells C.w_by C.g_by Tryd.underlying40 hv3 hd3 rfl i hi
  have c_or : VarN 8 G.l25 W := fun i hi => by rw [← C.a_or i hi]; exact C.arr_cells C.w_or C.g_or Tryd.underlying36 hv4 hd4 rfl i hi
  have c_sq := T.arr_cells T.sq T.gSq Tryd.underlying72 hv5 hd5 rfl
  have c_cu := T.arr_cells T.ks T.gCu Tryd.underlying131 hv6 hd6 rfl
  exact ⟨⟨fun i hi => by rw [← T.sq_at i hi]; exact c_sq i hi, c_cu⟩, c_or, ⟨c_pr, c_dd, c_bx, c_by⟩⟩
theorem door_metP (os : Os) (args : Array Value) : laidMetH Tryd.prog laidP ((World.doorLaid Tryd.prog 400 os).forCall (fun _ _ => 0) ⟨#[], args, []⟩).memory :=
  laidMetH_of_parts3 (fuel := 8) (laidMet_of_run' 8 (by kernel_rfl) (by kernel_rfl)) (by kernel_rfl) (by kernel_rfl)
end Go.Proofs.YtgefhfcmiefocaaDoor.E

