/- Texts that stand on one another, put together: Hex, ShelfI, Unhex, ELaw, CSum, ERAdd, ERTimes, HBelow, TOwn, TDigits, TRefTimes, TRefRot, TRefRoot, TRootVals, TRefPrimes, TRefMix, TRefPlain, TRefRows. -/
import Derived.Test.YtgefhfcmiefocaaGreatDoorLot12
import Derived.BigQuiet
import Derived.Deep.AppendLies
import Derived.Deep.CutRange
import Derived.Deep.DrawnRows
import Derived.Deep.QuietTactic
import Derived.Deep.RegionLaw
import Derived.Deep.RegionWith
import Derived.Deep.WholeRow
import Derived.Laws.Bits64
import Derived.Shelf.Bits.Mul64
import Derived.Shelf.Small.Strs
import Derived.Shelf.Strings.Search1
import Derived.Test.YtgefhfcmiefocaaGreatDoorProg
/- The contracts of the calls that turn bytes into digits: octet's Hex and the reference's. -/
namespace Go.Proofs.YtgefhfcmiefocaaGreatDoor
open Go.RowKit
attribute [local go_sem ↓] Go.wp_at_zero Go.wp_at_succ

theorem low_all : ∀ n : Fin 256, bits BinOp.and IntKind.u8 (n.val : Int) 15 = ((n.val % 16 : Nat) : Int) := by decide +kernel
theorem low_nibble (c : UInt8) : 0 ≤ bits BinOp.and IntKind.u8 (c.toNat : Int) 15 ∧ bits BinOp.and IntKind.u8 (c.toNat : Int) 15 < 16 ∧ bits BinOp.and IntKind.u8 (c.toNat : Int) 15 = ((c.toNat % 16 : Nat) : Int) := by
  have h := low_all ⟨c.toNat, u8_lt c⟩
  simp only at h
  rw [h]
  omega

/-- the constant text of the sixteen digits -/
abbrev digB : ByteArray := { data := #[48, 49, 50, 51, 52, 53, 54, 55, 56, 57, 97, 98, 99, 100, 101, 102] }
theorem digB_all : ∀ n : Fin 16, digB[n.val]'n.isLt = dg n.val := by decide +kernel
theorem digB_at (i : Nat) (h : i < digB.size) : digB[i] = dg i := digB_all ⟨i, h⟩
theorem hex_row {w : World} {B : Nat} {v : Value} (s : ByteArray) (k : Nat) (hlt : k < s.size) (h1 : ((s[k].toNat : Int) / 16).toNat < digB.size) (h2 : (bits BinOp.and IntKind.u8 (s[k].toNat : Int) 15).toNat < digB.size)
    (hown : w.ownsRow B 5 1 v (2 * k + 2) (Lib.byteCells (hexL (s.data.toList.take k)) ++ #[Value.int .u8 (digB[((s[k].toNat : Int) / 16).toNat].toNat), Value.int .u8 (digB[(bits BinOp.and IntKind.u8 (s[k].toNat : Int) 15).toNat].toNat)].toList)) :
    w.ownsRow B 5 1 v (2 * (k + 1)) (Lib.byteCells (hexL (s.data.toList.take (k + 1)))) := by
  have e : ((s[k].toNat : Int) / 16).toNat = s[k].toNat / 16 := by omega
  have e' : (bits BinOp.and IntKind.u8 (s[k].toNat : Int) 15).toNat = s[k].toNat % 16 := by rw [(low_nibble s[k]).2.2]; rfl
  rw [digB_at _ h1, digB_at _ h2, e, e'] at hown
  rw [take_snoc s k hlt, hexL_append]
  rw [show 2 * (k + 1) = 2 * k + 2 by omega]
  simpa [hexL, Lib.byteCells] using hown

set_option maxRecDepth 100000 in
set_option maxHeartbeats 800000 in
theorem hex_any (s : ByteArray) (W : World) (hs : s.size ≤ 1000000) :
    Calls Tryz.prog 17 #[.string s] W fun e W' => e = .returned (.string ⟨(hexL s.data.toList).toArray⟩) ∧ Below W.heap.size W W' := by
  obtain ⟨i0, hi, hz0, hz1, hz2⟩ := info_parts info5
  go_enter Tryz.func17, Tryz.ntmps17
  go_wp2_with (at_make; refine wpList_make_own _ rfl _ _ 50 rfl W.heap.size 5 i0 (.int .u8 0) 1 Tryz.underlying50 hi hz0 hz1 _ _ _ (2 * s.size) rfl rfl (by omega) ?b2 ?b3 (Nat.le_refl _) ?_)
  case b2 => rw [hz2]; omega
  case b3 => unfold maxLen; omega
  intro w1 hown hgrow
  have hb1 := (Below.refl W.heap.size W).grown hgrow (Nat.le_refl _) (fun k hk => by cases hk)
  clear hgrow
  go_wp2_with fail
  go_loopw [3, 11] (fun o i wr => ∃ k : Nat, k ≤ s.size ∧ i = .int .i64 k ∧ wr.ownsRow W.heap.size 5 1 o (2 * k) (Lib.byteCells (hexL (s.data.toList.take k))) ∧ Below W.heap.size W wr) (fun _ i _ => s.size - (intOf i).toNat)
  case atStart => exact ⟨0, Nat.zero_le _, rfl, by simpa [hexL, Lib.byteCells] using hown, hb1⟩
  case round =>
    obtain ⟨k, hk, rfl, ho, hb⟩ := hrel
    by_cases hlt : k < s.size
    · have hi1 : (k : Int) < (s.size : Int) := by omega
      have hi0 : (0 : Int) ≤ (k : Int) := by omega
      have hc1 : (0 : Int) ≤ (s[k].toNat : Int) / 16 := by omega
      have hc2 : (s[k].toNat : Int) / 16 < 16 := by have := u8_lt s[k]; omega
      have hc3 := (low_nibble s[k]).1
      have hc4 := (low_nibble s[k]).2.1
      go_wp2_with fail
      go_region_law ((refine step_append_lies _ (by rfl) _ _ _ (by rfl) W.heap.size 5 i0 _ 1 1 Tryz.underlying50 hi hz0 hz1 hz2 rfl (by omega) u3 (2 * k) _ (by rfl) ((ho.alloc _).drew) ⟨wr.heap.size, 0, none⟩ 2 2 _ (by rfl) (by rfl) (World.news_of_block (t := 5) (fr := (0, 0)) (heap_alloc_new wr _)) (by simp [Value.oneCell']) (by omega) (by unfold maxLen; omega) (by omega) (by have := hb.size; simp; omega) (wr.heap.size + 1) (by simp) ?_; intro g cap w2 hown2 hgrow2 hat2 hlt2))
      all_goals
        go_wp2
        go_roundw
        case rel => exact ⟨k + 1, by omega, by go_num, hex_row s k hlt _ _ hown2, (hb.alloc hb.size _).drew.grown hgrow2 (by have := hb.size; simp; omega) (fun j hj => (ho.lt j hj).1)⟩
        case measure => simp [intOf]; omega
    · obtain rfl : k = s.size := by omega
      have hcv := str_own ho
      go_wp2
      go_ret
      exact ⟨ret1_of (val_str (by rw [List.take_of_length_le (by simp)])), hb⟩
end Go.Proofs.YtgefhfcmiefocaaGreatDoor

/- The library's own contracts laid at this program: one application each. -/
namespace Go.Proofs
open Go.Shelf
def Tryz.lays137_ren : Go.Shelf.Ren := ⟨fun | 137 => 80 | 217 => 118 | 266 => 138 | n => n, fun | 9 => 9 | 5 => 5 | 3 => 3 | n => n, fun | n => n⟩
theorem Tryz.lays137 : Go.Proofs.Lays.n137 Tryz.prog Tryz.lays137_ren := {
  mixed := by kernel_rfl
  f137 := Tryz.func80.trans (congrArg some (by kernel_rfl))
  f217 := Tryz.func118.trans (congrArg some (by kernel_rfl))
  f266 := Tryz.func138.trans (congrArg some (by kernel_rfl))
  t3 := Tryz.underlying3
  a3 := Tryz.isAgg3
  z3 := Tryz.sizeOf3
  v3 := Tryz.zeroValue3
  t5 := Tryz.underlying5
  a5 := Tryz.isAgg5
  z5 := Tryz.sizeOf5
  v5 := Tryz.zeroValue5
  t9 := Tryz.underlying9
  a9 := Tryz.isAgg9
  z9 := Tryz.sizeOf9
  v9 := Tryz.zeroValue9 }
open Go.RowKit in
theorem Tryz.strings_IndexByte (s : ByteArray) (c : Int) (w : World) :
    Calls Tryz.prog 80 #[.string s, .int .u8 c] w fun e w' => e = .returned (.int .i64 (Lib.indexByte s.data.toList c.toNat.toUInt8)) ∧ w' = w := Any.strings_IndexByte Tryz.lays137 s c w
end Go.Proofs

/- The contracts of the calls that turn digits into bytes: octet's Unhex and the reference's. -/
namespace Go.Proofs.YtgefhfcmiefocaaGreatDoor
open Go.RowKit

theorem idx_any (c : UInt8) (w : World) :
    Calls Tryz.prog 80 #[.string digB, .int .u8 c.toNat] w fun e w' => e = .returned (.int .i64 (dv c)) ∧ w' = w := by
  have h := Tryz.strings_IndexByte digB (c.toNat : Int) w
  have e : Lib.indexByte digB.data.toList ((c.toNat : Int)).toNat.toUInt8 = dv c := by rw [show ((c.toNat : Int)).toNat.toUInt8 = c by simp]; rfl
  rw [e] at h
  exact h

theorem or_nibbles : ∀ a b : Fin 16, bits BinOp.or IntKind.i64 ((a.val : Int) * 16) (b.val : Int) % 256 = (((16 * a.val + b.val).toUInt8).toNat : Int) := by decide +kernel
theorem or_dv (a b : Int) (ha : 0 ≤ a) (hb : 0 ≤ b) (ha' : a ≤ 15) (hb' : b ≤ 15) : bits BinOp.or IntKind.i64 (a * 16) b % 256 = (((16 * a.toNat + b.toNat).toUInt8).toNat : Int) := by
  have h := or_nibbles ⟨a.toNat, by omega⟩ ⟨b.toNat, by omega⟩
  simp only at h
  rw [show ((a.toNat : Nat) : Int) = a by omega, show ((b.toNat : Nat) : Int) = b by omega] at h
  exact h
theorem unhex_row {w : World} {B : Nat} {v : Value} {acc : List UInt8} {c d : UInt8} (hown : w.ownsRow B 5 1 v (acc.length + 1) (Lib.byteCells acc ++ #[Value.int .u8 (bits BinOp.or IntKind.i64 (dv c * 16) (dv d) % 256)].toList)) (hc : 0 ≤ dv c) (hd : 0 ≤ dv d) :
    w.ownsRow B 5 1 v (acc ++ [(16 * (dv c).toNat + (dv d).toNat).toUInt8]).length (Lib.byteCells (acc ++ [(16 * (dv c).toNat + (dv d).toNat).toUInt8])) := by
  rw [or_dv _ _ hc hd (dv_bounds c).2 (dv_bounds d).2] at hown
  rw [Lib.byteCells_append, List.length_append]
  exact hown

set_option maxHeartbeats 400000 in
theorem unhex_bad (s : ByteArray) (W : World) (m : Nat) (hm : 2 * m + 1 = s.size) :
    Calls Tryz.prog 44 #[.string s] W fun e W' => e = .returned (.tuple #[.string ByteArray.empty, .int .i64 4]) ∧ Below W.heap.size W W' := by
  have ho : ((s.size : Int) % 2 != 0) = true := by simp; omega
  go_enter Tryz.func44, Tryz.ntmps44
  go_wp2
  go_ret2
  exact ⟨rfl, Below.refl _ _⟩

set_option maxRecDepth 100000 in
set_option maxHeartbeats 800000 in
theorem unhex_even (s : ByteArray) (W : World) (hs : s.size ≤ 1000000) (m : Nat) (hm : 2 * m = s.size) :
    Calls Tryz.prog 44 #[.string s] W fun e W' => e = .returned (.tuple #[.string (unhexS s.data.toList), .int .i64 (unhexE s.data.toList)]) ∧ Below W.heap.size W W' := by
  obtain ⟨i0, hi, hz0, hz1, hz2⟩ := info_parts info5
  have ho : ((s.size : Int) % 2 != 0) = false := by simp; omega
  go_enter Tryz.func44, Tryz.ntmps44
  go_wp2_with (at_make; refine wpList_make_own _ rfl _ _ 50 rfl W.heap.size 5 i0 (.int .u8 0) 1 Tryz.underlying50 hi hz0 hz1 _ _ _ m rfl rfl (by omega) ?b2 ?b3 (Nat.le_refl _) ?_)
  case b2 => rw [hz2]; omega
  case b3 => unfold maxLen; omega
  intro w1 hown hgrow
  have hb1 := (Below.refl W.heap.size W).grown hgrow (Nat.le_refl _) (fun k hk => by cases hk)
  clear hgrow
  go_wp2_with fail
  go_loopw [4, 5] (fun o i wr => ∃ (k : Nat) (acc : List UInt8), k ≤ s.size ∧ i = .int .i64 k ∧ 2 * acc.length = k ∧ wr.ownsRow W.heap.size 5 1 o acc.length (Lib.byteCells acc) ∧ Reads s.data.toList acc k ∧ Below W.heap.size W wr) (fun _ i _ => s.size - (intOf i).toNat)
  case atStart => exact ⟨0, [], Nat.zero_le _, rfl, rfl, by simpa [Lib.byteCells] using hown, reads_zero _, hb1⟩
  case round =>
    obtain ⟨k, acc, hk, rfl, hka, ho, hrd, hb⟩ := hrel
    have HK := Lib.hid hka
    clear hka
    by_cases hlt : k < s.size
    · have hlt2 : k + 1 < s.size := by have := HK.out; omega
      have d1 := dv_bounds s[k]
      have d2 := dv_bounds s[k + 1]
      have e1 : (k : Int) + 1 < (s.size : Int) := by omega
      have e0 : (k : Int) < (s.size : Int) := by omega
      have e2 : (0 : Int) ≤ (k : Int) + 1 := by omega
      have e3 : ((k : Int) + 1).toNat = k + 1 := by omega
      have e4 : IntKind.i64.wrap ((k : Int) + 1) = (k : Int) + 1 := IntWalk.i64_in _ (by omega)
      go_wp2_with fail
      go_quiet ((go_at_call 80; exact Calls.quiet_of_same (idx_any _ _)))
      have hoq : (wr.drewN nq).ownsRow W.heap.size 5 1 u4 acc.length (Lib.byteCells acc) := ho
      have hbq : Below W.heap.size W (wr.drewN nq) := below_drewN hb nq
      clear ho hb
      generalize wr.drewN nq = w3 at hoq hbq ⊢
      have hB := hbq.size
      by_cases ha : 0 ≤ dv s[k]
      · by_cases hb' : 0 ≤ dv s[k + 1]
        · have hl : acc.length ≤ 1000000 := by have := HK.out; omega
          go_wp2_with (at_builtin; refine wpList_append_lies _ rfl _ _ 50 (by rfl) W.heap.size 5 i0 _ 1 1 Tryz.underlying50 hi hz0 hz1 hz2 rfl (by omega) u4 acc.length _ (by rfl) (hoq.alloc _) ⟨w3.heap.size, 0, none⟩ 1 1 _ (by rfl) (by rfl) (World.news_of_block (t := 5) (fr := (0, 0)) (heap_alloc_new w3 _)) (by simp [Value.oneCell']) (by omega) (by unfold maxLen; omega) (by omega) (by simp; omega) (w3.heap.size + 1) (by simp) ?_; intro g cap w2 hown2 hgrow2 hat2 hlt3)
          go_wp2
          go_roundw
          case rel => exact ⟨k + 2, _, by omega, by go_num, by simp; have := HK.out; omega, unhex_row hown2 ha hb', reads_step _ _ _ (by simpa using hlt2) hrd ha hb', (hbq.alloc hB _).grown hgrow2 (by simp; omega) (fun j hj => (hoq.lt j hj).1)⟩
          case measure => simp [intOf]; omega
        · have hn := reads_stop _ _ _ (by simpa using hlt2) hrd (fun h => hb' h.2)
          have h1 := Lib.hid (unhexS_none hn)
          have h2 := Lib.hid (unhexE_none hn)
          clear hn hrd
          go_wp2
          go_ret2
          exact ⟨by rw [h1.out, h2.out]; rfl, hbq⟩
      · have hn := reads_stop _ _ _ (by simpa using hlt2) hrd (fun h => ha h.1)
        have h1 := Lib.hid (unhexS_none hn)
        have h2 := Lib.hid (unhexE_none hn)
        clear hn hrd
        go_wp2
        go_ret2
        exact ⟨by rw [h1.out, h2.out]; rfl, hbq⟩
    · have hks : k = s.data.toList.length := by simp; omega
      rw [hks] at hrd
      have hn := reads_end _ _ hrd
      have h1 := Lib.hid (unhexS_some hn)
      have h2 := Lib.hid (unhexE_some hn)
      have hcv := str_own ho
      clear hn hrd hks
      go_wp2
      go_ret2
      exact ⟨by rw [h1.out, h2.out]; rfl, hb⟩

theorem unhex_any (s : ByteArray) (W : World) (hs : s.size ≤ 1000000) :
    Calls Tryz.prog 44 #[.string s] W fun e W' => e = .returned (.tuple #[.string (unhexS s.data.toList), .int .i64 (unhexE s.data.toList)]) ∧ Below W.heap.size W W' := by
  rcases Nat.mod_two_eq_zero_or_one s.size with h | h
  · exact unhex_even s W hs (s.size / 2) (by omega)
  · have hn := unhex_odd s.data.toList (s.size / 2) (by simp; omega)
    rw [unhexS_none hn, unhexE_none hn]
    exact unhex_bad s W (s.size / 2) (by omega)
end Go.Proofs.YtgefhfcmiefocaaGreatDoor

/- The statements' own calls: short, first, alive; what is signed is verified, and not with another number. -/
namespace Go.Proofs.YtgefhfcmiefocaaGreatDoor.E
open Go.RowKit Go.Sort Go.Proofs.YtgefhfcmiefocaaGreatDoor.F Go.Proofs.YtgefhfcmiefocaaGreatDoor.C
set_option maxRecDepth 100000

/-! ### short, first, alive -/
set_option maxHeartbeats 400000 in
theorem short_any (s : ByteArray) (W : World) : Calls Tryz.prog 5 #[.string s] W fun e w' => ∃ t : ByteArray, t.size ≤ 300 ∧ t = s.extract 0 (min (s.size : Int) 300).toNat ∧ e = .returned (.string t) ∧ Below W.heap.size W w' := by
  have hB := Below.refl W.heap.size W
  go_enter Tryz.func5, Tryz.ntmps5
  go_wp2_with fail
  go_ret
  exact ⟨_, by rw [ByteArray.size_extract]; omega, rfl, rfl, hB⟩
def firstHex : ByteArray := ⟨#[57, 100, 54, 49, 98, 49, 57, 100, 101, 102, 102, 100, 53, 97, 54, 48, 98, 97, 56, 52, 52, 97, 102, 52, 57, 50, 101, 99, 50, 99, 99, 52, 52, 52, 52, 57, 99, 53, 54, 57, 55, 98, 51, 50, 54, 57, 49, 57, 55, 48, 51, 98, 97, 99, 48, 51, 49, 99, 97, 101, 55, 102, 54, 48]⟩
theorem first_unhex : unhexL firstHex.data.toList = some firstL := by decide +kernel
def firstS : ByteArray := ⟨firstL.toArray⟩
theorem firstS_size : firstS.size = 32 := by decide
set_option maxHeartbeats 400000 in
theorem first_any (W : World) : Calls Tryz.prog 16 #[] W fun e w' => e = .returned (.string firstS) ∧ Below W.heap.size W w' := by
  have H := Lib.hid (fun w => unhex_any firstHex w (by decide))
  rw [unhexS_some first_unhex, unhexE_some first_unhex, show (⟨firstL.toArray⟩ : ByteArray) = firstS from rfl] at H
  unfold firstHex at H
  generalize firstS = f at *
  have hB := Below.refl W.heap.size W
  go_enter Tryz.func16, Tryz.ntmps16
  go_wp2_with (go_at_call 44; (with_reducible refine (H.out _).mono ?_); rintro e w1 ⟨rfl, hb⟩; replace hB := below_on hB hb; clear hb)
  go_ret
  exact ⟨rfl, hB⟩
theorem first_hex : hexL [215, 90, 152, 1] = [100, 55, 53, 97, 57, 56, 48, 49] := by decide +kernel
set_option maxHeartbeats 800000 in
theorem alive_any (A : Pts EdTab) (W : World) (hT : EdTab W) : Calls Tryz.prog 8 #[] W fun e w' => e = .returned (.bool true) ∧ Below W.heap.size W w' := by
  have HF := Lib.hid (fun w => first_any w)
  have HP := Lib.hid (fun w (hb : Below W.heap.size W w) => public_any A firstS (by decide) w (hT.on hb))
  rw [if_pos firstS_size, show firstS.data.toList = firstL from rfl, first_text] at HP
  have hsz : (firstT.size : Int) = 32 := by decide
  have h4 : firstT.extract 0 4 = ⟨[215, 90, 152, 1].toArray⟩ := by decide
  have HH := Lib.hid (fun w => hex_any ⟨[215, 90, 152, 1].toArray⟩ w (by decide))
  rw [show (⟨[215, 90, 152, 1].toArray⟩ : ByteArray).data.toList = [215, 90, 152, 1] from rfl, first_hex, ← h4] at HH
  have h5 : 4 ≤ firstT.size := by decide
  generalize firstT = k at *
  generalize firstS = s at *
  have hB := Below.refl W.heap.size W
  clear h4 hT
  go_enter Tryz.func8, Tryz.ntmps8
  go_wp2_with (first
    | (go_at_call 16; (with_reducible refine (HF.out _).mono ?_); rintro e w1 ⟨rfl, hb⟩; replace hB := below_on hB hb; clear hb)
    | (go_at_call 6; (with_reducible refine (HP.out _ hB).mono ?_); rintro e w2 ⟨rfl, hb⟩; replace hB := below_on hB hb; clear hb)
    | (go_at_call 17; (with_reducible refine (HH.out _).mono ?_); rintro e w3 ⟨rfl, hb⟩; replace hB := below_on hB hb; clear hb))
  go_ret
  exact ⟨rfl, hB⟩

/-! ### what is signed is verified -/
theorem key_text {P : Pt} (h : P.On) : keyB (textN P) = true ∧ keyQ (textN P) = P := by
  have hp := text_parts P
  have e1 : keyY (textN P) = P.y.val := hp.1
  have e2 : keyO (textN P) = decide (P.x.val % 2 = 1) := hp.2
  have hb : keyB (textN P) = true := by unfold keyB; rw [e1, e2]; exact parseB_on h
  refine ⟨hb, ?_⟩
  have h1 := key_pn hb
  rw [e1, e2] at h1
  exact h1.same (parseT_pn h)
section
variable (s m : ByteArray)
theorem seedT_size : (seedT s m).size = 64 := by
  unfold seedT signT
  rw [ByteArray.size_append, text_size]
  simp [ByteArray.size, leL_length]
theorem seedT_list : (seedT s m).data.toList = (signT s.data.toList m.data.toList).data.toList ++ leL (signS s.data.toList m.data.toList) 32 := by
  unfold seedT
  rw [T.list_append]
theorem seedT_take : (seedT s m).data.toList.take 32 = (signT s.data.toList m.data.toList).data.toList := by
  have h : (signT s.data.toList m.data.toList).data.toList.length = 32 := by rw [← Lib.size_eq]; exact text_size _
  rw [seedT_list, ← h, List.take_left']
  rfl
theorem seedT_drop : (seedT s m).data.toList.drop 32 = leL (signS s.data.toList m.data.toList) 32 := by
  have h : (signT s.data.toList m.data.toList).data.toList.length = 32 := by rw [← Lib.size_eq]; exact text_size _
  rw [seedT_list, List.drop_left' h]
theorem signS_lt (a b : List UInt8) : signS a b < l25 := Nat.mod_lt _ (by decide)
theorem sigN_own : sigN (seedT s m) = signS s.data.toList m.data.toList := by
  unfold sigN
  rw [seedT_drop, numLE_leL, Nat.mod_eq_of_lt (Nat.lt_trans (signS_lt _ _) (by decide))]
theorem text_back (x : ByteArray) (l : List UInt8) (h : x.data.toList = l) : x = ⟨l.toArray⟩ := by rw [← h, Lib.mk_data]
theorem key_on : (keyP s.data.toList).On := Pt.smul_on Bp_on _
theorem keyT_is : keyB (keyT s.data.toList) = true := (key_text (key_on s)).1
theorem own_point : (Bp.smul (signS s.data.toList m.data.toList)).add ((keyP s.data.toList).smul (signK s.data.toList m.data.toList)).neg = Bp.smul (signR s.data.toList m.data.toList) := by
  unfold signS keyP
  exact sign_point _ _ _
theorem sigK_of (x : ByteArray) (h : x.data.toList.take 32 = (signT s.data.toList m.data.toList).data.toList) : sigK (keyT s.data.toList) m x = signK s.data.toList m.data.toList := by
  unfold sigK signK
  rw [h]
theorem first_of (x : ByteArray) (h : x.data.toList.take 32 = (signT s.data.toList m.data.toList).data.toList) : x.extract 0 32 = signT s.data.toList m.data.toList := by
  rw [text_back (x.extract 0 32) _ (T.head_list x 32), h, Lib.mk_data]
theorem sigR_of (x : ByteArray) (h : x.data.toList.take 32 = (signT s.data.toList m.data.toList).data.toList) :
    sigR (keyT s.data.toList) m x = textN ((Bp.smul (sigN x)).add ((keyP s.data.toList).smul (signK s.data.toList m.data.toList)).neg) := by
  unfold sigR
  rw [sigK_of s m x h]
  unfold keyT
  rw [(key_text (key_on s)).2]
theorem verify_own : verifyE (keyT s.data.toList) m (seedT s m) = 0 := by
  unfold verifyE
  rw [if_pos ⟨text_size _, seedT_size s m⟩, if_pos (keyT_is s), sigN_own, if_pos (signS_lt _ _), if_pos]
  rw [sigR_of s m _ (seedT_take s m), sigN_own, own_point, first_of s m _ (seedT_take s m)]
  rfl
/-- one bit of the last 32 bytes is another one -/
theorem verify_other (i b : Nat) (hi : i < 32) (hb : b < 8) (x : UInt8) (hx : x.toNat = ((seedT s m).data.toList.getD (32 + i) 0).toNat ^^^ 2 ^ b) :
    verifyE (keyT s.data.toList) m ⟨((seedT s m).data.toList.set (32 + i) x).toArray⟩ = 12 ∨ verifyE (keyT s.data.toList) m ⟨((seedT s m).data.toList.set (32 + i) x).toArray⟩ = 11 := by
  obtain ⟨Y, hY⟩ : ∃ Y : ByteArray, (⟨((seedT s m).data.toList.set (32 + i) x).toArray⟩ : ByteArray) = Y := ⟨_, rfl⟩
  have hl : Y.data.toList = (seedT s m).data.toList.set (32 + i) x := by rw [← hY]
  have hYs : Y.size = 64 := by rw [Lib.size_eq, hl, List.length_set, ← Lib.size_eq, seedT_size]
  have hYt : Y.data.toList.take 32 = (signT s.data.toList m.data.toList).data.toList := by rw [hl, List.take_set_of_le (by omega), seedT_take]
  have hYd : Y.data.toList.drop 32 = (leL (signS s.data.toList m.data.toList) 32).set i x := by
    rw [hl, List.drop_set, if_neg (by omega), seedT_drop]
    congr 1
    omega
  have hg : (seedT s m).data.toList.getD (32 + i) 0 = (leL (signS s.data.toList m.data.toList) 32).getD i 0 := by
    rw [← seedT_drop s m, List.getD_eq_getElem?_getD, List.getD_eq_getElem?_getD, List.getElem?_drop]
  rw [hg] at hx
  have hf := flip_num (leL (signS s.data.toList m.data.toList) 32) i b (by rw [leL_length]; exact hi) hb x hx
  rw [numLE_leL, Nat.mod_eq_of_lt (Nat.lt_trans (signS_lt _ _) (by decide)), ← hYd, show numLE (Y.data.toList.drop 32) = sigN Y from rfl] at hf
  rw [hY]
  unfold verifyE
  rw [if_pos ⟨text_size _, hYs⟩, if_pos (keyT_is s)]
  by_cases hn : sigN Y < l25
  · rw [if_pos hn, if_neg]
    · exact .inl rfl
    · rw [sigR_of s m Y hYt, first_of s m Y hYt]
      intro e
      refine other_text (Pt.neg_on (Pt.smul_on (key_on s) (signK s.data.toList m.data.toList))) hf ?_
      rw [e, own_point]
      rfl
  · rw [if_neg hn]
    exact .inr rfl
end
end Go.Proofs.YtgefhfcmiefocaaGreatDoor.E

/- The contract of the reference's Sum. -/
namespace Go.Proofs.YtgefhfcmiefocaaGreatDoor.C
open Go.RowKit Go.Sort Go.Proofs.YtgefhfcmiefocaaGreatDoor.F
set_option maxRecDepth 100000

theorem sum_vals (P Q : Pt) : ((P.x.val * Q.y.val % p25 + Q.x.val * P.y.val % p25) % p25 * invN ((1 + dN * (P.x.val * Q.x.val % p25 * (P.y.val * Q.y.val % p25) % p25) % p25) % p25) % p25 = (P.add Q).x.val) ∧
    ((P.y.val * Q.y.val % p25 + P.x.val * Q.x.val % p25) % p25 * invN ((1 + (p25 - dN * (P.x.val * Q.x.val % p25 * (P.y.val * Q.y.val % p25) % p25) % p25 % p25)) % p25) % p25 = (P.add Q).y.val) := by
  unfold Pt.add Pt.k kk
  constructor
  · rw [← val_mod]
    congr 1
    simp only [z_mod, z_mul, z_add, z_inv, z_one, z_dN, z_back]
  · rw [← val_mod]
    congr 1
    simp only [z_mod, z_mul, z_add, z_neg, z_inv, z_one, z_dN, z_back, z_less]
attribute [local irreducible] feA

set_option maxHeartbeats 1600000 in
theorem refSum_any (P Q : Pt) (W : World) :
    Calls Tryz.prog 35 #[af P.x.val P.y.val, af Q.x.val Q.y.val] W fun e w' => e = .returned (af (P.add Q).x.val (P.add Q).y.val) ∧ Below W.heap.size W w' := by
  obtain ⟨hsx, hsy⟩ := sum_vals P Q
  have k1 := below_K P.x.isLt
  have k2 := below_K P.y.isLt
  have k3 := below_K Q.x.isLt
  have k4 := below_K Q.y.isLt
  generalize (P.add Q).x.val = sx at *
  generalize (P.add Q).y.val = sy at *
  generalize P.x.val = x1 at *
  generalize P.y.val = y1 at *
  generalize Q.x.val = x2 at *
  generalize Q.y.val = y2 at *
  have H1 := Lib.hid (fun w => refMul_any x1 y2 w k1 k4)
  have H2 := Lib.hid (fun w => refMul_any x2 y1 w k3 k2)
  have H3 := Lib.hid (fun w => refMul_any y1 y2 w k2 k4)
  have H4 := Lib.hid (fun w => refMul_any x1 x2 w k1 k3)
  have kxv := mod_K (x1 * y2)
  have kuy := mod_K (x2 * y1)
  have kyv := mod_K (y1 * y2)
  have kxu := mod_K (x1 * x2)
  generalize x1 * y2 % p25 = xv at *
  generalize x2 * y1 % p25 = uy at *
  generalize y1 * y2 % p25 = yv at *
  generalize x1 * x2 % p25 = xu at *
  have H5 := Lib.hid (fun w => refMul_any xu yv w kxu kyv)
  have kpr := mod_K (xu * yv)
  generalize xu * yv % p25 = pr at *
  have H6 := Lib.hid (fun w => refMul_any dN pr w (by decide) kpr)
  have kal := mod_K (dN * pr)
  generalize dN * pr % p25 = al at *
  have HD := Lib.hid (fun w => refD_any w)
  generalize dN = D at *
  have H7 := Lib.hid (fun w => refAdd_any xv uy w kxv kuy)
  have H8 := Lib.hid (fun w => refAdd_any 1 al w (by decide) kal)
  have H9 := Lib.hid (fun w => refAdd_any yv xu w kyv kxu)
  have H10 := Lib.hid (fun w => refSub_any 1 al w (by decide) kal)
  have ka := mod_K (xv + uy)
  have kb := mod_K (1 + al)
  have kc := mod_K (yv + xu)
  have kd := mod_K (1 + (p25 - al % p25))
  generalize (xv + uy) % p25 = na at *
  generalize (1 + al) % p25 = nb at *
  generalize (yv + xu) % p25 = nc at *
  generalize (1 + (p25 - al % p25)) % p25 = nd at *
  have H11 := Lib.hid (fun w => refInv_any nb w kb)
  have H12 := Lib.hid (fun w => refInv_any nd w kd)
  have H13 := Lib.hid (fun w => refMul_any na (invN nb) w ka (below_K (invN_lt _)))
  have H14 := Lib.hid (fun w => refMul_any nc (invN nd) w kc (below_K (invN_lt _)))
  rw [hsx] at H13
  rw [hsy] at H14
  generalize invN nb = ib at *
  generalize invN nd = id' at *
  clear hsx hsy k1 k2 k3 k4 kxv kuy kyv kxu kpr kal ka kb kc kd
  have hf1 : (.agg #[.int .u64 1, .int .u64 0, .int .u64 0, .int .u64 0] : Value) = fe 1 := fe_small 1 (by decide)
  have hf1A : (#[.int .u64 1, .int .u64 0, .int .u64 0, .int .u64 0] : Array Value) = feA 1 := by injection hf1
  have HF1 := Lib.hid hf1A
  clear hf1 hf1A
  go_enter Tryz.func35, Tryz.ntmps35
  have hp := ((Lies.new W 44 (afA x1 y1)).alloc (.cells (afA x2 y2) 44)).alloc (.cells af0A 44)
  have hq : Lies ((W.alloc (.cells (afA x1 y1) 44)).alloc (.cells (afA x2 y2) 44)) (W.heap.size + 1) 44 (afA x2 y2) := heap_alloc2_new W _ _
  replace hq := hq.alloc (.cells af0A 44)
  have hr := lies3 W (.cells (afA x1 y1) 44) (.cells (afA x2 y2) 44) 44 af0A
  have hB := (((Below.refl W.heap.size W).alloc (Nat.le_refl _) (.cells (afA x1 y1) 44)).alloc (by simp) (.cells (afA x2 y2) 44)).alloc (by simp; omega) (.cells af0A 44)
  go_upto_region 1 with fail
  generalize World.alloc (World.alloc (World.alloc W _) _) _ = w0 at *
  go_upto_region 2 with (first
    | ((with_reducible refine wpL_loadMid (W.heap.size) 0 (feA x1).toList 4 rowFe (by rw [Array.length_toList]; exact feA_size _) (af_X hp) ?_ ?_); rfl; rw [Array.toArray_toList])
    | ((with_reducible refine wpL_loadMid (W.heap.size + 1) 4 (feA y2).toList 4 rowFe (by rw [Array.length_toList]; exact feA_size _) (af_Y hq) ?_ ?_); rfl; rw [Array.toArray_toList])
    | (go_at_call 50; (with_reducible refine (H1.out _).mono ?_); rintro e u1 ⟨rfl, hb⟩; replace hp := hp.on hb; replace hq := hq.on hb; replace hr := hr.on hb; replace hB := below_on hB hb; clear hb)
    | ((with_reducible refine wpL_store u1.heap.size 42 _ (feA xv) 4 rowFe ?_ (feA_size _) (feA_one _) (Lies.new u1 _ _) ?_ ?_ ?_); rfl; rfl; rfl))
  have zxv := newly_lies u1 42 fe0A (feA xv)
  have hnw := newly u1 (.cells fe0A 42) (feA xv)
  replace hp := hp.on hnw
  replace hq := hq.on hnw
  replace hr := hr.on hnw
  replace hB := below_on hB hnw
  clear hnw
  generalize World.setRow _ _ _ = w1 at *
  generalize u1.heap.size = gzxv at *
  go_upto_region 3 with (first
    | ((with_reducible refine wpL_loadMid (W.heap.size + 1) 0 (feA x2).toList 4 rowFe (by rw [Array.length_toList]; exact feA_size _) (af_X hq) ?_ ?_); rfl; rw [Array.toArray_toList])
    | ((with_reducible refine wpL_loadMid (W.heap.size) 4 (feA y1).toList 4 rowFe (by rw [Array.length_toList]; exact feA_size _) (af_Y hp) ?_ ?_); rfl; rw [Array.toArray_toList])
    | (go_at_call 50; (with_reducible refine (H2.out _).mono ?_); rintro e u2 ⟨rfl, hb⟩; replace hp := hp.on hb; replace hq := hq.on hb; replace hr := hr.on hb; replace zxv := zxv.on hb; replace hB := below_on hB hb; clear hb)
    | ((with_reducible refine wpL_store u2.heap.size 42 _ (feA uy) 4 rowFe ?_ (feA_size _) (feA_one _) (Lies.new u2 _ _) ?_ ?_ ?_); rfl; rfl; rfl))
  have zuy := newly_lies u2 42 fe0A (feA uy)
  have hnw := newly u2 (.cells fe0A 42) (feA uy)
  replace hp := hp.on hnw
  replace hq := hq.on hnw
  replace hr := hr.on hnw
  replace zxv := zxv.on hnw
  replace hB := below_on hB hnw
  clear hnw
  generalize World.setRow _ _ _ = w2 at *
  generalize u2.heap.size = gzuy at *
  go_upto_region 4 with (first
    | ((with_reducible refine wpL_loadMid (W.heap.size) 4 (feA y1).toList 4 rowFe (by rw [Array.length_toList]; exact feA_size _) (af_Y hp) ?_ ?_); rfl; rw [Array.toArray_toList])
    | ((with_reducible refine wpL_loadMid (W.heap.size + 1) 4 (feA y2).toList 4 rowFe (by rw [Array.length_toList]; exact feA_size _) (af_Y hq) ?_ ?_); rfl; rw [Array.toArray_toList])
    | (go_at_call 50; (with_reducible refine (H3.out _).mono ?_); rintro e u3 ⟨rfl, hb⟩; replace hp := hp.on hb; replace hq := hq.on hb; replace hr := hr.on hb; replace zxv := zxv.on hb; replace zuy := zuy.on hb; replace hB := below_on hB hb; clear hb)
    | ((with_reducible refine wpL_store u3.heap.size 42 _ (feA yv) 4 rowFe ?_ (feA_size _) (feA_one _) (Lies.new u3 _ _) ?_ ?_ ?_); rfl; rfl; rfl))
  have zyv := newly_lies u3 42 fe0A (feA yv)
  have hnw := newly u3 (.cells fe0A 42) (feA yv)
  replace hp := hp.on hnw
  replace hq := hq.on hnw
  replace hr := hr.on hnw
  replace zxv := zxv.on hnw
  replace zuy := zuy.on hnw
  replace hB := below_on hB hnw
  clear hnw
  generalize World.setRow _ _ _ = w3 at *
  generalize u3.heap.size = gzyv at *
  go_upto_region 5 with (first
    | ((with_reducible refine wpL_loadMid (W.heap.size) 0 (feA x1).toList 4 rowFe (by rw [Array.length_toList]; exact feA_size _) (af_X hp) ?_ ?_); rfl; rw [Array.toArray_toList])
    | ((with_reducible refine wpL_loadMid (W.heap.size + 1) 0 (feA x2).toList 4 rowFe (by rw [Array.length_toList]; exact feA_size _) (af_X hq) ?_ ?_); rfl; rw [Array.toArray_toList])
    | (go_at_call 50; (with_reducible refine (H4.out _).mono ?_); rintro e u4 ⟨rfl, hb⟩; replace hp := hp.on hb; replace hq := hq.on hb; replace hr := hr.on hb; replace zxv := zxv.on hb; replace zuy := zuy.on hb; replace zyv := zyv.on hb; replace hB := below_on hB hb; clear hb)
    | ((with_reducible refine wpL_store u4.heap.size 42 _ (feA xu) 4 rowFe ?_ (feA_size _) (feA_one _) (Lies.new u4 _ _) ?_ ?_ ?_); rfl; rfl; rfl))
  have zxu := newly_lies u4 42 fe0A (feA xu)
  have hnw := newly u4 (.cells fe0A 42) (feA xu)
  replace hp := hp.on hnw
  replace hq := hq.on hnw
  replace hr := hr.on hnw
  replace zxv := zxv.on hnw
  replace zuy := zuy.on hnw
  replace zyv := zyv.on hnw
  replace hB := below_on hB hnw
  clear hnw
  generalize World.setRow _ _ _ = w4 at *
  generalize u4.heap.size = gzxu at *
  refine wp_region_made 5 9 _ 42 fe0A rfl rfl (by kernel_rfl) (by kernel_rfl) (alloc_fe rfl) ?_
  simp only [List.take_succ_cons, List.take_zero, List.drop_succ_cons, List.drop_zero]
  refine wpQB_call 46 #[] (fe D) rfl rfl (fun _ => by kernel_rfl) (fun w _ => HD.out w) ?_
  simp only [Act.put, List.setIfInBounds_toArray, List.set_cons_succ, List.set_cons_zero]
  refine wpQB_fe (gzxu) xu zxu rfl ?_
  simp only [Act.put, List.setIfInBounds_toArray, List.set_cons_succ, List.set_cons_zero]
  refine wpQB_fe (gzyv) yv zyv rfl ?_
  simp only [Act.put, List.setIfInBounds_toArray, List.set_cons_succ, List.set_cons_zero]
  refine wpQB_call 50 #[fe xu, fe yv] (fe pr) rfl rfl (fun _ => by kernel_rfl) (fun w _ => H5.out w) ?_
  simp only [Act.put, List.setIfInBounds_toArray, List.set_cons_succ, List.set_cons_zero]
  refine wpQB_call 50 #[fe D, fe pr] (fe al) rfl rfl (fun _ => by kernel_rfl) (fun w _ => H6.out w) ?_
  simp only [Act.put, List.setIfInBounds_toArray, List.set_cons_succ, List.set_cons_zero]
  refine wpQB_nil ?_
  intro k w5 hb hk hy3
  simp only [List.setIfInBounds_toArray, List.set_cons_succ, List.set_cons_zero]
  replace hy3 : Lies w5 k 42 fe0A := hy3
  have lhr := hr.lt
  have lzxv := zxv.lt
  have lzuy := zuy.lt
  have lzyv := zyv.lt
  have lzxu := zxu.lt
  replace hr := (hr.on hb).rowFar (show W.heap.size + 2 ≠ k by omega) (feA al)
  replace zxv := (zxv.on hb).rowFar (show gzxv ≠ k by omega) (feA al)
  replace zuy := (zuy.on hb).rowFar (show gzuy ≠ k by omega) (feA al)
  replace zyv := (zyv.on hb).rowFar (show gzyv ≠ k by omega) (feA al)
  replace zxu := (zxu.on hb).rowFar (show gzxu ≠ k by omega) (feA al)
  have lhB := hB.size
  replace hB := below_rowSet (below_on hB hb) (show W.heap.size ≤ k by omega) (feA al)
  have zal := hy3.row (feA al)
  clear hb hp hq lhr lzxv lzuy lzyv lzxu lhB
  go_upto_region 6 with ((with_reducible refine wpL_store k 42 _ (feA al) 4 rowFe rfl (feA_size _) (feA_one _) hy3 ?_ ?_ ?_); rfl; rfl)
  clear hy3
  generalize World.setRow _ _ _ = w6 at *
  have zon := newly_lies w6 42 fe0A #[.int .u64 1, .int .u64 0, .int .u64 0, .int .u64 0]
  have hnw := newly w6 (.cells fe0A 42) #[.int .u64 1, .int .u64 0, .int .u64 0, .int .u64 0]
  replace hr := hr.on hnw
  replace zxv := zxv.on hnw
  replace zuy := zuy.on hnw
  replace zyv := zyv.on hnw
  replace zxu := zxu.on hnw
  replace zal := zal.on hnw
  replace hB := below_on hB hnw
  clear hnw
  go_upto_region 7 with ((with_reducible refine wpL_store w6.heap.size 42 _ #[.int .u64 1, .int .u64 0, .int .u64 0, .int .u64 0] 4 rowFe ?_ rfl (by unfold Ones; simp [Value.oneCell']) (Lies.new w6 _ _) ?_ ?_ ?_); rfl; rfl; rfl)
  generalize World.setRow _ _ _ = w7 at *
  generalize w6.heap.size = gzon at *
  rw [HF1.out] at zon
  refine wp_region_plain 17 (by kernel_rfl) (by kernel_rfl) ?_
  simp only [List.take_succ_cons, List.take_zero, List.drop_succ_cons, List.drop_zero]
  refine wpQB_fe (gzxv) xv zxv rfl ?_
  simp only [Act.put, List.setIfInBounds_toArray, List.set_cons_succ, List.set_cons_zero]
  refine wpQB_fe (gzuy) uy zuy rfl ?_
  simp only [Act.put, List.setIfInBounds_toArray, List.set_cons_succ, List.set_cons_zero]
  refine wpQB_call 70 #[fe xv, fe uy] (fe na) rfl rfl (fun _ => by kernel_rfl) (fun w _ => H7.out w) ?_
  simp only [Act.put, List.setIfInBounds_toArray, List.set_cons_succ, List.set_cons_zero]
  refine wpQB_fe (gzon) 1 zon rfl ?_
  simp only [Act.put, List.setIfInBounds_toArray, List.set_cons_succ, List.set_cons_zero]
  refine wpQB_fe (k) al zal rfl ?_
  simp only [Act.put, List.setIfInBounds_toArray, List.set_cons_succ, List.set_cons_zero]
  refine wpQB_call 70 #[fe 1, fe al] (fe nb) rfl rfl (fun _ => by kernel_rfl) (fun w _ => H8.out w) ?_
  simp only [Act.put, List.setIfInBounds_toArray, List.set_cons_succ, List.set_cons_zero]
  refine wpQB_call 49 #[fe nb] (fe ib) rfl rfl (fun _ => by kernel_rfl) (fun w _ => H11.out w) ?_
  simp only [Act.put, List.setIfInBounds_toArray, List.set_cons_succ, List.set_cons_zero]
  refine wpQB_call 50 #[fe na, fe ib] (fe sx) rfl rfl (fun _ => by kernel_rfl) (fun w _ => H13.out w) ?_
  simp only [Act.put, List.setIfInBounds_toArray, List.set_cons_succ, List.set_cons_zero]
  refine wpQB_fe (gzyv) yv zyv rfl ?_
  simp only [Act.put, List.setIfInBounds_toArray, List.set_cons_succ, List.set_cons_zero]
  refine wpQB_fe (gzxu) xu zxu rfl ?_
  simp only [Act.put, List.setIfInBounds_toArray, List.set_cons_succ, List.set_cons_zero]
  refine wpQB_call 70 #[fe yv, fe xu] (fe nc) rfl rfl (fun _ => by kernel_rfl) (fun w _ => H9.out w) ?_
  simp only [Act.put, List.setIfInBounds_toArray, List.set_cons_succ, List.set_cons_zero]
  refine wpQB_fe (gzon) 1 zon rfl ?_
  simp only [Act.put, List.setIfInBounds_toArray, List.set_cons_succ, List.set_cons_zero]
  refine wpQB_fe (k) al zal rfl ?_
  simp only [Act.put, List.setIfInBounds_toArray, List.set_cons_succ, List.set_cons_zero]
  refine wpQB_call 69 #[fe 1, fe al] (fe nd) rfl rfl (fun _ => by kernel_rfl) (fun w _ => H10.out w) ?_
  simp only [Act.put, List.setIfInBounds_toArray, List.set_cons_succ, List.set_cons_zero]
  refine wpQB_call 49 #[fe nd] (fe id') rfl rfl (fun _ => by kernel_rfl) (fun w _ => H12.out w) ?_
  simp only [Act.put, List.setIfInBounds_toArray, List.set_cons_succ, List.set_cons_zero]
  refine wpQB_call 50 #[fe nc, fe id'] (fe sy) rfl rfl (fun _ => by kernel_rfl) (fun w _ => H14.out w) ?_
  simp only [Act.put, List.setIfInBounds_toArray, List.set_cons_succ, List.set_cons_zero]
  refine wpQB_run (af sx sy) rfl (fun _ _ => by kernel_rfl) ?_
  simp only [Act.put, List.setIfInBounds_toArray, List.set_cons_succ, List.set_cons_zero]
  refine wpQB_nil ?_
  intro w8 hb
  replace hr := hr.on hb
  replace hB := below_on hB hb
  clear hb
  go_wp2_with ((with_reducible refine wpL_store (W.heap.size + 1 + 1) 44 _ (afA sx sy) 8 rowAf rfl (afA_size _ _) (afA_one _ _) hr ?_ ?_ ?_); rfl; rfl)
  exact bodyPost_ret (results_row Tryz.results35 rowAf (afA_size _ _) (hr.row _) rfl) rfl ⟨rfl, below_rowSet hB (by omega) _⟩
end Go.Proofs.YtgefhfcmiefocaaGreatDoor.C

/- Points by X, Y and Z, as the reference adds them: what the sum is, and the contract of its add. -/
namespace Go.Proofs.YtgefhfcmiefocaaGreatDoor.E
open Go.RowKit Go.Sort Go.Proofs.YtgefhfcmiefocaaGreatDoor.F Go.Proofs.YtgefhfcmiefocaaGreatDoor.C
set_option maxRecDepth 100000

/-! ### three numbers -/
structure N3 where
  X : Nat
  Y : Nat
  Z : Nat
structure N3.Lt (u : N3) : Prop where
  X : u.X < K256
  Y : u.Y < K256
  Z : u.Z < K256
/-- the sum, as the reference reckons it -/
def addN (u v : N3) : N3 :=
  let A := u.Z * v.Z % p25
  let B := A * A % p25
  let C := u.X * v.X % p25
  let D := u.Y * v.Y % p25
  let K := dN * (C * D % p25) % p25
  let F := (B + (p25 - K % p25)) % p25
  let G := (B + K) % p25
  let S := (u.X + u.Y) % p25 * ((v.X + v.Y) % p25) % p25
  let x := ((S + (p25 - C % p25)) % p25 + (p25 - D % p25)) % p25
  ⟨(A * F % p25) * x % p25, (A * G % p25) * ((D + C) % p25) % p25, F * G % p25⟩
theorem addN_lt (u v : N3) : (addN u v).Lt := ⟨mod_K _, mod_K _, mod_K _⟩
/-- these are a point's -/
def Hp (u : N3) (P : Pt) : Prop := Rep (z u.X) (z u.Y) (z u.Z) P
theorem both_less (a b c d : Z) : (a + b) * (c + d) + -(a * c) + -(b * d) = a * d + c * b := by grind
theorem Hp.add {u v : N3} {P Q : Pt} (h : Hp u P) (k : Hp v Q) (hP : P.On) (hQ : Q.On) : Hp (addN u v) (P.add Q) := by
  have r := Rep.add h k hP hQ rfl rfl rfl rfl rfl rfl rfl
  have hd : dd = z dN := by unfold dd; rfl
  rw [hd, z_less] at r
  unfold Hp addN
  simp only [z_mod, z_mul, z_add, z_neg, both_less]
  exact r
theorem Hp.affine {u : N3} {P : Pt} (h : Hp u P) : u.X * invN u.Z % p25 = P.x.val ∧ u.Y * invN u.Z % p25 = P.y.val := by
  obtain ⟨n, a, b⟩ := h
  have hi := zinv_mul n
  constructor
  · rw [← val_mod, z_mul, z_inv, a, show P.x * z u.Z * zinv (z u.Z) = P.x * (z u.Z * zinv (z u.Z)) by grind, hi]
    congr 1
    grind
  · rw [← val_mod, z_mul, z_inv, b, show P.y * z u.Z * zinv (z u.Z) = P.y * (z u.Z * zinv (z u.Z)) by grind, hi]
    congr 1
    grind

/-! ### as cells -/
def h3A (u : N3) : Array Value := feA u.X ++ feA u.Y ++ feA u.Z
theorem h3A_size (u : N3) : (h3A u).size = 12 := rfl
theorem h3A_one (u : N3) : Ones (h3A u) := ones_append (ones_append (feA_one _) (feA_one _)) (feA_one _)
theorem rowH : RowT Tryz.prog 71 12 := ⟨⟨_, Tryz.underlying71, rfl⟩, by kernel_rfl⟩
section
variable {w : World} {g t : Nat} {u : N3} (h : Lies w g t (h3A u))
include h
theorem h_X : w.rangeAt g 0 (feA u.X).toList := range_app (a := #[]) (c := feA u.Y ++ feA u.Z) rfl (by unfold h3A at h; rw [Array.empty_append, ← Array.append_assoc]; exact h)
theorem h_Y : w.rangeAt g 4 (feA u.Y).toList := range_app (a := feA u.X) (c := feA u.Z) (feA_size _) h
theorem h_Z : w.rangeAt g 8 (feA u.Z).toList := range_app (a := feA u.X ++ feA u.Y) (c := #[]) (by simp [feA_size]) (by rw [Array.append_empty]; exact h)
end
theorem h3A_is (u : N3) : Value.agg (h3A u) = .agg (feA u.X ++ feA u.Y ++ feA u.Z) := rfl
abbrev z12A : Array Value := #[.int .u64 0, .int .u64 0, .int .u64 0, .int .u64 0, .int .u64 0, .int .u64 0, .int .u64 0, .int .u64 0, .int .u64 0, .int .u64 0, .int .u64 0, .int .u64 0]
theorem lies4 (w : World) (a b c : Obj) (t : TypeId) (cs : Array Value) : Lies ((((w.alloc a).alloc b).alloc c).alloc (.cells cs t)) (w.heap.size + 3) t cs := by
  have h := Lies.new (((w.alloc a).alloc b).alloc c) t cs
  have e : (((w.alloc a).alloc b).alloc c).heap.size = w.heap.size + 3 := by simp
  rw [e] at h
  exact h
attribute [local irreducible] feA h3A

set_option maxHeartbeats 3200000 in
theorem hadd_any (u v : N3) (W : World) (hu : u.Lt) (hv : v.Lt) :
    Calls Tryz.prog 48 #[.agg (h3A u), .agg (h3A v), fe dN] W fun e w' => e = .returned (.agg (h3A (addN u v))) ∧ Below W.heap.size W w' := by
  have hdK : dN < K256 := by decide
  obtain ⟨R, hR⟩ : ∃ R, addN u v = R := ⟨_, rfl⟩
  rw [hR]
  unfold addN at hR
  simp only at hR
  have HA := Lib.hid (fun w => refMul_any (u.Z) (v.Z) w hu.Z hv.Z)
  have kA : u.Z * v.Z % p25 < K256 := mod_K _
  obtain ⟨A, eA⟩ : ∃ n, u.Z * v.Z % p25 = n := ⟨_, rfl⟩
  rw [eA] at HA kA hR
  clear eA
  have HBv := Lib.hid (fun w => refMul_any (A) (A) w kA kA)
  have kBv : A * A % p25 < K256 := mod_K _
  obtain ⟨Bv, eBv⟩ : ∃ n, A * A % p25 = n := ⟨_, rfl⟩
  rw [eBv] at HBv kBv hR
  clear eBv
  have HC := Lib.hid (fun w => refMul_any (u.X) (v.X) w hu.X hv.X)
  have kC : u.X * v.X % p25 < K256 := mod_K _
  obtain ⟨C, eC⟩ : ∃ n, u.X * v.X % p25 = n := ⟨_, rfl⟩
  rw [eC] at HC kC hR
  clear eC
  have HE := Lib.hid (fun w => refMul_any (u.Y) (v.Y) w hu.Y hv.Y)
  have kE : u.Y * v.Y % p25 < K256 := mod_K _
  obtain ⟨E, eE⟩ : ∃ n, u.Y * v.Y % p25 = n := ⟨_, rfl⟩
  rw [eE] at HE kE hR
  clear eE
  have HCE := Lib.hid (fun w => refMul_any (C) (E) w kC kE)
  have kCE : C * E % p25 < K256 := mod_K _
  obtain ⟨CE, eCE⟩ : ∃ n, C * E % p25 = n := ⟨_, rfl⟩
  rw [eCE] at HCE kCE hR
  clear eCE
  have HK := Lib.hid (fun w => refMul_any (dN) (CE) w hdK kCE)
  have kK : dN * CE % p25 < K256 := mod_K _
  obtain ⟨K, eK⟩ : ∃ n, dN * CE % p25 = n := ⟨_, rfl⟩
  rw [eK] at HK kK hR
  clear eK
  have HF := Lib.hid (fun w => refSub_any (Bv) (K) w kBv kK)
  have kFv : (Bv + (p25 - K % p25)) % p25 < K256 := mod_K _
  obtain ⟨Fv, eFv⟩ : ∃ n, (Bv + (p25 - K % p25)) % p25 = n := ⟨_, rfl⟩
  rw [eFv] at HF kFv hR
  clear eFv
  have HG := Lib.hid (fun w => refAdd_any (Bv) (K) w kBv kK)
  have kG : (Bv + K) % p25 < K256 := mod_K _
  obtain ⟨G, eG⟩ : ∃ n, (Bv + K) % p25 = n := ⟨_, rfl⟩
  rw [eG] at HG kG hR
  clear eG
  have HS1 := Lib.hid (fun w => refAdd_any (u.X) (u.Y) w hu.X hu.Y)
  have kS1 : (u.X + u.Y) % p25 < K256 := mod_K _
  obtain ⟨S1, eS1⟩ : ∃ n, (u.X + u.Y) % p25 = n := ⟨_, rfl⟩
  rw [eS1] at HS1 kS1 hR
  clear eS1
  have HS2 := Lib.hid (fun w => refAdd_any (v.X) (v.Y) w hv.X hv.Y)
  have kS2 : (v.X + v.Y) % p25 < K256 := mod_K _
  obtain ⟨S2, eS2⟩ : ∃ n, (v.X + v.Y) % p25 = n := ⟨_, rfl⟩
  rw [eS2] at HS2 kS2 hR
  clear eS2
  have HS := Lib.hid (fun w => refMul_any (S1) (S2) w kS1 kS2)
  have kS : S1 * S2 % p25 < K256 := mod_K _
  obtain ⟨S, eS⟩ : ∃ n, S1 * S2 % p25 = n := ⟨_, rfl⟩
  rw [eS] at HS kS hR
  clear eS
  have Hx0 := Lib.hid (fun w => refSub_any (S) (C) w kS kC)
  have kx0 : (S + (p25 - C % p25)) % p25 < K256 := mod_K _
  obtain ⟨x0, ex0⟩ : ∃ n, (S + (p25 - C % p25)) % p25 = n := ⟨_, rfl⟩
  rw [ex0] at Hx0 kx0 hR
  clear ex0
  have Hx1 := Lib.hid (fun w => refSub_any (x0) (E) w kx0 kE)
  have kx1 : (x0 + (p25 - E % p25)) % p25 < K256 := mod_K _
  obtain ⟨x1, ex1⟩ : ∃ n, (x0 + (p25 - E % p25)) % p25 = n := ⟨_, rfl⟩
  rw [ex1] at Hx1 kx1 hR
  clear ex1
  have HAF := Lib.hid (fun w => refMul_any (A) (Fv) w kA kFv)
  have kAF : A * Fv % p25 < K256 := mod_K _
  obtain ⟨AF, eAF⟩ : ∃ n, A * Fv % p25 = n := ⟨_, rfl⟩
  rw [eAF] at HAF kAF hR
  clear eAF
  have HX := Lib.hid (fun w => refMul_any (AF) (x1) w kAF kx1)
  have kX3 : AF * x1 % p25 < K256 := mod_K _
  obtain ⟨X3, eX3⟩ : ∃ n, AF * x1 % p25 = n := ⟨_, rfl⟩
  rw [eX3] at HX kX3 hR
  clear eX3
  have HAG := Lib.hid (fun w => refMul_any (A) (G) w kA kG)
  have kAG : A * G % p25 < K256 := mod_K _
  obtain ⟨AG, eAG⟩ : ∃ n, A * G % p25 = n := ⟨_, rfl⟩
  rw [eAG] at HAG kAG hR
  clear eAG
  have HEC := Lib.hid (fun w => refAdd_any (E) (C) w kE kC)
  have kEC : (E + C) % p25 < K256 := mod_K _
  obtain ⟨EC, eEC⟩ : ∃ n, (E + C) % p25 = n := ⟨_, rfl⟩
  rw [eEC] at HEC kEC hR
  clear eEC
  have HY := Lib.hid (fun w => refMul_any (AG) (EC) w kAG kEC)
  have kY3 : AG * EC % p25 < K256 := mod_K _
  obtain ⟨Y3, eY3⟩ : ∃ n, AG * EC % p25 = n := ⟨_, rfl⟩
  rw [eY3] at HY kY3 hR
  clear eY3
  have HZ := Lib.hid (fun w => refMul_any (Fv) (G) w kFv kG)
  have kZ3 : Fv * G % p25 < K256 := mod_K _
  obtain ⟨Z3, eZ3⟩ : ∃ n, Fv * G % p25 = n := ⟨_, rfl⟩
  rw [eZ3] at HZ kZ3 hR
  clear eZ3
  have hbuild : Value.agg (h3A R) = .agg (feA X3 ++ feA Y3 ++ feA Z3) := by rw [← hR]; exact h3A_is _
  clear hu hv hR kA kBv kC kE kCE kK kFv kG kS1 kS2 kS kx0 kx1 kAF kX3 kAG kEC kY3 kZ3 hdK
  go_enter Tryz.func48, Tryz.ntmps48
  have hp := (((Lies.new W 71 (h3A u)).alloc (.cells (h3A v) 71)).alloc (.cells (feA dN) 42)).alloc (.cells z12A 71)
  have hq : Lies ((W.alloc (.cells (h3A u) 71)).alloc (.cells (h3A v) 71)) (W.heap.size + 1) 71 (h3A v) := heap_alloc2_new W _ _
  replace hq := (hq.alloc (.cells (feA dN) 42)).alloc (.cells z12A 71)
  have hd := (lies3 W (.cells (h3A u) 71) (.cells (h3A v) 71) 42 (feA dN)).alloc (.cells z12A 71)
  have hr := lies4 W (.cells (h3A u) 71) (.cells (h3A v) 71) (.cells (feA dN) 42) 71 z12A
  have hB := ((((Below.refl W.heap.size W).alloc (Nat.le_refl _) (.cells (h3A u) 71)).alloc (by simp) (.cells (h3A v) 71)).alloc (by simp; omega) (.cells (feA dN) 42)).alloc (by simp; omega) (.cells z12A 71)
  go_upto_region 1 with fail
  generalize World.alloc (World.alloc (World.alloc (World.alloc W _) _) _) _ = w0 at *
  have hpZ := h_Z hp
  have hqZ := h_Z hq
  go_upto_region 2 with (first
    | ((with_reducible refine wpL_loadMid W.heap.size 8 (feA u.Z).toList 4 rowFe (by rw [Array.length_toList]; exact feA_size _) hpZ ?_ ?_); rfl; rw [Array.toArray_toList])
    | ((with_reducible refine wpL_loadMid (W.heap.size + 1) 8 (feA v.Z).toList 4 rowFe (by rw [Array.length_toList]; exact feA_size _) hqZ ?_ ?_); rfl; rw [Array.toArray_toList])
    | (go_at_call 50; (with_reducible refine (HA.out _).mono ?_); rintro e w1 ⟨rfl, hb⟩; replace hp := hp.on hb; replace hq := hq.on hb; replace hd := hd.on hb; replace hr := hr.on hb; replace hB := below_on hB hb; clear hb)
    | ((with_reducible refine wpL_store w1.heap.size 42 _ (feA A) 4 rowFe ?_ (feA_size _) (feA_one _) (Lies.new w1 _ _) ?_ ?_ ?_); rfl; rfl; rfl))
  have hA := newly_lies w1 42 fe0A (feA A)
  have hnw := newly w1 (.cells fe0A 42) (feA A)
  replace hp := hp.on hnw
  replace hq := hq.on hnw
  replace hd := hd.on hnw
  replace hr := hr.on hnw
  replace hB := below_on hB hnw
  clear hnw HA hpZ hqZ
  generalize World.setRow _ _ _ = w2 at *
  generalize w1.heap.size = gA at *
  go_upto_region 3 with (first
    | ((with_reducible refine wpL_load gA 42 (feA A) 4 rowFe (feA_size _) hA ?_ ?_); rfl)
    | (go_at_call 50; (with_reducible refine (HBv.out _).mono ?_); rintro e w3 ⟨rfl, hb⟩; replace hp := hp.on hb; replace hq := hq.on hb; replace hd := hd.on hb; replace hr := hr.on hb; replace hA := hA.on hb; replace hB := below_on hB hb; clear hb)
    | ((with_reducible refine wpL_store w3.heap.size 42 _ (feA Bv) 4 rowFe ?_ (feA_size _) (feA_one _) (Lies.new w3 _ _) ?_ ?_ ?_); rfl; rfl; rfl))
  have hBv := newly_lies w3 42 fe0A (feA Bv)
  have hnw := newly w3 (.cells fe0A 42) (feA Bv)
  replace hp := hp.on hnw
  replace hq := hq.on hnw
  replace hd := hd.on hnw
  replace hr := hr.on hnw
  replace hA := hA.on hnw
  replace hB := below_on hB hnw
  clear hnw HBv 
  generalize World.setRow _ _ _ = w4 at *
  generalize w3.heap.size = gBv at *
  have hpX := h_X hp
  have hqX := h_X hq
  go_upto_region 4 with (first
    | ((with_reducible refine wpL_loadMid W.heap.size 0 (feA u.X).toList 4 rowFe (by rw [Array.length_toList]; exact feA_size _) hpX ?_ ?_); rfl; rw [Array.toArray_toList])
    | ((with_reducible refine wpL_loadMid (W.heap.size + 1) 0 (feA v.X).toList 4 rowFe (by rw [Array.length_toList]; exact feA_size _) hqX ?_ ?_); rfl; rw [Array.toArray_toList])
    | (go_at_call 50; (with_reducible refine (HC.out _).mono ?_); rintro e w5 ⟨rfl, hb⟩; replace hp := hp.on hb; replace hq := hq.on hb; replace hd := hd.on hb; replace hr := hr.on hb; replace hA := hA.on hb; replace hBv := hBv.on hb; replace hB := below_on hB hb; clear hb)
    | ((with_reducible refine wpL_store w5.heap.size 42 _ (feA C) 4 rowFe ?_ (feA_size _) (feA_one _) (Lies.new w5 _ _) ?_ ?_ ?_); rfl; rfl; rfl))
  have hC := newly_lies w5 42 fe0A (feA C)
  have hnw := newly w5 (.cells fe0A 42) (feA C)
  replace hp := hp.on hnw
  replace hq := hq.on hnw
  replace hd := hd.on hnw
  replace hr := hr.on hnw
  replace hA := hA.on hnw
  replace hBv := hBv.on hnw
  replace hB := below_on hB hnw
  clear hnw HC hpX hqX
  generalize World.setRow _ _ _ = w6 at *
  generalize w5.heap.size = gC at *
  have hpY := h_Y hp
  have hqY := h_Y hq
  go_upto_region 5 with (first
    | ((with_reducible refine wpL_loadMid W.heap.size 4 (feA u.Y).toList 4 rowFe (by rw [Array.length_toList]; exact feA_size _) hpY ?_ ?_); rfl; rw [Array.toArray_toList])
    | ((with_reducible refine wpL_loadMid (W.heap.size + 1) 4 (feA v.Y).toList 4 rowFe (by rw [Array.length_toList]; exact feA_size _) hqY ?_ ?_); rfl; rw [Array.toArray_toList])
    | (go_at_call 50; (with_reducible refine (HE.out _).mono ?_); rintro e w7 ⟨rfl, hb⟩; replace hp := hp.on hb; replace hq := hq.on hb; replace hd := hd.on hb; replace hr := hr.on hb; replace hA := hA.on hb; replace hBv := hBv.on hb; replace hC := hC.on hb; replace hB := below_on hB hb; clear hb)
    | ((with_reducible refine wpL_store w7.heap.size 42 _ (feA E) 4 rowFe ?_ (feA_size _) (feA_one _) (Lies.new w7 _ _) ?_ ?_ ?_); rfl; rfl; rfl))
  have hE := newly_lies w7 42 fe0A (feA E)
  have hnw := newly w7 (.cells fe0A 42) (feA E)
  replace hp := hp.on hnw
  replace hq := hq.on hnw
  replace hd := hd.on hnw
  replace hr := hr.on hnw
  replace hA := hA.on hnw
  replace hBv := hBv.on hnw
  replace hC := hC.on hnw
  replace hB := below_on hB hnw
  clear hnw HE hpY hqY
  generalize World.setRow _ _ _ = w8 at *
  generalize w7.heap.size = gE at *
  refine wp_region_made 5 11 _ 42 fe0A rfl rfl (by kernel_rfl) (by kernel_rfl) (alloc_fe rfl) ?_
  simp only [List.take_succ_cons, List.take_zero, List.drop_succ_cons, List.drop_zero]
  refine wpQB_fe (W.heap.size + 2) dN hd rfl ?_
  simp only [Act.put, List.setIfInBounds_toArray, List.set_cons_succ, List.set_cons_zero]
  refine wpQB_fe gC C hC rfl ?_
  simp only [Act.put, List.setIfInBounds_toArray, List.set_cons_succ, List.set_cons_zero]
  refine wpQB_fe gE E hE rfl ?_
  simp only [Act.put, List.setIfInBounds_toArray, List.set_cons_succ, List.set_cons_zero]
  refine wpQB_call 50 #[fe C, fe E] (fe CE) rfl rfl (fun _ => by kernel_rfl) (fun w _ => HCE.out w) ?_
  simp only [Act.put, List.setIfInBounds_toArray, List.set_cons_succ, List.set_cons_zero]
  refine wpQB_call 50 #[fe dN, fe CE] (fe K) rfl rfl (fun _ => by kernel_rfl) (fun w _ => HK.out w) ?_
  simp only [Act.put, List.setIfInBounds_toArray, List.set_cons_succ, List.set_cons_zero]
  refine wpQB_nil ?_
  intro gK w9 hb hg hK
  simp only [List.setIfInBounds_toArray, List.set_cons_succ, List.set_cons_zero]
  replace hK : Lies w9 gK 42 fe0A := hK
  have l0 := hp.lt
  have l1 := hq.lt
  have l2 := hd.lt
  have l3 := hr.lt
  have l4 := hA.lt
  have l5 := hBv.lt
  have l6 := hC.lt
  have l7 := hE.lt
  replace hp := (hp.on hb).rowFar (show W.heap.size ≠ gK by omega) (feA K)
  replace hq := (hq.on hb).rowFar (show W.heap.size + 1 ≠ gK by omega) (feA K)
  replace hd := (hd.on hb).rowFar (show W.heap.size + 2 ≠ gK by omega) (feA K)
  replace hr := (hr.on hb).rowFar (show W.heap.size + 3 ≠ gK by omega) (feA K)
  replace hA := (hA.on hb).rowFar (show gA ≠ gK by omega) (feA K)
  replace hBv := (hBv.on hb).rowFar (show gBv ≠ gK by omega) (feA K)
  replace hC := (hC.on hb).rowFar (show gC ≠ gK by omega) (feA K)
  replace hE := (hE.on hb).rowFar (show gE ≠ gK by omega) (feA K)
  have hsz := hB.size
  replace hB := below_rowSet (below_on hB hb) (show W.heap.size ≤ gK by omega) (feA K)
  have hn := hK.row (feA K)
  clear hb HCE HK 
  go_upto_region 6 with ((with_reducible refine wpL_store gK 42 _ (feA K) 4 rowFe rfl (feA_size _) (feA_one _) hK ?_ ?_ ?_); rfl; rfl)
  clear hK hsz hg l0 l1 l2 l3 l4 l5 l6 l7
  have hK := hn
  clear hn
  generalize World.setRow _ _ _ = w10 at *
  clear hd
  go_upto_region 7 with (first
    | ((with_reducible refine wpL_load gBv 42 (feA Bv) 4 rowFe (feA_size _) hBv ?_ ?_); rfl)
    | ((with_reducible refine wpL_load gK 42 (feA K) 4 rowFe (feA_size _) hK ?_ ?_); rfl)
    | (go_at_call 69; (with_reducible refine (HF.out _).mono ?_); rintro e w11 ⟨rfl, hb⟩; replace hp := hp.on hb; replace hq := hq.on hb; replace hr := hr.on hb; replace hA := hA.on hb; replace hBv := hBv.on hb; replace hC := hC.on hb; replace hE := hE.on hb; replace hK := hK.on hb; replace hB := below_on hB hb; clear hb)
    | ((with_reducible refine wpL_store w11.heap.size 42 _ (feA Fv) 4 rowFe ?_ (feA_size _) (feA_one _) (Lies.new w11 _ _) ?_ ?_ ?_); rfl; rfl; rfl))
  have hFv := newly_lies w11 42 fe0A (feA Fv)
  have hnw := newly w11 (.cells fe0A 42) (feA Fv)
  replace hp := hp.on hnw
  replace hq := hq.on hnw
  replace hr := hr.on hnw
  replace hA := hA.on hnw
  replace hBv := hBv.on hnw
  replace hC := hC.on hnw
  replace hE := hE.on hnw
  replace hK := hK.on hnw
  replace hB := below_on hB hnw
  clear hnw HF 
  generalize World.setRow _ _ _ = w12 at *
  generalize w11.heap.size = gFv at *
  go_upto_region 8 with (first
    | ((with_reducible refine wpL_load gBv 42 (feA Bv) 4 rowFe (feA_size _) hBv ?_ ?_); rfl)
    | ((with_reducible refine wpL_load gK 42 (feA K) 4 rowFe (feA_size _) hK ?_ ?_); rfl)
    | (go_at_call 70; (with_reducible refine (HG.out _).mono ?_); rintro e w13 ⟨rfl, hb⟩; replace hp := hp.on hb; replace hq := hq.on hb; replace hr := hr.on hb; replace hA := hA.on hb; replace hBv := hBv.on hb; replace hC := hC.on hb; replace hE := hE.on hb; replace hK := hK.on hb; replace hFv := hFv.on hb; replace hB := below_on hB hb; clear hb)
    | ((with_reducible refine wpL_store w13.heap.size 42 _ (feA G) 4 rowFe ?_ (feA_size _) (feA_one _) (Lies.new w13 _ _) ?_ ?_ ?_); rfl; rfl; rfl))
  have hG := newly_lies w13 42 fe0A (feA G)
  have hnw := newly w13 (.cells fe0A 42) (feA G)
  replace hp := hp.on hnw
  replace hq := hq.on hnw
  replace hr := hr.on hnw
  replace hA := hA.on hnw
  replace hBv := hBv.on hnw
  replace hC := hC.on hnw
  replace hE := hE.on hnw
  replace hK := hK.on hnw
  replace hFv := hFv.on hnw
  replace hB := below_on hB hnw
  clear hnw HG 
  generalize World.setRow _ _ _ = w14 at *
  generalize w13.heap.size = gG at *
  have hpX := h_X hp
  have hpY := h_Y hp
  have hqX := h_X hq
  have hqY := h_Y hq
  refine wp_region_made 11 14 _ 42 fe0A rfl rfl (by kernel_rfl) (by kernel_rfl) (alloc_fe rfl) ?_
  simp only [List.take_succ_cons, List.take_zero, List.drop_succ_cons, List.drop_zero]
  refine wpQB_run (.pointer (some ⟨W.heap.size, 0, none⟩)) rfl (fun _ _ => by kernel_rfl) ?_
  simp only [Act.put, List.setIfInBounds_toArray, List.set_cons_succ, List.set_cons_zero]
  refine wpQB_mid W.heap.size 0 u.X hpX rfl ?_
  simp only [Act.put, List.setIfInBounds_toArray, List.set_cons_succ, List.set_cons_zero]
  refine wpQB_run (.pointer (some ⟨W.heap.size, 4, none⟩)) rfl (fun _ _ => by kernel_rfl) ?_
  simp only [Act.put, List.setIfInBounds_toArray, List.set_cons_succ, List.set_cons_zero]
  refine wpQB_mid W.heap.size 4 u.Y hpY rfl ?_
  simp only [Act.put, List.setIfInBounds_toArray, List.set_cons_succ, List.set_cons_zero]
  refine wpQB_call 70 #[fe u.X, fe u.Y] (fe S1) rfl rfl (fun _ => by kernel_rfl) (fun w _ => HS1.out w) ?_
  simp only [Act.put, List.setIfInBounds_toArray, List.set_cons_succ, List.set_cons_zero]
  refine wpQB_run (.pointer (some ⟨W.heap.size + 1, 0, none⟩)) rfl (fun _ _ => by kernel_rfl) ?_
  simp only [Act.put, List.setIfInBounds_toArray, List.set_cons_succ, List.set_cons_zero]
  refine wpQB_mid (W.heap.size + 1) 0 v.X hqX rfl ?_
  simp only [Act.put, List.setIfInBounds_toArray, List.set_cons_succ, List.set_cons_zero]
  refine wpQB_run (.pointer (some ⟨W.heap.size + 1, 4, none⟩)) rfl (fun _ _ => by kernel_rfl) ?_
  simp only [Act.put, List.setIfInBounds_toArray, List.set_cons_succ, List.set_cons_zero]
  refine wpQB_mid (W.heap.size + 1) 4 v.Y hqY rfl ?_
  simp only [Act.put, List.setIfInBounds_toArray, List.set_cons_succ, List.set_cons_zero]
  refine wpQB_call 70 #[fe v.X, fe v.Y] (fe S2) rfl rfl (fun _ => by kernel_rfl) (fun w _ => HS2.out w) ?_
  simp only [Act.put, List.setIfInBounds_toArray, List.set_cons_succ, List.set_cons_zero]
  refine wpQB_call 50 #[fe S1, fe S2] (fe S) rfl rfl (fun _ => by kernel_rfl) (fun w _ => HS.out w) ?_
  simp only [Act.put, List.setIfInBounds_toArray, List.set_cons_succ, List.set_cons_zero]
  refine wpQB_nil ?_
  intro gS w15 hb hg hS
  simp only [List.setIfInBounds_toArray, List.set_cons_succ, List.set_cons_zero]
  replace hS : Lies w15 gS 42 fe0A := hS
  have l0 := hp.lt
  have l1 := hq.lt
  have l2 := hr.lt
  have l3 := hA.lt
  have l4 := hBv.lt
  have l5 := hC.lt
  have l6 := hE.lt
  have l7 := hK.lt
  have l8 := hFv.lt
  have l9 := hG.lt
  replace hp := (hp.on hb).rowFar (show W.heap.size ≠ gS by omega) (feA S)
  replace hq := (hq.on hb).rowFar (show W.heap.size + 1 ≠ gS by omega) (feA S)
  replace hr := (hr.on hb).rowFar (show W.heap.size + 3 ≠ gS by omega) (feA S)
  replace hA := (hA.on hb).rowFar (show gA ≠ gS by omega) (feA S)
  replace hBv := (hBv.on hb).rowFar (show gBv ≠ gS by omega) (feA S)
  replace hC := (hC.on hb).rowFar (show gC ≠ gS by omega) (feA S)
  replace hE := (hE.on hb).rowFar (show gE ≠ gS by omega) (feA S)
  replace hK := (hK.on hb).rowFar (show gK ≠ gS by omega) (feA S)
  replace hFv := (hFv.on hb).rowFar (show gFv ≠ gS by omega) (feA S)
  replace hG := (hG.on hb).rowFar (show gG ≠ gS by omega) (feA S)
  have hsz := hB.size
  replace hB := below_rowSet (below_on hB hb) (show W.heap.size ≤ gS by omega) (feA S)
  have hn := hS.row (feA S)
  clear hb HS1 HS2 HS hpX hpY hqX hqY
  go_upto_region 9 with ((with_reducible refine wpL_store gS 42 _ (feA S) 4 rowFe rfl (feA_size _) (feA_one _) hS ?_ ?_ ?_); rfl; rfl)
  clear hS hsz hg l0 l1 l2 l3 l4 l5 l6 l7 l8 l9
  have hS := hn
  clear hn
  generalize World.setRow _ _ _ = w16 at *
  refine wp_region_made 5 15 _ 42 fe0A rfl rfl (by kernel_rfl) (by kernel_rfl) (alloc_fe rfl) ?_
  simp only [List.take_succ_cons, List.take_zero, List.drop_succ_cons, List.drop_zero]
  refine wpQB_fe gS S hS rfl ?_
  simp only [Act.put, List.setIfInBounds_toArray, List.set_cons_succ, List.set_cons_zero]
  refine wpQB_fe gC C hC rfl ?_
  simp only [Act.put, List.setIfInBounds_toArray, List.set_cons_succ, List.set_cons_zero]
  refine wpQB_call 69 #[fe S, fe C] (fe x0) rfl rfl (fun _ => by kernel_rfl) (fun w _ => Hx0.out w) ?_
  simp only [Act.put, List.setIfInBounds_toArray, List.set_cons_succ, List.set_cons_zero]
  refine wpQB_fe gE E hE rfl ?_
  simp only [Act.put, List.setIfInBounds_toArray, List.set_cons_succ, List.set_cons_zero]
  refine wpQB_call 69 #[fe x0, fe E] (fe x1) rfl rfl (fun _ => by kernel_rfl) (fun w _ => Hx1.out w) ?_
  simp only [Act.put, List.setIfInBounds_toArray, List.set_cons_succ, List.set_cons_zero]
  refine wpQB_nil ?_
  intro gx1 w17 hb hg hx1
  simp only [List.setIfInBounds_toArray, List.set_cons_succ, List.set_cons_zero]
  replace hx1 : Lies w17 gx1 42 fe0A := hx1
  have l0 := hp.lt
  have l1 := hq.lt
  have l2 := hr.lt
  have l3 := hA.lt
  have l4 := hBv.lt
  have l5 := hC.lt
  have l6 := hE.lt
  have l7 := hK.lt
  have l8 := hFv.lt
  have l9 := hG.lt
  have l10 := hS.lt
  replace hp := (hp.on hb).rowFar (show W.heap.size ≠ gx1 by omega) (feA x1)
  replace hq := (hq.on hb).rowFar (show W.heap.size + 1 ≠ gx1 by omega) (feA x1)
  replace hr := (hr.on hb).rowFar (show W.heap.size + 3 ≠ gx1 by omega) (feA x1)
  replace hA := (hA.on hb).rowFar (show gA ≠ gx1 by omega) (feA x1)
  replace hBv := (hBv.on hb).rowFar (show gBv ≠ gx1 by omega) (feA x1)
  replace hC := (hC.on hb).rowFar (show gC ≠ gx1 by omega) (feA x1)
  replace hE := (hE.on hb).rowFar (show gE ≠ gx1 by omega) (feA x1)
  replace hK := (hK.on hb).rowFar (show gK ≠ gx1 by omega) (feA x1)
  replace hFv := (hFv.on hb).rowFar (show gFv ≠ gx1 by omega) (feA x1)
  replace hG := (hG.on hb).rowFar (show gG ≠ gx1 by omega) (feA x1)
  replace hS := (hS.on hb).rowFar (show gS ≠ gx1 by omega) (feA x1)
  have hsz := hB.size
  replace hB := below_rowSet (below_on hB hb) (show W.heap.size ≤ gx1 by omega) (feA x1)
  have hn := hx1.row (feA x1)
  clear hb Hx0 Hx1 
  go_upto_region 10 with ((with_reducible refine wpL_store gx1 42 _ (feA x1) 4 rowFe rfl (feA_size _) (feA_one _) hx1 ?_ ?_ ?_); rfl; rfl)
  clear hx1 hsz hg l0 l1 l2 l3 l4 l5 l6 l7 l8 l9 l10
  have hx1 := hn
  clear hn
  generalize World.setRow _ _ _ = w18 at *
  refine wp_region_plain 16 (by kernel_rfl) (by kernel_rfl) ?_
  simp only [List.take_succ_cons, List.take_zero, List.drop_succ_cons, List.drop_zero]
  refine wpQB_fe gA A hA rfl ?_
  simp only [Act.put, List.setIfInBounds_toArray, List.set_cons_succ, List.set_cons_zero]
  refine wpQB_fe gFv Fv hFv rfl ?_
  simp only [Act.put, List.setIfInBounds_toArray, List.set_cons_succ, List.set_cons_zero]
  refine wpQB_call 50 #[fe A, fe Fv] (fe AF) rfl rfl (fun _ => by kernel_rfl) (fun w _ => HAF.out w) ?_
  simp only [Act.put, List.setIfInBounds_toArray, List.set_cons_succ, List.set_cons_zero]
  refine wpQB_fe gx1 x1 hx1 rfl ?_
  simp only [Act.put, List.setIfInBounds_toArray, List.set_cons_succ, List.set_cons_zero]
  refine wpQB_call 50 #[fe AF, fe x1] (fe X3) rfl rfl (fun _ => by kernel_rfl) (fun w _ => HX.out w) ?_
  simp only [Act.put, List.setIfInBounds_toArray, List.set_cons_succ, List.set_cons_zero]
  refine wpQB_fe gA A hA rfl ?_
  simp only [Act.put, List.setIfInBounds_toArray, List.set_cons_succ, List.set_cons_zero]
  refine wpQB_fe gG G hG rfl ?_
  simp only [Act.put, List.setIfInBounds_toArray, List.set_cons_succ, List.set_cons_zero]
  refine wpQB_call 50 #[fe A, fe G] (fe AG) rfl rfl (fun _ => by kernel_rfl) (fun w _ => HAG.out w) ?_
  simp only [Act.put, List.setIfInBounds_toArray, List.set_cons_succ, List.set_cons_zero]
  refine wpQB_fe gE E hE rfl ?_
  simp only [Act.put, List.setIfInBounds_toArray, List.set_cons_succ, List.set_cons_zero]
  refine wpQB_fe gC C hC rfl ?_
  simp only [Act.put, List.setIfInBounds_toArray, List.set_cons_succ, List.set_cons_zero]
  refine wpQB_call 70 #[fe E, fe C] (fe EC) rfl rfl (fun _ => by kernel_rfl) (fun w _ => HEC.out w) ?_
  simp only [Act.put, List.setIfInBounds_toArray, List.set_cons_succ, List.set_cons_zero]
  refine wpQB_call 50 #[fe AG, fe EC] (fe Y3) rfl rfl (fun _ => by kernel_rfl) (fun w _ => HY.out w) ?_
  simp only [Act.put, List.setIfInBounds_toArray, List.set_cons_succ, List.set_cons_zero]
  refine wpQB_fe gFv Fv hFv rfl ?_
  simp only [Act.put, List.setIfInBounds_toArray, List.set_cons_succ, List.set_cons_zero]
  refine wpQB_fe gG G hG rfl ?_
  simp only [Act.put, List.setIfInBounds_toArray, List.set_cons_succ, List.set_cons_zero]
  refine wpQB_call 50 #[fe Fv, fe G] (fe Z3) rfl rfl (fun _ => by kernel_rfl) (fun w _ => HZ.out w) ?_
  simp only [Act.put, List.setIfInBounds_toArray, List.set_cons_succ, List.set_cons_zero]
  refine wpQB_run (.agg (h3A R)) rfl (fun _ _ => by rw [hbuild]; kernel_rfl) ?_
  simp only [Act.put, List.setIfInBounds_toArray, List.set_cons_succ, List.set_cons_zero]
  refine wpQB_nil ?_
  intro wz hb
  replace hr := hr.on hb
  replace hB := below_on hB hb
  clear hb
  go_wp2_with ((with_reducible refine wpL_store (W.heap.size + 3) 71 _ (h3A R) 12 rowH rfl (h3A_size _) (h3A_one _) hr ?_ ?_ ?_); rfl; rfl)
  exact bodyPost_ret (results_row Tryz.results48 rowH (h3A_size _) (hr.row _) rfl) rfl ⟨rfl, below_rowSet hB (by omega) _⟩
end Go.Proofs.YtgefhfcmiefocaaGreatDoor.E

/- The contract of the reference's Times: a point so many times. -/
namespace Go.Proofs.YtgefhfcmiefocaaGreatDoor.E
open Go.RowKit Go.Sort Go.Proofs.YtgefhfcmiefocaaGreatDoor.F Go.Proofs.YtgefhfcmiefocaaGreatDoor.C
set_option maxRecDepth 100000

def oneN3 (P : Pt) : N3 := ⟨P.x.val, P.y.val, 1⟩
theorem oneN3_lt (P : Pt) : (oneN3 P).Lt := ⟨below_K P.x.isLt, below_K P.y.isLt, show 1 < K256 by decide⟩
theorem oneN3_hp (P : Pt) : Hp (oneN3 P) P := by
  unfold Hp oneN3
  rw [z_back, z_back, z_one]
  exact Rep.one P
def zeroN3 : N3 := ⟨0, 1, 1⟩
theorem zeroN3_lt : zeroN3.Lt := ⟨by decide, by decide, by decide⟩
theorem zeroN3_hp (P : Pt) : Hp zeroN3 (P.smul 0) := by
  unfold Hp zeroN3
  rw [z_zero, z_one]
  exact Rep.zero
theorem oneN3_is (P : Pt) : Value.agg (h3A (oneN3 P)) = .agg (feA P.x.val ++ feA P.y.val ++ feA 1) := rfl
theorem zeroN3_is : Value.agg (h3A zeroN3) = .agg (feA 0 ++ feA 1 ++ feA 1) := rfl
abbrev z8A : Array Value := #[.int .u64 0, .int .u64 0, .int .u64 0, .int .u64 0, .int .u64 0, .int .u64 0, .int .u64 0, .int .u64 0]
attribute [local irreducible] feA h3A afA

set_option maxHeartbeats 6400000 in
theorem refTimes_any (n : Nat) (P : Pt) (hP : P.On) (W : World) :
    Calls Tryz.prog 19 #[fe n, af P.x.val P.y.val] W fun e w' => e = .returned (af (P.smul (n % K256)).x.val (P.smul (n % K256)).y.val) ∧ Below W.heap.size W w' := by
  have HD := Lib.hid (fun w => refD_any w)
  have HG := Lib.hid (fun w => digits_own n w)
  have hval : val (dgL n 16) = n % K256 := by rw [dgL_val]
  have hdg := Lib.hid (dgL_dg n 16)
  have hln : (dgL n 16).length = 16 := dgL_length n 16
  generalize dgL n 16 = l at *
  rw [← hval]
  clear hval
  have HQl := oneN3_lt P
  have HQh := oneN3_hp P
  have HQb := oneN3_is P
  obtain ⟨q, hq⟩ : ∃ q, oneN3 P = q := ⟨_, rfl⟩
  rw [hq] at HQl HQh HQb
  clear hq
  have HQ := Lib.hid (And.intro HQl HQh)
  have HQB := Lib.hid HQb
  clear HQb
  clear HQl HQh
  have HZb := zeroN3_is
  have HZ := Lib.hid (And.intro zeroN3_lt (zeroN3_hp P))
  generalize zeroN3 = s0 at *
  have HZB := Lib.hid HZb
  clear HZb
  have hone : fe 1 = .agg #[.int .u64 1, .int .u64 0, .int .u64 0, .int .u64 0] := fe_word 1 (by decide)
  have HOn := Lib.hid hP
  clear hP
  go_enter Tryz.func19, Tryz.ntmps19
  have ha : Lies ((W.alloc (.cells (feA n) 31)).alloc (.cells (afA P.x.val P.y.val) 44)) (W.heap.size + 1) 44 (afA P.x.val P.y.val) := heap_alloc2_new W _ _
  replace ha := ha.alloc (.cells z8A 44)
  have hn := ((Lies.new W 31 (feA n)).alloc (.cells (afA P.x.val P.y.val) 44)).alloc (.cells z8A 44)
  have hr := lies3 W (.cells (feA n) 31) (.cells (afA P.x.val P.y.val) 44) 44 z8A
  have hB := (((Below.refl W.heap.size W).alloc (Nat.le_refl _) (.cells (feA n) 31)).alloc (by simp) (.cells (afA P.x.val P.y.val) 44)).alloc (by simp; omega) (.cells z8A 44)
  go_upto_region 1 with fail
  generalize World.alloc (World.alloc (World.alloc W _) _) _ = w0 at *
  go_upto_region 2 with (first
    | (go_at_call 46; (with_reducible refine (HD.out _).mono ?_); rintro e w1 ⟨rfl, hb⟩; replace ha := ha.on hb; replace hn := hn.on hb; replace hr := hr.on hb; replace hB := below_on hB hb; clear hb)
    | ((with_reducible refine wpL_store w1.heap.size 42 _ (feA dN) 4 rowFe ?_ (feA_size _) (feA_one _) (Lies.new w1 _ _) ?_ ?_ ?_); rfl; rfl; rfl))
  have hd := newly_lies w1 42 fe0A (feA dN)
  have hnw := newly w1 (.cells fe0A 42) (feA dN)
  have l1 := hr.lt
  replace ha := ha.on hnw
  replace hn := hn.on hnw
  replace hr := hr.on hnw
  replace hB := below_on hB hnw
  clear hnw
  generalize World.setRow _ _ _ = w2 at *
  generalize w1.heap.size = gd at *
  have haX := af_X ha
  have haY := af_Y ha
  go_upto_region 3 with (first
    | ((with_reducible refine wpL_loadMid (W.heap.size + 1) 0 (feA P.x.val).toList 4 rowFe (by rw [Array.length_toList]; exact feA_size _) haX ?_ ?_); rfl; rw [Array.toArray_toList])
    | ((with_reducible refine wpL_loadMid (W.heap.size + 1) 4 (feA P.y.val).toList 4 rowFe (by rw [Array.length_toList]; exact feA_size _) haY ?_ ?_); rfl; rw [Array.toArray_toList])
    | ((with_reducible refine wpL_bld (ty := 71) (.agg (h3A q)) ?_ ?_); (rw [HQB.out]; kernel_rfl))
    | ((with_reducible refine wpL_bld (ty := 42) (fe 1) ?_ ?_); kernel_rfl)
    | ((with_reducible refine wpL_store w2.heap.size 71 _ (h3A q) 12 rowH ?_ (h3A_size _) (h3A_one _) (Lies.new w2 _ _) ?_ ?_ ?_); rfl; rfl; rfl))
  have hq := newly_lies w2 71 z12A (h3A q)
  have hnw := newly w2 (.cells z12A 71) (h3A q)
  have l2 := hd.lt
  replace hn := hn.on hnw
  replace hr := hr.on hnw
  replace hd := hd.on hnw
  replace hB := below_on hB hnw
  clear hnw ha haX haY
  generalize World.setRow _ _ _ = w3 at *
  generalize w2.heap.size = gq at *
  go_upto_region 4 with (first
    | ((with_reducible refine wpL_bld (ty := 71) (.agg (h3A s0)) ?_ ?_); (rw [HZB.out]; kernel_rfl))
    | ((with_reducible refine wpL_bld (ty := 42) (fe 1) ?_ ?_); kernel_rfl)
    | ((with_reducible refine wpL_store w3.heap.size 71 _ (h3A s0) 12 rowH ?_ (h3A_size _) (h3A_one _) (Lies.new w3 _ _) ?_ ?_ ?_); rfl; rfl; rfl))
  have hs := newly_lies w3 71 z12A (h3A s0)
  have hnw := newly w3 (.cells z12A 71) (h3A s0)
  have l3 := hq.lt
  replace hn := hn.on hnw
  replace hr := hr.on hnw
  replace hd := hd.on hnw
  replace hq := hq.on hnw
  replace hB := below_on hB hnw
  clear hnw
  generalize World.setRow _ _ _ = w4 at *
  generalize w3.heap.size = gs at *
  have l4 := hs.lt
  go_upto_region 5 with (first
    | ((with_reducible refine wpL_load W.heap.size 31 (feA n) 4 G.rowFe (feA_size _) hn ?_ ?_); rfl)
    | (go_at_call 47; go_loud (refine (HG.out _).mono ?_; rintro e w5 ⟨g, cap, rfl, ho, hb⟩); have hdi := own_dig ho; have hcp := own_cap ho; have hgo := (ho.lt g rfl).1; clear ho; replace hr := hr.on hb; replace hd := hd.on hb; replace hq := hq.on hb; replace hs := hs.on hb; replace hB := below_on hB hb; clear hb))
  have HN : Hid (gd ≠ gs ∧ gq ≠ gs ∧ g ≠ gs ∧ W.heap.size + 2 ≠ gs ∧ W.heap.size ≤ gs ∧ 16 ≤ cap) := Lib.hid ⟨by omega, by omega, by omega, by omega, by omega, hcp⟩
  clear l1 l2 l3 l4 hgo hcp hn HD HG HZB HQB hone
  have hu0 : ∃ u : N3, u.Lt ∧ Hp u (P.smul (val (l.drop 16))) ∧ Lies w5 gs 71 (h3A u) := ⟨s0, HZ.out.1, by rw [← hln, List.drop_of_length_le (Nat.le_refl _)]; exact HZ.out.2, hs⟩
  clear hs HZ
  go_wp2_with fail
  go_loopw [9] (fun ix wr => ∃ k : Nat, k ≤ 16 ∧ ix = .int .i64 ((k : Int) - 1) ∧ Dig wr g 0 l ∧ Lies wr (W.heap.size + 2) 44 z8A ∧ Lies wr gd 42 (feA dN) ∧ Lies wr gq 71 (h3A q) ∧ (∃ u : N3, u.Lt ∧ Hp u (P.smul (val (l.drop k))) ∧ Lies wr gs 71 (h3A u)) ∧ Below W.heap.size W wr) (fun ix _ => (intOf ix + 1).toNat)
  case atStart => exact ⟨16, Nat.le_refl _, rfl, hdi, hr, hd, hq, hu0, hB⟩
  case round =>
    clear hdi hr hd hq hu0 hB
    obtain ⟨k, hk, rfl, hdi, hr, hd, hq, hu, hB⟩ := hrel
    cases k with
    | zero =>
      rw [List.drop_zero] at hu
      obtain ⟨u, hul, hup, hs⟩ := hu
      obtain ⟨eX, eY⟩ := hup.affine
      have HI := Lib.hid (fun w => refInv_any u.Z w hul.Z)
      have ki : invN u.Z < K256 := below_K (invN_lt _)
      generalize invN u.Z = iz at *
      have HX := Lib.hid (fun w => refMul_any u.X iz w hul.X ki)
      rw [eX] at HX
      have HY := Lib.hid (fun w => refMul_any u.Y iz w hul.Y ki)
      rw [eY] at HY
      obtain ⟨vx, hvx⟩ : ∃ v, (P.smul (val l)).x.val = v := ⟨_, rfl⟩
      obtain ⟨vy, hvy⟩ : ∃ v, (P.smul (val l)).y.val = v := ⟨_, rfl⟩
      rw [hvx] at HX
      rw [hvy] at HY
      have HVX := Lib.hid hvx
      have HVY := Lib.hid hvy
      clear hvx hvy
      have hbuild : af vx vy = .agg (feA vx ++ feA vy) := by unfold af afA; rfl
      have hsz := HN.out
      clear eX eY hul hup ki HQ HOn hdi hd hq
      have hsZ := h_Z hs
      go_upto_region 15 with (first
        | ((with_reducible refine wpL_loadMid gs 8 (feA u.Z).toList 4 rowFe (by rw [Array.length_toList]; exact feA_size _) hsZ ?_ ?_); rfl; rw [Array.toArray_toList])
        | (go_at_call 49; (with_reducible refine (HI.out _).mono ?_); rintro e w6 ⟨rfl, hb⟩; replace hr := hr.on hb; replace hs := hs.on hb; replace hB := below_on hB hb; clear hb)
        | ((with_reducible refine wpL_store w6.heap.size 42 _ (feA iz) 4 rowFe ?_ (feA_size _) (feA_one _) (Lies.new w6 _ _) ?_ ?_ ?_); rfl; rfl; rfl))
      have hi := newly_lies w6 42 fe0A (feA iz)
      have hnw := newly w6 (.cells fe0A 42) (feA iz)
      replace hr := hr.on hnw
      replace hs := hs.on hnw
      replace hB := below_on hB hnw
      clear hnw hsZ
      generalize World.setRow _ _ _ = w7 at *
      generalize w6.heap.size = gi at *
      have hsX := h_X hs
      have hsY := h_Y hs
      refine wp_region_plain 9 (by kernel_rfl) (by kernel_rfl) ?_
      simp only [List.take_succ_cons, List.take_zero, List.drop_succ_cons, List.drop_zero]
      refine wpQB_run (.pointer (some ⟨gs, 0, none⟩)) rfl (fun _ _ => by kernel_rfl) ?_
      simp only [Act.put, List.setIfInBounds_toArray, List.set_cons_succ, List.set_cons_zero]
      refine wpQB_mid gs 0 u.X hsX rfl ?_
      simp only [Act.put, List.setIfInBounds_toArray, List.set_cons_succ, List.set_cons_zero]
      refine wpQB_fe gi iz hi rfl ?_
      simp only [Act.put, List.setIfInBounds_toArray, List.set_cons_succ, List.set_cons_zero]
      refine wpQB_call 50 #[fe u.X, fe iz] (fe vx) rfl rfl (fun _ => by kernel_rfl) (fun w _ => HX.out w) ?_
      simp only [Act.put, List.setIfInBounds_toArray, List.set_cons_succ, List.set_cons_zero]
      refine wpQB_run (.pointer (some ⟨gs, 4, none⟩)) rfl (fun _ _ => by kernel_rfl) ?_
      simp only [Act.put, List.setIfInBounds_toArray, List.set_cons_succ, List.set_cons_zero]
      refine wpQB_mid gs 4 u.Y hsY rfl ?_
      simp only [Act.put, List.setIfInBounds_toArray, List.set_cons_succ, List.set_cons_zero]
      refine wpQB_fe gi iz hi rfl ?_
      simp only [Act.put, List.setIfInBounds_toArray, List.set_cons_succ, List.set_cons_zero]
      refine wpQB_call 50 #[fe u.Y, fe iz] (fe vy) rfl rfl (fun _ => by kernel_rfl) (fun w _ => HY.out w) ?_
      simp only [Act.put, List.setIfInBounds_toArray, List.set_cons_succ, List.set_cons_zero]
      refine wpQB_run (af vx vy) rfl (fun _ _ => by rw [hbuild]; kernel_rfl) ?_
      simp only [Act.put, List.setIfInBounds_toArray, List.set_cons_succ, List.set_cons_zero]
      refine wpQB_nil ?_
      intro wz hb
      replace hr := hr.on hb
      replace hB := below_on hB hb
      clear hb
      go_wp2_with ((with_reducible refine wpL_store (W.heap.size + 2) 44 _ (afA vx vy) 8 rowAf rfl (afA_size _ _) (afA_one _ _) hr ?_ ?_ ?_); rfl; rfl)
      exact bodyPost_ret (results_row Tryz.results19 rowAf (afA_size _ _) (hr.row _) rfl) rfl ⟨by rw [HVX.out, HVY.out], below_rowSet hB (by omega) _⟩
    | succ m =>
      have em : ((m + 1 : Nat) : Int) - 1 = (m : Int) := by omega
      rw [em]
      have hdm : l.drop m = l.getD m 0 :: l.drop (m + 1) := by
        rw [List.drop_eq_getElem_cons (by omega), List.getD_eq_getElem?_getD, List.getElem?_eq_getElem (by omega)]
        rfl
      have HDM := Lib.hid hdm
      have hD := hdg.out.at m
      have hml : (m : Int) < 16 := by omega
      have hcap : (16 : Int) ≤ (cap : Int) := by have := HN.out; omega
      clear hdm
      obtain ⟨V, hV⟩ : ∃ V, val (l.drop (m + 1)) = V := ⟨_, rfl⟩
      rw [hV] at hu
      have HV := Lib.hid hV
      clear hV
      obtain ⟨D, hDD⟩ : ∃ D, l.getD m 0 = D := ⟨_, rfl⟩
      rw [hDD] at hD
      have HDD := Lib.hid hDD
      clear hDD
      rw [← preN_zero V D hD] at hu
      obtain ⟨wq, hwq⟩ : ∃ wq, wq = wr := ⟨_, rfl⟩
      subst hwq
      go_wp2_with fail
      go_loopw [10] (fun bx wv => ∃ j b : Nat, j ≤ 16 ∧ bx = .int .i64 (b : Int) ∧ b = (if j = 16 then 0 else 2 ^ (15 - j)) ∧ Dig wv g 0 l ∧ Lies wv (W.heap.size + 2) 44 z8A ∧ Lies wv gd 42 (feA dN) ∧ Lies wv gq 71 (h3A q) ∧ (∃ u : N3, u.Lt ∧ Hp u (P.smul (preN V D j)) ∧ Lies wv gs 71 (h3A u)) ∧ Below W.heap.size W wv) (fun bx _ => (intOf bx).toNat)
      case atStart => exact ⟨0, 32768, by omega, rfl, rfl, hdi, hr, hd, hq, hu, hB⟩
      case round =>
        clear hdi hr hd hq hu hB
        obtain ⟨j, b, hj, rfl, hb, hdi, hr, hd, hq, hu, hB⟩ := hrel
        by_cases hj16 : j = 16
        · subst hj16
          rw [if_pos rfl] at hb
          subst hb
          go_wp2_with fail
          go_roundw
          case rel => exact ⟨m, by omega, rfl, hdi, hr, hd, hq, by rw [HDM.out, HDD.out]; show ∃ u : N3, u.Lt ∧ Hp u (P.smul (D + 65536 * val (l.drop (m + 1)))) ∧ _; rw [HV.out, ← preN_end]; exact hu, hB⟩
          case measure => simp [intOf]
        · rw [if_neg hj16] at hb
          obtain ⟨u, hul, hup, hs⟩ := hu
          have hbp := bit_pos j
          have hble := bit_le j
          have hbh := bit_half j (by omega)
          have hst := preN_step V D j (by omega)
          rw [← hb] at hbp hble hbh hst
          have HM := Lib.hid (fun w => hadd_any u u w hul hul)
          have hon := Pt.smul_on HOn.out (preN V D j)
          have hup2 := hup.add hup hon hon
          rw [← Pt.smul_two HOn.out] at hup2
          have hul2 := addN_lt u u
          have HMx := Lib.hid (fun w => hadd_any (addN u u) q w hul2 HQ.out.1)
          have hup3 : Hp (addN (addN u u) q) (P.smul (2 * preN V D j + 1)) := hup2.add HQ.out.2 (Pt.smul_on HOn.out _) HOn.out
          have hul3 := addN_lt (addN u u) q
          generalize addN (addN u u) q = u3 at *
          generalize addN u u = u2 at *
          have hX := (hdi m (by omega))
          rw [HDD.out, Nat.zero_add] at hX
          have hcase : Hid ((D / b % 2 = 1 ∧ Hp u3 (P.smul (preN V D (j + 1)))) ∨ (D / b % 2 = 0 ∧ Hp u2 (P.smul (preN V D (j + 1))))) := Lib.hid (by
            rcases Nat.mod_two_eq_zero_or_one (D / b) with h | h
            · right; exact ⟨h, by rw [hst, h, Nat.add_zero]; exact hup2⟩
            · left; exact ⟨h, by rw [hst, h]; exact hup3⟩)
          have HBH := Lib.hid hbh
          clear hst hbh hb hup hup2 hup3 hon
          have hbpi : (0 : Int) < (b : Int) := by omega
          have hbne : ¬ (b : Int) = 0 := by omega
          have hq1 : Int.tdiv (D : Int) (b : Int) = ((D / b : Nat) : Int) := by rw [Int.tdiv_eq_ediv_of_nonneg (by omega)]; exact (Int.natCast_ediv _ _).symm
          have hq1' : (D : Int) / (b : Int) = ((D / b : Nat) : Int) := (Int.natCast_ediv _ _).symm
          have hDb : D / b < 65536 := Nat.lt_of_le_of_lt (Nat.div_le_self _ _) hD
          obtain ⟨b2, hb2⟩ : ∃ b2, b / 2 = b2 := ⟨_, rfl⟩
          have hq2 : Int.tdiv (b : Int) 2 = (b2 : Int) := by rw [Int.tdiv_eq_ediv_of_nonneg (by omega)]; omega
          have hq2' : (b : Int) / 2 = (b2 : Int) := by omega
          have HB2 := Lib.hid hb2
          clear hb2
          obtain ⟨qq, hqq⟩ : ∃ qq, D / b = qq := ⟨_, rfl⟩
          rw [hqq] at hq1 hq1' hDb hcase
          clear hqq
          obtain ⟨n1, n2, n3, n4, n5, n6⟩ := HN.out
          go_upto_region 11 with (first
            | ((with_reducible refine wpL_load gs 71 (h3A u) 12 rowH (h3A_size _) hs ?_ ?_); rfl)
            | ((with_reducible refine wpL_load gd 42 (feA dN) 4 rowFe (feA_size _) hd ?_ ?_); rfl)
            | (go_at_call 48; (with_reducible refine (HM.out _).mono ?_); rintro e w8 ⟨rfl, hb⟩; replace hdi := hdi.on hb; replace hr := hr.on hb; replace hd := hd.on hb; replace hq := hq.on hb; replace hs := hs.on hb; replace hB := below_on hB hb; clear hb hX)
            | ((with_reducible refine wpL_store gs 71 _ (h3A u2) 12 rowH (h3A_size _) (h3A_size _) (h3A_one _) hs ?_ ?_ ?_); rfl; rfl))
          replace hs := hs.row (h3A u2)
          replace hdi := hdi.rowFar n3 (h3A u2)
          replace hr := hr.rowFar n4 (h3A u2)
          replace hd := hd.rowFar n1 (h3A u2)
          replace hq := hq.rowFar n2 (h3A u2)
          replace hB := below_rowSet hB n5 (h3A u2)
          generalize World.setRow _ _ _ = w9 at *
          have hX := hdi m (by omega)
          rw [HDD.out, Nat.zero_add] at hX
          clear HM
          rcases hcase.out with ⟨hodd, hup⟩ | ⟨heven, hup⟩
          · have hqi : (qq : Int) % 2 = 1 := by omega
            have HUP := Lib.hid hup
            clear hcase hodd hup
            go_upto_region 13 with (first
              | ((with_reducible refine wpL_load gs 71 (h3A u2) 12 rowH (h3A_size _) hs ?_ ?_); rfl)
              | ((with_reducible refine wpL_load gq 71 (h3A q) 12 rowH (h3A_size _) hq ?_ ?_); rfl)
              | ((with_reducible refine wpL_load gd 42 (feA dN) 4 rowFe (feA_size _) hd ?_ ?_); rfl)
              | (go_at_call 48; (with_reducible refine (HMx.out _).mono ?_); rintro e w10 ⟨rfl, hb⟩; replace hdi := hdi.on hb; replace hr := hr.on hb; replace hd := hd.on hb; replace hq := hq.on hb; replace hs := hs.on hb; replace hB := below_on hB hb; clear hb)
              | ((with_reducible refine wpL_store gs 71 _ (h3A u3) 12 rowH (h3A_size _) (h3A_size _) (h3A_one _) hs ?_ ?_ ?_); rfl; rfl))
            replace hs := hs.row (h3A u3)
            replace hdi := hdi.rowFar n3 (h3A u3)
            replace hr := hr.rowFar n4 (h3A u3)
            replace hd := hd.rowFar n1 (h3A u3)
            replace hq := hq.rowFar n2 (h3A u3)
            replace hB := below_rowSet hB n5 (h3A u3)
            generalize World.setRow _ _ _ = w11 at *
            clear hX
            go_wp2_with fail
            go_roundw
            case rel => exact ⟨j + 1, b2, by omega, rfl, by rw [← HB2.out, HBH.out], hdi, hr, hd, hq, ⟨u3, hul3, HUP.out, hs⟩, hB⟩
            case measure => have := HB2.out; simp [intOf]; omega
          · have hqi : (qq : Int) % 2 = 0 := by omega
            have HUP := Lib.hid hup
            clear hcase heven hup
            go_wp2_with fail
            go_roundw
            case rel => exact ⟨j + 1, b2, by omega, rfl, by rw [← HB2.out, HBH.out], hdi, hr, hd, hq, ⟨u2, hul2, HUP.out, hs⟩, hB⟩
            case measure => have := HB2.out; simp [intOf]; omega
end Go.Proofs.YtgefhfcmiefocaaGreatDoor.E

/- The contract of the reference's Below. -/
namespace Go.Proofs.YtgefhfcmiefocaaGreatDoor.G
open Go.Proofs.YtgefhfcmiefocaaGreatDoor.F
open Go.RowKit Go.WideShapes

theorem list_of {l : List UInt8} {s : ByteArray} (h : (⟨l.toArray⟩ : ByteArray) = s) : l = s.data.toList := by rw [← h]
theorem of_list {l : List UInt8} {s : ByteArray} (h : l = s.data.toList) : (⟨l.toArray⟩ : ByteArray) = s := by rw [h]
theorem below_eq (s : ByteArray) (hs : s.size = 32) : ((⟨(leL (numLE s.data.toList % l25 % l25) 32).toArray⟩ : ByteArray) = s) ↔ numLE s.data.toList < l25 := by
  have hl : s.data.toList.length = 32 := by rw [← Lib.size_eq]; exact hs
  have e := leL_numLE s.data.toList
  rw [hl] at e
  rw [Nat.mod_mod]
  constructor
  · intro h
    have h1 := list_of h
    have h2 : numLE (leL (numLE s.data.toList % l25) 32) = numLE s.data.toList := by rw [h1]
    rw [numLE_leL, Nat.mod_eq_of_lt (Nat.lt_trans (Nat.mod_lt _ l25_pos) (by decide))] at h2
    rw [← h2]
    exact Nat.mod_lt _ l25_pos
  · intro h
    exact of_list (by rw [Nat.mod_eq_of_lt h, e])
theorem toList_beq (a b : ByteArray) : (a.toList == b.toList) = decide (a = b) := by
  rw [Bool.eq_iff_iff, beq_iff_eq, decide_eq_true_eq]
  constructor
  · intro h
    rw [ByteArray.toList_eq, ByteArray.toList_eq] at h
    exact bytes_inj h
  · intro h
    rw [h]

set_option maxRecDepth 100000 in
set_option maxHeartbeats 400000 in
theorem refBelow_any (s : ByteArray) (hs : s.size = 32) (W : World) :
    Calls Tryz.prog 34 #[.string s] W fun e W' => e = .returned (.bool (decide (numLE s.data.toList < l25))) ∧ Below W.heap.size W W' := by
  have HW := Lib.hid (fun w => refWide_any s (by omega) w)
  have HB := Lib.hid (fun w => refBytes_any (numLE s.data.toList % l25) w (modL_K _))
  have HE := Lib.hid (below_eq s hs)
  generalize numLE s.data.toList % l25 = V at HW HB HE
  generalize hX : (⟨(leL (V % l25) 32).toArray⟩ : ByteArray) = X at HB HE
  clear hX
  have HQ : Hid ((X.toList == s.toList) = decide (numLE s.data.toList < l25)) := Lib.hid (by
    rw [toList_beq]
    by_cases h : numLE s.data.toList < l25
    · rw [decide_eq_true h, decide_eq_true (HE.out.2 h)]
    · rw [decide_eq_false h, decide_eq_false (fun e => h (HE.out.1 e))])
  have hB := Below.refl W.heap.size W
  go_enter Tryz.func34, Tryz.ntmps34
  go_wp2_with (first
    | (go_at_call 36; refine (HW.out _).mono ?_; rintro e w1 ⟨rfl, hb⟩; replace hB := below_on hB hb; clear hb)
    | (go_at_call 26; refine (HB.out _).mono ?_; rintro e w2 ⟨rfl, hb⟩; replace hB := below_on hB hb; clear hb))
  go_ret
  exact ⟨ret1_of (by rw [← HQ.out]; rfl), hB⟩
end Go.Proofs.YtgefhfcmiefocaaGreatDoor.G

/- Rows that a call owns: kept, told apart, and added to. -/
namespace Go.Proofs.YtgefhfcmiefocaaGreatDoor.T
open Go.RowKit

theorem own_on {wr w1 : World} {B : Nat} {e : TypeId} {v : Value} {n : Nat} {xs : List Value} (h : wr.ownsRow B e 1 v n xs) (hb : Below wr.heap.size wr w1) : w1.ownsRow B e 1 v n xs := by
  obtain ⟨hl, h⟩ := h
  refine ⟨hl, ?_⟩
  rcases h with h | ⟨g, cap, cur, hv, hg, hh, hr⟩
  · exact Or.inl h
  · exact Or.inr ⟨g, cap, cur, hv, hg, Lies.on (t := e) hh hb, hr⟩

theorem own_apart {w : World} {B e e' n n' : Nat} {v v' : Value} {xs xs' : List Value} (h : w.ownsRow B e 1 v n xs) (h' : w.ownsRow B e' 1 v' n' xs') (hne : e ≠ e') (g : Nat) (hv : v.ownBlock = some g) : v'.ownBlock ≠ some g := by
  rcases h.2 with ⟨rfl, _⟩ | ⟨g1, cap, cur, rfl, _, hh, _⟩
  · cases hv
  · rcases h'.2 with ⟨rfl, _⟩ | ⟨g2, cap2, cur2, rfl, _, hh2, _⟩
    · intro e; cases e
    · intro e2
      simp only [Value.ownBlock, Option.some.injEq] at hv e2
      subst hv
      subst e2
      rw [hh] at hh2
      injection hh2 with hh2
      injection hh2 with _ ht
      exact hne ht
theorem own_far {w : World} {B e n g t : Nat} {v : Value} {xs : List Value} {cs : Array Value} (h : w.ownsRow B e 1 v n xs) (hl : Lies w g t cs) (hne : e ≠ t) : v.ownBlock ≠ some g := by
  rcases h.2 with ⟨rfl, _⟩ | ⟨g1, cap, cur, rfl, _, hh, _⟩
  · intro e; cases e
  · intro e2
    simp only [Value.ownBlock, Option.some.injEq] at e2
    subst e2
    unfold Lies at hl
    rw [hh] at hl
    injection hl with hl
    injection hl with _ ht
    exact hne ht
theorem own_grown {w w' : World} {B e n : Nat} {v : Value} {xs : List Value} {row : Option Nat} (h : w.ownsRow B e 1 v n xs) (hg : w.grownBy w' row) (hne : ∀ g, v.ownBlock = some g → row ≠ some g) : w'.ownsRow B e 1 v n xs := by
  obtain ⟨hl, h⟩ := h
  refine ⟨hl, ?_⟩
  rcases h with h | ⟨g, cap, cur, hv, hB, hh, hr⟩
  · exact Or.inl h
  · refine Or.inr ⟨g, cap, cur, hv, hB, ?_, hr⟩
    have hlt := Lies.lt (t := e) hh
    exact (hg.block g hlt (fun e => hne g (by rw [hv]; rfl) e.symm)).trans hh

theorem own_less {w : World} {B B' e n : Nat} {v : Value} {xs : List Value} (h : w.ownsRow B e 1 v n xs) (hB : B' ≤ B) : w.ownsRow B' e 1 v n xs := by
  obtain ⟨hl, h⟩ := h
  refine ⟨hl, ?_⟩
  rcases h with h | ⟨g, cap, cur, hv, hg, hh, hr⟩
  · exact Or.inl h
  · exact Or.inr ⟨g, cap, cur, hv, Nat.le_trans hB hg, hh, hr⟩
/-- a row of nothing that was just laid -/
theorem own_empty {w : World} {B g : Nat} {e : TypeId} (hl : Lies w g e #[]) (hB : B ≤ g) : w.ownsRow B e 1 (.slice (some ⟨g, 0, none⟩) 0 0) 0 [] :=
  ⟨rfl, .inr ⟨g, 0, #[], rfl, hB, hl, Nat.le_refl _, Nat.zero_le _, rfl, rfl⟩⟩
/-- one value goes behind a row that the call owns -/
theorem wpL_append {P : Program} {ops : Array Oper} {rest : List Oper} {a : Act} {w : World} {Q : Exit → Act → World → Prop} {t' : TypeId} {pos : String} {after : Array Edge} {d : Option Tmp} {x y : Tmp} {ty : TypeId}
    (B : Nat) (e : TypeId) (i : TypeInfo) (z : Value) (bytes : Nat) (ht : P.underlying ty = some (.slice e)) (hi : P.info? e = some i) (hz : i.zero = some z) (hsize : i.size = 1) (hby : i.bytes = bytes) (hzs : z.cells.size = 1)
    (v : Value) (n : Nat) (xs : List Value) (hown : w.ownsRow B e 1 v n xs) (b : Nat) (u : Value) (hl : Lies w b e #[u]) (hu : u.oneCell' = true) (h63 : n + 1 ≤ maxLen) (hbytes : (n + 1) * bytes ≤ 140737488355328) (hbase : B ≤ w.heap.size)
    (hs : a.eval (.tmp x) = v) (hx : a.eval (.tmp y) = .slice (some ⟨b, 0, none⟩) 1 1)
    (h : ∀ g cap w', w'.ownsRow B e 1 (.slice (some ⟨g, 0, none⟩) (n + 1) cap) (n + 1) (xs ++ [u]) → w.grownBy w' v.ownBlock → wpList P ops Q rest (a.put d (.slice (some ⟨g, 0, none⟩) (n + 1) cap)) w') :
    wpList P ops Q (⟨d, .call { callee := .builtin .append, args := #[.tmp x, .tmp y], argTypes := #[ty, ty] }, t', pos, after, none⟩ :: rest) a w :=
  wpList_append_lies (o := ⟨d, .call { callee := .builtin .append, args := #[.tmp x, .tmp y], argTypes := #[ty, ty] }, t', pos, after, none⟩) w rfl _ _ ty rfl B e i z 1 bytes ht hi hz hsize hby hzs (by decide) v n xs hs hown ⟨b, 0, none⟩ 1 1 [u] hx rfl (World.news_of_block hl) (by simpa using hu) (by decide) h63 hbytes hbase w.heap.size rfl (fun g cap w' h2 h3 _ _ => h g cap w' h2 h3)

end Go.Proofs.YtgefhfcmiefocaaGreatDoor.T

/- Numbers as lists of digits to the base 65536, multiplied and compared digit by digit, and a root's digits one bit after the other: what they come to. Nothing of the program is named here. -/
namespace Go.Proofs.YtgefhfcmiefocaaGreatDoor.T

/-! ### what they reckon -/
def innerL (a b : List Nat) (i : Nat) (out : List Nat) : Nat → List Nat × Nat
  | 0 => (out, 0)
  | k + 1 => ((innerL a b i out k).1.set (i + k) (((innerL a b i out k).2 + (innerL a b i out k).1.getD (i + k) 0 + a.getD i 0 * b.getD k 0) % 18446744073709551616 % 65536), ((innerL a b i out k).2 + (innerL a b i out k).1.getD (i + k) 0 + a.getD i 0 * b.getD k 0) % 18446744073709551616 / 65536)
def outerL (a b : List Nat) : Nat → List Nat
  | 0 => List.replicate (a.length + b.length) 0
  | i + 1 => (innerL a b i (outerL a b i) b.length).1.set (i + b.length) (innerL a b i (outerL a b i) b.length).2
def timesL (a b : List Nat) : List Nat := outerL a b a.length
def aboveL (a b : List Nat) : Nat → Bool
  | 0 => false
  | n + 1 => if a.getD n 0 = b.getD n 0 then aboveL a b n else decide (b.getD n 0 < a.getD n 0)
theorem inner_length (a b : List Nat) (i : Nat) (out : List Nat) (k : Nat) : (innerL a b i out k).1.length = out.length := by
  induction k with
  | zero => rfl
  | succ k ih => simp only [innerL, List.length_set, ih]
theorem outer_length (a b : List Nat) (i : Nat) : (outerL a b i).length = a.length + b.length := by
  induction i with
  | zero => simp [outerL]
  | succ i ih => simp only [outerL, List.length_set, inner_length, ih]
theorem times_length (a b : List Nat) : (timesL a b).length = a.length + b.length := outer_length a b _

/-! ### digits, as a number -/
/-- the number of the first n digits to the base 65536, the lowest one first -/
def numN (l : List Nat) : Nat → Nat
  | 0 => 0
  | n + 1 => numN l n + 65536 ^ n * l.getD n 0
/-- each is a digit -/
def Dig (l : List Nat) : Prop := ∀ i, l.getD i 0 < 65536
theorem getD_set (l : List Nat) (i j y : Nat) (h : i < l.length) : (l.set i y).getD j 0 = if j = i then y else l.getD j 0 := by
  rw [List.getD_eq_getElem?_getD, List.getD_eq_getElem?_getD, List.getElem?_set]
  by_cases e : i = j
  · subst e; simp [h]
  · rw [if_neg e, if_neg (fun x => e x.symm)]
theorem getD_none (l : List Nat) (i : Nat) (h : l.length ≤ i) : l.getD i 0 = 0 := by
  rw [List.getD_eq_getElem?_getD, List.getElem?_eq_none h]; rfl
theorem dig_set {l : List Nat} (h : Dig l) (i y : Nat) (hi : i < l.length) (hy : y < 65536) : Dig (l.set i y) := fun j => by
  rw [getD_set l i j y hi]
  split
  · exact hy
  · exact h j
theorem numN_lt {l : List Nat} (h : Dig l) (n : Nat) : numN l n < 65536 ^ n := by
  induction n with
  | zero => show 0 < _; decide
  | succ n ih =>
    have h1 := h n
    have h2 : 65536 ^ n * (l.getD n 0 + 1) ≤ 65536 ^ n * 65536 := Nat.mul_le_mul_left _ h1
    rw [numN, Nat.pow_succ]
    rw [Nat.mul_add, Nat.mul_one] at h2
    omega
theorem numN_set (l : List Nat) (i y n : Nat) (hi : i < l.length) : numN (l.set i y) n + (if i < n then 65536 ^ i * l.getD i 0 else 0) = numN l n + (if i < n then 65536 ^ i * y else 0) := by
  induction n with
  | zero => simp [numN]
  | succ n ih =>
    rw [numN, numN, getD_set l i n y hi]
    by_cases e : n = i
    · subst e
      rw [if_neg (Nat.lt_irrefl _), if_neg (Nat.lt_irrefl _)] at ih
      rw [if_pos rfl, if_pos (Nat.lt_succ_self _), if_pos (Nat.lt_succ_self _)]
      omega
    · rw [if_neg e]
      by_cases hlt : i < n
      · rw [if_pos hlt, if_pos hlt] at ih
        rw [if_pos (by omega), if_pos (by omega)]
        omega
      · rw [if_neg hlt, if_neg hlt] at ih
        rw [if_neg (by omega), if_neg (by omega)]
        omega
theorem numN_set_in (l : List Nat) (i y n : Nat) (hi : i < l.length) (hn : i < n) : numN (l.set i y) n + 65536 ^ i * l.getD i 0 = numN l n + 65536 ^ i * y := by
  have h := numN_set l i y n hi
  rw [if_pos hn, if_pos hn] at h
  exact h
theorem numN_past (l : List Nat) (n : Nat) (h : l.length ≤ n) : numN l n = numN l l.length := by
  obtain ⟨k, rfl⟩ : ∃ k, n = l.length + k := ⟨n - l.length, by omega⟩
  clear h
  induction k with
  | zero => rfl
  | succ k ih =>
    rw [← Nat.add_assoc, numN, ih, getD_none l _ (by omega)]
    omega
theorem numN_zero (n m : Nat) : numN (List.replicate m 0) n = 0 := by
  induction n with
  | zero => rfl
  | succ n ih =>
    rw [numN, ih]
    have : (List.replicate m 0).getD n 0 = 0 := by
      rw [List.getD_eq_getElem?_getD, List.getElem?_replicate]
      split <;> rfl
    rw [this, Nat.mul_zero]
theorem dig_zero (m : Nat) : Dig (List.replicate m 0) := fun i => by
  rw [List.getD_eq_getElem?_getD, List.getElem?_replicate]
  split <;> decide

/-! ### times -/
theorem inner_num (a b : List Nat) (i n : Nat) (out : List Nat) (ha : Dig a) (hb : Dig b) (ho : Dig out) (k : Nat) (hk : i + k ≤ out.length) (hn : out.length ≤ n) :
    numN (innerL a b i out k).1 n + 65536 ^ (i + k) * (innerL a b i out k).2 = numN out n + 65536 ^ i * (a.getD i 0 * numN b k) ∧
    Dig (innerL a b i out k).1 ∧ (innerL a b i out k).2 < 65536 ∧ ∀ j, i + k ≤ j → (innerL a b i out k).1.getD j 0 = out.getD j 0 := by
  induction k with
  | zero => exact ⟨by simp [innerL, numN], ho, by show 0 < _; decide, fun j _ => rfl⟩
  | succ k ih =>
    obtain ⟨h1, h2, h3, h4⟩ := ih (by omega)
    have hl := inner_length a b i out k
    have ha' := ha i
    have hb' := hb k
    have ho' := h2 (i + k)
    have hX : a.getD i 0 * b.getD k 0 ≤ 65535 * 65535 := Nat.mul_le_mul (by omega) (by omega)
    simp only [innerL, numN]
    generalize (innerL a b i out k).1 = o at *
    generalize (innerL a b i out k).2 = c at *
    rw [Nat.mod_eq_of_lt (show c + o.getD (i + k) 0 + a.getD i 0 * b.getD k 0 < 18446744073709551616 by omega)]
    have hs := numN_set_in o (i + k) ((c + o.getD (i + k) 0 + a.getD i 0 * b.getD k 0) % 65536) n (by omega) (by omega)
    refine ⟨?_, dig_set h2 _ _ (by omega) (Nat.mod_lt _ (by decide)), by omega, fun j hj => ?_⟩
    · have hd : 65536 * ((c + o.getD (i + k) 0 + a.getD i 0 * b.getD k 0) / 65536) + (c + o.getD (i + k) 0 + a.getD i 0 * b.getD k 0) % 65536 = c + o.getD (i + k) 0 + a.getD i 0 * b.getD k 0 := Nat.div_add_mod _ _
      generalize (c + o.getD (i + k) 0 + a.getD i 0 * b.getD k 0) / 65536 = q at *
      generalize (c + o.getD (i + k) 0 + a.getD i 0 * b.getD k 0) % 65536 = r at *
      generalize numN (o.set (i + k) r) n = N' at *
      have e1 : 65536 ^ (i + (k + 1)) * q = 65536 ^ (i + k) * (65536 * q) := by rw [← Nat.add_assoc, Nat.pow_succ, Nat.mul_assoc]
      have e2 : 65536 ^ (i + k) * (65536 * q + r) = 65536 ^ (i + k) * c + 65536 ^ (i + k) * o.getD (i + k) 0 + 65536 ^ (i + k) * (a.getD i 0 * b.getD k 0) := by rw [hd, Nat.mul_add, Nat.mul_add]
      rw [Nat.mul_add] at e2
      have e3 : 65536 ^ i * (a.getD i 0 * (numN b k + 65536 ^ k * b.getD k 0)) = 65536 ^ i * (a.getD i 0 * numN b k) + 65536 ^ (i + k) * (a.getD i 0 * b.getD k 0) := by
        rw [Nat.mul_add, Nat.mul_add, Nat.pow_add]
        congr 1
        rw [Nat.mul_left_comm (a.getD i 0), ← Nat.mul_assoc]
      rw [e1, e3]
      omega
    · rw [getD_set o _ _ _ (by omega), if_neg (by omega)]
      exact h4 j (by omega)
theorem outer_num (a b : List Nat) (ha : Dig a) (hb : Dig b) (i : Nat) (hi : i ≤ a.length) :
    numN (outerL a b i) (a.length + b.length) = numN a i * numN b b.length ∧ Dig (outerL a b i) ∧ ∀ j, i + b.length ≤ j → (outerL a b i).getD j 0 = 0 := by
  induction i with
  | zero =>
    refine ⟨by rw [outerL, numN_zero, numN, Nat.zero_mul], dig_zero _, fun j _ => ?_⟩
    rw [outerL, List.getD_eq_getElem?_getD, List.getElem?_replicate]
    split <;> rfl
  | succ i ih =>
    obtain ⟨h1, h2, h3⟩ := ih (by omega)
    have hl := outer_length a b i
    obtain ⟨g1, g2, g3, g4⟩ := inner_num a b i (a.length + b.length) (outerL a b i) ha hb h2 b.length (by omega) (by omega)
    have gl := inner_length a b i (outerL a b i) b.length
    have hz := (g4 (i + b.length) (Nat.le_refl _)).trans (h3 _ (Nat.le_refl _))
    simp only [outerL]
    have g5 : ∀ j, i + 1 + b.length ≤ j → (innerL a b i (outerL a b i) b.length).1.getD j 0 = 0 := fun j hj => (g4 j (by omega)).trans (h3 j (by omega))
    generalize (innerL a b i (outerL a b i) b.length).1 = o at *
    generalize (innerL a b i (outerL a b i) b.length).2 = c at *
    have hs := numN_set_in o (i + b.length) c (a.length + b.length) (by omega) (by omega)
    rw [hz, Nat.mul_zero, Nat.add_zero] at hs
    refine ⟨?_, dig_set g2 _ _ (by omega) g3, fun j hj => ?_⟩
    · rw [hs, g1, h1, numN, Nat.add_mul, Nat.mul_assoc]
    · rw [getD_set o _ _ _ (by omega), if_neg (by omega)]
      exact g5 j hj
/-- a list of digits as a number -/
def V (l : List Nat) : Nat := numN l l.length
theorem times_num (a b : List Nat) (ha : Dig a) (hb : Dig b) : V (timesL a b) = V a * V b ∧ Dig (timesL a b) := by
  obtain ⟨h1, h2, _⟩ := outer_num a b ha hb a.length (Nat.le_refl _)
  unfold V
  rw [times_length]
  exact ⟨h1, h2⟩

/-! ### above -/
theorem above_num (a b : List Nat) (ha : Dig a) (hb : Dig b) (n : Nat) : aboveL a b n = decide (numN b n < numN a n) := by
  induction n with
  | zero => rfl
  | succ n ih =>
    have h1 := numN_lt ha n
    have h2 := numN_lt hb n
    rw [aboveL, ih, numN, numN]
    by_cases e : a.getD n 0 = b.getD n 0
    · rw [if_pos e, e, decide_eq_decide]
      omega
    · rw [if_neg e, decide_eq_decide]
      generalize a.getD n 0 = x at *
      generalize b.getD n 0 = y at *
      rcases Nat.lt_or_ge y x with h | h
      · have h3 : 65536 ^ n * (y + 1) ≤ 65536 ^ n * x := Nat.mul_le_mul_left _ h
        rw [Nat.mul_add, Nat.mul_one] at h3
        omega
      · have h3 : 65536 ^ n * (x + 1) ≤ 65536 ^ n * y := Nat.mul_le_mul_left _ (by omega)
        rw [Nat.mul_add, Nat.mul_one] at h3
        omega
theorem above_V (a b : List Nat) (ha : Dig a) (hb : Dig b) : aboveL a b (a.length + b.length) = decide (V b < V a) := by
  rw [above_num a b ha hb, numN_past a _ (by omega), numN_past b _ (by omega)]
  rfl

/-! ### one digit -/
theorem numN_digit (l : List Nat) (h : Dig l) (n i : Nat) (hi : i < n) : numN l n / 65536 ^ i % 65536 = l.getD i 0 := by
  have hp : 0 < 65536 ^ i := Nat.pow_pos (by decide)
  induction n with
  | zero => omega
  | succ n ih =>
    rw [numN]
    by_cases e : i = n
    · subst e
      rw [Nat.add_mul_div_left _ _ hp, Nat.div_eq_of_lt (numN_lt h i), Nat.zero_add, Nat.mod_eq_of_lt (h i)]
    · obtain ⟨k, rfl⟩ : ∃ k, n = i + 1 + k := ⟨n - i - 1, by omega⟩
      rw [show 65536 ^ (i + 1 + k) * l.getD (i + 1 + k) 0 = 65536 ^ i * (65536 * (65536 ^ k * l.getD (i + 1 + k) 0)) by rw [Nat.pow_add, Nat.pow_succ]; simp only [Nat.mul_assoc], Nat.add_mul_div_left _ _ hp, Nat.add_mul_mod_self_left]
      exact ih (by omega)

/-! ### a root, digit by digit: c digits behind the point -/
def powL (r : List Nat) : Nat → List Nat
  | 0 => r
  | d + 1 => timesL (powL r d) r
theorem pow_num (r : List Nat) (h : Dig r) (e : Nat) : V (powL r e) = V r ^ (e + 1) ∧ Dig (powL r e) := by
  induction e with
  | zero => exact ⟨by rw [powL, Nat.zero_add, Nat.pow_one], h⟩
  | succ e ih =>
    obtain ⟨h1, h2⟩ := times_num (powL r e) r ih.2 h
    exact ⟨by rw [powL, h1, ih.1, ← Nat.pow_succ], h2⟩
theorem pow_length (r : List Nat) (e : Nat) : (powL r e).length = r.length * (e + 1) := by
  induction e with
  | zero => rw [powL, Nat.zero_add, Nat.mul_one]
  | succ e ih => rw [powL, times_length, ih, Nat.mul_succ r.length (e + 1)]
def wholeL (c p d : Nat) : List Nat := (List.replicate (c * d + 1) 0).set (c * d) p
theorem whole_length (c p d : Nat) : (wholeL c p d).length = c * d + 1 := by simp [wholeL]
theorem whole_num (c p d : Nat) (hp : p < 65536) : V (wholeL c p d) = 65536 ^ (c * d) * p ∧ Dig (wholeL c p d) := by
  have hl : c * d < (List.replicate (c * d + 1) 0).length := by simp
  refine ⟨?_, dig_set (dig_zero _) _ _ hl hp⟩
  have h := numN_set_in (List.replicate (c * d + 1) 0) (c * d) p (c * d + 1) hl (Nat.lt_succ_self _)
  have hz : (List.replicate (c * d + 1) 0).getD (c * d) 0 = 0 := by
    rw [List.getD_eq_getElem?_getD, List.getElem?_replicate]
    split <;> rfl
  rw [numN_zero, hz, Nat.mul_zero, Nat.add_zero, Nat.zero_add] at h
  unfold V
  rw [whole_length]
  exact h
def triedL (r : List Nat) (m : Nat) : List Nat := r.set (m / 16) ((r.getD (m / 16) 0 + 2 ^ (m % 16)) % 18446744073709551616)
theorem tried_length (r : List Nat) (m : Nat) : (triedL r m).length = r.length := by simp [triedL]
theorem place (m : Nat) : 2 ^ m = 65536 ^ (m / 16) * 2 ^ (m % 16) := by
  rw [show (65536 : Nat) = 2 ^ 16 from rfl, ← Nat.pow_mul, ← Nat.pow_add, Nat.div_add_mod]
theorem digit_room (r : List Nat) (h : Dig r) (m : Nat) (hm : m / 16 < r.length) (hd : 2 ^ (m + 1) ∣ V r) : r.getD (m / 16) 0 + 2 ^ (m % 16) < 65536 := by
  obtain ⟨q, hq⟩ := hd
  have hx := numN_digit r h r.length (m / 16) hm
  have hj : m % 16 < 16 := Nat.mod_lt _ (by decide)
  have hp : 0 < 65536 ^ (m / 16) := Nat.pow_pos (by decide)
  obtain ⟨k, hk⟩ : ∃ k, 15 - m % 16 = k := ⟨_, rfl⟩
  have e1 : 2 ^ (m + 1) * q = 65536 ^ (m / 16) * (2 ^ (m % 16 + 1) * q) := by
    rw [Nat.pow_succ, place m, Nat.pow_succ]
    simp only [Nat.mul_assoc]
  have e2 : 65536 = 2 ^ (m % 16 + 1) * 2 ^ k := by rw [← Nat.pow_add, show m % 16 + 1 + k = 16 by omega]
  have hV : numN r r.length = 2 ^ (m + 1) * q := hq
  rw [hV, e1, Nat.mul_div_cancel_left _ hp] at hx
  rw [show 2 ^ (m % 16 + 1) * q % 65536 = 2 ^ (m % 16 + 1) * q % (2 ^ (m % 16 + 1) * 2 ^ k) by rw [← e2], Nat.mul_mod_mul_left] at hx
  have ht : q % 2 ^ k < 2 ^ k := Nat.mod_lt _ (Nat.two_pow_pos _)
  have h3 : 2 ^ (m % 16 + 1) * (q % 2 ^ k + 1) ≤ 2 ^ (m % 16 + 1) * 2 ^ k := Nat.mul_le_mul_left _ ht
  rw [← e2, Nat.mul_add, Nat.mul_one, hx, Nat.pow_succ] at h3
  have := Nat.two_pow_pos (m % 16)
  omega
theorem tried_num (r : List Nat) (h : Dig r) (m : Nat) (hm : m / 16 < r.length) (hd : 2 ^ (m + 1) ∣ V r) : V (triedL r m) = V r + 2 ^ m ∧ Dig (triedL r m) ∧ (triedL r m).getD (m / 16) 0 = r.getD (m / 16) 0 + 2 ^ (m % 16) ∧ r.getD (m / 16) 0 + 2 ^ (m % 16) < 65536 := by
  have hr := digit_room r h m hm hd
  have e : triedL r m = r.set (m / 16) (r.getD (m / 16) 0 + 2 ^ (m % 16)) := by
    unfold triedL
    rw [Nat.mod_eq_of_lt (by omega)]
  have hs := numN_set_in r (m / 16) (r.getD (m / 16) 0 + 2 ^ (m % 16)) r.length hm hm
  refine ⟨?_, by rw [e]; exact dig_set h _ _ hm hr, by rw [e, getD_set r _ _ _ hm, if_pos rfl], hr⟩
  unfold V
  rw [tried_length, e, place m]
  rw [Nat.mul_add] at hs
  omega
def stepL (c p d : Nat) (r : List Nat) (m : Nat) : List Nat :=
  if aboveL (powL (triedL r m) (d - 1)) (wholeL c p d) ((c + 1) * (d - 1 + 1) + (c * d + 1)) = true then (triedL r m).set (m / 16) (((triedL r m).getD (m / 16) 0 + 18446744073709551616 - 2 ^ (m % 16)) % 18446744073709551616) else triedL r m
theorem set_back (r : List Nat) (i y : Nat) (h : i < r.length) : (r.set i y).set i (r.getD i 0) = r := by
  rw [List.set_set, List.getD_eq_getElem?_getD, List.getElem?_eq_getElem h]
  simp
theorem step_is (c p d : Nat) (r : List Nat) (m : Nat) (hp : p < 65536) (hd : 1 ≤ d) (hl : r.length = c + 1) (h : Dig r) (hm : m / 16 < c + 1) (hdv : 2 ^ (m + 1) ∣ V r) :
    stepL c p d r m = if 65536 ^ (c * d) * p < (V r + 2 ^ m) ^ d then r else triedL r m := by
  obtain ⟨h1, h2, h3, h4⟩ := tried_num r h m (by omega) hdv
  obtain ⟨w1, w2⟩ := whole_num c p d hp
  obtain ⟨q1, q2⟩ := pow_num (triedL r m) h2 (d - 1)
  have ha := above_V (powL (triedL r m) (d - 1)) (wholeL c p d) q2 w2
  rw [pow_length, whole_length, tried_length, hl, w1, q1, h1, show d - 1 + 1 = d by omega] at ha
  unfold stepL
  rw [show d - 1 + 1 = d by omega, ha]
  by_cases hc : 65536 ^ (c * d) * p < (V r + 2 ^ m) ^ d
  · rw [if_pos (by simpa using hc), if_pos hc, h3]
    have hpow : 2 ^ (m % 16) ≤ 65536 := by omega
    rw [show (r.getD (m / 16) 0 + 2 ^ (m % 16) + 18446744073709551616 - 2 ^ (m % 16)) % 18446744073709551616 = r.getD (m / 16) 0 by
      generalize 2 ^ (m % 16) = T at *
      generalize r.getD (m / 16) 0 = x at *
      omega]
    exact set_back r _ _ (by omega)
  · rw [if_neg (by simpa using hc), if_neg hc]
def digitsL (c p d : Nat) : Nat → List Nat
  | 0 => List.replicate (c + 1) 0
  | n + 1 => stepL c p d (digitsL c p d n) (16 * c + 4 - n)
theorem step_length (c p d : Nat) (r : List Nat) (m : Nat) : (stepL c p d r m).length = r.length := by
  unfold stepL
  split
  · rw [List.length_set, tried_length]
  · exact tried_length r m
theorem digits_length (c p d n : Nat) : (digitsL c p d n).length = c + 1 := by
  induction n with
  | zero => simp [digitsL]
  | succ n ih => rw [digitsL, step_length, ih]
theorem digits_num (c p d R : Nat) (hp : p < 65536) (hd : 1 ≤ d) (h1 : R ^ d ≤ 65536 ^ (c * d) * p) (h2 : 65536 ^ (c * d) * p < (R + 1) ^ d) (hR : R < 2 ^ (16 * c + 5)) (n : Nat) (hn : n ≤ 16 * c + 5) :
    V (digitsL c p d n) = 2 ^ (16 * c + 5 - n) * (R / 2 ^ (16 * c + 5 - n)) ∧ Dig (digitsL c p d n) := by
  induction n with
  | zero =>
    refine ⟨?_, dig_zero _⟩
    rw [Nat.sub_zero, Nat.div_eq_of_lt hR, Nat.mul_zero]
    exact numN_zero _ _
  | succ n ih =>
    obtain ⟨v1, v2⟩ := ih (by omega)
    obtain ⟨m, hm⟩ : ∃ m, 16 * c + 4 - n = m := ⟨_, rfl⟩
    have e1 : 16 * c + 5 - n = m + 1 := by omega
    have e2 : 16 * c + 5 - (n + 1) = m := by omega
    have hl := digits_length c p d n
    rw [e1] at v1
    rw [e2, digitsL, hm]
    generalize digitsL c p d n = r at *
    have hs := step_is c p d r m hp hd hl v2 (by omega) ⟨_, v1⟩
    obtain ⟨t1, t2, _, _⟩ := tried_num r v2 m (by omega) ⟨_, v1⟩
    have hpos := Nat.two_pow_pos m
    have hq : R / 2 ^ (m + 1) = R / 2 ^ m / 2 := by rw [Nat.pow_succ, Nat.div_div_eq_div_mul]
    have hR1 := Nat.div_add_mod R (2 ^ m)
    have hR2 := Nat.mod_lt R hpos
    rw [hq, Nat.pow_succ, Nat.mul_assoc] at v1
    have hb := Nat.div_add_mod (R / 2 ^ m) 2
    have hb2 := Nat.mod_lt (R / 2 ^ m) (show 2 > 0 by decide)
    generalize R / 2 ^ m = Q at *
    rw [hs]
    by_cases hbit : Q % 2 = 1
    · have e3 : V r + 2 ^ m = 2 ^ m * Q := by
        rw [v1, ← Nat.mul_succ]
        congr 1
        omega
      have hle : (V r + 2 ^ m) ^ d ≤ R ^ d := Nat.pow_le_pow_left (by rw [e3]; omega) d
      rw [if_neg (by omega), t1, e3]
      exact ⟨rfl, t2⟩
    · have e3 : V r = 2 ^ m * Q := by
        rw [v1]
        congr 1
        omega
      have hge : (R + 1) ^ d ≤ (V r + 2 ^ m) ^ d := Nat.pow_le_pow_left (by rw [e3]; omega) d
      rw [if_pos (by omega)]
      exact ⟨e3, v2⟩
/-- the digits at the end, as a number -/
theorem digits_end (c p d R : Nat) (hp : p < 65536) (hd : 1 ≤ d) (h1 : R ^ d ≤ 65536 ^ (c * d) * p) (h2 : 65536 ^ (c * d) * p < (R + 1) ^ d) (hR : R < 2 ^ (16 * c + 5)) :
    numN (digitsL c p d (16 * c + 5)) (c + 1) = R ∧ Dig (digitsL c p d (16 * c + 5)) := by
  have h := digits_num c p d R hp hd h1 h2 hR (16 * c + 5) (Nat.le_refl _)
  rw [Nat.sub_self, Nat.pow_zero, Nat.one_mul, Nat.div_one] at h
  have hl := digits_length c p d (16 * c + 5)
  unfold V at h
  rw [hl] at h
  exact h
/-- the first four digits behind the point as one word -/
def valL (r : List Nat) : Nat → Nat
  | 0 => 0
  | j + 1 => (valL r j * 65536 + r.getD (3 - j) 0) % 18446744073709551616
theorem val_lt (r : List Nat) (j : Nat) : valL r j < 18446744073709551616 := by
  cases j with
  | zero => show 0 < _; decide
  | succ j => exact Nat.mod_lt _ (by decide)
def rootL (p d : Nat) : Nat := valL (digitsL 4 p d 69) 4
theorem root_val (p d R : Nat) (hp : p < 65536) (hd : 1 ≤ d) (h1 : R ^ d ≤ 65536 ^ (4 * d) * p) (h2 : 65536 ^ (4 * d) * p < (R + 1) ^ d) (hR : R < 590295810358705651712) : rootL p d = R % 18446744073709551616 := by
  obtain ⟨h, hD⟩ := digits_end 4 p d R hp hd h1 h2 hR
  unfold rootL
  rw [show 16 * 4 + 5 = 69 from rfl] at h hD
  generalize digitsL 4 p d 69 = r at *
  have d0 := hD 0
  have d1 := hD 1
  have d2 := hD 2
  have d3 := hD 3
  have d4 := hD 4
  simp only [numN] at h
  simp only [valL]
  simp only [Nat.sub_zero, show 3 - 1 = 2 from rfl, show 3 - 2 = 1 from rfl, show 3 - 3 = 0 from rfl]
  generalize r.getD 0 0 = x0 at *
  generalize r.getD 1 0 = x1 at *
  generalize r.getD 2 0 = x2 at *
  generalize r.getD 3 0 = x3 at *
  generalize r.getD 4 0 = x4 at *
  omega
end Go.Proofs.YtgefhfcmiefocaaGreatDoor.T

/- The contracts of the reference's times and above: numbers of digits. -/
namespace Go.Proofs.YtgefhfcmiefocaaGreatDoor.T
open Go.RowKit
set_option maxRecDepth 100000

theorem info27 : (Tryz.prog.info? 29).map (fun i => (i.zero, i.size, i.bytes)) = some (some (.int .u64 0), 1, 8) := by kernel_rfl

theorem inner_carry (a b : List Nat) (i : Nat) (out : List Nat) (k : Nat) : (innerL a b i out k).2 < 18446744073709551616 := by
  cases k with
  | zero => show 0 < _; decide
  | succ k => simp only [innerL]; omega

/-! ### rows of them in memory -/
/-- digits lie there -/
def Digs (w : World) (g : Nat) (l : List Nat) : Prop := ∀ i, i < l.length → w.cell? ⟨g, i, none⟩ = some (w64 (l.getD i 0))
theorem Digs.on {w w' : World} {g : Nat} {l : List Nat} (h : Digs w g l) (hb : Below w.heap.size w w') : Digs w' g l := fun i hi => by
  have h1 := h i hi
  exact (hb.cell (p := ⟨g, i, none⟩) (World.block_lt_of_cell? w _ h1)).trans h1
theorem own_dig {w : World} {B g n cap : Nat} {e : TypeId} {l : List Nat} (h : w.ownsRow B e 1 (.slice (some ⟨g, 0, none⟩) n cap) n (l.map w64)) : Digs w g l := fun i hi => by
  have hn : l.length = n := by simpa using h.1
  rw [h.cellAt i (by omega), List.getElem?_map, List.getElem?_eq_getElem hi, List.getD_eq_getElem?_getD, List.getElem?_eq_getElem hi]
  rfl
theorem own_put {w : World} {B g n cap : Nat} {e : TypeId} {l : List Nat} (h : w.ownsRow B e 1 (.slice (some ⟨g, 0, none⟩) n cap) n (l.map w64)) (j x : Nat) :
    (w.setCell ⟨g, j, none⟩ (w64 x)).ownsRow B e 1 (.slice (some ⟨g, 0, none⟩) n cap) n ((l.set j x).map w64) := by
  rw [List.map_set]
  exact (h.stored j _).1
theorem step_s (C O M : Nat) : IntKind.u64.wrap (IntKind.u64.wrap ((C : Int) + (O : Int)) + IntKind.u64.wrap (M : Int)) = (((C + O + M) % 18446744073709551616 : Nat) : Int) := by
  rw [IntKind.wrap_u64, IntKind.wrap_u64, IntKind.wrap_u64]
  omega
theorem step_q (C O M : Nat) : IntKind.u64.wrap ((IntKind.u64.wrap (IntKind.u64.wrap ((C : Int) + (O : Int)) + IntKind.u64.wrap (M : Int))).tdiv 65536) = (((C + O + M) % 18446744073709551616 / 65536 : Nat) : Int) := by
  rw [step_s, Int.tdiv_eq_ediv_of_nonneg (by omega), IntKind.wrap_u64]
  omega
theorem step_r (C O M : Nat) : (IntKind.u64.wrap (IntKind.u64.wrap ((C : Int) + (O : Int)) + IntKind.u64.wrap (M : Int))).tmod 65536 = (((C + O + M) % 18446744073709551616 % 65536 : Nat) : Int) := by
  rw [step_s, Int.tmod_eq_emod_of_nonneg (by omega)]
  omega
theorem own_putv {w : World} {B g n cap : Nat} {e : TypeId} {l : List Nat} (h : w.ownsRow B e 1 (.slice (some ⟨g, 0, none⟩) n cap) n (l.map w64)) (j x : Nat) (v : Value) (hv : v = w64 x) :
    (w.setCell ⟨g, j, none⟩ v).ownsRow B e 1 (.slice (some ⟨g, 0, none⟩) n cap) n ((l.set j x).map w64) := by
  rw [hv]
  exact own_put h j x
theorem made_zeros (n : Nat) : (madeCells #[Value.int .u64 0] n).toList = (List.replicate n 0).map w64 := by
  rw [List.map_replicate, toList_madeCells_one]
  rfl
theorem getD_past {l : List Nat} {i : Nat} (h : ¬ i < l.length) : l.getD i 0 = 0 := by
  rw [List.getD_eq_getElem?_getD, List.getElem?_eq_none (by omega)]
  rfl

end Go.Proofs.YtgefhfcmiefocaaGreatDoor.T

/- The contracts of the reference's small calls on words: a word turned right, a word moved right. -/
namespace Go.Proofs.YtgefhfcmiefocaaGreatDoor.T
open Go.RowKit
set_option maxRecDepth 100000

theorem two_pow_le (k : Nat) (h : k ≤ 63) : 2 ^ k ≤ 9223372036854775808 := by
  have := Nat.pow_le_pow_right (n := 2) (by decide) h
  exact Nat.le_trans this (by decide)

theorem two_pow_lt (k : Nat) (h : k < 63) : 2 ^ k ≤ 4611686018427387904 := by
  have := Nat.pow_le_pow_right (n := 2) (by decide) (show k ≤ 62 by omega)
  exact Nat.le_trans this (by decide)
theorem turn_eq (x n : Nat) : ((x : Int) / ((2 ^ n : Nat) : Int) + (x : Int) % ((2 ^ n : Nat) : Int) * ((2 ^ (64 - n) : Nat) : Int)) = ((rotr x n : Nat) : Int) := by
  unfold rotr
  rw [Int.natCast_add, Int.natCast_mul, Int.natCast_ediv, Int.natCast_emod]

set_option maxHeartbeats 400000 in
theorem turn_any (x n : Nat) (w : World) (hx : x < 18446744073709551616) (h1 : 0 < n) (h2 : n < 64) :
    Calls Tryz.prog 120 #[.int .u64 x, .int .i64 n] w fun e w' => e = .returned (.int .u64 (rotr x n)) ∧ ∃ n, w' = w.drewN n := by
  go_enter Tryz.func120, Tryz.ntmps120
  go_wp2
  go_loopw [5, 6] (fun p i wr => ∃ k : Nat, k ≤ n ∧ i = .int .i64 k ∧ p = .int .u64 ((2 ^ k : Nat) : Int) ∧ wr = w) (fun _ i _ => n - (intOf i).toNat)
  case atStart => exact ⟨0, Nat.zero_le _, rfl, rfl, rfl⟩
  case round =>
    obtain ⟨k, hk, rfl, rfl, rfl⟩ := hrel
    by_cases hlt : k < n
    · have hp := two_pow_lt k (by omega)
      have HS := Lib.hid (Nat.pow_succ 2 k)
      generalize 2 ^ k = P at *
      go_wp2
      go_roundw
      case rel =>
        refine ⟨k + 1, by omega, by go_num, val_int ?_, trivial⟩
        rw [HS.out]
        omega
      case measure => simp [intOf]; omega
    · obtain rfl : k = n := by omega
      have hp := two_pow_le k (by omega)
      have h0 : 0 < 2 ^ k := Nat.two_pow_pos k
      have HE := Lib.hid (turn_eq x k)
      generalize 2 ^ k = P at *
      go_wp2
      go_loopw [7, 8] (fun q i wv => ∃ m : Nat, k ≤ m ∧ m ≤ 64 ∧ i = .int .i64 m ∧ q = .int .u64 ((2 ^ (m - k) : Nat) : Int) ∧ wv = wr) (fun _ i _ => 64 - (intOf i).toNat)
      case atStart => exact ⟨k, by omega, by omega, rfl, by rw [Nat.sub_self]; rfl, rfl⟩
      case round =>
        obtain ⟨m, hm1, hm2, rfl, rfl, rfl⟩ := hrel
        by_cases hlt : m < 64
        · have hp2 := two_pow_lt (m - k) (by omega)
          have HS : Hid (2 ^ (m + 1 - k) = 2 ^ (m - k) * 2) := Lib.hid (by rw [← Nat.pow_succ]; congr 1; omega)
          generalize 2 ^ (m - k) = P2 at *
          go_wp2
          go_roundw
          case rel =>
            refine ⟨m + 1, by omega, by omega, by go_num, val_int ?_, trivial⟩
            rw [HS.out]
            omega
          case measure => simp [intOf]; omega
        · obtain rfl : m = 64 := by omega
          have hq := two_pow_le (64 - k) (by omega)
          generalize 2 ^ (64 - k) = Q at *
          have hd : 0 ≤ (x : Int) / (P : Int) := Int.ediv_nonneg (by omega) (by omega)
          have hm : 0 ≤ (x : Int) % (P : Int) * (Q : Int) := Int.mul_nonneg (Int.emod_nonneg _ (by omega)) (by omega)
          have hr := rotr_lt x k hx (by omega)
          have he := HE.out
          have hz : (P : Int) ≠ 0 := by omega
          go_wp2
          go_quiet (fail)
          go_wp2
          go_ret
          exact ⟨rfl, _, rfl⟩

set_option maxHeartbeats 400000 in
theorem move_any (x n : Nat) (w : World) (hx : x < 18446744073709551616) (h2 : n < 64) :
    Calls Tryz.prog 121 #[.int .u64 x, .int .i64 n] w fun e w' => e = .returned (.int .u64 ((x / 2 ^ n : Nat) : Int)) ∧ w' = w := by
  go_enter Tryz.func121, Tryz.ntmps121
  go_wp2
  go_loopw [0, 5] (fun v i wr => ∃ k : Nat, k ≤ n ∧ i = .int .i64 k ∧ v = .int .u64 ((x / 2 ^ k : Nat) : Int) ∧ wr = w) (fun _ i _ => n - (intOf i).toNat)
  case atStart => exact ⟨0, Nat.zero_le _, rfl, by simp, rfl⟩
  case round =>
    obtain ⟨k, hk, rfl, rfl, rfl⟩ := hrel
    by_cases hlt : k < n
    · have HS : Hid (x / 2 ^ (k + 1) = x / 2 ^ k / 2) := Lib.hid (by rw [Nat.pow_succ, Nat.div_div_eq_div_mul])
      have hl : x / 2 ^ k < 18446744073709551616 := Nat.lt_of_le_of_lt (Nat.div_le_self _ _) hx
      generalize x / 2 ^ k = y at *
      go_wp2
      go_roundw
      case rel =>
        refine ⟨k + 1, by omega, by go_num, val_int ?_, trivial⟩
        rw [HS.out]
        omega
      case measure => simp [intOf]; omega
    · obtain rfl : k = n := by omega
      go_wp2
      go_ret
      exact ⟨rfl, rfl⟩
end Go.Proofs.YtgefhfcmiefocaaGreatDoor.T

/- The contract of the reference's root: a root's first bits, digit by digit. -/
namespace Go.Proofs.YtgefhfcmiefocaaGreatDoor.T
open Go.RowKit
set_option maxRecDepth 100000

theorem Digs.far {w : World} {g : Nat} {l : List Nat} (h : Digs w g l) {p : Addr} (hp : p.block ≠ g) (v : Value) : Digs (w.setCell p v) g l := fun i hi => by
  rw [World.cell?_setCell_other w p ⟨g, i, none⟩ v (fun e => hp (by rw [e]))]
  exact h i hi
theorem Digs.lt {w : World} {g : Nat} {l : List Nat} (h : Digs w g l) (h0 : 0 < l.length) : g < w.heap.size := World.block_lt_of_cell? w ⟨g, 0, none⟩ (h 0 h0)
theorem plus64 (x t : Nat) : IntKind.u64.wrap ((x : Int) + (t : Int)) = (((x + t) % 18446744073709551616 : Nat) : Int) := by
  rw [IntKind.wrap_u64]
  omega
theorem minus64 (x t : Nat) (ht : t ≤ 18446744073709551616) : IntKind.u64.wrap ((x : Int) - (t : Int)) = (((x + 18446744073709551616 - t) % 18446744073709551616 : Nat) : Int) := by
  rw [IntKind.wrap_u64]
  omega
theorem val_step (v x : Nat) : IntKind.u64.wrap (IntKind.u64.wrap ((v : Int) * 65536) + (x : Int)) = (((v * 65536 + x) % 18446744073709551616 : Nat) : Int) := by
  rw [IntKind.wrap_u64, IntKind.wrap_u64]
  omega

end Go.Proofs.YtgefhfcmiefocaaGreatDoor.T

/- The primes by a sieve; the roots' first bits are the constants. -/
namespace Go.Proofs.YtgefhfcmiefocaaGreatDoor.T

def sieveL : Nat → List Nat
  | 0 => []
  | t + 1 => if (sieveL t).all (fun p => decide ((2 + t) % p ≠ 0)) = true then sieveL t ++ [2 + t] else sieveL t
theorem sieve_in (t : Nat) : ∀ p ∈ sieveL t, 2 ≤ p ∧ p < 2 + t := by
  induction t with
  | zero => intro p h; cases h
  | succ t ih =>
    intro p h
    rw [sieveL] at h
    split at h
    · rw [List.mem_append, List.mem_singleton] at h
      rcases h with h | rfl
      · have := ih p h; omega
      · omega
    · have := ih p h; omega
theorem sieve_grows (t : Nat) : (sieveL t).length ≤ (sieveL (t + 1)).length ∧ (sieveL (t + 1)).length ≤ (sieveL t).length + 1 := by
  rw [sieveL]
  split
  · simp
  · omega
theorem sieve_mono (t k : Nat) : (sieveL t).length ≤ (sieveL (t + k)).length := by
  induction k with
  | zero => exact Nat.le_refl _
  | succ k ih => exact Nat.le_trans ih (sieve_grows (t + k)).1
theorem sieve_length (t : Nat) : (sieveL t).length ≤ t := by
  induction t with
  | zero => exact Nat.le_refl _
  | succ t ih => have := (sieve_grows t).2; omega
theorem all_next (o : List Nat) (f : Nat → Bool) (k : Nat) (h : k < o.length) : (o.take (k + 1)).all f = ((o.take k).all f && f (o.getD k 0)) := by
  rw [List.take_add_one, List.getElem?_eq_getElem h, List.getD_eq_getElem?_getD, List.getElem?_eq_getElem h, List.all_append, Option.toList_some, List.all_cons, List.all_nil, Bool.and_true, Option.getD_some]
theorem getD_mem (o : List Nat) (k : Nat) (h : k < o.length) : o.getD k 0 ∈ o := by
  rw [List.getD_eq_getElem?_getD, List.getElem?_eq_getElem h]
  exact List.getElem_mem h

set_option maxRecDepth 100000
theorem sieve80 : sieveL 408 = [2, 3, 5, 7, 11, 13, 17, 19, 23, 29, 31, 37, 41, 43, 47, 53, 59, 61, 67, 71, 73, 79, 83, 89, 97, 101, 103, 107, 109, 113, 127, 131, 137, 139, 149, 151, 157, 163, 167, 173, 179, 181, 191, 193, 197, 199, 211, 223, 227, 229, 233, 239, 241, 251, 257, 263, 269, 271, 277, 281, 283, 293, 307, 311, 313, 317, 331, 337, 347, 349, 353, 359, 367, 373, 379, 383, 389, 397, 401, 409] := by decide +kernel
theorem sieve79 : (sieveL 407).length = 79 := by decide +kernel
theorem sieve8 : sieveL 18 = [2, 3, 5, 7, 11, 13, 17, 19] := by decide +kernel
theorem sieve7 : (sieveL 17).length = 7 := by decide +kernel
theorem root_of (p d R x : Nat) (h : (decide (p < 65536) && decide (1 ≤ d) && decide (R ^ d ≤ 65536 ^ (4 * d) * p) && decide (65536 ^ (4 * d) * p < (R + 1) ^ d) && decide (R < 590295810358705651712) && decide (R % 18446744073709551616 = x)) = true) : rootL p d = x := by
  simp only [Bool.and_eq_true, decide_eq_true_eq] at h
  obtain ⟨⟨⟨⟨⟨h1, h2⟩, h3⟩, h4⟩, h5⟩, h6⟩ := h
  rw [root_val p d R h1 h2 h3 h4 h5, h6]
theorem square2 : rootL 2 2 = 7640891576956012808 := root_of 2 2 26087635650665564424 7640891576956012808 (by decide +kernel)
theorem square3 : rootL 3 2 = 13503953896175478587 := root_of 3 2 31950697969885030203 13503953896175478587 (by decide +kernel)
theorem square5 : rootL 5 2 = 4354685564936845355 := root_of 5 2 41248173712355948587 4354685564936845355 (by decide +kernel)
theorem square7 : rootL 7 2 = 11912009170470909681 := root_of 7 2 48805497317890012913 11912009170470909681 (by decide +kernel)
theorem square11 : rootL 11 2 = 5840696475078001361 := root_of 11 2 61180928696206656209 5840696475078001361 (by decide +kernel)
theorem square13 : rootL 13 2 = 11170449401992604703 := root_of 13 2 66510681623121259551 11170449401992604703 (by decide +kernel)
theorem square17 : rootL 17 2 = 2270897969802886507 := root_of 17 2 76057874264641092971 2270897969802886507 (by decide +kernel)
theorem square19 : rootL 19 2 = 6620516959819538809 := root_of 19 2 80407493254657745273 6620516959819538809 (by decide +kernel)
theorem cube2 : rootL 2 3 = 4794697086780616226 := root_of 2 3 23241441160490167842 4794697086780616226 (by decide +kernel)
theorem cube3 : rootL 3 3 = 8158064640168781261 := root_of 3 3 26604808713878332877 8158064640168781261 (by decide +kernel)
theorem cube5 : rootL 5 3 = 13096744586834688815 := root_of 5 3 31543488660544240431 13096744586834688815 (by decide +kernel)
theorem cube7 : rootL 7 3 = 16840607885511220156 := root_of 7 3 35287351959220771772 16840607885511220156 (by decide +kernel)
theorem cube11 : rootL 11 3 = 4131703408338449720 := root_of 11 3 41025191555757552952 4131703408338449720 (by decide +kernel)
theorem cube13 : rootL 13 3 = 6480981068601479193 := root_of 13 3 43374469216020582425 6480981068601479193 (by decide +kernel)
theorem cube17 : rootL 17 3 = 10538285296894168987 := root_of 17 3 47431773444313272219 10538285296894168987 (by decide +kernel)
theorem cube19 : rootL 19 3 = 12329834152419229976 := root_of 19 3 49223322299838333208 12329834152419229976 (by decide +kernel)
theorem cube23 : rootL 23 3 = 15566598209576043074 := root_of 23 3 52460086356995146306 15566598209576043074 (by decide +kernel)
theorem cube29 : rootL 29 3 = 1334009975649890238 := root_of 29 3 56674242196778545086 1334009975649890238 (by decide +kernel)
theorem cube31 : rootL 31 3 = 2608012711638119052 := root_of 31 3 57948244932766773900 2608012711638119052 (by decide +kernel)
theorem cube37 : rootL 37 3 = 6128411473006802146 := root_of 37 3 61468643694135456994 6128411473006802146 (by decide +kernel)
theorem cube41 : rootL 41 3 = 8268148722764581231 := root_of 41 3 63608380943893236079 8268148722764581231 (by decide +kernel)
theorem cube43 : rootL 43 3 = 9286055187155687089 := root_of 43 3 64626287408284341937 9286055187155687089 (by decide +kernel)
theorem cube47 : rootL 47 3 = 11230858885718282805 := root_of 47 3 66571091106846937653 11230858885718282805 (by decide +kernel)
theorem cube53 : rootL 53 3 = 13951009754708518548 := root_of 53 3 69291241975837173396 13951009754708518548 (by decide +kernel)
theorem cube59 : rootL 59 3 = 16472876342353939154 := root_of 59 3 71813108563482594002 16472876342353939154 (by decide +kernel)
theorem cube61 : rootL 61 3 = 17275323862435702243 := root_of 61 3 72615556083564357091 17275323862435702243 (by decide +kernel)
theorem cube67 : rootL 67 3 = 1135362057144423861 := root_of 67 3 74922338351982630325 1135362057144423861 (by decide +kernel)
theorem cube71 : rootL 71 3 = 2597628984639134821 := root_of 71 3 76384605279477341285 2597628984639134821 (by decide +kernel)
theorem cube73 : rootL 73 3 = 3308224258029322869 := root_of 73 3 77095200552867529333 3308224258029322869 (by decide +kernel)
theorem cube79 : rootL 79 3 = 5365058923640841347 := root_of 79 3 79152035218479047811 5365058923640841347 (by decide +kernel)
theorem cube83 : rootL 83 3 = 6679025012923562964 := root_of 83 3 80466001307761769428 6679025012923562964 (by decide +kernel)
theorem cube89 : rootL 89 3 = 8573033837759648693 := root_of 89 3 82360010132597855157 8573033837759648693 (by decide +kernel)
theorem cube97 : rootL 97 3 = 10970295158949994411 := root_of 97 3 84757271453788200875 10970295158949994411 (by decide +kernel)
theorem cube101 : rootL 101 3 = 12119686244451234320 := root_of 101 3 85906662539289440784 12119686244451234320 (by decide +kernel)
theorem cube103 : rootL 103 3 = 12683024718118986047 := root_of 103 3 86470001012957192511 12683024718118986047 (by decide +kernel)
theorem cube107 : rootL 107 3 = 13788192230050041572 := root_of 107 3 87575168524888248036 13788192230050041572 (by decide +kernel)
theorem cube109 : rootL 109 3 = 14330467153632333762 := root_of 109 3 88117443448470540226 14330467153632333762 (by decide +kernel)
theorem cube113 : rootL 113 3 = 15395433587784984357 := root_of 113 3 89182409882623190821 15395433587784984357 (by decide +kernel)
theorem cube127 : rootL 127 3 = 489312712824947311 := root_of 127 3 92723033081372705391 489312712824947311 (by decide +kernel)
theorem cube131 : rootL 131 3 = 1452737877330783856 := root_of 131 3 93686458245878541936 1452737877330783856 (by decide +kernel)
theorem cube137 : rootL 137 3 = 2861767655752347644 := root_of 137 3 95095488024300105724 2861767655752347644 (by decide +kernel)
theorem cube139 : rootL 139 3 = 3322285676063803686 := root_of 139 3 95556006044611561766 3322285676063803686 (by decide +kernel)
theorem cube149 : rootL 149 3 = 5560940570517711597 := root_of 149 3 97794660939065469677 5560940570517711597 (by decide +kernel)
theorem cube151 : rootL 151 3 = 5996557281743188959 := root_of 151 3 98230277650290947039 5996557281743188959 (by decide +kernel)
theorem cube157 : rootL 157 3 = 7280758554555802590 := root_of 157 3 99514478923103560670 7280758554555802590 (by decide +kernel)
theorem cube163 : rootL 163 3 = 8532644243296465576 := root_of 163 3 100766364611844223656 8532644243296465576 (by decide +kernel)
theorem cube167 : rootL 167 3 = 9350256976987008742 := root_of 167 3 101583977345534766822 9350256976987008742 (by decide +kernel)
theorem cube173 : rootL 173 3 = 10552545826968843579 := root_of 173 3 102786266195516601659 10552545826968843579 (by decide +kernel)
theorem cube179 : rootL 179 3 = 11727347734174303076 := root_of 179 3 103961068102722061156 11727347734174303076 (by decide +kernel)
theorem cube181 : rootL 181 3 = 12113106623233404929 := root_of 181 3 104346826991781163009 12113106623233404929 (by decide +kernel)
theorem cube191 : rootL 191 3 = 14000437183269869457 := root_of 191 3 106234157551817627537 14000437183269869457 (by decide +kernel)
theorem cube193 : rootL 193 3 = 14369950271660146224 := root_of 193 3 106603670640207904304 14369950271660146224 (by decide +kernel)
theorem cube197 : rootL 197 3 = 15101387698204529176 := root_of 197 3 107335108066752287256 15101387698204529176 (by decide +kernel)
theorem cube199 : rootL 199 3 = 15463397548674623760 := root_of 199 3 107697117917222381840 15463397548674623760 (by decide +kernel)
theorem cube211 : rootL 211 3 = 17586052441742319658 := root_of 211 3 109819772810290077738 17586052441742319658 (by decide +kernel)
theorem cube223 : rootL 223 3 = 1182934255886127544 := root_of 223 3 111863398698143437240 1182934255886127544 (by decide +kernel)
theorem cube227 : rootL 227 3 = 1847814050463011016 := root_of 227 3 112528278492720320712 1847814050463011016 (by decide +kernel)
theorem cube229 : rootL 229 3 = 2177327727835720531 := root_of 229 3 112857792170093030227 2177327727835720531 (by decide +kernel)
theorem cube233 : rootL 233 3 = 2830643537854262169 := root_of 233 3 113511107980111571865 2830643537854262169 (by decide +kernel)
theorem cube239 : rootL 239 3 = 3796741975233480872 := root_of 239 3 114477206417490790568 3796741975233480872 (by decide +kernel)
theorem cube241 : rootL 241 3 = 4115178125766777443 := root_of 241 3 114795642568024087139 4115178125766777443 (by decide +kernel)
theorem cube251 : rootL 251 3 = 5681478168544905931 := root_of 251 3 116361942610802215627 5681478168544905931 (by decide +kernel)
theorem cube257 : rootL 257 3 = 6601373596472566643 := root_of 257 3 117281838038729876339 6601373596472566643 (by decide +kernel)
theorem cube263 : rootL 263 3 = 7507060721942968483 := root_of 263 3 118187525164200278179 7507060721942968483 (by decide +kernel)
theorem cube269 : rootL 269 3 = 8399075790359081724 := root_of 269 3 119079540232616391420 8399075790359081724 (by decide +kernel)
theorem cube271 : rootL 271 3 = 8693463985226723168 := root_of 271 3 119373928427484032864 8693463985226723168 (by decide +kernel)
theorem cube277 : rootL 277 3 = 9568029438360202098 := root_of 277 3 120248493880617511794 9568029438360202098 (by decide +kernel)
theorem cube281 : rootL 281 3 = 10144078919501101548 := root_of 281 3 120824543361758411244 10144078919501101548 (by decide +kernel)
theorem cube283 : rootL 283 3 = 10430055236837252648 := root_of 283 3 121110519679094562344 10430055236837252648 (by decide +kernel)
theorem cube293 : rootL 293 3 = 11840083180663258601 := root_of 293 3 122520547622920568297 11840083180663258601 (by decide +kernel)
theorem cube307 : rootL 307 3 = 13761210420658862357 := root_of 307 3 124441674862916172053 13761210420658862357 (by decide +kernel)
theorem cube311 : rootL 311 3 = 14299343276471374635 := root_of 311 3 124979807718728684331 14299343276471374635 (by decide +kernel)
theorem cube313 : rootL 313 3 = 14566680578165727644 := root_of 313 3 125247145020423037340 14566680578165727644 (by decide +kernel)
theorem cube317 : rootL 317 3 = 15097957966210449927 := root_of 317 3 125778422408467759623 15097957966210449927 (by decide +kernel)
theorem cube331 : rootL 331 3 = 16922976911328602910 := root_of 331 3 127603441353585912606 16922976911328602910 (by decide +kernel)
theorem cube337 : rootL 337 3 = 17689382322260857208 := root_of 337 3 128369846764518166904 17689382322260857208 (by decide +kernel)
theorem cube347 : rootL 347 3 = 500013540394364858 := root_of 347 3 129627222056361226170 500013540394364858 (by decide +kernel)
theorem cube349 : rootL 349 3 = 748580250866718886 := root_of 349 3 129875788766833580198 748580250866718886 (by decide +kernel)
theorem cube353 : rootL 353 3 = 1242879168328830382 := root_of 353 3 130370087684295691694 1242879168328830382 (by decide +kernel)
theorem cube359 : rootL 359 3 = 1977374033974150939 := root_of 359 3 131104582549941012251 1977374033974150939 (by decide +kernel)
theorem cube367 : rootL 367 3 = 2944078676154940804 := root_of 367 3 132071287192121802116 2944078676154940804 (by decide +kernel)
theorem cube373 : rootL 373 3 = 3659926193048069267 := root_of 373 3 132787134709014930579 3659926193048069267 (by decide +kernel)
theorem cube379 : rootL 379 3 = 4368137639120453308 := root_of 379 3 133495346155087314620 4368137639120453308 (by decide +kernel)
theorem cube383 : rootL 383 3 = 4836135668995329356 := root_of 383 3 133963344184962190668 4836135668995329356 (by decide +kernel)
theorem cube389 : rootL 389 3 = 5532061633213252278 := root_of 389 3 134659270149180113590 5532061633213252278 (by decide +kernel)
theorem cube397 : rootL 397 3 = 6448918945643986474 := root_of 397 3 135576127461610847786 6448918945643986474 (by decide +kernel)
theorem cube401 : rootL 401 3 = 6902733635092675308 := root_of 401 3 136029942151059536620 6902733635092675308 (by decide +kernel)
theorem cube409 : rootL 409 3 = 7801388544844847127 := root_of 409 3 136928597060811708439 7801388544844847127 (by decide +kernel)
theorem squares : (sieveL 18).map (fun p => rootL p 2) = [h0.a, h0.b, h0.c, h0.d, h0.e, h0.f, h0.g, h0.h] := by
  rw [sieve8]
  simp only [List.map_cons, List.map_nil, square2, square3, square5, square7, square11, square13, square17, square19]
  rfl
theorem cubes : (sieveL 408).map (fun p => rootL p 3) = ks := by
  rw [sieve80]
  simp only [List.map_cons, List.map_nil, cube2, cube3, cube5, cube7, cube11, cube13, cube17, cube19, cube23, cube29, cube31, cube37, cube41, cube43, cube47, cube53, cube59, cube61, cube67, cube71, cube73, cube79, cube83, cube89, cube97, cube101, cube103, cube107, cube109, cube113, cube127, cube131, cube137, cube139, cube149, cube151, cube157, cube163, cube167, cube173, cube179, cube181, cube191, cube193, cube197, cube199, cube211, cube223, cube227, cube229, cube233, cube239, cube241, cube251, cube257, cube263, cube269, cube271, cube277, cube281, cube283, cube293, cube307, cube311, cube313, cube317, cube331, cube337, cube347, cube349, cube353, cube359, cube367, cube373, cube379, cube383, cube389, cube397, cube401, cube409]
  rfl
end Go.Proofs.YtgefhfcmiefocaaGreatDoor.T

/- The contract of the reference's primes. -/
namespace Go.Proofs.YtgefhfcmiefocaaGreatDoor.T
open Go.RowKit
set_option maxRecDepth 100000

theorem val_bool2 {a b : Bool} (h : a = b) : Value.bool a = Value.bool b := by rw [h]

end Go.Proofs.YtgefhfcmiefocaaGreatDoor.T

/- The contract of the reference's Mix: eight words behind a block. -/
namespace Go.Proofs.YtgefhfcmiefocaaGreatDoor.T
open Go.RowKit
set_option maxRecDepth 100000

theorem info25 : (Tryz.prog.info? 29).map (fun i => (i.zero, i.size, i.bytes)) = some (some (.int .u64 0), 1, 8) := by kernel_rfl
/-- eight words as a row -/
abbrev wordsA (s : H8) : Array Value := #[w64 s.a, w64 s.b, w64 s.c, w64 s.d, w64 s.e, w64 s.f, w64 s.g, w64 s.h]
/-- the constants as a row -/
def ksA : Array Value := (ks.map w64).toArray
/-- the reference's constants in memory -/
def Keysat (w : World) (g : Nat) : Prop := Lies w g 29 ksA

theorem byte_step (s : ByteArray) (t k : Nat) (hk : k < 8) (hi : 8 * t + k < s.size) : numL ((s.data.toList.drop (8 * t)).take (k + 1)) = 256 * numL ((s.data.toList.drop (8 * t)).take k) + (s[8 * t + k]'hi).toNat ∧ numL ((s.data.toList.drop (8 * t)).take k) < 72057594037927936 := by
  have hl : 8 * t + k < s.data.toList.length := by rw [← Lib.size_eq]; exact hi
  refine ⟨?_, ?_⟩
  · rw [List.take_add_one, List.getElem?_drop, List.getElem?_eq_getElem hl, Option.toList_some, numL_snoc]
    rfl
  · refine Nat.lt_of_lt_of_le (numL_lt _) ?_
    have h4 : ((s.data.toList.drop (8 * t)).take k).length ≤ 7 := Nat.le_trans (List.length_take_le _ _) (by omega)
    exact Nat.le_trans (Nat.pow_le_pow_right (by decide) h4) (by decide)

theorem sched_cell (b : List UInt8) (t i : Nat) (h : i < t) : ((sched b t).map w64)[i]? = some (w64 ((sched b t).getD i 0)) := by
  have hl := sched_length b t
  rw [List.getElem?_map, List.getD_eq_getElem?_getD, List.getElem?_eq_getElem (by omega)]
  rfl
theorem turn_is (x n : Nat) (m : Int) (w : World) (hm : m = (n : Int)) (hx : x < 18446744073709551616) (h1 : 0 < n) (h2 : n < 64) :
    Calls Tryz.prog 120 #[.int .u64 x, .int .i64 m] w fun e w' => e = .returned (.int .u64 (rotr x n)) ∧ ∃ n, w' = w.drewN n := by
  rw [hm]
  exact turn_any x n w hx h1 h2
theorem move_is (x n y : Nat) (m : Int) (w : World) (hm : m = (n : Int)) (hx : x < 18446744073709551616) (h2 : n < 64) (hy : x / 2 ^ n = y) :
    Calls Tryz.prog 121 #[.int .u64 x, .int .i64 m] w fun e w' => e = .returned (.int .u64 (y : Int)) ∧ w' = w := by
  rw [hm, ← hy]
  exact move_any x n w hx h2

theorem sig_one (x : Nat) (hx : x < 18446744073709551616) : bits BinOp.xor IntKind.u64 (bits BinOp.xor IntKind.u64 (rotr x 19 : Nat) (rotr x 61 : Nat)) ((x : Int) / 64) = ((ssig1 x : Nat) : Int) := by
  rw [show (x : Int) / 64 = ((x / 2 ^ 6 : Nat) : Int) by omega]
  exact xor_words (rotr_lt x 19 hx (by decide)) (rotr_lt x 61 hx (by decide)) (Nat.lt_of_le_of_lt (Nat.div_le_self _ _) hx)
theorem sig_zero (x : Nat) (hx : x < 18446744073709551616) : bits BinOp.xor IntKind.u64 (bits BinOp.xor IntKind.u64 (rotr x 1 : Nat) (rotr x 8 : Nat)) ((x : Int) / 128) = ((ssig0 x : Nat) : Int) := by
  rw [show (x : Int) / 128 = ((x / 2 ^ 7 : Nat) : Int) by omega]
  exact xor_words (rotr_lt x 1 hx (by decide)) (rotr_lt x 8 hx (by decide)) (Nat.lt_of_le_of_lt (Nat.div_le_self _ _) hx)

theorem big_one (x : Nat) (hx : x < 18446744073709551616) : bits BinOp.xor IntKind.u64 (bits BinOp.xor IntKind.u64 (rotr x 14 : Nat) (rotr x 18 : Nat)) (rotr x 41 : Nat) = ((bsig1 x : Nat) : Int) :=
  xor_words (rotr_lt x 14 hx (by decide)) (rotr_lt x 18 hx (by decide)) (rotr_lt x 41 hx (by decide))
theorem big_zero (x : Nat) (hx : x < 18446744073709551616) : bits BinOp.xor IntKind.u64 (bits BinOp.xor IntKind.u64 (rotr x 28 : Nat) (rotr x 34 : Nat)) (rotr x 39 : Nat) = ((bsig0 x : Nat) : Int) :=
  xor_words (rotr_lt x 28 hx (by decide)) (rotr_lt x 34 hx (by decide)) (rotr_lt x 39 hx (by decide))
/-- the eight words while they are moved on, from the last one down to i -/
def shiftA (v : H8) : Nat → Array Value
  | 0 => #[w64 v.a, w64 v.a, w64 v.b, w64 v.c, w64 v.d, w64 v.e, w64 v.f, w64 v.g]
  | 1 => #[w64 v.a, w64 v.b, w64 v.b, w64 v.c, w64 v.d, w64 v.e, w64 v.f, w64 v.g]
  | 2 => #[w64 v.a, w64 v.b, w64 v.c, w64 v.c, w64 v.d, w64 v.e, w64 v.f, w64 v.g]
  | 3 => #[w64 v.a, w64 v.b, w64 v.c, w64 v.d, w64 v.d, w64 v.e, w64 v.f, w64 v.g]
  | 4 => #[w64 v.a, w64 v.b, w64 v.c, w64 v.d, w64 v.e, w64 v.e, w64 v.f, w64 v.g]
  | 5 => #[w64 v.a, w64 v.b, w64 v.c, w64 v.d, w64 v.e, w64 v.f, w64 v.f, w64 v.g]
  | 6 => #[w64 v.a, w64 v.b, w64 v.c, w64 v.d, w64 v.e, w64 v.f, w64 v.g, w64 v.g]
  | _ => #[w64 v.a, w64 v.b, w64 v.c, w64 v.d, w64 v.e, w64 v.f, w64 v.g, w64 v.h]
theorem shiftA_at (v : H8) (m : Nat) (h : m < 7) : (shiftA v (m + 1))[m]? = some (w64 (v.at m)) := by
  match m, h with
  | 0, _ | 1, _ | 2, _ | 3, _ | 4, _ | 5, _ | 6, _ => rfl
theorem shiftA_cur (v : H8) (m : Nat) (h : m < 7) : ∃ y : Int, (shiftA v (m + 1))[m + 1]? = some (.int .u64 y) := by
  match m, h with
  | 0, _ | 1, _ | 2, _ | 3, _ | 4, _ | 5, _ | 6, _ => exact ⟨_, rfl⟩
theorem ch_ref (e f g : Nat) (he : e < 18446744073709551616) (hf : f < 18446744073709551616) (hg : g < 18446744073709551616) :
    bits BinOp.xor IntKind.u64 (bits BinOp.and IntKind.u64 (e : Int) (f : Int)) (bits BinOp.and IntKind.u64 (bits BinOp.xor IntKind.u64 IntKind.u64.max (e : Int)) (g : Int)) = ((chs e f g : Nat) : Int) := ch_walk e f g he hf hg
theorem shiftA_set (v : H8) (m : Nat) (h : m < 7) : (shiftA v (m + 1)).setIfInBounds (m + 1) (w64 (v.at m)) = shiftA v m := by
  match m, h with
  | 0, _ | 1, _ | 2, _ | 3, _ | 4, _ | 5, _ | 6, _ => rfl
theorem shiftA_end (v : H8) (k x : Nat) : ((shiftA v 0).setIfInBounds 4 (w64 ((v.d + tmp1 v k x) % 18446744073709551616))).setIfInBounds 0 (w64 ((tmp1 v k x + tmp2 v) % 18446744073709551616)) = wordsA (rnd v k x) := rfl
/-- the eight words while they are added up, i of them done -/
def plusA (s v : H8) (i : Nat) : Array Value :=
  let f := fun (j x y : Nat) => w64 (if j < i then (x + y) % 18446744073709551616 else x)
  #[f 0 s.a v.a, f 1 s.b v.b, f 2 s.c v.c, f 3 s.d v.d, f 4 s.e v.e, f 5 s.f v.f, f 6 s.g v.g, f 7 s.h v.h]
theorem plusA_at (s v : H8) (i : Nat) (h : i < 8) : (plusA s v i)[i]? = some (w64 (s.at i)) := by
  match i, h with
  | 0, _ | 1, _ | 2, _ | 3, _ | 4, _ | 5, _ | 6, _ | 7, _ => rfl
theorem plusA_set (s v : H8) (i : Nat) (h : i < 8) : (plusA s v i).setIfInBounds i (w64 ((s.at i + v.at i) % 18446744073709551616)) = plusA s v (i + 1) := by
  match i, h with
  | 0, _ | 1, _ | 2, _ | 3, _ | 4, _ | 5, _ | 6, _ | 7, _ => rfl
theorem wordsA_at (v : H8) (i : Nat) (h : i < 8) : (wordsA v)[i]? = some (w64 (v.at i)) := by
  match i, h with
  | 0, _ | 1, _ | 2, _ | 3, _ | 4, _ | 5, _ | 6, _ | 7, _ => rfl
theorem Lies.words8 {w : World} {g : Nat} {t : TypeId} {v : H8} (h : Lies w g t (wordsA v)) :
    w.cell? ⟨g, 0, none⟩ = some (w64 v.a) ∧ w.cell? ⟨g, 1, none⟩ = some (w64 v.b) ∧ w.cell? ⟨g, 2, none⟩ = some (w64 v.c) ∧ w.cell? ⟨g, 3, none⟩ = some (w64 v.d) ∧ w.cell? ⟨g, 4, none⟩ = some (w64 v.e) ∧ w.cell? ⟨g, 5, none⟩ = some (w64 v.f) ∧ w.cell? ⟨g, 6, none⟩ = some (w64 v.g) ∧ w.cell? ⟨g, 7, none⟩ = some (w64 v.h) :=
  ⟨h.cell 0, h.cell 1, h.cell 2, h.cell 3, h.cell 4, h.cell 5, h.cell 6, h.cell 7⟩
theorem only_cell {a w : World} {g : Nat} {p : Addr} {v : Value} (h : Only g a w) (hc : a.cell? p = some v) (hne : p.block ≠ g) : w.cell? p = some v :=
  (World.cell?_of_block (h.block p.block (World.block_lt_of_cell? a _ hc) (fun e => hne (by injection e)))).trans hc
theorem ksA_at (t : Nat) (h : t < 80) : ksA[t]? = some (w64 (kAt t)) := by
  have hl : ks.length = 80 := rfl
  unfold ksA kAt
  rw [List.getElem?_toArray, List.getElem?_map, List.getD_eq_getElem?_getD, List.getElem?_eq_getElem (by omega)]
  rfl
theorem keys_cells {w : World} {g : Nat} (h : Keysat w g) : ∀ t, t < 80 → w.cell? ⟨g, t, none⟩ = some (w64 (kAt t)) := fun t ht => (h.cell t).trans (ksA_at t ht)
theorem row_cells {w : World} {B g cap : Nat} {b : List UInt8} (h : w.ownsRow B 29 1 (.slice (some ⟨g, 0, none⟩) 80 cap) 80 ((sched b 80).map w64)) : ∀ t, t < 80 → w.cell? ⟨g, t, none⟩ = some (w64 ((sched b 80).getD t 0)) := fun t ht => (h.cellAt t ht).trans (sched_cell _ _ _ ht)
theorem own_drewN {w : World} {B e n : Nat} {v : Value} {xs : List Value} (h : w.ownsRow B e 1 v n xs) (k : Nat) : (w.drewN k).ownsRow B e 1 v n xs := h

/-- what the next round's word is, whichever round -/
def nextW (b : List UInt8) (t x : Nat) : Prop := sched b (t + 1) = sched b t ++ [x]

set_option maxRecDepth 100000 in
set_option maxHeartbeats 1600000 in
theorem mix_any (H : H8) (s : ByteArray) (gk : Nat) (W : World) (hs : s.size = 128) (hok : H.Ok) (hk : Keysat W gk) :
    Calls Tryz.prog 88 #[.agg (wordsA H), .string s, .slice (some ⟨gk, 0, none⟩) 80 80] W fun e W' => e = .returned (.agg (wordsA (mix H s.data.toList))) ∧ Below W.heap.size W W' := by
  obtain ⟨i0, hi, hz0, hz1, hz2⟩ := info_parts info25
  have HS := Lib.hid hs
  have hs1 : 128 ≤ s.size := by omega
  have hs2 : s.size ≤ 128 := by omega
  have hsl : s.data.toList.length = 128 := by rw [← Lib.size_eq]; exact hs
  clear hs
  go_enter Tryz.func88, Tryz.ntmps88
  go_upto_region 1 with fail
  have hh : Lies ((W.alloc (.cells (wordsA H) 79)).alloc (.cells (wordsA ⟨0, 0, 0, 0, 0, 0, 0, 0⟩) 79)) W.heap.size 79 (wordsA H) := heap_alloc2_old W _ _
  have hr : Lies ((W.alloc (.cells (wordsA H) 79)).alloc (.cells (wordsA ⟨0, 0, 0, 0, 0, 0, 0, 0⟩) 79)) (W.heap.size + 1) 79 (wordsA ⟨0, 0, 0, 0, 0, 0, 0, 0⟩) := heap_alloc2_new W _ _
  have hb := ((Below.refl W.heap.size W).alloc (Nat.le_refl _) (.cells (wordsA H) 79)).alloc (by simp) (.cells (wordsA ⟨0, 0, 0, 0, 0, 0, 0, 0⟩) 79)
  have hk2 : Keysat ((W.alloc (.cells (wordsA H) 79)).alloc (.cells (wordsA ⟨0, 0, 0, 0, 0, 0, 0, 0⟩) 79)) gk := (Lies.alloc hk _).alloc _
  have hgk := Lies.lt hk
  generalize (W.alloc (.cells (wordsA H) 79)).alloc (.cells (wordsA ⟨0, 0, 0, 0, 0, 0, 0, 0⟩) 79) = w2 at *
  go_wp2_with fail
  go_loopw [7, 8] (fun v i wr => ∃ t g cap : Nat, t ≤ 80 ∧ i = .int .i64 t ∧ v = .slice (some ⟨g, 0, none⟩) t cap ∧ wr.ownsRow w2.heap.size 29 1 (.slice (some ⟨g, 0, none⟩) t cap) t ((sched s.data.toList t).map w64) ∧ Below w2.heap.size w2 wr) (fun _ i _ => 80 - (intOf i).toNat)
  case atStart => exact ⟨0, _, _, by omega, rfl, rfl, own_empty (Lies.new _ _ _) (Nat.le_refl _), (Below.refl _ _).alloc (Nat.le_refl _) _⟩
  case round =>
    obtain ⟨t, g, cap, ht, rfl, rfl, ho, hbr⟩ := hrel
    by_cases hlt : t < 80
    · go_upto_if 27 with fail
      rw [decide_eq_true (show (t : Int) < 80 by omega)]
      go_cut [9, 10, 11, 12] from 27 to 80 (fun s9 _ _ _ wx => ∃ x n : Nat, s9 = .int .u64 (x : Int) ∧ nextW s.data.toList t x ∧ wx = wr.drewN n)
      case first =>
        by_cases h16 : t < 16
        · rw [decide_eq_true (show (t : Int) < 16 by omega)]
          go_wp2_with fail
          go_loopw [9, 10] (fun n i wv => ∃ k : Nat, k ≤ 8 ∧ i = .int .i64 k ∧ n = .int .u64 ((numL ((s.data.toList.drop (8 * t)).take k) : Nat) : Int) ∧ wv = wr) (fun _ i _ => 8 - (intOf i).toNat)
          case atStart => exact ⟨0, by omega, rfl, rfl, rfl⟩
          case round =>
            obtain ⟨k, hk8, rfl, rfl, rfl⟩ := hrel
            by_cases hlt4 : k < 8
            · have hi4 : 8 * t + k < s.size := by omega
              obtain ⟨hN, hN2⟩ := byte_step s t k hlt4 hi4
              have HN := Lib.hid hN
              clear hN
              generalize numL ((s.data.toList.drop (8 * t)).take k) = N at *
              have hu8 := u8_lt (s[8 * t + k]'hi4)
              go_wp2_with fail
              go_roundw
              case rel =>
                refine ⟨k + 1, by omega, by go_num, val_int ?_, trivial⟩
                rw [HN.out]
                omega
              case measure => simp [intOf]; omega
            · obtain rfl : k = 8 := by omega
              go_wp2_with fail
              go_meet
              exact ⟨_, 0, rfl, sched_head _ _ h16, rfl⟩
        · rw [decide_eq_false (show ¬ (t : Int) < 16 by omega)]
          have k2 := (ho.cellAt (t - 2) (by omega)).trans (sched_cell s.data.toList t (t - 2) (by omega))
          have k7 := (ho.cellAt (t - 7) (by omega)).trans (sched_cell s.data.toList t (t - 7) (by omega))
          have k15 := (ho.cellAt (t - 15) (by omega)).trans (sched_cell s.data.toList t (t - 15) (by omega))
          have k16 := (ho.cellAt (t - 16) (by omega)).trans (sched_cell s.data.toList t (t - 16) (by omega))
          have HN := Lib.hid (sched_rest s.data.toList t h16)
          have l2 := sched_at_lt s.data.toList t (t - 2)
          have l7 := sched_at_lt s.data.toList t (t - 7)
          have l15 := sched_at_lt s.data.toList t (t - 15)
          have l16 := sched_at_lt s.data.toList t (t - 16)
          have e2 : IntKind.i64.wrap ((t : Int) - 2) = ((t - 2 : Nat) : Int) := by rw [IntWalk.i64_in _ (by omega)]; omega
          have e7 : IntKind.i64.wrap ((t : Int) - 7) = ((t - 7 : Nat) : Int) := by rw [IntWalk.i64_in _ (by omega)]; omega
          have e15 : IntKind.i64.wrap ((t : Int) - 15) = ((t - 15 : Nat) : Int) := by rw [IntWalk.i64_in _ (by omega)]; omega
          have e16 : IntKind.i64.wrap ((t : Int) - 16) = ((t - 16 : Nat) : Int) := by rw [IntWalk.i64_in _ (by omega)]; omega
          have b2 : ((t - 2 : Nat) : Int) < (t : Int) := by omega
          have b7 : ((t - 7 : Nat) : Int) < (t : Int) := by omega
          have b15 : ((t - 15 : Nat) : Int) < (t : Int) := by omega
          have b16 : ((t - 16 : Nat) : Int) < (t : Int) := by omega
          generalize t - 2 = u2 at e2 b2 k2 l2 HN
          generalize t - 7 = u7 at e7 b7 k7 l7 HN
          generalize t - 15 = u15 at e15 b15 k15 l15 HN
          generalize t - 16 = u16 at e16 b16 k16 l16 HN
          generalize (sched s.data.toList t).getD u2 0 = x2 at k2 l2 HN
          generalize (sched s.data.toList t).getD u7 0 = x7 at k7 l7 HN
          generalize (sched s.data.toList t).getD u15 0 = x15 at k15 l15 HN
          generalize (sched s.data.toList t).getD u16 0 = x16 at k16 l16 HN
          go_wp2_with fail
          have T1 := Lib.hid (fun w => turn_is x2 19 19 w rfl l2 (by decide) (by decide))
          have T2 := Lib.hid (fun w => turn_is x2 61 61 w rfl l2 (by decide) (by decide))
          have T3 := Lib.hid (fun w => move_is x2 6 _ 6 w rfl l2 (by decide) rfl)
          have T4 := Lib.hid (fun w => turn_is x15 1 1 w rfl l15 (by decide) (by decide))
          have T5 := Lib.hid (fun w => turn_is x15 8 8 w rfl l15 (by decide) (by decide))
          have T6 := Lib.hid (fun w => move_is x15 7 _ 7 w rfl l15 (by decide) rfl)
          go_quiet (first | (with_reducible exact Calls.quiet_of (T1.out _)) | (with_reducible exact Calls.quiet_of (T2.out _)) | (with_reducible exact Calls.quiet_of_same (T3.out _)) | (with_reducible exact Calls.quiet_of (T4.out _)) | (with_reducible exact Calls.quiet_of (T5.out _)) | (with_reducible exact Calls.quiet_of_same (T6.out _)))
          go_wp2
          go_meet
          refine ⟨_, nq, val_int ?_, HN.out, rfl⟩
          rw [sig_one x2 l2, sig_zero x15 l15]
          simp only [IntKind.wrap_u64]
          omega
      case rest =>
        obtain ⟨x, nx, rfl, hx, rfl⟩ := hcut
        have HX := Lib.hid hx
        have hno := own_drewN ho nx
        have hsz := hbr.size
        clear hx
        go_wp2_with ((with_reducible refine wpL_append w2.heap.size 29 i0 (.int .u64 0) 8 Tryz.underlying93 hi hz0 hz1 hz2 rfl _ t _ (hno.alloc _) (wr.drewN nx).heap.size (.int .u64 (x : Int)) (Lies.new (wr.drewN nx) _ _) rfl (by unfold maxLen; omega) (by omega) (by simp; omega) ?_ ?_ ?_); rfl; rfl; intro g6 cap6 w6 ho6 hgrow6)
        go_roundw
        case rel =>
          refine ⟨t + 1, g6, cap6, by omega, by go_num, rfl, ?_, ((below_drawn hbr nx).alloc hsz _).grown hgrow6 (by simp; omega) (fun k hk => (ho.lt k hk).1)⟩
          rw [HX.out, List.map_append]
          exact ho6
        case measure => simp [intOf]; omega
    · obtain rfl : t = 80 := by omega
      rw [show ((80 : Nat) : Int) = 80 from rfl]
      have hh5 := hh.on hbr
      have hr5 := hr.on hbr
      have hk5 : Keysat wr gk := Lies.on hk2 hbr
      have hb5 := below_on hb hbr
      have hgw := own_far ho (t := 79) hh5 (by decide)
      go_upto_region 16 with ((with_reducible refine wpL_load W.heap.size 79 (wordsA H) 8 row26 rfl hh5 ?_ ?_); rfl)
      have hv6 := Lies.new wr 79 (wordsA H)
      have hh6 := hh5.alloc (.cells (wordsA H) 79)
      have hr6 := hr5.alloc (.cells (wordsA H) 79)
      have hk6 := keys_cells (Lies.alloc hk5 (.cells (wordsA H) 79))
      have ho6 := ho.alloc (.cells (wordsA H) 79)
      have hw6 := row_cells ho6
      have hb6 := hb5.alloc hb5.size (.cells (wordsA H) 79)
      have hgw2 : g < wr.heap.size := block_lt_of_cell ((ho.cellAt 0 (by decide)).trans (sched_cell _ _ _ (by decide)))
      have hgh := hh5.lt
      have hgr := hr5.lt
      have hgv : W.heap.size ≤ wr.heap.size := hb5.size
      clear hh hr hk hk2 hb hbr hh5 hr5 hk5 hb5 ho ho6 hgw hi hz0 hz1 hz2
      generalize wr.alloc (.cells (wordsA H) 79) = w6 at *
      generalize wr.heap.size = gv at *
      go_wp2_with fail
      go_loopw [14] (fun i wr => ∃ (t : Nat) (v : H8), t ≤ 80 ∧ i = .int .i64 t ∧ v.Ok ∧ Hid (v = rnds (sched s.data.toList 80) H t) ∧ Lies wr gv 79 (wordsA v) ∧ Only gv w6 wr) (fun i _ => 80 - (intOf i).toNat)
      case atStart => exact ⟨0, H, by omega, rfl, hok, Lib.hid rfl, hv6, Only.refl _ _⟩
      case round =>
        clear hv6
        obtain ⟨t, v, ht, rfl, hv, HV, hl, hO⟩ := hrel
        by_cases hlt : t < 80
        · have kT := only_cell hO (hk6 t hlt) (by simp only; omega)
          have wT := only_cell hO (hw6 t hlt) (by simp only; omega)
          have HR := Lib.hid (show rnds (sched s.data.toList 80) H (t + 1) = rnd v (kAt t) ((sched s.data.toList 80).getD t 0) by rw [rnds, HV.out])
          have lk := kAt_lt t hlt
          have lw := sched_at_lt s.data.toList 80 t
          have HK := Lib.hid hv
          obtain ⟨va, vb, vc, vd, ve, vf, vg, vh⟩ := hv
          generalize kAt t = k at kT HR lk
          generalize (sched s.data.toList 80).getD t 0 = x at wT HR lw
          have hi : (t : Int) < 80 := by omega
          obtain ⟨c0, c1, c2, c3, c4, c5, c6, c7⟩ := hl.words8
          go_upto_region 21 with fail
          have A1 := Lib.hid (fun w => turn_is v.e 14 14 w rfl ve (by decide) (by decide))
          have A2 := Lib.hid (fun w => turn_is v.e 18 18 w rfl ve (by decide) (by decide))
          have A3 := Lib.hid (fun w => turn_is v.e 41 41 w rfl ve (by decide) (by decide))
          have A4 := Lib.hid (fun w => turn_is v.a 28 28 w rfl va (by decide) (by decide))
          have A5 := Lib.hid (fun w => turn_is v.a 34 34 w rfl va (by decide) (by decide))
          have A6 := Lib.hid (fun w => turn_is v.a 39 39 w rfl va (by decide) (by decide))
          go_cut [17] from 94 to 125 (fun s17 wx => s17 = .int .u64 (tmp1 v k x : Int) ∧ Lies wx gv 79 (wordsA v) ∧ Only gv w6 wx)
          case first =>
            go_quiet (first | (with_reducible exact Calls.quiet_of (A1.out _)) | (with_reducible exact Calls.quiet_of (A2.out _)) | (with_reducible exact Calls.quiet_of (A3.out _)))
            go_wp2
            go_meet
            refine ⟨?_, hl.drewN nq, hO.drewN nq⟩
            rw [big_one _ ve, ch_ref _ _ _ ve vf vg]
            exact val_int (by simp only [tmp1, IntKind.wrap_u64]; omega)
          case rest =>
            clear hl hO c0 c1 c2 c3 c4 c5 c6 c7 kT wT
            obtain ⟨rfl, hl, hO⟩ := hcut
            obtain ⟨c0, c1, c2, c3, c4, c5, c6, c7⟩ := hl.words8
            go_upto_region 22 with fail
            go_cut [18] from 126 to 149 (fun s18 wx => s18 = .int .u64 (tmp2 v : Int) ∧ Lies wx gv 79 (wordsA v) ∧ Only gv w6 wx)
            case first =>
              go_quiet (first | (with_reducible exact Calls.quiet_of (A4.out _)) | (with_reducible exact Calls.quiet_of (A5.out _)) | (with_reducible exact Calls.quiet_of (A6.out _)))
              go_wp2
              go_meet
              refine ⟨?_, hl.drewN nq, hO.drewN nq⟩
              rw [big_zero _ va, maj_walk _ _ _ va vb vc]
              exact val_int (by simp only [tmp2, IntKind.wrap_u64]; omega)
            case rest =>
              clear hl hO
              obtain ⟨rfl, hl, hO⟩ := hcut
              clear A1 A2 A3 A4 A5 A6 c0 c1 c2 c3 c4 c5 c6 c7 va vb vc vd ve vf vg vh lk lw
              have HE := Lib.hid (shiftA_end v k x)
              go_wp2_with fail
              go_loopw [19] (fun i wv => ∃ j : Nat, j ≤ 7 ∧ i = .int .i64 j ∧ Lies wv gv 79 (shiftA v j) ∧ Only gv w6 wv) (fun i _ => (intOf i).toNat)
              case atStart => exact ⟨7, by omega, rfl, hl, hO⟩
              case round =>
                clear hl hO
                obtain ⟨j, hj, rfl, hl, hO⟩ := hrel
                by_cases h0 : 0 < j
                · obtain ⟨m, rfl⟩ : ∃ m, j = m + 1 := ⟨j - 1, by omega⟩
                  have hc := (hl.cell m).trans (shiftA_at v m (by omega))
                  have hf := hl.frozen (m + 1)
                  obtain ⟨y, hy⟩ := shiftA_cur v m (by omega)
                  have hc1 := (hl.cell (m + 1)).trans hy
                  clear hy
                  have e1 : IntKind.i64.wrap (((m + 1 : Nat) : Int) - 1) = (m : Int) := by rw [IntWalk.i64_in _ (by omega)]; omega
                  have HP := Lib.hid (shiftA_set v m (by omega))
                  have b1 : (m : Int) < 8 := by omega
                  have b2 : ((m + 1 : Nat) : Int) < 8 := by omega
                  go_wp2_with fail
                  go_roundw
                  case rel => exact ⟨m, by omega, rfl, by rw [← HP.out]; exact hl.put _ _, hO.put (Or.inl rfl) _⟩
                  case measure => simp [intOf]
                · obtain rfl : j = 0 := by omega
                  have hc4 : wr.cell? ⟨gv, 4, none⟩ = some (.int .u64 (v.d : Int)) := hl.cell 4
                  have hc0 : wr.cell? ⟨gv, 0, none⟩ = some (.int .u64 (v.a : Int)) := hl.cell 0
                  have hf4 := hl.frozen 4
                  have hf0 := hl.frozen 0
                  go_wp2_with fail
                  go_roundw
                  case rel =>
                    refine ⟨t + 1, rnd v k x, by omega, by go_num, rnd_ok HK.out _ _, Lib.hid HR.out.symm, ?_, (hO.put (Or.inl rfl) _).put (Or.inl rfl) _⟩
                    rw [← HE.out]
                    simp only [plus_cast]
                    exact (hl.put 4 _).put 0 _
                  case measure => simp [intOf]; omega
        · obtain rfl : t = 80 := by omega
          rw [show ((80 : Nat) : Int) = 80 from rfl]
          have hhv := hh6.only hO (by intro e; injection e; omega)
          have hrv := hr6.only hO (by intro e; injection e; omega)
          have hbv := hO.below hb6 hb6.size hgv
          clear hh6 hr6 hb6 hO hk6 hw6
          go_wp2_with fail
          go_loopw [20] (fun i wr => ∃ t : Nat, t ≤ 8 ∧ i = .int .i64 t ∧ Lies wr W.heap.size 79 (plusA H v t) ∧ Lies wr gv 79 (wordsA v) ∧ Lies wr (W.heap.size + 1) 79 (wordsA ⟨0, 0, 0, 0, 0, 0, 0, 0⟩) ∧ Below W.heap.size W wr) (fun i _ => 8 - (intOf i).toNat)
          case atStart => exact ⟨0, by omega, rfl, hhv, hl, hrv, hbv⟩
          case round =>
            clear hhv hl hrv hbv
            obtain ⟨t, ht, rfl, hh, hl, hr, hb⟩ := hrel
            by_cases hlt : t < 8
            · have hc := (hh.cell t).trans (plusA_at H v t hlt)
              have hd := (hl.cell t).trans (wordsA_at v t hlt)
              have hf := hh.frozen t
              have hi : (t : Int) < 8 := by omega
              have HP := Lib.hid (plusA_set H v t hlt)
              go_upto_region 32 with fail
              go_region
              all_goals
                go_wp2
                go_roundw
                case rel =>
                  exact ⟨t + 1, by omega, by go_num, by rw [← HP.out, plus_cast]; exact (hh.put t _).drew, (hl.far (by simp only; omega) _).drew, (hr.far (by simp only; omega) _).drew, (hb.setCell (p := ⟨W.heap.size, t, none⟩) (Nat.le_refl _) _).drew⟩
                case measure => simp [intOf]; omega
            · obtain rfl : t = 8 := by omega
              rw [show ((8 : Nat) : Int) = 8 from rfl]
              have HE := Lib.hid (show plusA H v 8 = wordsA (mix H s.data.toList) by rw [mix, ← HV.out]; rfl)
              have HN := Lib.hid (show (plusA H v 8).size = 8 from rfl)
              have HO := Lib.hid (show Ones (plusA H v 8) by simp [Ones, plusA, Value.oneCell'])
              have H0 := Lib.hid (show (wordsA ⟨0, 0, 0, 0, 0, 0, 0, 0⟩).size = 8 from rfl)
              have HL := Lib.hid hh
              have HR := Lib.hid hr
              clear hh hr hl
              obtain ⟨cs, hcs⟩ : ∃ cs, plusA H v 8 = cs := ⟨_, rfl⟩
              rw [hcs] at HE HN HO HL
              obtain ⟨zs, hzs⟩ : ∃ zs, wordsA ⟨0, 0, 0, 0, 0, 0, 0, 0⟩ = zs := ⟨_, rfl⟩
              rw [hzs] at H0 HR
              clear hcs hzs
              go_wp2_with (first | ((with_reducible refine wpL_load W.heap.size 79 cs 8 row26 HN.out HL.out ?_ ?_); rfl) | ((with_reducible refine wpL_store (W.heap.size + 1) 79 _ cs 8 row26 H0.out HN.out HO.out HR.out ?_ ?_ ?_); rfl; rfl))
              exact bodyPost_ret (results_row Tryz.results88 row26 HN.out (HR.out.row cs) rfl) rfl ⟨by rw [HE.out], below_rowSet hb (by omega) _⟩
end Go.Proofs.YtgefhfcmiefocaaGreatDoor.T

/- The contracts of the reference's Keys and Right, and of the statement's few. -/
namespace Go.Proofs.YtgefhfcmiefocaaGreatDoor.T
open Go.RowKit
set_option maxRecDepth 100000

set_option maxRecDepth 100000 in
set_option maxHeartbeats 800000 in
theorem keys_any (w : World) :
    Calls Tryz.prog 87 #[] w fun e w' => ∃ g, e = .returned (.slice (some ⟨g, 0, none⟩) 80 80) ∧ w.heap.size ≤ g ∧ Keysat w' g ∧ Below w.heap.size w w' := by
  go_enter Tryz.func87, Tryz.ntmps87
  go_wp2
  go_ret
  exact ⟨_, rfl, Nat.le_refl _, Lies.new w 29 ksA, (Below.refl _ w).alloc (Nat.le_refl _) _⟩

end Go.Proofs.YtgefhfcmiefocaaGreatDoor.T

/- The contracts of the reference's Roots, Begins, First, Same. -/
namespace Go.Proofs.YtgefhfcmiefocaaGreatDoor.T
open Go.RowKit
set_option maxRecDepth 100000

/-- words lie there -/
def Row32 (w : World) (g : Nat) (l : List Nat) : Prop := ∀ i, i < l.length → w.cell? ⟨g, i, none⟩ = some (w64 (l.getD i 0))
theorem Row32.on {w w' : World} {g : Nat} {l : List Nat} (h : Row32 w g l) (hb : Below w.heap.size w w') : Row32 w' g l := fun i hi => by
  have h1 := h i hi
  exact (hb.cell (p := ⟨g, i, none⟩) (World.block_lt_of_cell? w _ h1)).trans h1
theorem own_row32 {w : World} {B g n cap : Nat} {e : TypeId} {l : List Nat} (h : w.ownsRow B e 1 (.slice (some ⟨g, 0, none⟩) n cap) n (l.map w64)) : Row32 w g l := fun i hi => by
  have hn : l.length = n := by simpa using h.1
  rw [h.cellAt i (by omega), List.getElem?_map, List.getElem?_eq_getElem hi, List.getD_eq_getElem?_getD, List.getElem?_eq_getElem hi]
  rfl
theorem lies_row32 {w : World} {g : Nat} {t : TypeId} {l : List Nat} (h : Lies w g t (l.map w64).toArray) : Row32 w g l := fun i hi => by
  rw [h.cell i, List.getElem?_toArray, List.getElem?_map, List.getElem?_eq_getElem hi, List.getD_eq_getElem?_getD, List.getElem?_eq_getElem hi]
  rfl
theorem take_next (l : List Nat) (k : Nat) (h : k < l.length) : l.take (k + 1) = l.take k ++ [l.getD k 0] := by
  rw [List.take_add_one, List.getElem?_eq_getElem h, List.getD_eq_getElem?_getD, List.getElem?_eq_getElem h]
  rfl

/-- one value goes behind a row that the call owns, and where it lies then -/
theorem wpL_append2 {P : Program} {ops : Array Oper} {rest : List Oper} {a : Act} {w : World} {Q : Exit → Act → World → Prop} {t' : TypeId} {pos : String} {after : Array Edge} {d : Option Tmp} {x y : Tmp} {ty : TypeId}
    (B : Nat) (e : TypeId) (i : TypeInfo) (z : Value) (bytes : Nat) (ht : P.underlying ty = some (.slice e)) (hi : P.info? e = some i) (hz : i.zero = some z) (hsize : i.size = 1) (hby : i.bytes = bytes) (hzs : z.cells.size = 1)
    (v : Value) (n : Nat) (xs : List Value) (hown : w.ownsRow B e 1 v n xs) (b : Nat) (u : Value) (hl : Lies w b e #[u]) (hu : u.oneCell' = true) (h63 : n + 1 ≤ maxLen) (hbytes : (n + 1) * bytes ≤ 140737488355328) (hbase : B ≤ w.heap.size)
    (hs : a.eval (.tmp x) = v) (hx : a.eval (.tmp y) = .slice (some ⟨b, 0, none⟩) 1 1)
    (h : ∀ g cap w', w'.ownsRow B e 1 (.slice (some ⟨g, 0, none⟩) (n + 1) cap) (n + 1) (xs ++ [u]) → w.grownBy w' v.ownBlock → (v.ownBlock = some g ∨ g = w.heap.size) → wpList P ops Q rest (a.put d (.slice (some ⟨g, 0, none⟩) (n + 1) cap)) w') :
    wpList P ops Q (⟨d, .call { callee := .builtin .append, args := #[.tmp x, .tmp y], argTypes := #[ty, ty] }, t', pos, after, none⟩ :: rest) a w :=
  wpList_append_lies (o := ⟨d, .call { callee := .builtin .append, args := #[.tmp x, .tmp y], argTypes := #[ty, ty] }, t', pos, after, none⟩) w rfl _ _ ty rfl B e i z 1 bytes ht hi hz hsize hby hzs (by decide) v n xs hs hown ⟨b, 0, none⟩ 1 1 [u] hx rfl (World.news_of_block hl) (by simpa using hu) (by decide) h63 hbytes hbase w.heap.size rfl (fun g cap w' h2 h3 h4 _ => h g cap w' h2 h3 h4)

/-- the first words as a list -/
def h0L : List Nat := [h0.a, h0.b, h0.c, h0.d, h0.e, h0.f, h0.g, h0.h]
set_option maxHeartbeats 400000 in
theorem first_any (w : World) :
    Calls Tryz.prog 89 #[] w fun e w' => ∃ g, e = .returned (.slice (some ⟨g, 0, none⟩) 8 8) ∧ w.heap.size ≤ g ∧ Row32 w' g h0L ∧ Below w.heap.size w w' := by
  go_enter Tryz.func89, Tryz.ntmps89
  go_wp2
  go_ret
  exact ⟨_, rfl, Nat.le_refl _, lies_row32 (l := h0L) (Lies.new w 29 (h0L.map w64).toArray), (Below.refl _ w).alloc (Nat.le_refl _) _⟩

end Go.Proofs.YtgefhfcmiefocaaGreatDoor.T

