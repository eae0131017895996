/- Texts that stand on one another, put together: Hex, RefHex, ShelfI, Unhex, ELaw, VMem, VLies, VRow, VBuild, VSeq. -/
import Derived.Test.YtmekmlgpkbfjpaaGreatDoorK10
import Derived.BigQuiet
import Derived.ChangeOld
import Derived.ChangeSame
import Derived.Deep.AppendLies
import Derived.Deep.DrawnRows
import Derived.Deep.MidRow
import Derived.Deep.QuietTactic
import Derived.Deep.RegionHeld3
import Derived.Deep.RegionLaw
import Derived.Deep.Slices
import Derived.Laws.AppendOwn
import Derived.Laws.AppendOwnNone
import Derived.Laws.Externs
import Derived.Laws.Slices
import Derived.Lib.AppendStr
import Derived.Lib.Builder
import Derived.OpenShut
import Derived.ProofKit
import Derived.Shelf.Bits.Mul64
import Derived.Shelf.Small.Strs
import Derived.Shelf.Strings.Search1
import Derived.ShutString
import Derived.SliceStrings
import Derived.Test.YtmekmlgpkbfjpaaGreatDoorProg
import Derived.Test.YtmekmlgpkbfjpaaGreatDoorRows
/- The contracts of the calls that turn bytes into digits: octet's Hex and the reference's. -/
namespace Go.Proofs.YtmekmlgpkbfjpaaGreatDoor
open Go.RowKit
attribute [local go_sem ↓] Go.wp_at_zero Go.wp_at_succ
theorem low_all : ∀ n : Fin 256, bits BinOp.and IntKind.u8 (n.val : Int) 15 = ((n.val % 16 : Nat) : Int) := by decide +kernel
theorem low_nibble (c : UInt8) : 0 ≤ bits BinOp.and IntKind.u8 (c.toNat : Int) 15 ∧ bits BinOp.and IntKind.u8 (c.toNat : Int) 15 < 16 ∧ bits BinOp.and IntKind.u8 (c.toNat : Int) 15 = ((c.toNat % 16 : Nat) : Int) := by
  have h := low_all ⟨c.toNat, u8_lt c⟩
  simp only at h
  rw [h]
  omega

/-- the constant text of the sixteen digits -/
abbrev digB : ByteArray := { data := #[48, 49, 50, 51, 52, 53, 54, 55, 56, 57, 97, 98, 99, 100, 101, 102] }
theorem digB_all : ∀ n : Fin 16, digB[n.val]'n.isLt = dg n.val := by decide +kernel
theorem digB_at (i : Nat) (h : i < digB.size) : digB[i] = dg i := digB_all ⟨i, h⟩
theorem hex_row {w : World} {B : Nat} {v : Value} (s : ByteArray) (k : Nat) (hlt : k < s.size) (h1 : ((s[k].toNat : Int) / 16).toNat < digB.size) (h2 : (bits BinOp.and IntKind.u8 (s[k].toNat : Int) 15).toNat < digB.size)
    (hown : w.ownsRow B 5 1 v (2 * k + 2) (Lib.byteCells (hexL (s.data.toList.take k)) ++ #[Value.int .u8 (digB[((s[k].toNat : Int) / 16).toNat].toNat), Value.int .u8 (digB[(bits BinOp.and IntKind.u8 (s[k].toNat : Int) 15).toNat].toNat)].toList)) :
    w.ownsRow B 5 1 v (2 * (k + 1)) (Lib.byteCells (hexL (s.data.toList.take (k + 1)))) := by
  have e : ((s[k].toNat : Int) / 16).toNat = s[k].toNat / 16 := by omega
  have e' : (bits BinOp.and IntKind.u8 (s[k].toNat : Int) 15).toNat = s[k].toNat % 16 := by rw [(low_nibble s[k]).2.2]; rfl
  rw [digB_at _ h1, digB_at _ h2, e, e'] at hown
  rw [take_snoc s k hlt, hexL_append]
  rw [show 2 * (k + 1) = 2 * k + 2 by omega]
  simpa [hexL, Lib.byteCells] using hown

set_option maxRecDepth 100000 in
set_option maxHeartbeats 800000 in
theorem hex_any (s : ByteArray) (W : World) (hs : s.size ≤ 1000000) :
    Calls Tryz.prog 30 #[.string s] W fun e W' => e = .returned (.string ⟨(hexL s.data.toList).toArray⟩) ∧ Below W.heap.size W W' := by
  obtain ⟨i0, hi, hz0, hz1, hz2⟩ := info_parts info5
  go_enter Tryz.func30, Tryz.ntmps30
  go_wp2_with (at_make; refine wpList_make_own _ rfl _ _ 71 rfl W.heap.size 5 i0 (.int .u8 0) 1 Tryz.underlying71 hi hz0 hz1 _ _ _ (2 * s.size) rfl rfl (by omega) ?b2 ?b3 (Nat.le_refl _) ?_)
  case b2 => rw [hz2]; omega
  case b3 => unfold maxLen; omega
  intro w1 hown hgrow
  have hb1 := (Below.refl W.heap.size W).grown hgrow (Nat.le_refl _) (fun k hk => by cases hk)
  clear hgrow
  go_wp2_with fail
  go_loopw [3, 11] (fun o i wr => ∃ k : Nat, k ≤ s.size ∧ i = .int .i64 k ∧ wr.ownsRow W.heap.size 5 1 o (2 * k) (Lib.byteCells (hexL (s.data.toList.take k))) ∧ Below W.heap.size W wr) (fun _ i _ => s.size - (intOf i).toNat)
  case atStart => exact ⟨0, Nat.zero_le _, rfl, by simpa [hexL, Lib.byteCells] using hown, hb1⟩
  case round =>
    obtain ⟨k, hk, rfl, ho, hb⟩ := hrel
    by_cases hlt : k < s.size
    · have hi1 : (k : Int) < (s.size : Int) := by omega
      have hi0 : (0 : Int) ≤ (k : Int) := by omega
      have hc1 : (0 : Int) ≤ (s[k].toNat : Int) / 16 := by omega
      have hc2 : (s[k].toNat : Int) / 16 < 16 := by have := u8_lt s[k]; omega
      have hc3 := (low_nibble s[k]).1
      have hc4 := (low_nibble s[k]).2.1
      go_wp2_with fail
      go_region_law ((refine step_append_lies _ (by rfl) _ _ _ (by rfl) W.heap.size 5 i0 _ 1 1 Tryz.underlying71 hi hz0 hz1 hz2 rfl (by omega) u3 (2 * k) _ (by rfl) ((ho.alloc _).drew) ⟨wr.heap.size, 0, none⟩ 2 2 _ (by rfl) (by rfl) (World.news_of_block (t := 5) (fr := (0, 0)) (heap_alloc_new wr _)) (by simp [Value.oneCell']) (by omega) (by unfold maxLen; omega) (by omega) (by have := hb.size; simp; omega) (wr.heap.size + 1) (by simp) ?_; intro g cap w2 hown2 hgrow2 hat2 hlt2))
      all_goals
        go_wp2
        go_roundw
        case rel => exact ⟨k + 1, by omega, by go_num, hex_row s k hlt _ _ hown2, (hb.alloc hb.size _).drew.grown hgrow2 (by have := hb.size; simp; omega) (fun j hj => (ho.lt j hj).1)⟩
        case measure => simp [intOf]; omega
    · obtain rfl : k = s.size := by omega
      have hcv := str_own ho
      go_wp2
      go_ret
      exact ⟨ret1_of (val_str (by rw [List.take_of_length_le (by simp)])), hb⟩
end Go.Proofs.YtmekmlgpkbfjpaaGreatDoor

/- The contracts of the reference's Hex and digit. -/
namespace Go.Proofs.YtmekmlgpkbfjpaaGreatDoor
open Go.RowKit
attribute [local go_sem ↓] Go.wp_at_zero Go.wp_at_succ
theorem wrap_u8_eq (n : Int) : IntKind.u8.wrap n = n % 256 := by simp [IntKind.wrap, IntKind.bits, IntKind.signed]
end Go.Proofs.YtmekmlgpkbfjpaaGreatDoor

/- The library's own contracts laid at this program: one application each. -/
namespace Go.Proofs
open Go.Shelf
def Tryz.lays137_ren : Go.Shelf.Ren := ⟨fun | 137 => 68 | 217 => 107 | 266 => 144 | n => n, fun | 9 => 9 | 5 => 5 | 3 => 3 | n => n, fun | n => n⟩
theorem Tryz.lays137 : Go.Proofs.Lays.n137 Tryz.prog Tryz.lays137_ren := {
  mixed := by kernel_rfl
  f137 := Tryz.func68.trans (congrArg some (by kernel_rfl))
  f217 := Tryz.func107.trans (congrArg some (by kernel_rfl))
  f266 := Tryz.func144.trans (congrArg some (by kernel_rfl))
  t3 := Tryz.underlying3
  a3 := Tryz.isAgg3
  z3 := Tryz.sizeOf3
  v3 := Tryz.zeroValue3
  t5 := Tryz.underlying5
  a5 := Tryz.isAgg5
  z5 := Tryz.sizeOf5
  v5 := Tryz.zeroValue5
  t9 := Tryz.underlying9
  a9 := Tryz.isAgg9
  z9 := Tryz.sizeOf9
  v9 := Tryz.zeroValue9 }
open Go.RowKit in
theorem Tryz.strings_IndexByte (s : ByteArray) (c : Int) (w : World) :
    Calls Tryz.prog 68 #[.string s, .int .u8 c] w fun e w' => e = .returned (.int .i64 (Lib.indexByte s.data.toList c.toNat.toUInt8)) ∧ w' = w := Any.strings_IndexByte Tryz.lays137 s c w
end Go.Proofs

/- The contracts of the calls that turn digits into bytes: octet's Unhex and the reference's. -/
namespace Go.Proofs.YtmekmlgpkbfjpaaGreatDoor
open Go.RowKit

theorem idx_any (c : UInt8) (w : World) :
    Calls Tryz.prog 68 #[.string digB, .int .u8 c.toNat] w fun e w' => e = .returned (.int .i64 (dv c)) ∧ w' = w := by
  have h := Tryz.strings_IndexByte digB (c.toNat : Int) w
  have e : Lib.indexByte digB.data.toList ((c.toNat : Int)).toNat.toUInt8 = dv c := by rw [show ((c.toNat : Int)).toNat.toUInt8 = c by simp]; rfl
  rw [e] at h
  exact h

theorem or_nibbles : ∀ a b : Fin 16, bits BinOp.or IntKind.i64 ((a.val : Int) * 16) (b.val : Int) % 256 = (((16 * a.val + b.val).toUInt8).toNat : Int) := by decide +kernel
theorem or_dv (a b : Int) (ha : 0 ≤ a) (hb : 0 ≤ b) (ha' : a ≤ 15) (hb' : b ≤ 15) : bits BinOp.or IntKind.i64 (a * 16) b % 256 = (((16 * a.toNat + b.toNat).toUInt8).toNat : Int) := by
  have h := or_nibbles ⟨a.toNat, by omega⟩ ⟨b.toNat, by omega⟩
  simp only at h
  rw [show ((a.toNat : Nat) : Int) = a by omega, show ((b.toNat : Nat) : Int) = b by omega] at h
  exact h
theorem unhex_row {w : World} {B : Nat} {v : Value} {acc : List UInt8} {c d : UInt8} (hown : w.ownsRow B 5 1 v (acc.length + 1) (Lib.byteCells acc ++ #[Value.int .u8 (bits BinOp.or IntKind.i64 (dv c * 16) (dv d) % 256)].toList)) (hc : 0 ≤ dv c) (hd : 0 ≤ dv d) :
    w.ownsRow B 5 1 v (acc ++ [(16 * (dv c).toNat + (dv d).toNat).toUInt8]).length (Lib.byteCells (acc ++ [(16 * (dv c).toNat + (dv d).toNat).toUInt8])) := by
  rw [or_dv _ _ hc hd (dv_bounds c).2 (dv_bounds d).2] at hown
  rw [Lib.byteCells_append, List.length_append]
  exact hown

set_option maxHeartbeats 400000 in
theorem unhex_bad (s : ByteArray) (W : World) (m : Nat) (hm : 2 * m + 1 = s.size) :
    Calls Tryz.prog 43 #[.string s] W fun e W' => e = .returned (.tuple #[.string ByteArray.empty, .int .i64 4]) ∧ Below W.heap.size W W' := by
  have ho : ((s.size : Int) % 2 != 0) = true := by simp; omega
  go_enter Tryz.func43, Tryz.ntmps43
  go_wp2
  go_ret2
  exact ⟨rfl, Below.refl _ _⟩

set_option maxRecDepth 100000 in
set_option maxHeartbeats 800000 in
theorem unhex_even (s : ByteArray) (W : World) (hs : s.size ≤ 1000000) (m : Nat) (hm : 2 * m = s.size) :
    Calls Tryz.prog 43 #[.string s] W fun e W' => e = .returned (.tuple #[.string (unhexS s.data.toList), .int .i64 (unhexE s.data.toList)]) ∧ Below W.heap.size W W' := by
  obtain ⟨i0, hi, hz0, hz1, hz2⟩ := info_parts info5
  have ho : ((s.size : Int) % 2 != 0) = false := by simp; omega
  go_enter Tryz.func43, Tryz.ntmps43
  go_wp2_with (at_make; refine wpList_make_own _ rfl _ _ 71 rfl W.heap.size 5 i0 (.int .u8 0) 1 Tryz.underlying71 hi hz0 hz1 _ _ _ m rfl rfl (by omega) ?b2 ?b3 (Nat.le_refl _) ?_)
  case b2 => rw [hz2]; omega
  case b3 => unfold maxLen; omega
  intro w1 hown hgrow
  have hb1 := (Below.refl W.heap.size W).grown hgrow (Nat.le_refl _) (fun k hk => by cases hk)
  clear hgrow
  go_wp2_with fail
  go_loopw [4, 5] (fun o i wr => ∃ (k : Nat) (acc : List UInt8), k ≤ s.size ∧ i = .int .i64 k ∧ 2 * acc.length = k ∧ wr.ownsRow W.heap.size 5 1 o acc.length (Lib.byteCells acc) ∧ Reads s.data.toList acc k ∧ Below W.heap.size W wr) (fun _ i _ => s.size - (intOf i).toNat)
  case atStart => exact ⟨0, [], Nat.zero_le _, rfl, rfl, by simpa [Lib.byteCells] using hown, reads_zero _, hb1⟩
  case round =>
    obtain ⟨k, acc, hk, rfl, hka, ho, hrd, hb⟩ := hrel
    have HK := Lib.hid hka
    clear hka
    by_cases hlt : k < s.size
    · have hlt2 : k + 1 < s.size := by have := HK.out; omega
      have d1 := dv_bounds s[k]
      have d2 := dv_bounds s[k + 1]
      have e1 : (k : Int) + 1 < (s.size : Int) := by omega
      have e0 : (k : Int) < (s.size : Int) := by omega
      have e2 : (0 : Int) ≤ (k : Int) + 1 := by omega
      have e3 : ((k : Int) + 1).toNat = k + 1 := by omega
      have e4 : IntKind.i64.wrap ((k : Int) + 1) = (k : Int) + 1 := IntWalk.i64_in _ (by omega)
      go_wp2_with fail
      go_quiet ((go_at_call 68; exact Calls.quiet_of_same (idx_any _ _)))
      have hoq : (wr.drewN nq).ownsRow W.heap.size 5 1 u4 acc.length (Lib.byteCells acc) := ho
      have hbq : Below W.heap.size W (wr.drewN nq) := below_drewN hb nq
      clear ho hb
      generalize wr.drewN nq = w3 at hoq hbq ⊢
      have hB := hbq.size
      by_cases ha : 0 ≤ dv s[k]
      · by_cases hb' : 0 ≤ dv s[k + 1]
        · have hl : acc.length ≤ 1000000 := by have := HK.out; omega
          go_wp2_with (at_builtin; refine wpList_append_lies _ rfl _ _ 71 (by rfl) W.heap.size 5 i0 _ 1 1 Tryz.underlying71 hi hz0 hz1 hz2 rfl (by omega) u4 acc.length _ (by rfl) (hoq.alloc _) ⟨w3.heap.size, 0, none⟩ 1 1 _ (by rfl) (by rfl) (World.news_of_block (t := 5) (fr := (0, 0)) (heap_alloc_new w3 _)) (by simp [Value.oneCell']) (by omega) (by unfold maxLen; omega) (by omega) (by simp; omega) (w3.heap.size + 1) (by simp) ?_; intro g cap w2 hown2 hgrow2 hat2 hlt3)
          go_wp2
          go_roundw
          case rel => exact ⟨k + 2, _, by omega, by go_num, by simp; have := HK.out; omega, unhex_row hown2 ha hb', reads_step _ _ _ (by simpa using hlt2) hrd ha hb', (hbq.alloc hB _).grown hgrow2 (by simp; omega) (fun j hj => (hoq.lt j hj).1)⟩
          case measure => simp [intOf]; omega
        · have hn := reads_stop _ _ _ (by simpa using hlt2) hrd (fun h => hb' h.2)
          have h1 := Lib.hid (unhexS_none hn)
          have h2 := Lib.hid (unhexE_none hn)
          clear hn hrd
          go_wp2
          go_ret2
          exact ⟨by rw [h1.out, h2.out]; rfl, hbq⟩
      · have hn := reads_stop _ _ _ (by simpa using hlt2) hrd (fun h => ha h.1)
        have h1 := Lib.hid (unhexS_none hn)
        have h2 := Lib.hid (unhexE_none hn)
        clear hn hrd
        go_wp2
        go_ret2
        exact ⟨by rw [h1.out, h2.out]; rfl, hbq⟩
    · have hks : k = s.data.toList.length := by simp; omega
      rw [hks] at hrd
      have hn := reads_end _ _ hrd
      have h1 := Lib.hid (unhexS_some hn)
      have h2 := Lib.hid (unhexE_some hn)
      have hcv := str_own ho
      clear hn hrd hks
      go_wp2
      go_ret2
      exact ⟨by rw [h1.out, h2.out]; rfl, hb⟩

theorem unhex_any (s : ByteArray) (W : World) (hs : s.size ≤ 1000000) :
    Calls Tryz.prog 43 #[.string s] W fun e W' => e = .returned (.tuple #[.string (unhexS s.data.toList), .int .i64 (unhexE s.data.toList)]) ∧ Below W.heap.size W W' := by
  rcases Nat.mod_two_eq_zero_or_one s.size with h | h
  · exact unhex_even s W hs (s.size / 2) (by omega)
  · have hn := unhex_odd s.data.toList (s.size / 2) (by simp; omega)
    rw [unhexS_none hn, unhexE_none hn]
    exact unhex_bad s W (s.size / 2) (by omega)
end Go.Proofs.YtmekmlgpkbfjpaaGreatDoor

/- The statements' own calls: short, first, alive; what is signed is verified, and not with another number. -/
namespace Go.Proofs.YtmekmlgpkbfjpaaGreatDoor.E
open Go.RowKit Go.Sort Go.Proofs.YtmekmlgpkbfjpaaGreatDoor.F Go.Proofs.YtmekmlgpkbfjpaaGreatDoor.C
set_option maxRecDepth 100000

/-! ### short, first, alive -/
/-! ### what is signed is verified -/
theorem key_text {P : Pt} (h : P.On) : keyB (textN P) = true ∧ keyQ (textN P) = P := by
  have hp := text_parts P
  have e1 : keyY (textN P) = P.y.val := hp.1
  have e2 : keyO (textN P) = decide (P.x.val % 2 = 1) := hp.2
  have hb : keyB (textN P) = true := by unfold keyB; rw [e1, e2]; exact parseB_on h
  refine ⟨hb, ?_⟩
  have h1 := key_pn hb
  rw [e1, e2] at h1
  exact h1.same (parseT_pn h)
section
variable (s m : ByteArray)
theorem seedT_size : (seedT s m).size = 64 := by
  unfold seedT signT
  rw [ByteArray.size_append, text_size]
  simp [ByteArray.size, leL_length]
theorem seedT_list : (seedT s m).data.toList = (signT s.data.toList m.data.toList).data.toList ++ leL (signS s.data.toList m.data.toList) 32 := by
  unfold seedT
  rw [T.list_append]
theorem seedT_take : (seedT s m).data.toList.take 32 = (signT s.data.toList m.data.toList).data.toList := by
  have h : (signT s.data.toList m.data.toList).data.toList.length = 32 := by rw [← Lib.size_eq]; exact text_size _
  rw [seedT_list, ← h, List.take_left']
  rfl
theorem seedT_drop : (seedT s m).data.toList.drop 32 = leL (signS s.data.toList m.data.toList) 32 := by
  have h : (signT s.data.toList m.data.toList).data.toList.length = 32 := by rw [← Lib.size_eq]; exact text_size _
  rw [seedT_list, List.drop_left' h]
theorem signS_lt (a b : List UInt8) : signS a b < l25 := Nat.mod_lt _ (by decide)
theorem sigN_own : sigN (seedT s m) = signS s.data.toList m.data.toList := by
  unfold sigN
  rw [seedT_drop, numLE_leL, Nat.mod_eq_of_lt (Nat.lt_trans (signS_lt _ _) (by decide))]
theorem text_back (x : ByteArray) (l : List UInt8) (h : x.data.toList = l) : x = ⟨l.toArray⟩ := by rw [← h, Lib.mk_data]
theorem key_on : (keyP s.data.toList).On := Pt.smul_on Bp_on _
theorem keyT_is : keyB (keyT s.data.toList) = true := (key_text (key_on s)).1
theorem own_point : (Bp.smul (signS s.data.toList m.data.toList)).add ((keyP s.data.toList).smul (signK s.data.toList m.data.toList)).neg = Bp.smul (signR s.data.toList m.data.toList) := by
  unfold signS keyP
  exact sign_point _ _ _
theorem sigK_of (x : ByteArray) (h : x.data.toList.take 32 = (signT s.data.toList m.data.toList).data.toList) : sigK (keyT s.data.toList) m x = signK s.data.toList m.data.toList := by
  unfold sigK signK
  rw [h]
theorem first_of (x : ByteArray) (h : x.data.toList.take 32 = (signT s.data.toList m.data.toList).data.toList) : x.extract 0 32 = signT s.data.toList m.data.toList := by
  rw [text_back (x.extract 0 32) _ (T.head_list x 32), h, Lib.mk_data]
theorem sigR_of (x : ByteArray) (h : x.data.toList.take 32 = (signT s.data.toList m.data.toList).data.toList) :
    sigR (keyT s.data.toList) m x = textN ((Bp.smul (sigN x)).add ((keyP s.data.toList).smul (signK s.data.toList m.data.toList)).neg) := by
  unfold sigR
  rw [sigK_of s m x h]
  unfold keyT
  rw [(key_text (key_on s)).2]
theorem verify_own : verifyE (keyT s.data.toList) m (seedT s m) = 0 := by
  unfold verifyE
  rw [if_pos ⟨text_size _, seedT_size s m⟩, if_pos (keyT_is s), sigN_own, if_pos (signS_lt _ _), if_pos]
  rw [sigR_of s m _ (seedT_take s m), sigN_own, own_point, first_of s m _ (seedT_take s m)]
  rfl
end
end Go.Proofs.YtmekmlgpkbfjpaaGreatDoor.E

/- A value in memory: five cells, its items in a row of five cells each, its keys in a row of texts; what stays of it; and how one that came in is opened. -/
namespace Go.Proofs.YtmekmlgpkbfjpaaGreatDoor.V
open Go.ChangeShapes Go.WideShapes Go.ChangeAt Go.RowKit
set_option maxRecDepth 100000

instance : Inhabited VT := ⟨vt0⟩
theorem range_below {w w' : World} {b o : Nat} {cs : List Value} (hb : Below w.heap.size w w') (h : w.rangeAt b o cs) : w'.rangeAt b o cs := fun j v hv => by
  have h4 := h j v hv
  rw [hb.cell (p := ⟨b, o + j, none⟩) (World.block_lt_of_cell? w _ h4), h4]
/-- a row of k cells each: the slice value, how many, what is said of each one's cells -/
def RowC (w : World) (k : Nat) (v : Value) (m : Nat) (p : Nat → List Value → Prop) : Prop :=
  ∃ a c, v = .slice a m c ∧ m ≤ c ∧ c ≤ maxLen ∧ (a = none → c = 0) ∧ (0 < m → ∃ b off, a = some ⟨b, off, none⟩ ∧ ∀ i, i < m → ∃ cs, cs.length = k ∧ w.rangeAt b (off + i * k) cs ∧ p i cs)
theorem RowC.mono {w : World} {k : Nat} {v : Value} {m : Nat} {p q : Nat → List Value → Prop} (h : RowC w k v m p) (hq : ∀ i cs, i < m → p i cs → q i cs) : RowC w k v m q := by
  obtain ⟨a, c, hv, hc, hm, hn, hl⟩ := h
  refine ⟨a, c, hv, hc, hm, hn, fun hpos => ?_⟩
  obtain ⟨b, off, ha, hx⟩ := hl hpos
  exact ⟨b, off, ha, fun i hi => let ⟨cs, h1, h2, h3⟩ := hx i hi; ⟨cs, h1, h2, hq i cs hi h3⟩⟩
/-- what fits a value's own fields -/
def VFit (t : VT) : Prop := (-9223372036854775808 ≤ t.kind ∧ t.kind ≤ 9223372036854775807) ∧ (-9223372036854775808 ≤ t.num ∧ t.num ≤ 9223372036854775807) ∧ t.txt.length ≤ maxLen ∧ ∀ x ∈ t.keys, x.length ≤ maxLen
/-- the five cells cs are the value t, which is no deeper than d -/
def IsV (w : World) : Nat → List Value → VT → Prop
  | 0, _, _ => False
  | d + 1, cs, t => ∃ vi vk, cs = [.int .i64 t.kind, .int .i64 t.num, str t.txt, vi, vk] ∧ VFit t ∧ Strs w vk t.keys ∧ RowC w 5 vi t.items.length (fun i cs' => ∃ x, t.items[i]? = some x ∧ IsV w d cs' x)
theorem IsV.mono {w : World} : ∀ {d d' : Nat} {cs : List Value} {t : VT}, IsV w d cs t → d ≤ d' → IsV w d' cs t := by
  intro d
  induction d with
  | zero => intro d' cs t h; exact h.elim
  | succ d ih =>
    intro d' cs t h hd
    obtain ⟨e, rfl⟩ : ∃ e, d' = e + 1 := ⟨d' - 1, by omega⟩
    obtain ⟨vi, vk, h1, h2, h3, h4⟩ := h
    exact ⟨vi, vk, h1, h2, h3, h4.mono fun i cs _ ⟨x, hx, hv⟩ => ⟨x, hx, ih hv (by omega)⟩⟩
/-! ### one that came in -/
end Go.Proofs.YtmekmlgpkbfjpaaGreatDoor.V

/- A block that is known whole. Nothing of the program is named here. -/
namespace Go.Proofs.YtmekmlgpkbfjpaaGreatDoor.V
set_option maxRecDepth 100000
open Go.RowKit

/-- block g is just these cells, none of them frozen -/
def Lies (w : World) (g : Nat) (t : TypeId) (cs : Array Value) : Prop := w.heap[g]? = some (.cells cs t (0, 0))

section
variable {w w' : World} {g : Nat} {t : TypeId} {cs : Array Value}
theorem Lies.lt (h : Lies w g t cs) : g < w.heap.size := by
  rcases Nat.lt_or_ge g w.heap.size with hlt | hge
  · exact hlt
  · unfold Lies at h; rw [Array.getElem?_eq_none hge] at h; cases h
theorem Lies.cell (h : Lies w g t cs) (i : Nat) : w.cell? ⟨g, i, none⟩ = cs[i]? := cell_of_row w g i cs t (0, 0) h
theorem Lies.frozen (h : Lies w g t cs) (i : Nat) : w.frozen? ⟨g, i, none⟩ = false := frozen_of_row w g i cs t h
theorem Lies.alloc (h : Lies w g t cs) (o : Obj) : Lies (w.alloc o) g t cs := (Below.heap_alloc w o g h.lt).trans h
theorem Lies.new (w : World) (t : TypeId) (cs : Array Value) : Lies (w.alloc (.cells cs t)) w.heap.size t cs := heap_alloc_new w _
theorem Lies.put (h : Lies w g t cs) (i : Nat) (v : Value) : Lies (w.setCell ⟨g, i, none⟩ v) g t (cs.setIfInBounds i v) := heap_setCell_same w g i cs t v h
theorem Lies.below {B : Nat} (h : Lies w g t cs) (hb : Below B w w') (hg : g < B) : Lies w' g t cs := (hb.block g hg).trans h
theorem Lies.on (h : Lies w g t cs) (hb : Below w.heap.size w w') : Lies w' g t cs := h.below hb h.lt
theorem Lies.only {row : Option Nat} (h : Lies w g t cs) (hb : w.grownBy w' row) (hg : some g ≠ row) : Lies w' g t cs := (hb.block g h.lt hg).trans h
theorem Lies.row (h : Lies w g t cs) (old : Array Value) : Lies (w.setRow g old) g t old := setRow_heap w g cs old t (0, 0) h
end
end Go.Proofs.YtmekmlgpkbfjpaaGreatDoor.V

/- Whole variables read and written, and handed back. -/
namespace Go.Proofs.YtmekmlgpkbfjpaaGreatDoor.V
set_option maxRecDepth 100000
open Go.RowKit

theorem below_rowSet {B : Nat} {a w : World} (h : Below B a w) {g : Nat} (hg : B ≤ g) (cs : Array Value) : Below B a (w.setRow g cs) :=
  h.trans ⟨rfl, rfl, rfl, by simp, fun k hk => setRow_other _ _ _ _ (by omega)⟩
/-- a type of rows or structs, of so many cells -/
def RowT (P : Program) (ty : TypeId) (n : Nat) : Prop := (∃ d, P.underlying ty = some d ∧ d.isRow = true) ∧ (P.info? ty).map (·.size) = some n
/-- cells of one value each -/
def Ones (cs : Array Value) : Prop := cs.all (·.oneCell') = true
section
variable {P : Program} {ops : Array Oper} {rest : List Oper} {a : Act} {w : World} {Q : Exit → Act → World → Prop} {t' : TypeId} {pos : String} {after : Array Edge}
/-- a variable that is a whole block is read -/
theorem wpL_load {d : Option Tmp} {x : Tmp} {ty : TypeId} (g : Nat) (t : TypeId) (cs : Array Value) (n : Nat) (hT : RowT P ty n) (hn : cs.size = n) (hg : Lies w g t cs)
    (hx : a.eval (.tmp x) = .pointer (some ⟨g, 0, none⟩)) (h : wpList P ops Q rest (a.put d (.agg cs)) w) : wpList P ops Q (⟨d, .load ty (.tmp x), t', pos, after, none⟩ :: rest) a w := by
  obtain ⟨⟨ds, hu, hd⟩, hi⟩ := hT
  exact wpList_load_row (o := ⟨d, .load ty (.tmp x), t', pos, after, none⟩) rfl ty (.tmp x) rfl g hx t cs (0, 0) ds hg hu (by cases ds <;> first | rfl | simp [TypeDesc.isRow] at hd) (by rw [hi, hn]) h
/-- .. and written -/
theorem wpL_store {x y : Tmp} {ty : TypeId} (g : Nat) (t : TypeId) (old cs : Array Value) (n : Nat) (hT : RowT P ty n) (ho : old.size = n) (hn : cs.size = n) (h1 : Ones cs) (hg : Lies w g t old)
    (hx : a.eval (.tmp x) = .pointer (some ⟨g, 0, none⟩)) (hy : a.eval (.tmp y) = .agg cs) (h : wpList P ops Q rest (a.put none undef) (w.setRow g cs)) : wpList P ops Q (⟨none, .store ty (.tmp x) (.tmp y), t', pos, after, none⟩ :: rest) a w :=
  wpList_store_row (o := ⟨none, .store ty (.tmp x) (.tmp y), t', pos, after, none⟩) rfl ty (.tmp x) (.tmp y) rfl g cs hx hy t old hg (by rw [hT.2, hn]) (by rw [ho, hn]) h1 h
/-- some cells in the middle of a block are read -/
theorem wpL_loadMid {d : Option Tmp} {x : Tmp} {ty : TypeId} (g o : Nat) (cs : List Value) (n : Nat) (hT : RowT P ty n) (hn : cs.length = n) (hg : w.rangeAt g o cs)
    (hx : a.eval (.tmp x) = .pointer (some ⟨g, o, none⟩)) (h : wpList P ops Q rest (a.put d (.agg cs.toArray)) w) : wpList P ops Q (⟨d, .load ty (.tmp x), t', pos, after, none⟩ :: rest) a w := by
  obtain ⟨⟨ds, hu, hd⟩, hi⟩ := hT
  exact wpList_load_mid (op := ⟨d, .load ty (.tmp x), t', pos, after, none⟩) rfl ty (.tmp x) rfl g o hx cs ds hg hu hd (by rw [hi, hn]) h
end
end Go.Proofs.YtmekmlgpkbfjpaaGreatDoor.V

/- The text builder's WriteString: what it leaves as it was, boxes of the callers' own among it. -/
namespace Go.Proofs.YtmekmlgpkbfjpaaGreatDoor.V
open Go.RowKit
set_option maxRecDepth 100000

/-- all that lay there lies there as it was, but for the builder's block and rows of bytes -/
def Calm (b : Nat) (w w' : World) : Prop := w.heap.size ≤ w'.heap.size ∧ ∀ (k : Nat) (cs : Array Value) (t : TypeId) (fr : Nat × Nat), k ≠ b → t ≠ 5 → w.heap[k]? = some (.cells cs t fr) → w'.heap[k]? = some (.cells cs t fr)
theorem Calm.trans {b : Nat} {w w1 w2 : World} (h : Calm b w w1) (k : Calm b w1 w2) : Calm b w w2 := ⟨Nat.le_trans h.1 k.1, fun j cs t fr hj ht hc => k.2 j cs t fr hj ht (h.2 j cs t fr hj ht hc)⟩
theorem Calm.grown {b B n : Nat} {v : Value} {ys : List Value} {w w' : World} (ho : w.ownsRow B 5 1 v n ys) (h : w.grownBy w' v.ownBlock) : Calm b w w' := by
  refine ⟨h.size, fun j cs t fr _ ht hc => ?_⟩
  have hj : j < w.heap.size := by
    rcases Nat.lt_or_ge j w.heap.size with h1 | h1
    · exact h1
    · rw [Array.getElem?_eq_none h1] at hc; cases hc
  refine (h.block j hj ?_).trans hc
  rcases ho.2 with ⟨rfl, _⟩ | ⟨g, cap, cur, rfl, _, hg, _⟩
  · simp [Value.ownBlock]
  · intro e
    simp only [Value.ownBlock, Option.some.injEq] at e
    subst e
    rw [hg] at hc
    simp only [Option.some.injEq, Obj.cells.injEq] at hc
    exact ht hc.2.1.symm
theorem own_on {k : Nat} {w w1 : World} {B : Nat} {e : TypeId} {v : Value} {n : Nat} {xs : List Value} (h : w.ownsRow B e k v n xs) (hb : Below w.heap.size w w1) : w1.ownsRow B e k v n xs := by
  obtain ⟨hl, h⟩ := h
  refine ⟨hl, ?_⟩
  rcases h with h | ⟨g, cap, cur, hv, hg, hh, hr⟩
  · exact Or.inl h
  · have hlt : g < w.heap.size := by
      rcases Nat.lt_or_ge g w.heap.size with h' | h'
      · exact h'
      · rw [Array.getElem?_eq_none h'] at hh; cases hh
    exact Or.inr ⟨g, cap, cur, hv, hg, (hb.block g hlt).trans hh, hr⟩
end Go.Proofs.YtmekmlgpkbfjpaaGreatDoor.V

/- Rows of elements of k cells each: read, owned, cut, and put one behind the other. -/
namespace Go.Proofs.YtmekmlgpkbfjpaaGreatDoor.V
set_option maxRecDepth 100000
open Go.RowKit

/-- the slice value v reads as elements of these cells -/
def RowL (w : World) (k : Nat) (v : Value) (css : List (List Value)) : Prop :=
  (∀ cs ∈ css, cs.length = k) ∧ ∃ a c, v = .slice a css.length c ∧ css.length ≤ c ∧ c ≤ maxLen ∧ (a = none → c = 0) ∧ (0 < css.length → ∃ b off, a = some ⟨b, off, none⟩ ∧ ∀ (i : Nat) (cs : List Value), css[i]? = some cs → w.rangeAt b (off + i * k) cs)
theorem RowL.below {w w' : World} {k : Nat} {v : Value} {css : List (List Value)} (h : RowL w k v css) (hb : Below w.heap.size w w') : RowL w' k v css := by
  obtain ⟨h0, a, c, hv, hc, hm, hn, hl⟩ := h
  refine ⟨h0, a, c, hv, hc, hm, hn, fun hpos => ?_⟩
  obtain ⟨b, off, ha, hx⟩ := hl hpos
  exact ⟨b, off, ha, fun i cs hi => range_below hb (hx i cs hi)⟩
theorem RowL.nil (w : World) (k : Nat) : RowL w k (.slice none 0 0) [] := ⟨(fun cs h => by cases h), none, 0, rfl, Nat.le_refl _, Nat.zero_le _, fun _ => rfl, fun h => absurd h (by simp)⟩
theorem RowL.form {w : World} {k : Nat} {v : Value} {css : List (List Value)} (h : RowL w k v css) : ∃ a c, v = .slice a css.length c ∧ css.length ≤ c ∧ c ≤ maxLen ∧ (a = none → c = 0) := by
  obtain ⟨_, a, c, hv, hc, hm, hn, _⟩ := h
  exact ⟨a, c, hv, hc, hm, hn⟩
/-- one element's cells -/
theorem RowL.at {w : World} {k : Nat} {a : Option Addr} {n c : Nat} {css : List (List Value)} (h : RowL w k (.slice a n c) css) {i : Nat} {cs : List Value} (hi : css[i]? = some cs) : ∃ b off, a = some ⟨b, off, none⟩ ∧ w.rangeAt b (off + i * k) cs ∧ cs.length = k := by
  obtain ⟨h0, a', c', hv, hc, hm, hn, hl⟩ := h
  injection hv with e1 e2 e3
  subst e1
  have hlt := (List.getElem?_eq_some_iff.1 hi).1
  obtain ⟨b, off, ha, hx⟩ := hl (by omega)
  exact ⟨b, off, ha, hx i cs hi, h0 cs (List.mem_of_getElem? hi)⟩
/-! ### flat -/
theorem flat_len {k : Nat} : ∀ {css : List (List Value)}, (∀ cs ∈ css, cs.length = k) → css.flatten.length = css.length * k := by
  intro css
  induction css with
  | nil => intro _; simp
  | cons c r ih =>
    intro h
    rw [List.flatten_cons, List.length_append, List.length_cons, ih (fun cs hc => h cs (by simp [hc])), h c (by simp), Nat.succ_mul]
    omega
theorem flat_cells {w : World} {k b : Nat} : ∀ {css : List (List Value)} {off : Nat}, (∀ cs ∈ css, cs.length = k) → (∀ (i : Nat) (cs : List Value), css[i]? = some cs → w.rangeAt b (off + i * k) cs) → ∀ (j : Nat) (u : Value), css.flatten[j]? = some u → w.cell? ⟨b, off + j, none⟩ = some u := by
  intro css
  induction css with
  | nil => intro off _ _ j u h; simp at h
  | cons c r ih =>
    intro off h0 hx j u h
    have hc := h0 c (by simp)
    rw [List.flatten_cons] at h
    by_cases hj : j < c.length
    · rw [List.getElem?_append_left hj] at h
      have := hx 0 c rfl j u h
      simpa using this
    · rw [List.getElem?_append_right (by omega)] at h
      have := ih (off := off + k) (fun cs hcs => h0 cs (by simp [hcs])) (fun i cs hi => by
        have := hx (i + 1) cs (by simpa using hi)
        rw [Nat.succ_mul] at this
        rwa [show off + k + i * k = off + (i * k + k) by omega]) (j - c.length) u h
      rwa [show off + k + (j - c.length) = off + j by omega] at this
theorem flat_at {k : Nat} : ∀ {css : List (List Value)} {i : Nat} {cs : List Value}, (∀ cs ∈ css, cs.length = k) → css[i]? = some cs → ∀ (j : Nat) (u : Value), cs[j]? = some u → css.flatten[i * k + j]? = some u := by
  intro css
  induction css with
  | nil => intro i cs _ h; simp at h
  | cons c r ih =>
    intro i cs h0 h j u hu
    have hc := h0 c (by simp)
    rw [List.flatten_cons]
    cases i with
    | zero =>
      simp at h
      subst h
      have hj := (List.getElem?_eq_some_iff.1 hu).1
      rw [Nat.zero_mul, Nat.zero_add, List.getElem?_append_left hj]
      exact hu
    | succ i =>
      have h2 : r[i]? = some cs := by simpa using h
      rw [Nat.succ_mul, List.getElem?_append_right (by omega)]
      rw [show i * k + k + j - c.length = i * k + j by omega]
      exact ih (fun cs hcs => h0 cs (by simp [hcs])) h2 j u hu
/-- a row that the call owns -/
def OwnL (w : World) (B : Nat) (e : TypeId) (k : Nat) (v : Value) (css : List (List Value)) : Prop := (∀ cs ∈ css, cs.length = k) ∧ w.ownsRow B e k v css.length css.flatten
theorem OwnL.read {w : World} {B : Nat} {e : TypeId} {k : Nat} {v : Value} {css : List (List Value)} (h : OwnL w B e k v css) : RowL w k v css := by
  obtain ⟨h0, ho⟩ := h
  refine ⟨h0, ?_⟩
  rcases ho.2 with ⟨rfl, hn⟩ | ⟨g, cap, cur, rfl, hg, hh, hc, hm, hs, ht⟩
  · exact ⟨none, 0, by rw [hn], by omega, Nat.zero_le _, fun _ => rfl, fun h => by omega⟩
  · refine ⟨some ⟨g, 0, none⟩, cap, rfl, hc, hm, (fun e => by cases e), fun _ => ⟨g, 0, rfl, fun i cs hi j u hu => ?_⟩⟩
    have hf := flat_at h0 hi j u hu
    have hlt : i * k + j < css.length * k := by
      rw [← flat_len h0]
      exact (List.getElem?_eq_some_iff.1 hf).1
    rw [show 0 + i * k + j = i * k + j by omega, ho.cellAt _ hlt, hf]
theorem OwnL.on {w w' : World} {B : Nat} {e : TypeId} {k : Nat} {v : Value} {css : List (List Value)} (h : OwnL w B e k v css) (hb : Below w.heap.size w w') : OwnL w' B e k v css := ⟨h.1, own_on h.2 hb⟩
theorem OwnL.nil (w : World) (B : Nat) (e : TypeId) (k : Nat) : OwnL w B e k (.slice none 0 0) [] := ⟨(fun cs h => by cases h), World.ownsRow_nil _ _ _ _⟩
theorem OwnL.form {w : World} {B : Nat} {e : TypeId} {k : Nat} {v : Value} {css : List (List Value)} (h : OwnL w B e k v css) : ∃ a c, v = .slice a css.length c ∧ css.length ≤ c ∧ c ≤ maxLen ∧ (a = none → c = 0) := h.read.form
theorem OwnL.lt {w : World} {B : Nat} {e : TypeId} {k : Nat} {v : Value} {css : List (List Value)} (h : OwnL w B e k v css) : ∀ g, v.ownBlock = some g → B ≤ g := fun g hg => (h.2.lt g hg).1
/-- a literal of one element -/
theorem RowL.lit (w : World) (e : TypeId) (k : Nat) (cs : List Value) (hk : cs.length = k) : RowL (w.alloc (.cells cs.toArray e)) k (.slice (some ⟨w.heap.size, 0, none⟩) 1 1) [cs] := by
  refine ⟨fun c h => by rw [List.mem_singleton.1 h]; exact hk, some ⟨w.heap.size, 0, none⟩, 1, rfl, Nat.le_refl _, by decide, (fun e => by cases e), fun _ => ⟨w.heap.size, 0, rfl, fun i c hi j u hu => ?_⟩⟩
  obtain ⟨hi0, rfl⟩ : i = 0 ∧ c = cs := by
    cases i with
    | zero => simp at hi; exact ⟨rfl, hi.symm⟩
    | succ i => simp at hi
  subst hi0
  have hl := (Lies.new w e c.toArray).cell j
  rw [show 0 + 0 * k + j = j by omega, hl]
  simpa using hu
/-! ### cut -/
theorem RowL.take {w : World} {k : Nat} {a : Option Addr} {n c : Nat} {css : List (List Value)} (h : RowL w k (.slice a n c) css) {j : Nat} (hj : j ≤ css.length) : RowL w k (sliced a 0 j c k) (css.take j) := by
  obtain ⟨h0, a', c', hv, hc, hm, hn, hl⟩ := h
  injection hv with e1 e2 e3
  subst e1 e2 e3
  have hlen : (css.take j).length = j := by rw [List.length_take]; omega
  refine ⟨fun cs hcs => h0 cs (List.mem_of_mem_take hcs), (if c = 0 then a else a.map (·.add (0 * k))), c - 0, ?_, by omega, by omega, fun e => ?_, fun hpos => ?_⟩
  · rw [hlen]; unfold sliced; rw [Nat.sub_zero]
  · by_cases h0 : c = 0
    · omega
    · rw [if_neg h0, Option.map_eq_none_iff] at e
      have := hn e; omega
  · obtain ⟨b, off, rfl, hx⟩ := hl (by omega)
    refine ⟨b, off, ?_, fun i cs hi => ?_⟩
    · by_cases h0 : c = 0
      · rw [if_pos h0]
      · rw [if_neg h0, Option.map_some, Addr.add_mid, Nat.zero_mul, Nat.add_zero]
    · rw [List.getElem?_take] at hi
      split at hi
      · exact hx i cs hi
      · cases hi
theorem RowL.drop {w : World} {k : Nat} {a : Option Addr} {n c : Nat} {css : List (List Value)} (h : RowL w k (.slice a n c) css) {j : Nat} (hj : j ≤ css.length) : RowL w k (sliced a j css.length c k) (css.drop j) := by
  obtain ⟨h0, a', c', hv, hc, hm, hn, hl⟩ := h
  injection hv with e1 e2 e3
  subst e1 e2 e3
  refine ⟨fun cs hcs => h0 cs (List.mem_of_mem_drop hcs), (if c = j then a else a.map (·.add (j * k))), c - j, ?_, by rw [List.length_drop]; omega, by omega, fun e => ?_, fun hpos => ?_⟩
  · rw [List.length_drop]; rfl
  · by_cases h0 : c = j
    · omega
    · rw [if_neg h0, Option.map_eq_none_iff] at e
      have := hn e; omega
  · rw [List.length_drop] at hpos
    obtain ⟨b, off, rfl, hx⟩ := hl (by omega)
    refine ⟨b, off + j * k, ?_, fun i cs hi => ?_⟩
    · rw [if_neg (by omega), Option.map_some, Addr.add_mid]
    · rw [List.getElem?_drop] at hi
      have := hx (j + i) cs hi
      rwa [show off + j * k + i * k = off + (j + i) * k by rw [Nat.add_mul]; omega]
/-! ### the walk's steps -/
section
variable {P : Program} {ops : Array Oper} {rest : List Oper} {a : Act} {w : World} {Q : Exit → Act → World → Prop} {t' : TypeId} {pos : String} {after : Array Edge}
/-- elements go behind a row that the call owns -/
theorem wpL_appendL {d : Option Tmp} {x y : Tmp} {ty : TypeId} (B : Nat) (e : TypeId) (i : TypeInfo) (z : Value) (k bytes : Nat) (ht : P.underlying ty = some (.slice e)) (hi : P.info? e = some i) (hz : i.zero = some z) (hsize : i.size = k) (hby : i.bytes = bytes) (hzs : z.cells.size = k) (hk : 0 < k)
    (v : Value) (css : List (List Value)) (hown : OwnL w B e k v css) (v' : Value) (css' : List (List Value)) (hrow : RowL w k v' css') (hu : ∀ u ∈ css'.flatten, u.oneCell' = true) (h63 : css.length + css'.length ≤ maxLen) (hbytes : (css.length + css'.length) * bytes ≤ 140737488355328) (hbase : B ≤ w.heap.size)
    (hs : a.eval (.tmp x) = v) (hx : a.eval (.tmp y) = v')
    (h : ∀ v'' w', OwnL w' B e k v'' (css ++ css') → w.grownBy w' v.ownBlock → wpList P ops Q rest (a.put d v'') w') :
    wpList P ops Q (⟨d, .call { callee := .builtin .append, args := #[.tmp x, .tmp y], argTypes := #[ty, ty] }, t', pos, after, none⟩ :: rest) a w := by
  obtain ⟨h0, ho⟩ := hown
  obtain ⟨h0', av, cv, rfl, hc, hm, hn, hl⟩ := hrow
  have hall : ∀ cs ∈ css ++ css', cs.length = k := fun cs hcs => (List.mem_append.1 hcs).elim (h0 cs) (h0' cs)
  rcases Nat.eq_zero_or_pos css'.length with hz0 | hpos
  · obtain rfl := List.eq_nil_of_length_eq_zero hz0
    cases av with
    | none =>
      obtain rfl := hn rfl
      refine wpList_append_own_none (o := ⟨d, .call { callee := .builtin .append, args := #[.tmp x, .tmp y], argTypes := #[ty, ty] }, t', pos, after, none⟩) rfl _ _ ty rfl B e i k ht hi v css.length css.flatten hs ho hx (h v w ⟨hall, ?_⟩ (World.grownBy.refl w _))
      rw [List.append_nil]; exact ho
    | some ad =>
      refine wpList_append_own (o := ⟨d, .call { callee := .builtin .append, args := #[.tmp x, .tmp y], argTypes := #[ty, ty] }, t', pos, after, none⟩) w rfl _ _ ty rfl B e i z k bytes ht hi hz hsize hby hzs hk v css.length css.flatten hs ho ad 0 cv [] hx (by simp) (fun j u h => by simp at h) (fun u h => by cases h) (by simpa using h63) (by simpa using hbytes) hbase (fun v'' w' h1 h2 _ => h v'' w' ⟨hall, ?_⟩ h2)
      simpa using h1
  · obtain ⟨b, off, rfl, hx2⟩ := hl hpos
    refine wpList_append_own (o := ⟨d, .call { callee := .builtin .append, args := #[.tmp x, .tmp y], argTypes := #[ty, ty] }, t', pos, after, none⟩) w rfl _ _ ty rfl B e i z k bytes ht hi hz hsize hby hzs hk v css.length css.flatten hs ho ⟨b, off, none⟩ css'.length cv css'.flatten hx (flat_len h0') (fun j u hj => ?_) hu h63 hbytes hbase (fun v'' w' h1 h2 _ => h v'' w' ⟨hall, ?_⟩ h2)
    · rw [Addr.add_mid]
      exact flat_cells h0' hx2 j u hj
    · rw [List.length_append, List.flatten_append]; exact h1
end
end Go.Proofs.YtmekmlgpkbfjpaaGreatDoor.V

