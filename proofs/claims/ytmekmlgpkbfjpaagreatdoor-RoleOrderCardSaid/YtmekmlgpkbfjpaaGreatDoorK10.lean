/- Texts that stand on one another, put together: TClone, TTake, TNum, TPad, TText, TWork, TCalls, Strs, TSum, EBase, TAlive, ESign, EVerify, OMath, URot, UMem, USpread, UAdd, UClone, UTake, UNum, UPad, UText, UWork, UCalls, USum, UAlive, USums. -/
import Derived.Test.YtmekmlgpkbfjpaaGreatDoorK9
import Derived.BigQuiet
import Derived.Deep.AppendLies
import Derived.Deep.CutRange
import Derived.Deep.MidRow
import Derived.Deep.QuietTactic
import Derived.Deep.RegionWith
import Derived.Deep.WholeRow
import Derived.Laws.Bits64
import Derived.Laws.BitsAllLaws
import Derived.Laws.ResultCell
import Derived.Laws.ShiftsVarLaws
import Derived.Laws.StructEq
import Derived.Lib.AppendZerosOnto
import Derived.Lib.BufferWrite
import Derived.Lib.Strings
import Derived.Lib.UnsafeStr
import Derived.Lib.Walk
import Derived.Outline
import Derived.StillTailTactics
/- The contract of the library's Clone: a copy of a text. -/
namespace Go.Proofs.YtmekmlgpkbfjpaaGreatDoor.T
open Go.RowKit
set_option maxRecDepth 100000

theorem cells5 : Tryz.prog.cellsOf 5 = 1 := by kernel_rfl
set_option maxHeartbeats 400000 in
theorem cloneLite_any (s : ByteArray) (w : World) (hlim : s.size ≤ 281474976710656) :
    Calls Tryz.prog 110 #[.string s] w fun e w' => e = .returned (.string s) ∧ Below w.heap.size w w' := by
  by_cases h0 : s.size = 0
  · have hs : s = ⟨#[]⟩ := by
      apply ByteArray.ext
      exact Array.eq_empty_of_size_eq_zero h0
    subst hs
    go_enter Tryz.func110, Tryz.ntmps110
    go_wp2
    go_ret
    exact ⟨rfl, Below.refl _ _⟩
  · obtain ⟨i0, hi, hz0, hz1, hz2⟩ := info_parts info5
    have hinfo : (Tryz.prog.info? 5).map (·.size) = some 1 := by rw [hi]; simp [hz1]
    obtain ⟨M, hM⟩ : ∃ M, M = madeCells (Value.int .u8 0).cells (((s.size : Nat) : Int).toNat * i0.size) := ⟨_, rfl⟩
    have hMs : M.size = s.size := by rw [hM, size_madeCells, hz1]; simp
    have hmk : ∀ W : World, (Instr.makeSlice 71 (.int .i64 (s.size : Int)) (.int .i64 (s.size : Int))).run Tryz.prog W = .ok (.slice (some ⟨W.heap.size, 0, none⟩) s.size s.size) (W.alloc (.cells M 5)) := fun W => by
      have h := run_make (P := Tryz.prog) W 71 5 i0 (.int .u8 0) Tryz.underlying71 hi hz0 .i64 .i64 (s.size : Int) (s.size : Int) (by omega) (by omega) (by rw [hz2]; omega) (by omega)
      rw [← hM] at h
      simpa using h
    clear hM
    have hcp := Lib.run_copy_row_string (P := Tryz.prog) (w.alloc (.cells M 5)) 71 9 3 5 w.heap.size 0 s.size s.size s M 5 Tryz.underlying71 hinfo (heap_alloc_new w _) (Nat.le_refl _) (by omega)
    obtain ⟨Y, hY⟩ : ∃ Y, Y = (M.toList.take 0 ++ Lib.byteCells s.data.toList ++ M.toList.drop (0 + s.size)).toArray := ⟨_, rfl⟩
    rw [← hY] at hcp
    have hYl : Y.toList = Lib.byteCells s.data.toList := by
      rw [hY, List.toList_toArray, List.take_zero, List.nil_append, List.drop_of_length_le (by rw [Array.length_toList]; omega), List.append_nil]
    have hYs : Y.size = s.size := by rw [← Array.length_toList, hYl, Lib.byteCells_length, ← Lib.size_eq]
    have hgY : ((w.alloc (.cells M 5)).setRow w.heap.size Y).heap[w.heap.size]? = some (.cells Y 5 (0, 0)) := setRow_heap _ _ M _ 5 (0, 0) (heap_alloc_new w _)
    have hne : s.data.toList ≠ [] := fun e => h0 (by rw [Lib.size_eq, e]; rfl)
    have hUS := Lib.run_unsafeString_row (P := Tryz.prog) ((w.alloc (.cells M 5)).setRow w.heap.size Y) 187 3 9 5 Tryz.underlying187 cells5 w.heap.size Y.size (by unfold World.shape?; rw [hgY]) s.data.toList hne (by rw [← Lib.size_eq]; omega) (by rw [← Lib.size_eq]; omega)
      (fun j x hx => Lib.cells_of_row hgY Y.size j _ (by rw [List.take_of_length_le (by rw [Array.length_toList]; exact Nat.le_refl _), hYl]; simp [Lib.byteCells, hx]))
    rw [← Lib.size_eq] at hUS
    clear hY
    go_enter Tryz.func110, Tryz.ntmps110
    go_wp2
    go_ret
    have hb1 : Below w.heap.size w (w.alloc (.cells M 5)) := (Below.refl _ w).alloc (Nat.le_refl _) _
    exact ⟨rfl, Lib.below_freeze (below_rowSet hb1 (Nat.le_refl _) Y) (p := ⟨w.heap.size, 0, none⟩) (Nat.le_refl _) _⟩

theorem clone_any (s : ByteArray) (w : World) (hlim : s.size ≤ 281474976710656) :
    Calls Tryz.prog 71 #[.string s] w fun e w' => e = .returned (.string s) ∧ Below w.heap.size w w' := by
  go_enter Tryz.func71, Tryz.ntmps71
  go_wp2_with (go_at_call 110; refine (cloneLite_any _ _ hlim).mono ?_; rintro e w1 ⟨rfl, hb1⟩)
  go_ret
  exact ⟨rfl, hb1⟩
end Go.Proofs.YtmekmlgpkbfjpaaGreatDoor.T

/- The contract of the program's take: bytes go into a sum that works. -/
namespace Go.Proofs.YtmekmlgpkbfjpaaGreatDoor.T
open Go.RowKit
set_option maxRecDepth 100000

def strSize : Value → Nat | .string b => b.size | _ => 0
def bytesOf (l : List UInt8) : ByteArray := ⟨l.toArray⟩
theorem list_append (a b : ByteArray) : (a ++ b).data.toList = a.data.toList ++ b.data.toList := by
  rw [ByteArray.data_append, Array.toList_append]
theorem Lies.len {w : World} {g : Nat} {t : TypeId} {s : H8} {buf : ByteArray} {n : Nat} (h : Lies w g t (sumA s buf n)) (m : Nat) : Lies (w.setCell ⟨g, 9, none⟩ (.int .u64 (m : Int))) g t (sumA s buf m) := h.put 9 _
theorem Lies.buf {w : World} {g : Nat} {t : TypeId} {s : H8} {buf : ByteArray} {n : Nat} (h : Lies w g t (sumA s buf n)) (b : ByteArray) : Lies (w.setCell ⟨g, 8, none⟩ (.string b)) g t (sumA s b n) := h.put 8 _
theorem Lies.c8 {w : World} {g : Nat} {t : TypeId} {s : H8} {buf : ByteArray} {n : Nat} (h : Lies w g t (sumA s buf n)) : w.cell? ⟨g, 8, none⟩ = some (.string buf) := h.cell 8
theorem Lies.c9 {w : World} {g : Nat} {t : TypeId} {s : H8} {buf : ByteArray} {n : Nat} (h : Lies w g t (sumA s buf n)) : w.cell? ⟨g, 9, none⟩ = some (.int .u64 (n : Int)) := h.cell 9

set_option maxRecDepth 100000 in
set_option maxHeartbeats 800000 in
theorem take_short (g : Nat) (H : H8) (buf s : ByteArray) (n : Nat) (w : World) (hs : buf.size + s.size < 128) (hn : n + s.size < 18446744073709551616) (hl : Lies w g 172 (sumA H buf n)) :
    Calls Tryz.prog 86 #[.pointer (some ⟨g, 0, none⟩), .string s] w fun e w' => e = .returned (.tuple #[]) ∧ Lies w' g 172 (sumA H (buf ++ s) (n + s.size)) ∧ Only g w w' := by
  have k8 := hl.c8
  have k9 := hl.c9
  have f8 := hl.frozen 8
  have f9 := hl.frozen 9
  have hz : (buf ++ s).size ≤ 281474976710656 := by rw [ByteArray.size_append]; omega
  go_enter Tryz.func86, Tryz.ntmps86
  go_wp2_with (go_at_call 71; refine (clone_any _ _ hz).mono ?_; rintro e w1 ⟨rfl, hb1⟩; have hl1 := Lies.on (hl.len (n + s.size)) hb1; have k18 := hl1.c8; have f18 := hl1.frozen 8; have hO := (((Only.refl w g).put (p := ⟨g, 9, none⟩) (Or.inl rfl) (.int .u64 ((n + s.size : Nat) : Int))).on hb1).put (p := ⟨g, 8, none⟩) (Or.inl rfl) (.string (buf ++ s)))
  go_end0
  exact ⟨rfl, hl1.buf _, hO⟩
theorem Tab.put {w : World} (h : Tab w) {p : Addr} (hp : 3 < p.block ∧ 8 < p.block) (v : Value) : Tab (w.setCell p v) :=
  ⟨fun i hi => (World.cell?_of_block (Below.heap_setCell w p v 3 (by omega))).trans (h.1 i hi), fun t ht => (World.cell?_of_block (Below.heap_setCell w p v 8 (by omega))).trans (h.2 t ht)⟩
theorem Tab.drew {w : World} (h : Tab w) : Tab w.drew := h

theorem feed_first (H : H8) (a b : List UInt8) (m : Nat) (ha : a.length + m = 128) (hb : m ≤ b.length) : feed H (a ++ b) = feed (mix H (a ++ b.take m)) (b.drop m) := by
  rw [feed_long H (a ++ b) (by rw [List.length_append]; omega), List.take_append, List.drop_append, List.take_of_length_le (by omega), List.drop_of_length_le (by omega), show 128 - a.length = m by omega, List.nil_append]
theorem tail_first (a b : List UInt8) (m : Nat) (ha : a.length + m = 128) (hb : m ≤ b.length) : tailB (a ++ b) = tailB (b.drop m) := by
  rw [tail_long (a ++ b) (by rw [List.length_append]; omega), List.drop_append, List.drop_of_length_le (by omega), show 128 - a.length = m by omega, List.nil_append]

theorem empty_cat (r : ByteArray) : ({ data := #[] } : ByteArray) ++ r = r := by
  apply ByteArray.ext
  rw [ByteArray.data_append]
  simp
theorem head_list (s : ByteArray) (m : Nat) : (s.extract 0 m).data.toList = s.data.toList.take m := by rw [extract_list, List.drop_zero, Nat.sub_zero]
theorem rest_list (s : ByteArray) (m : Nat) : (s.extract m s.size).data.toList = s.data.toList.drop m := by
  rw [extract_list, List.take_of_length_le (by rw [List.length_drop, ← Lib.size_eq]; exact Nat.le_refl _)]

set_option maxRecDepth 100000 in
set_option maxHeartbeats 1600000 in
theorem take_long (g : Nat) (H : H8) (buf s : ByteArray) (n : Nat) (w : World) (hb : buf.size < 128) (hs : 128 ≤ buf.size + s.size) (hs2 : s.size ≤ 281474976710000) (hn : n + s.size < 18446744073709551616) (hg : 3 < g ∧ 8 < g) (hT : Tab w) (hl : Lies w g 172 (sumA H buf n)) (hok : H.Ok) :
    Calls Tryz.prog 86 #[.pointer (some ⟨g, 0, none⟩), .string s] w fun e w' => e = .returned (.tuple #[]) ∧ Lies w' g 172 (sumA (feed H (buf.data.toList ++ s.data.toList)) (bytesOf (tailB (buf.data.toList ++ s.data.toList))) (n + s.size)) ∧ Only g w w' := by
  obtain ⟨m, hm⟩ : ∃ m, buf.size + m = 128 := ⟨128 - buf.size, by omega⟩
  have hm1 : m ≤ s.size := by omega
  have em : (128 : Int) - (buf.size : Int) = (m : Int) := by omega
  have hsz : (buf ++ s.extract 0 m).size = 128 := by rw [ByteArray.size_append, extract_size _ _ _ hm1]; omega
  have HF := Lib.hid (feed_first H buf.data.toList s.data.toList m (by rw [← Lib.size_eq]; exact hm) (by rw [← Lib.size_eq]; exact hm1))
  have HL := Lib.hid (tail_first buf.data.toList s.data.toList m (by rw [← Lib.size_eq]; exact hm) (by rw [← Lib.size_eq]; exact hm1))
  have hx : (s.extract 0 m).size ≤ 128 := by rw [extract_size _ _ _ hm1]; omega
  have hno : ¬ 9223372036854775807 < buf.size + m := by omega
  have HM := Lib.hid hm
  have HZ := Lib.hid hsz
  clear hm hsz
  have k8 := hl.c8
  have k9 := hl.c9
  have f9 := hl.frozen 9
  go_enter Tryz.func86, Tryz.ntmps86
  go_wp2_with fail
  generalize hW : World.setCell w _ _ = w0
  have hl0 : Lies w0 g 172 (sumA H buf (n + s.size)) := by rw [← hW]; exact hl.len (n + s.size)
  have hT0 : Tab w0 := by rw [← hW]; exact hT.put hg _
  have hO0 : Only g w w0 := by rw [← hW]; exact (Only.refl w g).put (Or.inl rfl) _
  clear hW k8 k9 f9 hl hT
  have k8 := hl0.c8
  refine wp_region_still_tail 13 (by kernel_rfl) (by kernel_rfl) ?_
  simp only [List.take_succ_cons, List.take_zero, List.drop_succ_cons, List.drop_zero]
  change wpStill _ _ w0.drew _ _ _
  repeat still_step
  refine wpStill_nil ?_
  change wpList _ _ _ _ _ w0.drew
  go_wp2_with (go_at_call 127; refine (add_any _ g H buf (n + s.size) _ HZ.out hT0.drew hl0.drew hok).mono ?_; rintro e w1 ⟨rfl, hl1, hO1⟩)
  have hT1 := hT0.only (Only.drew (Only.refl w0 g)|>.trans hO1) hg
  have hO2 := hO0.drew.trans hO1
  clear k8 hT0 hl0 hO0 hO1 hx hno em
  go_loopw [1] (fun v wr => ∃ (r : ByteArray) (K : H8), v = .string r ∧ r.size ≤ 281474976710000 ∧ Lies wr g 172 (sumA K buf (n + s.size)) ∧ K.Ok ∧ Hid (feed H (buf.data.toList ++ s.data.toList) = feed K r.data.toList) ∧ Hid (tailB (buf.data.toList ++ s.data.toList) = tailB r.data.toList) ∧ Tab wr ∧ Only g w wr) (fun v _ => strSize v)
  case atStart => exact ⟨_, _, rfl, by rw [ByteArray.size_extract]; omega, hl1, mix_ok _ _, Lib.hid (by rw [HF.out, list_append, head_list, rest_list]), Lib.hid (by rw [HL.out, rest_list]), hT1, hO2⟩
  case round =>
    clear hl1 hT1 hO2 HF HL HM HZ
    obtain ⟨r, K, rfl, hr, hl, hK, HF, HL, hT, hO⟩ := hrel
    by_cases hlt : 128 ≤ r.size
    · have h64 : (r.extract 0 128).size = 128 := by rw [extract_size _ _ _ hlt]
      have HZ := Lib.hid h64
      clear h64
      go_wp2_with fail
      refine wp_region_still_tail 5 (by kernel_rfl) (by kernel_rfl) ?_
      simp only [List.take_succ_cons, List.take_zero, List.drop_succ_cons, List.drop_zero]
      change wpStill _ _ wr.drew _ _ _
      repeat still_step
      refine wpStill_nil ?_
      change wpList _ _ _ _ _ wr.drew
      go_wp2_with (go_at_call 127; refine (add_any _ g K buf (n + s.size) _ HZ.out hT.drew hl.drew hK).mono ?_; rintro e w2 ⟨rfl, hl2, hO2⟩)
      have hT2 := hT.only (Only.drew (Only.refl wr g)|>.trans hO2) hg
      go_roundw
      case rel =>
        exact ⟨_, _, rfl, by rw [ByteArray.size_extract]; omega, hl2, mix_ok _ _, Lib.hid (by rw [HF.out, feed_long K r.data.toList (by rw [← Lib.size_eq]; exact hlt), head_list, rest_list]), Lib.hid (by rw [HL.out, tail_long r.data.toList (by rw [← Lib.size_eq]; exact hlt), rest_list]), hT2, hO.drew.trans hO2⟩
      case measure => simp [strSize]; omega
    · have k8 := hl.c8
      have f8 := hl.frozen 8
      have hz : (({ data := #[] } : ByteArray) ++ r).size ≤ 281474976710656 := by rw [empty_cat]; omega
      go_wp2_with (go_at_call 71; refine (clone_any _ _ hz).mono ?_; rintro e w3 ⟨rfl, hb3⟩; have hl3 := Lies.on (hl.buf { data := #[] }) hb3; have k18 := hl3.c8; have f18 := hl3.frozen 8; have hO3 := ((hO.put (p := ⟨g, 8, none⟩) (Or.inl rfl) (.string { data := #[] })).on hb3).put (p := ⟨g, 8, none⟩) (Or.inl rfl) (.string (({ data := #[] } : ByteArray) ++ r)))
      go_end0
      have hsh : r.data.toList.length < 128 := by rw [← Lib.size_eq]; omega
      refine ⟨rfl, ?_, hO3⟩
      rw [HF.out, HL.out, feed_short K _ hsh, tail_short _ hsh, show bytesOf r.data.toList = ({ data := #[] } : ByteArray) ++ r by rw [empty_cat]; exact Lib.mk_data r]
      exact hl3.buf _

/-- bytes go into a sum that works -/
theorem take_any (g : Nat) (H : H8) (buf s : ByteArray) (n : Nat) (w : World) (hb : buf.size < 128) (hs2 : s.size ≤ 281474976710000) (hn : n + s.size < 18446744073709551616) (hg : 3 < g ∧ 8 < g) (hT : Tab w) (hl : Lies w g 172 (sumA H buf n)) (hok : H.Ok) :
    Calls Tryz.prog 86 #[.pointer (some ⟨g, 0, none⟩), .string s] w fun e w' => e = .returned (.tuple #[]) ∧ Lies w' g 172 (sumA (feed H (buf.data.toList ++ s.data.toList)) (bytesOf (tailB (buf.data.toList ++ s.data.toList))) (n + s.size)) ∧ Only g w w' := by
  by_cases hs : 128 ≤ buf.size + s.size
  · exact take_long g H buf s n w hb hs hs2 hn hg hT hl hok
  · have hsh : (buf.data.toList ++ s.data.toList).length < 128 := by rw [List.length_append, ← Lib.size_eq, ← Lib.size_eq]; omega
    rw [feed_short H _ hsh, tail_short _ hsh, ← list_append, show bytesOf (buf ++ s).data.toList = buf ++ s from Lib.mk_data _]
    exact take_short g H buf s n w (by omega) hn hl
end Go.Proofs.YtmekmlgpkbfjpaaGreatDoor.T

/- The contracts of the program's calls that put a number's bytes behind others. -/
namespace Go.Proofs.YtmekmlgpkbfjpaaGreatDoor.T
open Go.RowKit
set_option maxRecDepth 100000

/-- what a row holds when k of a number's bytes are behind others -/
def upto (acc : List UInt8) (n w k : Nat) : List UInt8 := acc ++ (bigL n w).take k
theorem upto_zero (acc : List UInt8) (n w : Nat) : upto acc n w 0 = acc := by simp [upto]
theorem upto_end (acc : List UInt8) (n w : Nat) : upto acc n w w = acc ++ bigL n w := by
  unfold upto
  rw [List.take_of_length_le (by rw [bigL_length]; exact Nat.le_refl _)]
theorem upto_length (acc : List UInt8) (n w k : Nat) (h : k ≤ w) : (upto acc n w k).length = acc.length + k := by
  unfold upto
  rw [List.length_append, List.length_take, bigL_length]
  omega
theorem bigL_take (n w k : Nat) (h : k < w) : (bigL n w).take (k + 1) = (bigL n w).take k ++ [(n / 256 ^ (w - 1 - k) % 256).toUInt8] := by
  induction w generalizing k with
  | zero => omega
  | succ w ih =>
    rw [bigL_head]
    cases k with
    | zero => simp
    | succ k =>
      rw [List.take_succ_cons, List.take_succ_cons, ih k (by omega), show w + 1 - 1 - (k + 1) = w - 1 - k by omega]
      rfl
theorem upto_step (acc : List UInt8) (n w k : Nat) (h : k < w) : upto acc n w (k + 1) = upto acc n w k ++ [(n / 256 ^ (w - 1 - k) % 256).toUInt8] := by
  unfold upto
  rw [bigL_take n w k h, List.append_assoc]

theorem byte_shift (n k : Nat) : (n : Int) / 2 ^ (8 * k) % 256 = (((n / 256 ^ k % 256).toUInt8).toNat : Int) := by
  have e : (2 : Int) ^ (8 * k) = ((256 ^ k : Nat) : Int) := by rw [Int.pow_mul]; simp
  rw [toNat_mod, e]
  omega

/-- a word moved right by so many bytes that all of it may drop out -/
theorem shift_far (n k : Nat) (y : Int) (hy : y = ((8 * k : Nat) : Int)) (hn : n < 18446744073709551616) (w : World) : (Op.shift BinOp.shr .u64 (n : Int) .i64 y).run Tryz.prog w = .ok (.int .u64 ((n : Int) / 2 ^ (8 * k))) w := by
  subst hy
  have hb : IntKind.u64.bits = 64 := rfl
  unfold Op.shift
  rw [if_neg (by omega), Int.toNat_natCast, hb]
  show Result.ok (Value.int .u64 (Int.fdiv (n : Int) (2 ^ min (8 * k) 64))) w = _
  rw [Int.fdiv_eq_ediv_of_nonneg _ (show (0 : Int) ≤ 2 ^ min (8 * k) 64 from Int.pow_nonneg (by decide))]
  by_cases h : 8 * k ≤ 64
  · rw [Nat.min_eq_left h]
  · rw [Nat.min_eq_right (by omega)]
    have h1 : (n : Int) / 2 ^ 64 = 0 := by omega
    have h2 : (n : Int) / 2 ^ (8 * k) = 0 := by
      rw [show (2 : Int) ^ (8 * k) = ((2 ^ (8 * k) : Nat) : Int) by rw [Int.natCast_pow]; rfl, ← Int.natCast_ediv, Nat.div_eq_of_lt (Nat.lt_of_lt_of_le hn (Nat.pow_le_pow_right (n := 2) (i := 64) (by decide) (show 64 ≤ 8 * k by omega)))]
      rfl
    rw [h1, h2]
set_option maxHeartbeats 400000 in
theorem appendNumber_any (v : Value) (acc : List UInt8) (n x : Nat) (B : Nat) (W : World) (hn : n < 18446744073709551616) (hx : x ≤ 16) (ha : acc.length ≤ 1000) (hB : B ≤ W.heap.size) (hown : W.ownsRow B 5 1 v acc.length (Lib.byteCells acc)) :
    Calls Tryz.prog 168 #[v, .int .u64 n, .int .i64 x] W fun e W' => ∃ v', e = .returned v' ∧ W'.ownsRow B 5 1 v' (acc ++ bigL n x).length (Lib.byteCells (acc ++ bigL n x)) ∧ Below B W W' := by
  obtain ⟨i0, hi, hz0, hz1, hz2⟩ := info_parts info5
  go_enter Tryz.func168, Tryz.ntmps168
  go_wp2_with fail
  go_loopw [0, 9] (fun o i wr => ∃ k : Nat, k ≤ x ∧ i = .int .i64 k ∧ wr.ownsRow B 5 1 o (upto acc n x k).length (Lib.byteCells (upto acc n x k)) ∧ Below B W wr) (fun _ i _ => x - (intOf i).toNat)
  case atStart => exact ⟨0, Nat.zero_le _, rfl, by rw [upto_zero]; exact hown, Below.refl _ _⟩
  case round =>
    clear hown
    obtain ⟨k, hk, rfl, ho, hb⟩ := hrel
    have hBr := Nat.le_trans hB hb.size
    by_cases hlt : k < x
    · have HS := Lib.hid (upto_step acc n x k hlt)
      have hsh := fun w => shift_far n (x - 1 - k) (8 * ((x : Int) - 1 - (k : Int))) (by omega) hn w
      have hl := upto_length acc n x k hk
      have hl1 : (upto acc n x k).length ≤ 1016 := by omega
      clear hl
      go_wp2_with (at_builtin; refine wpList_append_lies _ rfl _ _ 71 (by rfl) B 5 i0 _ 1 1 Tryz.underlying71 hi hz0 hz1 hz2 rfl (by omega) _ (upto acc n x k).length _ (by rfl) (ho.alloc _) ⟨wr.heap.size, 0, none⟩ 1 1 _ (by rfl) (by rfl) (World.news_of_block (t := 5) (fr := (0, 0)) (heap_alloc_new wr _)) (by simp [Value.oneCell']) (by omega) (by unfold maxLen; omega) (by omega) (by simp; omega) (wr.heap.size + 1) (by simp) ?_; intro g cap w2 hown2 hgrow2 hat2 hlt3)
      go_roundw
      case rel =>
        exact ⟨k + 1, by omega, by go_num, by rw [HS.out]; rw [byte_shift] at hown2; simpa [Lib.byteCells] using hown2, (hb.alloc hBr _).grown hgrow2 (by simp; omega) (fun j hj => (ho.lt j hj).1)⟩
      case measure => simp [intOf]; omega
    · obtain rfl : k = x := by omega
      have HS := Lib.hid (upto_end acc n k)
      go_wp2
      go_ret
      exact ⟨_, rfl, by rw [← HS.out]; exact ho, hb⟩
end Go.Proofs.YtmekmlgpkbfjpaaGreatDoor.T

/- The contract of the program's padding: what comes to so many bytes, so that there are whole blocks. -/
namespace Go.Proofs.YtmekmlgpkbfjpaaGreatDoor.T
open Go.RowKit
set_option maxRecDepth 100000

theorem zeros_list (n : Nat) : (Builtin.zeroCells (Value.int .u8 0).cells n).toList = List.replicate n (Value.int .u8 0) := by
  apply List.ext_getElem
  · rw [Array.length_toList, size_zeroCells, List.length_replicate]; simp [Value.cells]
  · intro i h1 h2
    simp [Builtin.zeroCells, Value.cells, Nat.mod_one]

/-- a byte, and as many zeros as are asked for -/
theorem pad_append (W : World) (B g k : Nat) (hB : B ≤ g) (hk : k < 128) (hl : Lies W g 5 #[.int .u8 128]) :
    ∃ v w', (Builtin.append_ #[71, 65] 71 #[.slice (some ⟨g, 0, none⟩) 1 1, .int .u64 (k : Int)]).run Tryz.prog W = .ok v w' ∧
      w'.ownsRow B 5 1 v (128 :: List.replicate k (0 : UInt8)).length (Lib.byteCells (128 :: List.replicate k 0)) ∧ Below B W w' := by
  obtain ⟨i0, hi, hz0, hz1, hz2⟩ := info_parts info5
  have hlt := hl.lt
  rcases Nat.eq_zero_or_pos k with rfl | h0
  · refine ⟨.slice (some ⟨g, 0, none⟩) 1 1, W, ?_, ?_, Below.refl _ _⟩
    · have e0 : IntKind.i64.wrap 0 = 0 := rfl
      simp [Builtin.append_, run_underlying Tryz.underlying71, run_underlying Tryz.underlying65, sizeOf, typeInfo, hi, hz2, asInt, asIntOf, storeCells, e0]
    · exact ⟨rfl, .inr ⟨g, 1, _, rfl, hB, hl, Nat.le_refl _, by unfold maxLen; omega, rfl, rfl⟩⟩
  · have hn := nextslicecap_le (need := 1 + k) (old := 1) (by omega)
    have hold : (Builtin.firstCells i0.size 1 (.slice (some ⟨g, 0, none⟩) 1 1)).run Tryz.prog W.drew = .ok [Value.int .u8 128].toArray W.drew := by
      rw [hz1]
      exact run_loadCells_list (P := Tryz.prog) W.drew ⟨g, 0, none⟩ [Value.int .u8 128] (World.news_of_block (cs := #[Value.int .u8 128]) (t := 5) (fr := (0, 0)) hl)
    have hr := Lib.run_append_grow_zeros (P := Tryz.prog) W 71 65 71 5 i0 (.int .u8 0) .u64 .u64 Tryz.underlying71 Tryz.underlying65 hi hz0 (some ⟨g, 0, none⟩) 1 1 [.int .u8 128] hold k h0 (by omega) (by omega) (by omega) (by rw [hz2]; omega) (by rw [hz2]; omega)
    have e : (128 :: List.replicate k (0 : UInt8)).length = 1 + k := by simp; omega
    have hge := grownCap_ge W (1 + k) 1 5
    refine ⟨_, _, hr, ?_, (Below.refl B W).drew.alloc (by show B ≤ W.heap.size; omega) _⟩
    rw [e]
    refine ⟨by rw [Lib.byteCells_length, e]; omega, .inr ⟨W.heap.size, _, _, rfl, by omega, heap_alloc_new W.drew _, hge, grownCap_le_maxLen W (1 + k) 1 _ (by unfold maxLen; omega), ?_, ?_⟩⟩
    · simp only [Array.size_append, List.size_toArray, size_zeroCells, Value.cells, List.length_cons, List.length_nil]
      omega
    · simp only [Array.toList_append, zeros_list]
      rw [List.take_left' (by simp; omega)]
      simp [Lib.byteCells]

set_option maxHeartbeats 400000 in
theorem padding_any (n : Nat) (W : World) (hn : n < 2305843009213693952) :
    Calls Tryz.prog 128 #[.int .u64 n] W fun e W' => e = .returned (.string ⟨(pad n).toArray⟩) ∧ Below W.heap.size W W' := by
  obtain ⟨v, w1, hr, ho, hb⟩ := pad_append (W.alloc (.cells #[.int .u8 128] 5)) W.heap.size W.heap.size ((239 - n % 128) % 128) (Nat.le_refl _) (Nat.mod_lt _ (by decide)) (Lies.new _ _ _)
  rw [show (((239 - n % 128) % 128 : Nat) : Int) = (239 - (n : Int) % 128) % 128 by omega] at hr
  have HR := Lib.hid hr
  have hb1 : Below W.heap.size W w1 := ((Below.refl _ W).alloc (Nat.le_refl _) _).trans hb
  have hB := hb1.size
  have hl : (128 :: List.replicate ((239 - n % 128) % 128) (0 : UInt8)).length ≤ 128 := by simp; omega
  have HP := Lib.hid (show pad n = (128 :: List.replicate ((239 - n % 128) % 128) 0) ++ bigL (8 * n) 16 from rfl)
  generalize (128 :: List.replicate ((239 - n % 128) % 128) (0 : UInt8)) = acc at ho hl HP
  clear hr hb
  go_enter Tryz.func128, Tryz.ntmps128
  go_wp2_with (at_builtin; refine Lib.wpList_append_run _ rfl _ _ 71 65 (by rfl) _ _ (by rfl) (by rfl) _ _ HR.out ?_)
  have HA := Lib.hid (appendNumber_any v acc (8 * n) 16 W.heap.size w1 (by omega) (by omega) (by omega) hB ho)
  go_wp2_with (go_at_call 168; refine HA.out.mono ?_; rintro e w2 ⟨v2, rfl, ho2, hb2⟩; have hcv := str_own ho2)
  go_ret
  exact ⟨ret1_of (val_str HP.out.symm), hb1.trans hb2⟩
end Go.Proofs.YtmekmlgpkbfjpaaGreatDoor.T

/- The contract of the program's text: the words' bytes. -/
namespace Go.Proofs.YtmekmlgpkbfjpaaGreatDoor.T
open Go.RowKit
set_option maxRecDepth 100000

/-- the first words' bytes -/
def outTo (s : H8) : Nat → List UInt8
  | 0 => []
  | k + 1 => outTo s k ++ bigL (s.at k) 8
theorem outTo_end (s : H8) : outTo s 8 = outT s := by simp only [outTo, outT, H8.at, List.nil_append]
theorem outTo_length (s : H8) (k : Nat) : (outTo s k).length = 8 * k := by
  induction k with
  | zero => rfl
  | succ k ih => rw [outTo, List.length_append, ih, bigL_length]; omega

set_option maxHeartbeats 800000 in
theorem text_any (g : Nat) (H : H8) (buf : ByteArray) (n : Nat) (W : World) (hl : Lies W g 172 (sumA H buf n)) (hok : H.Ok) :
    Calls Tryz.prog 129 #[.pointer (some ⟨g, 0, none⟩)] W fun e W' => e = .returned (.string ⟨(outT H).toArray⟩) ∧ Below W.heap.size W W' := by
  have HW := Lib.hid hl.words
  have hix := index_eight H
  clear hl
  go_enter Tryz.func129, Tryz.ntmps129
  go_wp2_with ((with_reducible refine wpL_loadMid g 0 (wordsL H) 8 row26 rfl HW.out ?_ ?_); rfl)
  simp only [wordsL]
  go_loopw [3, 11] (fun o i wr => ∃ k : Nat, k ≤ 8 ∧ i = .int .i64 k ∧ wr.ownsRow W.heap.size 5 1 o (outTo H k).length (Lib.byteCells (outTo H k)) ∧ Below W.heap.size W wr) (fun _ i _ => 8 - (intOf i).toNat)
  case atStart => exact ⟨0, Nat.zero_le _, rfl, World.ownsRow_nil _ _ _ _, Below.refl _ _⟩
  case round =>
    obtain ⟨k, hk, rfl, ho, hb⟩ := hrel
    by_cases hlt : k < 8
    · have hx := hix k hlt
      clear hix
      have hw := H8.at_lt hok k
      have hlen := outTo_length H k
      have HA := Lib.hid (appendNumber_any u3 (outTo H k) (H.at k) 8 W.heap.size wr (by omega) (by omega) (by omega) hb.size ho)
      clear hlen
      have HS := Lib.hid (show outTo H (k + 1) = outTo H k ++ bigL (H.at k) 8 from rfl)
      go_wp2_with (go_at_call 168; refine HA.out.mono ?_; rintro e w1 ⟨v1, rfl, ho1, hb1⟩)
      go_roundw
      case rel => exact ⟨k + 1, by omega, by go_num, by rw [HS.out]; exact ho1, hb.trans hb1⟩
      case measure => simp [intOf]; omega
    · obtain rfl : k = 8 := by omega
      have hcv := str_own ho
      clear hix
      go_wp2
      go_ret
      exact ⟨ret1_of (val_str (outTo_end H)), hb⟩
end Go.Proofs.YtmekmlgpkbfjpaaGreatDoor.T

/- The contracts of the program's calls on a sum that works: it is laid, asked, ended. -/
namespace Go.Proofs.YtmekmlgpkbfjpaaGreatDoor.T
open Go.RowKit
set_option maxRecDepth 100000

set_option maxHeartbeats 400000 in
theorem workOn_any (H : H8) (buf : ByteArray) (n : Nat) (w : World) :
    Calls Tryz.prog 84 #[.agg (sumA H buf n)] w fun e w' => ∃ g, e = .returned (.pointer (some ⟨g, 0, none⟩)) ∧ w.heap.size ≤ g ∧ Lies w' g 172 (sumA H buf n) ∧ Below w.heap.size w w' := by
  unfold sumA
  go_enter Tryz.func84, Tryz.ntmps84
  go_wp2
  go_ret
  refine ⟨_, rfl, ?_, heap_alloc2_new w _ _, ((Below.refl _ w).alloc (Nat.le_refl _) _).alloc (by simp) _⟩
  simp

set_option maxHeartbeats 400000 in
theorem end_any (g : Nat) (H : H8) (buf : ByteArray) (n : Nat) (w : World) (hb : buf.size < 128) (hn : n < 1152921504606846976) (hg : 3 < g ∧ 8 < g) (hT : Tab w) (hl : Lies w g 172 (sumA H buf n)) (hok : H.Ok) :
    Calls Tryz.prog 87 #[.pointer (some ⟨g, 0, none⟩)] w fun e w' => e = .returned (.string (bytesOf (endT H buf.data.toList n))) ∧ Only g w w' := by
  have k9 := hl.c9
  have hp : (bytesOf (pad n)).size ≤ 144 := by
    rw [Lib.size_eq]
    show (pad n).length ≤ 144
    rw [pad_length]
    omega
  have hp2 : (bytesOf (pad n)).data.toList = pad n := rfl
  go_enter Tryz.func87, Tryz.ntmps87
  go_wp2_with (first | (go_at_call 128; refine (padding_any n _ (by omega)).mono ?_; rintro e w1 ⟨rfl, hb1⟩; have HK := Lib.hid (take_any g H buf (bytesOf (pad n)) n w1 hb (by omega) (by omega) hg (hT.below hb1) (hl.on hb1) hok)) | (go_at_call 86; refine HK.out.mono ?_; rintro e w2 ⟨rfl, hl2, hO2⟩) | (go_at_call 129; refine (text_any g _ _ _ _ hl2 (feed_ok' hok _)).mono ?_; rintro e w3 ⟨rfl, hb3⟩))
  go_ret
  exact ⟨rfl, ((Only.of_below hb1 g).trans hO2).on hb3⟩
end Go.Proofs.YtmekmlgpkbfjpaaGreatDoor.T

/- The contracts of the program's own five calls. -/
namespace Go.Proofs.YtmekmlgpkbfjpaaGreatDoor.T
open Go.RowKit
set_option maxRecDepth 100000

section
variable {P : Program} {ops : Array Oper} {rest : List Oper} {a : Act} {w : World} {Q : Exit → Act → World → Prop} {t' : TypeId} {pos : String} {after : Array Edge}
/-- some cells in the middle of a block are read, the block a package-level variable's -/
theorem wpL_loadGlobal {d : Option Tmp} {x : Operand} {ty : TypeId} (g o : Nat) (cs : List Value) (n : Nat) (hT : RowT P ty n) (hn : cs.length = n) (hg : w.rangeAt g o cs)
    (hx : a.eval x = .pointer (some ⟨g, o, none⟩)) (h : wpList P ops Q rest (a.put d (.agg cs.toArray)) w) : wpList P ops Q (⟨d, .load ty x, t', pos, after, none⟩ :: rest) a w := by
  obtain ⟨⟨ds, hu, hd⟩, hi⟩ := hT
  exact wpList_load_mid (op := ⟨d, .load ty x, t', pos, after, none⟩) rfl ty x rfl g o hx cs ds hg hu hd (by rw [hi, hn]) h
end
theorem Tab.words {w : World} (h : Tab w) : w.rangeAt 3 0 (wordsL h0) := fun j v hv => by
  rw [Nat.zero_add]
  match j, hv with
  | 0, hv | 1, hv | 2, hv | 3, hv | 4, hv | 5, hv | 6, hv | 7, hv => exact (h.1 _ (by decide)).trans hv
abbrev noBytes : ByteArray := { data := #[] }

set_option maxHeartbeats 400000 in
theorem new_any (w : World) (hT : Tab w) :
    Calls Tryz.prog 85 #[] w fun e w' => e = .returned (.agg (sumA h0 noBytes 0)) ∧ Below w.heap.size w w' := by
  go_enter Tryz.func85, Tryz.ntmps85
  have hT2 := fun (o : Obj) => hT.below ((Below.refl _ w).alloc (Nat.le_refl _) o)
  have HT := Lib.hid hT2
  clear hT hT2
  go_wp2_with ((with_reducible refine wpL_loadGlobal 3 0 (wordsL h0) 8 row26 rfl (HT.out _).words ?_ ?_); rfl; simp only [wordsL])
  exact bodyPost_ret (results_row Tryz.results85 row29 rfl (Lies.new w _ (sumA h0 noBytes 0)) rfl) rfl ⟨rfl, (Below.refl _ w).alloc (Nat.le_refl _) _⟩

end Go.Proofs.YtmekmlgpkbfjpaaGreatDoor.T

/- Rows of texts in memory: what a slice of strings reads as. -/
namespace Go.Proofs.YtmekmlgpkbfjpaaGreatDoor
open Go.RowKit

def str (x : List UInt8) : Value := .string ⟨x.toArray⟩
/-- the slice value v reads as the texts l -/
def Strs (w : World) (v : Value) (l : List (List UInt8)) : Prop :=
  ∃ a c, v = .slice a l.length c ∧ l.length ≤ c ∧ c ≤ maxLen ∧ (a = none → c = 0) ∧ (l ≠ [] → ∃ b off, a = some ⟨b, off, none⟩ ∧ ∀ i x, l[i]? = some x → w.cell? ⟨b, off + i, none⟩ = some (str x))

theorem Strs.below {w w' : World} {v : Value} {l : List (List UInt8)} (h : Strs w v l) (hb : Below w.heap.size w w') : Strs w' v l := by
  obtain ⟨a, c, hv, hc, hm, hn, hl⟩ := h
  refine ⟨a, c, hv, hc, hm, hn, fun hne => ?_⟩
  obtain ⟨b, off, ha, hx⟩ := hl hne
  refine ⟨b, off, ha, fun i x hi => ?_⟩
  have h1 := hx i x hi
  rw [hb.cell (p := ⟨b, off + i, none⟩) (World.block_lt_of_cell? w _ h1)]
  exact h1
end Go.Proofs.YtmekmlgpkbfjpaaGreatDoor

/- The contract of the program's Sum: the sum of parts, one behind the other. -/
namespace Go.Proofs.YtmekmlgpkbfjpaaGreatDoor.T
open Go.RowKit
set_option maxRecDepth 100000

theorem bytes_size (l : List UInt8) : (bytesOf l).size = l.length := by rw [Lib.size_eq]; rfl
theorem take_flat {l : List (List UInt8)} {k : Nat} {x : List UInt8} (h : l[k]? = some x) : (l.take (k + 1)).flatten = (l.take k).flatten ++ x := by
  rw [List.take_add_one, h, Option.toList_some, List.flatten_append, List.flatten_singleton]
theorem flat_le (l : List (List UInt8)) (k : Nat) : (l.take k).flatten.length ≤ l.flatten.length := by
  have e : l.flatten = (l.take k).flatten ++ (l.drop k).flatten := by rw [← List.flatten_append, List.take_append_drop]
  rw [e, List.length_append]
  omega

set_option maxHeartbeats 800000 in
theorem sum_any (w : World) (v : Value) (l : List (List UInt8)) (hl : Strs w v l) (hx : l.flatten.length ≤ 1000000000) (hT : Tab w) :
    Calls Tryz.prog 53 #[v] w fun e w' => e = .returned (.string (bytesOf (sumT l.flatten))) ∧ Below w.heap.size w w' := by
  have h2 := hT.two
  have HT := Lib.hid hT
  clear hT
  obtain ⟨a, c, rfl, hc, hm, hn, hl⟩ := hl
  unfold maxLen at hm
  go_enter Tryz.func53, Tryz.ntmps53
  go_wp2_with (first | (go_at_call 85; refine (new_any _ HT.out).mono ?_; rintro e w1 ⟨rfl, hb1⟩) | (go_at_call 84; refine (workOn_any h0 noBytes 0 _).mono ?_; rintro e w2 ⟨g, rfl, hg1, hl1, hb2⟩; replace hb2 := below_on hb1 hb2; have hgw : w.heap.size ≤ g := Nat.le_trans hb1.size hg1; clear hb1 hg1))
  go_loopw [10] (fun i wr => ∃ k : Nat, k ≤ l.length ∧ i = .int .i64 k ∧ Lies wr g 172 (sumA (feed h0 (l.take k).flatten) (bytesOf (tailB (l.take k).flatten)) (l.take k).flatten.length) ∧ Below w.heap.size w wr) (fun i _ => l.length - (intOf i).toNat)
  case atStart => exact ⟨0, Nat.zero_le _, rfl, by rw [List.take_zero, List.flatten_nil, feed_short _ _ (by decide), tail_short _ (by decide)]; exact hl1, hb2⟩
  case round =>
    clear hl1 hb2
    obtain ⟨k, hk, rfl, hli, hb⟩ := hrel
    have hB := hb.size
    have htl : (bytesOf (tailB (l.take k).flatten)).size < 128 := by rw [bytes_size, tail_length]; exact Nat.mod_lt _ (by decide)
    have hle := flat_le l k
    by_cases hlt : k < l.length
    · obtain ⟨b, off, rfl, hcell⟩ := hl (by intro h; subst h; simp at hlt)
      obtain ⟨x, hxk⟩ : ∃ x, l[k]? = some x := ⟨l[k], List.getElem?_eq_getElem hlt⟩
      have g1 := hcell k x hxk
      have hc1 : wr.cell? ⟨b, off + k, none⟩ = some (.string ⟨x.toArray⟩) := (hb.cell (p := ⟨b, off + k, none⟩) (World.block_lt_of_cell? w _ g1)).trans g1
      have hle2 := flat_le l (k + 1)
      have HF := Lib.hid (take_flat hxk)
      rw [HF.out, List.length_append] at hle2
      have HK := Lib.hid (take_any g _ _ (bytesOf x) _ wr htl (by rw [bytes_size]; omega) (by rw [bytes_size]; omega) (by omega) (HT.out.below hb) hli (feed_ok' h0_ok _))
      clear hxk hcell g1 hl
      go_wp2_with (go_at_call 86; refine HK.out.mono ?_; rintro e w3 ⟨rfl, hl3, hO3⟩)
      go_roundw
      case rel => exact ⟨k + 1, by omega, by go_num, by rw [HF.out, feed_append _ _ _ _ (Nat.le_refl _), tail_append _ _ _ (Nat.le_refl _), List.length_append, ← bytes_size x]; exact hl3, hO3.below hb hB hgw⟩
      case measure => simp [intOf]; omega
    · have hE := end_any g _ _ _ wr htl (by omega) (by omega) (HT.out.below hb) hli (feed_ok' h0_ok _)
      rw [show l.take k = l from List.take_of_length_le (by omega), show (bytesOf (tailB l.flatten)).data.toList = tailB l.flatten from rfl, end_sum] at hE
      have HK := Lib.hid hE
      clear hE
      go_wp2_with (go_at_call 87; refine HK.out.mono ?_; rintro e w3 ⟨rfl, hO3⟩)
      go_ret
      exact ⟨rfl, hO3.below hb hB hgw⟩
end Go.Proofs.YtmekmlgpkbfjpaaGreatDoor.T

/- The contracts of the developers' small functions of signatures: left, bytesOf, baseTimes, numberOf. -/
namespace Go.Proofs.YtmekmlgpkbfjpaaGreatDoor.E
open Go.RowKit Go.Sort Go.Proofs.YtmekmlgpkbfjpaaGreatDoor.F Go.Proofs.YtmekmlgpkbfjpaaGreatDoor.C
set_option maxRecDepth 100000

/-- what the program's own variables hold while the signatures' functions are called -/
structure EdTab (w : World) : Prop where
  s : T.Tab w
  o : G.Tab w
  p : PtTab w
theorem EdTab.on {w w' : World} (h : EdTab w) (hb : Below w.heap.size w w') : EdTab w' := ⟨h.s.below hb, h.o.on hb, h.p.on hb⟩
/-- .. and the one that holds a root of -1 -/
def EdTab2 (w : World) : Prop := EdTab w ∧ TabR w
theorem EdTab2.on {w w' : World} (h : EdTab2 w) (hb : Below w.heap.size w w') : EdTab2 w' := ⟨h.1.on hb, h.2.on hb⟩
theorem edPts : Nonempty (Pts EdTab) := pts field_ok point_ok (fun _ h => h.p)

/-! ### bytes that may be written -/
theorem bys_set {w : World} {g : Nat} {l : List UInt8} (h : Bys w g l) (k : Nat) (c : UInt8) : Bys (w.setCell ⟨g, k, none⟩ (.int .u8 (c.toNat : Int))) g (l.set k c) := fun j hj => by
  have hl : j < l.length := by simpa using hj
  obtain ⟨h1, h2⟩ := h j hl
  refine ⟨?_, ?_⟩
  · by_cases hjk : k = j
    · subst hjk
      rw [World.cell?_setCell_same (h := h1)]
      simp
    · have : (⟨g, k, none⟩ : Addr) ≠ ⟨g, j, none⟩ := fun e => hjk (by injection e)
      rw [World.cell?_setCell_other (h := this), h1]
      simp [hjk]
  · rw [World.frozen?_setCell]
    exact h2
theorem bys_at {w : World} {g : Nat} {l : List UInt8} (h : Bys w g l) (k : Nat) (hk : k < l.length) : w.cell? ⟨g, k, none⟩ = some (.int .u8 (((l.getD k 0).toNat : Nat) : Int)) ∧ w.frozen? ⟨g, k, none⟩ = false := by
  have h1 := h k hk
  rw [List.getD_eq_getElem?_getD, List.getElem?_eq_getElem hk]
  exact h1
theorem andNot_seven : ∀ c : Fin 256, bits BinOp.andNot IntKind.u8 ((c.val : Nat) : Int) 7 = ((c.val - c.val % 8 : Nat) : Int) := by decide +kernel
theorem or_next : ∀ c : Fin 256, bits BinOp.or IntKind.u8 ((c.val % 128 : Nat) : Int) 64 = ((c.val % 64 + 64 : Nat) : Int) := by decide +kernel
theorem byte_back (n : Nat) (h : n < 256) : (n.toUInt8).toNat = n := by rw [Nat.toUInt8, UInt8.toNat_ofNat']; omega
/-- 32 bytes with the bits that hang on no seed -/
def clamp32 (l : List UInt8) : List UInt8 := (l.set 0 ((l.getD 0 0).toNat - (l.getD 0 0).toNat % 8).toUInt8).set 31 ((l.getD 31 0).toNat % 64 + 64).toUInt8
theorem clamp32_length (l : List UInt8) : (clamp32 l).length = l.length := by simp [clamp32]
theorem clampL_is (l : List UInt8) : clampL l = clamp32 (l.take 32) := by
  unfold clampL clamp32
  have e : ∀ i, i < 32 → (l.take 32).getD i 0 = l.getD i 0 := fun i hi => by
    rw [List.getD_eq_getElem?_getD, List.getD_eq_getElem?_getD, List.getElem?_take, if_pos hi]
  rw [e 0 (by decide), e 31 (by decide)]
attribute [local irreducible] feA ptA
set_option maxHeartbeats 1600000 in
theorem left_any (W : World) (v : Value) (l : List (List UInt8)) (hl : Strs W v l) (hx : l.flatten.length ≤ 1000000000) (hT : EdTab W) :
    Calls Tryz.prog 40 #[v] W fun e w' => e = .returned (fe (leftN l.flatten)) ∧ Below W.heap.size W w' := by
  have HS := Lib.hid (fun w (hb : Below W.heap.size W w) => T.sum_any w v l (hl.below hb) hx (hT.s.below hb))
  have hsz : (T.bytesOf (T.sumT l.flatten)).size = 64 := by rw [T.bytes_size, T.sumT_length]
  have HW := Lib.hid (fun w (hb : Below W.heap.size W w) => G.scalar_ok.wide (T.bytesOf (T.sumT l.flatten)) w (by rw [hsz]; decide) (hT.o.on hb))
  rw [if_pos (by rw [hsz]; decide), show numLE (T.bytesOf (T.sumT l.flatten)).data.toList % G.l25 = leftN l.flatten from rfl] at HW
  generalize leftN l.flatten = n at *
  generalize T.bytesOf (T.sumT l.flatten) = s at *
  clear hl hx hT hsz
  go_enter Tryz.func40, Tryz.ntmps40
  have hr := Lies.new W 67 fe0A
  have hB := (Below.refl W.heap.size W).alloc (Nat.le_refl _) (.cells fe0A 67)
  go_upto_region 1 with fail
  generalize World.alloc W _ = w0 at *
  go_upto_region 2 with (first
    | (go_at_call 53; (with_reducible refine (HS.out _ hB).mono ?_); rintro e w1 ⟨rfl, hb⟩; replace hr := hr.on hb; replace hB := below_on hB hb; clear hb)
    | (go_at_call 67; (with_reducible refine (HW.out _ hB).mono ?_); rintro e w2 ⟨rfl, hb⟩; replace hr := hr.on hb; replace hB := below_on hB hb; clear hb)
    | ((with_reducible refine wpL_store w2.heap.size 67 _ (feA n) 4 G.rowFe ?_ (feA_size _) (feA_one _) (Lies.new w2 _ _) ?_ ?_ ?_); rfl; rfl; rfl))
  have hn := newly_lies w2 67 fe0A (feA n)
  have hnw := newly w2 (.cells fe0A 67) (feA n)
  replace hr := hr.on hnw
  replace hB := below_on hB hnw
  clear hnw
  generalize World.setRow _ _ _ = w3 at *
  generalize w2.heap.size = gn at *
  go_wp2_with (first
    | ((with_reducible refine wpL_load gn 67 (feA n) 4 G.rowFe (feA_size _) hn ?_ ?_); rfl)
    | ((with_reducible refine wpL_store W.heap.size 67 _ (feA n) 4 G.rowFe rfl (feA_size _) (feA_one _) hr ?_ ?_ ?_); rfl; rfl))
  exact bodyPost_ret (results_row Tryz.results40 G.rowFe (feA_size _) (hr.row _) rfl) rfl ⟨rfl, below_rowSet hB (Nat.le_refl _) _⟩

set_option maxHeartbeats 1600000 in
theorem bytesOf_any (A : Pts EdTab) {u : N4} {P : Pt} (h : Pn u P) (W : World) (hT : EdTab W) :
    Calls Tryz.prog 55 #[pt u] W fun e w' => e = .returned (.string (textN P)) ∧ Below W.heap.size W w' := by
  have HB := Lib.hid (fun w (hb : Below W.heap.size W w) => A.bytes w h (hT.on hb))
  generalize textN P = s at *
  clear h hT
  go_enter Tryz.func55, Tryz.ntmps55
  have hp := Lies.new W 74 (ptA u)
  have hB := (Below.refl W.heap.size W).alloc (Nat.le_refl _) (.cells (ptA u) 74)
  go_upto_region 1 with fail
  generalize World.alloc W _ = w0 at *
  go_wp2_with (first
    | ((with_reducible refine wpL_load W.heap.size 74 (ptA u) 16 rowPt (ptA_size _) hp ?_ ?_); rfl)
    | (go_at_call 88; (with_reducible refine (HB.out _ hB).mono ?_); rintro e w1 ⟨rfl, hb⟩; replace hB := below_on hB hb; clear hb))
  go_ret
  exact ⟨rfl, hB⟩

set_option maxHeartbeats 1600000 in
theorem baseTimes_any (A : Pts EdTab) (n : Nat) (hn : n < K256) (W : World) (hT : EdTab W) :
    Calls Tryz.prog 56 #[fe n] W fun e w' => e = .returned (pt (A.m n baseN)) ∧ Below W.heap.size W w' := by
  have HB := Lib.hid (fun w (hb : Below W.heap.size W w) => point_ok.base w (hT.on hb).p)
  have HM := Lib.hid (fun w (hb : Below W.heap.size W w) => A.mul w hn base_pn (hT.on hb))
  generalize A.m n baseN = u at *
  clear hT hn
  go_enter Tryz.func56, Tryz.ntmps56
  have hz := (Lies.new W 67 (feA n)).alloc (.cells z16P 74)
  have hr : Lies ((W.alloc (.cells (feA n) 67)).alloc (.cells z16P 74)) (W.heap.size + 1) 74 z16P := heap_alloc2_new W _ _
  have hB := ((Below.refl W.heap.size W).alloc (Nat.le_refl _) (.cells (feA n) 67)).alloc (by simp) (.cells z16P 74)
  go_upto_region 1 with fail
  generalize World.alloc (World.alloc W _) _ = w0 at *
  refine wp_region_made_late 5 7 6 3 _ 74 z16P rfl rfl (by kernel_rfl) (by kernel_rfl) (by kernel_rfl) (allocPt rfl) ?_
  simp only [addEdge, List.take_succ_cons, List.take_zero, List.drop_succ_cons, List.drop_zero]
  refine wpQB_sc W.heap.size n hz rfl ?_
  simp only [Act.put, List.setIfInBounds_toArray, List.set_cons_succ, List.set_cons_zero]
  refine wpQB_call 89 #[] (pt baseN) rfl rfl (fun _ => by kernel_rfl) (fun w hb => HB.out w (below_on hB hb)) ?_
  simp only [Act.put, List.setIfInBounds_toArray, List.set_cons_succ, List.set_cons_zero]
  refine wpQB_call 64 #[fe n, pt baseN] (.tuple #[pt u, .int .i64 0]) rfl rfl (fun _ => by kernel_rfl) (fun w hb => HM.out w (below_on hB hb)) ?_
  simp only [Act.put, List.setIfInBounds_toArray, List.set_cons_succ, List.set_cons_zero]
  refine wpQB_move ?_
  simp only [Act.put, List.setIfInBounds_toArray, List.set_cons_succ, List.set_cons_zero]
  refine wpQB_run (pt u) rfl (fun _ _ => by kernel_rfl) ?_
  simp only [Act.put, List.setIfInBounds_toArray, List.set_cons_succ, List.set_cons_zero]
  refine wpQB_run (.int .i64 0) rfl (fun _ _ => by kernel_rfl) ?_
  simp only [Act.put, List.setIfInBounds_toArray, List.set_cons_succ, List.set_cons_zero]
  refine wpQB_nil ?_
  intro kp w1 hb hkp hy1
  simp only [List.setIfInBounds_toArray, List.set_cons_succ, List.set_cons_zero]
  replace hy1 : Lies w1 kp 74 z16P := hy1
  have hrl := hr.lt
  have hlk : W.heap.size + 1 < kp := by omega
  replace hr := (hr.on hb).rowFar (show W.heap.size + 1 ≠ kp by omega) (ptA u)
  replace hB := below_rowSet (below_on hB hb) (show W.heap.size ≤ kp by omega) (ptA u)
  have hp := hy1.row (ptA u)
  clear hb HM HB hz
  go_upto_region 2 with ((with_reducible refine wpL_store kp 74 _ (ptA u) 16 rowPt rfl (ptA_size _) (ptA_one _) hy1 ?_ ?_ ?_); rfl; rfl)
  clear hy1
  generalize World.setRow _ _ _ = w2 at *
  go_wp2_with (first
    | ((with_reducible refine wpL_load kp 74 (ptA u) 16 rowPt (ptA_size _) hp ?_ ?_); rfl)
    | ((with_reducible refine wpL_store (W.heap.size + 1) 74 _ (ptA u) 16 rowPt rfl (ptA_size _) (ptA_one _) hr ?_ ?_ ?_); rfl; rfl))
  exact bodyPost_ret (results_row Tryz.results56 rowPt (ptA_size _) (hr.row _) rfl) rfl ⟨rfl, below_rowSet hB (by omega) _⟩

set_option maxHeartbeats 1600000 in
theorem numberOf_any (l : List UInt8) (hl : l.length = 32) (W : World) (hT : EdTab W) :
    Calls Tryz.prog 54 #[.string ⟨l.toArray⟩] W fun e w' => e = .returned (fe (numLE (clamp32 l) % l25)) ∧ Below W.heap.size W w' := by
  have hs : (⟨l.toArray⟩ : ByteArray).size = 32 := by rw [← hl]; simp [ByteArray.size]
  have hcl := clamp32_length l
  rw [hl] at hcl
  have hs2 : (⟨(clamp32 l).toArray⟩ : ByteArray).size = 32 := by rw [← hcl]; simp [ByteArray.size]
  have HW := Lib.hid (fun w (hb : Below W.heap.size W w) => G.scalar_ok.wide ⟨(clamp32 l).toArray⟩ w (by rw [hs2]; decide) (hT.o.on hb))
  rw [if_pos (by rw [hs2]; decide), show numLE (⟨(clamp32 l).toArray⟩ : ByteArray).data.toList % G.l25 = numLE (clamp32 l) % l25 from rfl] at HW
  have HC := Lib.hid hcl
  obtain ⟨b0, h0⟩ : ∃ b, (l.getD 0 0).toNat = b := ⟨_, rfl⟩
  obtain ⟨b1, h1⟩ : ∃ b, (l.getD 31 0).toNat = b := ⟨_, rfl⟩
  have k0 : b0 < 256 := by rw [← h0]; exact UInt8.toNat_lt _
  have k1 : b1 < 256 := by rw [← h1]; exact UInt8.toNat_lt _
  have hE : clamp32 l = (l.set 0 (b0 - b0 % 8).toUInt8).set 31 (b1 % 64 + 64).toUInt8 := by unfold clamp32; rw [h0, h1]
  have x0 := andNot_seven ⟨b0, k0⟩
  have x1 := andNot_byte ⟨b1, k1⟩
  have x2 := or_next ⟨b1, k1⟩
  simp only at x0 x1 x2
  have y0 := byte_back (b0 - b0 % 8) (by omega)
  have y1 := byte_back (b1 % 64 + 64) (by omega)
  have HE := Lib.hid hE
  generalize clamp32 l = L at *
  obtain ⟨n, hn⟩ : ∃ n, numLE L % l25 = n := ⟨_, rfl⟩
  rw [hn] at HW ⊢
  have g1 : (l.set 0 (b0 - b0 % 8).toUInt8).getD 31 0 = l.getD 31 0 := by simp [List.getD_eq_getElem?_getD]
  generalize b0 - b0 % 8 = c0 at *
  generalize hc1 : b1 % 64 + 64 = c1 at *
  generalize hq : b1 % 128 = q at *
  have HG := Lib.hid g1
  have H0 := Lib.hid h0
  have H1 := Lib.hid h1
  have HL := Lib.hid hl
  have HS := Lib.hid hs
  have Y0 := Lib.hid y0
  have Y1 := Lib.hid y1
  clear hT hn hc1 hq hE g1 h0 h1 hl hs y0 y1 hcl hs2 k0 k1
  go_enter Tryz.func54, Tryz.ntmps54
  have hr := Lies.new W 67 fe0A
  have hB := (Below.refl W.heap.size W).alloc (Nat.le_refl _) (.cells fe0A 67)
  go_upto_region 1 with fail
  generalize World.alloc W _ = w0 at *
  go_upto_region 2 with ((with_reducible refine wpL_bytes ⟨l.toArray⟩ 32 HS.out ?_ ?_); rfl; intro gb cap w1 hgb hby hb; subst hgb)
  replace hby : Bys w1 w0.heap.size l := hby
  have hgr := hr.lt
  replace hr := hr.on hb
  replace hB := below_on hB hb
  clear hb
  generalize w0.heap.size = gb at *
  have cc := (bys_at hby 0 (by rw [HL.out]; decide)).1
  have cf := (bys_at hby 0 (by rw [HL.out]; decide)).2
  rw [H0.out] at cc
  go_upto_region 3 with fail
  replace hby := bys_set hby 0 c0.toUInt8
  rw [Y0.out] at hby
  replace hr := hr.far (p := ⟨gb, 0, none⟩) (show W.heap.size ≠ gb by omega) (.int .u8 (c0 : Int))
  replace hB := below_put hB (show W.heap.size ≤ gb by omega) 0 (.int .u8 (c0 : Int))
  clear cc cf x0
  generalize World.setCell _ _ _ = w2 at *
  have cc := (bys_at hby 31 (by rw [List.length_set, HL.out]; decide)).1
  have cf := (bys_at hby 31 (by rw [List.length_set, HL.out]; decide)).2
  rw [HG.out, H1.out] at cc
  go_upto_region 4 with fail
  replace hby := bys_set hby 31 c1.toUInt8
  rw [Y1.out, ← HE.out] at hby
  replace hr := hr.far (p := ⟨gb, 31, none⟩) (show W.heap.size ≠ gb by omega) (.int .u8 (c1 : Int))
  replace hB := below_put hB (show W.heap.size ≤ gb by omega) 31 (.int .u8 (c1 : Int))
  clear cc cf x1 x2
  generalize World.setCell _ _ _ = w3 at *
  go_upto_region 5 with (first
    | ((with_reducible refine wpL_text L 32 gb cap HC.out hby ?_ ?_); rfl)
    | (go_at_call 67; (with_reducible refine (HW.out _ hB).mono ?_); rintro e w4 ⟨rfl, hb⟩; replace hr := hr.on hb; replace hB := below_on hB hb; clear hb)
    | ((with_reducible refine wpL_store w4.heap.size 67 _ (feA n) 4 G.rowFe ?_ (feA_size _) (feA_one _) (Lies.new w4 _ _) ?_ ?_ ?_); rfl; rfl; rfl))
  have hn := newly_lies w4 67 fe0A (feA n)
  have hnw := newly w4 (.cells fe0A 67) (feA n)
  replace hr := hr.on hnw
  replace hB := below_on hB hnw
  clear hnw
  generalize World.setRow _ _ _ = w5 at *
  generalize w4.heap.size = gn at *
  go_wp2_with (first
    | ((with_reducible refine wpL_load gn 67 (feA n) 4 G.rowFe (feA_size _) hn ?_ ?_); rfl)
    | ((with_reducible refine wpL_store W.heap.size 67 _ (feA n) 4 G.rowFe rfl (feA_size _) (feA_one _) hr ?_ ?_ ?_); rfl; rfl))
  exact bodyPost_ret (results_row Tryz.results54 G.rowFe (feA_size _) (hr.row _) rfl) rfl ⟨rfl, below_rowSet hB (Nat.le_refl _) _⟩
end Go.Proofs.YtmekmlgpkbfjpaaGreatDoor.E

/- The contract of the statements' own call that asks for a known sum. -/
namespace Go.Proofs.YtmekmlgpkbfjpaaGreatDoor.T
open Go.RowKit
set_option maxRecDepth 100000

/-- one text as a row that was just laid -/
theorem strs_one (w : World) (x : List UInt8) : Strs (w.alloc (.cells #[.string ⟨x.toArray⟩] 9)) (.slice (some ⟨w.heap.size, 0, none⟩) 1 1) [x] := by
  refine ⟨some ⟨w.heap.size, 0, none⟩, 1, rfl, Nat.le_refl _, by unfold maxLen; omega, (fun h => by cases h), fun _ => ⟨w.heap.size, 0, rfl, fun i y hi => ?_⟩⟩
  match i, hi with
  | 0, hi =>
    have : x = y := by simpa using hi
    subst this
    rw [World.cell?_alloc_new]
    rfl
theorem sum_one (w : World) (x : List UInt8) (hx : x.length ≤ 1000000000) (hT : Tab w) :
    Calls Tryz.prog 53 #[.slice (some ⟨w.heap.size, 0, none⟩) 1 1] (w.alloc (.cells #[.string ⟨x.toArray⟩] 9)) fun e w' => e = .returned (.string (bytesOf (sumT x))) ∧ Below w.heap.size w w' := by
  have hb := (Below.refl w.heap.size w).alloc (Nat.le_refl _) (.cells #[.string ⟨x.toArray⟩] 9)
  have h := sum_any _ _ [x] (strs_one w x) (by simpa using hx) (hT.below hb)
  rw [List.flatten_singleton] at h
  exact h.mono fun e w' ⟨he, hb2⟩ => ⟨he, below_on hb hb2⟩

end Go.Proofs.YtmekmlgpkbfjpaaGreatDoor.T

/- The contracts of the developers' signerOf and sign. -/
namespace Go.Proofs.YtmekmlgpkbfjpaaGreatDoor.E
open Go.RowKit Go.Sort Go.Proofs.YtmekmlgpkbfjpaaGreatDoor.F Go.Proofs.YtmekmlgpkbfjpaaGreatDoor.C
set_option maxRecDepth 100000

/-! ### texts as a row that was just laid -/
theorem strs_row (w : World) (l : List ByteArray) (hm : l.length ≤ 1000) :
    Strs (w.alloc (.cells (l.map Value.string).toArray 9)) (.slice (some ⟨w.heap.size, 0, none⟩) l.length l.length) (l.map (·.data.toList)) := by
  refine ⟨some ⟨w.heap.size, 0, none⟩, l.length, by rw [List.length_map], by rw [List.length_map]; exact Nat.le_refl _, by unfold maxLen; omega, (fun h => by cases h), fun _ => ⟨w.heap.size, 0, rfl, fun i y hi => ?_⟩⟩
  rw [Nat.zero_add, World.cell?_alloc_new]
  rw [List.getElem?_map] at hi
  obtain ⟨x, hx, rfl⟩ := Option.map_eq_some_iff.1 hi
  rw [show (l.map Value.string).toArray[i]? = (l.map Value.string)[i]? by simp, List.getElem?_map, hx]
  rfl
theorem left_row (w : World) (l : List ByteArray) (hm : l.length ≤ 1000) (hx : (l.map (·.data.toList)).flatten.length ≤ 1000000000) (hT : EdTab w) :
    Calls Tryz.prog 40 #[.slice (some ⟨w.heap.size, 0, none⟩) l.length l.length] (w.alloc (.cells (l.map Value.string).toArray 9)) fun e w' => e = .returned (fe (leftN (l.map (·.data.toList)).flatten)) ∧ Below w.heap.size w w' := by
  have hb := (Below.refl w.heap.size w).alloc (Nat.le_refl _) (.cells (l.map Value.string).toArray 9)
  exact (left_any _ _ _ (strs_row w l hm) hx (hT.on hb)).mono fun e w' ⟨he, hb2⟩ => ⟨he, below_on hb hb2⟩
theorem left_two (w : World) (x y : ByteArray) (hx : x.size + y.size ≤ 1000000) (hT : EdTab w) :
    Calls Tryz.prog 40 #[.slice (some ⟨w.heap.size, 0, none⟩) 2 2] (w.alloc (.cells #[.string x, .string y] 9)) fun e w' => e = .returned (fe (leftN (x.data.toList ++ y.data.toList))) ∧ Below w.heap.size w w' := by
  have e : ([x, y].map (·.data.toList)).flatten = x.data.toList ++ y.data.toList := by simp
  have h := left_row w [x, y] (show 2 ≤ 1000 by decide) (by rw [e, List.length_append, ← Lib.size_eq, ← Lib.size_eq]; omega) hT
  rw [e] at h
  exact h
theorem left_three (w : World) (x y z : ByteArray) (hx : x.size + y.size + z.size ≤ 1000000) (hT : EdTab w) :
    Calls Tryz.prog 40 #[.slice (some ⟨w.heap.size, 0, none⟩) 3 3] (w.alloc (.cells #[.string x, .string y, .string z] 9)) fun e w' => e = .returned (fe (leftN (x.data.toList ++ (y.data.toList ++ z.data.toList)))) ∧ Below w.heap.size w w' := by
  have e : ([x, y, z].map (·.data.toList)).flatten = x.data.toList ++ (y.data.toList ++ z.data.toList) := by simp
  have h := left_row w [x, y, z] (show 3 ≤ 1000 by decide) (by rw [e, List.length_append, List.length_append, ← Lib.size_eq, ← Lib.size_eq, ← Lib.size_eq]; omega) hT
  rw [e] at h
  exact h

/-! ### what a seed comes to, as cells -/
def sgA (n : Nat) (p k : ByteArray) : Array Value := feA n ++ #[.string p, .string k]
theorem sgA_size (n : Nat) (p k : ByteArray) : (sgA n p k).size = 6 := rfl
theorem sgA_one (n : Nat) (p k : ByteArray) : Ones (sgA n p k) := ones_append (feA_one n) (by unfold Ones; simp [Value.oneCell'])
theorem rowSg : RowT Tryz.prog 69 6 := ⟨⟨_, Tryz.underlying69, rfl⟩, by kernel_rfl⟩
section
variable {w : World} {g t n : Nat} {p k : ByteArray} (h : Lies w g t (sgA n p k))
include h
theorem sg_n : w.rangeAt g 0 (feA n).toList := range_app (a := #[]) (c := #[.string p, .string k]) rfl (by rw [Array.empty_append]; exact h)
theorem sg_p : w.cell? ⟨g, 4, none⟩ = some (.string p) := h.cell 4
theorem sg_k : w.cell? ⟨g, 5, none⟩ = some (.string k) := h.cell 5
end
abbrev sg0A : Array Value := #[.int .u64 0, .int .u64 0, .int .u64 0, .int .u64 0, .string ⟨#[]⟩, .string ⟨#[]⟩]
attribute [local irreducible] feA ptA sgA
section
variable {w0 : World} {Q : Act → Prop} {a : Act} {rest : List Oper} {t' : TypeId} {pos : String} {after : Array Edge} {d : Option Tmp} {x : Operand}
/-- one of the scalars' numbers that is a field is read -/
theorem wpQB_midSc (g o n : Nat) (hr : w0.rangeAt g o (feA n).toList) (hx : a.eval x = .pointer (some ⟨g, o, none⟩)) (h : wpQB Tryz.prog w0 Q rest (a.put d (fe n))) : wpQB Tryz.prog w0 Q (⟨d, .load 67 x, t', pos, after, none⟩ :: rest) a :=
  wpQB_run (fe n) rfl (fun w hw => by
    have hr' : w.rangeAt g o (feA n).toList := fun j v hv => by
      have h1 := hr j v hv
      exact (hw.cell (p := ⟨g, o + j, none⟩) (World.block_lt_of_cell? w0 _ h1)).trans h1
    unfold execOp
    simp only [hx, Instr.loadAt, Instr.sureAddr, Sem.run_bind, Sem.run_pure, Result.andThen_ok, run_loadVar_mid w g o 67 (feA n).toList _ hr' Tryz.underlying67 rfl (by rw [Array.length_toList, feA_size]; exact G.rowFe.2), Array.toArray_toList]) h
end
section
variable {a : Act} {d : Option Tmp} {x : Tmp} {t' : TypeId} {pos : String} {after : Array Edge} {gd : Option (Nat × Bool)}
theorem run_from32 (s : ByteArray) (hs : 32 ≤ s.size) (hx : a.eval (.tmp x) = .string s) (w : World) :
    (execOp a.eval ⟨d, .slice 9 (.tmp x) (some (.const (.int .i64 32))) none none, t', pos, after, gd⟩).run Tryz.prog w = .ok (.value (.string (s.extract 32 s.size))) w := by
  have h2 : a.eval (.const (.int .i64 32)) = .int .i64 32 := rfl
  have h3 : (32 : Int) ≤ (s.size : Int) := by omega
  unfold execOp
  simp only [hx, h2, Option.map_some, Option.map_none]
  simp [Instr.sliceAt, run_underlying Tryz.underlying9, go_sem, h3]
end

set_option maxHeartbeats 3200000 in
theorem signerOf_any (A : Pts EdTab) (s : ByteArray) (hs : s.size ≤ 1000) (W : World) (hT : EdTab W) :
    Calls Tryz.prog 35 #[.string s] W fun e w' =>
      e = .returned (.agg (sgA (seedN s.data.toList % l25) ⟨(prefixL s.data.toList).toArray⟩ (keyT s.data.toList))) ∧ Below W.heap.size W w' := by
  have hl := T.sumT_length s.data.toList
  have HS := Lib.hid (fun w (hb : Below W.heap.size W w) => T.sum_one w s.data.toList (by rw [← Lib.size_eq]; omega) (hT.s.below hb))
  rw [show (⟨s.data.toList.toArray⟩ : ByteArray) = s from Lib.mk_data s] at HS
  obtain ⟨S, hS⟩ : ∃ S, T.bytesOf (T.sumT s.data.toList) = S := ⟨_, rfl⟩
  rw [hS] at HS
  have hSl : S.data.toList = T.sumT s.data.toList := by rw [← hS]; rfl
  have hSs : S.size = 64 := by rw [Lib.size_eq, hSl]; exact hl
  have e1 : S.extract 0 32 = ⟨((T.sumT s.data.toList).take 32).toArray⟩ := by rw [← hSl, ← T.head_list, Lib.mk_data]
  have e2 : S.extract 32 S.size = ⟨(prefixL s.data.toList).toArray⟩ := by unfold prefixL; rw [← hSl, ← T.rest_list, Lib.mk_data]
  have HN := Lib.hid (fun w (hb : Below W.heap.size W w) => numberOf_any ((T.sumT s.data.toList).take 32) (by rw [List.length_take, hl]; rfl) w (hT.on hb))
  rw [← e1, ← clampL_is, show numLE (clampL (T.sumT s.data.toList)) = seedN s.data.toList from rfl] at HN
  rw [← e2]
  have hn : seedN s.data.toList % l25 < K256 := G.modL_K _
  have HK : Hid (keyT s.data.toList = textN (Bp.smul (seedN s.data.toList % l25))) := Lib.hid rfl
  generalize keyT s.data.toList = k at *
  generalize seedN s.data.toList % l25 = n at *
  have HB := Lib.hid (fun w (hb : Below W.heap.size W w) => baseTimes_any A n hn w (hT.on hb))
  have hPn := A.mul_pn hn base_pn
  have HY := Lib.hid (fun w (hb : Below W.heap.size W w) => bytesOf_any A hPn w (hT.on hb))
  rw [← HK.out] at HY
  generalize A.m n baseN = u at *
  obtain ⟨p, hp⟩ : ∃ p, S.extract 32 S.size = p := ⟨_, rfl⟩
  rw [hp]
  obtain ⟨f, hf⟩ : ∃ f, S.extract 0 32 = f := ⟨_, rfl⟩
  rw [hf] at HN
  have HP := Lib.hid hp
  have HF := Lib.hid hf
  have h64 : (S.size : Int) = 64 := by omega
  clear hT hs hl hS hSl e1 e2 hn HK hPn hp hf
  go_enter Tryz.func35, Tryz.ntmps35
  have hr := Lies.new W 69 sg0A
  have hB := (Below.refl W.heap.size W).alloc (Nat.le_refl _) (.cells sg0A 69)
  go_upto_region 1 with fail
  generalize World.alloc W _ = w0 at *
  go_upto_region 2 with (go_at_call 53; (with_reducible refine (HS.out _ hB).mono ?_); rintro e w1 ⟨rfl, hb⟩; replace hr := hr.on hb; replace hB := below_on hB hb; clear hb)
  go_upto_region 3 with (first
    | (rw [HF.out]; go_at_call 54; (with_reducible refine (HN.out _ hB).mono ?_); rintro e w2 ⟨rfl, hb⟩; replace hr := hr.on hb; replace hB := below_on hB hb; clear hb)
    | ((with_reducible refine wpL_store w2.heap.size 67 _ (feA n) 4 G.rowFe ?_ (feA_size _) (feA_one _) (Lies.new w2 _ _) ?_ ?_ ?_); rfl; rfl; rfl))
  have hn := newly_lies w2 67 fe0A (feA n)
  have hnw := newly w2 (.cells fe0A 67) (feA n)
  replace hr := hr.on hnw
  replace hB := below_on hB hnw
  clear hnw
  generalize World.setRow _ _ _ = w3 at *
  generalize w2.heap.size = gn at *
  refine wp_region_plain 7 (by kernel_rfl) (by kernel_rfl) ?_
  simp only [List.take_succ_cons, List.take_zero, List.drop_succ_cons, List.drop_zero]
  refine wpQB_sc gn n hn rfl ?_
  simp only [Act.put, List.setIfInBounds_toArray, List.set_cons_succ, List.set_cons_zero]
  refine wpQB_run (.string S) rfl (fun _ _ => rfl) ?_
  simp only [Act.put, List.setIfInBounds_toArray, List.set_cons_succ, List.set_cons_zero]
  refine wpQB_run (.string p) rfl (fun w _ => by rw [← HP.out]; exact run_from32 S (by omega) rfl w) ?_
  simp only [Act.put, List.setIfInBounds_toArray, List.set_cons_succ, List.set_cons_zero]
  refine wpQB_sc gn n hn rfl ?_
  simp only [Act.put, List.setIfInBounds_toArray, List.set_cons_succ, List.set_cons_zero]
  refine wpQB_call 56 #[fe n] (pt u) rfl rfl (fun _ => by kernel_rfl) (fun w hb => HB.out w (below_on hB hb)) ?_
  simp only [Act.put, List.setIfInBounds_toArray, List.set_cons_succ, List.set_cons_zero]
  refine wpQB_call 55 #[pt u] (.string k) rfl rfl (fun _ => by kernel_rfl) (fun w hb => HY.out w (below_on hB hb)) ?_
  simp only [Act.put, List.setIfInBounds_toArray, List.set_cons_succ, List.set_cons_zero]
  refine wpQB_run (.agg (sgA n p k)) rfl (fun _ _ => by kernel_rfl) ?_
  simp only [Act.put, List.setIfInBounds_toArray, List.set_cons_succ, List.set_cons_zero]
  refine wpQB_nil ?_
  intro w4 hb
  replace hr := hr.on hb
  replace hB := below_on hB hb
  clear hb
  go_wp2_with ((with_reducible refine wpL_store W.heap.size 69 _ (sgA n p k) 6 rowSg rfl (sgA_size _ _ _) (sgA_one _ _ _) hr ?_ ?_ ?_); rfl; rfl)
  exact bodyPost_ret (results_row Tryz.results35 rowSg (sgA_size _ _ _) (hr.row _) rfl) rfl ⟨rfl, below_rowSet hB (Nat.le_refl _) _⟩

set_option maxHeartbeats 3200000 in
theorem sign_any (A : Pts EdTab) (n : Nat) (hn : n < K256) (p k m : ByteArray) (hz : p.size + k.size + m.size ≤ 100000) (W : World) (hT : EdTab W) (r kk : Nat) (hr : r = leftN (p.data.toList ++ m.data.toList))
    (hk : kk = leftN ((textN (Bp.smul r)).data.toList ++ (k.data.toList ++ m.data.toList))) :
    Calls Tryz.prog 36 #[.agg (sgA n p k), .string m] W fun e w' =>
      e = .returned (.string (textN (Bp.smul r) ++ ⟨(leL ((r + kk * n % l25) % l25) 32).toArray⟩)) ∧ Below W.heap.size W w' := by
  have hrK : r < K256 := by rw [hr]; exact G.modL_K _
  have hkK : kk < K256 := by rw [hk]; exact G.modL_K _
  have HL := Lib.hid (fun w (hb : Below W.heap.size W w) => left_two w p m (by omega) (hT.on hb))
  rw [← hr] at HL
  have hPn := A.mul_pn hrK base_pn
  have HB := Lib.hid (fun w (hb : Below W.heap.size W w) => baseTimes_any A r hrK w (hT.on hb))
  have HY := Lib.hid (fun w (hb : Below W.heap.size W w) => bytesOf_any A hPn w (hT.on hb))
  generalize A.m r baseN = u at *
  have hRs := text_size (Bp.smul r)
  obtain ⟨R, hR⟩ : ∃ R, textN (Bp.smul r) = R := ⟨_, rfl⟩
  rw [hR] at HY hRs hk ⊢
  have HL3 := Lib.hid (fun w (hb : Below W.heap.size W w) => left_three w R k m (by omega) (hT.on hb))
  rw [← hk] at HL3
  have HM := Lib.hid (fun w (hb : Below W.heap.size W w) => G.scalar_ok.mul kk n w hkK hn (hT.o.on hb))
  rw [show kk * n % G.l25 = kk * n % l25 from rfl] at HM
  have hq : kk * n % l25 < K256 := G.modL_K _
  generalize kk * n % l25 = q at *
  have HA := Lib.hid (fun w (hb : Below W.heap.size W w) => G.scalar_ok.add r q w hrK hq (hT.o.on hb))
  rw [show (r + q) % G.l25 = (r + q) % l25 from rfl] at HA
  have hsK : (r + q) % l25 < K256 := G.modL_K _
  have hsL : (r + q) % l25 % G.l25 = (r + q) % l25 := Nat.mod_mod _ _
  generalize (r + q) % l25 = S at *
  have HS := Lib.hid (fun w (hb : Below W.heap.size W w) => G.scalar_ok.bytes S w hsK (hT.o.on hb))
  rw [hsL] at HS
  have hzs : (⟨(leL S 32).toArray⟩ : ByteArray).size = 32 := by simp [ByteArray.size, leL_length]
  generalize (⟨(leL S 32).toArray⟩ : ByteArray) = SB at *
  clear hrK hkK hr hk hPn hR hq hsK hsL hT hn hz
  go_enter Tryz.func36, Tryz.ntmps36
  have hz := Lies.new W 69 (sgA n p k)
  have hB := (Below.refl W.heap.size W).alloc (Nat.le_refl _) (.cells (sgA n p k) 69)
  go_upto_region 1 with fail
  generalize World.alloc W _ = w0 at *
  have c4 := sg_p hz
  go_upto_region 2 with (first
    | (go_at_call 40; (with_reducible refine (HL.out _ hB).mono ?_); rintro e w1 ⟨rfl, hb⟩; replace hz := hz.on hb; replace hB := below_on hB hb; clear hb)
    | ((with_reducible refine wpL_store w1.heap.size 67 _ (feA r) 4 G.rowFe ?_ (feA_size _) (feA_one _) (Lies.new w1 _ _) ?_ ?_ ?_); rfl; rfl; rfl))
  have hr := newly_lies w1 67 fe0A (feA r)
  have hnw := newly w1 (.cells fe0A 67) (feA r)
  replace hz := hz.on hnw
  replace hB := below_on hB hnw
  clear hnw c4
  generalize World.setRow _ _ _ = w2 at *
  generalize w1.heap.size = gr at *
  go_upto_region 3 with (first
    | ((with_reducible refine wpL_load gr 67 (feA r) 4 G.rowFe (feA_size _) hr ?_ ?_); rfl)
    | (go_at_call 56; (with_reducible refine (HB.out _ hB).mono ?_); rintro e w3 ⟨rfl, hb⟩; replace hz := hz.on hb; replace hr := hr.on hb; replace hB := below_on hB hb; clear hb)
    | (go_at_call 55; (with_reducible refine (HY.out _ hB).mono ?_); rintro e w4 ⟨rfl, hb⟩; replace hz := hz.on hb; replace hr := hr.on hb; replace hB := below_on hB hb; clear hb))
  have c5 := sg_k hz
  go_upto_region 4 with (first
    | (go_at_call 40; (with_reducible refine (HL3.out _ hB).mono ?_); rintro e w5 ⟨rfl, hb⟩; replace hz := hz.on hb; replace hr := hr.on hb; replace hB := below_on hB hb; clear hb)
    | ((with_reducible refine wpL_store w5.heap.size 67 _ (feA kk) 4 G.rowFe ?_ (feA_size _) (feA_one _) (Lies.new w5 _ _) ?_ ?_ ?_); rfl; rfl; rfl))
  have hk := newly_lies w5 67 fe0A (feA kk)
  have hnw := newly w5 (.cells fe0A 67) (feA kk)
  replace hz := hz.on hnw
  replace hr := hr.on hnw
  replace hB := below_on hB hnw
  clear hnw c5
  generalize World.setRow _ _ _ = w6 at *
  generalize w5.heap.size = gk at *
  have hzn := sg_n hz
  refine wp_region_all (by kernel_rfl) (by kernel_rfl) ?_
  refine wpQB_run (.string R) rfl (fun _ _ => rfl) ?_
  simp only [Act.put, List.setIfInBounds_toArray, List.set_cons_succ, List.set_cons_zero]
  refine wpQB_sc gr r hr rfl ?_
  simp only [Act.put, List.setIfInBounds_toArray, List.set_cons_succ, List.set_cons_zero]
  refine wpQB_sc gk kk hk rfl ?_
  simp only [Act.put, List.setIfInBounds_toArray, List.set_cons_succ, List.set_cons_zero]
  refine wpQB_run (.pointer (some ⟨W.heap.size, 0, none⟩)) rfl (fun _ _ => by kernel_rfl) ?_
  simp only [Act.put, List.setIfInBounds_toArray, List.set_cons_succ, List.set_cons_zero]
  refine wpQB_midSc W.heap.size 0 n hzn rfl ?_
  simp only [Act.put, List.setIfInBounds_toArray, List.set_cons_succ, List.set_cons_zero]
  refine wpQB_call 59 #[fe kk, fe n] (fe q) rfl rfl (fun _ => by kernel_rfl) (fun w hb => HM.out w (below_on hB hb)) ?_
  simp only [Act.put, List.setIfInBounds_toArray, List.set_cons_succ, List.set_cons_zero]
  refine wpQB_call 58 #[fe r, fe q] (fe S) rfl rfl (fun _ => by kernel_rfl) (fun w hb => HA.out w (below_on hB hb)) ?_
  simp only [Act.put, List.setIfInBounds_toArray, List.set_cons_succ, List.set_cons_zero]
  refine wpQB_call 57 #[fe S] (.string SB) rfl rfl (fun _ => by kernel_rfl) (fun w hb => HS.out w (below_on hB hb)) ?_
  simp only [Act.put, List.setIfInBounds_toArray, List.set_cons_succ, List.set_cons_zero]
  refine wpQB_run (.string (R ++ SB)) rfl (fun w _ => run_cat R SB (by omega) rfl rfl w) ?_
  simp only [Act.put, List.setIfInBounds_toArray, List.set_cons_succ, List.set_cons_zero]
  refine wpQB_run (.string (R ++ SB)) rfl (fun _ _ => rfl) ?_
  simp only [Act.put, List.setIfInBounds_toArray, List.set_cons_succ, List.set_cons_zero]
  refine wpQB_nil ?_
  intro w7 hb
  replace hB := below_on hB hb
  go_wp2_with fail
  go_ret
  exact ⟨rfl, hB⟩
end Go.Proofs.YtmekmlgpkbfjpaaGreatDoor.E

/- The contracts of the developers' baseLess, Public, Sign and Verify. -/
namespace Go.Proofs.YtmekmlgpkbfjpaaGreatDoor.E
open Go.RowKit Go.Sort Go.Proofs.YtmekmlgpkbfjpaaGreatDoor.F Go.Proofs.YtmekmlgpkbfjpaaGreatDoor.C
set_option maxRecDepth 100000
theorem toList_beq (a b : ByteArray) : (a.toList == b.toList) = decide (a = b) := by
  by_cases h : a = b
  · subst h
    simp
  · rw [decide_eq_false h, beq_eq_false_iff_ne, ByteArray.toList_eq, ByteArray.toList_eq]
    exact fun e => h (by rw [← Lib.mk_data a, ← Lib.mk_data b, e])

/-! ### what verifying asks -/
def keyY (key : ByteArray) : Nat := numLE key.data.toList % two255
def keyO (key : ByteArray) : Bool := decide (two255 ≤ numLE key.data.toList)
/-- is it a point's? -/
def keyB (key : ByteArray) : Bool := parseB (keyY key) (keyO key)
def keyQ (key : ByteArray) : Pt := ⟨z (xOf (keyY key) (keyO key)), z (keyY key)⟩
theorem key_pn {key : ByteArray} (h : keyB key = true) : Pn (parseN (keyY key) (keyO key)) (keyQ key) := parse_pn h
def sigN (sig : ByteArray) : Nat := numLE (sig.data.toList.drop 32)
def sigK (key m sig : ByteArray) : Nat := leftN (sig.data.toList.take 32 ++ (key.data.toList ++ m.data.toList))
def sigR (key m sig : ByteArray) : ByteArray := textN ((Bp.smul (sigN sig)).add ((keyQ key).smul (sigK key m sig)).neg)
def verifyE (key m sig : ByteArray) : Int :=
  if key.size = 32 ∧ sig.size = 64 then if keyB key = true then if sigN sig < l25 then if sigR key m sig = sig.extract 0 32 then 0 else 12 else 11 else 10 else 1
attribute [local irreducible] feA ptA sgA
set_option maxHeartbeats 3200000 in
theorem baseLess_any (A : Pts EdTab) (s k : Nat) (hs : s < K256) (hk : k < K256) {u : N4} {P : Pt} (hu : Pn u P) (W : World) (hT : EdTab W) :
    Calls Tryz.prog 39 #[fe s, pt u, fe k] W fun e w' => e = .returned (.string (textN ((Bp.smul s).add (P.smul k).neg))) ∧ Below W.heap.size W w' := by
  have p1 := A.mul_pn hk hu
  have HM := Lib.hid (fun w (hb : Below W.heap.size W w) => A.mul w hk hu (hT.on hb))
  have p2 := A.neg_pn p1
  have HN := Lib.hid (fun w (hb : Below W.heap.size W w) => A.neg w p1 (hT.on hb))
  have p3 := A.mul_pn hs base_pn
  have HB := Lib.hid (fun w (hb : Below W.heap.size W w) => baseTimes_any A s hs w (hT.on hb))
  have p4 := A.add_pn p3 p2
  have HA := Lib.hid (fun w (hb : Below W.heap.size W w) => A.add w p3 p2 (hT.on hb))
  have HY := Lib.hid (fun w (hb : Below W.heap.size W w) => bytesOf_any A p4 w (hT.on hb))
  generalize textN ((Bp.smul s).add (P.smul k).neg) = R at *
  generalize A.f (A.m s baseN) (A.g (A.m k u)) = u4 at *
  generalize A.m s baseN = u3 at *
  generalize A.g (A.m k u) = u2 at *
  generalize A.m k u = u1 at *
  clear p1 p2 p3 p4 hT hs hk hu
  go_enter Tryz.func39, Tryz.ntmps39
  have hs := ((Lies.new W 67 (feA s)).alloc (.cells (ptA u) 74)).alloc (.cells (feA k) 67)
  have hp : Lies ((W.alloc (.cells (feA s) 67)).alloc (.cells (ptA u) 74)) (W.heap.size + 1) 74 (ptA u) := heap_alloc2_new W _ _
  replace hp := hp.alloc (.cells (feA k) 67)
  have hk := lies3 W (.cells (feA s) 67) (.cells (ptA u) 74) 67 (feA k)
  have hB := (((Below.refl W.heap.size W).alloc (Nat.le_refl _) (.cells (feA s) 67)).alloc (by simp) (.cells (ptA u) 74)).alloc (by simp; omega) (.cells (feA k) 67)
  go_upto_region 1 with fail
  generalize World.alloc (World.alloc (World.alloc W _) _) _ = w0 at *
  go_upto_region 2 with (first
    | ((with_reducible refine wpL_load (W.heap.size + 2) 67 (feA k) 4 G.rowFe (feA_size _) hk ?_ ?_); rfl)
    | ((with_reducible refine wpL_load (W.heap.size + 1) 74 (ptA u) 16 rowPt (ptA_size _) hp ?_ ?_); rfl)
    | (go_at_call 64; (with_reducible refine (HM.out _ hB).mono ?_); rintro e w1 ⟨rfl, hb⟩; replace hs := hs.on hb; replace hB := below_on hB hb; clear hb)
    | ((with_reducible refine wpL_store w1.heap.size 74 _ (ptA u1) 16 rowPt ?_ (ptA_size _) (ptA_one _) (Lies.new w1 _ _) ?_ ?_ ?_); rfl; rfl; rfl))
  have h1 := newly_lies w1 74 z16P (ptA u1)
  have hnw := newly w1 (.cells z16P 74) (ptA u1)
  replace hs := hs.on hnw
  replace hB := below_on hB hnw
  clear hnw hp hk
  generalize World.setRow _ _ _ = w2 at *
  generalize w1.heap.size = g1 at *
  go_upto_region 3 with (first
    | ((with_reducible refine wpL_load g1 74 (ptA u1) 16 rowPt (ptA_size _) h1 ?_ ?_); rfl)
    | (go_at_call 65; (with_reducible refine (HN.out _ hB).mono ?_); rintro e w3 ⟨rfl, hb⟩; replace hs := hs.on hb; replace hB := below_on hB hb; clear hb)
    | ((with_reducible refine wpL_store w3.heap.size 74 _ (ptA u2) 16 rowPt ?_ (ptA_size _) (ptA_one _) (Lies.new w3 _ _) ?_ ?_ ?_); rfl; rfl; rfl))
  have h2 := newly_lies w3 74 z16P (ptA u2)
  have hnw := newly w3 (.cells z16P 74) (ptA u2)
  replace hs := hs.on hnw
  replace hB := below_on hB hnw
  clear hnw h1
  generalize World.setRow _ _ _ = w4 at *
  generalize w3.heap.size = g2 at *
  refine wp_region_made_late 6 8 7 11 _ 74 z16P rfl rfl (by kernel_rfl) (by kernel_rfl) (by kernel_rfl) (allocPt rfl) ?_
  simp only [addEdge, List.take_succ_cons, List.take_zero, List.drop_succ_cons, List.drop_zero]
  refine wpQB_sc W.heap.size s hs rfl ?_
  simp only [Act.put, List.setIfInBounds_toArray, List.set_cons_succ, List.set_cons_zero]
  refine wpQB_call 56 #[fe s] (pt u3) rfl rfl (fun _ => by kernel_rfl) (fun w hb => HB.out w (below_on hB hb)) ?_
  simp only [Act.put, List.setIfInBounds_toArray, List.set_cons_succ, List.set_cons_zero]
  refine wpQB_pt g2 u2 h2 rfl ?_
  simp only [Act.put, List.setIfInBounds_toArray, List.set_cons_succ, List.set_cons_zero]
  refine wpQB_call 66 #[pt u3, pt u2] (.tuple #[pt u4, .int .i64 0]) rfl rfl (fun _ => by kernel_rfl) (fun w hb => HA.out w (below_on hB hb)) ?_
  simp only [Act.put, List.setIfInBounds_toArray, List.set_cons_succ, List.set_cons_zero]
  refine wpQB_move ?_
  simp only [Act.put, List.setIfInBounds_toArray, List.set_cons_succ, List.set_cons_zero]
  refine wpQB_run (pt u4) rfl (fun _ _ => by kernel_rfl) ?_
  simp only [Act.put, List.setIfInBounds_toArray, List.set_cons_succ, List.set_cons_zero]
  refine wpQB_run (.int .i64 0) rfl (fun _ _ => by kernel_rfl) ?_
  simp only [Act.put, List.setIfInBounds_toArray, List.set_cons_succ, List.set_cons_zero]
  refine wpQB_nil ?_
  intro kp w5 hb hkp hy1
  simp only [List.setIfInBounds_toArray, List.set_cons_succ, List.set_cons_zero]
  replace hy1 : Lies w5 kp 74 z16P := hy1
  have hsz := hB.size
  have h4 := hy1.row (ptA u4)
  replace hB := below_rowSet (below_on hB hb) (show W.heap.size ≤ kp by omega) (ptA u4)
  clear hb hs h2
  go_upto_region 4 with ((with_reducible refine wpL_store kp 74 _ (ptA u4) 16 rowPt rfl (ptA_size _) (ptA_one _) hy1 ?_ ?_ ?_); rfl; rfl)
  clear hy1
  generalize World.setRow _ _ _ = w6 at *
  go_wp2_with (first
    | ((with_reducible refine wpL_load kp 74 (ptA u4) 16 rowPt (ptA_size _) h4 ?_ ?_); rfl)
    | (go_at_call 55; (with_reducible refine (HY.out _ hB).mono ?_); rintro e w7 ⟨rfl, hb⟩; replace hB := below_on hB hb; clear hb))
  go_ret
  exact ⟨rfl, hB⟩

/-! ### keys and signatures -/
def seedT (s m : ByteArray) : ByteArray := signT s.data.toList m.data.toList ++ ⟨(leL (signS s.data.toList m.data.toList) 32).toArray⟩
set_option maxHeartbeats 1600000 in
theorem public_any (A : Pts EdTab) (s : ByteArray) (hs : s.size ≤ 1000) (W : World) (hT : EdTab W) :
    Calls Tryz.prog 21 #[.string s] W fun e w' => e = .returned (if s.size = 32 then .tuple #[.string (keyT s.data.toList), .int .i64 0] else .tuple #[.string { data := #[] }, .int .i64 1]) ∧ Below W.heap.size W w' := by
  have HS := Lib.hid (fun w (hb : Below W.heap.size W w) => signerOf_any A s hs w (hT.on hb))
  generalize keyT s.data.toList = k at *
  generalize seedN s.data.toList % l25 = n at *
  generalize (⟨(prefixL s.data.toList).toArray⟩ : ByteArray) = p at *
  have hB := Below.refl W.heap.size W
  clear hs hT
  by_cases h : s.size = 32
  · rw [if_pos h]
    have hi : (s.size : Int) = 32 := by omega
    clear h
    go_enter Tryz.func21, Tryz.ntmps21
    go_wp2_with (first
      | ((with_reducible refine wpL_fld (.string k) ?_ ?_); unfold sgA; kernel_rfl)
      | (go_at_call 35; (with_reducible refine (HS.out _ hB).mono ?_); rintro e w1 ⟨rfl, hb⟩; replace hB := below_on hB hb; clear hb))
    exact bodyPost_ret (results_tmp2 Tryz.results21 _ _ _) rfl ⟨rfl, hB⟩
  · rw [if_neg h]
    have hi : ¬ (s.size : Int) = 32 := by omega
    clear h
    go_enter Tryz.func21, Tryz.ntmps21
    go_wp2_with fail
    exact bodyPost_ret (results_tmp2 Tryz.results21 _ _ _) rfl ⟨rfl, hB⟩
set_option maxHeartbeats 1600000 in
theorem signs_any (A : Pts EdTab) (s m : ByteArray) (hs : s.size ≤ 1000) (hm : m.size ≤ 1000) (W : World) (hT : EdTab W) :
    Calls Tryz.prog 22 #[.string s, .string m] W fun e w' => e = .returned (if s.size = 32 then .tuple #[.string (seedT s m), .int .i64 0] else .tuple #[.string { data := #[] }, .int .i64 1]) ∧ Below W.heap.size W w' := by
  have HS := Lib.hid (fun w (hb : Below W.heap.size W w) => signerOf_any A s hs w (hT.on hb))
  have hp : (⟨(prefixL s.data.toList).toArray⟩ : ByteArray).size = 32 := by unfold prefixL; simp [ByteArray.size, T.sumT_length]
  have hk : (keyT s.data.toList).size = 32 := text_size _
  have HG := Lib.hid (fun w (hb : Below W.heap.size W w) => sign_any A (seedN s.data.toList % l25) (G.modL_K _) ⟨(prefixL s.data.toList).toArray⟩ (keyT s.data.toList) m (by omega) w (hT.on hb) (signR s.data.toList m.data.toList) (signK s.data.toList m.data.toList) rfl rfl)
  rw [show textN (Bp.smul (signR s.data.toList m.data.toList)) ++ ⟨(leL ((signR s.data.toList m.data.toList + signK s.data.toList m.data.toList * (seedN s.data.toList % l25) % l25) % l25) 32).toArray⟩ = seedT s m from rfl] at HG
  generalize seedT s m = R at *
  generalize keyT s.data.toList = k at *
  generalize seedN s.data.toList % l25 = n at *
  generalize (⟨(prefixL s.data.toList).toArray⟩ : ByteArray) = p at *
  have hB := Below.refl W.heap.size W
  clear hs hm hT hp hk
  by_cases h : s.size = 32
  · rw [if_pos h]
    have hi : (s.size : Int) = 32 := by omega
    clear h
    go_enter Tryz.func22, Tryz.ntmps22
    go_wp2_with (first
      | (go_at_call 35; (with_reducible refine (HS.out _ hB).mono ?_); rintro e w1 ⟨rfl, hb⟩; replace hB := below_on hB hb; clear hb)
      | (go_at_call 36; (with_reducible refine (HG.out _ hB).mono ?_); rintro e w2 ⟨rfl, hb⟩; replace hB := below_on hB hb; clear hb))
    exact bodyPost_ret (results_tmp2 Tryz.results22 _ _ _) rfl ⟨rfl, hB⟩
  · rw [if_neg h]
    have hi : ¬ (s.size : Int) = 32 := by omega
    clear h
    go_enter Tryz.func22, Tryz.ntmps22
    go_wp2_with fail
    exact bodyPost_ret (results_tmp2 Tryz.results22 _ _ _) rfl ⟨rfl, hB⟩

/-! ### verifying -/
set_option maxHeartbeats 1600000 in
theorem verify_arg (key m sig : ByteArray) (h : ¬ (key.size = 32 ∧ sig.size = 64)) (W : World) :
    Calls Tryz.prog 24 #[.string key, .string m, .string sig] W fun e w' => e = .returned (.int .i64 1) ∧ Below W.heap.size W w' := by
  have hB := Below.refl W.heap.size W
  by_cases hk : key.size = 32
  · have hi : (key.size : Int) = 32 := by omega
    have hj : ¬ (sig.size : Int) = 64 := by omega
    clear h hk
    go_enter Tryz.func24, Tryz.ntmps24
    go_wp2_with fail
    go_ret
    exact ⟨rfl, hB⟩
  · have hi : ¬ (key.size : Int) = 32 := by omega
    clear h hk
    go_enter Tryz.func24, Tryz.ntmps24
    go_wp2_with fail
    go_ret
    exact ⟨rfl, hB⟩
theorem key_parse (key : ByteArray) (hk : key.size = 32) (W w : World) (hT : EdTab2 W) (hb : Below W.heap.size W w) :
    Calls Tryz.prog 37 #[.string key] w fun e w' => e = .returned (if keyB key = true then .tuple #[pt (parseN (keyY key) (keyO key)), .int .i64 0] else .tuple #[pt noneN, .int .i64 10]) ∧ Below w.heap.size w w' := by
  have h := point_ok.parse key w (by rw [hk]; decide) ⟨(hT.on hb).1.p, (hT.on hb).2⟩
  rw [if_pos hk] at h
  exact h
set_option maxHeartbeats 1600000 in
theorem verify_point (key m sig : ByteArray) (hk : key.size = 32) (hs : sig.size = 64) (hp : keyB key = false) (W : World) (hT : EdTab2 W) :
    Calls Tryz.prog 24 #[.string key, .string m, .string sig] W fun e w' => e = .returned (.int .i64 10) ∧ Below W.heap.size W w' := by
  have hB := Below.refl W.heap.size W
  have HP := Lib.hid (fun w (hb : Below W.heap.size W w) => key_parse key hk W w hT hb)
  rw [if_neg (by rw [hp]; decide)] at HP
  have hi : (key.size : Int) = 32 := by omega
  have hj : (sig.size : Int) = 64 := by omega
  clear hk hs hp hT
  go_enter Tryz.func24, Tryz.ntmps24
  go_wp2_with (first
    | (go_at_call 37; (with_reducible refine (HP.out _ hB).mono ?_); rintro e w1 ⟨rfl, hb⟩; replace hB := below_on hB hb; clear hb)
    | ((with_reducible refine wpL_store w1.heap.size 74 _ (ptA noneN) 16 rowPt ?_ (ptA_size _) (ptA_one _) (Lies.new w1 _ _) ?_ ?_ ?_); rfl; rfl; rfl))
  go_ret
  exact ⟨rfl, below_on hB (newly w1 _ _)⟩
theorem sig_parse (sig : ByteArray) (hs : sig.size = 64) (W w : World) (hT : EdTab2 W) (hb : Below W.heap.size W w) :
    Calls Tryz.prog 38 #[.string (sig.extract 32 sig.size)] w fun e w' => e = .returned (if sigN sig < l25 then .tuple #[fe (sigN sig), .int .i64 0] else .tuple #[fe 0, .int .i64 11]) ∧ Below w.heap.size w w' := by
  have h32 : (sig.extract 32 sig.size).size = 32 := by rw [ByteArray.size_extract]; omega
  have h := G.scalar_ok.parse (sig.extract 32 sig.size) w (by rw [h32]; decide) (hT.1.o.on hb)
  rw [if_pos h32, T.rest_list] at h
  exact h
set_option maxHeartbeats 1600000 in
theorem verify_scalar (key m sig : ByteArray) (hk : key.size = 32) (hs : sig.size = 64) (hp : keyB key = true) (hn : ¬ sigN sig < l25) (W : World) (hT : EdTab2 W) :
    Calls Tryz.prog 24 #[.string key, .string m, .string sig] W fun e w' => e = .returned (.int .i64 11) ∧ Below W.heap.size W w' := by
  have hB := Below.refl W.heap.size W
  have HP := Lib.hid (fun w (hb : Below W.heap.size W w) => key_parse key hk W w hT hb)
  rw [if_pos hp] at HP
  have HS := Lib.hid (fun w (hb : Below W.heap.size W w) => sig_parse sig hs W w hT hb)
  rw [if_neg hn] at HS
  have hi : (key.size : Int) = 32 := by omega
  have hj : (sig.size : Int) = 64 := by omega
  generalize parseN (keyY key) (keyO key) = u at *
  clear hk hs hp hn hT
  go_enter Tryz.func24, Tryz.ntmps24
  go_upto_region 4 with (first
    | (go_at_call 37; (with_reducible refine (HP.out _ hB).mono ?_); rintro e w1 ⟨rfl, hb⟩; replace hB := below_on hB hb; clear hb)
    | ((with_reducible refine wpL_store w1.heap.size 74 _ (ptA u) 16 rowPt ?_ (ptA_size _) (ptA_one _) (Lies.new w1 _ _) ?_ ?_ ?_); rfl; rfl; rfl))
  replace hB := below_on hB (newly w1 (.cells z16P 74) (ptA u))
  generalize World.setRow _ _ _ = w2 at *
  go_wp2_with (first
    | (go_at_call 38; (with_reducible refine (HS.out _ hB).mono ?_); rintro e w3 ⟨rfl, hb⟩; replace hB := below_on hB hb; clear hb)
    | ((with_reducible refine wpL_store w3.heap.size 67 _ (feA 0) 4 G.rowFe ?_ (feA_size _) (feA_one _) (Lies.new w3 _ _) ?_ ?_ ?_); rfl; rfl; rfl))
  go_ret
  exact ⟨rfl, below_on hB (newly w3 _ _)⟩

/-! ### the last region: it makes a row -/
theorem grown_row (w : World) (o : Obj) : Below w.heap.size w (w.alloc o) := (Below.refl w.heap.size w).alloc (Nat.le_refl _) o
/-- a row of three texts was just laid, and is handed on -/
def sayRow (x y m : ByteArray) : Said := fun v w => ∃ g, v = .slice (some ⟨g, 0, none⟩) 3 3 ∧ Lies w g 9 #[.string x, .string y, .string m]
theorem sayRow_mono (x y m : ByteArray) : ∀ v w w', sayRow x y m v w → Below w.heap.size w w' → sayRow x y m v w' := fun _ _ _ ⟨g, e, h⟩ hb => ⟨g, e, h.on hb⟩
theorem strs_lies {w : World} {g : Nat} {x y m : ByteArray} (h : Lies w g 9 #[.string x, .string y, .string m]) : Strs w (.slice (some ⟨g, 0, none⟩) 3 3) [x.data.toList, y.data.toList, m.data.toList] := by
  refine ⟨some ⟨g, 0, none⟩, 3, rfl, Nat.le_refl _, by unfold maxLen; omega, (fun h => by cases h), fun _ => ⟨g, 0, rfl, fun i y hi => ?_⟩⟩
  rw [Nat.zero_add, h.cell i]
  match i, hi with
  | 0, hi | 1, hi | 2, hi =>
    obtain rfl := Option.some.inj hi
    rfl
section
variable {a : Act} {d : Option Tmp} {x y : Tmp} {t' : TypeId} {pos : String} {after : Array Edge} {gd : Option (Nat × Bool)} {r : TypeId}
end
theorem wd_pt {w0 w : World} {g : Nat} {a : Act} {d : Option Tmp} {x : Operand} {t' : TypeId} {pos : String} {after : Array Edge} {u : N4} (hz : Lies w0 g 74 (ptA u)) (hb : Below w0.heap.size w0 w) (hx : a.eval x = .pointer (some ⟨g, 0, none⟩)) :
    (execOp a.eval ⟨d, .load 74 x, t', pos, after, none⟩).run Tryz.prog w = .ok (.value (pt u)) w := run_load_row rowPt (ptA_size _) _ hz hb hx
theorem wd_sc {w0 w : World} {g : Nat} {a : Act} {d : Option Tmp} {x : Operand} {t' : TypeId} {pos : String} {after : Array Edge} {n : Nat} (hz : Lies w0 g 67 (feA n)) (hb : Below w0.heap.size w0 w) (hx : a.eval x = .pointer (some ⟨g, 0, none⟩)) :
    (execOp a.eval ⟨d, .load 67 x, t', pos, after, none⟩).run Tryz.prog w = .ok (.value (fe n)) w := run_load_row G.rowFe (feA_size _) _ hz hb hx

set_option maxHeartbeats 3200000 in
theorem verify_sig (A : Pts EdTab) (key m sig : ByteArray) (hk : key.size = 32) (hs : sig.size = 64) (hm : m.size ≤ 1000) (hp : keyB key = true) (hn : sigN sig < l25) (W : World) (hT : EdTab2 W) :
    Calls Tryz.prog 24 #[.string key, .string m, .string sig] W fun e w' => e = .returned (.int .i64 (if sigR key m sig = sig.extract 0 32 then 0 else 12)) ∧ Below W.heap.size W w' := by
  have hB := Below.refl W.heap.size W
  have HP := Lib.hid (fun w (hb : Below W.heap.size W w) => key_parse key hk W w hT hb)
  rw [if_pos hp] at HP
  have HS := Lib.hid (fun w (hb : Below W.heap.size W w) => sig_parse sig hs W w hT hb)
  rw [if_pos hn] at HS
  have hi : (key.size : Int) = 32 := by omega
  have hj : (sig.size : Int) = 64 := by omega
  have hf : (sig.extract 0 32).data.toList = sig.data.toList.take 32 := T.head_list sig 32
  have HL := Lib.hid (fun w (hb : Below W.heap.size W w) g (h : Lies w g 9 #[.string (sig.extract 0 32), .string key, .string m]) => left_any w _ _ (strs_lies h) (by
    simp only [List.flatten_cons, List.flatten_nil, List.length_append, ← Lib.size_eq, List.length_nil]
    rw [ByteArray.size_extract]
    omega) (hT.on hb).1)
  have e : [(sig.extract 0 32).data.toList, key.data.toList, m.data.toList].flatten = sig.data.toList.take 32 ++ (key.data.toList ++ m.data.toList) := by rw [hf]; simp
  rw [e, show leftN (sig.data.toList.take 32 ++ (key.data.toList ++ m.data.toList)) = sigK key m sig from rfl] at HL
  have hkK : sigK key m sig < K256 := G.modL_K _
  have hnK : sigN sig < K256 := Nat.lt_trans hn (by decide)
  have HBL := Lib.hid (fun w (hb : Below W.heap.size W w) => baseLess_any A (sigN sig) (sigK key m sig) hnK hkK (key_pn hp) w (hT.on hb).1)
  rw [show textN ((Bp.smul (sigN sig)).add ((keyQ key).smul (sigK key m sig)).neg) = sigR key m sig from rfl] at HBL
  generalize parseN (keyY key) (keyO key) = u at *
  generalize sigN sig = S at *
  generalize sigK key m sig = k at *
  generalize sigR key m sig = R at *
  clear hf
  obtain ⟨f, hf⟩ : ∃ f, sig.extract 0 32 = f := ⟨_, rfl⟩
  rw [hf] at HL ⊢
  obtain ⟨res, hres⟩ : ∃ res : Int, (if R = f then 0 else 12) = res := ⟨_, rfl⟩
  rw [hres]
  have HF := Lib.hid hf
  have HR := Lib.hid hres
  clear hk hp hn hT hkK hnK hf e hm hs hres
  go_enter Tryz.func24, Tryz.ntmps24
  go_upto_region 4 with (first
    | (go_at_call 37; (with_reducible refine (HP.out _ hB).mono ?_); rintro e w1 ⟨rfl, hb⟩; replace hB := below_on hB hb; clear hb)
    | ((with_reducible refine wpL_store w1.heap.size 74 _ (ptA u) 16 rowPt ?_ (ptA_size _) (ptA_one _) (Lies.new w1 _ _) ?_ ?_ ?_); rfl; rfl; rfl))
  have hp := newly_lies w1 74 z16P (ptA u)
  replace hB := below_on hB (newly w1 (.cells z16P 74) (ptA u))
  generalize World.setRow _ _ _ = w2 at *
  generalize w1.heap.size = gp at *
  go_upto_region 8 with (first
    | (go_at_call 38; (with_reducible refine (HS.out _ hB).mono ?_); rintro e w3 ⟨rfl, hb⟩; replace hp := hp.on hb; replace hB := below_on hB hb; clear hb)
    | ((with_reducible refine wpL_store w3.heap.size 67 _ (feA S) 4 G.rowFe ?_ (feA_size _) (feA_one _) (Lies.new w3 _ _) ?_ ?_ ?_); rfl; rfl; rfl))
  have hs := newly_lies w3 67 fe0A (feA S)
  have hnw := newly w3 (.cells fe0A 67) (feA S)
  replace hp := hp.on hnw
  replace hB := below_on hB hnw
  clear hnw HP HS
  generalize World.setRow _ _ _ = w4 at *
  generalize w3.heap.size = gs at *
  go_upto_region 10 with fail
  rw [HF.out]
  refine wp_region_rel 9 _ [sayFix (fe S), sayFix (pt u), sayFix (.string f), sayFix (.string key), sayFix (.string m), sayRow f key m, sayFix (fe k), sayFix (.string R), sayFix (.string f)] rfl rfl (by kernel_rfl) (by kernel_rfl) (fun r hr => by
    simp only [List.mem_cons, List.not_mem_nil, or_false] at hr
    rcases hr with rfl | rfl | rfl | rfl | rfl | rfl | rfl | rfl | rfl <;> first | exact sayFix_mono _ | exact sayRow_mono _ _ _) ?_
  simp only [List.take_succ_cons, List.take_zero, List.drop_succ_cons, List.drop_zero, List.zip_cons_cons, List.zip_nil_right]
  refine wpRel_step (fun w hb hG => does_run (fe S) (wd_sc hs hb rfl) rfl) (fun v0 => ?_)
  simp only [Act.put, List.setIfInBounds_toArray, List.set_cons_succ, List.set_cons_zero, Option.getD_some]
  refine wpRel_step (fun w hb hG => does_run (pt u) (wd_pt hp hb rfl) rfl) (fun v1 => ?_)
  simp only [Act.put, List.setIfInBounds_toArray, List.set_cons_succ, List.set_cons_zero, Option.getD_some]
  refine wpRel_step (fun w hb hG => does_run (.string f) rfl rfl) (fun v2 => ?_)
  simp only [Act.put, List.setIfInBounds_toArray, List.set_cons_succ, List.set_cons_zero, Option.getD_some]
  refine wpRel_step (fun w hb hG => does_run (.string key) rfl rfl) (fun v3 => ?_)
  simp only [Act.put, List.setIfInBounds_toArray, List.set_cons_succ, List.set_cons_zero, Option.getD_some]
  refine wpRel_step (fun w hb hG => does_run (.string m) rfl rfl) (fun v4 => ?_)
  simp only [Act.put, List.setIfInBounds_toArray, List.set_cons_succ, List.set_cons_zero, Option.getD_some]
  refine wpRel_step (fun w hb hG => ?_) (fun v5 => ?_)
  · obtain rfl := laid_at 2 hG rfl (by decide)
    obtain rfl := laid_at 1 hG rfl (by decide)
    obtain rfl := laid_at 0 hG rfl (by decide)
    exact does_made (.slice (some ⟨w.heap.size, 0, none⟩) 3 3) (w' := w.alloc (.cells #[.string f, .string key, .string m] 9)) (by kernel_rfl) (grown_row w _) ⟨w.heap.size, rfl, Lies.new w _ _⟩
  simp only [Act.put, List.setIfInBounds_toArray, List.set_cons_succ, List.set_cons_zero, Option.getD_some]
  refine wpRel_step (fun w hb hG => ?_) (fun v6 => ?_)
  · obtain ⟨g, rfl, hg⟩ := laid_at 0 hG rfl (by decide)
    refine does_call 40 #[.slice (some ⟨g, 0, none⟩) 3 3] (by kernel_rfl) ((HL.out w (below_on hB hb) g hg).mono ?_)
    rintro e w' ⟨rfl, h6⟩
    exact ⟨_, rfl, h6, rfl⟩
  simp only [Act.put, List.setIfInBounds_toArray, List.set_cons_succ, List.set_cons_zero, Option.getD_some]
  refine wpRel_step (fun w hb hG => ?_) (fun v7 => ?_)
  · obtain rfl := laid_at 6 hG rfl (by decide)
    obtain rfl := laid_at 5 hG rfl (by decide)
    obtain rfl := laid_at 0 hG rfl (by decide)
    refine does_call 39 #[fe S, pt u, fe k] (by kernel_rfl) ((HBL.out w (below_on hB hb)).mono ?_)
    rintro e w' ⟨rfl, h6⟩
    exact ⟨_, rfl, h6, rfl⟩
  simp only [Act.put, List.setIfInBounds_toArray, List.set_cons_succ, List.set_cons_zero, Option.getD_some]
  refine wpRel_step (fun w hb hG => does_run (.string f) rfl rfl) (fun v8 => ?_)
  simp only [Act.put, List.setIfInBounds_toArray, List.set_cons_succ, List.set_cons_zero, Option.getD_some]
  refine wpRel_nil (fun w5 hb hG => ?_)
  obtain rfl := hG _ (List.mem_of_getElem? (i := 0) rfl)
  obtain rfl := hG _ (List.mem_of_getElem? (i := 1) rfl)
  clear hG
  replace hB := below_on hB hb
  clear hb hp hs HL HBL
  have hq := toList_beq R f
  have hres := HR.out
  by_cases h : R = f
  · rw [if_pos h] at hres
    rw [decide_eq_true h] at hq
    subst hres
    clear h HR HF
    go_wp2_with fail
    go_ret
    exact ⟨rfl, hB⟩
  · rw [if_neg h] at hres
    rw [decide_eq_false h] at hq
    subst hres
    clear h HR HF
    go_wp2_with fail
    go_ret
    exact ⟨rfl, hB⟩

theorem verify_any (A : Pts EdTab) (key m sig : ByteArray) (hm : m.size ≤ 1000) (W : World) (hT : EdTab2 W) :
    Calls Tryz.prog 24 #[.string key, .string m, .string sig] W fun e w' => e = .returned (.int .i64 (verifyE key m sig)) ∧ Below W.heap.size W w' := by
  unfold verifyE
  by_cases h : key.size = 32 ∧ sig.size = 64
  · rw [if_pos h]
    by_cases hp : keyB key = true
    · rw [if_pos hp]
      by_cases hn : sigN sig < l25
      · rw [if_pos hn]
        exact verify_sig A key m sig h.1 h.2 hm hp hn W hT
      · rw [if_neg hn]
        exact verify_scalar key m sig h.1 h.2 hp hn W hT
    · rw [if_neg hp]
      exact verify_point key m sig h.1 h.2 (by simpa using hp) W hT
  · rw [if_neg h]
    exact verify_arg key m sig h W
end Go.Proofs.YtmekmlgpkbfjpaaGreatDoor.E

/- Roles, keys and signatures as lists of texts; keys that are told by their sums. Nothing of the program is named here. -/
namespace Go.Proofs.YtmekmlgpkbfjpaaGreatDoor.O
open Go
open Go.Proofs.YtmekmlgpkbfjpaaGreatDoor.V (lessL lessL_same less_three less_trans)
open Go.Proofs.YtmekmlgpkbfjpaaGreatDoor.E (verifyE)

abbrev B2 := ByteArray × ByteArray
/-- the seed of a number -/
def sdL (i : Nat) : List UInt8 := i.toUInt8 :: [48, 49, 50, 51, 52, 53, 54, 55, 56, 57, 97, 98, 99, 100, 101, 102, 48, 49, 50, 51, 52, 53, 54, 55, 56, 57, 97, 98, 99, 100, 101]
def sdB (i : Nat) : ByteArray := ⟨(sdL i).toArray⟩
/-- a key's sum, as digits -/
def idT (p : ByteArray) : ByteArray := ⟨(hexL (U.sumT p.data.toList)).toArray⟩
theorem idT_size (p : ByteArray) : (idT p).size = 64 := by
  show (hexL (U.sumT p.data.toList)).toArray.size = 64
  rw [List.size_toArray, hexL_length, U.sumT_length]
def lessB (a b : ByteArray) : Bool := lessL a.data.toList b.data.toList
abbrev noB : ByteArray := ⟨#[]⟩
theorem less_no {b : ByteArray} (h : b.size ≠ 0) : lessB noB b = true := by
  unfold lessB
  cases hb : b.data.toList with
  | nil => exact absurd (by rw [show b.size = b.data.toList.length from Array.length_toList.symm, hb]; rfl) h
  | cons c r => rw [show (noB).data.toList = [] from rfl, lessL]
/-- what stands ahead of place i -/
def prevB (l : List ByteArray) (i : Nat) : ByteArray := if i = 0 then noB else l.getD (i - 1) noB
theorem prev_zero (l : List ByteArray) : prevB l 0 = noB := rfl
theorem prev_succ {l : List ByteArray} {i : Nat} {x : ByteArray} (h : l[i]? = some x) : prevB l (i + 1) = x := by
  unfold prevB
  rw [if_neg (by omega), Nat.add_sub_cancel, List.getD_eq_getElem?_getD, h]
  rfl
/-- each place is as f says -/
def allTo (f : Nat → Bool) (n : Nat) : Bool := (List.range n).all f
theorem allTo_zero (f : Nat → Bool) : allTo f 0 = true := rfl
theorem allTo_succ (f : Nat → Bool) (n : Nat) : allTo f (n + 1) = (allTo f n && f n) := by
  unfold allTo
  rw [List.range_succ, List.all_append]
  simp
theorem allTo_iff {f : Nat → Bool} {n : Nat} : allTo f n = true ↔ ∀ i, i < n → f i = true := by
  unfold allTo
  rw [List.all_eq_true]
  exact ⟨fun h i hi => h i (List.mem_range.2 hi), fun h i hi => h i (List.mem_range.1 hi)⟩
theorem allTo_bad {f : Nat → Bool} {n i : Nat} (hi : i < n) (h : f i = false) : allTo f n = false := by
  cases hc : allTo f n with
  | false => rfl
  | true => rw [allTo_iff.1 hc i hi] at h; cases h
/-! ### which may be -/
def isSumB (s : ByteArray) : Bool := decide (s.size = 64) && unhexB s.data.toList
def stepR (ids : List ByteArray) (i : Nat) : Bool := isSumB (ids.getD i noB) && lessB (prevB ids i) (ids.getD i noB)
def rightR (ids : List ByteArray) (need : Int) : Bool := decide (ids.length ≤ 16) && decide (1 ≤ need ∧ need ≤ (ids.length : Int)) && allTo (stepR ids) ids.length
def keyOkB (k : B2) : Bool := decide (k.2.size = 32) && decide (k.1 = idT k.2)
def noK : B2 := (noB, noB)
def stepK (ks : List B2) (i : Nat) : Bool := keyOkB (ks.getD i noK) && lessB (prevB (ks.map (·.1)) i) (ks.getD i noK).1
def keysR (ks : List B2) : Bool := decide (ks.length ≤ 16) && allTo (stepK ks) ks.length
/-! ### who signed -/
def sigIn (pub id text : ByteArray) (sigs : List B2) : Bool :=
  match sigs.find? (fun s => decide (s.1 = id)) with
  | some s => decide (verifyE pub text s.2 = 0)
  | none => false
def signedB (keys : List B2) (text : ByteArray) (sigs : List B2) (id : ByteArray) : Bool :=
  match keys.find? (fun k => decide (k.1 = id)) with
  | some k => sigIn k.2 id text sigs
  | none => false
def countR (ids : List ByteArray) (keys : List B2) (text : ByteArray) (sigs : List B2) : List ByteArray := ids.filter (signedB keys text sigs)
def mayR (ids : List ByteArray) (need : Int) (keys sigs : List B2) : Bool := rightR ids need && keysR keys && decide (sigs.length ≤ 16)
def checkR (ids : List ByteArray) (need : Int) (keys : List B2) (text : ByteArray) (sigs : List B2) : Int :=
  if mayR ids need keys sigs = true then (if ((countR ids keys text sigs).length : Int) < need then 31 else 0) else 1
theorem signed_none {keys sigs : List B2} {text id : ByteArray} (h : keys.find? (fun k => decide (k.1 = id)) = none) : signedB keys text sigs id = false := by
  unfold signedB
  rw [h]
theorem signed_some {keys sigs : List B2} {text id : ByteArray} {k : B2} (h : keys.find? (fun k => decide (k.1 = id)) = some k) : signedB keys text sigs id = sigIn k.2 id text sigs := by
  unfold signedB
  rw [h]
theorem sigIn_none {sigs : List B2} {pub text id : ByteArray} (h : sigs.find? (fun k => decide (k.1 = id)) = none) : sigIn pub id text sigs = false := by
  unfold sigIn
  rw [h]
theorem sigIn_some {sigs : List B2} {pub text id : ByteArray} {s : B2} (h : sigs.find? (fun k => decide (k.1 = id)) = some s) : sigIn pub id text sigs = decide (verifyE pub text s.2 = 0) := by
  unfold sigIn
  rw [h]
/-! ### what rises has each once -/
theorem keys_sum {ks : List B2} (h : keysR ks = true) {i : Nat} {k : B2} (hk : ks[i]? = some k) : k.2.size = 32 ∧ k.1 = idT k.2 := by
  unfold keysR at h
  rw [Bool.and_eq_true] at h
  have h1 := allTo_iff.1 h.2 i (List.getElem?_eq_some_iff.1 hk).1
  unfold stepK keyOkB at h1
  rw [List.getD_eq_getElem?_getD, hk] at h1
  simp only [Option.getD_some, Bool.and_eq_true, decide_eq_true_eq] at h1
  exact h1.1
theorem rise_lt {l : List ByteArray} (h : ∀ i, i < l.length → lessB (prevB l i) (l.getD i noB) = true) : ∀ (j i : Nat) (x y : ByteArray), i < j → l[i]? = some x → l[j]? = some y → lessB x y = true := by
  intro j
  induction j with
  | zero => intro i x y h; omega
  | succ j ih =>
    intro i x y hij hx hy
    have hlt := (List.getElem?_eq_some_iff.1 hy).1
    obtain ⟨q, hq⟩ : ∃ q, l[j]? = some q := ⟨_, List.getElem?_eq_getElem (by omega)⟩
    have h1 := h (j + 1) hlt
    rw [prev_succ hq, List.getD_eq_getElem?_getD, hy, Option.getD_some] at h1
    by_cases e : i = j
    · subst e
      rw [hx] at hq
      rw [Option.some.inj hq]
      exact h1
    · exact less_trans _ _ _ (ih i x q (by omega) hx hq) h1
theorem keys_rise {ks : List B2} (h : keysR ks = true) : ∀ (j i : Nat) (x y : B2), i < j → ks[i]? = some x → ks[j]? = some y → lessB x.1 y.1 = true := by
  intro j i x y hij hx hy
  unfold keysR at h
  rw [Bool.and_eq_true] at h
  refine rise_lt (l := ks.map (·.1)) (fun i hi => ?_) j i x.1 y.1 hij (by rw [List.getElem?_map, hx]; rfl) (by rw [List.getElem?_map, hy]; rfl)
  rw [List.length_map] at hi
  have h1 := allTo_iff.1 h.2 i hi
  unfold stepK at h1
  rw [Bool.and_eq_true] at h1
  obtain ⟨k, hk⟩ : ∃ k, ks[i]? = some k := ⟨_, List.getElem?_eq_getElem hi⟩
  have h2 := h1.2
  rw [List.getD_eq_getElem?_getD, hk, Option.getD_some] at h2
  rw [List.getD_eq_getElem?_getD, List.getElem?_map, hk, Option.map_some, Option.getD_some]
  exact h2
theorem less_irr (x : ByteArray) : lessB x x = false := lessL_same _
/-- of rising keys the one with a sum is the first with it -/
theorem keys_find {ks : List B2} (h : keysR ks = true) {i : Nat} {k : B2} (hk : ks[i]? = some k) : ks.find? (fun q => decide (q.1 = k.1)) = some k := by
  rw [List.find?_eq_some_iff_getElem]
  obtain ⟨hlt, he⟩ := List.getElem?_eq_some_iff.1 hk
  refine ⟨decide_eq_true rfl, i, hlt, he, fun j hj => ?_⟩
  have h1 := keys_rise h i j ks[j] k hj (List.getElem?_eq_getElem (by omega)) hk
  rw [Bool.not_eq_true']
  refine decide_eq_false fun e => ?_
  rw [e, less_irr] at h1
  cases h1
theorem keys_once {ks : List B2} (h : keysR ks = true) {i j : Nat} {k q : B2} (hk : ks[i]? = some k) (hq : ks[j]? = some q) (he : k.1 = q.1) : i = j := by
  rcases Nat.lt_trichotomy i j with hij | hij | hij
  · have := keys_rise h j i k q hij hk hq
    rw [he, less_irr] at this
    cases this
  · exact hij
  · have := keys_rise h i j q k hij hq hk
    rw [he, less_irr] at this
    cases this
end Go.Proofs.YtmekmlgpkbfjpaaGreatDoor.O

/- The contracts of the program's small calls on words: a word turned left by a contrary number, the two xors, the word of four bytes. -/
namespace Go.Proofs.YtmekmlgpkbfjpaaGreatDoor.U
open Go.RowKit
set_option maxRecDepth 100000

theorem low_five (n m : Nat) (h : n + m = 32) (h1 : 0 < n) (h2 : 0 < m) : bits BinOp.and IntKind.u64 (IntKind.u64.wrap (-(n : Int))) 31 = (m : Int) := by
  have e : IntKind.u64.wrap (-(n : Int)) = ((18446744073709551616 - n : Nat) : Int) := by rw [IntKind.wrap_u64]; omega
  have hh : (18446744073709551616 - n) &&& 31 = m := by
    have h3 : (18446744073709551616 - n) &&& (2 ^ 5 - 1) = (18446744073709551616 - n) % 2 ^ 5 := Nat.and_two_pow_sub_one_eq_mod _ 5
    rw [show (31 : Nat) = 2 ^ 5 - 1 by decide, h3]
    omega
  rw [e, show (31 : Int) = ((31 : Nat) : Int) by rfl, u64_and_nat _ _ (by omega) (by omega), hh]

theorem rot_eq (x n m : Nat) (h : n + m = 32) (hx : x < 4294967296) : bits BinOp.or IntKind.u32 ((x : Int) * 2 ^ m % 4294967296) ((x : Int) / 2 ^ n) = ((rotr x n : Nat) : Int) := by
  have e1 : (x : Int) * 2 ^ m % 4294967296 = ((x * 2 ^ m % 4294967296 : Nat) : Int) := by rw [Int.natCast_emod, Int.natCast_mul, Int.natCast_pow]; rfl
  have e2 : (x : Int) / 2 ^ n = ((x / 2 ^ n : Nat) : Int) := by rw [Int.natCast_ediv, Int.natCast_pow]; rfl
  rw [e1, e2, u32_or_nat _ _ (Nat.mod_lt _ (by decide)) (Nat.lt_of_le_of_lt (Nat.div_le_self _ _) hx), show m = 32 - n by omega, rotr_or x n (by omega) hx]

set_option maxHeartbeats 400000 in
theorem rot_any (x n : Nat) (w : World) (hx : x < 4294967296) (h1 : 0 < n) (h2 : n < 32) :
    Calls Tryz.prog 147 #[.int .u32 x, .int .i64 (-(n : Int))] w fun e w' => e = .returned (.int .u32 (rotr x n)) ∧ w = w' := by
  obtain ⟨m, hm⟩ : ∃ m, n + m = 32 := ⟨32 - n, by omega⟩
  have hm1 : 0 < m := by omega
  have hm2 : m < 32 := by omega
  have hs := low_five n m hm h1 hm1
  have hq := Lib.hid (rot_eq x n m hm hx)
  have hn : (32 - (m : Int)).toNat = n := by omega
  clear hm
  go_enter Tryz.func147, Tryz.ntmps147
  go_wp2
  go_ret
  exact ⟨ret1_of (val_int hq.out), rfl⟩

theorem xor_words {x y z : Nat} (hx : x < 4294967296) (hy : y < 4294967296) (hz : z < 4294967296) : bits BinOp.xor IntKind.u32 (bits BinOp.xor IntKind.u32 (x : Int) (y : Int)) (z : Int) = ((x ^^^ y ^^^ z : Nat) : Int) := by
  rw [u32_xor_nat _ _ hx hy, u32_xor_nat _ _ (xor_lt _ _ hx hy) hz]

set_option maxHeartbeats 400000 in
theorem turned_any (x a b c : Nat) (w : World) (hx : x < 4294967296) (ha : 0 < a) (ha' : a < 32) (hb : 0 < b) (hb' : b < 32) (hc : 0 < c) (hc' : c < 32) :
    Calls Tryz.prog 109 #[.int .u32 x, .int .i64 (a : Int), .int .i64 (b : Int), .int .i64 (c : Int)] w fun e w' => e = .returned (.int .u32 ((rotr x a ^^^ rotr x b ^^^ rotr x c : Nat) : Int)) ∧ w = w' := by
  have H1 := Lib.hid (rot_any x a w hx ha ha')
  have H2 := Lib.hid (rot_any x b w hx hb hb')
  have H3 := Lib.hid (rot_any x c w hx hc hc')
  have hq := Lib.hid (xor_words (rotr_lt x a hx (by omega)) (rotr_lt x b hx (by omega)) (rotr_lt x c hx (by omega)))
  go_enter Tryz.func109, Tryz.ntmps109
  go_wp2_with (go_at_call 147; first | ((with_reducible refine H1.out.mono ?_); rintro e w1 ⟨rfl, rfl⟩) | ((with_reducible refine H2.out.mono ?_); rintro e w1 ⟨rfl, rfl⟩) | ((with_reducible refine H3.out.mono ?_); rintro e w1 ⟨rfl, rfl⟩))
  go_ret
  exact ⟨ret1_of (val_int hq.out), rfl⟩

set_option maxHeartbeats 400000 in
theorem moved_any (x a b c : Nat) (w : World) (hx : x < 4294967296) (ha : 0 < a) (ha' : a < 32) (hb : 0 < b) (hb' : b < 32) (hc' : c < 32) :
    Calls Tryz.prog 146 #[.int .u32 x, .int .i64 (a : Int), .int .i64 (b : Int), .int .u64 (c : Int)] w fun e w' => e = .returned (.int .u32 ((rotr x a ^^^ rotr x b ^^^ x / 2 ^ c : Nat) : Int)) ∧ w = w' := by
  have H1 := Lib.hid (rot_any x a w hx ha ha')
  have H2 := Lib.hid (rot_any x b w hx hb hb')
  have hq := Lib.hid (xor_words (rotr_lt x a hx (by omega)) (rotr_lt x b hx (by omega)) (Nat.lt_of_le_of_lt (Nat.div_le_self x (2 ^ c)) hx))
  have hd : ((x / 2 ^ c : Nat) : Int) = (x : Int) / 2 ^ c := by rw [Int.natCast_ediv, Int.natCast_pow]; rfl
  have HD := Lib.hid hd
  clear hd
  go_enter Tryz.func146, Tryz.ntmps146
  go_wp2_with (go_at_call 147; first | ((with_reducible refine H1.out.mono ?_); rintro e w1 ⟨rfl, rfl⟩) | ((with_reducible refine H2.out.mono ?_); rintro e w1 ⟨rfl, rfl⟩))
  go_ret
  exact ⟨ret1_of (val_int (by rw [← hq.out, HD.out])), rfl⟩

theorem turned_e (x : Nat) (w : World) (hx : x < 4294967296) : Calls Tryz.prog 109 #[.int .u32 x, .int .i64 6, .int .i64 11, .int .i64 25] w fun e w' => e = .returned (.int .u32 (bsig1 x : Nat)) ∧ w' = w :=
  (turned_any x 6 11 25 w hx (by decide) (by decide) (by decide) (by decide) (by decide) (by decide)).mono fun _ _ ⟨he, hw⟩ => ⟨he, hw.symm⟩
theorem turned_a (x : Nat) (w : World) (hx : x < 4294967296) : Calls Tryz.prog 109 #[.int .u32 x, .int .i64 2, .int .i64 13, .int .i64 22] w fun e w' => e = .returned (.int .u32 (bsig0 x : Nat)) ∧ w' = w :=
  (turned_any x 2 13 22 w hx (by decide) (by decide) (by decide) (by decide) (by decide) (by decide)).mono fun _ _ ⟨he, hw⟩ => ⟨he, hw.symm⟩
theorem moved_one (x : Nat) (w : World) (hx : x < 4294967296) : Calls Tryz.prog 146 #[.int .u32 x, .int .i64 17, .int .i64 19, .int .u64 10] w fun e w' => e = .returned (.int .u32 (ssig1 x : Nat)) ∧ w' = w :=
  (moved_any x 17 19 10 w hx (by decide) (by decide) (by decide) (by decide) (by decide)).mono fun _ _ ⟨he, hw⟩ => ⟨he, hw.symm⟩
theorem moved_zero (x : Nat) (w : World) (hx : x < 4294967296) : Calls Tryz.prog 146 #[.int .u32 x, .int .i64 7, .int .i64 18, .int .u64 3] w fun e w' => e = .returned (.int .u32 (ssig0 x : Nat)) ∧ w' = w :=
  (moved_any x 7 18 3 w hx (by decide) (by decide) (by decide) (by decide) (by decide)).mono fun _ _ ⟨he, hw⟩ => ⟨he, hw.symm⟩

theorem or_low (x y k : Nat) (h : y < 2 ^ k) : (x * 2 ^ k) ||| y = x * 2 ^ k + y := by
  rw [← Nat.shiftLeft_eq, ← Nat.shiftLeft_add_eq_or_of_lt h]
theorem word_eq (a b c d : UInt8) : bits BinOp.or IntKind.u32 (bits BinOp.or IntKind.u32 (bits BinOp.or IntKind.u32 (IntKind.u32.wrap (IntKind.u32.wrap (a.toNat : Int) * 16777216)) (IntKind.u32.wrap (IntKind.u32.wrap (b.toNat : Int) * 65536))) (IntKind.u32.wrap (IntKind.u32.wrap (c.toNat : Int) * 256))) (IntKind.u32.wrap (d.toNat : Int)) = ((numL [a, b, c, d] : Nat) : Int) := by
  have ha := u8_lt a
  have hb := u8_lt b
  have hc := u8_lt c
  have hd := u8_lt d
  have e1 : IntKind.u32.wrap (IntKind.u32.wrap (a.toNat : Int) * 16777216) = ((a.toNat * 2 ^ 24 : Nat) : Int) := by rw [IntKind.wrap_u32, IntKind.wrap_u32]; omega
  have e2 : IntKind.u32.wrap (IntKind.u32.wrap (b.toNat : Int) * 65536) = ((b.toNat * 65536 : Nat) : Int) := by rw [IntKind.wrap_u32, IntKind.wrap_u32]; omega
  have e3 : IntKind.u32.wrap (IntKind.u32.wrap (c.toNat : Int) * 256) = ((c.toNat * 256 : Nat) : Int) := by rw [IntKind.wrap_u32, IntKind.wrap_u32]; omega
  have e4 : IntKind.u32.wrap (d.toNat : Int) = ((d.toNat : Nat) : Int) := by rw [IntKind.wrap_u32]; omega
  have f1 : (a.toNat * 2 ^ 24) ||| (b.toNat * 65536) = (a.toNat * 256 + b.toNat) * 2 ^ 16 := by rw [or_low _ _ 24 (by omega)]; omega
  have f2 : ((a.toNat * 256 + b.toNat) * 2 ^ 16) ||| (c.toNat * 256) = (a.toNat * 65536 + b.toNat * 256 + c.toNat) * 2 ^ 8 := by rw [or_low _ _ 16 (by omega)]; omega
  have f3 : ((a.toNat * 65536 + b.toNat * 256 + c.toNat) * 2 ^ 8) ||| d.toNat = numL [a, b, c, d] := by
    rw [or_low _ _ 8 (by omega)]
    simp only [numL, List.foldl]
    omega
  rw [e1, e2, e3, e4, u32_or_nat _ _ (by omega) (by omega), f1, u32_or_nat _ _ (by omega) (by omega), f2, u32_or_nat _ _ (by omega) (by omega), f3]
theorem four_bytes (s : ByteArray) (h : s.size = 4) : s.data.toList = [s[0], s[1], s[2], s[3]] := by
  have hl : s.data.toList.length = 4 := by rw [← Lib.size_eq]; exact h
  apply List.ext_getElem (by simpa using hl)
  intro i h1 h2
  match i, h2 with
  | 0, _ => rfl
  | 1, _ => rfl
  | 2, _ => rfl
  | 3, _ => rfl

set_option maxHeartbeats 400000 in
theorem word_any (s : ByteArray) (w : World) (hs : s.size = 4) :
    Calls Tryz.prog 145 #[.string s] w fun e w' => e = .returned (.int .u32 (numL s.data.toList)) ∧ ∃ n, w' = w.drewN n := by
  have h0 : 0 < s.size := by omega
  have h1 : (1 : Int) < (s.size : Int) := by omega
  have h2 : (2 : Int) < (s.size : Int) := by omega
  have h3 : (3 : Int) < (s.size : Int) := by omega
  have n1 : 1 < s.size := by omega
  have n2 : 2 < s.size := by omega
  have n3 : 3 < s.size := by omega
  have HS := Lib.hid hs
  clear hs
  have HQ := Lib.hid ((word_eq (s[0]'h0) (s[1]'n1) (s[2]'n2) (s[3]'n3)).trans (by rw [← four_bytes s HS.out]))
  go_enter Tryz.func145, Tryz.ntmps145
  go_wp2
  go_quiet (fail)
  go_wp2
  go_ret
  exact ⟨ret1_of (val_int HQ.out), _, rfl⟩
end Go.Proofs.YtmekmlgpkbfjpaaGreatDoor.U

/- Blocks of memory that are known whole, and words as values. -/
namespace Go.Proofs.YtmekmlgpkbfjpaaGreatDoor.U
open Go.RowKit

abbrev u32 (x : Nat) : Value := Value.int .u32 (x : Int)
/-- block g is just these cells, none of them frozen -/
def Lies (w : World) (g : Nat) (t : TypeId) (cs : Array Value) : Prop := w.heap[g]? = some (.cells cs t (0, 0))

section
variable {w w' : World} {g : Nat} {t : TypeId} {cs : Array Value}
theorem Lies.lt (h : Lies w g t cs) : g < w.heap.size := by
  rcases Nat.lt_or_ge g w.heap.size with hlt | hge
  · exact hlt
  · unfold Lies at h; rw [Array.getElem?_eq_none hge] at h; cases h
theorem Lies.cell (h : Lies w g t cs) (i : Nat) : w.cell? ⟨g, i, none⟩ = cs[i]? := cell_of_row w g i cs t (0, 0) h
theorem Lies.frozen (h : Lies w g t cs) (i : Nat) : w.frozen? ⟨g, i, none⟩ = false := frozen_of_row w g i cs t h
theorem Lies.drewN (h : Lies w g t cs) (n : Nat) : Lies (w.drewN n) g t cs := h
theorem Lies.drew (h : Lies w g t cs) : Lies w.drew g t cs := h
theorem Lies.new (w : World) (t : TypeId) (cs : Array Value) : Lies (w.alloc (.cells cs t)) w.heap.size t cs := heap_alloc_new w _
theorem Lies.put (h : Lies w g t cs) (i : Nat) (v : Value) : Lies (w.setCell ⟨g, i, none⟩ v) g t (cs.setIfInBounds i v) := heap_setCell_same w g i cs t v h
theorem Lies.far (h : Lies w g t cs) {p : Addr} (hp : g ≠ p.block) (v : Value) : Lies (w.setCell p v) g t cs := (heap_setCell_other w p g v hp).trans h
theorem Lies.below {B : Nat} (h : Lies w g t cs) (hb : Below B w w') (hg : g < B) : Lies w' g t cs := (hb.block g hg).trans h
theorem Lies.on (h : Lies w g t cs) (hb : Below w.heap.size w w') : Lies w' g t cs := h.below hb h.lt
theorem Lies.row (h : Lies w g t cs) (old : Array Value) : Lies (w.setRow g old) g t old := setRow_heap w g cs old t (0, 0) h
end
theorem below_drawn {B : Nat} {a w : World} (h : Below B a w) (n : Nat) : Below B a (w.drewN n) := ⟨h.os, h.tape, h.output, h.size, h.block⟩

theorem below_rowSet {B : Nat} {a w : World} (h : Below B a w) {g : Nat} (hg : B ≤ g) (cs : Array Value) : Below B a (w.setRow g cs) :=
  h.trans ⟨rfl, rfl, rfl, by simp, fun k hk => setRow_other _ _ _ _ (by omega)⟩

/-! ### only block g, and what is new, has turned -/
abbrev Only (g : Nat) (a w : World) : Prop := a.grownBy w (some g)
section
variable {a w w' : World} {g : Nat}
theorem Only.refl (a : World) (g : Nat) : Only g a a := World.grownBy.refl a (some g)
theorem Only.trans (h : Only g a w) (k : Only g w w') : Only g a w' :=
  ⟨k.os.trans h.os, k.tape.trans h.tape, k.output.trans h.output, Nat.le_trans h.size k.size, fun i hi hne => (k.block i (Nat.lt_of_lt_of_le hi h.size) hne).trans (h.block i hi hne)⟩
theorem Only.drewN (h : Only g a w) (n : Nat) : Only g a (w.drewN n) := ⟨h.os, h.tape, h.output, h.size, h.block⟩
theorem Only.drew (h : Only g a w) : Only g a w.drew := ⟨h.os, h.tape, h.output, h.size, h.block⟩
theorem Only.put (h : Only g a w) {p : Addr} (hp : p.block = g ∨ a.heap.size ≤ p.block) (u : Value) : Only g a (w.setCell p u) :=
  ⟨h.os, h.tape, h.output, by simpa [World.setCell] using h.size, fun i hi hne => (Below.heap_setCell w p u i (by
    rintro rfl
    rcases hp with hp | hp
    · exact hne (by rw [hp])
    · omega)).trans (h.block i hi hne)⟩
theorem Only.of_below (h : Below a.heap.size a w) (g : Nat) : Only g a w := ⟨h.os, h.tape, h.output, h.size, fun i hi _ => h.block i hi⟩
theorem Only.on (h : Only g a w) (k : Below w.heap.size w w') : Only g a w' := h.trans (Only.of_below k g)
/-- .. and g itself is new -/
theorem Only.below {B : Nat} {b : World} (h : Only g a w) (hb : Below B b a) (hB : B ≤ a.heap.size) (hg : B ≤ g) : Below B b w :=
  hb.grown h hB (fun k hk => by cases hk; exact hg)
end

/-! ### the program's two tables, and a sum that works -/
/-- the two tables hold their constants -/
def Tab (w : World) : Prop := (∀ i, i < 8 → w.cell? ⟨0, i, none⟩ = some (u32 (h0.at i))) ∧ (∀ t, t < 64 → w.cell? ⟨2, t, none⟩ = some (u32 (kAt t)))
theorem Tab.two {w : World} (h : Tab w) : (0 < w.heap.size ∧ 2 < w.heap.size) := by
  have h1 := block_lt_of_cell (h.1 0 (by decide))
  have h2 := block_lt_of_cell (h.2 0 (by decide))
  simp only at h1 h2
  omega
theorem Tab.below {w w' : World} (h : Tab w) (hb : Below w.heap.size w w') : Tab w' := by
  have h2 := h.two
  exact ⟨fun i hi => (hb.cell (p := ⟨_, i, none⟩) (by simp only; omega)).trans (h.1 i hi), fun t ht => (hb.cell (p := ⟨_, t, none⟩) (by simp only; omega)).trans (h.2 t ht)⟩
theorem Tab.only {w w' : World} {g : Nat} (h : Tab w) (hb : Only g w w') (hg : 0 < g ∧ 2 < g) : Tab w' := by
  have h2 := h.two
  exact ⟨fun i hi => (World.cell?_of_block (hb.block 0 (by omega) (by intro e; injection e; omega))).trans (h.1 i hi),
    fun t ht => (World.cell?_of_block (hb.block 2 (by omega) (by intro e; injection e; omega))).trans (h.2 t ht)⟩

/-- the cells of a sum that goes on -/
def sumA (s : H8) (buf : ByteArray) (n : Nat) : Array Value := #[u32 s.a, u32 s.b, u32 s.c, u32 s.d, u32 s.e, u32 s.f, u32 s.g, u32 s.h, .string buf, .int .u64 (n : Int)]

/-- a type of rows or structs, of so many cells -/
def RowT (P : Program) (ty : TypeId) (n : Nat) : Prop := (∃ d, P.underlying ty = some d ∧ d.isRow = true) ∧ (P.info? ty).map (·.size) = some n
/-- cells of one value each -/
def Ones (cs : Array Value) : Prop := cs.all (·.oneCell') = true
theorem ones_of {cs : List Value} (h : ∀ v ∈ cs, v.oneCell' = true) : Ones cs.toArray := all_oneCell_toArray h

section
variable {P : Program} {ops : Array Oper} {rest : List Oper} {a : Act} {w : World} {Q : Exit → Act → World → Prop} {t' : TypeId} {pos : String} {after : Array Edge}
/-- a variable that is a whole block is read -/
theorem wpL_load {d : Option Tmp} {x : Tmp} {ty : TypeId} (g : Nat) (t : TypeId) (cs : Array Value) (n : Nat) (hT : RowT P ty n) (hn : cs.size = n) (hg : Lies w g t cs)
    (hx : a.eval (.tmp x) = .pointer (some ⟨g, 0, none⟩)) (h : wpList P ops Q rest (a.put d (.agg cs)) w) : wpList P ops Q (⟨d, .load ty (.tmp x), t', pos, after, none⟩ :: rest) a w := by
  obtain ⟨⟨ds, hu, hd⟩, hi⟩ := hT
  exact wpList_load_row (o := ⟨d, .load ty (.tmp x), t', pos, after, none⟩) rfl ty (.tmp x) rfl g hx t cs (0, 0) ds hg hu (by cases ds <;> first | rfl | simp [TypeDesc.isRow] at hd) (by rw [hi, hn]) h
/-- .. and written -/
theorem wpL_store {x y : Tmp} {ty : TypeId} (g : Nat) (t : TypeId) (old cs : Array Value) (n : Nat) (hT : RowT P ty n) (ho : old.size = n) (hn : cs.size = n) (h1 : Ones cs) (hg : Lies w g t old)
    (hx : a.eval (.tmp x) = .pointer (some ⟨g, 0, none⟩)) (hy : a.eval (.tmp y) = .agg cs) (h : wpList P ops Q rest (a.put none undef) (w.setRow g cs)) : wpList P ops Q (⟨none, .store ty (.tmp x) (.tmp y), t', pos, after, none⟩ :: rest) a w :=
  wpList_store_row (o := ⟨none, .store ty (.tmp x) (.tmp y), t', pos, after, none⟩) rfl ty (.tmp x) (.tmp y) rfl g cs hx hy t old hg (by rw [hT.2, hn]) (by rw [ho, hn]) h1 h
/-- some cells in the middle of a block are read -/
theorem wpL_loadMid {d : Option Tmp} {x : Tmp} {ty : TypeId} (g o : Nat) (cs : List Value) (n : Nat) (hT : RowT P ty n) (hn : cs.length = n) (hg : w.rangeAt g o cs)
    (hx : a.eval (.tmp x) = .pointer (some ⟨g, o, none⟩)) (h : wpList P ops Q rest (a.put d (.agg cs.toArray)) w) : wpList P ops Q (⟨d, .load ty (.tmp x), t', pos, after, none⟩ :: rest) a w := by
  obtain ⟨⟨ds, hu, hd⟩, hi⟩ := hT
  exact wpList_load_mid (op := ⟨d, .load ty (.tmp x), t', pos, after, none⟩) rfl ty (.tmp x) rfl g o hx cs ds hg hu hd (by rw [hi, hn]) h
end
/-- what a function hands back that lies in a variable -/
theorem results_row {P : Program} {fn : Func} {p : Tmp} {ty : TypeId} {n : Nat} {w : World} {g : Nat} {t : TypeId} {cs : Array Value} {tmps : Array Value} (h : fn.results = #[.cell p ty]) (hT : RowT P ty n) (hn : cs.size = n) (hg : Lies w g t cs) (hp : tmps.getD p undef = .pointer (some ⟨g, 0, none⟩)) :
    (results fn tmps).run P w = .ok (.agg cs) w := by
  obtain ⟨⟨ds, hu, hd⟩, hi⟩ := hT
  exact results_cell_row h tmps w g t cs (0, 0) ds hp hg hu (by cases ds <;> first | rfl | simp [TypeDesc.isRow] at hd) (by rw [hi, hn])

/-- the eight words alone -/
def wordsL (s : H8) : List Value := [u32 s.a, u32 s.b, u32 s.c, u32 s.d, u32 s.e, u32 s.f, u32 s.g, u32 s.h]
theorem Lies.words {w : World} {g : Nat} {t : TypeId} {s : H8} {buf : ByteArray} {n : Nat} (h : Lies w g t (sumA s buf n)) : w.rangeAt g 0 (wordsL s) := fun j v hv => by
  rw [Nat.zero_add, h.cell j]
  match j, hv with
  | 0, hv | 1, hv | 2, hv | 3, hv | 4, hv | 5, hv | 6, hv | 7, hv => exact hv
theorem row29 : RowT Tryz.prog 91 10 := ⟨⟨_, Tryz.underlying91, rfl⟩, by kernel_rfl⟩
theorem row26 : RowT Tryz.prog 89 8 := ⟨⟨_, Tryz.underlying89, rfl⟩, by kernel_rfl⟩
theorem row64 : RowT Tryz.prog 156 64 := ⟨⟨_, Tryz.underlying156, rfl⟩, by kernel_rfl⟩

end Go.Proofs.YtmekmlgpkbfjpaaGreatDoor.U

/- The contract of the program's spread: a block as a word for each round. -/
namespace Go.Proofs.YtmekmlgpkbfjpaaGreatDoor.U
open Go.RowKit
set_option maxRecDepth 100000

/-- what lies in the row of words when t of them are there -/
def allA (b : List UInt8) (t : Nat) : Array Value := ((sched b t).map u32 ++ List.replicate (64 - t) (u32 0)).toArray
theorem allA_at (b : List UInt8) (t i : Nat) (h : i < t) : (allA b t)[i]? = some (u32 ((sched b t).getD i 0)) := by
  have hl := sched_length b t
  unfold allA
  rw [List.getElem?_toArray, List.getElem?_append_left (by simp; omega), List.getElem?_map, List.getD_eq_getElem?_getD, List.getElem?_eq_getElem (by omega)]
  rfl
theorem allA_next (b : List UInt8) (t : Nat) (h : t < 64) : (allA b t)[t]? = some (u32 0) := by
  have hl := sched_length b t
  unfold allA
  rw [List.getElem?_toArray, List.getElem?_append_right (by simp [hl]), List.getElem?_replicate, if_pos (by simp [hl]; omega)]
theorem allA_set (b : List UInt8) (t : Nat) (h : t < 64) (x : Nat) (hx : sched b (t + 1) = sched b t ++ [x]) : (allA b t).setIfInBounds t (u32 x) = allA b (t + 1) := by
  have hl := sched_length b t
  unfold allA
  rw [List.setIfInBounds_toArray]
  congr 1
  rw [List.set_append_right _ _ (by simp [hl]), hx, List.map_append, List.length_map, hl, Nat.sub_self, show 64 - t = (64 - (t + 1)) + 1 by omega, List.replicate_succ, List.set_cons_zero, List.append_assoc]
  rfl
theorem sched_head (b : List UInt8) (t : Nat) (h : t < 16) : sched b (t + 1) = sched b t ++ [numL ((b.drop (4 * t)).take 4)] := by rw [sched, if_pos h]
theorem sched_rest (b : List UInt8) (t : Nat) (h : ¬ t < 16) : sched b (t + 1) = sched b t ++ [(ssig1 ((sched b t).getD (t - 2) 0) + (sched b t).getD (t - 7) 0 + ssig0 ((sched b t).getD (t - 15) 0) + (sched b t).getD (t - 16) 0) % 4294967296] := by rw [sched, if_neg h]

theorem extract_list (s : ByteArray) (a b : Nat) : (s.extract a b).data.toList = (s.data.toList.drop a).take (b - a) := by
  rw [ByteArray.data_extract, Array.toList_extract, List.extract_eq_take_drop]
theorem extract_size (s : ByteArray) (a b : Nat) (h : b ≤ s.size) : (s.extract a b).size = b - a := by
  rw [ByteArray.size_extract]; omega

theorem allA_size (b : List UInt8) (t : Nat) (h : t ≤ 64) : (allA b t).size = 64 := by
  have hl := sched_length b t
  simp [allA, hl]
  omega
theorem allA_one (b : List UInt8) (t : Nat) : Ones (allA b t) := by
  refine ones_of fun v hv => ?_
  rw [List.mem_append, List.mem_map, List.mem_replicate] at hv
  rcases hv with ⟨x, _, rfl⟩ | ⟨_, rfl⟩ <;> rfl
theorem sum_words (a b c d : Nat) :
    ((ssig1 a : Nat) + (b : Int) + (ssig0 c : Nat) + (d : Int)) % 4294967296 = (((ssig1 a + b + ssig0 c + d) % 4294967296 : Nat) : Int) := by
  generalize ssig1 a = p
  generalize ssig0 c = q
  omega

set_option maxRecDepth 100000 in
set_option maxHeartbeats 1600000 in
theorem spread_any (s : ByteArray) (w : World) (hs : s.size = 64) :
    Calls Tryz.prog 108 #[.string s] w fun e w' => e = .returned (.agg (allA s.data.toList 64)) ∧ Below w.heap.size w w' := by
  have HS := Lib.hid hs
  have hs1 : 64 ≤ s.size := by omega
  have hs2 : s.size ≤ 64 := by omega
  clear hs
  go_enter Tryz.func108, Tryz.ntmps108
  go_wp2
  go_loopw [6] (fun i wr => ∃ t : Nat, t ≤ 16 ∧ i = .int .i64 t ∧ Lies wr (w.heap.size + 1) 156 (allA s.data.toList t) ∧ Lies wr w.heap.size 156 (allA s.data.toList 0) ∧ Below w.heap.size w wr) (fun i _ => 16 - (intOf i).toNat)
  case atStart => exact ⟨0, Nat.zero_le _, rfl, heap_alloc2_new w _ _, heap_alloc2_old w _ _, ((Below.refl _ w).alloc (Nat.le_refl _) _).alloc (by simp) _⟩
  case round =>
    obtain ⟨t, ht, rfl, hl, hr, hb⟩ := hrel
    by_cases hlt : t < 16
    · have hc := (hl.cell t).trans (allA_next s.data.toList t (by omega))
      have hf := hl.frozen t
      have HN := Lib.hid (allA_set s.data.toList t (by omega) _ (sched_head s.data.toList t hlt))
      have HW := Lib.hid (show 4 * (t + 1) - 4 * t = 4 by omega)
      have HZ := Lib.hid (show (s.extract (4 * t) (4 * (t + 1))).size = 4 by rw [extract_size _ _ _ (by omega)]; omega)
      go_wp2_with (go_at_call 145; refine (word_any _ _ HZ.out).mono ?_; rintro e w1 ⟨rfl, n1, rfl⟩)
      go_roundw
      case rel => exact ⟨t + 1, by omega, by go_num, by rw [HW.out, ← HN.out]; exact (hl.drewN n1).put t _, (hr.drewN n1).far (by simp) _, (below_drawn hb n1).setCell (by simp) _⟩
      case measure => simp [intOf]; omega
    · obtain rfl : t = 16 := by omega
      rw [show ((16 : Nat) : Int) = 16 from rfl]
      go_wp2_with fail
      go_loopw [5] (fun i wr => ∃ t : Nat, 16 ≤ t ∧ t ≤ 64 ∧ i = .int .i64 t ∧ Lies wr (w.heap.size + 1) 156 (allA s.data.toList t) ∧ Lies wr w.heap.size 156 (allA s.data.toList 0) ∧ Below w.heap.size w wr) (fun i _ => 64 - (intOf i).toNat)
      case atStart => exact ⟨16, by omega, by omega, rfl, hl, hr, hb⟩
      case round =>
        rename_i wo
        clear hl hr hb
        obtain ⟨t, ht1, ht2, rfl, hl, hr, hb⟩ := hrel
        by_cases hlt : t < 64
        · have hc := (hl.cell t).trans (allA_next s.data.toList t (by omega))
          have hf := hl.frozen t
          have k2 := (hl.cell (t - 2)).trans (allA_at s.data.toList t (t - 2) (by omega))
          have k7 := (hl.cell (t - 7)).trans (allA_at s.data.toList t (t - 7) (by omega))
          have k15 := (hl.cell (t - 15)).trans (allA_at s.data.toList t (t - 15) (by omega))
          have k16 := (hl.cell (t - 16)).trans (allA_at s.data.toList t (t - 16) (by omega))
          have HN := Lib.hid (allA_set s.data.toList t (by omega) _ (sched_rest s.data.toList t (by omega)))
          have l2 := sched_at_lt s.data.toList t (t - 2)
          have l7 := sched_at_lt s.data.toList t (t - 7)
          have l15 := sched_at_lt s.data.toList t (t - 15)
          have l16 := sched_at_lt s.data.toList t (t - 16)
          have e2 : IntKind.i64.wrap ((t : Int) - 2) = ((t - 2 : Nat) : Int) := by rw [IntWalk.i64_in _ (by omega)]; omega
          have e7 : IntKind.i64.wrap ((t : Int) - 7) = ((t - 7 : Nat) : Int) := by rw [IntWalk.i64_in _ (by omega)]; omega
          have e15 : IntKind.i64.wrap ((t : Int) - 15) = ((t - 15 : Nat) : Int) := by rw [IntWalk.i64_in _ (by omega)]; omega
          have e16 : IntKind.i64.wrap ((t : Int) - 16) = ((t - 16 : Nat) : Int) := by rw [IntWalk.i64_in _ (by omega)]; omega
          have b2 : ((t - 2 : Nat) : Int) < 64 := by omega
          have b7 : ((t - 7 : Nat) : Int) < 64 := by omega
          have b15 : ((t - 15 : Nat) : Int) < 64 := by omega
          have b16 : ((t - 16 : Nat) : Int) < 64 := by omega
          generalize t - 2 = u2 at e2 b2 k2 l2 HN
          generalize t - 7 = u7 at e7 b7 k7 l7 HN
          generalize t - 15 = u15 at e15 b15 k15 l15 HN
          generalize t - 16 = u16 at e16 b16 k16 l16 HN
          generalize (sched s.data.toList t).getD u2 0 = x2 at k2 l2 HN
          generalize (sched s.data.toList t).getD u7 0 = x7 at k7 l7 HN
          generalize (sched s.data.toList t).getD u15 0 = x15 at k15 l15 HN
          generalize (sched s.data.toList t).getD u16 0 = x16 at k16 l16 HN
          go_wp2_with fail
          refine wp_region_still_tail 23 (by kernel_rfl) (by kernel_rfl) ?_
          simp only [List.take_succ_cons, List.take_zero, List.drop_succ_cons, List.drop_zero]
          change wpStill _ _ wr.drew _ _ _
          repeat still_step
          still_call (moved_one _ _ l2)
          repeat still_step
          still_call (moved_zero _ _ l15)
          repeat still_step
          refine wpStill_nil ?_
          change wpList _ _ _ _ _ wr.drew
          go_wp2
          go_roundw
          case rel =>
            exact ⟨t + 1, by omega, by omega, by go_num, by rw [← HN.out, sum_words]; exact (hl.put t _).drew, (hr.far (by simp) _).drew, (hb.setCell (by simp) _).drew⟩
          case measure => simp [intOf]; omega
        · obtain rfl : t = 64 := by omega
          have HN := Lib.hid (allA_size s.data.toList 64 (by omega))
          have H0 := Lib.hid (allA_size s.data.toList 0 (by omega))
          have HO := Lib.hid (allA_one s.data.toList 64)
          have HL := Lib.hid hl
          have HR := Lib.hid hr
          clear hl hr
          obtain ⟨cs, hcs⟩ : ∃ cs, allA s.data.toList 64 = cs := ⟨_, rfl⟩
          rw [hcs] at HN HO HL
          have HQ := Lib.hid hcs
          clear hcs
          go_wp2_with (first | ((with_reducible refine wpL_load (w.heap.size + 1) 156 cs 64 row64 HN.out HL.out ?_ ?_); rfl) | ((with_reducible refine wpL_store w.heap.size 156 _ cs 64 row64 H0.out HN.out HO.out HR.out ?_ ?_ ?_); rfl; rfl))
          exact bodyPost_ret (results_row Tryz.results108 row64 HN.out (HR.out.row cs) rfl) rfl ⟨by rw [HQ.out], below_rowSet hb (Nat.le_refl _) _⟩
end Go.Proofs.YtmekmlgpkbfjpaaGreatDoor.U

/- The contract of the program's add: a block's words go into the sum's. -/
namespace Go.Proofs.YtmekmlgpkbfjpaaGreatDoor.U
open Go.RowKit
set_option maxRecDepth 100000

/-- the cells of a sum while its words are added up, i of them done -/
def partA (s v : H8) (buf : ByteArray) (n i : Nat) : Array Value :=
  let f := fun (j x y : Nat) => u32 (if j < i then (x + y) % 4294967296 else x)
  #[f 0 s.a v.a, f 1 s.b v.b, f 2 s.c v.c, f 3 s.d v.d, f 4 s.e v.e, f 5 s.f v.f, f 6 s.g v.g, f 7 s.h v.h, .string buf, .int .u64 (n : Int)]
theorem partA_at (s v : H8) (buf : ByteArray) (n i : Nat) (h : i < 8) : (partA s v buf n i)[i]? = some (u32 (s.at i)) := by
  match i, h with
  | 0, _ | 1, _ | 2, _ | 3, _ | 4, _ | 5, _ | 6, _ | 7, _ => rfl
theorem partA_set (s v : H8) (buf : ByteArray) (n i : Nat) (h : i < 8) : (partA s v buf n i).setIfInBounds i (u32 ((s.at i + v.at i) % 4294967296)) = partA s v buf n (i + 1) := by
  match i, h with
  | 0, _ | 1, _ | 2, _ | 3, _ | 4, _ | 5, _ | 6, _ | 7, _ => rfl
theorem index_eight (v : H8) (i : Nat) (h : i < 8) (W : World) : (Instr.index 89 (.agg #[u32 v.a, u32 v.b, u32 v.c, u32 v.d, u32 v.e, u32 v.f, u32 v.g, u32 v.h]) (.int .i64 (i : Int))).run Tryz.prog W = .ok (u32 (v.at i)) W := by
  match i, h with
  | 0, _ | 1, _ | 2, _ | 3, _ | 4, _ | 5, _ | 6, _ | 7, _ => (show _ = _; kernel_rfl)

theorem plus_cast (a b : Nat) : ((a : Int) + (b : Int)) % 4294967296 = (((a + b) % 4294967296 : Nat) : Int) := by omega
theorem ones_xor (e : Nat) (he : e < 4294967296) : 4294967295 ^^^ e = 4294967295 - e := by
  have h := BitVec.toNat_not (x := BitVec.ofNat 32 e)
  rw [BitVec.not_def, BitVec.toNat_xor, BitVec.toNat_allOnes, BitVec.toNat_ofNat, Nat.mod_eq_of_lt (show e < 2 ^ 32 from he)] at h
  exact h
theorem ch_walk (e f g : Nat) (he : e < 4294967296) (hf : f < 4294967296) (hg : g < 4294967296) :
    bits BinOp.xor IntKind.u32 (bits BinOp.and IntKind.u32 (e : Int) (f : Int)) (bits BinOp.and IntKind.u32 (bits BinOp.xor IntKind.u32 (if IntKind.u32.signed = true then -1 else IntKind.u32.max) (e : Int)) (g : Int)) = ((chs e f g : Nat) : Int) := by
  rw [show (if IntKind.u32.signed = true then (-1 : Int) else IntKind.u32.max) = ((4294967295 : Nat) : Int) from rfl, u32_xor_nat _ _ (by decide) he, ones_xor e he, u32_and_nat _ _ he hf, u32_and_nat _ _ (by omega) hg, u32_xor_nat _ _ (and_lt _ _ hf) (and_lt _ _ hg)]
  rfl
theorem maj_walk (a b c : Nat) (ha : a < 4294967296) (hb : b < 4294967296) (hc : c < 4294967296) :
    bits BinOp.xor IntKind.u32 (bits BinOp.xor IntKind.u32 (bits BinOp.and IntKind.u32 (a : Int) (b : Int)) (bits BinOp.and IntKind.u32 (a : Int) (c : Int))) (bits BinOp.and IntKind.u32 (b : Int) (c : Int)) = ((maj a b c : Nat) : Int) := by
  rw [u32_and_nat _ _ ha hb, u32_and_nat _ _ ha hc, u32_and_nat _ _ hb hc, u32_xor_nat _ _ (and_lt _ _ hb) (and_lt _ _ hc), u32_xor_nat _ _ (xor_lt _ _ (and_lt _ _ hb) (and_lt _ _ hc)) (and_lt _ _ hc)]
  rfl

set_option maxRecDepth 100000 in
set_option maxHeartbeats 1600000 in
theorem add_any (s : ByteArray) (g : Nat) (H : H8) (buf : ByteArray) (n : Nat) (w : World) (hs : s.size = 64) (hT : Tab w) (hl : Lies w g 118 (sumA H buf n)) (hok : H.Ok) :
    Calls Tryz.prog 70 #[.pointer (some ⟨g, 0, none⟩), .string s] w fun e w' => e = .returned (.tuple #[]) ∧ Lies w' g 118 (sumA (mix H s.data.toList) buf n) ∧ Only g w w' := by
  have HN := Lib.hid (allA_size s.data.toList 64 (by omega))
  have HO := Lib.hid (allA_one s.data.toList 64)
  have HS := Lib.hid (spread_any s w hs)
  clear hs
  go_enter Tryz.func70, Tryz.ntmps70
  go_wp2_with (first | (go_at_call 108; refine HS.out.mono ?_; rintro e w1 ⟨rfl, hb1⟩) | ((with_reducible refine wpL_store w1.heap.size 156 _ (allA s.data.toList 64) 64 row64 ?_ HN.out HO.out (Lies.new _ _ _) ?_ ?_ ?_); rfl; rfl; rfl))
  generalize hW : World.setRow _ _ _ = W2
  have hb2 : Below w.heap.size w W2 := by rw [← hW]; exact below_rowSet (hb1.alloc hb1.size _) hb1.size _
  have hA : Lies W2 w1.heap.size 156 (allA s.data.toList 64) := by rw [← hW]; exact (Lies.new _ _ _).row _
  have hl2 := hl.on hb2
  have hT2 := hT.below hb2
  have hO2 := Only.of_below hb2 g
  have hne : g ≠ w1.heap.size := by have := hl.lt; have := hb1.size; omega
  have HNE := Lib.hid hne
  have HB := Lib.hid (show w.heap.size ≤ w1.heap.size from hb1.size)
  clear hW hb1 hb2 hl hT hne
  have c0 := hl2.cell 0
  have c1 := hl2.cell 1
  have c2 := hl2.cell 2
  have c3 := hl2.cell 3
  have c4 := hl2.cell 4
  have c5 := hl2.cell 5
  have c6 := hl2.cell 6
  have c7 := hl2.cell 7
  simp only [sumA, List.getElem?_toArray, List.getElem?_cons_zero, List.getElem?_cons_succ] at c0 c1 c2 c3 c4 c5 c6 c7
  go_quiet (fail)
  go_wp2_with fail
  clear c0 c1 c2 c3 c4 c5 c6 c7
  go_loopw [5, 6, 7, 8, 9, 10, 11, 12, 68] (fun a b c d e f gg h i wr => ∃ (t : Nat) (v : H8), t ≤ 64 ∧ i = .int .i64 t ∧ a = u32 v.a ∧ b = u32 v.b ∧ c = u32 v.c ∧ d = u32 v.d ∧ e = u32 v.e ∧ f = u32 v.f ∧ gg = u32 v.g ∧ h = u32 v.h ∧ v.Ok ∧ Hid (v = rnds (sched s.data.toList 64) H t) ∧ Lies wr w1.heap.size 156 (allA s.data.toList 64) ∧ Lies wr g 118 (sumA H buf n) ∧ Tab wr ∧ Only g w wr) (fun _ _ _ _ _ _ _ _ i _ => 64 - (intOf i).toNat)
  case atStart => exact ⟨0, H, by omega, rfl, rfl, rfl, rfl, rfl, rfl, rfl, rfl, rfl, hok, Lib.hid rfl, hA, hl2, hT2, hO2.drewN _⟩
  case round =>
    clear hA hl2 hT2 hO2
    obtain ⟨t, v, ht, rfl, rfl, rfl, rfl, rfl, rfl, rfl, rfl, rfl, hv, HV, hA, hl, hT, hO⟩ := hrel
    by_cases hlt : t < 64
    · have kT : wr.cell? ⟨2, t, none⟩ = some (u32 (kAt t)) := hT.2 t hlt
      have wT : wr.cell? ⟨w1.heap.size, t, none⟩ = some (u32 ((sched s.data.toList 64).getD t 0)) := (hA.cell t).trans (allA_at _ _ _ hlt)
      have HR := Lib.hid (show rnds (sched s.data.toList 64) H (t + 1) = rnd v (kAt t) ((sched s.data.toList 64).getD t 0) by rw [rnds, HV.out])
      have lk := kAt_lt t hlt
      have lw := sched_at_lt s.data.toList 64 t
      have HK := Lib.hid hv
      obtain ⟨va, vb, vc, vd, ve, vf, vg, vh⟩ := hv
      generalize kAt t = k at kT HR lk
      generalize (sched s.data.toList 64).getD t 0 = x at wT HR lw
      have hi : (t : Int) < 64 := by omega
      go_wp2_with fail
      go_quiet ((go_at_call 109; exact Calls.quiet_of_same (turned_e _ _ ve)))
      go_wp2_with (go_at_call 109; refine (turned_a _ _ va).mono ?_; rintro e w3 ⟨rfl, rfl⟩)
      go_roundw
      case rel =>
        refine ⟨t + 1, rnd v k x, by omega, by go_num, ?_, rfl, rfl, rfl, ?_, rfl, rfl, rfl, rnd_ok HK.out _ _, Lib.hid HR.out.symm, hA, hl, hT, hO.drewN _⟩
        · rw [ch_walk _ _ _ ve vf vg, maj_walk _ _ _ va vb vc]
          exact val_int (by simp only [rnd, tmp1, tmp2]; omega)
        · rw [ch_walk _ _ _ ve vf vg]
          exact val_int (by simp only [rnd, tmp1]; omega)
      case measure => simp [intOf]; omega
    · obtain rfl : t = 64 := by omega
      rw [show ((64 : Nat) : Int) = 64 from rfl]
      have hix := index_eight v
      go_wp2_with fail
      go_loopw [128] (fun i wr => ∃ t : Nat, t ≤ 8 ∧ i = .int .i64 t ∧ Lies wr g 118 (partA H v buf n t) ∧ Only g w wr) (fun i _ => 8 - (intOf i).toNat)
      case atStart => exact ⟨0, by omega, rfl, hl, hO⟩
      case round =>
        clear hA hl hT hO
        obtain ⟨t, ht, rfl, hl, hO⟩ := hrel
        by_cases hlt : t < 8
        · have hx := hix t hlt
          clear hix
          have hc := (hl.cell t).trans (partA_at H v buf n t hlt)
          have hf := hl.frozen t
          have hi : (t : Int) < 8 := by omega
          have HP := Lib.hid (partA_set H v buf n t hlt)
          go_wp2_with fail
          refine wp_region_still_tail 13 (by kernel_rfl) (by kernel_rfl) ?_
          simp only [List.take_succ_cons, List.take_zero, List.drop_succ_cons, List.drop_zero]
          change wpStill _ _ wr.drew _ _ _
          repeat still_step
          refine wpStill_nil ?_
          change wpList _ _ _ _ _ wr.drew
          go_wp2
          go_roundw
          case rel =>
            exact ⟨t + 1, by omega, by go_num, by rw [← HP.out, plus_cast]; exact (hl.put t _).drew, (hO.put (Or.inl rfl) _).drew⟩
          case measure => simp [intOf]; omega
        · obtain rfl : t = 8 := by omega
          clear hix
          go_wp2
          go_end0
          exact ⟨rfl, by rw [mix, ← HV.out]; exact hl, hO⟩

end Go.Proofs.YtmekmlgpkbfjpaaGreatDoor.U

/- The contract of the library's Clone: a copy of a text. -/
namespace Go.Proofs.YtmekmlgpkbfjpaaGreatDoor.U
open Go.RowKit
set_option maxRecDepth 100000

theorem cells5 : Tryz.prog.cellsOf 5 = 1 := by kernel_rfl
set_option maxHeartbeats 400000 in
theorem cloneLite_any (s : ByteArray) (w : World) (hlim : s.size ≤ 281474976710656) :
    Calls Tryz.prog 110 #[.string s] w fun e w' => e = .returned (.string s) ∧ Below w.heap.size w w' := by
  by_cases h0 : s.size = 0
  · have hs : s = ⟨#[]⟩ := by
      apply ByteArray.ext
      exact Array.eq_empty_of_size_eq_zero h0
    subst hs
    go_enter Tryz.func110, Tryz.ntmps110
    go_wp2
    go_ret
    exact ⟨rfl, Below.refl _ _⟩
  · obtain ⟨i0, hi, hz0, hz1, hz2⟩ := info_parts info5
    have hinfo : (Tryz.prog.info? 5).map (·.size) = some 1 := by rw [hi]; simp [hz1]
    obtain ⟨M, hM⟩ : ∃ M, M = madeCells (Value.int .u8 0).cells (((s.size : Nat) : Int).toNat * i0.size) := ⟨_, rfl⟩
    have hMs : M.size = s.size := by rw [hM, size_madeCells, hz1]; simp
    have hmk : ∀ W : World, (Instr.makeSlice 71 (.int .i64 (s.size : Int)) (.int .i64 (s.size : Int))).run Tryz.prog W = .ok (.slice (some ⟨W.heap.size, 0, none⟩) s.size s.size) (W.alloc (.cells M 5)) := fun W => by
      have h := run_make (P := Tryz.prog) W 71 5 i0 (.int .u8 0) Tryz.underlying71 hi hz0 .i64 .i64 (s.size : Int) (s.size : Int) (by omega) (by omega) (by rw [hz2]; omega) (by omega)
      rw [← hM] at h
      simpa using h
    clear hM
    have hcp := Lib.run_copy_row_string (P := Tryz.prog) (w.alloc (.cells M 5)) 71 9 3 5 w.heap.size 0 s.size s.size s M 5 Tryz.underlying71 hinfo (heap_alloc_new w _) (Nat.le_refl _) (by omega)
    obtain ⟨Y, hY⟩ : ∃ Y, Y = (M.toList.take 0 ++ Lib.byteCells s.data.toList ++ M.toList.drop (0 + s.size)).toArray := ⟨_, rfl⟩
    rw [← hY] at hcp
    have hYl : Y.toList = Lib.byteCells s.data.toList := by
      rw [hY, List.toList_toArray, List.take_zero, List.nil_append, List.drop_of_length_le (by rw [Array.length_toList]; omega), List.append_nil]
    have hYs : Y.size = s.size := by rw [← Array.length_toList, hYl, Lib.byteCells_length, ← Lib.size_eq]
    have hgY : ((w.alloc (.cells M 5)).setRow w.heap.size Y).heap[w.heap.size]? = some (.cells Y 5 (0, 0)) := setRow_heap _ _ M _ 5 (0, 0) (heap_alloc_new w _)
    have hne : s.data.toList ≠ [] := fun e => h0 (by rw [Lib.size_eq, e]; rfl)
    have hUS := Lib.run_unsafeString_row (P := Tryz.prog) ((w.alloc (.cells M 5)).setRow w.heap.size Y) 187 3 9 5 Tryz.underlying187 cells5 w.heap.size Y.size (by unfold World.shape?; rw [hgY]) s.data.toList hne (by rw [← Lib.size_eq]; omega) (by rw [← Lib.size_eq]; omega)
      (fun j x hx => Lib.cells_of_row hgY Y.size j _ (by rw [List.take_of_length_le (by rw [Array.length_toList]; exact Nat.le_refl _), hYl]; simp [Lib.byteCells, hx]))
    rw [← Lib.size_eq] at hUS
    clear hY
    go_enter Tryz.func110, Tryz.ntmps110
    go_wp2
    go_ret
    have hb1 : Below w.heap.size w (w.alloc (.cells M 5)) := (Below.refl _ w).alloc (Nat.le_refl _) _
    exact ⟨rfl, Lib.below_freeze (below_rowSet hb1 (Nat.le_refl _) Y) (p := ⟨w.heap.size, 0, none⟩) (Nat.le_refl _) _⟩

theorem clone_any (s : ByteArray) (w : World) (hlim : s.size ≤ 281474976710656) :
    Calls Tryz.prog 71 #[.string s] w fun e w' => e = .returned (.string s) ∧ Below w.heap.size w w' := by
  go_enter Tryz.func71, Tryz.ntmps71
  go_wp2_with (go_at_call 110; refine (cloneLite_any _ _ hlim).mono ?_; rintro e w1 ⟨rfl, hb1⟩)
  go_ret
  exact ⟨rfl, hb1⟩
end Go.Proofs.YtmekmlgpkbfjpaaGreatDoor.U

/- The contract of the program's take: bytes go into a sum that works. -/
namespace Go.Proofs.YtmekmlgpkbfjpaaGreatDoor.U
open Go.RowKit
set_option maxRecDepth 100000

def strSize : Value → Nat | .string b => b.size | _ => 0
def bytesOf (l : List UInt8) : ByteArray := ⟨l.toArray⟩
theorem list_append (a b : ByteArray) : (a ++ b).data.toList = a.data.toList ++ b.data.toList := by
  rw [ByteArray.data_append, Array.toList_append]
theorem Lies.len {w : World} {g : Nat} {t : TypeId} {s : H8} {buf : ByteArray} {n : Nat} (h : Lies w g t (sumA s buf n)) (m : Nat) : Lies (w.setCell ⟨g, 9, none⟩ (.int .u64 (m : Int))) g t (sumA s buf m) := h.put 9 _
theorem Lies.buf {w : World} {g : Nat} {t : TypeId} {s : H8} {buf : ByteArray} {n : Nat} (h : Lies w g t (sumA s buf n)) (b : ByteArray) : Lies (w.setCell ⟨g, 8, none⟩ (.string b)) g t (sumA s b n) := h.put 8 _
theorem Lies.c8 {w : World} {g : Nat} {t : TypeId} {s : H8} {buf : ByteArray} {n : Nat} (h : Lies w g t (sumA s buf n)) : w.cell? ⟨g, 8, none⟩ = some (.string buf) := h.cell 8
theorem Lies.c9 {w : World} {g : Nat} {t : TypeId} {s : H8} {buf : ByteArray} {n : Nat} (h : Lies w g t (sumA s buf n)) : w.cell? ⟨g, 9, none⟩ = some (.int .u64 (n : Int)) := h.cell 9

set_option maxRecDepth 100000 in
set_option maxHeartbeats 800000 in
theorem take_short (g : Nat) (H : H8) (buf s : ByteArray) (n : Nat) (w : World) (hs : buf.size + s.size < 64) (hn : n + s.size < 18446744073709551616) (hl : Lies w g 118 (sumA H buf n)) :
    Calls Tryz.prog 47 #[.pointer (some ⟨g, 0, none⟩), .string s] w fun e w' => e = .returned (.tuple #[]) ∧ Lies w' g 118 (sumA H (buf ++ s) (n + s.size)) ∧ Only g w w' := by
  have k8 := hl.c8
  have k9 := hl.c9
  have f8 := hl.frozen 8
  have f9 := hl.frozen 9
  have hz : (buf ++ s).size ≤ 281474976710656 := by rw [ByteArray.size_append]; omega
  go_enter Tryz.func47, Tryz.ntmps47
  go_wp2_with (go_at_call 71; refine (clone_any _ _ hz).mono ?_; rintro e w1 ⟨rfl, hb1⟩; have hl1 := Lies.on (hl.len (n + s.size)) hb1; have k18 := hl1.c8; have f18 := hl1.frozen 8; have hO := (((Only.refl w g).put (p := ⟨g, 9, none⟩) (Or.inl rfl) (.int .u64 ((n + s.size : Nat) : Int))).on hb1).put (p := ⟨g, 8, none⟩) (Or.inl rfl) (.string (buf ++ s)))
  go_end0
  exact ⟨rfl, hl1.buf _, hO⟩
theorem Tab.put {w : World} (h : Tab w) {p : Addr} (hp : 0 < p.block ∧ 2 < p.block) (v : Value) : Tab (w.setCell p v) :=
  ⟨fun i hi => (World.cell?_of_block (Below.heap_setCell w p v 0 (by omega))).trans (h.1 i hi), fun t ht => (World.cell?_of_block (Below.heap_setCell w p v 2 (by omega))).trans (h.2 t ht)⟩
theorem Tab.drew {w : World} (h : Tab w) : Tab w.drew := h

theorem feed_first (H : H8) (a b : List UInt8) (m : Nat) (ha : a.length + m = 64) (hb : m ≤ b.length) : feed H (a ++ b) = feed (mix H (a ++ b.take m)) (b.drop m) := by
  rw [feed_long H (a ++ b) (by rw [List.length_append]; omega), List.take_append, List.drop_append, List.take_of_length_le (by omega), List.drop_of_length_le (by omega), show 64 - a.length = m by omega, List.nil_append]
theorem tail_first (a b : List UInt8) (m : Nat) (ha : a.length + m = 64) (hb : m ≤ b.length) : tailB (a ++ b) = tailB (b.drop m) := by
  rw [tail_long (a ++ b) (by rw [List.length_append]; omega), List.drop_append, List.drop_of_length_le (by omega), show 64 - a.length = m by omega, List.nil_append]

theorem empty_cat (r : ByteArray) : ({ data := #[] } : ByteArray) ++ r = r := by
  apply ByteArray.ext
  rw [ByteArray.data_append]
  simp
theorem head_list (s : ByteArray) (m : Nat) : (s.extract 0 m).data.toList = s.data.toList.take m := by rw [extract_list, List.drop_zero, Nat.sub_zero]
theorem rest_list (s : ByteArray) (m : Nat) : (s.extract m s.size).data.toList = s.data.toList.drop m := by
  rw [extract_list, List.take_of_length_le (by rw [List.length_drop, ← Lib.size_eq]; exact Nat.le_refl _)]

set_option maxRecDepth 100000 in
set_option maxHeartbeats 1600000 in
theorem take_long (g : Nat) (H : H8) (buf s : ByteArray) (n : Nat) (w : World) (hb : buf.size < 64) (hs : 64 ≤ buf.size + s.size) (hs2 : s.size ≤ 281474976710000) (hn : n + s.size < 18446744073709551616) (hg : 0 < g ∧ 2 < g) (hT : Tab w) (hl : Lies w g 118 (sumA H buf n)) (hok : H.Ok) :
    Calls Tryz.prog 47 #[.pointer (some ⟨g, 0, none⟩), .string s] w fun e w' => e = .returned (.tuple #[]) ∧ Lies w' g 118 (sumA (feed H (buf.data.toList ++ s.data.toList)) (bytesOf (tailB (buf.data.toList ++ s.data.toList))) (n + s.size)) ∧ Only g w w' := by
  obtain ⟨m, hm⟩ : ∃ m, buf.size + m = 64 := ⟨64 - buf.size, by omega⟩
  have hm1 : m ≤ s.size := by omega
  have em : (64 : Int) - (buf.size : Int) = (m : Int) := by omega
  have hsz : (buf ++ s.extract 0 m).size = 64 := by rw [ByteArray.size_append, extract_size _ _ _ hm1]; omega
  have HF := Lib.hid (feed_first H buf.data.toList s.data.toList m (by rw [← Lib.size_eq]; exact hm) (by rw [← Lib.size_eq]; exact hm1))
  have HL := Lib.hid (tail_first buf.data.toList s.data.toList m (by rw [← Lib.size_eq]; exact hm) (by rw [← Lib.size_eq]; exact hm1))
  have hx : (s.extract 0 m).size ≤ 64 := by rw [extract_size _ _ _ hm1]; omega
  have hno : ¬ 9223372036854775807 < buf.size + m := by omega
  have HM := Lib.hid hm
  have HZ := Lib.hid hsz
  clear hm hsz
  have k8 := hl.c8
  have k9 := hl.c9
  have f9 := hl.frozen 9
  go_enter Tryz.func47, Tryz.ntmps47
  go_wp2_with fail
  generalize hW : World.setCell w _ _ = w0
  have hl0 : Lies w0 g 118 (sumA H buf (n + s.size)) := by rw [← hW]; exact hl.len (n + s.size)
  have hT0 : Tab w0 := by rw [← hW]; exact hT.put hg _
  have hO0 : Only g w w0 := by rw [← hW]; exact (Only.refl w g).put (Or.inl rfl) _
  clear hW k8 k9 f9 hl hT
  have k8 := hl0.c8
  refine wp_region_still_tail 13 (by kernel_rfl) (by kernel_rfl) ?_
  simp only [List.take_succ_cons, List.take_zero, List.drop_succ_cons, List.drop_zero]
  change wpStill _ _ w0.drew _ _ _
  repeat still_step
  refine wpStill_nil ?_
  change wpList _ _ _ _ _ w0.drew
  go_wp2_with (go_at_call 70; refine (add_any _ g H buf (n + s.size) _ HZ.out hT0.drew hl0.drew hok).mono ?_; rintro e w1 ⟨rfl, hl1, hO1⟩)
  have hT1 := hT0.only (Only.drew (Only.refl w0 g)|>.trans hO1) hg
  have hO2 := hO0.drew.trans hO1
  clear k8 hT0 hl0 hO0 hO1 hx hno em
  go_loopw [1] (fun v wr => ∃ (r : ByteArray) (K : H8), v = .string r ∧ r.size ≤ 281474976710000 ∧ Lies wr g 118 (sumA K buf (n + s.size)) ∧ K.Ok ∧ Hid (feed H (buf.data.toList ++ s.data.toList) = feed K r.data.toList) ∧ Hid (tailB (buf.data.toList ++ s.data.toList) = tailB r.data.toList) ∧ Tab wr ∧ Only g w wr) (fun v _ => strSize v)
  case atStart => exact ⟨_, _, rfl, by rw [ByteArray.size_extract]; omega, hl1, mix_ok _ _, Lib.hid (by rw [HF.out, list_append, head_list, rest_list]), Lib.hid (by rw [HL.out, rest_list]), hT1, hO2⟩
  case round =>
    clear hl1 hT1 hO2 HF HL HM HZ
    obtain ⟨r, K, rfl, hr, hl, hK, HF, HL, hT, hO⟩ := hrel
    by_cases hlt : 64 ≤ r.size
    · have h64 : (r.extract 0 64).size = 64 := by rw [extract_size _ _ _ hlt]
      have HZ := Lib.hid h64
      clear h64
      go_wp2_with fail
      refine wp_region_still_tail 5 (by kernel_rfl) (by kernel_rfl) ?_
      simp only [List.take_succ_cons, List.take_zero, List.drop_succ_cons, List.drop_zero]
      change wpStill _ _ wr.drew _ _ _
      repeat still_step
      refine wpStill_nil ?_
      change wpList _ _ _ _ _ wr.drew
      go_wp2_with (go_at_call 70; refine (add_any _ g K buf (n + s.size) _ HZ.out hT.drew hl.drew hK).mono ?_; rintro e w2 ⟨rfl, hl2, hO2⟩)
      have hT2 := hT.only (Only.drew (Only.refl wr g)|>.trans hO2) hg
      go_roundw
      case rel =>
        exact ⟨_, _, rfl, by rw [ByteArray.size_extract]; omega, hl2, mix_ok _ _, Lib.hid (by rw [HF.out, feed_long K r.data.toList (by rw [← Lib.size_eq]; exact hlt), head_list, rest_list]), Lib.hid (by rw [HL.out, tail_long r.data.toList (by rw [← Lib.size_eq]; exact hlt), rest_list]), hT2, hO.drew.trans hO2⟩
      case measure => simp [strSize]; omega
    · have k8 := hl.c8
      have f8 := hl.frozen 8
      have hz : (({ data := #[] } : ByteArray) ++ r).size ≤ 281474976710656 := by rw [empty_cat]; omega
      go_wp2_with (go_at_call 71; refine (clone_any _ _ hz).mono ?_; rintro e w3 ⟨rfl, hb3⟩; have hl3 := Lies.on (hl.buf { data := #[] }) hb3; have k18 := hl3.c8; have f18 := hl3.frozen 8; have hO3 := ((hO.put (p := ⟨g, 8, none⟩) (Or.inl rfl) (.string { data := #[] })).on hb3).put (p := ⟨g, 8, none⟩) (Or.inl rfl) (.string (({ data := #[] } : ByteArray) ++ r)))
      go_end0
      have hsh : r.data.toList.length < 64 := by rw [← Lib.size_eq]; omega
      refine ⟨rfl, ?_, hO3⟩
      rw [HF.out, HL.out, feed_short K _ hsh, tail_short _ hsh, show bytesOf r.data.toList = ({ data := #[] } : ByteArray) ++ r by rw [empty_cat]; exact Lib.mk_data r]
      exact hl3.buf _

/-- bytes go into a sum that works -/
theorem take_any (g : Nat) (H : H8) (buf s : ByteArray) (n : Nat) (w : World) (hb : buf.size < 64) (hs2 : s.size ≤ 281474976710000) (hn : n + s.size < 18446744073709551616) (hg : 0 < g ∧ 2 < g) (hT : Tab w) (hl : Lies w g 118 (sumA H buf n)) (hok : H.Ok) :
    Calls Tryz.prog 47 #[.pointer (some ⟨g, 0, none⟩), .string s] w fun e w' => e = .returned (.tuple #[]) ∧ Lies w' g 118 (sumA (feed H (buf.data.toList ++ s.data.toList)) (bytesOf (tailB (buf.data.toList ++ s.data.toList))) (n + s.size)) ∧ Only g w w' := by
  by_cases hs : 64 ≤ buf.size + s.size
  · exact take_long g H buf s n w hb hs hs2 hn hg hT hl hok
  · have hsh : (buf.data.toList ++ s.data.toList).length < 64 := by rw [List.length_append, ← Lib.size_eq, ← Lib.size_eq]; omega
    rw [feed_short H _ hsh, tail_short _ hsh, ← list_append, show bytesOf (buf ++ s).data.toList = buf ++ s from Lib.mk_data _]
    exact take_short g H buf s n w (by omega) hn hl
end Go.Proofs.YtmekmlgpkbfjpaaGreatDoor.U

/- The contracts of the program's calls that put a number's bytes behind others. -/
namespace Go.Proofs.YtmekmlgpkbfjpaaGreatDoor.U
open Go.RowKit
set_option maxRecDepth 100000

/-- what a row holds when k of a number's bytes are behind others -/
def upto (acc : List UInt8) (n w k : Nat) : List UInt8 := acc ++ (bigL n w).take k
theorem upto_zero (acc : List UInt8) (n w : Nat) : upto acc n w 0 = acc := by simp [upto]
theorem upto_end (acc : List UInt8) (n w : Nat) : upto acc n w w = acc ++ bigL n w := by
  unfold upto
  rw [List.take_of_length_le (by rw [bigL_length]; exact Nat.le_refl _)]
theorem upto_length (acc : List UInt8) (n w k : Nat) (h : k ≤ w) : (upto acc n w k).length = acc.length + k := by
  unfold upto
  rw [List.length_append, List.length_take, bigL_length]
  omega
theorem bigL_take (n w k : Nat) (h : k < w) : (bigL n w).take (k + 1) = (bigL n w).take k ++ [(n / 256 ^ (w - 1 - k) % 256).toUInt8] := by
  induction w generalizing k with
  | zero => omega
  | succ w ih =>
    rw [bigL_head]
    cases k with
    | zero => simp
    | succ k =>
      rw [List.take_succ_cons, List.take_succ_cons, ih k (by omega), show w + 1 - 1 - (k + 1) = w - 1 - k by omega]
      rfl
theorem upto_step (acc : List UInt8) (n w k : Nat) (h : k < w) : upto acc n w (k + 1) = upto acc n w k ++ [(n / 256 ^ (w - 1 - k) % 256).toUInt8] := by
  unfold upto
  rw [bigL_take n w k h, List.append_assoc]

theorem byte_shift (n k : Nat) : (n : Int) / 2 ^ (8 * k) % 256 = (((n / 256 ^ k % 256).toUInt8).toNat : Int) := by
  have e : (2 : Int) ^ (8 * k) = ((256 ^ k : Nat) : Int) := by rw [Int.pow_mul]; simp
  rw [toNat_mod, e]
  omega

set_option maxHeartbeats 400000 in
theorem appendNumber_any (v : Value) (acc : List UInt8) (n x : Nat) (B : Nat) (W : World) (hx : x ≤ 8) (ha : acc.length ≤ 1000) (hB : B ≤ W.heap.size) (hown : W.ownsRow B 5 1 v acc.length (Lib.byteCells acc)) :
    Calls Tryz.prog 111 #[v, .int .u64 n, .int .i64 x] W fun e W' => ∃ v', e = .returned v' ∧ W'.ownsRow B 5 1 v' (acc ++ bigL n x).length (Lib.byteCells (acc ++ bigL n x)) ∧ Below B W W' := by
  obtain ⟨i0, hi, hz0, hz1, hz2⟩ := info_parts info5
  go_enter Tryz.func111, Tryz.ntmps111
  go_wp2_with fail
  go_loopw [0, 9] (fun o i wr => ∃ k : Nat, k ≤ x ∧ i = .int .i64 k ∧ wr.ownsRow B 5 1 o (upto acc n x k).length (Lib.byteCells (upto acc n x k)) ∧ Below B W wr) (fun _ i _ => x - (intOf i).toNat)
  case atStart => exact ⟨0, Nat.zero_le _, rfl, by rw [upto_zero]; exact hown, Below.refl _ _⟩
  case round =>
    clear hown
    obtain ⟨k, hk, rfl, ho, hb⟩ := hrel
    have hBr := Nat.le_trans hB hb.size
    by_cases hlt : k < x
    · have HS := Lib.hid (upto_step acc n x k hlt)
      have hl := upto_length acc n x k hk
      have hl1 : (upto acc n x k).length ≤ 1008 := by omega
      clear hl
      go_wp2_with (at_builtin; refine wpList_append_lies _ rfl _ _ 71 (by rfl) B 5 i0 _ 1 1 Tryz.underlying71 hi hz0 hz1 hz2 rfl (by omega) _ (upto acc n x k).length _ (by rfl) (ho.alloc _) ⟨wr.heap.size, 0, none⟩ 1 1 _ (by rfl) (by rfl) (World.news_of_block (t := 5) (fr := (0, 0)) (heap_alloc_new wr _)) (by simp [Value.oneCell']) (by omega) (by unfold maxLen; omega) (by omega) (by simp; omega) (wr.heap.size + 1) (by simp) ?_; intro g cap w2 hown2 hgrow2 hat2 hlt3)
      go_roundw
      case rel =>
        exact ⟨k + 1, by omega, by go_num, by rw [HS.out]; rw [byte_shift] at hown2; simpa [Lib.byteCells] using hown2, (hb.alloc hBr _).grown hgrow2 (by simp; omega) (fun j hj => (ho.lt j hj).1)⟩
      case measure => simp [intOf]; omega
    · obtain rfl : k = x := by omega
      have HS := Lib.hid (upto_end acc n k)
      go_wp2
      go_ret
      exact ⟨_, rfl, by rw [← HS.out]; exact ho, hb⟩
end Go.Proofs.YtmekmlgpkbfjpaaGreatDoor.U

/- The contract of the program's padding: what comes to so many bytes, so that there are whole blocks. -/
namespace Go.Proofs.YtmekmlgpkbfjpaaGreatDoor.U
open Go.RowKit
set_option maxRecDepth 100000

theorem zeros_list (n : Nat) : (Builtin.zeroCells (Value.int .u8 0).cells n).toList = List.replicate n (Value.int .u8 0) := by
  apply List.ext_getElem
  · rw [Array.length_toList, size_zeroCells, List.length_replicate]; simp [Value.cells]
  · intro i h1 h2
    simp [Builtin.zeroCells, Value.cells, Nat.mod_one]

/-- a byte, and as many zeros as are asked for -/
theorem pad_append (W : World) (B g k : Nat) (hB : B ≤ g) (hk : k < 64) (hl : Lies W g 5 #[.int .u8 128]) :
    ∃ v w', (Builtin.append_ #[71, 65] 71 #[.slice (some ⟨g, 0, none⟩) 1 1, .int .u64 (k : Int)]).run Tryz.prog W = .ok v w' ∧
      w'.ownsRow B 5 1 v (128 :: List.replicate k (0 : UInt8)).length (Lib.byteCells (128 :: List.replicate k 0)) ∧ Below B W w' := by
  obtain ⟨i0, hi, hz0, hz1, hz2⟩ := info_parts info5
  have hlt := hl.lt
  rcases Nat.eq_zero_or_pos k with rfl | h0
  · refine ⟨.slice (some ⟨g, 0, none⟩) 1 1, W, ?_, ?_, Below.refl _ _⟩
    · have e0 : IntKind.i64.wrap 0 = 0 := rfl
      simp [Builtin.append_, run_underlying Tryz.underlying71, run_underlying Tryz.underlying65, sizeOf, typeInfo, hi, hz2, asInt, asIntOf, storeCells, e0]
    · exact ⟨rfl, .inr ⟨g, 1, _, rfl, hB, hl, Nat.le_refl _, by unfold maxLen; omega, rfl, rfl⟩⟩
  · have hn := nextslicecap_le (need := 1 + k) (old := 1) (by omega)
    have hold : (Builtin.firstCells i0.size 1 (.slice (some ⟨g, 0, none⟩) 1 1)).run Tryz.prog W.drew = .ok [Value.int .u8 128].toArray W.drew := by
      rw [hz1]
      exact run_loadCells_list (P := Tryz.prog) W.drew ⟨g, 0, none⟩ [Value.int .u8 128] (World.news_of_block (cs := #[Value.int .u8 128]) (t := 5) (fr := (0, 0)) hl)
    have hr := Lib.run_append_grow_zeros (P := Tryz.prog) W 71 65 71 5 i0 (.int .u8 0) .u64 .u64 Tryz.underlying71 Tryz.underlying65 hi hz0 (some ⟨g, 0, none⟩) 1 1 [.int .u8 128] hold k h0 (by omega) (by omega) (by omega) (by rw [hz2]; omega) (by rw [hz2]; omega)
    have e : (128 :: List.replicate k (0 : UInt8)).length = 1 + k := by simp; omega
    have hge := grownCap_ge W (1 + k) 1 5
    refine ⟨_, _, hr, ?_, (Below.refl B W).drew.alloc (by show B ≤ W.heap.size; omega) _⟩
    rw [e]
    refine ⟨by rw [Lib.byteCells_length, e]; omega, .inr ⟨W.heap.size, _, _, rfl, by omega, heap_alloc_new W.drew _, hge, grownCap_le_maxLen W (1 + k) 1 _ (by unfold maxLen; omega), ?_, ?_⟩⟩
    · simp only [Array.size_append, List.size_toArray, size_zeroCells, Value.cells, List.length_cons, List.length_nil]
      omega
    · simp only [Array.toList_append, zeros_list]
      rw [List.take_left' (by simp; omega)]
      simp [Lib.byteCells]

set_option maxHeartbeats 400000 in
theorem padding_any (n : Nat) (W : World) (hn : n < 2305843009213693952) :
    Calls Tryz.prog 72 #[.int .u64 n] W fun e W' => e = .returned (.string ⟨(pad n).toArray⟩) ∧ Below W.heap.size W W' := by
  obtain ⟨v, w1, hr, ho, hb⟩ := pad_append (W.alloc (.cells #[.int .u8 128] 5)) W.heap.size W.heap.size ((119 - n % 64) % 64) (Nat.le_refl _) (Nat.mod_lt _ (by decide)) (Lies.new _ _ _)
  rw [show (((119 - n % 64) % 64 : Nat) : Int) = (119 - (n : Int) % 64) % 64 by omega] at hr
  have HR := Lib.hid hr
  have hb1 : Below W.heap.size W w1 := ((Below.refl _ W).alloc (Nat.le_refl _) _).trans hb
  have hB := hb1.size
  have hl : (128 :: List.replicate ((119 - n % 64) % 64) (0 : UInt8)).length ≤ 64 := by simp; omega
  have HP := Lib.hid (show pad n = (128 :: List.replicate ((119 - n % 64) % 64) 0) ++ bigL (8 * n) 8 from rfl)
  generalize (128 :: List.replicate ((119 - n % 64) % 64) (0 : UInt8)) = acc at ho hl HP
  clear hr hb
  go_enter Tryz.func72, Tryz.ntmps72
  go_wp2_with (at_builtin; refine Lib.wpList_append_run _ rfl _ _ 71 65 (by rfl) _ _ (by rfl) (by rfl) _ _ HR.out ?_)
  have HA := Lib.hid (appendNumber_any v acc (8 * n) 8 W.heap.size w1 (by omega) (by omega) hB ho)
  go_wp2_with (go_at_call 111; refine HA.out.mono ?_; rintro e w2 ⟨v2, rfl, ho2, hb2⟩; have hcv := str_own ho2)
  go_ret
  exact ⟨ret1_of (val_str HP.out.symm), hb1.trans hb2⟩
end Go.Proofs.YtmekmlgpkbfjpaaGreatDoor.U

/- The contract of the program's text: the words' bytes. -/
namespace Go.Proofs.YtmekmlgpkbfjpaaGreatDoor.U
open Go.RowKit
set_option maxRecDepth 100000

/-- the first words' bytes -/
def outTo (s : H8) : Nat → List UInt8
  | 0 => []
  | k + 1 => outTo s k ++ bigL (s.at k) 4
theorem outTo_end (s : H8) : outTo s 8 = outT s := by simp only [outTo, outT, H8.at, List.nil_append]
theorem outTo_length (s : H8) (k : Nat) : (outTo s k).length = 4 * k := by
  induction k with
  | zero => rfl
  | succ k ih => rw [outTo, List.length_append, ih, bigL_length]; omega

set_option maxHeartbeats 800000 in
theorem text_any (g : Nat) (H : H8) (buf : ByteArray) (n : Nat) (W : World) (hl : Lies W g 118 (sumA H buf n)) (hok : H.Ok) :
    Calls Tryz.prog 73 #[.pointer (some ⟨g, 0, none⟩)] W fun e W' => e = .returned (.string ⟨(outT H).toArray⟩) ∧ Below W.heap.size W W' := by
  have HW := Lib.hid hl.words
  have hix := index_eight H
  clear hl
  go_enter Tryz.func73, Tryz.ntmps73
  go_wp2_with ((with_reducible refine wpL_loadMid g 0 (wordsL H) 8 row26 rfl HW.out ?_ ?_); rfl)
  simp only [wordsL]
  go_loopw [3, 11] (fun o i wr => ∃ k : Nat, k ≤ 8 ∧ i = .int .i64 k ∧ wr.ownsRow W.heap.size 5 1 o (outTo H k).length (Lib.byteCells (outTo H k)) ∧ Below W.heap.size W wr) (fun _ i _ => 8 - (intOf i).toNat)
  case atStart => exact ⟨0, Nat.zero_le _, rfl, World.ownsRow_nil _ _ _ _, Below.refl _ _⟩
  case round =>
    obtain ⟨k, hk, rfl, ho, hb⟩ := hrel
    by_cases hlt : k < 8
    · have hx := hix k hlt
      clear hix
      have hw := H8.at_lt hok k
      have hlen := outTo_length H k
      have HA := Lib.hid (appendNumber_any u3 (outTo H k) (H.at k) 4 W.heap.size wr (by omega) (by omega) hb.size ho)
      clear hlen
      have HS := Lib.hid (show outTo H (k + 1) = outTo H k ++ bigL (H.at k) 4 from rfl)
      go_wp2_with (go_at_call 111; refine HA.out.mono ?_; rintro e w1 ⟨v1, rfl, ho1, hb1⟩)
      go_roundw
      case rel => exact ⟨k + 1, by omega, by go_num, by rw [HS.out]; exact ho1, hb.trans hb1⟩
      case measure => simp [intOf]; omega
    · obtain rfl : k = 8 := by omega
      have hcv := str_own ho
      clear hix
      go_wp2
      go_ret
      exact ⟨ret1_of (val_str (outTo_end H)), hb⟩
end Go.Proofs.YtmekmlgpkbfjpaaGreatDoor.U

/- The contracts of the program's calls on a sum that works: it is laid, asked, ended. -/
namespace Go.Proofs.YtmekmlgpkbfjpaaGreatDoor.U
open Go.RowKit
set_option maxRecDepth 100000

set_option maxHeartbeats 400000 in
theorem workOn_any (H : H8) (buf : ByteArray) (n : Nat) (w : World) :
    Calls Tryz.prog 45 #[.agg (sumA H buf n)] w fun e w' => ∃ g, e = .returned (.pointer (some ⟨g, 0, none⟩)) ∧ w.heap.size ≤ g ∧ Lies w' g 118 (sumA H buf n) ∧ Below w.heap.size w w' := by
  unfold sumA
  go_enter Tryz.func45, Tryz.ntmps45
  go_wp2
  go_ret
  refine ⟨_, rfl, ?_, heap_alloc2_new w _ _, ((Below.refl _ w).alloc (Nat.le_refl _) _).alloc (by simp) _⟩
  simp

set_option maxHeartbeats 400000 in
theorem end_any (g : Nat) (H : H8) (buf : ByteArray) (n : Nat) (w : World) (hb : buf.size < 64) (hn : n < 1152921504606846976) (hg : 0 < g ∧ 2 < g) (hT : Tab w) (hl : Lies w g 118 (sumA H buf n)) (hok : H.Ok) :
    Calls Tryz.prog 48 #[.pointer (some ⟨g, 0, none⟩)] w fun e w' => e = .returned (.string (bytesOf (endT H buf.data.toList n))) ∧ Only g w w' := by
  have k9 := hl.c9
  have hp : (bytesOf (pad n)).size ≤ 72 := by
    rw [Lib.size_eq]
    show (pad n).length ≤ 72
    rw [pad_length]
    omega
  have hp2 : (bytesOf (pad n)).data.toList = pad n := rfl
  go_enter Tryz.func48, Tryz.ntmps48
  go_wp2_with (first | (go_at_call 72; refine (padding_any n _ (by omega)).mono ?_; rintro e w1 ⟨rfl, hb1⟩; have HK := Lib.hid (take_any g H buf (bytesOf (pad n)) n w1 hb (by omega) (by omega) hg (hT.below hb1) (hl.on hb1) hok)) | (go_at_call 47; refine HK.out.mono ?_; rintro e w2 ⟨rfl, hl2, hO2⟩) | (go_at_call 73; refine (text_any g _ _ _ _ hl2 (feed_ok' hok _)).mono ?_; rintro e w3 ⟨rfl, hb3⟩))
  go_ret
  exact ⟨rfl, ((Only.of_below hb1 g).trans hO2).on hb3⟩
end Go.Proofs.YtmekmlgpkbfjpaaGreatDoor.U

/- The contracts of the program's own five calls. -/
namespace Go.Proofs.YtmekmlgpkbfjpaaGreatDoor.U
open Go.RowKit
set_option maxRecDepth 100000

section
variable {P : Program} {ops : Array Oper} {rest : List Oper} {a : Act} {w : World} {Q : Exit → Act → World → Prop} {t' : TypeId} {pos : String} {after : Array Edge}
/-- some cells in the middle of a block are read, the block a package-level variable's -/
theorem wpL_loadGlobal {d : Option Tmp} {x : Operand} {ty : TypeId} (g o : Nat) (cs : List Value) (n : Nat) (hT : RowT P ty n) (hn : cs.length = n) (hg : w.rangeAt g o cs)
    (hx : a.eval x = .pointer (some ⟨g, o, none⟩)) (h : wpList P ops Q rest (a.put d (.agg cs.toArray)) w) : wpList P ops Q (⟨d, .load ty x, t', pos, after, none⟩ :: rest) a w := by
  obtain ⟨⟨ds, hu, hd⟩, hi⟩ := hT
  exact wpList_load_mid (op := ⟨d, .load ty x, t', pos, after, none⟩) rfl ty x rfl g o hx cs ds hg hu hd (by rw [hi, hn]) h
end
theorem Tab.words {w : World} (h : Tab w) : w.rangeAt 0 0 (wordsL h0) := fun j v hv => by
  rw [Nat.zero_add]
  match j, hv with
  | 0, hv | 1, hv | 2, hv | 3, hv | 4, hv | 5, hv | 6, hv | 7, hv => exact (h.1 _ (by decide)).trans hv
abbrev noBytes : ByteArray := { data := #[] }

set_option maxHeartbeats 400000 in
theorem new_any (w : World) (hT : Tab w) :
    Calls Tryz.prog 46 #[] w fun e w' => e = .returned (.agg (sumA h0 noBytes 0)) ∧ Below w.heap.size w w' := by
  go_enter Tryz.func46, Tryz.ntmps46
  have hT2 := fun (o : Obj) => hT.below ((Below.refl _ w).alloc (Nat.le_refl _) o)
  have HT := Lib.hid hT2
  clear hT hT2
  go_wp2_with ((with_reducible refine wpL_loadGlobal 0 0 (wordsL h0) 8 row26 rfl (HT.out _).words ?_ ?_); rfl; simp only [wordsL])
  exact bodyPost_ret (results_row Tryz.results46 row29 rfl (Lies.new w _ (sumA h0 noBytes 0)) rfl) rfl ⟨rfl, (Below.refl _ w).alloc (Nat.le_refl _) _⟩

end Go.Proofs.YtmekmlgpkbfjpaaGreatDoor.U

/- The contract of the program's Sum: the sum of parts, one behind the other. -/
namespace Go.Proofs.YtmekmlgpkbfjpaaGreatDoor.U
open Go.RowKit
set_option maxRecDepth 100000

theorem bytes_size (l : List UInt8) : (bytesOf l).size = l.length := by rw [Lib.size_eq]; rfl
theorem take_flat {l : List (List UInt8)} {k : Nat} {x : List UInt8} (h : l[k]? = some x) : (l.take (k + 1)).flatten = (l.take k).flatten ++ x := by
  rw [List.take_add_one, h, Option.toList_some, List.flatten_append, List.flatten_singleton]
theorem flat_le (l : List (List UInt8)) (k : Nat) : (l.take k).flatten.length ≤ l.flatten.length := by
  have e : l.flatten = (l.take k).flatten ++ (l.drop k).flatten := by rw [← List.flatten_append, List.take_append_drop]
  rw [e, List.length_append]
  omega

set_option maxHeartbeats 800000 in
theorem sum_any (w : World) (v : Value) (l : List (List UInt8)) (hl : Strs w v l) (hx : l.flatten.length ≤ 281474976710000) (hT : Tab w) :
    Calls Tryz.prog 31 #[v] w fun e w' => e = .returned (.string (bytesOf (sumT l.flatten))) ∧ Below w.heap.size w w' := by
  have h2 := hT.two
  have HT := Lib.hid hT
  clear hT
  obtain ⟨a, c, rfl, hc, hm, hn, hl⟩ := hl
  unfold maxLen at hm
  go_enter Tryz.func31, Tryz.ntmps31
  go_wp2_with (first | (go_at_call 46; refine (new_any _ HT.out).mono ?_; rintro e w1 ⟨rfl, hb1⟩) | (go_at_call 45; refine (workOn_any h0 noBytes 0 _).mono ?_; rintro e w2 ⟨g, rfl, hg1, hl1, hb2⟩; replace hb2 := below_on hb1 hb2; have hgw : w.heap.size ≤ g := Nat.le_trans hb1.size hg1; clear hb1 hg1))
  go_loopw [10] (fun i wr => ∃ k : Nat, k ≤ l.length ∧ i = .int .i64 k ∧ Lies wr g 118 (sumA (feed h0 (l.take k).flatten) (bytesOf (tailB (l.take k).flatten)) (l.take k).flatten.length) ∧ Below w.heap.size w wr) (fun i _ => l.length - (intOf i).toNat)
  case atStart => exact ⟨0, Nat.zero_le _, rfl, by rw [List.take_zero, List.flatten_nil, feed_short _ _ (by decide), tail_short _ (by decide)]; exact hl1, hb2⟩
  case round =>
    clear hl1 hb2
    obtain ⟨k, hk, rfl, hli, hb⟩ := hrel
    have hB := hb.size
    have htl : (bytesOf (tailB (l.take k).flatten)).size < 64 := by rw [bytes_size, tail_length]; exact Nat.mod_lt _ (by decide)
    have hle := flat_le l k
    by_cases hlt : k < l.length
    · obtain ⟨b, off, rfl, hcell⟩ := hl (by intro h; subst h; simp at hlt)
      obtain ⟨x, hxk⟩ : ∃ x, l[k]? = some x := ⟨l[k], List.getElem?_eq_getElem hlt⟩
      have g1 := hcell k x hxk
      have hc1 : wr.cell? ⟨b, off + k, none⟩ = some (.string ⟨x.toArray⟩) := (hb.cell (p := ⟨b, off + k, none⟩) (World.block_lt_of_cell? w _ g1)).trans g1
      have hle2 := flat_le l (k + 1)
      have HF := Lib.hid (take_flat hxk)
      rw [HF.out, List.length_append] at hle2
      have HK := Lib.hid (take_any g _ _ (bytesOf x) _ wr htl (by rw [bytes_size]; omega) (by rw [bytes_size]; omega) (by omega) (HT.out.below hb) hli (feed_ok' h0_ok _))
      clear hxk hcell g1 hl
      go_wp2_with (go_at_call 47; refine HK.out.mono ?_; rintro e w3 ⟨rfl, hl3, hO3⟩)
      go_roundw
      case rel => exact ⟨k + 1, by omega, by go_num, by rw [HF.out, feed_append _ _ _ _ (Nat.le_refl _), tail_append _ _ _ (Nat.le_refl _), List.length_append, ← bytes_size x]; exact hl3, hO3.below hb hB hgw⟩
      case measure => simp [intOf]; omega
    · have hE := end_any g _ _ _ wr htl (by omega) (by omega) (HT.out.below hb) hli (feed_ok' h0_ok _)
      rw [show l.take k = l from List.take_of_length_le (by omega), show (bytesOf (tailB l.flatten)).data.toList = tailB l.flatten from rfl, end_sum] at hE
      have HK := Lib.hid hE
      clear hE
      go_wp2_with (go_at_call 48; refine HK.out.mono ?_; rintro e w3 ⟨rfl, hO3⟩)
      go_ret
      exact ⟨rfl, hO3.below hb hB hgw⟩
end Go.Proofs.YtmekmlgpkbfjpaaGreatDoor.U

/- The contract of the statements' own call that asks for a known sum. -/
namespace Go.Proofs.YtmekmlgpkbfjpaaGreatDoor.U
open Go.RowKit
set_option maxRecDepth 100000

/-- one text as a row that was just laid -/
theorem strs_one (w : World) (x : List UInt8) : Strs (w.alloc (.cells #[.string ⟨x.toArray⟩] 9)) (.slice (some ⟨w.heap.size, 0, none⟩) 1 1) [x] := by
  refine ⟨some ⟨w.heap.size, 0, none⟩, 1, rfl, Nat.le_refl _, by unfold maxLen; omega, (fun h => by cases h), fun _ => ⟨w.heap.size, 0, rfl, fun i y hi => ?_⟩⟩
  match i, hi with
  | 0, hi =>
    have : x = y := by simpa using hi
    subst this
    rw [World.cell?_alloc_new]
    rfl
theorem sum_one (w : World) (x : List UInt8) (hx : x.length ≤ 1000000000) (hT : Tab w) :
    Calls Tryz.prog 31 #[.slice (some ⟨w.heap.size, 0, none⟩) 1 1] (w.alloc (.cells #[.string ⟨x.toArray⟩] 9)) fun e w' => e = .returned (.string (bytesOf (sumT x))) ∧ Below w.heap.size w w' := by
  have hb := (Below.refl w.heap.size w).alloc (Nat.le_refl _) (.cells #[.string ⟨x.toArray⟩] 9)
  have h := sum_any _ _ [x] (strs_one w x) (by simp; omega) (hT.below hb)
  rw [List.flatten_singleton] at h
  exact h.mono fun e w' ⟨he, hb2⟩ => ⟨he, below_on hb hb2⟩

end Go.Proofs.YtmekmlgpkbfjpaaGreatDoor.U

/- What is proved: whatever bytes the statement of sums is called with, it answers true; no condition. -/
namespace Go.Proofs.YtmekmlgpkbfjpaaGreatDoor.U
open Go.RowKit
set_option maxRecDepth 100000

/-- the sum of one text -/
theorem sum_text (t : ByteArray) (w : World) (h : t.size ≤ 1000) (hw : Tab w) :
    Calls Tryz.prog 31 #[.slice (some ⟨w.heap.size, 0, none⟩) 1 1] (w.alloc (.cells #[.string t] 9)) fun e w' => e = .returned (.string (bytesOf (sumT t.data.toList))) ∧ Below w.heap.size w w' := by
  have hs := sum_one w t.data.toList (by rw [← Lib.size_eq]; omega) hw
  rw [show (⟨t.data.toList.toArray⟩ : ByteArray) = t from Lib.mk_data t] at hs
  exact hs
end Go.Proofs.YtmekmlgpkbfjpaaGreatDoor.U

