/- Texts that stand on one another, put together: URefMix, UClone, UTake, UNum, UPad, UText, UWork, UCalls, URefRows, URefWrite, UWrite, Strs, USum, UAlive. -/
import Derived.Test.YtdjglghecekeoaaGreatDoorK2
import Derived.BigQuiet
import Derived.Deep.AppendLies
import Derived.Deep.CutRange
import Derived.Deep.QuietTactic
import Derived.Deep.RegionWith
import Derived.Deep.WholeRow
import Derived.Laws.ResultCell
import Derived.Lib.AppendZerosOnto
import Derived.Lib.BufferWrite
import Derived.Lib.Strings
import Derived.Lib.UnsafeStr
import Derived.Lib.Walk
/- The contract of the reference's Mix: eight words behind a block. -/
namespace Go.Proofs.YtdjglghecekeoaaGreatDoor.U
open Go.RowKit
set_option maxRecDepth 100000

/-- eight words as a row -/
abbrev wordsA (s : H8) : Array Value := #[u32 s.a, u32 s.b, u32 s.c, u32 s.d, u32 s.e, u32 s.f, u32 s.g, u32 s.h]
end Go.Proofs.YtdjglghecekeoaaGreatDoor.U

/- The contract of the library's Clone: a copy of a text. -/
namespace Go.Proofs.YtdjglghecekeoaaGreatDoor.U
open Go.RowKit
set_option maxRecDepth 100000

theorem cells5 : Tryz.prog.cellsOf 5 = 1 := by kernel_rfl
set_option maxHeartbeats 400000 in
theorem cloneLite_any (s : ByteArray) (w : World) (hlim : s.size ≤ 281474976710656) :
    Calls Tryz.prog 141 #[.string s] w fun e w' => e = .returned (.string s) ∧ Below w.heap.size w w' := by
  by_cases h0 : s.size = 0
  · have hs : s = ⟨#[]⟩ := by
      apply ByteArray.ext
      exact Array.eq_empty_of_size_eq_zero h0
    subst hs
    go_enter Tryz.func141, Tryz.ntmps141
    go_wp2
    go_ret
    exact ⟨rfl, Below.refl _ _⟩
  · obtain ⟨i0, hi, hz0, hz1, hz2⟩ := info_parts info5
    have hinfo : (Tryz.prog.info? 5).map (·.size) = some 1 := by rw [hi]; simp [hz1]
    obtain ⟨M, hM⟩ : ∃ M, M = madeCells (Value.int .u8 0).cells (((s.size : Nat) : Int).toNat * i0.size) := ⟨_, rfl⟩
    have hMs : M.size = s.size := by rw [hM, size_madeCells, hz1]; simp
    have hmk : ∀ W : World, (Instr.makeSlice 37 (.int .i64 (s.size : Int)) (.int .i64 (s.size : Int))).run Tryz.prog W = .ok (.slice (some ⟨W.heap.size, 0, none⟩) s.size s.size) (W.alloc (.cells M 5)) := fun W => by
      have h := run_make (P := Tryz.prog) W 37 5 i0 (.int .u8 0) Tryz.underlying37 hi hz0 .i64 .i64 (s.size : Int) (s.size : Int) (by omega) (by omega) (by rw [hz2]; omega) (by omega)
      rw [← hM] at h
      simpa using h
    clear hM
    have hcp := Lib.run_copy_row_string (P := Tryz.prog) (w.alloc (.cells M 5)) 37 9 3 5 w.heap.size 0 s.size s.size s M 5 Tryz.underlying37 hinfo (heap_alloc_new w _) (Nat.le_refl _) (by omega)
    obtain ⟨Y, hY⟩ : ∃ Y, Y = (M.toList.take 0 ++ Lib.byteCells s.data.toList ++ M.toList.drop (0 + s.size)).toArray := ⟨_, rfl⟩
    rw [← hY] at hcp
    have hYl : Y.toList = Lib.byteCells s.data.toList := by
      rw [hY, List.toList_toArray, List.take_zero, List.nil_append, List.drop_of_length_le (by rw [Array.length_toList]; omega), List.append_nil]
    have hYs : Y.size = s.size := by rw [← Array.length_toList, hYl, Lib.byteCells_length, ← Lib.size_eq]
    have hgY : ((w.alloc (.cells M 5)).setRow w.heap.size Y).heap[w.heap.size]? = some (.cells Y 5 (0, 0)) := setRow_heap _ _ M _ 5 (0, 0) (heap_alloc_new w _)
    have hne : s.data.toList ≠ [] := fun e => h0 (by rw [Lib.size_eq, e]; rfl)
    have hUS := Lib.run_unsafeString_row (P := Tryz.prog) ((w.alloc (.cells M 5)).setRow w.heap.size Y) 190 3 9 5 Tryz.underlying190 cells5 w.heap.size Y.size (by unfold World.shape?; rw [hgY]) s.data.toList hne (by rw [← Lib.size_eq]; omega) (by rw [← Lib.size_eq]; omega)
      (fun j x hx => Lib.cells_of_row hgY Y.size j _ (by rw [List.take_of_length_le (by rw [Array.length_toList]; exact Nat.le_refl _), hYl]; simp [Lib.byteCells, hx]))
    rw [← Lib.size_eq] at hUS
    clear hY
    go_enter Tryz.func141, Tryz.ntmps141
    go_wp2
    go_ret
    have hb1 : Below w.heap.size w (w.alloc (.cells M 5)) := (Below.refl _ w).alloc (Nat.le_refl _) _
    exact ⟨rfl, Lib.below_freeze (below_rowSet hb1 (Nat.le_refl _) Y) (p := ⟨w.heap.size, 0, none⟩) (Nat.le_refl _) _⟩

theorem clone_any (s : ByteArray) (w : World) (hlim : s.size ≤ 281474976710656) :
    Calls Tryz.prog 111 #[.string s] w fun e w' => e = .returned (.string s) ∧ Below w.heap.size w w' := by
  go_enter Tryz.func111, Tryz.ntmps111
  go_wp2_with (go_at_call 141; refine (cloneLite_any _ _ hlim).mono ?_; rintro e w1 ⟨rfl, hb1⟩)
  go_ret
  exact ⟨rfl, hb1⟩
end Go.Proofs.YtdjglghecekeoaaGreatDoor.U

/- The contract of the program's take: bytes go into a sum that works. -/
namespace Go.Proofs.YtdjglghecekeoaaGreatDoor.U
open Go.RowKit
set_option maxRecDepth 100000

def strSize : Value → Nat | .string b => b.size | _ => 0
def bytesOf (l : List UInt8) : ByteArray := ⟨l.toArray⟩
theorem list_append (a b : ByteArray) : (a ++ b).data.toList = a.data.toList ++ b.data.toList := by
  rw [ByteArray.data_append, Array.toList_append]
theorem Lies.len {w : World} {g : Nat} {t : TypeId} {s : H8} {buf : ByteArray} {n : Nat} (h : Lies w g t (sumA s buf n)) (m : Nat) : Lies (w.setCell ⟨g, 9, none⟩ (.int .u64 (m : Int))) g t (sumA s buf m) := h.put 9 _
theorem Lies.buf {w : World} {g : Nat} {t : TypeId} {s : H8} {buf : ByteArray} {n : Nat} (h : Lies w g t (sumA s buf n)) (b : ByteArray) : Lies (w.setCell ⟨g, 8, none⟩ (.string b)) g t (sumA s b n) := h.put 8 _
theorem Lies.c8 {w : World} {g : Nat} {t : TypeId} {s : H8} {buf : ByteArray} {n : Nat} (h : Lies w g t (sumA s buf n)) : w.cell? ⟨g, 8, none⟩ = some (.string buf) := h.cell 8
theorem Lies.c9 {w : World} {g : Nat} {t : TypeId} {s : H8} {buf : ByteArray} {n : Nat} (h : Lies w g t (sumA s buf n)) : w.cell? ⟨g, 9, none⟩ = some (.int .u64 (n : Int)) := h.cell 9

set_option maxRecDepth 100000 in
set_option maxHeartbeats 800000 in
theorem take_short (g : Nat) (H : H8) (buf s : ByteArray) (n : Nat) (w : World) (hs : buf.size + s.size < 64) (hn : n + s.size < 18446744073709551616) (hl : Lies w g 153 (sumA H buf n)) :
    Calls Tryz.prog 74 #[.pointer (some ⟨g, 0, none⟩), .string s] w fun e w' => e = .returned (.tuple #[]) ∧ Lies w' g 153 (sumA H (buf ++ s) (n + s.size)) ∧ Only g w w' := by
  have k8 := hl.c8
  have k9 := hl.c9
  have f8 := hl.frozen 8
  have f9 := hl.frozen 9
  have hz : (buf ++ s).size ≤ 281474976710656 := by rw [ByteArray.size_append]; omega
  go_enter Tryz.func74, Tryz.ntmps74
  go_wp2_with (go_at_call 111; refine (clone_any _ _ hz).mono ?_; rintro e w1 ⟨rfl, hb1⟩; have hl1 := Lies.on (hl.len (n + s.size)) hb1; have k18 := hl1.c8; have f18 := hl1.frozen 8; have hO := (((Only.refl w g).put (p := ⟨g, 9, none⟩) (Or.inl rfl) (.int .u64 ((n + s.size : Nat) : Int))).on hb1).put (p := ⟨g, 8, none⟩) (Or.inl rfl) (.string (buf ++ s)))
  go_end0
  exact ⟨rfl, hl1.buf _, hO⟩
theorem Tab.put {w : World} (h : Tab w) {p : Addr} (hp : 1 < p.block ∧ 7 < p.block) (v : Value) : Tab (w.setCell p v) :=
  ⟨fun i hi => (World.cell?_of_block (Below.heap_setCell w p v 1 (by omega))).trans (h.1 i hi), fun t ht => (World.cell?_of_block (Below.heap_setCell w p v 7 (by omega))).trans (h.2 t ht)⟩
theorem Tab.drew {w : World} (h : Tab w) : Tab w.drew := h

theorem feed_first (H : H8) (a b : List UInt8) (m : Nat) (ha : a.length + m = 64) (hb : m ≤ b.length) : feed H (a ++ b) = feed (mix H (a ++ b.take m)) (b.drop m) := by
  rw [feed_long H (a ++ b) (by rw [List.length_append]; omega), List.take_append, List.drop_append, List.take_of_length_le (by omega), List.drop_of_length_le (by omega), show 64 - a.length = m by omega, List.nil_append]
theorem tail_first (a b : List UInt8) (m : Nat) (ha : a.length + m = 64) (hb : m ≤ b.length) : tailB (a ++ b) = tailB (b.drop m) := by
  rw [tail_long (a ++ b) (by rw [List.length_append]; omega), List.drop_append, List.drop_of_length_le (by omega), show 64 - a.length = m by omega, List.nil_append]

theorem empty_cat (r : ByteArray) : ({ data := #[] } : ByteArray) ++ r = r := by
  apply ByteArray.ext
  rw [ByteArray.data_append]
  simp
theorem head_list (s : ByteArray) (m : Nat) : (s.extract 0 m).data.toList = s.data.toList.take m := by rw [extract_list, List.drop_zero, Nat.sub_zero]
theorem rest_list (s : ByteArray) (m : Nat) : (s.extract m s.size).data.toList = s.data.toList.drop m := by
  rw [extract_list, List.take_of_length_le (by rw [List.length_drop, ← Lib.size_eq]; exact Nat.le_refl _)]

set_option maxRecDepth 100000 in
set_option maxHeartbeats 1600000 in
theorem take_long (g : Nat) (H : H8) (buf s : ByteArray) (n : Nat) (w : World) (hb : buf.size < 64) (hs : 64 ≤ buf.size + s.size) (hs2 : s.size ≤ 281474976710000) (hn : n + s.size < 18446744073709551616) (hg : 1 < g ∧ 7 < g) (hT : Tab w) (hl : Lies w g 153 (sumA H buf n)) (hok : H.Ok) :
    Calls Tryz.prog 74 #[.pointer (some ⟨g, 0, none⟩), .string s] w fun e w' => e = .returned (.tuple #[]) ∧ Lies w' g 153 (sumA (feed H (buf.data.toList ++ s.data.toList)) (bytesOf (tailB (buf.data.toList ++ s.data.toList))) (n + s.size)) ∧ Only g w w' := by
  obtain ⟨m, hm⟩ : ∃ m, buf.size + m = 64 := ⟨64 - buf.size, by omega⟩
  have hm1 : m ≤ s.size := by omega
  have em : (64 : Int) - (buf.size : Int) = (m : Int) := by omega
  have hsz : (buf ++ s.extract 0 m).size = 64 := by rw [ByteArray.size_append, extract_size _ _ _ hm1]; omega
  have HF := Lib.hid (feed_first H buf.data.toList s.data.toList m (by rw [← Lib.size_eq]; exact hm) (by rw [← Lib.size_eq]; exact hm1))
  have HL := Lib.hid (tail_first buf.data.toList s.data.toList m (by rw [← Lib.size_eq]; exact hm) (by rw [← Lib.size_eq]; exact hm1))
  have hx : (s.extract 0 m).size ≤ 64 := by rw [extract_size _ _ _ hm1]; omega
  have hno : ¬ 9223372036854775807 < buf.size + m := by omega
  have HM := Lib.hid hm
  have HZ := Lib.hid hsz
  clear hm hsz
  have k8 := hl.c8
  have k9 := hl.c9
  have f9 := hl.frozen 9
  go_enter Tryz.func74, Tryz.ntmps74
  go_wp2_with fail
  generalize hW : World.setCell w _ _ = w0
  have hl0 : Lies w0 g 153 (sumA H buf (n + s.size)) := by rw [← hW]; exact hl.len (n + s.size)
  have hT0 : Tab w0 := by rw [← hW]; exact hT.put hg _
  have hO0 : Only g w w0 := by rw [← hW]; exact (Only.refl w g).put (Or.inl rfl) _
  clear hW k8 k9 f9 hl hT
  have k8 := hl0.c8
  refine wp_region_still_tail 13 (by kernel_rfl) (by kernel_rfl) ?_
  simp only [List.take_succ_cons, List.take_zero, List.drop_succ_cons, List.drop_zero]
  change wpStill _ _ w0.drew _ _ _
  repeat still_step
  refine wpStill_nil ?_
  change wpList _ _ _ _ _ w0.drew
  go_wp2_with (go_at_call 110; refine (add_any _ g H buf (n + s.size) _ HZ.out hT0.drew hl0.drew hok).mono ?_; rintro e w1 ⟨rfl, hl1, hO1⟩)
  have hT1 := hT0.only (Only.drew (Only.refl w0 g)|>.trans hO1) hg
  have hO2 := hO0.drew.trans hO1
  clear k8 hT0 hl0 hO0 hO1 hx hno em
  go_loopw [1] (fun v wr => ∃ (r : ByteArray) (K : H8), v = .string r ∧ r.size ≤ 281474976710000 ∧ Lies wr g 153 (sumA K buf (n + s.size)) ∧ K.Ok ∧ Hid (feed H (buf.data.toList ++ s.data.toList) = feed K r.data.toList) ∧ Hid (tailB (buf.data.toList ++ s.data.toList) = tailB r.data.toList) ∧ Tab wr ∧ Only g w wr) (fun v _ => strSize v)
  case atStart => exact ⟨_, _, rfl, by rw [ByteArray.size_extract]; omega, hl1, mix_ok _ _, Lib.hid (by rw [HF.out, list_append, head_list, rest_list]), Lib.hid (by rw [HL.out, rest_list]), hT1, hO2⟩
  case round =>
    clear hl1 hT1 hO2 HF HL HM HZ
    obtain ⟨r, K, rfl, hr, hl, hK, HF, HL, hT, hO⟩ := hrel
    by_cases hlt : 64 ≤ r.size
    · have h64 : (r.extract 0 64).size = 64 := by rw [extract_size _ _ _ hlt]
      have HZ := Lib.hid h64
      clear h64
      go_wp2_with fail
      refine wp_region_still_tail 5 (by kernel_rfl) (by kernel_rfl) ?_
      simp only [List.take_succ_cons, List.take_zero, List.drop_succ_cons, List.drop_zero]
      change wpStill _ _ wr.drew _ _ _
      repeat still_step
      refine wpStill_nil ?_
      change wpList _ _ _ _ _ wr.drew
      go_wp2_with (go_at_call 110; refine (add_any _ g K buf (n + s.size) _ HZ.out hT.drew hl.drew hK).mono ?_; rintro e w2 ⟨rfl, hl2, hO2⟩)
      have hT2 := hT.only (Only.drew (Only.refl wr g)|>.trans hO2) hg
      go_roundw
      case rel =>
        exact ⟨_, _, rfl, by rw [ByteArray.size_extract]; omega, hl2, mix_ok _ _, Lib.hid (by rw [HF.out, feed_long K r.data.toList (by rw [← Lib.size_eq]; exact hlt), head_list, rest_list]), Lib.hid (by rw [HL.out, tail_long r.data.toList (by rw [← Lib.size_eq]; exact hlt), rest_list]), hT2, hO.drew.trans hO2⟩
      case measure => simp [strSize]; omega
    · have k8 := hl.c8
      have f8 := hl.frozen 8
      have hz : (({ data := #[] } : ByteArray) ++ r).size ≤ 281474976710656 := by rw [empty_cat]; omega
      go_wp2_with (go_at_call 111; refine (clone_any _ _ hz).mono ?_; rintro e w3 ⟨rfl, hb3⟩; have hl3 := Lies.on (hl.buf { data := #[] }) hb3; have k18 := hl3.c8; have f18 := hl3.frozen 8; have hO3 := ((hO.put (p := ⟨g, 8, none⟩) (Or.inl rfl) (.string { data := #[] })).on hb3).put (p := ⟨g, 8, none⟩) (Or.inl rfl) (.string (({ data := #[] } : ByteArray) ++ r)))
      go_end0
      have hsh : r.data.toList.length < 64 := by rw [← Lib.size_eq]; omega
      refine ⟨rfl, ?_, hO3⟩
      rw [HF.out, HL.out, feed_short K _ hsh, tail_short _ hsh, show bytesOf r.data.toList = ({ data := #[] } : ByteArray) ++ r by rw [empty_cat]; exact Lib.mk_data r]
      exact hl3.buf _

/-- bytes go into a sum that works -/
theorem take_any (g : Nat) (H : H8) (buf s : ByteArray) (n : Nat) (w : World) (hb : buf.size < 64) (hs2 : s.size ≤ 281474976710000) (hn : n + s.size < 18446744073709551616) (hg : 1 < g ∧ 7 < g) (hT : Tab w) (hl : Lies w g 153 (sumA H buf n)) (hok : H.Ok) :
    Calls Tryz.prog 74 #[.pointer (some ⟨g, 0, none⟩), .string s] w fun e w' => e = .returned (.tuple #[]) ∧ Lies w' g 153 (sumA (feed H (buf.data.toList ++ s.data.toList)) (bytesOf (tailB (buf.data.toList ++ s.data.toList))) (n + s.size)) ∧ Only g w w' := by
  by_cases hs : 64 ≤ buf.size + s.size
  · exact take_long g H buf s n w hb hs hs2 hn hg hT hl hok
  · have hsh : (buf.data.toList ++ s.data.toList).length < 64 := by rw [List.length_append, ← Lib.size_eq, ← Lib.size_eq]; omega
    rw [feed_short H _ hsh, tail_short _ hsh, ← list_append, show bytesOf (buf ++ s).data.toList = buf ++ s from Lib.mk_data _]
    exact take_short g H buf s n w (by omega) hn hl
end Go.Proofs.YtdjglghecekeoaaGreatDoor.U

/- The contracts of the program's calls that put a number's bytes behind others. -/
namespace Go.Proofs.YtdjglghecekeoaaGreatDoor.U
open Go.RowKit
set_option maxRecDepth 100000

/-- what a row holds when k of a number's bytes are behind others -/
def upto (acc : List UInt8) (n w k : Nat) : List UInt8 := acc ++ (bigL n w).take k
theorem upto_zero (acc : List UInt8) (n w : Nat) : upto acc n w 0 = acc := by simp [upto]
theorem upto_end (acc : List UInt8) (n w : Nat) : upto acc n w w = acc ++ bigL n w := by
  unfold upto
  rw [List.take_of_length_le (by rw [bigL_length]; exact Nat.le_refl _)]
theorem upto_length (acc : List UInt8) (n w k : Nat) (h : k ≤ w) : (upto acc n w k).length = acc.length + k := by
  unfold upto
  rw [List.length_append, List.length_take, bigL_length]
  omega
theorem bigL_take (n w k : Nat) (h : k < w) : (bigL n w).take (k + 1) = (bigL n w).take k ++ [(n / 256 ^ (w - 1 - k) % 256).toUInt8] := by
  induction w generalizing k with
  | zero => omega
  | succ w ih =>
    rw [bigL_head]
    cases k with
    | zero => simp
    | succ k =>
      rw [List.take_succ_cons, List.take_succ_cons, ih k (by omega), show w + 1 - 1 - (k + 1) = w - 1 - k by omega]
      rfl
theorem upto_step (acc : List UInt8) (n w k : Nat) (h : k < w) : upto acc n w (k + 1) = upto acc n w k ++ [(n / 256 ^ (w - 1 - k) % 256).toUInt8] := by
  unfold upto
  rw [bigL_take n w k h, List.append_assoc]

theorem byte_shift (n k : Nat) : (n : Int) / 2 ^ (8 * k) % 256 = (((n / 256 ^ k % 256).toUInt8).toNat : Int) := by
  have e : (2 : Int) ^ (8 * k) = ((256 ^ k : Nat) : Int) := by rw [Int.pow_mul]; simp
  rw [toNat_mod, e]
  omega

set_option maxHeartbeats 400000 in
theorem appendNumber_any (v : Value) (acc : List UInt8) (n x : Nat) (B : Nat) (W : World) (hx : x ≤ 8) (ha : acc.length ≤ 1000) (hB : B ≤ W.heap.size) (hown : W.ownsRow B 5 1 v acc.length (Lib.byteCells acc)) :
    Calls Tryz.prog 142 #[v, .int .u64 n, .int .i64 x] W fun e W' => ∃ v', e = .returned v' ∧ W'.ownsRow B 5 1 v' (acc ++ bigL n x).length (Lib.byteCells (acc ++ bigL n x)) ∧ Below B W W' := by
  obtain ⟨i0, hi, hz0, hz1, hz2⟩ := info_parts info5
  go_enter Tryz.func142, Tryz.ntmps142
  go_wp2_with fail
  go_loopw [0, 9] (fun o i wr => ∃ k : Nat, k ≤ x ∧ i = .int .i64 k ∧ wr.ownsRow B 5 1 o (upto acc n x k).length (Lib.byteCells (upto acc n x k)) ∧ Below B W wr) (fun _ i _ => x - (intOf i).toNat)
  case atStart => exact ⟨0, Nat.zero_le _, rfl, by rw [upto_zero]; exact hown, Below.refl _ _⟩
  case round =>
    clear hown
    obtain ⟨k, hk, rfl, ho, hb⟩ := hrel
    have hBr := Nat.le_trans hB hb.size
    by_cases hlt : k < x
    · have HS := Lib.hid (upto_step acc n x k hlt)
      have hl := upto_length acc n x k hk
      have hl1 : (upto acc n x k).length ≤ 1008 := by omega
      clear hl
      go_wp2_with (at_builtin; refine wpList_append_lies _ rfl _ _ 37 (by rfl) B 5 i0 _ 1 1 Tryz.underlying37 hi hz0 hz1 hz2 rfl (by omega) _ (upto acc n x k).length _ (by rfl) (ho.alloc _) ⟨wr.heap.size, 0, none⟩ 1 1 _ (by rfl) (by rfl) (World.news_of_block (t := 5) (fr := (0, 0)) (heap_alloc_new wr _)) (by simp [Value.oneCell']) (by omega) (by unfold maxLen; omega) (by omega) (by simp; omega) (wr.heap.size + 1) (by simp) ?_; intro g cap w2 hown2 hgrow2 hat2 hlt3)
      go_roundw
      case rel =>
        exact ⟨k + 1, by omega, by go_num, by rw [HS.out]; rw [byte_shift] at hown2; simpa [Lib.byteCells] using hown2, (hb.alloc hBr _).grown hgrow2 (by simp; omega) (fun j hj => (ho.lt j hj).1)⟩
      case measure => simp [intOf]; omega
    · obtain rfl : k = x := by omega
      have HS := Lib.hid (upto_end acc n k)
      go_wp2
      go_ret
      exact ⟨_, rfl, by rw [← HS.out]; exact ho, hb⟩
end Go.Proofs.YtdjglghecekeoaaGreatDoor.U

/- The contract of the program's padding: what comes to so many bytes, so that there are whole blocks. -/
namespace Go.Proofs.YtdjglghecekeoaaGreatDoor.U
open Go.RowKit
set_option maxRecDepth 100000

theorem zeros_list (n : Nat) : (Builtin.zeroCells (Value.int .u8 0).cells n).toList = List.replicate n (Value.int .u8 0) := by
  apply List.ext_getElem
  · rw [Array.length_toList, size_zeroCells, List.length_replicate]; simp [Value.cells]
  · intro i h1 h2
    simp [Builtin.zeroCells, Value.cells, Nat.mod_one]

/-- a byte, and as many zeros as are asked for -/
theorem pad_append (W : World) (B g k : Nat) (hB : B ≤ g) (hk : k < 64) (hl : Lies W g 5 #[.int .u8 128]) :
    ∃ v w', (Builtin.append_ #[37, 54] 37 #[.slice (some ⟨g, 0, none⟩) 1 1, .int .u64 (k : Int)]).run Tryz.prog W = .ok v w' ∧
      w'.ownsRow B 5 1 v (128 :: List.replicate k (0 : UInt8)).length (Lib.byteCells (128 :: List.replicate k 0)) ∧ Below B W w' := by
  obtain ⟨i0, hi, hz0, hz1, hz2⟩ := info_parts info5
  have hlt := hl.lt
  rcases Nat.eq_zero_or_pos k with rfl | h0
  · refine ⟨.slice (some ⟨g, 0, none⟩) 1 1, W, ?_, ?_, Below.refl _ _⟩
    · have e0 : IntKind.i64.wrap 0 = 0 := rfl
      simp [Builtin.append_, run_underlying Tryz.underlying37, run_underlying Tryz.underlying54, sizeOf, typeInfo, hi, hz2, asInt, asIntOf, storeCells, e0]
    · exact ⟨rfl, .inr ⟨g, 1, _, rfl, hB, hl, Nat.le_refl _, by unfold maxLen; omega, rfl, rfl⟩⟩
  · have hn := nextslicecap_le (need := 1 + k) (old := 1) (by omega)
    have hold : (Builtin.firstCells i0.size 1 (.slice (some ⟨g, 0, none⟩) 1 1)).run Tryz.prog W.drew = .ok [Value.int .u8 128].toArray W.drew := by
      rw [hz1]
      exact run_loadCells_list (P := Tryz.prog) W.drew ⟨g, 0, none⟩ [Value.int .u8 128] (World.news_of_block (cs := #[Value.int .u8 128]) (t := 5) (fr := (0, 0)) hl)
    have hr := Lib.run_append_grow_zeros (P := Tryz.prog) W 37 54 37 5 i0 (.int .u8 0) .u64 .u64 Tryz.underlying37 Tryz.underlying54 hi hz0 (some ⟨g, 0, none⟩) 1 1 [.int .u8 128] hold k h0 (by omega) (by omega) (by omega) (by rw [hz2]; omega) (by rw [hz2]; omega)
    have e : (128 :: List.replicate k (0 : UInt8)).length = 1 + k := by simp; omega
    have hge := grownCap_ge W (1 + k) 1 5
    refine ⟨_, _, hr, ?_, (Below.refl B W).drew.alloc (by show B ≤ W.heap.size; omega) _⟩
    rw [e]
    refine ⟨by rw [Lib.byteCells_length, e]; omega, .inr ⟨W.heap.size, _, _, rfl, by omega, heap_alloc_new W.drew _, hge, grownCap_le_maxLen W (1 + k) 1 _ (by unfold maxLen; omega), ?_, ?_⟩⟩
    · simp only [Array.size_append, List.size_toArray, size_zeroCells, Value.cells, List.length_cons, List.length_nil]
      omega
    · simp only [Array.toList_append, zeros_list]
      rw [List.take_left' (by simp; omega)]
      simp [Lib.byteCells]

set_option maxHeartbeats 400000 in
theorem padding_any (n : Nat) (W : World) (hn : n < 2305843009213693952) :
    Calls Tryz.prog 112 #[.int .u64 n] W fun e W' => e = .returned (.string ⟨(pad n).toArray⟩) ∧ Below W.heap.size W W' := by
  obtain ⟨v, w1, hr, ho, hb⟩ := pad_append (W.alloc (.cells #[.int .u8 128] 5)) W.heap.size W.heap.size ((119 - n % 64) % 64) (Nat.le_refl _) (Nat.mod_lt _ (by decide)) (Lies.new _ _ _)
  rw [show (((119 - n % 64) % 64 : Nat) : Int) = (119 - (n : Int) % 64) % 64 by omega] at hr
  have HR := Lib.hid hr
  have hb1 : Below W.heap.size W w1 := ((Below.refl _ W).alloc (Nat.le_refl _) _).trans hb
  have hB := hb1.size
  have hl : (128 :: List.replicate ((119 - n % 64) % 64) (0 : UInt8)).length ≤ 64 := by simp; omega
  have HP := Lib.hid (show pad n = (128 :: List.replicate ((119 - n % 64) % 64) 0) ++ bigL (8 * n) 8 from rfl)
  generalize (128 :: List.replicate ((119 - n % 64) % 64) (0 : UInt8)) = acc at ho hl HP
  clear hr hb
  go_enter Tryz.func112, Tryz.ntmps112
  go_wp2_with (at_builtin; refine Lib.wpList_append_run _ rfl _ _ 37 54 (by rfl) _ _ (by rfl) (by rfl) _ _ HR.out ?_)
  have HA := Lib.hid (appendNumber_any v acc (8 * n) 8 W.heap.size w1 (by omega) (by omega) hB ho)
  go_wp2_with (go_at_call 142; refine HA.out.mono ?_; rintro e w2 ⟨v2, rfl, ho2, hb2⟩; have hcv := str_own ho2)
  go_ret
  exact ⟨ret1_of (val_str HP.out.symm), hb1.trans hb2⟩
end Go.Proofs.YtdjglghecekeoaaGreatDoor.U

/- The contract of the program's text: the words' bytes. -/
namespace Go.Proofs.YtdjglghecekeoaaGreatDoor.U
open Go.RowKit
set_option maxRecDepth 100000

/-- the first words' bytes -/
def outTo (s : H8) : Nat → List UInt8
  | 0 => []
  | k + 1 => outTo s k ++ bigL (s.at k) 4
theorem outTo_end (s : H8) : outTo s 8 = outT s := by simp only [outTo, outT, H8.at, List.nil_append]
theorem outTo_length (s : H8) (k : Nat) : (outTo s k).length = 4 * k := by
  induction k with
  | zero => rfl
  | succ k ih => rw [outTo, List.length_append, ih, bigL_length]; omega

set_option maxHeartbeats 800000 in
theorem text_any (g : Nat) (H : H8) (buf : ByteArray) (n : Nat) (W : World) (hl : Lies W g 153 (sumA H buf n)) (hok : H.Ok) :
    Calls Tryz.prog 113 #[.pointer (some ⟨g, 0, none⟩)] W fun e W' => e = .returned (.string ⟨(outT H).toArray⟩) ∧ Below W.heap.size W W' := by
  have HW := Lib.hid hl.words
  have hix := index_eight H
  clear hl
  go_enter Tryz.func113, Tryz.ntmps113
  go_wp2_with ((with_reducible refine wpL_loadMid g 0 (wordsL H) 8 row26 rfl HW.out ?_ ?_); rfl)
  simp only [wordsL]
  go_loopw [3, 11] (fun o i wr => ∃ k : Nat, k ≤ 8 ∧ i = .int .i64 k ∧ wr.ownsRow W.heap.size 5 1 o (outTo H k).length (Lib.byteCells (outTo H k)) ∧ Below W.heap.size W wr) (fun _ i _ => 8 - (intOf i).toNat)
  case atStart => exact ⟨0, Nat.zero_le _, rfl, World.ownsRow_nil _ _ _ _, Below.refl _ _⟩
  case round =>
    obtain ⟨k, hk, rfl, ho, hb⟩ := hrel
    by_cases hlt : k < 8
    · have hx := hix k hlt
      clear hix
      have hw := H8.at_lt hok k
      have hlen := outTo_length H k
      have HA := Lib.hid (appendNumber_any u3 (outTo H k) (H.at k) 4 W.heap.size wr (by omega) (by omega) hb.size ho)
      clear hlen
      have HS := Lib.hid (show outTo H (k + 1) = outTo H k ++ bigL (H.at k) 4 from rfl)
      go_wp2_with (go_at_call 142; refine HA.out.mono ?_; rintro e w1 ⟨v1, rfl, ho1, hb1⟩)
      go_roundw
      case rel => exact ⟨k + 1, by omega, by go_num, by rw [HS.out]; exact ho1, hb.trans hb1⟩
      case measure => simp [intOf]; omega
    · obtain rfl : k = 8 := by omega
      have hcv := str_own ho
      clear hix
      go_wp2
      go_ret
      exact ⟨ret1_of (val_str (outTo_end H)), hb⟩
end Go.Proofs.YtdjglghecekeoaaGreatDoor.U

/- The contracts of the program's calls on a sum that works: it is laid, asked, ended. -/
namespace Go.Proofs.YtdjglghecekeoaaGreatDoor.U
open Go.RowKit
set_option maxRecDepth 100000

set_option maxHeartbeats 400000 in
theorem workOn_any (H : H8) (buf : ByteArray) (n : Nat) (w : World) :
    Calls Tryz.prog 72 #[.agg (sumA H buf n)] w fun e w' => ∃ g, e = .returned (.pointer (some ⟨g, 0, none⟩)) ∧ w.heap.size ≤ g ∧ Lies w' g 153 (sumA H buf n) ∧ Below w.heap.size w w' := by
  unfold sumA
  go_enter Tryz.func72, Tryz.ntmps72
  go_wp2
  go_ret
  refine ⟨_, rfl, ?_, heap_alloc2_new w _ _, ((Below.refl _ w).alloc (Nat.le_refl _) _).alloc (by simp) _⟩
  simp

set_option maxHeartbeats 400000 in
theorem end_any (g : Nat) (H : H8) (buf : ByteArray) (n : Nat) (w : World) (hb : buf.size < 64) (hn : n < 1152921504606846976) (hg : 1 < g ∧ 7 < g) (hT : Tab w) (hl : Lies w g 153 (sumA H buf n)) (hok : H.Ok) :
    Calls Tryz.prog 75 #[.pointer (some ⟨g, 0, none⟩)] w fun e w' => e = .returned (.string (bytesOf (endT H buf.data.toList n))) ∧ Only g w w' := by
  have k9 := hl.c9
  have hp : (bytesOf (pad n)).size ≤ 72 := by
    rw [Lib.size_eq]
    show (pad n).length ≤ 72
    rw [pad_length]
    omega
  have hp2 : (bytesOf (pad n)).data.toList = pad n := rfl
  go_enter Tryz.func75, Tryz.ntmps75
  go_wp2_with (first | (go_at_call 112; refine (padding_any n _ (by omega)).mono ?_; rintro e w1 ⟨rfl, hb1⟩; have HK := Lib.hid (take_any g H buf (bytesOf (pad n)) n w1 hb (by omega) (by omega) hg (hT.below hb1) (hl.on hb1) hok)) | (go_at_call 74; refine HK.out.mono ?_; rintro e w2 ⟨rfl, hl2, hO2⟩) | (go_at_call 113; refine (text_any g _ _ _ _ hl2 (feed_ok' hok _)).mono ?_; rintro e w3 ⟨rfl, hb3⟩))
  go_ret
  exact ⟨rfl, ((Only.of_below hb1 g).trans hO2).on hb3⟩
end Go.Proofs.YtdjglghecekeoaaGreatDoor.U

/- The contracts of the program's own five calls. -/
namespace Go.Proofs.YtdjglghecekeoaaGreatDoor.U
open Go.RowKit
set_option maxRecDepth 100000

section
variable {P : Program} {ops : Array Oper} {rest : List Oper} {a : Act} {w : World} {Q : Exit → Act → World → Prop} {t' : TypeId} {pos : String} {after : Array Edge}
/-- some cells in the middle of a block are read, the block a package-level variable's -/
theorem wpL_loadGlobal {d : Option Tmp} {x : Operand} {ty : TypeId} (g o : Nat) (cs : List Value) (n : Nat) (hT : RowT P ty n) (hn : cs.length = n) (hg : w.rangeAt g o cs)
    (hx : a.eval x = .pointer (some ⟨g, o, none⟩)) (h : wpList P ops Q rest (a.put d (.agg cs.toArray)) w) : wpList P ops Q (⟨d, .load ty x, t', pos, after, none⟩ :: rest) a w := by
  obtain ⟨⟨ds, hu, hd⟩, hi⟩ := hT
  exact wpList_load_mid (op := ⟨d, .load ty x, t', pos, after, none⟩) rfl ty x rfl g o hx cs ds hg hu hd (by rw [hi, hn]) h
end
theorem Tab.words {w : World} (h : Tab w) : w.rangeAt 1 0 (wordsL h0) := fun j v hv => by
  rw [Nat.zero_add]
  match j, hv with
  | 0, hv | 1, hv | 2, hv | 3, hv | 4, hv | 5, hv | 6, hv | 7, hv => exact (h.1 _ (by decide)).trans hv
abbrev noBytes : ByteArray := { data := #[] }

set_option maxHeartbeats 400000 in
theorem new_any (w : World) (hT : Tab w) :
    Calls Tryz.prog 73 #[] w fun e w' => e = .returned (.agg (sumA h0 noBytes 0)) ∧ Below w.heap.size w w' := by
  go_enter Tryz.func73, Tryz.ntmps73
  have hT2 := fun (o : Obj) => hT.below ((Below.refl _ w).alloc (Nat.le_refl _) o)
  have HT := Lib.hid hT2
  clear hT hT2
  go_wp2_with ((with_reducible refine wpL_loadGlobal 1 0 (wordsL h0) 8 row26 rfl (HT.out _).words ?_ ?_); rfl; simp only [wordsL])
  exact bodyPost_ret (results_row Tryz.results73 row29 rfl (Lies.new w _ (sumA h0 noBytes 0)) rfl) rfl ⟨rfl, (Below.refl _ w).alloc (Nat.le_refl _) _⟩

end Go.Proofs.YtdjglghecekeoaaGreatDoor.U

/- The contracts of the reference's Roots, Begins, First, Same. -/
namespace Go.Proofs.YtdjglghecekeoaaGreatDoor.U
open Go.RowKit
set_option maxRecDepth 100000

/-- words lie there -/
def Row32 (w : World) (g : Nat) (l : List Nat) : Prop := ∀ i, i < l.length → w.cell? ⟨g, i, none⟩ = some (u32 (l.getD i 0))
theorem Row32.on {w w' : World} {g : Nat} {l : List Nat} (h : Row32 w g l) (hb : Below w.heap.size w w') : Row32 w' g l := fun i hi => by
  have h1 := h i hi
  exact (hb.cell (p := ⟨g, i, none⟩) (World.block_lt_of_cell? w _ h1)).trans h1
end Go.Proofs.YtdjglghecekeoaaGreatDoor.U

/- The contract of the reference's Write. -/
namespace Go.Proofs.YtdjglghecekeoaaGreatDoor.U
open Go.RowKit
set_option maxRecDepth 100000

/-- values go into a row, from a place on -/
def putAll (cs : Array Value) (o : Nat) : List Value → Array Value
  | [] => cs
  | v :: r => putAll (cs.setIfInBounds o v) (o + 1) r
theorem Lies.putAll {g : Nat} {t : TypeId} : ∀ (vs : List Value) (o : Nat) {w : World} {cs : Array Value}, Lies w g t cs → Lies (w.setCells g o vs) g t (Go.Proofs.YtdjglghecekeoaaGreatDoor.U.putAll cs o vs)
  | [], _, _, _, h => h
  | v :: r, o, _, _, h => Lies.putAll r (o + 1) (h.put o v)
theorem Only.putAll {g : Nat} {a : World} : ∀ (vs : List Value) (o : Nat) {w : World}, Only g a w → Only g a (w.setCells g o vs)
  | [], _, _, h => h
  | v :: r, o, _, h => Only.putAll r (o + 1) (h.put (p := ⟨g, o, none⟩) (Or.inl rfl) v)
theorem words_one (M : H8) : ∀ v ∈ (wordsA M).toList, v.oneCell' = true := by
  intro v hv
  simp at hv
  rcases hv with rfl | rfl | rfl | rfl | rfl | rfl | rfl | rfl <;> rfl
end Go.Proofs.YtdjglghecekeoaaGreatDoor.U

/- The contracts of the program's Write and Sum. -/
namespace Go.Proofs.YtdjglghecekeoaaGreatDoor.U
open Go.RowKit
set_option maxRecDepth 100000

theorem results_row_tmp {P : Program} {fn : Func} {p u : Tmp} {ty : TypeId} {n : Nat} {w : World} {g : Nat} {t : TypeId} {cs : Array Value} {tmps : Array Value} {x : Value} (h : fn.results = #[.cell p ty, .tmp u]) (hT : RowT P ty n) (hn : cs.size = n) (hg : Lies w g t cs) (hp : tmps.getD p undef = .pointer (some ⟨g, 0, none⟩)) (hx : tmps.getD u undef = x) :
    (results fn tmps).run P w = .ok (.tuple #[.agg cs, x]) w := by
  obtain ⟨⟨d, hu, hd⟩, hi⟩ := hT
  have hl := run_loadVar_row (P := P) w g t ty cs (0, 0) d hg hu (by cases d <;> first | rfl | simp [TypeDesc.isRow] at hd) (by rw [hi, hn])
  have hp' : tmps[p]?.getD undef = .pointer (some ⟨g, 0, none⟩) := by simpa using hp
  have hx' : tmps[u]?.getD undef = x := by simpa using hx
  simp [results, h, hp', hx', asAddr, hl]

end Go.Proofs.YtdjglghecekeoaaGreatDoor.U

/- Rows of texts in memory: what a slice of strings reads as. -/
namespace Go.Proofs.YtdjglghecekeoaaGreatDoor
open Go.RowKit

def str (x : List UInt8) : Value := .string ⟨x.toArray⟩
/-- the slice value v reads as the texts l -/
def Strs (w : World) (v : Value) (l : List (List UInt8)) : Prop :=
  ∃ a c, v = .slice a l.length c ∧ l.length ≤ c ∧ c ≤ maxLen ∧ (a = none → c = 0) ∧ (l ≠ [] → ∃ b off, a = some ⟨b, off, none⟩ ∧ ∀ i x, l[i]? = some x → w.cell? ⟨b, off + i, none⟩ = some (str x))

theorem Strs.nil (w : World) : Strs w (.slice none 0 0) [] := ⟨none, 0, rfl, Nat.le_refl _, Nat.zero_le _, fun _ => rfl, fun h => absurd rfl h⟩
theorem Strs.below {w w' : World} {v : Value} {l : List (List UInt8)} (h : Strs w v l) (hb : Below w.heap.size w w') : Strs w' v l := by
  obtain ⟨a, c, hv, hc, hm, hn, hl⟩ := h
  refine ⟨a, c, hv, hc, hm, hn, fun hne => ?_⟩
  obtain ⟨b, off, ha, hx⟩ := hl hne
  refine ⟨b, off, ha, fun i x hi => ?_⟩
  have h1 := hx i x hi
  rw [hb.cell (p := ⟨b, off + i, none⟩) (World.block_lt_of_cell? w _ h1)]
  exact h1
theorem Strs.owned {w : World} {B n : Nat} {v : Value} {l : List (List UInt8)} (h : w.ownsRow B 9 1 v n (l.map str)) : Strs w v l := by
  have hn : l.length = n := by have := h.1; simpa using this
  subst hn
  have h0 := h
  rcases h.2 with ⟨rfl, e⟩ | ⟨g, cap, cur, rfl, _, _, hcap, hmax, _⟩
  · have : l = [] := List.eq_nil_of_length_eq_zero (by omega)
    subst this
    exact Strs.nil w
  · refine ⟨some ⟨g, 0, none⟩, cap, rfl, hcap, hmax, (fun e => by cases e), fun _ => ⟨g, 0, rfl, fun i x hi => ?_⟩⟩
    rw [Nat.zero_add, h0.cellAt i (by have := (List.getElem?_eq_some_iff.1 hi).1; omega)]
    simp [hi]

theorem str_size (x : List UInt8) : ({ data := x.toArray } : ByteArray).size = x.length := by simp [ByteArray.size]

end Go.Proofs.YtdjglghecekeoaaGreatDoor

/- The contract of the program's Sum: the sum of parts, one behind the other. -/
namespace Go.Proofs.YtdjglghecekeoaaGreatDoor.U
open Go.RowKit
set_option maxRecDepth 100000

theorem bytes_size (l : List UInt8) : (bytesOf l).size = l.length := by rw [Lib.size_eq]; rfl
theorem take_flat {l : List (List UInt8)} {k : Nat} {x : List UInt8} (h : l[k]? = some x) : (l.take (k + 1)).flatten = (l.take k).flatten ++ x := by
  rw [List.take_add_one, h, Option.toList_some, List.flatten_append, List.flatten_singleton]
theorem flat_le (l : List (List UInt8)) (k : Nat) : (l.take k).flatten.length ≤ l.flatten.length := by
  have e : l.flatten = (l.take k).flatten ++ (l.drop k).flatten := by rw [← List.flatten_append, List.take_append_drop]
  rw [e, List.length_append]
  omega

set_option maxHeartbeats 800000 in
theorem sum_any (w : World) (v : Value) (l : List (List UInt8)) (hl : Strs w v l) (hx : l.flatten.length ≤ 281474976710000) (hT : Tab w) :
    Calls Tryz.prog 46 #[v] w fun e w' => e = .returned (.string (bytesOf (sumT l.flatten))) ∧ Below w.heap.size w w' := by
  have h2 := hT.two
  have HT := Lib.hid hT
  clear hT
  obtain ⟨a, c, rfl, hc, hm, hn, hl⟩ := hl
  unfold maxLen at hm
  go_enter Tryz.func46, Tryz.ntmps46
  go_wp2_with (first | (go_at_call 73; refine (new_any _ HT.out).mono ?_; rintro e w1 ⟨rfl, hb1⟩) | (go_at_call 72; refine (workOn_any h0 noBytes 0 _).mono ?_; rintro e w2 ⟨g, rfl, hg1, hl1, hb2⟩; replace hb2 := below_on hb1 hb2; have hgw : w.heap.size ≤ g := Nat.le_trans hb1.size hg1; clear hb1 hg1))
  go_loopw [10] (fun i wr => ∃ k : Nat, k ≤ l.length ∧ i = .int .i64 k ∧ Lies wr g 153 (sumA (feed h0 (l.take k).flatten) (bytesOf (tailB (l.take k).flatten)) (l.take k).flatten.length) ∧ Below w.heap.size w wr) (fun i _ => l.length - (intOf i).toNat)
  case atStart => exact ⟨0, Nat.zero_le _, rfl, by rw [List.take_zero, List.flatten_nil, feed_short _ _ (by decide), tail_short _ (by decide)]; exact hl1, hb2⟩
  case round =>
    clear hl1 hb2
    obtain ⟨k, hk, rfl, hli, hb⟩ := hrel
    have hB := hb.size
    have htl : (bytesOf (tailB (l.take k).flatten)).size < 64 := by rw [bytes_size, tail_length]; exact Nat.mod_lt _ (by decide)
    have hle := flat_le l k
    by_cases hlt : k < l.length
    · obtain ⟨b, off, rfl, hcell⟩ := hl (by intro h; subst h; simp at hlt)
      obtain ⟨x, hxk⟩ : ∃ x, l[k]? = some x := ⟨l[k], List.getElem?_eq_getElem hlt⟩
      have g1 := hcell k x hxk
      have hc1 : wr.cell? ⟨b, off + k, none⟩ = some (.string ⟨x.toArray⟩) := (hb.cell (p := ⟨b, off + k, none⟩) (World.block_lt_of_cell? w _ g1)).trans g1
      have hle2 := flat_le l (k + 1)
      have HF := Lib.hid (take_flat hxk)
      rw [HF.out, List.length_append] at hle2
      have HK := Lib.hid (take_any g _ _ (bytesOf x) _ wr htl (by rw [bytes_size]; omega) (by rw [bytes_size]; omega) (by omega) (HT.out.below hb) hli (feed_ok' h0_ok _))
      clear hxk hcell g1 hl
      go_wp2_with (go_at_call 74; refine HK.out.mono ?_; rintro e w3 ⟨rfl, hl3, hO3⟩)
      go_roundw
      case rel => exact ⟨k + 1, by omega, by go_num, by rw [HF.out, feed_append _ _ _ _ (Nat.le_refl _), tail_append _ _ _ (Nat.le_refl _), List.length_append, ← bytes_size x]; exact hl3, hO3.below hb hB hgw⟩
      case measure => simp [intOf]; omega
    · have hE := end_any g _ _ _ wr htl (by omega) (by omega) (HT.out.below hb) hli (feed_ok' h0_ok _)
      rw [show l.take k = l from List.take_of_length_le (by omega), show (bytesOf (tailB l.flatten)).data.toList = tailB l.flatten from rfl, end_sum] at hE
      have HK := Lib.hid hE
      clear hE
      go_wp2_with (go_at_call 75; refine HK.out.mono ?_; rintro e w3 ⟨rfl, hO3⟩)
      go_ret
      exact ⟨rfl, hO3.below hb hB hgw⟩
end Go.Proofs.YtdjglghecekeoaaGreatDoor.U

/- The contract of the statements' own call that asks for a known sum. -/
namespace Go.Proofs.YtdjglghecekeoaaGreatDoor.U
open Go.RowKit
set_option maxRecDepth 100000

/-- one text as a row that was just laid -/
theorem strs_one (w : World) (x : List UInt8) : Strs (w.alloc (.cells #[.string ⟨x.toArray⟩] 9)) (.slice (some ⟨w.heap.size, 0, none⟩) 1 1) [x] := by
  refine ⟨some ⟨w.heap.size, 0, none⟩, 1, rfl, Nat.le_refl _, by unfold maxLen; omega, (fun h => by cases h), fun _ => ⟨w.heap.size, 0, rfl, fun i y hi => ?_⟩⟩
  match i, hi with
  | 0, hi =>
    have : x = y := by simpa using hi
    subst this
    rw [World.cell?_alloc_new]
    rfl
theorem sum_one (w : World) (x : List UInt8) (hx : x.length ≤ 1000000000) (hT : Tab w) :
    Calls Tryz.prog 46 #[.slice (some ⟨w.heap.size, 0, none⟩) 1 1] (w.alloc (.cells #[.string ⟨x.toArray⟩] 9)) fun e w' => e = .returned (.string (bytesOf (sumT x))) ∧ Below w.heap.size w w' := by
  have hb := (Below.refl w.heap.size w).alloc (Nat.le_refl _) (.cells #[.string ⟨x.toArray⟩] 9)
  have h := sum_any _ _ [x] (strs_one w x) (by simp; omega) (hT.below hb)
  rw [List.flatten_singleton] at h
  exact h.mono fun e w' ⟨he, hb2⟩ => ⟨he, below_on hb hb2⟩

end Go.Proofs.YtdjglghecekeoaaGreatDoor.U

