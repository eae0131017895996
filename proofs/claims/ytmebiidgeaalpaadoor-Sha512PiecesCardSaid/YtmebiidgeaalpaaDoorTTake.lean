/- The contract of the program's take: bytes go into a sum that works. -/
import Derived.Test.YtmebiidgeaalpaaDoorTAdd
import Derived.Test.YtmebiidgeaalpaaDoorTClone
namespace Go.Proofs.YtmebiidgeaalpaaDoor.T
open Go.RowKit

def strSize : Value → Nat | .string b => b.size | _ => 0
def bytesOf (l : List UInt8) : ByteArray := ⟨l.toArray⟩
theorem list_append (a b : ByteArray) : (a ++ b).data.toList = a.data.toList ++ b.data.toList := by
  rw [ByteArray.data_append, Array.toList_append]
theorem sumA_len (s : H8) (buf : ByteArray) (n m : Nat) : (sumA s buf n).setIfInBounds 9 (.int .u64 (m : Int)) = sumA s buf m := rfl
theorem sumA_buf (s : H8) (buf b : ByteArray) (n : Nat) : (sumA s buf n).setIfInBounds 8 (.string b) = sumA s b n := rfl
theorem Lies.len {w : World} {g : Nat} {t : TypeId} {s : H8} {buf : ByteArray} {n : Nat} (h : Lies w g t (sumA s buf n)) (m : Nat) : Lies (w.setCell ⟨g, 9, none⟩ (.int .u64 (m : Int))) g t (sumA s buf m) := h.put 9 _
theorem Lies.buf {w : World} {g : Nat} {t : TypeId} {s : H8} {buf : ByteArray} {n : Nat} (h : Lies w g t (sumA s buf n)) (b : ByteArray) : Lies (w.setCell ⟨g, 8, none⟩ (.string b)) g t (sumA s b n) := h.put 8 _
theorem Lies.c8 {w : World} {g : Nat} {t : TypeId} {s : H8} {buf : ByteArray} {n : Nat} (h : Lies w g t (sumA s buf n)) : w.cell? ⟨g, 8, none⟩ = some (.string buf) := h.cell 8
theorem Lies.c9 {w : World} {g : Nat} {t : TypeId} {s : H8} {buf : ByteArray} {n : Nat} (h : Lies w g t (sumA s buf n)) : w.cell? ⟨g, 9, none⟩ = some (.int .u64 (n : Int)) := h.cell 9

set_option maxRecDepth 100000 in
set_option maxHeartbeats 800000 in
theorem take_short (g : Nat) (H : H8) (buf s : ByteArray) (n : Nat) (w : World) (hs : buf.size + s.size < 128) (hn : n + s.size < 18446744073709551616) (hl : Lies w g 58 (sumA H buf n)) :
    Calls Tryd.prog 25 #[.pointer (some ⟨g, 0, none⟩), .string s] w fun e w' => e = .returned (.tuple #[]) ∧ Lies w' g 58 (sumA H (buf ++ s) (n + s.size)) ∧ Only g w w' := by
  have k8 := hl.c8
  have k9 := hl.c9
  have f8 := hl.frozen 8
  have f9 := hl.frozen 9
  have hz : (buf ++ s).size ≤ 281474976710656 := by rw [ByteArray.size_append]; omega
  go_enter Tryd.func25, Tryd.ntmps25
  go_wp2_with (go_at_call 32; refine (clone_any _ _ hz).mono ?_; rintro e w1 ⟨rfl, hb1⟩; have hl1 := Lies.on (hl.len (n + s.size)) hb1; have k18 := hl1.c8; have f18 := hl1.frozen 8; have hO := (((Only.refl w g).put (p := ⟨g, 9, none⟩) (Or.inl rfl) (.int .u64 ((n + s.size : Nat) : Int))).on hb1).put (p := ⟨g, 8, none⟩) (Or.inl rfl) (.string (buf ++ s)))
  go_end0
  exact ⟨rfl, hl1.buf _, hO⟩
theorem Tab.put {w : World} (h : Tab w) {p : Addr} (hp : 2 ≤ p.block) (v : Value) : Tab (w.setCell p v) :=
  ⟨fun i hi => (World.cell?_of_block (Below.heap_setCell w p v 0 (by omega))).trans (h.1 i hi), fun t ht => (World.cell?_of_block (Below.heap_setCell w p v 1 (by omega))).trans (h.2 t ht)⟩
theorem Tab.drew {w : World} (h : Tab w) : Tab w.drew := h

theorem feed_first (H : H8) (a b : List UInt8) (m : Nat) (ha : a.length + m = 128) (hb : m ≤ b.length) : feed H (a ++ b) = feed (mix H (a ++ b.take m)) (b.drop m) := by
  rw [feed_long H (a ++ b) (by rw [List.length_append]; omega), List.take_append, List.drop_append, List.take_of_length_le (by omega), List.drop_of_length_le (by omega), show 128 - a.length = m by omega, List.nil_append]
theorem tail_first (a b : List UInt8) (m : Nat) (ha : a.length + m = 128) (hb : m ≤ b.length) : tailB (a ++ b) = tailB (b.drop m) := by
  rw [tail_long (a ++ b) (by rw [List.length_append]; omega), List.drop_append, List.drop_of_length_le (by omega), show 128 - a.length = m by omega, List.nil_append]

theorem empty_cat (r : ByteArray) : ({ data := #[] } : ByteArray) ++ r = r := by
  apply ByteArray.ext
  rw [ByteArray.data_append]
  simp
theorem head_list (s : ByteArray) (m : Nat) : (s.extract 0 m).data.toList = s.data.toList.take m := by rw [extract_list, List.drop_zero, Nat.sub_zero]
theorem rest_list (s : ByteArray) (m : Nat) : (s.extract m s.size).data.toList = s.data.toList.drop m := by
  rw [extract_list, List.take_of_length_le (by rw [List.length_drop, ← Lib.size_eq]; exact Nat.le_refl _)]

set_option maxRecDepth 100000 in
set_option maxHeartbeats 1600000 in
theorem take_long (g : Nat) (H : H8) (buf s : ByteArray) (n : Nat) (w : World) (hb : buf.size < 128) (hs : 128 ≤ buf.size + s.size) (hs2 : s.size ≤ 281474976710000) (hn : n + s.size < 18446744073709551616) (hg : 2 ≤ g) (hT : Tab w) (hl : Lies w g 58 (sumA H buf n)) (hok : H.Ok) :
    Calls Tryd.prog 25 #[.pointer (some ⟨g, 0, none⟩), .string s] w fun e w' => e = .returned (.tuple #[]) ∧ Lies w' g 58 (sumA (feed H (buf.data.toList ++ s.data.toList)) (bytesOf (tailB (buf.data.toList ++ s.data.toList))) (n + s.size)) ∧ Only g w w' := by
  obtain ⟨m, hm⟩ : ∃ m, buf.size + m = 128 := ⟨128 - buf.size, by omega⟩
  have hm1 : m ≤ s.size := by omega
  have em : (128 : Int) - (buf.size : Int) = (m : Int) := by omega
  have hsz : (buf ++ s.extract 0 m).size = 128 := by rw [ByteArray.size_append, extract_size _ _ _ hm1]; omega
  have HF := Lib.hid (feed_first H buf.data.toList s.data.toList m (by rw [← Lib.size_eq]; exact hm) (by rw [← Lib.size_eq]; exact hm1))
  have HL := Lib.hid (tail_first buf.data.toList s.data.toList m (by rw [← Lib.size_eq]; exact hm) (by rw [← Lib.size_eq]; exact hm1))
  have hx : (s.extract 0 m).size ≤ 128 := by rw [extract_size _ _ _ hm1]; omega
  have hno : ¬ 9223372036854775807 < buf.size + m := by omega
  have HM := Lib.hid hm
  have HZ := Lib.hid hsz
  clear hm hsz
  have k8 := hl.c8
  have k9 := hl.c9
  have f9 := hl.frozen 9
  go_enter Tryd.func25, Tryd.ntmps25
  go_wp2_with fail
  generalize hW : World.setCell w _ _ = w0
  have hl0 : Lies w0 g 58 (sumA H buf (n + s.size)) := by rw [← hW]; exact hl.len (n + s.size)
  have hT0 : Tab w0 := by rw [← hW]; exact hT.put hg _
  have hO0 : Only g w w0 := by rw [← hW]; exact (Only.refl w g).put (Or.inl rfl) _
  clear hW k8 k9 f9 hl hT
  have k8 := hl0.c8
  refine wp_region_still_tail 13 (by kernel_rfl) (by kernel_rfl) ?_
  simp only [List.take_succ_cons, List.take_zero, List.drop_succ_cons, List.drop_zero]
  change wpStill _ _ w0.drew _ _ _
  repeat still_step
  refine wpStill_nil ?_
  change wpList _ _ _ _ _ w0.drew
  go_wp2_with (go_at_call 31; refine (add_any _ g H buf (n + s.size) _ HZ.out hT0.drew hl0.drew hok).mono ?_; rintro e w1 ⟨rfl, hl1, hO1⟩)
  have hT1 := hT0.only (Only.drew (Only.refl w0 g)|>.trans hO1) hg
  have hO2 := hO0.drew.trans hO1
  clear k8 hT0 hl0 hO0 hO1 hx hno em
  go_loopw [1] (fun v wr => ∃ (r : ByteArray) (K : H8), v = .string r ∧ r.size ≤ 281474976710000 ∧ Lies wr g 58 (sumA K buf (n + s.size)) ∧ K.Ok ∧ Hid (feed H (buf.data.toList ++ s.data.toList) = feed K r.data.toList) ∧ Hid (tailB (buf.data.toList ++ s.data.toList) = tailB r.data.toList) ∧ Tab wr ∧ Only g w wr) (fun v _ => strSize v)
  case atStart => exact ⟨_, _, rfl, by rw [ByteArray.size_extract]; omega, hl1, mix_ok _ _, Lib.hid (by rw [HF.out, list_append, head_list, rest_list]), Lib.hid (by rw [HL.out, rest_list]), hT1, hO2⟩
  case round =>
    clear hl1 hT1 hO2 HF HL HM HZ
    obtain ⟨r, K, rfl, hr, hl, hK, HF, HL, hT, hO⟩ := hrel
    by_cases hlt : 128 ≤ r.size
    · have h64 : (r.extract 0 128).size = 128 := by rw [extract_size _ _ _ hlt]
      have HZ := Lib.hid h64
      clear h64
      go_wp2_with fail
      refine wp_region_still_tail 5 (by kernel_rfl) (by kernel_rfl) ?_
      simp only [List.take_succ_cons, List.take_zero, List.drop_succ_cons, List.drop_zero]
      change wpStill _ _ wr.drew _ _ _
      repeat still_step
      refine wpStill_nil ?_
      change wpList _ _ _ _ _ wr.drew
      go_wp2_with (go_at_call 31; refine (add_any _ g K buf (n + s.size) _ HZ.out hT.drew hl.drew hK).mono ?_; rintro e w2 ⟨rfl, hl2, hO2⟩)
      have hT2 := hT.only (Only.drew (Only.refl wr g)|>.trans hO2) hg
      go_roundw
      case rel =>
        exact ⟨_, _, rfl, by rw [ByteArray.size_extract]; omega, hl2, mix_ok _ _, Lib.hid (by rw [HF.out, feed_long K r.data.toList (by rw [← Lib.size_eq]; exact hlt), head_list, rest_list]), Lib.hid (by rw [HL.out, tail_long r.data.toList (by rw [← Lib.size_eq]; exact hlt), rest_list]), hT2, hO.drew.trans hO2⟩
      case measure => simp [strSize]; omega
    · have k8 := hl.c8
      have f8 := hl.frozen 8
      have hz : (({ data := #[] } : ByteArray) ++ r).size ≤ 281474976710656 := by rw [empty_cat]; omega
      go_wp2_with (go_at_call 32; refine (clone_any _ _ hz).mono ?_; rintro e w3 ⟨rfl, hb3⟩; have hl3 := Lies.on (hl.buf { data := #[] }) hb3; have k18 := hl3.c8; have f18 := hl3.frozen 8; have hO3 := ((hO.put (p := ⟨g, 8, none⟩) (Or.inl rfl) (.string { data := #[] })).on hb3).put (p := ⟨g, 8, none⟩) (Or.inl rfl) (.string (({ data := #[] } : ByteArray) ++ r)))
      go_end0
      have hsh : r.data.toList.length < 128 := by rw [← Lib.size_eq]; omega
      refine ⟨rfl, ?_, hO3⟩
      rw [HF.out, HL.out, feed_short K _ hsh, tail_short _ hsh, show bytesOf r.data.toList = ({ data := #[] } : ByteArray) ++ r by rw [empty_cat]; exact Lib.mk_data r]
      exact hl3.buf _

/-- bytes go into a sum that works -/
theorem take_any (g : Nat) (H : H8) (buf s : ByteArray) (n : Nat) (w : World) (hb : buf.size < 128) (hs2 : s.size ≤ 281474976710000) (hn : n + s.size < 18446744073709551616) (hg : 2 ≤ g) (hT : Tab w) (hl : Lies w g 58 (sumA H buf n)) (hok : H.Ok) :
    Calls Tryd.prog 25 #[.pointer (some ⟨g, 0, none⟩), .string s] w fun e w' => e = .returned (.tuple #[]) ∧ Lies w' g 58 (sumA (feed H (buf.data.toList ++ s.data.toList)) (bytesOf (tailB (buf.data.toList ++ s.data.toList))) (n + s.size)) ∧ Only g w w' := by
  by_cases hs : 128 ≤ buf.size + s.size
  · exact take_long g H buf s n w hb hs hs2 hn hg hT hl hok
  · have hsh : (buf.data.toList ++ s.data.toList).length < 128 := by rw [List.length_append, ← Lib.size_eq, ← Lib.size_eq]; omega
    rw [feed_short H _ hsh, tail_short _ hsh, ← list_append, show bytesOf (buf ++ s).data.toList = buf ++ s from Lib.mk_data _]
    exact take_short g H buf s n w (by omega) hn hl
end Go.Proofs.YtmebiidgeaalpaaDoor.T
