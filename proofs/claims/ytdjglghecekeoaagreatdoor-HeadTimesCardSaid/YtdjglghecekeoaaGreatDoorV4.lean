/- Texts that stand on one another, put together: UPad, UText, UWork, UCalls, URefPlain, URefRows, URefWrite, UWrite, Strs, USum, URefEnd, UAlive. -/
import Derived.Test.YtdjglghecekeoaaGreatDoorV3
import Derived.BigQuiet
import Derived.Deep.QuietTactic
import Derived.Laws.ResultCell
import Derived.Lib.AppendZerosOnto
/- The contract of the program's padding: what comes to so many bytes, so that there are whole blocks. -/
namespace Go.Proofs.YtdjglghecekeoaaGreatDoor.U
open Go.RowKit
set_option maxRecDepth 100000

theorem zeros_list (n : Nat) : (Builtin.zeroCells (Value.int .u8 0).cells n).toList = List.replicate n (Value.int .u8 0) := by
  apply List.ext_getElem
  · rw [Array.length_toList, size_zeroCells, List.length_replicate]; simp [Value.cells]
  · intro i h1 h2
    simp [Builtin.zeroCells, Value.cells, Nat.mod_one]

/-- a byte, and as many zeros as are asked for -/
theorem pad_append (W : World) (B g k : Nat) (hB : B ≤ g) (hk : k < 64) (hl : Lies W g 5 #[.int .u8 128]) :
    ∃ v w', (Builtin.append_ #[37, 54] 37 #[.slice (some ⟨g, 0, none⟩) 1 1, .int .u64 (k : Int)]).run Tryz.prog W = .ok v w' ∧
      w'.ownsRow B 5 1 v (128 :: List.replicate k (0 : UInt8)).length (Lib.byteCells (128 :: List.replicate k 0)) ∧ Below B W w' := by
  obtain ⟨i0, hi, hz0, hz1, hz2⟩ := info_parts info5
  have hlt := hl.lt
  rcases Nat.eq_zero_or_pos k with rfl | h0
  · refine ⟨.slice (some ⟨g, 0, none⟩) 1 1, W, ?_, ?_, Below.refl _ _⟩
    · have e0 : IntKind.i64.wrap 0 = 0 := rfl
      simp [Builtin.append_, run_underlying Tryz.underlying37, run_underlying Tryz.underlying54, sizeOf, typeInfo, hi, hz2, asInt, asIntOf, storeCells, e0]
    · exact ⟨rfl, .inr ⟨g, 1, _, rfl, hB, hl, Nat.le_refl _, by unfold maxLen; omega, rfl, rfl⟩⟩
  · have hn := nextslicecap_le (need := 1 + k) (old := 1) (by omega)
    have hold : (Builtin.firstCells i0.size 1 (.slice (some ⟨g, 0, none⟩) 1 1)).run Tryz.prog W.drew = .ok [Value.int .u8 128].toArray W.drew := by
      rw [hz1]
      exact run_loadCells_list (P := Tryz.prog) W.drew ⟨g, 0, none⟩ [Value.int .u8 128] (World.news_of_block (cs := #[Value.int .u8 128]) (t := 5) (fr := (0, 0)) hl)
    have hr := Lib.run_append_grow_zeros (P := Tryz.prog) W 37 54 37 5 i0 (.int .u8 0) .u64 .u64 Tryz.underlying37 Tryz.underlying54 hi hz0 (some ⟨g, 0, none⟩) 1 1 [.int .u8 128] hold k h0 (by omega) (by omega) (by omega) (by rw [hz2]; omega) (by rw [hz2]; omega)
    have e : (128 :: List.replicate k (0 : UInt8)).length = 1 + k := by simp; omega
    have hge := grownCap_ge W (1 + k) 1 5
    refine ⟨_, _, hr, ?_, (Below.refl B W).drew.alloc (by show B ≤ W.heap.size; omega) _⟩
    rw [e]
    refine ⟨by rw [Lib.byteCells_length, e]; omega, .inr ⟨W.heap.size, _, _, rfl, by omega, heap_alloc_new W.drew _, hge, grownCap_le_maxLen W (1 + k) 1 _ (by unfold maxLen; omega), ?_, ?_⟩⟩
    · simp only [Array.size_append, List.size_toArray, size_zeroCells, Value.cells, List.length_cons, List.length_nil]
      omega
    · simp only [Array.toList_append, zeros_list]
      rw [List.take_left' (by simp; omega)]
      simp [Lib.byteCells]

set_option maxHeartbeats 400000 in
theorem padding_any (n : Nat) (W : World) (hn : n < 2305843009213693952) :
    Calls Tryz.prog 112 #[.int .u64 n] W fun e W' => e = .returned (.string ⟨(pad n).toArray⟩) ∧ Below W.heap.size W W' := by
  obtain ⟨v, w1, hr, ho, hb⟩ := pad_append (W.alloc (.cells #[.int .u8 128] 5)) W.heap.size W.heap.size ((119 - n % 64) % 64) (Nat.le_refl _) (Nat.mod_lt _ (by decide)) (Lies.new _ _ _)
  rw [show (((119 - n % 64) % 64 : Nat) : Int) = (119 - (n : Int) % 64) % 64 by omega] at hr
  have HR := Lib.hid hr
  have hb1 : Below W.heap.size W w1 := ((Below.refl _ W).alloc (Nat.le_refl _) _).trans hb
  have hB := hb1.size
  have hl : (128 :: List.replicate ((119 - n % 64) % 64) (0 : UInt8)).length ≤ 64 := by simp; omega
  have HP := Lib.hid (show pad n = (128 :: List.replicate ((119 - n % 64) % 64) 0) ++ bigL (8 * n) 8 from rfl)
  generalize (128 :: List.replicate ((119 - n % 64) % 64) (0 : UInt8)) = acc at ho hl HP
  clear hr hb
  go_enter Tryz.func112, Tryz.ntmps112
  go_wp2_with (at_builtin; refine Lib.wpList_append_run _ rfl _ _ 37 54 (by rfl) _ _ (by rfl) (by rfl) _ _ HR.out ?_)
  have HA := Lib.hid (appendNumber_any v acc (8 * n) 8 W.heap.size w1 (by omega) (by omega) hB ho)
  go_wp2_with (go_at_call 142; refine HA.out.mono ?_; rintro e w2 ⟨v2, rfl, ho2, hb2⟩; have hcv := str_own ho2)
  go_ret
  exact ⟨ret1_of (val_str HP.out.symm), hb1.trans hb2⟩
end Go.Proofs.YtdjglghecekeoaaGreatDoor.U

/- The contract of the program's text: the words' bytes. -/
namespace Go.Proofs.YtdjglghecekeoaaGreatDoor.U
open Go.RowKit
set_option maxRecDepth 100000

/-- the first words' bytes -/
def outTo (s : H8) : Nat → List UInt8
  | 0 => []
  | k + 1 => outTo s k ++ bigL (s.at k) 4
theorem outTo_end (s : H8) : outTo s 8 = outT s := by simp only [outTo, outT, H8.at, List.nil_append]
theorem outTo_length (s : H8) (k : Nat) : (outTo s k).length = 4 * k := by
  induction k with
  | zero => rfl
  | succ k ih => rw [outTo, List.length_append, ih, bigL_length]; omega

set_option maxHeartbeats 800000 in
theorem text_any (g : Nat) (H : H8) (buf : ByteArray) (n : Nat) (W : World) (hl : Lies W g 153 (sumA H buf n)) (hok : H.Ok) :
    Calls Tryz.prog 113 #[.pointer (some ⟨g, 0, none⟩)] W fun e W' => e = .returned (.string ⟨(outT H).toArray⟩) ∧ Below W.heap.size W W' := by
  have HW := Lib.hid hl.words
  have hix := index_eight H
  clear hl
  go_enter Tryz.func113, Tryz.ntmps113
  go_wp2_with ((with_reducible refine wpL_loadMid g 0 (wordsL H) 8 row26 rfl HW.out ?_ ?_); rfl)
  simp only [wordsL]
  go_loopw [3, 11] (fun o i wr => ∃ k : Nat, k ≤ 8 ∧ i = .int .i64 k ∧ wr.ownsRow W.heap.size 5 1 o (outTo H k).length (Lib.byteCells (outTo H k)) ∧ Below W.heap.size W wr) (fun _ i _ => 8 - (intOf i).toNat)
  case atStart => exact ⟨0, Nat.zero_le _, rfl, World.ownsRow_nil _ _ _ _, Below.refl _ _⟩
  case round =>
    obtain ⟨k, hk, rfl, ho, hb⟩ := hrel
    by_cases hlt : k < 8
    · have hx := hix k hlt
      clear hix
      have hw := H8.at_lt hok k
      have hlen := outTo_length H k
      have HA := Lib.hid (appendNumber_any u3 (outTo H k) (H.at k) 4 W.heap.size wr (by omega) (by omega) hb.size ho)
      clear hlen
      have HS := Lib.hid (show outTo H (k + 1) = outTo H k ++ bigL (H.at k) 4 from rfl)
      go_wp2_with (go_at_call 142; refine HA.out.mono ?_; rintro e w1 ⟨v1, rfl, ho1, hb1⟩)
      go_roundw
      case rel => exact ⟨k + 1, by omega, by go_num, by rw [HS.out]; exact ho1, hb.trans hb1⟩
      case measure => simp [intOf]; omega
    · obtain rfl : k = 8 := by omega
      have hcv := str_own ho
      clear hix
      go_wp2
      go_ret
      exact ⟨ret1_of (val_str (outTo_end H)), hb⟩
end Go.Proofs.YtdjglghecekeoaaGreatDoor.U

/- The contracts of the program's calls on a sum that works: it is laid, asked, ended. -/
namespace Go.Proofs.YtdjglghecekeoaaGreatDoor.U
open Go.RowKit
set_option maxRecDepth 100000

set_option maxHeartbeats 400000 in
theorem workOn_any (H : H8) (buf : ByteArray) (n : Nat) (w : World) :
    Calls Tryz.prog 72 #[.agg (sumA H buf n)] w fun e w' => ∃ g, e = .returned (.pointer (some ⟨g, 0, none⟩)) ∧ w.heap.size ≤ g ∧ Lies w' g 153 (sumA H buf n) ∧ Below w.heap.size w w' := by
  unfold sumA
  go_enter Tryz.func72, Tryz.ntmps72
  go_wp2
  go_ret
  refine ⟨_, rfl, ?_, heap_alloc2_new w _ _, ((Below.refl _ w).alloc (Nat.le_refl _) _).alloc (by simp) _⟩
  simp

set_option maxHeartbeats 400000 in
theorem end_any (g : Nat) (H : H8) (buf : ByteArray) (n : Nat) (w : World) (hb : buf.size < 64) (hn : n < 1152921504606846976) (hg : 1 < g ∧ 7 < g) (hT : Tab w) (hl : Lies w g 153 (sumA H buf n)) (hok : H.Ok) :
    Calls Tryz.prog 75 #[.pointer (some ⟨g, 0, none⟩)] w fun e w' => e = .returned (.string (bytesOf (endT H buf.data.toList n))) ∧ Only g w w' := by
  have k9 := hl.c9
  have hp : (bytesOf (pad n)).size ≤ 72 := by
    rw [Lib.size_eq]
    show (pad n).length ≤ 72
    rw [pad_length]
    omega
  have hp2 : (bytesOf (pad n)).data.toList = pad n := rfl
  go_enter Tryz.func75, Tryz.ntmps75
  go_wp2_with (first | (go_at_call 112; refine (padding_any n _ (by omega)).mono ?_; rintro e w1 ⟨rfl, hb1⟩; have HK := Lib.hid (take_any g H buf (bytesOf (pad n)) n w1 hb (by omega) (by omega) hg (hT.below hb1) (hl.on hb1) hok)) | (go_at_call 74; refine HK.out.mono ?_; rintro e w2 ⟨rfl, hl2, hO2⟩) | (go_at_call 113; refine (text_any g _ _ _ _ hl2 (feed_ok' hok _)).mono ?_; rintro e w3 ⟨rfl, hb3⟩))
  go_ret
  exact ⟨rfl, ((Only.of_below hb1 g).trans hO2).on hb3⟩
/-- may a sum be? -/
def rightB (b n : Nat) : Bool := decide (n ≤ 1099511627776) && decide (n % 64 = b)

end Go.Proofs.YtdjglghecekeoaaGreatDoor.U

/- The contracts of the program's own five calls. -/
namespace Go.Proofs.YtdjglghecekeoaaGreatDoor.U
open Go.RowKit
set_option maxRecDepth 100000

section
variable {P : Program} {ops : Array Oper} {rest : List Oper} {a : Act} {w : World} {Q : Exit → Act → World → Prop} {t' : TypeId} {pos : String} {after : Array Edge}
/-- some cells in the middle of a block are read, the block a package-level variable's -/
theorem wpL_loadGlobal {d : Option Tmp} {x : Operand} {ty : TypeId} (g o : Nat) (cs : List Value) (n : Nat) (hT : RowT P ty n) (hn : cs.length = n) (hg : w.rangeAt g o cs)
    (hx : a.eval x = .pointer (some ⟨g, o, none⟩)) (h : wpList P ops Q rest (a.put d (.agg cs.toArray)) w) : wpList P ops Q (⟨d, .load ty x, t', pos, after, none⟩ :: rest) a w := by
  obtain ⟨⟨ds, hu, hd⟩, hi⟩ := hT
  exact wpList_load_mid (op := ⟨d, .load ty x, t', pos, after, none⟩) rfl ty x rfl g o hx cs ds hg hu hd (by rw [hi, hn]) h
end
theorem Tab.words {w : World} (h : Tab w) : w.rangeAt 1 0 (wordsL h0) := fun j v hv => by
  rw [Nat.zero_add]
  match j, hv with
  | 0, hv | 1, hv | 2, hv | 3, hv | 4, hv | 5, hv | 6, hv | 7, hv => exact (h.1 _ (by decide)).trans hv
abbrev noBytes : ByteArray := { data := #[] }

set_option maxHeartbeats 400000 in
theorem new_any (w : World) (hT : Tab w) :
    Calls Tryz.prog 73 #[] w fun e w' => e = .returned (.agg (sumA h0 noBytes 0)) ∧ Below w.heap.size w w' := by
  go_enter Tryz.func73, Tryz.ntmps73
  have hT2 := fun (o : Obj) => hT.below ((Below.refl _ w).alloc (Nat.le_refl _) o)
  have HT := Lib.hid hT2
  clear hT hT2
  go_wp2_with ((with_reducible refine wpL_loadGlobal 1 0 (wordsL h0) 8 row26 rfl (HT.out _).words ?_ ?_); rfl; simp only [wordsL])
  exact bodyPost_ret (results_row Tryz.results73 row29 rfl (Lies.new w _ (sumA h0 noBytes 0)) rfl) rfl ⟨rfl, (Below.refl _ w).alloc (Nat.le_refl _) _⟩

abbrev h8zero : H8 := ⟨0, 0, 0, 0, 0, 0, 0, 0⟩

theorem right_of {b n : Nat} (h : rightB b n = true) : n ≤ 1099511627776 ∧ n % 64 = b ∧ b < 64 := by
  simp only [rightB, Bool.and_eq_true, decide_eq_true_eq] at h
  omega

end Go.Proofs.YtdjglghecekeoaaGreatDoor.U

/- The contracts of the reference's Keys and Right, and of the statement's few. -/
namespace Go.Proofs.YtdjglghecekeoaaGreatDoor.U
open Go.RowKit
set_option maxRecDepth 100000

set_option maxRecDepth 100000 in
set_option maxHeartbeats 800000 in
theorem keys_any (w : World) :
    Calls Tryz.prog 114 #[] w fun e w' => ∃ g, e = .returned (.slice (some ⟨g, 0, none⟩) 64 64) ∧ w.heap.size ≤ g ∧ Keysat w' g ∧ Below w.heap.size w w' := by
  go_enter Tryz.func114, Tryz.ntmps114
  go_wp2
  go_ret
  exact ⟨_, rfl, Nat.le_refl _, Lies.new w 106 ksA, (Below.refl _ w).alloc (Nat.le_refl _) _⟩

end Go.Proofs.YtdjglghecekeoaaGreatDoor.U

/- The contracts of the reference's Roots, Begins, First, Same. -/
namespace Go.Proofs.YtdjglghecekeoaaGreatDoor.U
open Go.RowKit
set_option maxRecDepth 100000

/-- words lie there -/
def Row32 (w : World) (g : Nat) (l : List Nat) : Prop := ∀ i, i < l.length → w.cell? ⟨g, i, none⟩ = some (u32 (l.getD i 0))
theorem Row32.on {w w' : World} {g : Nat} {l : List Nat} (h : Row32 w g l) (hb : Below w.heap.size w w') : Row32 w' g l := fun i hi => by
  have h1 := h i hi
  exact (hb.cell (p := ⟨g, i, none⟩) (World.block_lt_of_cell? w _ h1)).trans h1
theorem lies_row32 {w : World} {g : Nat} {t : TypeId} {l : List Nat} (h : Lies w g t (l.map u32).toArray) : Row32 w g l := fun i hi => by
  rw [h.cell i, List.getElem?_toArray, List.getElem?_map, List.getElem?_eq_getElem hi, List.getD_eq_getElem?_getD, List.getElem?_eq_getElem hi]
  rfl
theorem take_next (l : List Nat) (k : Nat) (h : k < l.length) : l.take (k + 1) = l.take k ++ [l.getD k 0] := by
  rw [List.take_add_one, List.getElem?_eq_getElem h, List.getD_eq_getElem?_getD, List.getElem?_eq_getElem h]
  rfl

/-- the first words as a list -/
def h0L : List Nat := [h0.a, h0.b, h0.c, h0.d, h0.e, h0.f, h0.g, h0.h]
set_option maxHeartbeats 400000 in
theorem first_any (w : World) :
    Calls Tryz.prog 116 #[] w fun e w' => ∃ g, e = .returned (.slice (some ⟨g, 0, none⟩) 8 8) ∧ w.heap.size ≤ g ∧ Row32 w' g h0L ∧ Below w.heap.size w w' := by
  go_enter Tryz.func116, Tryz.ntmps116
  go_wp2
  go_ret
  exact ⟨_, rfl, Nat.le_refl _, lies_row32 (l := h0L) (Lies.new w 106 (h0L.map u32).toArray), (Below.refl _ w).alloc (Nat.le_refl _) _⟩

end Go.Proofs.YtdjglghecekeoaaGreatDoor.U

/- The contract of the reference's Write. -/
namespace Go.Proofs.YtdjglghecekeoaaGreatDoor.U
open Go.RowKit
set_option maxRecDepth 100000

/-- values go into a row, from a place on -/
def putAll (cs : Array Value) (o : Nat) : List Value → Array Value
  | [] => cs
  | v :: r => putAll (cs.setIfInBounds o v) (o + 1) r
theorem Lies.putAll {g : Nat} {t : TypeId} : ∀ (vs : List Value) (o : Nat) {w : World} {cs : Array Value}, Lies w g t cs → Lies (w.setCells g o vs) g t (Go.Proofs.YtdjglghecekeoaaGreatDoor.U.putAll cs o vs)
  | [], _, _, _, h => h
  | v :: r, o, _, _, h => Lies.putAll r (o + 1) (h.put o v)
theorem Only.putAll {g : Nat} {a : World} : ∀ (vs : List Value) (o : Nat) {w : World}, Only g a w → Only g a (w.setCells g o vs)
  | [], _, _, h => h
  | v :: r, o, _, h => Only.putAll r (o + 1) (h.put (p := ⟨g, o, none⟩) (Or.inl rfl) v)
theorem putAll_words (K M : H8) (buf : ByteArray) (n : Nat) : putAll (sumA K buf n) 0 (wordsA M).toList = sumA M buf n := by
  simp [putAll, sumA]
theorem words_one (M : H8) : ∀ v ∈ (wordsA M).toList, v.oneCell' = true := by
  intro v hv
  simp at hv
  rcases hv with rfl | rfl | rfl | rfl | rfl | rfl | rfl | rfl <;> rfl
theorem sum_some {w : World} {g n : Nat} {K : H8} {buf : ByteArray} (hl : Lies w g 109 (sumA K buf n)) (j : Nat) (hj : j < 8) : (w.cell? ⟨g, j, none⟩).isSome = true := by
  rw [hl.cell j, Array.getElem?_eq_getElem (show j < (sumA K buf n).size from Nat.lt_of_lt_of_le hj (show 8 ≤ 10 by decide))]
  rfl
/-- eight words go into a sum -/
theorem store_mix {w : World} {g n : Nat} {K M : H8} {buf : ByteArray} {cs : Array Value} (hl : Lies w g 109 (sumA K buf n)) (hcs : wordsA M = cs) :
    ∃ w', (storeCells ⟨g, 0, none⟩ cs.toList).run Tryz.prog w = .ok () w' ∧ Lies w' g 109 (sumA M buf n) ∧ Only g w w' := by
  have h1 := words_one M
  have h2 := hl.putAll (wordsA M).toList 0
  rw [putAll_words] at h2
  have h3 := (Only.refl w g).putAll (wordsA M).toList 0
  have h8 : (wordsA M).toList.length = 8 := rfl
  rw [hcs] at h1 h2 h3 h8
  have hs := run_storeCells_cells (P := Tryz.prog) g 0 cs.toList 0 w
    (fun j hj => by rw [Nat.zero_add]; exact sum_some hl j (by omega))
    (fun j hj => by rw [Nat.zero_add]; exact hl.frozen j) h1
  rw [Nat.zero_add] at hs
  exact ⟨_, hs, h2, h3⟩
theorem Lies.eight {w : World} {g : Nat} {t : TypeId} {s : H8} {buf : ByteArray} {n : Nat} (h : Lies w g t (sumA s buf n)) :
    w.cell? ⟨g, 0, none⟩ = some (u32 s.a) ∧ w.cell? ⟨g, 1, none⟩ = some (u32 s.b) ∧ w.cell? ⟨g, 2, none⟩ = some (u32 s.c) ∧ w.cell? ⟨g, 3, none⟩ = some (u32 s.d) ∧ w.cell? ⟨g, 4, none⟩ = some (u32 s.e) ∧ w.cell? ⟨g, 5, none⟩ = some (u32 s.f) ∧ w.cell? ⟨g, 6, none⟩ = some (u32 s.g) ∧ w.cell? ⟨g, 7, none⟩ = some (u32 s.h) :=
  ⟨h.cell 0, h.cell 1, h.cell 2, h.cell 3, h.cell 4, h.cell 5, h.cell 6, h.cell 7⟩

set_option maxRecDepth 100000 in
set_option maxHeartbeats 1600000 in
theorem refWrite_any (H : H8) (buf s : ByteArray) (n : Nat) (w : World) (hb : buf.size ≤ 1000) (hs : s.size ≤ 1000) (hn : n + s.size < 18446744073709551616) (hok : H.Ok) :
    Calls Tryz.prog 77 #[.agg (sumA H buf n), .string s] w fun e w' => e = .returned (.agg (sumA (feed H (buf.data.toList ++ s.data.toList)) (bytesOf (tailB (buf.data.toList ++ s.data.toList))) (n + s.size))) ∧ Below w.heap.size w w' := by
  have hno : ¬ 9223372036854775807 < buf.size + s.size := by omega
  have hno2 : (buf ++ s).size ≤ 2000 := by rw [ByteArray.size_append]; omega
  have HA := Lib.hid (list_append buf s)
  obtain ⟨gk, hgk0⟩ : ∃ gk : Nat, gk = 0 := ⟨0, rfl⟩
  clear hgk0 gk
  have HX := Lib.hid (heap_alloc2_old w (.cells (sumA H buf n) 109) (.cells (sumA h8zero noBytes 0) 109))
  unfold sumA
  go_enter Tryz.func77, Tryz.ntmps77
  go_wp2_with (go_at_call 114; refine (keys_any _).mono ?_; rintro e w1 ⟨gk, rfl, hgk, hk, hb1⟩; have hx : Lies w1 w.heap.size 109 (sumA H buf n) := Lies.on (heap_alloc2_old w _ _) hb1; have hz : Lies w1 (w.heap.size + 1) 109 (sumA h8zero noBytes 0) := Lies.on (heap_alloc2_new w _ _) hb1; replace hb1 := (((Below.refl _ w).alloc (Nat.le_refl _) _).alloc (by simp) _).trans (hb1.mono (by simp; omega)); simp at hgk; have k8 := hx.c8)
  go_loopw [6] (fun v wr => ∃ (r : ByteArray) (K : H8), v = .string r ∧ r.size ≤ 2000 ∧ Lies wr w.heap.size 109 (sumA K buf n) ∧ Lies wr (w.heap.size + 1) 109 (sumA h8zero noBytes 0) ∧ Keysat wr gk ∧ K.Ok ∧ Hid (feed H (buf.data.toList ++ s.data.toList) = feed K r.data.toList) ∧ Hid (tailB (buf.data.toList ++ s.data.toList) = tailB r.data.toList) ∧ Below w.heap.size w wr) (fun v _ => strSize v)
  case atStart => exact ⟨_, H, rfl, hno2, hx, hz, hk, hok, Lib.hid (by rw [HA.out]), Lib.hid (by rw [HA.out]), hb1⟩
  case round =>
    clear hx hz hk hb1 k8 hno hno2 HX
    obtain ⟨r, K, rfl, hr, hx, hz, hk, hK, HF, HL, hb1⟩ := hrel
    by_cases hlt : 64 ≤ r.size
    · have HM := Lib.hid (fun w hk => mix_any K (r.extract 0 64) gk w (by rw [extract_size _ _ _ hlt]) hK hk)
      have hM := mix_ok K (r.extract 0 64).data.toList
      obtain ⟨M, hMd⟩ : ∃ M, mix K (r.extract 0 64).data.toList = M := ⟨_, rfl⟩
      rw [hMd] at HM hM
      have HD := Lib.hid hMd
      clear hMd
      obtain ⟨cs, hcs⟩ : ∃ cs, wordsA M = cs := ⟨_, rfl⟩
      rw [hcs] at HM
      have hsz : cs.size = 8 := by rw [← hcs]; rfl
      have HC := Lib.hid hcs
      clear hcs
      obtain ⟨c0, c1, c2, c3, c4, c5, c6, c7⟩ := hx.eight
      go_upto_region 4 with fail
      go_region_with (go_at_call 115; refine (HM.out wr.drew hk).mono ?_; rintro e w4 ⟨rfl, hb4⟩; have hx4 := Lies.on hx.drew hb4; have hz4 := Lies.on hz.drew hb4; have hk4 := Lies.on (Lies.drew hk) hb4; obtain ⟨w5, hst, hl5, hO5⟩ := store_mix (M := M) hx4 HC.out)
      all_goals
        go_wp2
        go_roundw
        case rel =>
          exact ⟨_, M, rfl, by rw [ByteArray.size_extract]; omega, hl5, hz4.only hO5 (by intro e; injection e; omega), Lies.only hk4 hO5 (by intro e; injection e; omega), hM, Lib.hid (by rw [HF.out, feed_long K r.data.toList (by rw [← Lib.size_eq]; exact hlt), ← head_list, HD.out, rest_list]), Lib.hid (by rw [HL.out, tail_long r.data.toList (by rw [← Lib.size_eq]; exact hlt), rest_list]), hO5.below (below_on hb1.drew hb4) (below_on hb1.drew hb4).size (Nat.le_refl _)⟩
        case measure => simp [strSize]; omega
    · have k8 := hx.c8
      have f8 := hx.frozen 8
      have k9 := hx.c9
      have f9 := hx.frozen 9
      go_upto_region 8 with fail
      generalize hW : World.setCell (World.setCell wr _ _) _ _ = w6
      have hx6 : Lies w6 w.heap.size 109 (sumA K r (n + s.size)) := by rw [← hW]; exact (Lies.buf hx r).len (n + s.size)
      have hz6 : Lies w6 (w.heap.size + 1) 109 (sumA h8zero noBytes 0) := by rw [← hW]; exact (hz.far (by simp) _).far (by simp) _
      have hb6 : Below w.heap.size w w6 := by rw [← hW]; exact (hb1.setCell (p := ⟨w.heap.size, 8, none⟩) (Nat.le_refl _) _).setCell (p := ⟨w.heap.size, 9, none⟩) (Nat.le_refl _) _
      clear hW
      have hsh : r.data.toList.length < 64 := by rw [← Lib.size_eq]; omega
      have HE : Ending.returned (.agg (sumA K r (n + s.size))) = .returned (.agg (sumA (feed H (buf.data.toList ++ s.data.toList)) (bytesOf (tailB (buf.data.toList ++ s.data.toList))) (n + s.size))) := by
        rw [HF.out, HL.out, feed_short K _ hsh, tail_short _ hsh, show bytesOf r.data.toList = r from Lib.mk_data r]
      go_wp2_with (first | ((with_reducible refine wpL_load w.heap.size 109 (sumA K r (n + s.size)) 10 row29 rfl hx6 ?_ ?_); rfl) | ((with_reducible refine wpL_store (w.heap.size + 1) 109 _ (sumA K r (n + s.size)) 10 row29 rfl rfl (sumA_one _ _ _) hz6 ?_ ?_ ?_); rfl; rfl))
      exact bodyPost_ret (results_row Tryz.results77 row29 rfl (hz6.row _) rfl) rfl ⟨HE, below_rowSet hb6 (by omega) _⟩
end Go.Proofs.YtdjglghecekeoaaGreatDoor.U

/- The contracts of the program's Write and Sum. -/
namespace Go.Proofs.YtdjglghecekeoaaGreatDoor.U
open Go.RowKit
set_option maxRecDepth 100000

theorem results_row_tmp {P : Program} {fn : Func} {p u : Tmp} {ty : TypeId} {n : Nat} {w : World} {g : Nat} {t : TypeId} {cs : Array Value} {tmps : Array Value} {x : Value} (h : fn.results = #[.cell p ty, .tmp u]) (hT : RowT P ty n) (hn : cs.size = n) (hg : Lies w g t cs) (hp : tmps.getD p undef = .pointer (some ⟨g, 0, none⟩)) (hx : tmps.getD u undef = x) :
    (results fn tmps).run P w = .ok (.tuple #[.agg cs, x]) w := by
  obtain ⟨⟨d, hu, hd⟩, hi⟩ := hT
  have hl := run_loadVar_row (P := P) w g t ty cs (0, 0) d hg hu (by cases d <;> first | rfl | simp [TypeDesc.isRow] at hd) (by rw [hi, hn])
  have hp' : tmps[p]?.getD undef = .pointer (some ⟨g, 0, none⟩) := by simpa using hp
  have hx' : tmps[u]?.getD undef = x := by simpa using hx
  simp [results, h, hp', hx', asAddr, hl]

end Go.Proofs.YtdjglghecekeoaaGreatDoor.U

/- Rows of texts in memory: what a slice of strings reads as. -/
namespace Go.Proofs.YtdjglghecekeoaaGreatDoor
open Go.RowKit

def str (x : List UInt8) : Value := .string ⟨x.toArray⟩
/-- the slice value v reads as the texts l -/
def Strs (w : World) (v : Value) (l : List (List UInt8)) : Prop :=
  ∃ a c, v = .slice a l.length c ∧ l.length ≤ c ∧ c ≤ maxLen ∧ (a = none → c = 0) ∧ (l ≠ [] → ∃ b off, a = some ⟨b, off, none⟩ ∧ ∀ i x, l[i]? = some x → w.cell? ⟨b, off + i, none⟩ = some (str x))

theorem Strs.nil (w : World) : Strs w (.slice none 0 0) [] := ⟨none, 0, rfl, Nat.le_refl _, Nat.zero_le _, fun _ => rfl, fun h => absurd rfl h⟩
theorem Strs.below {w w' : World} {v : Value} {l : List (List UInt8)} (h : Strs w v l) (hb : Below w.heap.size w w') : Strs w' v l := by
  obtain ⟨a, c, hv, hc, hm, hn, hl⟩ := h
  refine ⟨a, c, hv, hc, hm, hn, fun hne => ?_⟩
  obtain ⟨b, off, ha, hx⟩ := hl hne
  refine ⟨b, off, ha, fun i x hi => ?_⟩
  have h1 := hx i x hi
  rw [hb.cell (p := ⟨b, off + i, none⟩) (World.block_lt_of_cell? w _ h1)]
  exact h1
theorem Strs.owned {w : World} {B n : Nat} {v : Value} {l : List (List UInt8)} (h : w.ownsRow B 9 1 v n (l.map str)) : Strs w v l := by
  have hn : l.length = n := by have := h.1; simpa using this
  subst hn
  have h0 := h
  rcases h.2 with ⟨rfl, e⟩ | ⟨g, cap, cur, rfl, _, _, hcap, hmax, _⟩
  · have : l = [] := List.eq_nil_of_length_eq_zero (by omega)
    subst this
    exact Strs.nil w
  · refine ⟨some ⟨g, 0, none⟩, cap, rfl, hcap, hmax, (fun e => by cases e), fun _ => ⟨g, 0, rfl, fun i x hi => ?_⟩⟩
    rw [Nat.zero_add, h0.cellAt i (by have := (List.getElem?_eq_some_iff.1 hi).1; omega)]
    simp [hi]

theorem str_size (x : List UInt8) : ({ data := x.toArray } : ByteArray).size = x.length := by simp [ByteArray.size]

end Go.Proofs.YtdjglghecekeoaaGreatDoor

/- The contract of the program's Sum: the sum of parts, one behind the other. -/
namespace Go.Proofs.YtdjglghecekeoaaGreatDoor.U
open Go.RowKit
set_option maxRecDepth 100000

theorem bytes_size (l : List UInt8) : (bytesOf l).size = l.length := by rw [Lib.size_eq]; rfl
theorem take_flat {l : List (List UInt8)} {k : Nat} {x : List UInt8} (h : l[k]? = some x) : (l.take (k + 1)).flatten = (l.take k).flatten ++ x := by
  rw [List.take_add_one, h, Option.toList_some, List.flatten_append, List.flatten_singleton]
theorem flat_le (l : List (List UInt8)) (k : Nat) : (l.take k).flatten.length ≤ l.flatten.length := by
  have e : l.flatten = (l.take k).flatten ++ (l.drop k).flatten := by rw [← List.flatten_append, List.take_append_drop]
  rw [e, List.length_append]
  omega

set_option maxHeartbeats 800000 in
theorem sum_any (w : World) (v : Value) (l : List (List UInt8)) (hl : Strs w v l) (hx : l.flatten.length ≤ 281474976710000) (hT : Tab w) :
    Calls Tryz.prog 46 #[v] w fun e w' => e = .returned (.string (bytesOf (sumT l.flatten))) ∧ Below w.heap.size w w' := by
  have h2 := hT.two
  have HT := Lib.hid hT
  clear hT
  obtain ⟨a, c, rfl, hc, hm, hn, hl⟩ := hl
  unfold maxLen at hm
  go_enter Tryz.func46, Tryz.ntmps46
  go_wp2_with (first | (go_at_call 73; refine (new_any _ HT.out).mono ?_; rintro e w1 ⟨rfl, hb1⟩) | (go_at_call 72; refine (workOn_any h0 noBytes 0 _).mono ?_; rintro e w2 ⟨g, rfl, hg1, hl1, hb2⟩; replace hb2 := below_on hb1 hb2; have hgw : w.heap.size ≤ g := Nat.le_trans hb1.size hg1; clear hb1 hg1))
  go_loopw [10] (fun i wr => ∃ k : Nat, k ≤ l.length ∧ i = .int .i64 k ∧ Lies wr g 153 (sumA (feed h0 (l.take k).flatten) (bytesOf (tailB (l.take k).flatten)) (l.take k).flatten.length) ∧ Below w.heap.size w wr) (fun i _ => l.length - (intOf i).toNat)
  case atStart => exact ⟨0, Nat.zero_le _, rfl, by rw [List.take_zero, List.flatten_nil, feed_short _ _ (by decide), tail_short _ (by decide)]; exact hl1, hb2⟩
  case round =>
    clear hl1 hb2
    obtain ⟨k, hk, rfl, hli, hb⟩ := hrel
    have hB := hb.size
    have htl : (bytesOf (tailB (l.take k).flatten)).size < 64 := by rw [bytes_size, tail_length]; exact Nat.mod_lt _ (by decide)
    have hle := flat_le l k
    by_cases hlt : k < l.length
    · obtain ⟨b, off, rfl, hcell⟩ := hl (by intro h; subst h; simp at hlt)
      obtain ⟨x, hxk⟩ : ∃ x, l[k]? = some x := ⟨l[k], List.getElem?_eq_getElem hlt⟩
      have g1 := hcell k x hxk
      have hc1 : wr.cell? ⟨b, off + k, none⟩ = some (.string ⟨x.toArray⟩) := (hb.cell (p := ⟨b, off + k, none⟩) (World.block_lt_of_cell? w _ g1)).trans g1
      have hle2 := flat_le l (k + 1)
      have HF := Lib.hid (take_flat hxk)
      rw [HF.out, List.length_append] at hle2
      have HK := Lib.hid (take_any g _ _ (bytesOf x) _ wr htl (by rw [bytes_size]; omega) (by rw [bytes_size]; omega) (by omega) (HT.out.below hb) hli (feed_ok' h0_ok _))
      clear hxk hcell g1 hl
      go_wp2_with (go_at_call 74; refine HK.out.mono ?_; rintro e w3 ⟨rfl, hl3, hO3⟩)
      go_roundw
      case rel => exact ⟨k + 1, by omega, by go_num, by rw [HF.out, feed_append _ _ _ _ (Nat.le_refl _), tail_append _ _ _ (Nat.le_refl _), List.length_append, ← bytes_size x]; exact hl3, hO3.below hb hB hgw⟩
      case measure => simp [intOf]; omega
    · have hE := end_any g _ _ _ wr htl (by omega) (by omega) (HT.out.below hb) hli (feed_ok' h0_ok _)
      rw [show l.take k = l from List.take_of_length_le (by omega), show (bytesOf (tailB l.flatten)).data.toList = tailB l.flatten from rfl, end_sum] at hE
      have HK := Lib.hid hE
      clear hE
      go_wp2_with (go_at_call 75; refine HK.out.mono ?_; rintro e w3 ⟨rfl, hO3⟩)
      go_ret
      exact ⟨rfl, hO3.below hb hB hgw⟩
end Go.Proofs.YtdjglghecekeoaaGreatDoor.U

/- The contract of the reference's End. -/
namespace Go.Proofs.YtdjglghecekeoaaGreatDoor.U
open Go.RowKit
set_option maxRecDepth 100000

def lenOf : Value → Nat
  | .slice _ l _ => l
  | _ => 0
/-- what lies in a row of so many bytes while a number goes into it, from the last one down to i -/
def downC (N w i : Nat) : List Value := List.replicate i (Value.int .u8 0) ++ (Lib.byteCells (bigL N w)).drop i
theorem downC_start (N w : Nat) : downC N w w = List.replicate w (Value.int .u8 0) := by
  unfold downC
  rw [List.drop_of_length_le (by rw [Lib.byteCells_length, bigL_length]; exact Nat.le_refl _), List.append_nil]
theorem downC_end (N w : Nat) : downC N w 0 = Lib.byteCells (bigL N w) := rfl
theorem downC_at (N w i : Nat) : (downC N w (i + 1))[i]? = some (Value.int .u8 0) := by
  unfold downC
  rw [List.getElem?_append_left (by simp), List.getElem?_replicate, if_pos (by omega)]
theorem bigL_at (N w i : Nat) (h : i < w) : (bigL N w)[i]? = some (N / 256 ^ (w - 1 - i) % 256).toUInt8 := by
  have h1 := bigL_take N w i h
  have h2 := congrArg (fun l => l[i]?) h1
  have hl : ((bigL N w).take i).length = i := by rw [List.length_take, bigL_length]; omega
  simp only [List.getElem?_take_of_lt (Nat.lt_succ_self i)] at h2
  rw [h2, List.getElem?_append_right (by omega), hl, Nat.sub_self]
  rfl
theorem downC_set (N w i : Nat) (h : i < w) : (downC N w (i + 1)).set i (Value.int .u8 ((N / 256 ^ (w - (i + 1)) % 256 : Nat) : Int)) = downC N w i := by
  have e : w - (i + 1) = w - 1 - i := by omega
  rw [e]
  have hb : i < (Lib.byteCells (bigL N w)).length := by rw [Lib.byteCells_length, bigL_length]; exact h
  have hx : (Lib.byteCells (bigL N w))[i] = Value.int .u8 ((N / 256 ^ (w - 1 - i) % 256 : Nat) : Int) := by
    have h1 := bigL_at N w i h
    have h2 : (Lib.byteCells (bigL N w))[i]? = some (Value.int .u8 ((N / 256 ^ (w - 1 - i) % 256 : Nat) : Int)) := by
      unfold Lib.byteCells
      rw [List.getElem?_map, h1]
      simp only [Option.map_some]
      rw [toNat_lt256 _ (Nat.mod_lt _ (by decide))]
    rw [List.getElem?_eq_getElem hb] at h2
    injection h2
  unfold downC
  rw [List.set_append_left _ _ (by simp), List.replicate_succ', List.set_append_right _ _ (by simp), List.length_replicate, Nat.sub_self, List.set_cons_zero, List.append_assoc, List.drop_eq_getElem_cons hb, hx]
  rfl
theorem down_next (N w i : Nat) (h : i < w) : N / 256 ^ (w - (i + 1)) / 256 = N / 256 ^ (w - i) := by
  rw [Nat.div_div_eq_div_mul, ← Nat.pow_succ, show (w - (i + 1)).succ = w - i by omega]

theorem own_news {w : World} {B e g n cap : Nat} {xs : List Value} (h : w.ownsRow B e 1 (.slice (some ⟨g, 0, none⟩) n cap) n xs) : ∀ j u, xs[j]? = some u → w.cell? ((⟨g, 0, none⟩ : Addr).add j) = some u := fun j u hu => by
  have hj : j < xs.length := (List.getElem?_eq_some_iff.1 hu).1
  have hn : xs.length = n := by simpa using h.1
  rw [Addr.add_mid, Nat.zero_add]
  exact (h.cellAt j (by omega)).trans hu
/-- a row goes behind a row that the call owns -/
theorem wpL_appendRow {P : Program} {ops : Array Oper} {rest : List Oper} {a : Act} {w : World} {Q : Exit → Act → World → Prop} {t' : TypeId} {pos : String} {after : Array Edge} {d : Option Tmp} {x y : Tmp} {ty : TypeId}
    (B : Nat) (e : TypeId) (i : TypeInfo) (z : Value) (bytes : Nat) (ht : P.underlying ty = some (.slice e)) (hi : P.info? e = some i) (hz : i.zero = some z) (hsize : i.size = 1) (hby : i.bytes = bytes) (hzs : z.cells.size = 1)
    (v : Value) (n : Nat) (xs : List Value) (hown : w.ownsRow B e 1 v n xs) (B' b m c : Nat) (us : List Value) (hrow : w.ownsRow B' e 1 (.slice (some ⟨b, 0, none⟩) m c) m us) (hu : ∀ u ∈ us, u.oneCell' = true) (hm : 0 < m) (h63 : n + m ≤ maxLen) (hbytes : (n + m) * bytes ≤ 140737488355328) (hbase : B ≤ w.heap.size)
    (hs : a.eval (.tmp x) = v) (hx : a.eval (.tmp y) = .slice (some ⟨b, 0, none⟩) m c)
    (h : ∀ g cap w', w'.ownsRow B e 1 (.slice (some ⟨g, 0, none⟩) (n + m) cap) (n + m) (xs ++ us) → w.grownBy w' v.ownBlock → wpList P ops Q rest (a.put d (.slice (some ⟨g, 0, none⟩) (n + m) cap)) w') :
    wpList P ops Q (⟨d, .call { callee := .builtin .append, args := #[.tmp x, .tmp y], argTypes := #[ty, ty] }, t', pos, after, none⟩ :: rest) a w :=
  wpList_append_lies (o := ⟨d, .call { callee := .builtin .append, args := #[.tmp x, .tmp y], argTypes := #[ty, ty] }, t', pos, after, none⟩) w rfl _ _ ty rfl B e i z 1 bytes ht hi hz hsize hby hzs (by decide) v n xs hs hown ⟨b, 0, none⟩ m c us hx (by simpa using hrow.1) (own_news hrow) hu hm h63 hbytes hbase w.heap.size rfl (fun g cap w' h2 h3 _ _ => h g cap w' h2 h3)
theorem byteCells_one (l : List UInt8) : ∀ u ∈ Lib.byteCells l, u.oneCell' = true := by
  intro u hu
  unfold Lib.byteCells at hu
  rw [List.mem_map] at hu
  obtain ⟨x, _, rfl⟩ := hu
  rfl
/-- what pads, with so many zeros -/
def padTo (k : Nat) : List UInt8 := 128 :: List.replicate k 0
theorem padTo_succ (k : Nat) : padTo (k + 1) = padTo k ++ [0] := by unfold padTo; rw [List.replicate_succ']; rfl
theorem own_single {w : World} {B g : Nat} {e : TypeId} {u : Value} (hl : Lies w g e #[u]) (hB : B ≤ g) : w.ownsRow B e 1 (.slice (some ⟨g, 0, none⟩) 1 1) 1 [u] :=
  ⟨rfl, .inr ⟨g, 1, _, rfl, hB, hl, Nat.le_refl _, by unfold maxLen; omega, rfl, rfl⟩⟩

set_option maxRecDepth 100000 in
set_option maxHeartbeats 1600000 in
theorem refEnd_any (H : H8) (buf : ByteArray) (n : Nat) (W : World) (hr : rightB buf.size n = true) (hok : H.Ok) :
    Calls Tryz.prog 76 #[.agg (sumA H buf n)] W fun e W' => e = .returned (.string (bytesOf (endT H buf.data.toList n))) ∧ Below W.heap.size W W' := by
  obtain ⟨hr1, hr2, hr3⟩ := right_of hr
  obtain ⟨i0, hi, hz0, hz1, hz2⟩ := info_parts info5
  have HR2 := Lib.hid hr2
  clear hr hr2
  unfold sumA
  go_enter Tryz.func76, Tryz.ntmps76
  go_upto_region 1 with fail
  have hx : Lies (W.alloc (.cells (sumA H buf n) 109)) W.heap.size 109 (sumA H buf n) := Lies.new W _ _
  have hb := (Below.refl W.heap.size W).alloc (Nat.le_refl _) (.cells (sumA H buf n) 109)
  unfold sumA at hb hx
  generalize World.alloc W _ = w1 at *
  go_wp2_with fail
  go_loopw [3] (fun v wr => ∃ k g cap : Nat, k ≤ (119 - n % 64) % 64 ∧ v = .slice (some ⟨g, 0, none⟩) (k + 1) cap ∧ wr.ownsRow W.heap.size 5 1 (.slice (some ⟨g, 0, none⟩) (k + 1) cap) (k + 1) (Lib.byteCells (padTo k)) ∧ Lies wr W.heap.size 109 (sumA H buf n) ∧ Below W.heap.size W wr) (fun v _ => 100 - lenOf v)
  case atStart => exact ⟨0, _, _, by omega, rfl, own_single (Lies.new w1 _ _) hb.size, hx.alloc _, hb.alloc hb.size _⟩
  case round =>
    clear hx hb
    obtain ⟨k, g, cap, hk, rfl, ho, hx, hb⟩ := hrel
    have k8 := hx.c8
    have k9 := hx.c9
    have hgw := own_far ho (t := 109) hx (by decide)
    have hsz := hb.size
    have hBw := hx.lt
    by_cases h0 : (buf.size + (k + 1) + 8) % 64 = 0
    · have hk2 : k = (119 - n % 64) % 64 := by have := HR2.out; omega
      have HP := Lib.hid (show pad n = padTo k ++ bigL (8 * n) 8 by rw [hk2]; rfl)
      clear hk2
      have h1 : ((buf.size : Int) + ((k + 1 : Nat) : Int) + 8) % 64 = 0 := by omega
      go_upto_region 5 with fail
      obtain ⟨wq, hwq⟩ : ∃ wq, wq = wr := ⟨_, rfl⟩
      subst hwq
      go_wp2_with (at_make; refine wpList_make_full _ rfl _ _ 37 rfl wq.heap.size 5 i0 (.int .u8 0) 1 Tryz.underlying37 hi hz0 hz1 _ _ _ _ 8 rfl rfl rfl rfl ?b2 ?b3 (Nat.le_refl _) ?_)
      case b2 => rw [hz2]; omega
      case b3 => unfold maxLen; omega
      intro w5 hown5 hgrow5
      have hb5 : Below wq.heap.size wq w5 := (Below.refl _ _).grown hgrow5 (Nat.le_refl _) (fun k hk => by cases hk)
      clear hgrow5
      go_wp2_with fail
      go_loopw [4, 6] (fun nv i wv => ∃ j : Nat, j ≤ 8 ∧ i = .int .i64 j ∧ nv = .int .u64 ((8 * n / 256 ^ (8 - j) : Nat) : Int) ∧ wv.ownsRow wq.heap.size 5 1 (.slice (some ⟨wq.heap.size, 0, none⟩) 8 8) 8 (downC (8 * n) 8 j) ∧ Below wq.heap.size wq wv) (fun _ i _ => (intOf i).toNat)
      case atStart => exact ⟨8, by omega, rfl, val_int (by rw [Nat.sub_self, Nat.pow_zero, Nat.div_one]; omega), by rw [downC_start]; simpa [toList_madeCells_one] using hown5, hb5⟩
      case round =>
        clear hown5 hb5
        obtain ⟨j, hj, rfl, rfl, ho5, hb5⟩ := hrel
        by_cases hj0 : 0 < j
        · obtain ⟨m, rfl⟩ : ∃ m, j = m + 1 := ⟨j - 1, by omega⟩
          have hc := (ho5.cellAt m (by omega)).trans (downC_at (8 * n) 8 m)
          have hf := ho5.frozenAt m
          have HD := Lib.hid (downC_set (8 * n) 8 m (by omega))
          have HN := Lib.hid (down_next (8 * n) 8 m (by omega))
          have hX : 8 * n / 256 ^ (8 - (m + 1)) ≤ 8 * n := Nat.div_le_self _ _
          have e1 : IntKind.i64.wrap (((m + 1 : Nat) : Int) - 1) = (m : Int) := by rw [IntWalk.i64_in _ (by omega)]; omega
          have b1 : (m : Int) < 8 := by omega
          generalize 8 * n / 256 ^ (8 - (m + 1)) = X at *
          go_wp2_with fail
          go_roundw
          case rel => exact ⟨m, by omega, rfl, val_int (by rw [← HN.out]; omega), by rw [← HD.out]; exact (ho5.stored m _).1, hb5.setCell (p := ⟨wq.heap.size, m, none⟩) (Nat.le_refl _) _⟩
          case measure => simp [intOf]
        · obtain rfl : j = 0 := by omega
          rw [downC_end] at ho5
          have ho2 := own_on ho hb5
          have hx2 := hx.on hb5
          have hb2 := below_on hb hb5
          have hB2 := hb2.size
          have hge := fun j hj => (ho.lt j hj).1
          obtain ⟨Y, y8, y9, HY, hY, HW⟩ : ∃ (Y : H8) (b : ByteArray) (m : Nat), Hid (outT Y = endT H buf.data.toList n) ∧ Y.Ok ∧ Hid (∀ w, Calls Tryz.prog 77 #[.agg (sumA H buf n), .string ⟨(pad n).toArray⟩] w fun e w' => e = .returned (.agg (sumA Y b m)) ∧ Below w.heap.size w w') :=
            ⟨_, _, _, Lib.hid rfl, feed_ok' hok _, Lib.hid fun w => refWrite_any H buf (bytesOf (pad n)) n w (by omega) (by rw [bytes_size, pad_length]; omega) (by rw [bytes_size, pad_length]; omega) hok⟩
          clear k8 k9 hx hb h0 h1 hb5
          go_upto_region 13 with (first | ((with_reducible refine wpL_appendRow W.heap.size 5 i0 (.int .u8 0) 1 Tryz.underlying37 hi hz0 hz1 hz2 rfl _ (k + 1) _ ho2 wq.heap.size wq.heap.size 8 8 _ ho5 (byteCells_one _) (by omega) (by unfold maxLen; omega) (by omega) hB2 ?_ ?_ ?_); rfl; rfl; intro g6 cap6 w6 ho6 hgrow6; rw [← Lib.byteCells_append, ← HP.out] at ho6; have hcv := str_own ho6; have hx6 := hx2.only hgrow6 (fun e => hgw e.symm); have hb6 := hb2.grown hgrow6 hB2 hge; clear hgrow6) | ((with_reducible refine wpL_load W.heap.size 109 (sumA H buf n) 10 row29 rfl hx6 ?_ ?_); rfl) | (go_at_call 77; refine (HW.out w6).mono ?_; rintro e w7 ⟨rfl, hb7⟩; replace hb7 := below_on hb6 hb7) | ((with_reducible refine wpL_store w7.heap.size 109 _ (sumA Y y8 y9) 10 row29 ?_ ?_ ?_ (Lies.new w7 _ _) ?_ ?_ ?_); rfl; rfl; exact sumA_one _ _ _; rfl; rfl))
          generalize hW8 : World.setRow _ _ _ = w8
          have hl8 : Lies w8 w7.heap.size 109 (sumA Y y8 y9) := by rw [← hW8]; exact (Lies.new w7 _ _).row _
          have hb8 : Below W.heap.size W w8 := by rw [← hW8]; exact below_rowSet (hb7.alloc hb7.size _) hb7.size _
          clear hW8
          have HWd := Lib.hid (fun o : Obj => (Lies.alloc hl8 o).words)
          have HB8 := hb8.alloc hb8.size (.cells #[] 5)
          have hB8 := hb8.size
          have ho8 := Lies.new w8 5 #[]
          have hix := index_eight Y
          clear hl8 hb8 hb7 hb6 hx6 ho6 hcv ho5 ho2 hx2 hb2 hgw hge ho HW HP
          go_wp2_with ((with_reducible refine wpL_loadMid w7.heap.size 0 (wordsL Y) 8 row26 rfl (HWd.out _) ?_ ?_); rfl)
          simp only [wordsL]
          go_loopw [8, 53] (fun o i wr => ∃ k g cap : Nat, k ≤ 8 ∧ i = .int .i64 k ∧ o = .slice (some ⟨g, 0, none⟩) (4 * k) cap ∧ wr.ownsRow W.heap.size 5 1 (.slice (some ⟨g, 0, none⟩) (4 * k) cap) (4 * k) (Lib.byteCells (outTo Y k)) ∧ Below W.heap.size W wr) (fun _ i _ => 8 - (intOf i).toNat)
          case atStart => exact ⟨0, _, _, by omega, rfl, rfl, own_empty ho8 hB8, HB8⟩
          case round =>
            clear ho8 HB8 HWd
            obtain ⟨k, g, cap, hk, rfl, rfl, ho, hb⟩ := hrel
            obtain ⟨wq, hwq⟩ : ∃ wq, wq = wr := ⟨_, rfl⟩
            subst hwq
            by_cases hlt : k < 8
            · have hx := hix k hlt
              clear hix
              have hV := H8.at_lt hY k
              have HS := Lib.hid (show outTo Y (k + 1) = outTo Y k ++ bigL (Y.at k) 4 from rfl)
              generalize Y.at k = V at hx hV HS
              go_wp2_with (at_make; refine wpList_make_full _ rfl _ _ 37 rfl wq.heap.size 5 i0 (.int .u8 0) 1 Tryz.underlying37 hi hz0 hz1 _ _ _ _ 4 rfl rfl rfl rfl ?b2 ?b3 (Nat.le_refl _) ?_)
              case b2 => rw [hz2]; omega
              case b3 => unfold maxLen; omega
              intro w5 hown5 hgrow5
              have hb5 : Below wq.heap.size wq w5 := (Below.refl _ _).grown hgrow5 (Nat.le_refl _) (fun k hk => by cases hk)
              clear hgrow5
              go_wp2_with fail
              go_loopw [10, 12] (fun nv i wv => ∃ j : Nat, j ≤ 4 ∧ i = .int .i64 j ∧ nv = .int .u32 ((V / 256 ^ (4 - j) : Nat) : Int) ∧ wv.ownsRow wq.heap.size 5 1 (.slice (some ⟨wq.heap.size, 0, none⟩) 4 4) 4 (downC V 4 j) ∧ Below wq.heap.size wq wv) (fun _ i _ => (intOf i).toNat)
              case atStart => exact ⟨4, by omega, rfl, val_int (by rw [Nat.sub_self, Nat.pow_zero, Nat.div_one]), by rw [downC_start]; simpa [toList_madeCells_one] using hown5, hb5⟩
              case round =>
                clear hown5 hb5
                obtain ⟨j, hj, rfl, rfl, ho5, hb5⟩ := hrel
                by_cases hj0 : 0 < j
                · obtain ⟨m, rfl⟩ : ∃ m, j = m + 1 := ⟨j - 1, by omega⟩
                  have hc := (ho5.cellAt m (by omega)).trans (downC_at V 4 m)
                  have hf := ho5.frozenAt m
                  have HD := Lib.hid (downC_set V 4 m (by omega))
                  have HN := Lib.hid (down_next V 4 m (by omega))
                  have hX : V / 256 ^ (4 - (m + 1)) ≤ V := Nat.div_le_self _ _
                  have e1 : IntKind.i64.wrap (((m + 1 : Nat) : Int) - 1) = (m : Int) := by rw [IntWalk.i64_in _ (by omega)]; omega
                  have b1 : (m : Int) < 4 := by omega
                  generalize V / 256 ^ (4 - (m + 1)) = X at *
                  go_wp2_with fail
                  go_roundw
                  case rel => exact ⟨m, by omega, rfl, val_int (by rw [← HN.out]; omega), by rw [← HD.out]; exact (ho5.stored m _).1, hb5.setCell (p := ⟨wq.heap.size, m, none⟩) (Nat.le_refl _) _⟩
                  case measure => simp [intOf]
                · obtain rfl : j = 0 := by omega
                  rw [downC_end] at ho5
                  have ho2 := own_on ho hb5
                  have hb2 := below_on hb hb5
                  have hB2 := hb2.size
                  have hge := fun j hj => (ho.lt j hj).1
                  go_wp2_with ((with_reducible refine wpL_appendRow W.heap.size 5 i0 (.int .u8 0) 1 Tryz.underlying37 hi hz0 hz1 hz2 rfl _ (4 * k) _ ho2 wq.heap.size wq.heap.size 4 4 _ ho5 (byteCells_one _) (by omega) (by unfold maxLen; omega) (by omega) hB2 ?_ ?_ ?_); rfl; rfl; intro g6 cap6 w6 ho6 hgrow6)
                  go_roundw
                  case rel => exact ⟨k + 1, g6, cap6, by omega, by go_num, rfl, by rw [HS.out, Lib.byteCells_append]; exact ho6, hb2.grown hgrow6 hB2 hge⟩
                  case measure => simp [intOf]; omega
            · obtain rfl : k = 8 := by omega
              have hcv := str_own ho
              clear hix
              go_wp2
              go_ret
              exact ⟨ret1_of (val_str (by rw [outTo_end, HY.out])), hb⟩
    · have h1 : ¬ ((buf.size : Int) + ((k + 1 : Nat) : Int) + 8) % 64 = 0 := by omega
      have hk2 : k + 1 ≤ (119 - n % 64) % 64 := by have := HR2.out; omega
      have HS := Lib.hid (padTo_succ k)
      go_wp2_with ((with_reducible refine wpL_append W.heap.size 5 i0 (.int .u8 0) 1 Tryz.underlying37 hi hz0 hz1 hz2 rfl _ (k + 1) _ (ho.alloc _) wr.heap.size (.int .u8 0) (Lies.new wr _ _) rfl (by unfold maxLen; omega) (by omega) (by simp; omega) ?_ ?_ ?_); rfl; rfl; intro g6 cap6 w6 ho6 hgrow6)
      go_roundw
      case rel =>
        exact ⟨k + 1, g6, cap6, hk2, rfl, by rw [HS.out, Lib.byteCells_append]; exact ho6, Lies.only (hx.alloc _) hgrow6 (fun e => hgw e.symm), (hb.alloc hsz _).grown hgrow6 (by simp; omega) (fun j hj => (ho.lt j hj).1)⟩
      case measure => simp [lenOf]; omega
end Go.Proofs.YtdjglghecekeoaaGreatDoor.U

/- The contract of the statements' own call that asks for a known sum. -/
namespace Go.Proofs.YtdjglghecekeoaaGreatDoor.U
open Go.RowKit
set_option maxRecDepth 100000

/-- one text as a row that was just laid -/
theorem strs_one (w : World) (x : List UInt8) : Strs (w.alloc (.cells #[.string ⟨x.toArray⟩] 9)) (.slice (some ⟨w.heap.size, 0, none⟩) 1 1) [x] := by
  refine ⟨some ⟨w.heap.size, 0, none⟩, 1, rfl, Nat.le_refl _, by unfold maxLen; omega, (fun h => by cases h), fun _ => ⟨w.heap.size, 0, rfl, fun i y hi => ?_⟩⟩
  match i, hi with
  | 0, hi =>
    have : x = y := by simpa using hi
    subst this
    rw [World.cell?_alloc_new]
    rfl
theorem sum_one (w : World) (x : List UInt8) (hx : x.length ≤ 1000000000) (hT : Tab w) :
    Calls Tryz.prog 46 #[.slice (some ⟨w.heap.size, 0, none⟩) 1 1] (w.alloc (.cells #[.string ⟨x.toArray⟩] 9)) fun e w' => e = .returned (.string (bytesOf (sumT x))) ∧ Below w.heap.size w w' := by
  have hb := (Below.refl w.heap.size w).alloc (Nat.le_refl _) (.cells #[.string ⟨x.toArray⟩] 9)
  have h := sum_any _ _ [x] (strs_one w x) (by simp; omega) (hT.below hb)
  rw [List.flatten_singleton] at h
  exact h.mono fun e w' ⟨he, hb2⟩ => ⟨he, below_on hb hb2⟩

end Go.Proofs.YtdjglghecekeoaaGreatDoor.U

