/- Texts that stand on one another, put together: UOwn, URefTimes, URootMath, URefRoot, URefMix, URefPlain, URefRows, URefWrite, USums, Hex, RefHex, ShelfI, Unhex, ELaw, Frame, VMem, VLies, VRow. -/
import Derived.Test.YteecbglmohhaeaaGreatDoorK12
import Derived.BigQuiet
import Derived.ChangeOld
import Derived.ChangeSame
import Derived.Deep.AppendLies
import Derived.Deep.CutRange
import Derived.Deep.DrawnRows
import Derived.Deep.MidRow
import Derived.Deep.QuietTactic
import Derived.Deep.RegionHeld3
import Derived.Deep.RegionLaw
import Derived.Deep.RegionWith
import Derived.Deep.Slices
import Derived.Deep.WholeRow
import Derived.Laws.Bits64
import Derived.Laws.StructEq
import Derived.OpenShut
import Derived.ProofKit
import Derived.Shelf.Bits.Mul64
import Derived.Shelf.Small.Strs
import Derived.Shelf.Strings.Search1
import Derived.ShutString
import Derived.SliceStrings
import Derived.Test.YteecbglmohhaeaaGreatDoorProg
import Derived.Test.YteecbglmohhaeaaGreatDoorRows
/- Rows that a call owns: kept, told apart, and added to. -/
namespace Go.Proofs.YteecbglmohhaeaaGreatDoor.U
open Go.RowKit

theorem own_on {wr w1 : World} {B : Nat} {e : TypeId} {v : Value} {n : Nat} {xs : List Value} (h : wr.ownsRow B e 1 v n xs) (hb : Below wr.heap.size wr w1) : w1.ownsRow B e 1 v n xs := by
  obtain ⟨hl, h⟩ := h
  refine ⟨hl, ?_⟩
  rcases h with h | ⟨g, cap, cur, hv, hg, hh, hr⟩
  · exact Or.inl h
  · exact Or.inr ⟨g, cap, cur, hv, hg, Lies.on (t := e) hh hb, hr⟩

/-- a row of nothing that was just laid -/
theorem own_empty {w : World} {B g : Nat} {e : TypeId} (hl : Lies w g e #[]) (hB : B ≤ g) : w.ownsRow B e 1 (.slice (some ⟨g, 0, none⟩) 0 0) 0 [] :=
  ⟨rfl, .inr ⟨g, 0, #[], rfl, hB, hl, Nat.le_refl _, Nat.zero_le _, rfl, rfl⟩⟩
/-- one value goes behind a row that the call owns -/
theorem wpL_append {P : Program} {ops : Array Oper} {rest : List Oper} {a : Act} {w : World} {Q : Exit → Act → World → Prop} {t' : TypeId} {pos : String} {after : Array Edge} {d : Option Tmp} {x y : Tmp} {ty : TypeId}
    (B : Nat) (e : TypeId) (i : TypeInfo) (z : Value) (bytes : Nat) (ht : P.underlying ty = some (.slice e)) (hi : P.info? e = some i) (hz : i.zero = some z) (hsize : i.size = 1) (hby : i.bytes = bytes) (hzs : z.cells.size = 1)
    (v : Value) (n : Nat) (xs : List Value) (hown : w.ownsRow B e 1 v n xs) (b : Nat) (u : Value) (hl : Lies w b e #[u]) (hu : u.oneCell' = true) (h63 : n + 1 ≤ maxLen) (hbytes : (n + 1) * bytes ≤ 140737488355328) (hbase : B ≤ w.heap.size)
    (hs : a.eval (.tmp x) = v) (hx : a.eval (.tmp y) = .slice (some ⟨b, 0, none⟩) 1 1)
    (h : ∀ g cap w', w'.ownsRow B e 1 (.slice (some ⟨g, 0, none⟩) (n + 1) cap) (n + 1) (xs ++ [u]) → w.grownBy w' v.ownBlock → wpList P ops Q rest (a.put d (.slice (some ⟨g, 0, none⟩) (n + 1) cap)) w') :
    wpList P ops Q (⟨d, .call { callee := .builtin .append, args := #[.tmp x, .tmp y], argTypes := #[ty, ty] }, t', pos, after, none⟩ :: rest) a w :=
  wpList_append_lies (o := ⟨d, .call { callee := .builtin .append, args := #[.tmp x, .tmp y], argTypes := #[ty, ty] }, t', pos, after, none⟩) w rfl _ _ ty rfl B e i z 1 bytes ht hi hz hsize hby hzs (by decide) v n xs hs hown ⟨b, 0, none⟩ 1 1 [u] hx rfl (World.news_of_block hl) (by simpa using hu) (by decide) h63 hbytes hbase w.heap.size rfl (fun g cap w' h2 h3 _ _ => h g cap w' h2 h3)

end Go.Proofs.YteecbglmohhaeaaGreatDoor.U

/- The contracts of the reference's times and above: numbers of digits. -/
namespace Go.Proofs.YteecbglmohhaeaaGreatDoor.U
open Go.RowKit
set_option maxRecDepth 100000

abbrev w64 (x : Nat) : Value := Value.int .u64 (x : Int)
/-! ### what they reckon -/
/-! ### rows of them in memory -/
/-- digits lie there -/
def Digs (w : World) (g : Nat) (l : List Nat) : Prop := ∀ i, i < l.length → w.cell? ⟨g, i, none⟩ = some (w64 (l.getD i 0))
theorem Digs.on {w w' : World} {g : Nat} {l : List Nat} (h : Digs w g l) (hb : Below w.heap.size w w') : Digs w' g l := fun i hi => by
  have h1 := h i hi
  exact (hb.cell (p := ⟨g, i, none⟩) (World.block_lt_of_cell? w _ h1)).trans h1
theorem own_dig {w : World} {B g n cap : Nat} {e : TypeId} {l : List Nat} (h : w.ownsRow B e 1 (.slice (some ⟨g, 0, none⟩) n cap) n (l.map w64)) : Digs w g l := fun i hi => by
  have hn : l.length = n := by simpa using h.1
  rw [h.cellAt i (by omega), List.getElem?_map, List.getElem?_eq_getElem hi, List.getD_eq_getElem?_getD, List.getElem?_eq_getElem hi]
  rfl
theorem own_put {w : World} {B g n cap : Nat} {e : TypeId} {l : List Nat} (h : w.ownsRow B e 1 (.slice (some ⟨g, 0, none⟩) n cap) n (l.map w64)) (j x : Nat) :
    (w.setCell ⟨g, j, none⟩ (w64 x)).ownsRow B e 1 (.slice (some ⟨g, 0, none⟩) n cap) n ((l.set j x).map w64) := by
  rw [List.map_set]
  exact (h.stored j _).1
theorem own_putv {w : World} {B g n cap : Nat} {e : TypeId} {l : List Nat} (h : w.ownsRow B e 1 (.slice (some ⟨g, 0, none⟩) n cap) n (l.map w64)) (j x : Nat) (v : Value) (hv : v = w64 x) :
    (w.setCell ⟨g, j, none⟩ v).ownsRow B e 1 (.slice (some ⟨g, 0, none⟩) n cap) n ((l.set j x).map w64) := by
  rw [hv]
  exact own_put h j x
theorem made_zeros (n : Nat) : (madeCells #[Value.int .u64 0] n).toList = (List.replicate n 0).map w64 := by
  rw [List.map_replicate, toList_madeCells_one]
  rfl
theorem getD_past {l : List Nat} {i : Nat} (h : ¬ i < l.length) : l.getD i 0 = 0 := by
  rw [List.getD_eq_getElem?_getD, List.getElem?_eq_none (by omega)]
  rfl

end Go.Proofs.YteecbglmohhaeaaGreatDoor.U

/- What the reference's constants are made of: roots of primes, digit by digit. -/
namespace Go.Proofs.YteecbglmohhaeaaGreatDoor.U

def valL (r : List Nat) : Nat → Nat
  | 0 => 0
  | j + 1 => (valL r j * 65536 + r.getD (1 - j) 0) % 4294967296
theorem val_lt (r : List Nat) (j : Nat) : valL r j < 4294967296 := by
  cases j with
  | zero => show 0 < _; decide
  | succ j => exact Nat.mod_lt _ (by decide)
end Go.Proofs.YteecbglmohhaeaaGreatDoor.U

/- The contract of the reference's root: a root's first bits, digit by digit. -/
namespace Go.Proofs.YteecbglmohhaeaaGreatDoor.U
open Go.RowKit
set_option maxRecDepth 100000

theorem Digs.far {w : World} {g : Nat} {l : List Nat} (h : Digs w g l) {p : Addr} (hp : p.block ≠ g) (v : Value) : Digs (w.setCell p v) g l := fun i hi => by
  rw [World.cell?_setCell_other w p ⟨g, i, none⟩ v (fun e => hp (by rw [e]))]
  exact h i hi
theorem Digs.lt {w : World} {g : Nat} {l : List Nat} (h : Digs w g l) (h0 : 0 < l.length) : g < w.heap.size := World.block_lt_of_cell? w ⟨g, 0, none⟩ (h 0 h0)
end Go.Proofs.YteecbglmohhaeaaGreatDoor.U

/- The contract of the reference's Mix: eight words behind a block. -/
namespace Go.Proofs.YteecbglmohhaeaaGreatDoor.U
open Go.RowKit
set_option maxRecDepth 100000

/-- eight words as a row -/
abbrev wordsA (s : H8) : Array Value := #[u32 s.a, u32 s.b, u32 s.c, u32 s.d, u32 s.e, u32 s.f, u32 s.g, u32 s.h]
/-- the constants as a row -/
def ksA : Array Value := (ks.map u32).toArray
/-- the reference's constants in memory -/
def Keysat (w : World) (g : Nat) : Prop := Lies w g 88 ksA

end Go.Proofs.YteecbglmohhaeaaGreatDoor.U

/- The contracts of the reference's Keys and Right, and of the statement's few. -/
namespace Go.Proofs.YteecbglmohhaeaaGreatDoor.U
open Go.RowKit
set_option maxRecDepth 100000

set_option maxRecDepth 100000 in
set_option maxHeartbeats 800000 in
theorem keys_any (w : World) :
    Calls Tryz.prog 74 #[] w fun e w' => ∃ g, e = .returned (.slice (some ⟨g, 0, none⟩) 64 64) ∧ w.heap.size ≤ g ∧ Keysat w' g ∧ Below w.heap.size w w' := by
  go_enter Tryz.func74, Tryz.ntmps74
  go_wp2
  go_ret
  exact ⟨_, rfl, Nat.le_refl _, Lies.new w 88 ksA, (Below.refl _ w).alloc (Nat.le_refl _) _⟩

end Go.Proofs.YteecbglmohhaeaaGreatDoor.U

/- The contracts of the reference's Roots, Begins, First, Same. -/
namespace Go.Proofs.YteecbglmohhaeaaGreatDoor.U
open Go.RowKit
set_option maxRecDepth 100000

/-- words lie there -/
def Row32 (w : World) (g : Nat) (l : List Nat) : Prop := ∀ i, i < l.length → w.cell? ⟨g, i, none⟩ = some (u32 (l.getD i 0))
theorem Row32.on {w w' : World} {g : Nat} {l : List Nat} (h : Row32 w g l) (hb : Below w.heap.size w w') : Row32 w' g l := fun i hi => by
  have h1 := h i hi
  exact (hb.cell (p := ⟨g, i, none⟩) (World.block_lt_of_cell? w _ h1)).trans h1
end Go.Proofs.YteecbglmohhaeaaGreatDoor.U

/- The contract of the reference's Write. -/
namespace Go.Proofs.YteecbglmohhaeaaGreatDoor.U
open Go.RowKit
set_option maxRecDepth 100000

/-- values go into a row, from a place on -/
def putAll (cs : Array Value) (o : Nat) : List Value → Array Value
  | [] => cs
  | v :: r => putAll (cs.setIfInBounds o v) (o + 1) r
theorem Lies.putAll {g : Nat} {t : TypeId} : ∀ (vs : List Value) (o : Nat) {w : World} {cs : Array Value}, Lies w g t cs → Lies (w.setCells g o vs) g t (Go.Proofs.YteecbglmohhaeaaGreatDoor.U.putAll cs o vs)
  | [], _, _, _, h => h
  | v :: r, o, _, _, h => Lies.putAll r (o + 1) (h.put o v)
theorem Only.putAll {g : Nat} {a : World} : ∀ (vs : List Value) (o : Nat) {w : World}, Only g a w → Only g a (w.setCells g o vs)
  | [], _, _, h => h
  | v :: r, o, _, h => Only.putAll r (o + 1) (h.put (p := ⟨g, o, none⟩) (Or.inl rfl) v)
theorem words_one (M : H8) : ∀ v ∈ (wordsA M).toList, v.oneCell' = true := by
  intro v hv
  simp at hv
  rcases hv with rfl | rfl | rfl | rfl | rfl | rfl | rfl | rfl <;> rfl
end Go.Proofs.YteecbglmohhaeaaGreatDoor.U

/- What is proved: whatever bytes the statement of sums is called with, it answers true; no condition. -/
namespace Go.Proofs.YteecbglmohhaeaaGreatDoor.U
open Go.RowKit
set_option maxRecDepth 100000

theorem Row32.far {w : World} {g : Nat} {l : List Nat} (h : Row32 w g l) {p : Addr} (hp : p.block ≠ g) (v : Value) : Row32 (w.setCell p v) g l := fun i hi => by
  rw [World.cell?_setCell_other w p ⟨g, i, none⟩ v (fun e => hp (by rw [e]))]
  exact h i hi

/-- the sum of one text -/
theorem sum_text (t : ByteArray) (w : World) (h : t.size ≤ 1000) (hw : Tab w) :
    Calls Tryz.prog 31 #[.slice (some ⟨w.heap.size, 0, none⟩) 1 1] (w.alloc (.cells #[.string t] 9)) fun e w' => e = .returned (.string (bytesOf (sumT t.data.toList))) ∧ Below w.heap.size w w' := by
  have hs := sum_one w t.data.toList (by rw [← Lib.size_eq]; omega) hw
  rw [show (⟨t.data.toList.toArray⟩ : ByteArray) = t from Lib.mk_data t] at hs
  exact hs
end Go.Proofs.YteecbglmohhaeaaGreatDoor.U

/- The contracts of the calls that turn bytes into digits: octet's Hex and the reference's. -/
namespace Go.Proofs.YteecbglmohhaeaaGreatDoor
open Go.RowKit
attribute [local go_sem ↓] Go.wp_at_zero Go.wp_at_succ
theorem low_all : ∀ n : Fin 256, bits BinOp.and IntKind.u8 (n.val : Int) 15 = ((n.val % 16 : Nat) : Int) := by decide +kernel
theorem low_nibble (c : UInt8) : 0 ≤ bits BinOp.and IntKind.u8 (c.toNat : Int) 15 ∧ bits BinOp.and IntKind.u8 (c.toNat : Int) 15 < 16 ∧ bits BinOp.and IntKind.u8 (c.toNat : Int) 15 = ((c.toNat % 16 : Nat) : Int) := by
  have h := low_all ⟨c.toNat, u8_lt c⟩
  simp only at h
  rw [h]
  omega

/-- the constant text of the sixteen digits -/
abbrev digB : ByteArray := { data := #[48, 49, 50, 51, 52, 53, 54, 55, 56, 57, 97, 98, 99, 100, 101, 102] }
theorem digB_all : ∀ n : Fin 16, digB[n.val]'n.isLt = dg n.val := by decide +kernel
theorem digB_at (i : Nat) (h : i < digB.size) : digB[i] = dg i := digB_all ⟨i, h⟩
theorem hex_row {w : World} {B : Nat} {v : Value} (s : ByteArray) (k : Nat) (hlt : k < s.size) (h1 : ((s[k].toNat : Int) / 16).toNat < digB.size) (h2 : (bits BinOp.and IntKind.u8 (s[k].toNat : Int) 15).toNat < digB.size)
    (hown : w.ownsRow B 5 1 v (2 * k + 2) (Lib.byteCells (hexL (s.data.toList.take k)) ++ #[Value.int .u8 (digB[((s[k].toNat : Int) / 16).toNat].toNat), Value.int .u8 (digB[(bits BinOp.and IntKind.u8 (s[k].toNat : Int) 15).toNat].toNat)].toList)) :
    w.ownsRow B 5 1 v (2 * (k + 1)) (Lib.byteCells (hexL (s.data.toList.take (k + 1)))) := by
  have e : ((s[k].toNat : Int) / 16).toNat = s[k].toNat / 16 := by omega
  have e' : (bits BinOp.and IntKind.u8 (s[k].toNat : Int) 15).toNat = s[k].toNat % 16 := by rw [(low_nibble s[k]).2.2]; rfl
  rw [digB_at _ h1, digB_at _ h2, e, e'] at hown
  rw [take_snoc s k hlt, hexL_append]
  rw [show 2 * (k + 1) = 2 * k + 2 by omega]
  simpa [hexL, Lib.byteCells] using hown

set_option maxRecDepth 100000 in
set_option maxHeartbeats 800000 in
theorem hex_any (s : ByteArray) (W : World) (hs : s.size ≤ 1000000) :
    Calls Tryz.prog 30 #[.string s] W fun e W' => e = .returned (.string ⟨(hexL s.data.toList).toArray⟩) ∧ Below W.heap.size W W' := by
  obtain ⟨i0, hi, hz0, hz1, hz2⟩ := info_parts info5
  go_enter Tryz.func30, Tryz.ntmps30
  go_wp2_with (at_make; refine wpList_make_own _ rfl _ _ 71 rfl W.heap.size 5 i0 (.int .u8 0) 1 Tryz.underlying71 hi hz0 hz1 _ _ _ (2 * s.size) rfl rfl (by omega) ?b2 ?b3 (Nat.le_refl _) ?_)
  case b2 => rw [hz2]; omega
  case b3 => unfold maxLen; omega
  intro w1 hown hgrow
  have hb1 := (Below.refl W.heap.size W).grown hgrow (Nat.le_refl _) (fun k hk => by cases hk)
  clear hgrow
  go_wp2_with fail
  go_loopw [3, 11] (fun o i wr => ∃ k : Nat, k ≤ s.size ∧ i = .int .i64 k ∧ wr.ownsRow W.heap.size 5 1 o (2 * k) (Lib.byteCells (hexL (s.data.toList.take k))) ∧ Below W.heap.size W wr) (fun _ i _ => s.size - (intOf i).toNat)
  case atStart => exact ⟨0, Nat.zero_le _, rfl, by simpa [hexL, Lib.byteCells] using hown, hb1⟩
  case round =>
    obtain ⟨k, hk, rfl, ho, hb⟩ := hrel
    by_cases hlt : k < s.size
    · have hi1 : (k : Int) < (s.size : Int) := by omega
      have hi0 : (0 : Int) ≤ (k : Int) := by omega
      have hc1 : (0 : Int) ≤ (s[k].toNat : Int) / 16 := by omega
      have hc2 : (s[k].toNat : Int) / 16 < 16 := by have := u8_lt s[k]; omega
      have hc3 := (low_nibble s[k]).1
      have hc4 := (low_nibble s[k]).2.1
      go_wp2_with fail
      go_region_law ((refine step_append_lies _ (by rfl) _ _ _ (by rfl) W.heap.size 5 i0 _ 1 1 Tryz.underlying71 hi hz0 hz1 hz2 rfl (by omega) u3 (2 * k) _ (by rfl) ((ho.alloc _).drew) ⟨wr.heap.size, 0, none⟩ 2 2 _ (by rfl) (by rfl) (World.news_of_block (t := 5) (fr := (0, 0)) (heap_alloc_new wr _)) (by simp [Value.oneCell']) (by omega) (by unfold maxLen; omega) (by omega) (by have := hb.size; simp; omega) (wr.heap.size + 1) (by simp) ?_; intro g cap w2 hown2 hgrow2 hat2 hlt2))
      all_goals
        go_wp2
        go_roundw
        case rel => exact ⟨k + 1, by omega, by go_num, hex_row s k hlt _ _ hown2, (hb.alloc hb.size _).drew.grown hgrow2 (by have := hb.size; simp; omega) (fun j hj => (ho.lt j hj).1)⟩
        case measure => simp [intOf]; omega
    · obtain rfl : k = s.size := by omega
      have hcv := str_own ho
      go_wp2
      go_ret
      exact ⟨ret1_of (val_str (by rw [List.take_of_length_le (by simp)])), hb⟩
end Go.Proofs.YteecbglmohhaeaaGreatDoor

/- The contracts of the reference's Hex and digit. -/
namespace Go.Proofs.YteecbglmohhaeaaGreatDoor
open Go.RowKit
attribute [local go_sem ↓] Go.wp_at_zero Go.wp_at_succ
theorem wrap_u8_eq (n : Int) : IntKind.u8.wrap n = n % 256 := by simp [IntKind.wrap, IntKind.bits, IntKind.signed]
end Go.Proofs.YteecbglmohhaeaaGreatDoor

/- The library's own contracts laid at this program: one application each. -/
namespace Go.Proofs
open Go.Shelf
def Tryz.lays137_ren : Go.Shelf.Ren := ⟨fun | 137 => 68 | 217 => 107 | 266 => 144 | n => n, fun | 9 => 9 | 5 => 5 | 3 => 3 | n => n, fun | n => n⟩
theorem Tryz.lays137 : Go.Proofs.Lays.n137 Tryz.prog Tryz.lays137_ren := {
  mixed := by kernel_rfl
  f137 := Tryz.func68.trans (congrArg some (by kernel_rfl))
  f217 := Tryz.func107.trans (congrArg some (by kernel_rfl))
  f266 := Tryz.func144.trans (congrArg some (by kernel_rfl))
  t3 := Tryz.underlying3
  a3 := Tryz.isAgg3
  z3 := Tryz.sizeOf3
  v3 := Tryz.zeroValue3
  t5 := Tryz.underlying5
  a5 := Tryz.isAgg5
  z5 := Tryz.sizeOf5
  v5 := Tryz.zeroValue5
  t9 := Tryz.underlying9
  a9 := Tryz.isAgg9
  z9 := Tryz.sizeOf9
  v9 := Tryz.zeroValue9 }
open Go.RowKit in
theorem Tryz.strings_IndexByte (s : ByteArray) (c : Int) (w : World) :
    Calls Tryz.prog 68 #[.string s, .int .u8 c] w fun e w' => e = .returned (.int .i64 (Lib.indexByte s.data.toList c.toNat.toUInt8)) ∧ w' = w := Any.strings_IndexByte Tryz.lays137 s c w
end Go.Proofs

/- The contracts of the calls that turn digits into bytes: octet's Unhex and the reference's. -/
namespace Go.Proofs.YteecbglmohhaeaaGreatDoor
open Go.RowKit

theorem idx_any (c : UInt8) (w : World) :
    Calls Tryz.prog 68 #[.string digB, .int .u8 c.toNat] w fun e w' => e = .returned (.int .i64 (dv c)) ∧ w' = w := by
  have h := Tryz.strings_IndexByte digB (c.toNat : Int) w
  have e : Lib.indexByte digB.data.toList ((c.toNat : Int)).toNat.toUInt8 = dv c := by rw [show ((c.toNat : Int)).toNat.toUInt8 = c by simp]; rfl
  rw [e] at h
  exact h

theorem or_nibbles : ∀ a b : Fin 16, bits BinOp.or IntKind.i64 ((a.val : Int) * 16) (b.val : Int) % 256 = (((16 * a.val + b.val).toUInt8).toNat : Int) := by decide +kernel
theorem or_dv (a b : Int) (ha : 0 ≤ a) (hb : 0 ≤ b) (ha' : a ≤ 15) (hb' : b ≤ 15) : bits BinOp.or IntKind.i64 (a * 16) b % 256 = (((16 * a.toNat + b.toNat).toUInt8).toNat : Int) := by
  have h := or_nibbles ⟨a.toNat, by omega⟩ ⟨b.toNat, by omega⟩
  simp only at h
  rw [show ((a.toNat : Nat) : Int) = a by omega, show ((b.toNat : Nat) : Int) = b by omega] at h
  exact h
theorem unhex_row {w : World} {B : Nat} {v : Value} {acc : List UInt8} {c d : UInt8} (hown : w.ownsRow B 5 1 v (acc.length + 1) (Lib.byteCells acc ++ #[Value.int .u8 (bits BinOp.or IntKind.i64 (dv c * 16) (dv d) % 256)].toList)) (hc : 0 ≤ dv c) (hd : 0 ≤ dv d) :
    w.ownsRow B 5 1 v (acc ++ [(16 * (dv c).toNat + (dv d).toNat).toUInt8]).length (Lib.byteCells (acc ++ [(16 * (dv c).toNat + (dv d).toNat).toUInt8])) := by
  rw [or_dv _ _ hc hd (dv_bounds c).2 (dv_bounds d).2] at hown
  rw [Lib.byteCells_append, List.length_append]
  exact hown

set_option maxHeartbeats 400000 in
theorem unhex_bad (s : ByteArray) (W : World) (m : Nat) (hm : 2 * m + 1 = s.size) :
    Calls Tryz.prog 43 #[.string s] W fun e W' => e = .returned (.tuple #[.string ByteArray.empty, .int .i64 4]) ∧ Below W.heap.size W W' := by
  have ho : ((s.size : Int) % 2 != 0) = true := by simp; omega
  go_enter Tryz.func43, Tryz.ntmps43
  go_wp2
  go_ret2
  exact ⟨rfl, Below.refl _ _⟩

set_option maxRecDepth 100000 in
set_option maxHeartbeats 800000 in
theorem unhex_even (s : ByteArray) (W : World) (hs : s.size ≤ 1000000) (m : Nat) (hm : 2 * m = s.size) :
    Calls Tryz.prog 43 #[.string s] W fun e W' => e = .returned (.tuple #[.string (unhexS s.data.toList), .int .i64 (unhexE s.data.toList)]) ∧ Below W.heap.size W W' := by
  obtain ⟨i0, hi, hz0, hz1, hz2⟩ := info_parts info5
  have ho : ((s.size : Int) % 2 != 0) = false := by simp; omega
  go_enter Tryz.func43, Tryz.ntmps43
  go_wp2_with (at_make; refine wpList_make_own _ rfl _ _ 71 rfl W.heap.size 5 i0 (.int .u8 0) 1 Tryz.underlying71 hi hz0 hz1 _ _ _ m rfl rfl (by omega) ?b2 ?b3 (Nat.le_refl _) ?_)
  case b2 => rw [hz2]; omega
  case b3 => unfold maxLen; omega
  intro w1 hown hgrow
  have hb1 := (Below.refl W.heap.size W).grown hgrow (Nat.le_refl _) (fun k hk => by cases hk)
  clear hgrow
  go_wp2_with fail
  go_loopw [4, 5] (fun o i wr => ∃ (k : Nat) (acc : List UInt8), k ≤ s.size ∧ i = .int .i64 k ∧ 2 * acc.length = k ∧ wr.ownsRow W.heap.size 5 1 o acc.length (Lib.byteCells acc) ∧ Reads s.data.toList acc k ∧ Below W.heap.size W wr) (fun _ i _ => s.size - (intOf i).toNat)
  case atStart => exact ⟨0, [], Nat.zero_le _, rfl, rfl, by simpa [Lib.byteCells] using hown, reads_zero _, hb1⟩
  case round =>
    obtain ⟨k, acc, hk, rfl, hka, ho, hrd, hb⟩ := hrel
    have HK := Lib.hid hka
    clear hka
    by_cases hlt : k < s.size
    · have hlt2 : k + 1 < s.size := by have := HK.out; omega
      have d1 := dv_bounds s[k]
      have d2 := dv_bounds s[k + 1]
      have e1 : (k : Int) + 1 < (s.size : Int) := by omega
      have e0 : (k : Int) < (s.size : Int) := by omega
      have e2 : (0 : Int) ≤ (k : Int) + 1 := by omega
      have e3 : ((k : Int) + 1).toNat = k + 1 := by omega
      have e4 : IntKind.i64.wrap ((k : Int) + 1) = (k : Int) + 1 := IntWalk.i64_in _ (by omega)
      go_wp2_with fail
      go_quiet ((go_at_call 68; exact Calls.quiet_of_same (idx_any _ _)))
      have hoq : (wr.drewN nq).ownsRow W.heap.size 5 1 u4 acc.length (Lib.byteCells acc) := ho
      have hbq : Below W.heap.size W (wr.drewN nq) := below_drewN hb nq
      clear ho hb
      generalize wr.drewN nq = w3 at hoq hbq ⊢
      have hB := hbq.size
      by_cases ha : 0 ≤ dv s[k]
      · by_cases hb' : 0 ≤ dv s[k + 1]
        · have hl : acc.length ≤ 1000000 := by have := HK.out; omega
          go_wp2_with (at_builtin; refine wpList_append_lies _ rfl _ _ 71 (by rfl) W.heap.size 5 i0 _ 1 1 Tryz.underlying71 hi hz0 hz1 hz2 rfl (by omega) u4 acc.length _ (by rfl) (hoq.alloc _) ⟨w3.heap.size, 0, none⟩ 1 1 _ (by rfl) (by rfl) (World.news_of_block (t := 5) (fr := (0, 0)) (heap_alloc_new w3 _)) (by simp [Value.oneCell']) (by omega) (by unfold maxLen; omega) (by omega) (by simp; omega) (w3.heap.size + 1) (by simp) ?_; intro g cap w2 hown2 hgrow2 hat2 hlt3)
          go_wp2
          go_roundw
          case rel => exact ⟨k + 2, _, by omega, by go_num, by simp; have := HK.out; omega, unhex_row hown2 ha hb', reads_step _ _ _ (by simpa using hlt2) hrd ha hb', (hbq.alloc hB _).grown hgrow2 (by simp; omega) (fun j hj => (hoq.lt j hj).1)⟩
          case measure => simp [intOf]; omega
        · have hn := reads_stop _ _ _ (by simpa using hlt2) hrd (fun h => hb' h.2)
          have h1 := Lib.hid (unhexS_none hn)
          have h2 := Lib.hid (unhexE_none hn)
          clear hn hrd
          go_wp2
          go_ret2
          exact ⟨by rw [h1.out, h2.out]; rfl, hbq⟩
      · have hn := reads_stop _ _ _ (by simpa using hlt2) hrd (fun h => ha h.1)
        have h1 := Lib.hid (unhexS_none hn)
        have h2 := Lib.hid (unhexE_none hn)
        clear hn hrd
        go_wp2
        go_ret2
        exact ⟨by rw [h1.out, h2.out]; rfl, hbq⟩
    · have hks : k = s.data.toList.length := by simp; omega
      rw [hks] at hrd
      have hn := reads_end _ _ hrd
      have h1 := Lib.hid (unhexS_some hn)
      have h2 := Lib.hid (unhexE_some hn)
      have hcv := str_own ho
      clear hn hrd hks
      go_wp2
      go_ret2
      exact ⟨by rw [h1.out, h2.out]; rfl, hb⟩

theorem unhex_any (s : ByteArray) (W : World) (hs : s.size ≤ 1000000) :
    Calls Tryz.prog 43 #[.string s] W fun e W' => e = .returned (.tuple #[.string (unhexS s.data.toList), .int .i64 (unhexE s.data.toList)]) ∧ Below W.heap.size W W' := by
  rcases Nat.mod_two_eq_zero_or_one s.size with h | h
  · exact unhex_even s W hs (s.size / 2) (by omega)
  · have hn := unhex_odd s.data.toList (s.size / 2) (by simp; omega)
    rw [unhexS_none hn, unhexE_none hn]
    exact unhex_bad s W (s.size / 2) (by omega)
end Go.Proofs.YteecbglmohhaeaaGreatDoor

/- The statements' own calls: short, first, alive; what is signed is verified, and not with another number. -/
namespace Go.Proofs.YteecbglmohhaeaaGreatDoor.E
open Go.RowKit Go.Sort Go.Proofs.YteecbglmohhaeaaGreatDoor.F Go.Proofs.YteecbglmohhaeaaGreatDoor.C
set_option maxRecDepth 100000

/-! ### short, first, alive -/
/-! ### what is signed is verified -/
theorem key_text {P : Pt} (h : P.On) : keyB (textN P) = true ∧ keyQ (textN P) = P := by
  have hp := text_parts P
  have e1 : keyY (textN P) = P.y.val := hp.1
  have e2 : keyO (textN P) = decide (P.x.val % 2 = 1) := hp.2
  have hb : keyB (textN P) = true := by unfold keyB; rw [e1, e2]; exact parseB_on h
  refine ⟨hb, ?_⟩
  have h1 := key_pn hb
  rw [e1, e2] at h1
  exact h1.same (parseT_pn h)
section
variable (s m : ByteArray)
theorem seedT_size : (seedT s m).size = 64 := by
  unfold seedT signT
  rw [ByteArray.size_append, text_size]
  simp [ByteArray.size, leL_length]
theorem seedT_list : (seedT s m).data.toList = (signT s.data.toList m.data.toList).data.toList ++ leL (signS s.data.toList m.data.toList) 32 := by
  unfold seedT
  rw [T.list_append]
theorem seedT_take : (seedT s m).data.toList.take 32 = (signT s.data.toList m.data.toList).data.toList := by
  have h : (signT s.data.toList m.data.toList).data.toList.length = 32 := by rw [← Lib.size_eq]; exact text_size _
  rw [seedT_list, ← h, List.take_left']
  rfl
theorem seedT_drop : (seedT s m).data.toList.drop 32 = leL (signS s.data.toList m.data.toList) 32 := by
  have h : (signT s.data.toList m.data.toList).data.toList.length = 32 := by rw [← Lib.size_eq]; exact text_size _
  rw [seedT_list, List.drop_left' h]
theorem signS_lt (a b : List UInt8) : signS a b < l25 := Nat.mod_lt _ (by decide)
theorem sigN_own : sigN (seedT s m) = signS s.data.toList m.data.toList := by
  unfold sigN
  rw [seedT_drop, numLE_leL, Nat.mod_eq_of_lt (Nat.lt_trans (signS_lt _ _) (by decide))]
theorem text_back (x : ByteArray) (l : List UInt8) (h : x.data.toList = l) : x = ⟨l.toArray⟩ := by rw [← h, Lib.mk_data]
theorem key_on : (keyP s.data.toList).On := Pt.smul_on Bp_on _
theorem keyT_is : keyB (keyT s.data.toList) = true := (key_text (key_on s)).1
theorem own_point : (Bp.smul (signS s.data.toList m.data.toList)).add ((keyP s.data.toList).smul (signK s.data.toList m.data.toList)).neg = Bp.smul (signR s.data.toList m.data.toList) := by
  unfold signS keyP
  exact sign_point _ _ _
theorem sigK_of (x : ByteArray) (h : x.data.toList.take 32 = (signT s.data.toList m.data.toList).data.toList) : sigK (keyT s.data.toList) m x = signK s.data.toList m.data.toList := by
  unfold sigK signK
  rw [h]
theorem first_of (x : ByteArray) (h : x.data.toList.take 32 = (signT s.data.toList m.data.toList).data.toList) : x.extract 0 32 = signT s.data.toList m.data.toList := by
  rw [text_back (x.extract 0 32) _ (T.head_list x 32), h, Lib.mk_data]
theorem sigR_of (x : ByteArray) (h : x.data.toList.take 32 = (signT s.data.toList m.data.toList).data.toList) :
    sigR (keyT s.data.toList) m x = textN ((Bp.smul (sigN x)).add ((keyP s.data.toList).smul (signK s.data.toList m.data.toList)).neg) := by
  unfold sigR
  rw [sigK_of s m x h]
  unfold keyT
  rw [(key_text (key_on s)).2]
theorem verify_own : verifyE (keyT s.data.toList) m (seedT s m) = 0 := by
  unfold verifyE
  rw [if_pos ⟨text_size _, seedT_size s m⟩, if_pos (keyT_is s), sigN_own, if_pos (signS_lt _ _), if_pos]
  rw [sigR_of s m _ (seedT_take s m), sigN_own, own_point, first_of s m _ (seedT_take s m)]
  rfl
end
end Go.Proofs.YteecbglmohhaeaaGreatDoor.E

/- How an argument that is a row of texts is opened, and two closed facts of the program that every row's proof wants. -/
namespace Go.Proofs.YteecbglmohhaeaaGreatDoor
open Go.ChangeShapes Go.WideShapes Go.ChangeAt Go.RowKit
open Go.ChangeMaps (open_string shut_string)

theorem rowOwn : ownKnob Tryz.prog.godebug = none := by kernel_rfl
end Go.Proofs.YteecbglmohhaeaaGreatDoor

/- A value in memory: five cells, its items in a row of five cells each, its keys in a row of texts; what stays of it; and how one that came in is opened. -/
namespace Go.Proofs.YteecbglmohhaeaaGreatDoor.V
open Go.ChangeShapes Go.WideShapes Go.ChangeAt Go.RowKit
set_option maxRecDepth 100000

instance : Inhabited VT := ⟨vt0⟩
theorem range_below {w w' : World} {b o : Nat} {cs : List Value} (hb : Below w.heap.size w w') (h : w.rangeAt b o cs) : w'.rangeAt b o cs := fun j v hv => by
  have h4 := h j v hv
  rw [hb.cell (p := ⟨b, o + j, none⟩) (World.block_lt_of_cell? w _ h4), h4]
/-- a row of k cells each: the slice value, how many, what is said of each one's cells -/
def RowC (w : World) (k : Nat) (v : Value) (m : Nat) (p : Nat → List Value → Prop) : Prop :=
  ∃ a c, v = .slice a m c ∧ m ≤ c ∧ c ≤ maxLen ∧ (a = none → c = 0) ∧ (0 < m → ∃ b off, a = some ⟨b, off, none⟩ ∧ ∀ i, i < m → ∃ cs, cs.length = k ∧ w.rangeAt b (off + i * k) cs ∧ p i cs)
theorem RowC.nil (w : World) (k : Nat) (p : Nat → List Value → Prop) : RowC w k (.slice none 0 0) 0 p := ⟨none, 0, rfl, Nat.le_refl _, Nat.zero_le _, fun _ => rfl, fun h => absurd h (by decide)⟩
theorem RowC.mono {w : World} {k : Nat} {v : Value} {m : Nat} {p q : Nat → List Value → Prop} (h : RowC w k v m p) (hq : ∀ i cs, i < m → p i cs → q i cs) : RowC w k v m q := by
  obtain ⟨a, c, hv, hc, hm, hn, hl⟩ := h
  refine ⟨a, c, hv, hc, hm, hn, fun hpos => ?_⟩
  obtain ⟨b, off, ha, hx⟩ := hl hpos
  exact ⟨b, off, ha, fun i hi => let ⟨cs, h1, h2, h3⟩ := hx i hi; ⟨cs, h1, h2, hq i cs hi h3⟩⟩
theorem RowC.below {w w' : World} {k : Nat} {v : Value} {m : Nat} {p : Nat → List Value → Prop} (h : RowC w k v m p) (hb : Below w.heap.size w w') : RowC w' k v m p := by
  obtain ⟨a, c, hv, hc, hm, hn, hl⟩ := h
  refine ⟨a, c, hv, hc, hm, hn, fun hpos => ?_⟩
  obtain ⟨b, off, ha, hx⟩ := hl hpos
  refine ⟨b, off, ha, fun i hi => ?_⟩
  obtain ⟨cs, h1, h2, h3⟩ := hx i hi
  exact ⟨cs, h1, range_below hb h2, h3⟩

/-- what fits a value's own fields -/
def VFit (t : VT) : Prop := (-9223372036854775808 ≤ t.kind ∧ t.kind ≤ 9223372036854775807) ∧ (-9223372036854775808 ≤ t.num ∧ t.num ≤ 9223372036854775807) ∧ t.txt.length ≤ maxLen ∧ ∀ x ∈ t.keys, x.length ≤ maxLen
/-- the five cells cs are the value t, which is no deeper than d -/
def IsV (w : World) : Nat → List Value → VT → Prop
  | 0, _, _ => False
  | d + 1, cs, t => ∃ vi vk, cs = [.int .i64 t.kind, .int .i64 t.num, str t.txt, vi, vk] ∧ VFit t ∧ Strs w vk t.keys ∧ RowC w 5 vi t.items.length (fun i cs' => ∃ x, t.items[i]? = some x ∧ IsV w d cs' x)
/-- the five cells, laid out -/
theorem IsV.form {w : World} {d : Nat} {cs : List Value} {t : VT} (h : IsV w d cs t) : ∃ ai ci ak ck, cs = [.int .i64 t.kind, .int .i64 t.num, .string ⟨t.txt.toArray⟩, .slice ai t.items.length ci, .slice ak t.keys.length ck] := by
  cases d with
  | zero => exact h.elim
  | succ d =>
    obtain ⟨vi, vk, rfl, _, ⟨ak, ck, rfl, _⟩, ai, ci, rfl, _⟩ := h
    exact ⟨ai, ci, ak, ck, rfl⟩
theorem IsV.mono {w : World} : ∀ {d d' : Nat} {cs : List Value} {t : VT}, IsV w d cs t → d ≤ d' → IsV w d' cs t := by
  intro d
  induction d with
  | zero => intro d' cs t h; exact h.elim
  | succ d ih =>
    intro d' cs t h hd
    obtain ⟨e, rfl⟩ : ∃ e, d' = e + 1 := ⟨d' - 1, by omega⟩
    obtain ⟨vi, vk, h1, h2, h3, h4⟩ := h
    exact ⟨vi, vk, h1, h2, h3, h4.mono fun i cs _ ⟨x, hx, hv⟩ => ⟨x, hx, ih hv (by omega)⟩⟩
theorem IsV.below {w w' : World} (hb : Below w.heap.size w w') : ∀ {d : Nat} {cs : List Value} {t : VT}, IsV w d cs t → IsV w' d cs t := by
  intro d
  induction d with
  | zero => intro cs t h; exact h.elim
  | succ d ih =>
    intro cs t h
    obtain ⟨vi, vk, h1, h2, h3, h4⟩ := h
    exact ⟨vi, vk, h1, h2, h3.below hb, (h4.below hb).mono fun i cs _ ⟨x, hx, hv⟩ => ⟨x, hx, ih hv⟩⟩
/-! ### one that came in -/
end Go.Proofs.YteecbglmohhaeaaGreatDoor.V

/- A block that is known whole. Nothing of the program is named here. -/
namespace Go.Proofs.YteecbglmohhaeaaGreatDoor.V
set_option maxRecDepth 100000
open Go.RowKit

/-- block g is just these cells, none of them frozen -/
def Lies (w : World) (g : Nat) (t : TypeId) (cs : Array Value) : Prop := w.heap[g]? = some (.cells cs t (0, 0))

section
variable {w w' : World} {g : Nat} {t : TypeId} {cs : Array Value}
theorem Lies.lt (h : Lies w g t cs) : g < w.heap.size := by
  rcases Nat.lt_or_ge g w.heap.size with hlt | hge
  · exact hlt
  · unfold Lies at h; rw [Array.getElem?_eq_none hge] at h; cases h
theorem Lies.cell (h : Lies w g t cs) (i : Nat) : w.cell? ⟨g, i, none⟩ = cs[i]? := cell_of_row w g i cs t (0, 0) h
theorem Lies.frozen (h : Lies w g t cs) (i : Nat) : w.frozen? ⟨g, i, none⟩ = false := frozen_of_row w g i cs t h
theorem Lies.drewN (h : Lies w g t cs) (n : Nat) : Lies (w.drewN n) g t cs := h
theorem Lies.drew (h : Lies w g t cs) : Lies w.drew g t cs := h
theorem Lies.alloc (h : Lies w g t cs) (o : Obj) : Lies (w.alloc o) g t cs := (Below.heap_alloc w o g h.lt).trans h
theorem Lies.new (w : World) (t : TypeId) (cs : Array Value) : Lies (w.alloc (.cells cs t)) w.heap.size t cs := heap_alloc_new w _
theorem Lies.put (h : Lies w g t cs) (i : Nat) (v : Value) : Lies (w.setCell ⟨g, i, none⟩ v) g t (cs.setIfInBounds i v) := heap_setCell_same w g i cs t v h
theorem Lies.far (h : Lies w g t cs) {p : Addr} (hp : g ≠ p.block) (v : Value) : Lies (w.setCell p v) g t cs := (heap_setCell_other w p g v hp).trans h
theorem Lies.below {B : Nat} (h : Lies w g t cs) (hb : Below B w w') (hg : g < B) : Lies w' g t cs := (hb.block g hg).trans h
theorem Lies.on (h : Lies w g t cs) (hb : Below w.heap.size w w') : Lies w' g t cs := h.below hb h.lt
theorem Lies.only {row : Option Nat} (h : Lies w g t cs) (hb : w.grownBy w' row) (hg : some g ≠ row) : Lies w' g t cs := (hb.block g h.lt hg).trans h
theorem Lies.row (h : Lies w g t cs) (old : Array Value) : Lies (w.setRow g old) g t old := setRow_heap w g cs old t (0, 0) h
theorem Lies.rowFar {g' : Nat} (h : Lies w g t cs) (hg : g ≠ g') (old : Array Value) : Lies (w.setRow g' old) g t cs := (setRow_other w g' g old hg).trans h
end
end Go.Proofs.YteecbglmohhaeaaGreatDoor.V

/- Whole variables read and written, and handed back. -/
namespace Go.Proofs.YteecbglmohhaeaaGreatDoor.V
set_option maxRecDepth 100000
open Go.RowKit

theorem below_drawn {B : Nat} {a w : World} (h : Below B a w) (n : Nat) : Below B a (w.drewN n) := ⟨h.os, h.tape, h.output, h.size, h.block⟩
theorem below_rowSet {B : Nat} {a w : World} (h : Below B a w) {g : Nat} (hg : B ≤ g) (cs : Array Value) : Below B a (w.setRow g cs) :=
  h.trans ⟨rfl, rfl, rfl, by simp, fun k hk => setRow_other _ _ _ _ (by omega)⟩
/-- a type of rows or structs, of so many cells -/
def RowT (P : Program) (ty : TypeId) (n : Nat) : Prop := (∃ d, P.underlying ty = some d ∧ d.isRow = true) ∧ (P.info? ty).map (·.size) = some n
/-- cells of one value each -/
def Ones (cs : Array Value) : Prop := cs.all (·.oneCell') = true
section
variable {P : Program} {ops : Array Oper} {rest : List Oper} {a : Act} {w : World} {Q : Exit → Act → World → Prop} {t' : TypeId} {pos : String} {after : Array Edge}
/-- a variable that is a whole block is read -/
theorem wpL_load {d : Option Tmp} {x : Tmp} {ty : TypeId} (g : Nat) (t : TypeId) (cs : Array Value) (n : Nat) (hT : RowT P ty n) (hn : cs.size = n) (hg : Lies w g t cs)
    (hx : a.eval (.tmp x) = .pointer (some ⟨g, 0, none⟩)) (h : wpList P ops Q rest (a.put d (.agg cs)) w) : wpList P ops Q (⟨d, .load ty (.tmp x), t', pos, after, none⟩ :: rest) a w := by
  obtain ⟨⟨ds, hu, hd⟩, hi⟩ := hT
  exact wpList_load_row (o := ⟨d, .load ty (.tmp x), t', pos, after, none⟩) rfl ty (.tmp x) rfl g hx t cs (0, 0) ds hg hu (by cases ds <;> first | rfl | simp [TypeDesc.isRow] at hd) (by rw [hi, hn]) h
/-- .. and written -/
theorem wpL_store {x y : Tmp} {ty : TypeId} (g : Nat) (t : TypeId) (old cs : Array Value) (n : Nat) (hT : RowT P ty n) (ho : old.size = n) (hn : cs.size = n) (h1 : Ones cs) (hg : Lies w g t old)
    (hx : a.eval (.tmp x) = .pointer (some ⟨g, 0, none⟩)) (hy : a.eval (.tmp y) = .agg cs) (h : wpList P ops Q rest (a.put none undef) (w.setRow g cs)) : wpList P ops Q (⟨none, .store ty (.tmp x) (.tmp y), t', pos, after, none⟩ :: rest) a w :=
  wpList_store_row (o := ⟨none, .store ty (.tmp x) (.tmp y), t', pos, after, none⟩) rfl ty (.tmp x) (.tmp y) rfl g cs hx hy t old hg (by rw [hT.2, hn]) (by rw [ho, hn]) h1 h
/-- some cells in the middle of a block are read -/
theorem wpL_loadMid {d : Option Tmp} {x : Tmp} {ty : TypeId} (g o : Nat) (cs : List Value) (n : Nat) (hT : RowT P ty n) (hn : cs.length = n) (hg : w.rangeAt g o cs)
    (hx : a.eval (.tmp x) = .pointer (some ⟨g, o, none⟩)) (h : wpList P ops Q rest (a.put d (.agg cs.toArray)) w) : wpList P ops Q (⟨d, .load ty (.tmp x), t', pos, after, none⟩ :: rest) a w := by
  obtain ⟨⟨ds, hu, hd⟩, hi⟩ := hT
  exact wpList_load_mid (op := ⟨d, .load ty (.tmp x), t', pos, after, none⟩) rfl ty (.tmp x) rfl g o hx cs ds hg hu hd (by rw [hi, hn]) h
end
/-- what a function hands back that lies in a variable -/
theorem results_row {P : Program} {fn : Func} {p : Tmp} {ty : TypeId} {n : Nat} {w : World} {g : Nat} {t : TypeId} {cs : Array Value} {tmps : Array Value} (h : fn.results = #[.cell p ty]) (hT : RowT P ty n) (hn : cs.size = n) (hg : Lies w g t cs) (hp : tmps.getD p undef = .pointer (some ⟨g, 0, none⟩)) :
    (results fn tmps).run P w = .ok (.agg cs) w := by
  obtain ⟨⟨ds, hu, hd⟩, hi⟩ := hT
  exact results_cell_row h tmps w g t cs (0, 0) ds hp hg hu (by cases ds <;> first | rfl | simp [TypeDesc.isRow] at hd) (by rw [hi, hn])
theorem results_row_tmp {P : Program} {fn : Func} {p u : Tmp} {ty : TypeId} {n : Nat} {w : World} {g : Nat} {t : TypeId} {cs : Array Value} {tmps : Array Value} {x : Value} (h : fn.results = #[.cell p ty, .tmp u]) (hT : RowT P ty n) (hn : cs.size = n) (hg : Lies w g t cs) (hp : tmps.getD p undef = .pointer (some ⟨g, 0, none⟩)) (hx : tmps.getD u undef = x) :
    (results fn tmps).run P w = .ok (.tuple #[.agg cs, x]) w := by
  obtain ⟨⟨d, hu, hd⟩, hi⟩ := hT
  have hl := run_loadVar_row (P := P) w g t ty cs (0, 0) d hg hu (by cases d <;> first | rfl | simp [TypeDesc.isRow] at hd) (by rw [hi, hn])
  have hp' : tmps[p]?.getD undef = .pointer (some ⟨g, 0, none⟩) := by simpa using hp
  have hx' : tmps[u]?.getD undef = x := by simpa using hx
  simp [results, h, hp', hx', asAddr, hl]
end Go.Proofs.YteecbglmohhaeaaGreatDoor.V

