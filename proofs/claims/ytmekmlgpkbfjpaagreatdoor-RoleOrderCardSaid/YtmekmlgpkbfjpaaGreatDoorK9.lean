/- Texts that stand on one another, put together: HOk, HScalar, TRot, TMem, TSpread, TAdd. -/
import Derived.Test.YtmekmlgpkbfjpaaGreatDoorK8
import Derived.BigQuiet
import Derived.Deep.CutRange
import Derived.Deep.MidRow
import Derived.Deep.QuietTactic
import Derived.Deep.RegionWith
import Derived.Deep.WholeRow
import Derived.Laws.BitsAllLaws
import Derived.Laws.RangeString
import Derived.Laws.ShiftsVarLaws
import Derived.Laws.StructEq
import Derived.Lib.OthersKept
import Derived.Lib.QuietBelow
import Derived.Outline
import Derived.StillTailTactics
/- What the scalars' functions keep, put together; two numbers compared; the statements' own call. -/
namespace Go.Proofs.YtmekmlgpkbfjpaaGreatDoor.G
open Go.Proofs.YtmekmlgpkbfjpaaGreatDoor.F
open Go.RowKit Go.Sort

/-! ### what the scalars' functions keep -/

structure ScalarOk : Prop where
  least : ∀ (n : Nat) (w : World), n < K256 → Tab w → Calls Tryz.prog 63 #[fe n] w fun e w' => e = .returned (fe (n % l25)) ∧ Below w.heap.size w w'
  add : ∀ (m n : Nat) (w : World), m < K256 → n < K256 → Tab w → Calls Tryz.prog 58 #[fe m, fe n] w fun e w' => e = .returned (fe ((m + n) % l25)) ∧ Below w.heap.size w w'
  mul : ∀ (m n : Nat) (w : World), m < K256 → n < K256 → Tab w → Calls Tryz.prog 59 #[fe m, fe n] w fun e w' => e = .returned (fe (m * n % l25)) ∧ Below w.heap.size w w'
  wide : ∀ (s : ByteArray) (w : World), s.size ≤ 140737488355328 → Tab w → Calls Tryz.prog 67 #[.string s] w fun e w' =>
    e = .returned (if s.size ≤ 64 then .tuple #[fe (numLE s.data.toList % l25), .int .i64 0] else .tuple #[fe 0, .int .i64 1]) ∧ Below w.heap.size w w'
  bytes : ∀ (n : Nat) (w : World), n < K256 → Tab w → Calls Tryz.prog 57 #[fe n] w fun e w' => e = .returned (.string ⟨(leL (n % l25) 32).toArray⟩) ∧ Below w.heap.size w w'
  parse : ∀ (s : ByteArray) (w : World), s.size ≤ 140737488355328 → Tab w → Calls Tryz.prog 38 #[.string s] w fun e w' =>
    e = .returned (if s.size = 32 then if numLE s.data.toList < l25 then .tuple #[fe (numLE s.data.toList), .int .i64 0] else .tuple #[fe 0, .int .i64 11] else .tuple #[fe 0, .int .i64 1]) ∧ Below w.heap.size w w'

/-! ### calls in a region that draws its order -/
end Go.Proofs.YtmekmlgpkbfjpaaGreatDoor.G

/- The scalars' functions keep what the statements' walks ask of them. -/
namespace Go.Proofs.YtmekmlgpkbfjpaaGreatDoor.G
open Go.Proofs.YtmekmlgpkbfjpaaGreatDoor.F
open Go.RowKit

theorem scalar_ok : ScalarOk where
  least := fun n w hn hT => sLeast_any n w hn hT
  add := fun m n w hm hn hT => sAdd_any m n w hm hn hT
  mul := fun m n w hm hn hT => sMul_any m n w hm hn hT
  wide := fun s w _ hT => sWide_any s w hT
  bytes := fun n w hn hT => sBytes_any n w hn hT
  parse := fun s w _ hT => sParse_any s w hT
end Go.Proofs.YtmekmlgpkbfjpaaGreatDoor.G

/- The contracts of the program's small calls on words: a word turned left by a contrary number, the two xors, the word of four bytes. -/
namespace Go.Proofs.YtmekmlgpkbfjpaaGreatDoor.T
open Go.RowKit
set_option maxRecDepth 100000

theorem low_five (n m : Nat) (h : n + m = 64) (h1 : 0 < n) (h2 : 0 < m) : bits BinOp.and IntKind.u64 (IntKind.u64.wrap (-(n : Int))) 63 = (m : Int) := by
  have e : IntKind.u64.wrap (-(n : Int)) = ((18446744073709551616 - n : Nat) : Int) := by rw [IntKind.wrap_u64]; omega
  have hh : (18446744073709551616 - n) &&& 63 = m := by
    have h3 : (18446744073709551616 - n) &&& (2 ^ 6 - 1) = (18446744073709551616 - n) % 2 ^ 6 := Nat.and_two_pow_sub_one_eq_mod _ 6
    rw [show (63 : Nat) = 2 ^ 6 - 1 by decide, h3]
    omega
  rw [e, show (63 : Int) = ((63 : Nat) : Int) by rfl, u64_and_nat _ _ (by omega) (by omega), hh]

theorem rot_eq (x n m : Nat) (h : n + m = 64) (hx : x < 18446744073709551616) : bits BinOp.or IntKind.u64 ((x : Int) * 2 ^ m % 18446744073709551616) ((x : Int) / 2 ^ n) = ((rotr x n : Nat) : Int) := by
  have e1 : (x : Int) * 2 ^ m % 18446744073709551616 = ((x * 2 ^ m % 18446744073709551616 : Nat) : Int) := by rw [Int.natCast_emod, Int.natCast_mul, Int.natCast_pow]; rfl
  have e2 : (x : Int) / 2 ^ n = ((x / 2 ^ n : Nat) : Int) := by rw [Int.natCast_ediv, Int.natCast_pow]; rfl
  rw [e1, e2, u64_or_nat _ _ (Nat.mod_lt _ (by decide)) (Nat.lt_of_le_of_lt (Nat.div_le_self _ _) hx), show m = 64 - n by omega, rotr_or x n (by omega) hx]

set_option maxHeartbeats 400000 in
theorem rot_any (x n : Nat) (w : World) (hx : x < 18446744073709551616) (h1 : 0 < n) (h2 : n < 64) :
    Calls Tryz.prog 181 #[.int .u64 x, .int .i64 (-(n : Int))] w fun e w' => e = .returned (.int .u64 (rotr x n)) ∧ w = w' := by
  obtain ⟨m, hm⟩ : ∃ m, n + m = 64 := ⟨64 - n, by omega⟩
  have hm1 : 0 < m := by omega
  have hm2 : m < 64 := by omega
  have hs := low_five n m hm h1 hm1
  have hq := Lib.hid (rot_eq x n m hm hx)
  have hn : (64 - (m : Int)).toNat = n := by omega
  clear hm
  go_enter Tryz.func181, Tryz.ntmps181
  go_wp2
  go_ret
  exact ⟨ret1_of (val_int hq.out), rfl⟩

theorem xor_words {x y z : Nat} (hx : x < 18446744073709551616) (hy : y < 18446744073709551616) (hz : z < 18446744073709551616) : bits BinOp.xor IntKind.u64 (bits BinOp.xor IntKind.u64 (x : Int) (y : Int)) (z : Int) = ((x ^^^ y ^^^ z : Nat) : Int) := by
  rw [u64_xor_nat _ _ hx hy, u64_xor_nat _ _ (xor_lt _ _ hx hy) hz]

set_option maxHeartbeats 400000 in
theorem turned_any (x a b c : Nat) (w : World) (hx : x < 18446744073709551616) (ha : 0 < a) (ha' : a < 64) (hb : 0 < b) (hb' : b < 64) (hc : 0 < c) (hc' : c < 64) :
    Calls Tryz.prog 167 #[.int .u64 x, .int .i64 (a : Int), .int .i64 (b : Int), .int .i64 (c : Int)] w fun e w' => e = .returned (.int .u64 ((rotr x a ^^^ rotr x b ^^^ rotr x c : Nat) : Int)) ∧ w = w' := by
  have H1 := Lib.hid (rot_any x a w hx ha ha')
  have H2 := Lib.hid (rot_any x b w hx hb hb')
  have H3 := Lib.hid (rot_any x c w hx hc hc')
  have hq := Lib.hid (xor_words (rotr_lt x a hx (by omega)) (rotr_lt x b hx (by omega)) (rotr_lt x c hx (by omega)))
  go_enter Tryz.func167, Tryz.ntmps167
  go_wp2_with (go_at_call 181; first | ((with_reducible refine H1.out.mono ?_); rintro e w1 ⟨rfl, rfl⟩) | ((with_reducible refine H2.out.mono ?_); rintro e w1 ⟨rfl, rfl⟩) | ((with_reducible refine H3.out.mono ?_); rintro e w1 ⟨rfl, rfl⟩))
  go_ret
  exact ⟨ret1_of (val_int hq.out), rfl⟩

set_option maxHeartbeats 400000 in
theorem moved_any (x a b c : Nat) (w : World) (hx : x < 18446744073709551616) (ha : 0 < a) (ha' : a < 64) (hb : 0 < b) (hb' : b < 64) (hc' : c < 64) :
    Calls Tryz.prog 180 #[.int .u64 x, .int .i64 (a : Int), .int .i64 (b : Int), .int .u64 (c : Int)] w fun e w' => e = .returned (.int .u64 ((rotr x a ^^^ rotr x b ^^^ x / 2 ^ c : Nat) : Int)) ∧ w = w' := by
  have H1 := Lib.hid (rot_any x a w hx ha ha')
  have H2 := Lib.hid (rot_any x b w hx hb hb')
  have hq := Lib.hid (xor_words (rotr_lt x a hx (by omega)) (rotr_lt x b hx (by omega)) (Nat.lt_of_le_of_lt (Nat.div_le_self x (2 ^ c)) hx))
  have hd : ((x / 2 ^ c : Nat) : Int) = (x : Int) / 2 ^ c := by rw [Int.natCast_ediv, Int.natCast_pow]; rfl
  have HD := Lib.hid hd
  clear hd
  go_enter Tryz.func180, Tryz.ntmps180
  go_wp2_with (go_at_call 181; first | ((with_reducible refine H1.out.mono ?_); rintro e w1 ⟨rfl, rfl⟩) | ((with_reducible refine H2.out.mono ?_); rintro e w1 ⟨rfl, rfl⟩))
  go_ret
  exact ⟨ret1_of (val_int (by rw [← hq.out, HD.out])), rfl⟩

theorem turned_e (x : Nat) (w : World) (hx : x < 18446744073709551616) : Calls Tryz.prog 167 #[.int .u64 x, .int .i64 14, .int .i64 18, .int .i64 41] w fun e w' => e = .returned (.int .u64 (bsig1 x : Nat)) ∧ w' = w :=
  (turned_any x 14 18 41 w hx (by decide) (by decide) (by decide) (by decide) (by decide) (by decide)).mono fun _ _ ⟨he, hw⟩ => ⟨he, hw.symm⟩
theorem turned_a (x : Nat) (w : World) (hx : x < 18446744073709551616) : Calls Tryz.prog 167 #[.int .u64 x, .int .i64 28, .int .i64 34, .int .i64 39] w fun e w' => e = .returned (.int .u64 (bsig0 x : Nat)) ∧ w' = w :=
  (turned_any x 28 34 39 w hx (by decide) (by decide) (by decide) (by decide) (by decide) (by decide)).mono fun _ _ ⟨he, hw⟩ => ⟨he, hw.symm⟩
theorem moved_one (x : Nat) (w : World) (hx : x < 18446744073709551616) : Calls Tryz.prog 180 #[.int .u64 x, .int .i64 19, .int .i64 61, .int .u64 6] w fun e w' => e = .returned (.int .u64 (ssig1 x : Nat)) ∧ w' = w :=
  (moved_any x 19 61 6 w hx (by decide) (by decide) (by decide) (by decide) (by decide)).mono fun _ _ ⟨he, hw⟩ => ⟨he, hw.symm⟩
theorem moved_zero (x : Nat) (w : World) (hx : x < 18446744073709551616) : Calls Tryz.prog 180 #[.int .u64 x, .int .i64 1, .int .i64 8, .int .u64 7] w fun e w' => e = .returned (.int .u64 (ssig0 x : Nat)) ∧ w' = w :=
  (moved_any x 1 8 7 w hx (by decide) (by decide) (by decide) (by decide) (by decide)).mono fun _ _ ⟨he, hw⟩ => ⟨he, hw.symm⟩

set_option maxHeartbeats 800000 in
theorem word_any (s : ByteArray) (w : World) (hs : s.size = 8) :
    Calls Tryz.prog 179 #[.string s] w fun e w' => e = .returned (.int .u64 (numL s.data.toList)) ∧ ∃ n, w' = w.drewN n := by
  go_enter Tryz.func179, Tryz.ntmps179
  go_wp2
  go_loop [3, 5] (fun n i => ∃ k : Nat, k ≤ s.size ∧ i = .int .i64 k ∧ n = .int .u64 (numL (s.data.toList.take k))) (fun _ i => s.size - (intOf i).toNat)
  case atStart => exact ⟨0, Nat.zero_le _, rfl, rfl⟩
  case round =>
    obtain ⟨k, hk, rfl, rfl⟩ := hrel
    by_cases hlt : k < s.size
    · have hb : numL (s.data.toList.take k) < 256 ^ 7 := by
        have h1 := numL_lt (s.data.toList.take k)
        rw [List.length_take] at h1
        have h2 : min k s.data.toList.length ≤ 7 := by omega
        have h3 : 256 ^ min k s.data.toList.length ≤ 256 ^ 7 := Nat.pow_le_pow_right (by decide) h2
        omega
      have HS := Lib.hid ((numL_step _ s[k] hb).trans (by rw [← numL_snoc, ← take_snoc s k hlt]))
      clear hb
      go_wp2
      go_round
      case rel => exact ⟨k + 1, by omega, by go_num, val_int HS.out⟩
      case measure => simp [intOf]; omega
    · have HS := Lib.hid (show numL (s.data.toList.take k) = numL s.data.toList by rw [List.take_of_length_le (by simp; omega)])
      go_wp2
      go_ret
      exact ⟨ret1_of (val_int (by rw [HS.out])), 0, rfl⟩
end Go.Proofs.YtmekmlgpkbfjpaaGreatDoor.T

/- Blocks of memory that are known whole, and words as values. -/
namespace Go.Proofs.YtmekmlgpkbfjpaaGreatDoor.T
open Go.RowKit

abbrev w64 (x : Nat) : Value := Value.int .u64 (x : Int)
/-- block g is just these cells, none of them frozen -/
def Lies (w : World) (g : Nat) (t : TypeId) (cs : Array Value) : Prop := w.heap[g]? = some (.cells cs t (0, 0))

section
variable {w w' : World} {g : Nat} {t : TypeId} {cs : Array Value}
theorem Lies.lt (h : Lies w g t cs) : g < w.heap.size := by
  rcases Nat.lt_or_ge g w.heap.size with hlt | hge
  · exact hlt
  · unfold Lies at h; rw [Array.getElem?_eq_none hge] at h; cases h
theorem Lies.cell (h : Lies w g t cs) (i : Nat) : w.cell? ⟨g, i, none⟩ = cs[i]? := cell_of_row w g i cs t (0, 0) h
theorem Lies.frozen (h : Lies w g t cs) (i : Nat) : w.frozen? ⟨g, i, none⟩ = false := frozen_of_row w g i cs t h
theorem Lies.drewN (h : Lies w g t cs) (n : Nat) : Lies (w.drewN n) g t cs := h
theorem Lies.drew (h : Lies w g t cs) : Lies w.drew g t cs := h
theorem Lies.new (w : World) (t : TypeId) (cs : Array Value) : Lies (w.alloc (.cells cs t)) w.heap.size t cs := heap_alloc_new w _
theorem Lies.put (h : Lies w g t cs) (i : Nat) (v : Value) : Lies (w.setCell ⟨g, i, none⟩ v) g t (cs.setIfInBounds i v) := heap_setCell_same w g i cs t v h
theorem Lies.far (h : Lies w g t cs) {p : Addr} (hp : g ≠ p.block) (v : Value) : Lies (w.setCell p v) g t cs := (heap_setCell_other w p g v hp).trans h
theorem Lies.below {B : Nat} (h : Lies w g t cs) (hb : Below B w w') (hg : g < B) : Lies w' g t cs := (hb.block g hg).trans h
theorem Lies.on (h : Lies w g t cs) (hb : Below w.heap.size w w') : Lies w' g t cs := h.below hb h.lt
theorem Lies.row (h : Lies w g t cs) (old : Array Value) : Lies (w.setRow g old) g t old := setRow_heap w g cs old t (0, 0) h
end
theorem below_drawn {B : Nat} {a w : World} (h : Below B a w) (n : Nat) : Below B a (w.drewN n) := ⟨h.os, h.tape, h.output, h.size, h.block⟩

theorem below_rowSet {B : Nat} {a w : World} (h : Below B a w) {g : Nat} (hg : B ≤ g) (cs : Array Value) : Below B a (w.setRow g cs) :=
  h.trans ⟨rfl, rfl, rfl, by simp, fun k hk => setRow_other _ _ _ _ (by omega)⟩

/-! ### only block g, and what is new, has turned -/
abbrev Only (g : Nat) (a w : World) : Prop := a.grownBy w (some g)
section
variable {a w w' : World} {g : Nat}
theorem Only.refl (a : World) (g : Nat) : Only g a a := World.grownBy.refl a (some g)
theorem Only.trans (h : Only g a w) (k : Only g w w') : Only g a w' :=
  ⟨k.os.trans h.os, k.tape.trans h.tape, k.output.trans h.output, Nat.le_trans h.size k.size, fun i hi hne => (k.block i (Nat.lt_of_lt_of_le hi h.size) hne).trans (h.block i hi hne)⟩
theorem Only.drewN (h : Only g a w) (n : Nat) : Only g a (w.drewN n) := ⟨h.os, h.tape, h.output, h.size, h.block⟩
theorem Only.drew (h : Only g a w) : Only g a w.drew := ⟨h.os, h.tape, h.output, h.size, h.block⟩
theorem Only.put (h : Only g a w) {p : Addr} (hp : p.block = g ∨ a.heap.size ≤ p.block) (u : Value) : Only g a (w.setCell p u) :=
  ⟨h.os, h.tape, h.output, by simpa [World.setCell] using h.size, fun i hi hne => (Below.heap_setCell w p u i (by
    rintro rfl
    rcases hp with hp | hp
    · exact hne (by rw [hp])
    · omega)).trans (h.block i hi hne)⟩
theorem Only.of_below (h : Below a.heap.size a w) (g : Nat) : Only g a w := ⟨h.os, h.tape, h.output, h.size, fun i hi _ => h.block i hi⟩
theorem Only.on (h : Only g a w) (k : Below w.heap.size w w') : Only g a w' := h.trans (Only.of_below k g)
/-- .. and g itself is new -/
theorem Only.below {B : Nat} {b : World} (h : Only g a w) (hb : Below B b a) (hB : B ≤ a.heap.size) (hg : B ≤ g) : Below B b w :=
  hb.grown h hB (fun k hk => by cases hk; exact hg)
end

/-! ### the program's two tables, and a sum that works -/
/-- the two tables hold their constants -/
def Tab (w : World) : Prop := (∀ i, i < 8 → w.cell? ⟨3, i, none⟩ = some (w64 (h0.at i))) ∧ (∀ t, t < 80 → w.cell? ⟨8, t, none⟩ = some (w64 (kAt t)))
theorem Tab.two {w : World} (h : Tab w) : (3 < w.heap.size ∧ 8 < w.heap.size) := by
  have h1 := block_lt_of_cell (h.1 0 (by decide))
  have h2 := block_lt_of_cell (h.2 0 (by decide))
  simp only at h1 h2
  omega
theorem Tab.below {w w' : World} (h : Tab w) (hb : Below w.heap.size w w') : Tab w' := by
  have h2 := h.two
  exact ⟨fun i hi => (hb.cell (p := ⟨_, i, none⟩) (by simp only; omega)).trans (h.1 i hi), fun t ht => (hb.cell (p := ⟨_, t, none⟩) (by simp only; omega)).trans (h.2 t ht)⟩
theorem Tab.only {w w' : World} {g : Nat} (h : Tab w) (hb : Only g w w') (hg : 3 < g ∧ 8 < g) : Tab w' := by
  have h2 := h.two
  exact ⟨fun i hi => (World.cell?_of_block (hb.block 3 (by omega) (by intro e; injection e; omega))).trans (h.1 i hi),
    fun t ht => (World.cell?_of_block (hb.block 8 (by omega) (by intro e; injection e; omega))).trans (h.2 t ht)⟩

/-- the cells of a sum that goes on -/
def sumA (s : H8) (buf : ByteArray) (n : Nat) : Array Value := #[w64 s.a, w64 s.b, w64 s.c, w64 s.d, w64 s.e, w64 s.f, w64 s.g, w64 s.h, .string buf, .int .u64 (n : Int)]

/-- a type of rows or structs, of so many cells -/
def RowT (P : Program) (ty : TypeId) (n : Nat) : Prop := (∃ d, P.underlying ty = some d ∧ d.isRow = true) ∧ (P.info? ty).map (·.size) = some n
/-- cells of one value each -/
def Ones (cs : Array Value) : Prop := cs.all (·.oneCell') = true
theorem ones_of {cs : List Value} (h : ∀ v ∈ cs, v.oneCell' = true) : Ones cs.toArray := all_oneCell_toArray h

section
variable {P : Program} {ops : Array Oper} {rest : List Oper} {a : Act} {w : World} {Q : Exit → Act → World → Prop} {t' : TypeId} {pos : String} {after : Array Edge}
/-- a variable that is a whole block is read -/
theorem wpL_load {d : Option Tmp} {x : Tmp} {ty : TypeId} (g : Nat) (t : TypeId) (cs : Array Value) (n : Nat) (hT : RowT P ty n) (hn : cs.size = n) (hg : Lies w g t cs)
    (hx : a.eval (.tmp x) = .pointer (some ⟨g, 0, none⟩)) (h : wpList P ops Q rest (a.put d (.agg cs)) w) : wpList P ops Q (⟨d, .load ty (.tmp x), t', pos, after, none⟩ :: rest) a w := by
  obtain ⟨⟨ds, hu, hd⟩, hi⟩ := hT
  exact wpList_load_row (o := ⟨d, .load ty (.tmp x), t', pos, after, none⟩) rfl ty (.tmp x) rfl g hx t cs (0, 0) ds hg hu (by cases ds <;> first | rfl | simp [TypeDesc.isRow] at hd) (by rw [hi, hn]) h
/-- .. and written -/
theorem wpL_store {x y : Tmp} {ty : TypeId} (g : Nat) (t : TypeId) (old cs : Array Value) (n : Nat) (hT : RowT P ty n) (ho : old.size = n) (hn : cs.size = n) (h1 : Ones cs) (hg : Lies w g t old)
    (hx : a.eval (.tmp x) = .pointer (some ⟨g, 0, none⟩)) (hy : a.eval (.tmp y) = .agg cs) (h : wpList P ops Q rest (a.put none undef) (w.setRow g cs)) : wpList P ops Q (⟨none, .store ty (.tmp x) (.tmp y), t', pos, after, none⟩ :: rest) a w :=
  wpList_store_row (o := ⟨none, .store ty (.tmp x) (.tmp y), t', pos, after, none⟩) rfl ty (.tmp x) (.tmp y) rfl g cs hx hy t old hg (by rw [hT.2, hn]) (by rw [ho, hn]) h1 h
/-- some cells in the middle of a block are read -/
theorem wpL_loadMid {d : Option Tmp} {x : Tmp} {ty : TypeId} (g o : Nat) (cs : List Value) (n : Nat) (hT : RowT P ty n) (hn : cs.length = n) (hg : w.rangeAt g o cs)
    (hx : a.eval (.tmp x) = .pointer (some ⟨g, o, none⟩)) (h : wpList P ops Q rest (a.put d (.agg cs.toArray)) w) : wpList P ops Q (⟨d, .load ty (.tmp x), t', pos, after, none⟩ :: rest) a w := by
  obtain ⟨⟨ds, hu, hd⟩, hi⟩ := hT
  exact wpList_load_mid (op := ⟨d, .load ty (.tmp x), t', pos, after, none⟩) rfl ty (.tmp x) rfl g o hx cs ds hg hu hd (by rw [hi, hn]) h
end
/-- what a function hands back that lies in a variable -/
theorem results_row {P : Program} {fn : Func} {p : Tmp} {ty : TypeId} {n : Nat} {w : World} {g : Nat} {t : TypeId} {cs : Array Value} {tmps : Array Value} (h : fn.results = #[.cell p ty]) (hT : RowT P ty n) (hn : cs.size = n) (hg : Lies w g t cs) (hp : tmps.getD p undef = .pointer (some ⟨g, 0, none⟩)) :
    (results fn tmps).run P w = .ok (.agg cs) w := by
  obtain ⟨⟨ds, hu, hd⟩, hi⟩ := hT
  exact results_cell_row h tmps w g t cs (0, 0) ds hp hg hu (by cases ds <;> first | rfl | simp [TypeDesc.isRow] at hd) (by rw [hi, hn])

/-- the eight words alone -/
def wordsL (s : H8) : List Value := [w64 s.a, w64 s.b, w64 s.c, w64 s.d, w64 s.e, w64 s.f, w64 s.g, w64 s.h]
theorem Lies.words {w : World} {g : Nat} {t : TypeId} {s : H8} {buf : ByteArray} {n : Nat} (h : Lies w g t (sumA s buf n)) : w.rangeAt g 0 (wordsL s) := fun j v hv => by
  rw [Nat.zero_add, h.cell j]
  match j, hv with
  | 0, hv | 1, hv | 2, hv | 3, hv | 4, hv | 5, hv | 6, hv | 7, hv => exact hv
theorem row29 : RowT Tryz.prog 133 10 := ⟨⟨_, Tryz.underlying133, rfl⟩, by kernel_rfl⟩
theorem row26 : RowT Tryz.prog 106 8 := ⟨⟨_, Tryz.underlying106, rfl⟩, by kernel_rfl⟩
theorem row80 : RowT Tryz.prog 198 80 := ⟨⟨_, Tryz.underlying198, rfl⟩, by kernel_rfl⟩

end Go.Proofs.YtmekmlgpkbfjpaaGreatDoor.T

/- The contract of the program's spread: a block as a word for each round. -/
namespace Go.Proofs.YtmekmlgpkbfjpaaGreatDoor.T
open Go.RowKit
set_option maxRecDepth 100000

/-- what lies in the row of words when t of them are there -/
def allA (b : List UInt8) (t : Nat) : Array Value := ((sched b t).map w64 ++ List.replicate (80 - t) (w64 0)).toArray
theorem allA_at (b : List UInt8) (t i : Nat) (h : i < t) : (allA b t)[i]? = some (w64 ((sched b t).getD i 0)) := by
  have hl := sched_length b t
  unfold allA
  rw [List.getElem?_toArray, List.getElem?_append_left (by simp; omega), List.getElem?_map, List.getD_eq_getElem?_getD, List.getElem?_eq_getElem (by omega)]
  rfl
theorem allA_next (b : List UInt8) (t : Nat) (h : t < 80) : (allA b t)[t]? = some (w64 0) := by
  have hl := sched_length b t
  unfold allA
  rw [List.getElem?_toArray, List.getElem?_append_right (by simp [hl]), List.getElem?_replicate, if_pos (by simp [hl]; omega)]
theorem allA_set (b : List UInt8) (t : Nat) (h : t < 80) (x : Nat) (hx : sched b (t + 1) = sched b t ++ [x]) : (allA b t).setIfInBounds t (w64 x) = allA b (t + 1) := by
  have hl := sched_length b t
  unfold allA
  rw [List.setIfInBounds_toArray]
  congr 1
  rw [List.set_append_right _ _ (by simp [hl]), hx, List.map_append, List.length_map, hl, Nat.sub_self, show 80 - t = (80 - (t + 1)) + 1 by omega, List.replicate_succ, List.set_cons_zero, List.append_assoc]
  rfl
theorem sched_head (b : List UInt8) (t : Nat) (h : t < 16) : sched b (t + 1) = sched b t ++ [numL ((b.drop (8 * t)).take 8)] := by rw [sched, if_pos h]
theorem sched_rest (b : List UInt8) (t : Nat) (h : ¬ t < 16) : sched b (t + 1) = sched b t ++ [(ssig1 ((sched b t).getD (t - 2) 0) + (sched b t).getD (t - 7) 0 + ssig0 ((sched b t).getD (t - 15) 0) + (sched b t).getD (t - 16) 0) % 18446744073709551616] := by rw [sched, if_neg h]

theorem extract_list (s : ByteArray) (a b : Nat) : (s.extract a b).data.toList = (s.data.toList.drop a).take (b - a) := by
  rw [ByteArray.data_extract, Array.toList_extract, List.extract_eq_take_drop]
theorem extract_size (s : ByteArray) (a b : Nat) (h : b ≤ s.size) : (s.extract a b).size = b - a := by
  rw [ByteArray.size_extract]; omega

theorem allA_size (b : List UInt8) (t : Nat) (h : t ≤ 80) : (allA b t).size = 80 := by
  have hl := sched_length b t
  simp [allA, hl]
  omega
theorem allA_one (b : List UInt8) (t : Nat) : Ones (allA b t) := by
  refine ones_of fun v hv => ?_
  rw [List.mem_append, List.mem_map, List.mem_replicate] at hv
  rcases hv with ⟨x, _, rfl⟩ | ⟨_, rfl⟩ <;> rfl
theorem sum_words (a b c d : Nat) :
    IntKind.u64.wrap (IntKind.u64.wrap (IntKind.u64.wrap ((ssig1 a : Nat) + (b : Int)) + (ssig0 c : Nat)) + (d : Int)) = (((ssig1 a + b + ssig0 c + d) % 18446744073709551616 : Nat) : Int) := by
  rw [IntKind.wrap_u64, IntKind.wrap_u64, IntKind.wrap_u64]
  generalize ssig1 a = p
  generalize ssig0 c = q
  omega

theorem zero80 (b : List UInt8) (w : World) : (zeroValue 198).run Tryz.prog w = .ok (.agg (allA b 0)) w := by kernel_rfl
set_option maxRecDepth 100000 in
set_option maxHeartbeats 1600000 in
theorem spread_any (s : ByteArray) (w : World) (hs : s.size = 128) :
    Calls Tryz.prog 166 #[.string s] w fun e w' => e = .returned (.agg (allA s.data.toList 80)) ∧ Below w.heap.size w w' := by
  have HS := Lib.hid hs
  have hs1 : 128 ≤ s.size := by omega
  have hs2 : s.size ≤ 128 := by omega
  clear hs
  have hz80 : ∀ w : World, (zeroValue 198).run Tryz.prog w = .ok (.agg (allA s.data.toList 0)) w := fun w => zero80 s.data.toList w
  go_enter Tryz.func166, Tryz.ntmps166
  go_wp2
  go_loopw [6] (fun i wr => ∃ t : Nat, t ≤ 16 ∧ i = .int .i64 t ∧ Lies wr (w.heap.size + 1) 198 (allA s.data.toList t) ∧ Lies wr w.heap.size 198 (allA s.data.toList 0) ∧ Below w.heap.size w wr) (fun i _ => 16 - (intOf i).toNat)
  case atStart => exact ⟨0, Nat.zero_le _, rfl, heap_alloc2_new w _ _, heap_alloc2_old w _ _, ((Below.refl _ w).alloc (Nat.le_refl _) _).alloc (by simp) _⟩
  case round =>
    obtain ⟨t, ht, rfl, hl, hr, hb⟩ := hrel
    by_cases hlt : t < 16
    · have hc := (hl.cell t).trans (allA_next s.data.toList t (by omega))
      have hf := hl.frozen t
      have HN := Lib.hid (allA_set s.data.toList t (by omega) _ (sched_head s.data.toList t hlt))
      have HW := Lib.hid (show 8 * (t + 1) - 8 * t = 8 by omega)
      have HZ := Lib.hid (show (s.extract (8 * t) (8 * (t + 1))).size = 8 by rw [extract_size _ _ _ (by omega)]; omega)
      go_wp2_with (go_at_call 179; refine (word_any _ _ HZ.out).mono ?_; rintro e w1 ⟨rfl, n1, rfl⟩)
      go_roundw
      case rel => exact ⟨t + 1, by omega, by go_num, by rw [HW.out, ← HN.out]; exact (hl.drewN n1).put t _, (hr.drewN n1).far (by simp) _, (below_drawn hb n1).setCell (by simp) _⟩
      case measure => simp [intOf]; omega
    · obtain rfl : t = 16 := by omega
      rw [show ((16 : Nat) : Int) = 16 from rfl]
      go_wp2_with fail
      go_loopw [5] (fun i wr => ∃ t : Nat, 16 ≤ t ∧ t ≤ 80 ∧ i = .int .i64 t ∧ Lies wr (w.heap.size + 1) 198 (allA s.data.toList t) ∧ Lies wr w.heap.size 198 (allA s.data.toList 0) ∧ Below w.heap.size w wr) (fun i _ => 80 - (intOf i).toNat)
      case atStart => exact ⟨16, by omega, by omega, rfl, hl, hr, hb⟩
      case round =>
        rename_i wo
        clear hl hr hb
        obtain ⟨t, ht1, ht2, rfl, hl, hr, hb⟩ := hrel
        by_cases hlt : t < 80
        · have hc := (hl.cell t).trans (allA_next s.data.toList t (by omega))
          have hf := hl.frozen t
          have k2 := (hl.cell (t - 2)).trans (allA_at s.data.toList t (t - 2) (by omega))
          have k7 := (hl.cell (t - 7)).trans (allA_at s.data.toList t (t - 7) (by omega))
          have k15 := (hl.cell (t - 15)).trans (allA_at s.data.toList t (t - 15) (by omega))
          have k16 := (hl.cell (t - 16)).trans (allA_at s.data.toList t (t - 16) (by omega))
          have HN := Lib.hid (allA_set s.data.toList t (by omega) _ (sched_rest s.data.toList t (by omega)))
          have l2 := sched_at_lt s.data.toList t (t - 2)
          have l7 := sched_at_lt s.data.toList t (t - 7)
          have l15 := sched_at_lt s.data.toList t (t - 15)
          have l16 := sched_at_lt s.data.toList t (t - 16)
          have e2 : IntKind.i64.wrap ((t : Int) - 2) = ((t - 2 : Nat) : Int) := by rw [IntWalk.i64_in _ (by omega)]; omega
          have e7 : IntKind.i64.wrap ((t : Int) - 7) = ((t - 7 : Nat) : Int) := by rw [IntWalk.i64_in _ (by omega)]; omega
          have e15 : IntKind.i64.wrap ((t : Int) - 15) = ((t - 15 : Nat) : Int) := by rw [IntWalk.i64_in _ (by omega)]; omega
          have e16 : IntKind.i64.wrap ((t : Int) - 16) = ((t - 16 : Nat) : Int) := by rw [IntWalk.i64_in _ (by omega)]; omega
          have b2 : ((t - 2 : Nat) : Int) < 80 := by omega
          have b7 : ((t - 7 : Nat) : Int) < 80 := by omega
          have b15 : ((t - 15 : Nat) : Int) < 80 := by omega
          have b16 : ((t - 16 : Nat) : Int) < 80 := by omega
          generalize t - 2 = u2 at e2 b2 k2 l2 HN
          generalize t - 7 = u7 at e7 b7 k7 l7 HN
          generalize t - 15 = u15 at e15 b15 k15 l15 HN
          generalize t - 16 = u16 at e16 b16 k16 l16 HN
          generalize (sched s.data.toList t).getD u2 0 = x2 at k2 l2 HN
          generalize (sched s.data.toList t).getD u7 0 = x7 at k7 l7 HN
          generalize (sched s.data.toList t).getD u15 0 = x15 at k15 l15 HN
          generalize (sched s.data.toList t).getD u16 0 = x16 at k16 l16 HN
          go_wp2_with fail
          refine wp_region_still_tail 23 (by kernel_rfl) (by kernel_rfl) ?_
          simp only [List.take_succ_cons, List.take_zero, List.drop_succ_cons, List.drop_zero]
          change wpStill _ _ wr.drew _ _ _
          repeat still_step
          still_call (moved_one _ _ l2)
          repeat still_step
          still_call (moved_zero _ _ l15)
          repeat still_step
          refine wpStill_nil ?_
          change wpList _ _ _ _ _ wr.drew
          go_wp2
          go_roundw
          case rel =>
            exact ⟨t + 1, by omega, by omega, by go_num, by rw [← HN.out, sum_words]; exact (hl.put t _).drew, (hr.far (by simp) _).drew, (hb.setCell (by simp) _).drew⟩
          case measure => simp [intOf]; omega
        · obtain rfl : t = 80 := by omega
          have HN := Lib.hid (allA_size s.data.toList 80 (by omega))
          have H0 := Lib.hid (allA_size s.data.toList 0 (by omega))
          have HO := Lib.hid (allA_one s.data.toList 80)
          have HL := Lib.hid hl
          have HR := Lib.hid hr
          clear hl hr
          obtain ⟨cs, hcs⟩ : ∃ cs, allA s.data.toList 80 = cs := ⟨_, rfl⟩
          rw [hcs] at HN HO HL
          have HQ := Lib.hid hcs
          clear hcs
          go_wp2_with (first | ((with_reducible refine wpL_load (w.heap.size + 1) 198 cs 80 row80 HN.out HL.out ?_ ?_); rfl) | ((with_reducible refine wpL_store w.heap.size 198 _ cs 80 row80 H0.out HN.out HO.out HR.out ?_ ?_ ?_); rfl; rfl))
          exact bodyPost_ret (results_row Tryz.results166 row80 HN.out (HR.out.row cs) rfl) rfl ⟨by rw [HQ.out], below_rowSet hb (Nat.le_refl _) _⟩
end Go.Proofs.YtmekmlgpkbfjpaaGreatDoor.T

/- The contract of the program's add: a block's words go into the sum's. -/
namespace Go.Proofs.YtmekmlgpkbfjpaaGreatDoor.T
open Go.RowKit
set_option maxRecDepth 100000

/-- the cells of a sum while its words are added up, i of them done -/
def partA (s v : H8) (buf : ByteArray) (n i : Nat) : Array Value :=
  let f := fun (j x y : Nat) => w64 (if j < i then (x + y) % 18446744073709551616 else x)
  #[f 0 s.a v.a, f 1 s.b v.b, f 2 s.c v.c, f 3 s.d v.d, f 4 s.e v.e, f 5 s.f v.f, f 6 s.g v.g, f 7 s.h v.h, .string buf, .int .u64 (n : Int)]
theorem partA_at (s v : H8) (buf : ByteArray) (n i : Nat) (h : i < 8) : (partA s v buf n i)[i]? = some (w64 (s.at i)) := by
  match i, h with
  | 0, _ | 1, _ | 2, _ | 3, _ | 4, _ | 5, _ | 6, _ | 7, _ => rfl
theorem partA_set (s v : H8) (buf : ByteArray) (n i : Nat) (h : i < 8) : (partA s v buf n i).setIfInBounds i (w64 ((s.at i + v.at i) % 18446744073709551616)) = partA s v buf n (i + 1) := by
  match i, h with
  | 0, _ | 1, _ | 2, _ | 3, _ | 4, _ | 5, _ | 6, _ | 7, _ => rfl
theorem index_eight (v : H8) (i : Nat) (h : i < 8) (W : World) : (Instr.index 106 (.agg #[w64 v.a, w64 v.b, w64 v.c, w64 v.d, w64 v.e, w64 v.f, w64 v.g, w64 v.h]) (.int .i64 (i : Int))).run Tryz.prog W = .ok (w64 (v.at i)) W := by
  match i, h with
  | 0, _ | 1, _ | 2, _ | 3, _ | 4, _ | 5, _ | 6, _ | 7, _ => (show _ = _; kernel_rfl)

theorem plus_cast (a b : Nat) : IntKind.u64.wrap ((a : Int) + (b : Int)) = (((a + b) % 18446744073709551616 : Nat) : Int) := by
  rw [IntKind.wrap_u64]
  omega
theorem ones_xor (e : Nat) (he : e < 18446744073709551616) : 18446744073709551615 ^^^ e = 18446744073709551615 - e := by
  have h := BitVec.toNat_not (x := BitVec.ofNat 64 e)
  rw [BitVec.not_def, BitVec.toNat_xor, BitVec.toNat_allOnes, BitVec.toNat_ofNat, Nat.mod_eq_of_lt (show e < 2 ^ 64 from he)] at h
  exact h
theorem ch_walk (e f g : Nat) (he : e < 18446744073709551616) (hf : f < 18446744073709551616) (hg : g < 18446744073709551616) :
    bits BinOp.xor IntKind.u64 (bits BinOp.and IntKind.u64 (e : Int) (f : Int)) (bits BinOp.and IntKind.u64 (bits BinOp.xor IntKind.u64 (if IntKind.u64.signed = true then -1 else IntKind.u64.max) (e : Int)) (g : Int)) = ((chs e f g : Nat) : Int) := by
  rw [show (if IntKind.u64.signed = true then (-1 : Int) else IntKind.u64.max) = ((18446744073709551615 : Nat) : Int) from rfl, u64_xor_nat _ _ (by decide) he, ones_xor e he, u64_and_nat _ _ he hf, u64_and_nat _ _ (by omega) hg, u64_xor_nat _ _ (and_lt _ _ hf) (and_lt _ _ hg)]
  rfl
theorem maj_walk (a b c : Nat) (ha : a < 18446744073709551616) (hb : b < 18446744073709551616) (hc : c < 18446744073709551616) :
    bits BinOp.xor IntKind.u64 (bits BinOp.xor IntKind.u64 (bits BinOp.and IntKind.u64 (a : Int) (b : Int)) (bits BinOp.and IntKind.u64 (a : Int) (c : Int))) (bits BinOp.and IntKind.u64 (b : Int) (c : Int)) = ((maj a b c : Nat) : Int) := by
  rw [u64_and_nat _ _ ha hb, u64_and_nat _ _ ha hc, u64_and_nat _ _ hb hc, u64_xor_nat _ _ (and_lt _ _ hb) (and_lt _ _ hc), u64_xor_nat _ _ (xor_lt _ _ (and_lt _ _ hb) (and_lt _ _ hc)) (and_lt _ _ hc)]
  rfl

set_option maxRecDepth 100000 in
set_option maxHeartbeats 1600000 in
theorem add_any (s : ByteArray) (g : Nat) (H : H8) (buf : ByteArray) (n : Nat) (w : World) (hs : s.size = 128) (hT : Tab w) (hl : Lies w g 172 (sumA H buf n)) (hok : H.Ok) :
    Calls Tryz.prog 127 #[.pointer (some ⟨g, 0, none⟩), .string s] w fun e w' => e = .returned (.tuple #[]) ∧ Lies w' g 172 (sumA (mix H s.data.toList) buf n) ∧ Only g w w' := by
  have HN := Lib.hid (allA_size s.data.toList 80 (by omega))
  have HO := Lib.hid (allA_one s.data.toList 80)
  have HS := Lib.hid (spread_any s w hs)
  clear hs
  have hz80 := fun w : World => zero80 s.data.toList w
  go_enter Tryz.func127, Tryz.ntmps127
  go_wp2_with (first | (go_at_call 166; refine HS.out.mono ?_; rintro e w1 ⟨rfl, hb1⟩) | ((with_reducible refine wpL_store w1.heap.size 198 _ (allA s.data.toList 80) 80 row80 ?_ HN.out HO.out (Lies.new _ _ _) ?_ ?_ ?_); rfl; rfl; rfl))
  generalize hW : World.setRow _ _ _ = W2
  have hb2 : Below w.heap.size w W2 := by rw [← hW]; exact below_rowSet (hb1.alloc hb1.size _) hb1.size _
  have hA : Lies W2 w1.heap.size 198 (allA s.data.toList 80) := by rw [← hW]; exact (Lies.new _ _ _).row _
  have hl2 := hl.on hb2
  have hT2 := hT.below hb2
  have hO2 := Only.of_below hb2 g
  have hne : g ≠ w1.heap.size := by have := hl.lt; have := hb1.size; omega
  have HNE := Lib.hid hne
  have HB := Lib.hid (show w.heap.size ≤ w1.heap.size from hb1.size)
  clear hW hb1 hb2 hl hT hne
  have c0 := hl2.cell 0
  have c1 := hl2.cell 1
  have c2 := hl2.cell 2
  have c3 := hl2.cell 3
  have c4 := hl2.cell 4
  have c5 := hl2.cell 5
  have c6 := hl2.cell 6
  have c7 := hl2.cell 7
  simp only [sumA, List.getElem?_toArray, List.getElem?_cons_zero, List.getElem?_cons_succ] at c0 c1 c2 c3 c4 c5 c6 c7
  go_quiet (fail)
  go_wp2_with fail
  clear c0 c1 c2 c3 c4 c5 c6 c7
  go_loopw [5, 6, 7, 8, 9, 10, 11, 12, 68] (fun a b c d e f gg h i wr => ∃ (t : Nat) (v : H8), t ≤ 80 ∧ i = .int .i64 t ∧ a = w64 v.a ∧ b = w64 v.b ∧ c = w64 v.c ∧ d = w64 v.d ∧ e = w64 v.e ∧ f = w64 v.f ∧ gg = w64 v.g ∧ h = w64 v.h ∧ v.Ok ∧ Hid (v = rnds (sched s.data.toList 80) H t) ∧ Lies wr w1.heap.size 198 (allA s.data.toList 80) ∧ Lies wr g 172 (sumA H buf n) ∧ Tab wr ∧ Only g w wr) (fun _ _ _ _ _ _ _ _ i _ => 80 - (intOf i).toNat)
  case atStart => exact ⟨0, H, by omega, rfl, rfl, rfl, rfl, rfl, rfl, rfl, rfl, rfl, hok, Lib.hid rfl, hA, hl2, hT2, hO2.drewN _⟩
  case round =>
    clear hA hl2 hT2 hO2
    obtain ⟨t, v, ht, rfl, rfl, rfl, rfl, rfl, rfl, rfl, rfl, rfl, hv, HV, hA, hl, hT, hO⟩ := hrel
    by_cases hlt : t < 80
    · have kT : wr.cell? ⟨8, t, none⟩ = some (w64 (kAt t)) := hT.2 t hlt
      have wT : wr.cell? ⟨w1.heap.size, t, none⟩ = some (w64 ((sched s.data.toList 80).getD t 0)) := (hA.cell t).trans (allA_at _ _ _ hlt)
      have HR := Lib.hid (show rnds (sched s.data.toList 80) H (t + 1) = rnd v (kAt t) ((sched s.data.toList 80).getD t 0) by rw [rnds, HV.out])
      have lk := kAt_lt t hlt
      have lw := sched_at_lt s.data.toList 80 t
      have HK := Lib.hid hv
      obtain ⟨va, vb, vc, vd, ve, vf, vg, vh⟩ := hv
      generalize kAt t = k at kT HR lk
      generalize (sched s.data.toList 80).getD t 0 = x at wT HR lw
      have hi : (t : Int) < 80 := by omega
      go_wp2_with fail
      go_quiet ((go_at_call 167; exact Calls.quiet_of_same (turned_e _ _ ve)))
      go_wp2_with (go_at_call 167; refine (turned_a _ _ va).mono ?_; rintro e w3 ⟨rfl, rfl⟩)
      go_roundw
      case rel =>
        refine ⟨t + 1, rnd v k x, by omega, by go_num, ?_, rfl, rfl, rfl, ?_, rfl, rfl, rfl, rnd_ok HK.out _ _, Lib.hid HR.out.symm, hA, hl, hT, hO.drewN _⟩
        · rw [ch_walk _ _ _ ve vf vg, maj_walk _ _ _ va vb vc]
          exact val_int (by simp only [rnd, tmp1, tmp2, IntKind.wrap_u64]; omega)
        · rw [ch_walk _ _ _ ve vf vg]
          exact val_int (by simp only [rnd, tmp1, IntKind.wrap_u64]; omega)
      case measure => simp [intOf]; omega
    · obtain rfl : t = 80 := by omega
      rw [show ((80 : Nat) : Int) = 80 from rfl]
      have hix := index_eight v
      go_wp2_with fail
      go_loopw [128] (fun i wr => ∃ t : Nat, t ≤ 8 ∧ i = .int .i64 t ∧ Lies wr g 172 (partA H v buf n t) ∧ Only g w wr) (fun i _ => 8 - (intOf i).toNat)
      case atStart => exact ⟨0, by omega, rfl, hl, hO⟩
      case round =>
        clear hA hl hT hO
        obtain ⟨t, ht, rfl, hl, hO⟩ := hrel
        by_cases hlt : t < 8
        · have hx := hix t hlt
          clear hix
          have hc := (hl.cell t).trans (partA_at H v buf n t hlt)
          have hf := hl.frozen t
          have hi : (t : Int) < 8 := by omega
          have HP := Lib.hid (partA_set H v buf n t hlt)
          go_wp2_with fail
          refine wp_region_still_tail 13 (by kernel_rfl) (by kernel_rfl) ?_
          simp only [List.take_succ_cons, List.take_zero, List.drop_succ_cons, List.drop_zero]
          change wpStill _ _ wr.drew _ _ _
          repeat still_step
          refine wpStill_nil ?_
          change wpList _ _ _ _ _ wr.drew
          go_wp2
          go_roundw
          case rel =>
            exact ⟨t + 1, by omega, by go_num, by rw [← HP.out, plus_cast]; exact (hl.put t _).drew, (hO.put (Or.inl rfl) _).drew⟩
          case measure => simp [intOf]; omega
        · obtain rfl : t = 8 := by omega
          clear hix
          go_wp2
          go_end0
          exact ⟨rfl, by rw [mix, ← HV.out]; exact hl, hO⟩

end Go.Proofs.YtmekmlgpkbfjpaaGreatDoor.T

