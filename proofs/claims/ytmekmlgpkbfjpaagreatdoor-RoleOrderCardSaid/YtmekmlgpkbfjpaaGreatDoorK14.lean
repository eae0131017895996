/- Texts that stand on one another, put together: OPair, OFew, OSortB, OTally, TDigits, OSame, OFirstW, ONeedsW, OTurnM, OTurnC, COpen, CLaid, TLaid, ULaid, OLaid, OOpen. -/
import Derived.Test.YtmekmlgpkbfjpaaGreatDoorK13
import Derived.ArgAppend
import Derived.ChangeOld
import Derived.ChangeSame
import Derived.Deep.AppendLies
import Derived.Deep.CutRange
import Derived.Deep.RegionWith
import Derived.Deep.Slices
import Derived.Deep.Strs
import Derived.Deep.WholeRow
import Derived.LaidMore
import Derived.Laws.Bits64
import Derived.Laws.StructEq
import Derived.Maps.AppendAt
import Derived.OpenShut
import Derived.ProofKit
import Derived.ShutString
import Derived.Stop.Joined
import Derived.Test.YtmekmlgpkbfjpaaGreatDoorRows
/- Rows that the call owns: side by side, and written in place; elements cut short. -/
namespace Go.Proofs.YtmekmlgpkbfjpaaGreatDoor.O
open Go.RowKit Go.Sort Go.Proofs.YtmekmlgpkbfjpaaGreatDoor.E
open C (Pts)
open V (Lies OwnL RowL reg lessL bytesLess_is)
set_option maxRecDepth 100000

theorem own_apart {w : World} {B g : Nat} {e : TypeId} {k : Nat} {v : Value} {css : List (List Value)} (h : OwnL w B e k v css) (hne : v.ownBlock ≠ some g) (i : Nat) (u : Value) : OwnL (w.setCell ⟨g, i, none⟩ u) B e k v css := by
  refine ⟨h.1, h.2.1, ?_⟩
  rcases h.2.2 with hv | ⟨b, cap, cur, hv, hB, hh, hr⟩
  · exact .inl hv
  · refine .inr ⟨b, cap, cur, hv, hB, (Below.heap_setCell _ _ _ _ (show b ≠ g from fun e => hne ?_)).trans hh, hr⟩
    rw [hv, ← e]
    rfl
section
variable {P : Program} {ops : Array Oper} {rest : List Oper} {a : Act} {w : World} {Q : Exit → Act → World → Prop} {t' : TypeId} {pos : String} {after : Array Edge}
end
/-! ### elements of two texts, written in place -/
section
variable {P : Program} {ops : Array Oper} {rest : List Oper} {a : Act} {w : World} {Q : Exit → Act → World → Prop} {t' : TypeId} {pos : String} {after : Array Edge}
end
/-! ### the first ones of a row are cut already -/
section
variable {α : Type}
end
/-! ### what is cut short -/
end Go.Proofs.YtmekmlgpkbfjpaaGreatDoor.O

/- The statement's own call that makes a role, keys and signatures short. -/
namespace Go.Proofs.YtmekmlgpkbfjpaaGreatDoor.O
open Go.RowKit Go.Sort Go.Proofs.YtmekmlgpkbfjpaaGreatDoor.E
open C (Pts)
open V (Lies OwnL RowL reg lessL bytesLess_is)
set_option maxRecDepth 100000

section
variable {a : Act} {d : Option Tmp} {t' : TypeId} {pos : String} {after : Array Edge} {gd : Option (Nat × Bool)} {x : Operand} {y z : Tmp}
theorem run_lenK (s : Option Addr) (n c : Nat) (hx : a.eval x = .slice s n c) (w : World) :
    (execOp a.eval ⟨d, .call { callee := .builtin .len, args := #[x], argTypes := #[25] }, t', pos, after, gd⟩).run Tryz.prog w = .ok (.value (.int .i64 (n : Int))) w := by
  have hr : (Builtin.len_ #[25] t' #[.slice s n c]).run Tryz.prog w = .ok (.int .i64 (n : Int)) w := by simp [go_sem]
  simp [execOp, resolve, invoke, builtin, hx, hr, Result.andThen]
theorem run_cutT (ty : TypeId) (k : Nat) (ht : Tryz.prog.underlying ty = some (.slice (Tryz.prog.elem ty))) (hs : ∀ w, (Go.sizeOf (Tryz.prog.elem ty)).run Tryz.prog w = .ok k w) (ad : Option Addr) (n c r : Nat) (hr : r ≤ c) (hx : a.eval (.tmp y) = .slice ad n c) (hy : a.eval (.tmp z) = .int .i64 (r : Int)) (w : World) :
    (execOp a.eval ⟨d, .slice ty (.tmp y) none (some (.tmp z)) none, t', pos, after, gd⟩).run Tryz.prog w = .ok (.value (sliced ad 0 r c k)) w := by
  have h1 := run_slice_h (P := Tryz.prog) w ty ad n c ht .i64 (r : Int) (by omega) (by omega)
  have h2 := run_sliceAt_slice (P := Tryz.prog) w ty (.slice ad n c) none (some (.int .i64 (r : Int))) none ht
  unfold execOp
  simp only [hx, hy, Option.map_some, Option.map_none, Sem.run_bind, h2, h1, hs, Result.andThen, Sem.run_pure, Int.toNat_natCast]
end
theorem elemK : ∀ w, (Go.sizeOf (Tryz.prog.elem 25)).run Tryz.prog w = .ok 2 w := by
  rw [show Tryz.prog.elem 25 = 51 by kernel_rfl]
  exact Tryz.sizeOf51
theorem elemS : ∀ w, (Go.sizeOf (Tryz.prog.elem 26)).run Tryz.prog w = .ok 2 w := by
  rw [show Tryz.prog.elem 26 = 46 by kernel_rfl]
  exact Tryz.sizeOf46
theorem underK : Tryz.prog.underlying 25 = some (.slice (Tryz.prog.elem 25)) := by kernel_rfl
theorem underS : Tryz.prog.underlying 26 = some (.slice (Tryz.prog.elem 26)) := by kernel_rfl
theorem rowOnes2 (l : List B2) : ∀ u ∈ (l.map twoS).flatten, u.oneCell' = true := by
  intro u hu
  obtain ⟨cs, hcs, hu⟩ := List.mem_flatten.1 hu
  obtain ⟨b, _, rfl⟩ := List.mem_map.1 hcs
  simp only [List.mem_cons, List.mem_nil_iff, or_false] at hu
  rcases hu with rfl | rfl <;> rfl
structure Own4 (w : World) (B : Nat) (a1 : Option Addr) (c1 : Nat) (a2 : Option Addr) (c2 : Nat) (a3 : Option Addr) (c3 : Nat) (ids : List ByteArray) (keys sigs : List (ByteArray × ByteArray)) : Prop where
  i : OwnL w B 9 1 (.slice a1 ids.length c1) (ids.map oneS)
  k : OwnL w B 51 2 (.slice a2 keys.length c2) (keys.map twoS)
  s : OwnL w B 46 2 (.slice a3 sigs.length c3) (sigs.map twoS)
theorem Own4.rows {w : World} {B : Nat} {a1 a2 a3 : Option Addr} {c1 c2 c3 : Nat} {ids : List ByteArray} {keys sigs : List (ByteArray × ByteArray)} (h : Own4 w B a1 c1 a2 c2 a3 c3 ids keys sigs) : Rows4 w a1 c1 a2 c2 a3 c3 ids keys sigs := ⟨h.i.read, h.k.read, h.s.read⟩
end Go.Proofs.YtmekmlgpkbfjpaaGreatDoor.O

/- Keys put in order: rows cut with three indexes, and put behind one another. -/
namespace Go.Proofs.YtmekmlgpkbfjpaaGreatDoor.O
open Go.RowKit Go.Sort Go.Proofs.YtmekmlgpkbfjpaaGreatDoor.E
open C (Pts)
open V (Lies OwnL RowL reg lessL bytesLess_is)
set_option maxRecDepth 100000

theorem bl_is (a b : ByteArray) : Op.bytesLess a.toList b.toList = lessB a b := by
  rw [Lib.toList_data, Lib.toList_data, bytesLess_is]
  rfl
section
variable {a : Act} {d : Option Tmp} {t' : TypeId} {pos : String} {after : Array Edge} {gd : Option (Nat × Bool)} {x y z z2 : Tmp}
theorem run_cut3 (ty : TypeId) (k : Nat) (ht : Tryz.prog.underlying ty = some (.slice (Tryz.prog.elem ty))) (hs : ∀ w, (Go.sizeOf (Tryz.prog.elem ty)).run Tryz.prog w = .ok k w) (ad : Option Addr) (n c r : Nat) (hr : r ≤ c) (hx : a.eval (.tmp y) = .slice ad n c) (hy : a.eval (.tmp z) = .int .i64 (r : Int)) (hz : a.eval (.tmp z2) = .int .i64 (r : Int)) (w : World) :
    (execOp a.eval ⟨d, .slice ty (.tmp y) none (some (.tmp z)) (some (.tmp z2)), t', pos, after, gd⟩).run Tryz.prog w = .ok (.value (sliced ad 0 r r k)) w := by
  have h1 := run_slice_hm (P := Tryz.prog) w ty ad n c ht .i64 .i64 (r : Int) (r : Int) (by omega) (by omega) (by omega)
  have h2 := run_sliceAt_slice (P := Tryz.prog) w ty (.slice ad n c) none (some (.int .i64 (r : Int))) (some (.int .i64 (r : Int))) ht
  unfold execOp
  simp only [hx, hy, hz, Option.map_some, Option.map_none, Sem.run_bind, h2, h1, hs, Result.andThen, Sem.run_pure, Int.toNat_natCast]
theorem run_cutL (ty : TypeId) (k : Nat) (ht : Tryz.prog.underlying ty = some (.slice (Tryz.prog.elem ty))) (hs : ∀ w, (Go.sizeOf (Tryz.prog.elem ty)).run Tryz.prog w = .ok k w) (ad : Option Addr) (n c r : Nat) (hr : r ≤ n) (hx : a.eval (.tmp y) = .slice ad n c) (hy : a.eval (.tmp z) = .int .i64 (r : Int)) (w : World) :
    (execOp a.eval ⟨d, .slice ty (.tmp y) (some (.tmp z)) none none, t', pos, after, gd⟩).run Tryz.prog w = .ok (.value (sliced ad r n c k)) w := by
  have h1 := run_slice_l (P := Tryz.prog) w ty ad n c ht .i64 (r : Int) (by omega) (by omega)
  have h2 := run_sliceAt_slice (P := Tryz.prog) w ty (.slice ad n c) (some (.int .i64 (r : Int))) none none ht
  unfold execOp
  simp only [hx, hy, Option.map_some, Option.map_none, Sem.run_bind, h2, h1, hs, Result.andThen, Sem.run_pure, Int.toNat_natCast]
/-- a row whose room is used up: what goes behind it makes a new one -/
theorem run_grow (t' : TypeId) {w : World} {g o n m c : Nat} {ad : Addr} {css css' : List (List Value)} (h1 : RowL w 2 (.slice (some ⟨g, o, none⟩) n n) css) (h2 : RowL w 2 (.slice (some ad) m c) css') (hm : 0 < m) (h63 : n + m ≤ 1000) :
    ∃ v' w', (∀ (a : Act) (d : Option Tmp) (pos : String) (after : Array Edge) (gd : Option (Nat × Bool)) (x y : Tmp), a.eval (.tmp x) = .slice (some ⟨g, o, none⟩) n n → a.eval (.tmp y) = .slice (some ad) m c →
      (execOp a.eval ⟨d, .call { callee := .builtin .append, args := #[.tmp x, .tmp y], argTypes := #[25, 25] }, t', pos, after, gd⟩).run Tryz.prog w = .ok (.value v') w') ∧ OwnL w' w.heap.size 51 2 v' (css ++ css') ∧ w.grownBy w' none := by
  obtain ⟨iK, hiK, hz0, hz1, hz2⟩ := info_parts infoKey
  obtain ⟨c1, a1, k1, e1, _, _, _, hl1⟩ := h1
  obtain ⟨c2, a2, k2, e2, _, _, _, hl2⟩ := h2
  injection e1 with ea eb ec
  injection e2 with ed ee ef
  subst ea ed ef
  have holds : ∀ (j : Nat) (u : Value), css.flatten[j]? = some u → w.cell? ((⟨g, o, none⟩ : Addr).add j) = some u := fun j u hj => by
    rw [Addr.add_mid]
    rcases Nat.eq_zero_or_pos css.length with h0 | hp
    · rw [List.eq_nil_of_length_eq_zero h0] at hj
      simp at hj
    · obtain ⟨b, off, he, hx⟩ := hl1 hp
      injection he with he
      injection he with q1 q2
      subst q1 q2
      exact V.flat_cells c1 hx j u hj
  have hnews : ∀ (j : Nat) (u : Value), css'.flatten[j]? = some u → w.cell? (ad.add j) = some u := fun j u hj => by
    obtain ⟨b, off, he, hx⟩ := hl2 (by omega)
    injection he with he
    subst he
    rw [Addr.add_mid]
    exact V.flat_cells c2 hx j u hj
  obtain ⟨v', w', hr, ho, hg⟩ := run_append_arg_grows (P := Tryz.prog) (w := w) 25 t' 51 iK _ 2 32 Tryz.underlying25 hiK hz0 hz1 hz2 rfl (by decide) ⟨g, o, none⟩ n n css.flatten (by rw [V.flat_len c1, ← eb]) holds ad m c css'.flatten (by rw [V.flat_len c2, ← ee]) hnews (by omega) (by unfold maxLen; omega) (by omega)
  refine ⟨v', w', fun a d pos after gd x y hx hy => ?_, ⟨fun cs hcs => (List.mem_append.1 hcs).elim (c1 cs) (c2 cs), ?_⟩, hg⟩
  · simp [execOp, resolve, invoke, builtin, hx, hy, hr, Result.andThen]
  · rw [List.length_append, List.flatten_append, ← eb, ← ee]
    exact ho
end
theorem own_lit (w : World) (B : Nat) (k : B2) (hB : B ≤ w.heap.size) : OwnL (w.alloc (.cells #[.string k.1, .string k.2] 51)) B 51 2 (.slice (some ⟨w.heap.size, 0, none⟩) 1 1) [twoS k] :=
  ⟨fun cs hcs => by rw [List.mem_singleton.1 hcs]; rfl, rfl, .inr ⟨w.heap.size, 1, #[.string k.1, .string k.2], rfl, hB, heap_alloc_new w _, Nat.le_refl _, by unfold maxLen; decide, rfl, rfl⟩⟩
theorem row_full {w : World} {g n c p : Nat} {css : List (List Value)} (h : RowL w 2 (.slice (some ⟨g, 0, none⟩) n c) css) (hp : p ≤ css.length) : RowL w 2 (.slice (some ⟨g, 0, none⟩) p p) (css.take p) := by
  have h1 := row_take h hp
  obtain ⟨h0, a', c', hv, hc, hm, hn, hl⟩ := h1
  injection hv with e1 e2 e3
  subst e1 e3
  exact ⟨h0, some ⟨g, 0, none⟩, p, by rw [← e2], by omega, by omega, (fun e => by cases e), hl⟩
theorem sliced_full (g p : Nat) : sliced (some ⟨g, 0, none⟩) 0 p p 2 = .slice (some ⟨g, 0, none⟩) p p := by
  unfold sliced
  rw [Nat.sub_zero]
  split
  · rfl
  · rw [Option.map_some, Addr.add_mid]
theorem own_some {w : World} {B : Nat} {e : TypeId} {k : Nat} {v : Value} {css : List (List Value)} (h : OwnL w B e k v css) (hne : 0 < css.length) : ∃ g c, v = .slice (some ⟨g, 0, none⟩) css.length c := by
  rcases h.2.2 with ⟨_, hn⟩ | ⟨g, cap, cur, rfl, _⟩
  · omega
  · exact ⟨g, cap, rfl⟩
end Go.Proofs.YtmekmlgpkbfjpaaGreatDoor.O

/- Who of the first seeds signed, as a map of numbers. -/
namespace Go.Proofs.YtmekmlgpkbfjpaaGreatDoor.O
open Go.RowKit Go.Sort Go.Maps Go.Proofs.YtmekmlgpkbfjpaaGreatDoor.E
set_option maxRecDepth 100000

theorem sigs_snoc (text : ByteArray) (ns : List Nat) (y : Nat) : ((ns.map fun n => sigOf text (sdB n)).map twoS) ++ [twoS (sigOf text (sdB y))] = ((ns ++ [y]).map fun n => sigOf text (sdB n)).map twoS := by
  rw [List.map_append, List.map_append]
  rfl
end Go.Proofs.YtmekmlgpkbfjpaaGreatDoor.O

/- Numbers as lists of digits to the base 65536, multiplied and compared digit by digit, and a root's digits one bit after the other: what they come to. Nothing of the program is named here. -/
namespace Go.Proofs.YtmekmlgpkbfjpaaGreatDoor.T

/-! ### what they reckon -/
/-! ### digits, as a number -/
/-- the number of the first n digits to the base 65536, the lowest one first -/
def numN (l : List Nat) : Nat → Nat
  | 0 => 0
  | n + 1 => numN l n + 65536 ^ n * l.getD n 0
/-- each is a digit -/
def Dig (l : List Nat) : Prop := ∀ i, l.getD i 0 < 65536
/-! ### times -/
/-- a list of digits as a number -/
def V (l : List Nat) : Nat := numN l l.length
/-! ### above -/
/-! ### one digit -/
/-! ### a root, digit by digit: c digits behind the point -/
theorem place (m : Nat) : 2 ^ m = 65536 ^ (m / 16) * 2 ^ (m % 16) := by
  rw [show (65536 : Nat) = 2 ^ 16 from rfl, ← Nat.pow_mul, ← Nat.pow_add, Nat.div_add_mod]
end Go.Proofs.YtmekmlgpkbfjpaaGreatDoor.T

/- The reference's Same: of two rows that are the same. -/
namespace Go.Proofs.YtmekmlgpkbfjpaaGreatDoor.O
open Go.RowKit Go.Sort Go.Proofs.YtmekmlgpkbfjpaaGreatDoor.E
open C (Pts)
open V (Lies OwnL RowL reg lessL bytesLess_is)
set_option maxRecDepth 100000

set_option maxHeartbeats 1600000 in
theorem same_yes (L : List ByteArray) (v u : Value) (w : World) (hl : RowL w 1 v (L.map oneS)) (hm : RowL w 1 u (L.map oneS)) :
    Calls Tryz.prog 19 #[v, u] w fun e w' => e = .returned (.bool true) ∧ Below w.heap.size w w' := by
  obtain ⟨a, c, rfl, hc, hcm, _⟩ := hl.form
  obtain ⟨a', c', rfl, hc', _, _⟩ := hm.form
  rw [List.length_map] at hl hm hc ⊢
  have hcap : L.length ≤ 9223372036854775807 := by unfold maxLen at hcm; omega
  have hne : ((L.length : Int) != (L.length : Int)) = false := bne_self_eq_false _
  have HL := Lib.hid (fun (w1 : World) (hb : Below w.heap.size w w1) => hl.below hb)
  have HM := Lib.hid (fun (w1 : World) (hb : Below w.heap.size w w1) => hm.below hb)
  clear hl hm hc hc' hcm
  go_enter Tryz.func19, Tryz.ntmps19
  go_wp2
  go_loopw [5, 13] (fun _ i wr => ∃ k : Nat, k ≤ L.length ∧ i = .int .i64 (k : Int) ∧ Below w.heap.size w wr) (fun _ i _ => L.length - (intOf i).toNat)
  case atStart => exact ⟨0, Nat.zero_le _, rfl, Below.refl _ _⟩
  case round =>
    obtain ⟨k, hk, rfl, hb⟩ := hrel
    by_cases hlt : k < L.length
    · obtain ⟨x, hx⟩ : ∃ x, L[k]? = some x := ⟨_, List.getElem?_eq_getElem hlt⟩
      obtain ⟨b, off, rfl, hr, _⟩ := (HL.out _ hb).at (i := k) (cs := oneS x) (by rw [List.getElem?_map, hx]; rfl)
      obtain ⟨b', off', rfl, hr', _⟩ := (HM.out _ hb).at (i := k) (cs := oneS x) (by rw [List.getElem?_map, hx]; rfl)
      have q0 := hr 0 (.string x) rfl
      have q1 := hr' 0 (.string x) rfl
      rw [Nat.mul_one, Nat.add_zero] at q0 q1
      have u0 := cell_regrown q0
      have u1 := cell_regrown q1
      have i1 : (k : Int) < (L.length : Int) := by omega
      have i2 : (0 : Int) ≤ (k : Int) := by omega
      have HJ := Lib.hid hlt
      clear hx hr hr' q0 q1 hlt
      go_wp2
      refine wp_region_quiet_below (by kernel_rfl) (by kernel_rfl) ?_
      repeat (go_big_quiet_step (fail))
      refine wpQuiet_nil ?_
      intro _ hw'
      obtain ⟨⟨dq, osq⟩, hw''⟩ := hw'
      subst hw''
      have hb2 := below_regrown wr dq osq
      go_wp2
      go_roundw
      case rel => exact ⟨k + 1, HJ.out, by go_num, hb.trans (hb2.mono hb.size)⟩
      case measure =>
        have := HJ.out
        simp [intOf]; omega
    · obtain rfl : k = L.length := by omega
      have i1 : ¬ (L.length : Int) < (L.length : Int) := by omega
      clear hlt hk
      go_wp2
      go_ret
      exact ⟨rfl, hb⟩
end Go.Proofs.YtmekmlgpkbfjpaaGreatDoor.O

/- The walk of the statement that the first signature of a key counts: whatever texts, it answers true. -/
namespace Go.Proofs.YtmekmlgpkbfjpaaGreatDoor.O
open Go.RowKit Go.Sort Go.Proofs.YtmekmlgpkbfjpaaGreatDoor.E
open C (Pts)
open V (Lies OwnL RowL reg lessL bytesLess_is)
set_option maxRecDepth 100000

theorem One.cells {w : World} {g c : Nat} {s : B2} (h : One w (.slice (some ⟨g, 0, none⟩) 1 c) s) : w.rangeAt g 0 (twoS s) := by
  obtain ⟨b, off, he, hr, _⟩ := h.row.at (i := 0) (cs := twoS s) rfl
  injection he with he
  injection he with e1 e2
  subst e1 e2
  simpa using hr
end Go.Proofs.YtmekmlgpkbfjpaaGreatDoor.O

/- The walk of the statement of how many signed: whatever numbers and whatever text, it answers true. -/
namespace Go.Proofs.YtmekmlgpkbfjpaaGreatDoor.O
open Go.RowKit Go.Sort Go.Maps Go.Proofs.YtmekmlgpkbfjpaaGreatDoor.E
open C (Pts)
open V (Lies OwnL RowL reg lessL bytesLess_is)
set_option maxRecDepth 100000

section
variable {a : Act} {d : Option Tmp} {x y : Operand} {t' : TypeId} {pos : String} {after : Array Edge} {gd : Option (Nat × Bool)} {r : TypeId}
theorem run_fldK (g o : Nat) (hx : a.eval x = .pointer (some ⟨g, o, none⟩)) (w : World) :
    (execOp a.eval ⟨d, .fieldAddr 51 x 0, t', pos, after, gd⟩).run Tryz.prog w = .ok (.value (.pointer (some ⟨g, o, none⟩))) w := by
  unfold execOp
  simp only [hx]
  exact rfl
theorem run_ldS (p : Addr) (v : Value) (w : World) (hc : w.cell? p = some v) (hx : a.eval x = .pointer (some p)) :
    (execOp a.eval ⟨d, .load 9 x, t', pos, after, gd⟩).run Tryz.prog w = .ok (.value v) w := by
  unfold execOp
  simp only [hx]
  simp [Instr.loadAt, go_sem, hc]
theorem run_lssI (p q : Int) (b : Bool) (hb : decide (p < q) = b) (hx : a.eval x = .int .i64 p) (hy : a.eval y = .int .i64 q) (w : World) :
    (execOp a.eval ⟨d, .binOp .lss 3 x y r, t', pos, after, gd⟩).run Tryz.prog w = .ok (.value (.bool b)) w := by
  subst hb
  unfold execOp
  simp only [hx, hy]
  simp [go_sem]
theorem run_lssT (p q : ByteArray) (b : Bool) (hb : lessB p q = b) (hx : a.eval x = .string p) (hy : a.eval y = .string q) (w : World) :
    (execOp a.eval ⟨d, .binOp .lss 9 x y r, t', pos, after, gd⟩).run Tryz.prog w = .ok (.value (.bool b)) w := by
  subst hb
  rw [← bl_is]
  unfold execOp
  simp only [hx, hy]
  simp [go_sem]
end
theorem key_cell {w : World} {g n c : Nat} {L : List (List Value)} {t : Nat} {a b : ByteArray} (h : RowL w 2 (.slice (some ⟨g, 0, none⟩) n c) L) (hx : L[t]? = some (twoS (a, b))) : w.cell? ⟨g, 0 + t * 2, none⟩ = some (.string a) := by
  obtain ⟨bb, off, he, hr, _⟩ := h.at hx
  injection he with he
  injection he with e1 e2
  subst e1 e2
  exact hr 0 (.string a) rfl
theorem lies_cell {w : World} {g : Nat} {t : TypeId} {a b : ByteArray} (h : Lies w g t #[.string a, .string b]) : w.cell? ⟨g, 0, none⟩ = some (.string a) := by
  have q := h.cell 0
  simp only [List.getElem?_toArray, List.getElem?_cons_zero] at q
  exact q
end Go.Proofs.YtmekmlgpkbfjpaaGreatDoor.O

/- Who signed does not hang on the order, nor on keys that are not the role's. -/
namespace Go.Proofs.YtmekmlgpkbfjpaaGreatDoor.O
open Go.RowKit Go.Sort Go.Proofs.YtmekmlgpkbfjpaaGreatDoor.E
set_option maxRecDepth 100000

theorem rise_row {n j : Nat} {x y : B2} (h : n ≤ 4) (hx : (rowN n)[j]? = some x) (hy : (rowN n)[j + 1]? = some y) : lessB x.1 y.1 = true := by
  unfold rowN at hx hy
  rw [List.getElem?_map] at hx hy
  cases hx1 : (ordN n)[j]? with
  | none => rw [hx1] at hx; cases hx
  | some a =>
    cases hy1 : (ordN n)[j + 1]? with
    | none => rw [hy1] at hy; cases hy
    | some b =>
      rw [hx1] at hx
      rw [hy1] at hy
      obtain rfl : kN a = x := Option.some.inj hx
      obtain rfl : kN b = y := Option.some.inj hy
      exact ord_rise h hx1 hy1
theorem tail_keys {n : Nat} (h : n ≤ 4) : keysR ((rowN n).drop 1) = true := by
  refine keys_of (by rw [List.length_drop, row_len h]; omega) (fun k hk => ?_) (fun j x y hx hy => ?_)
  · obtain ⟨i, _, rfl⟩ := List.mem_map.1 (List.mem_of_mem_drop hk)
    exact kN_ok i
  · rw [List.getElem?_drop] at hx hy
    exact rise_row h hx hy
theorem ids_rows (n : Nat) : idsN n = (rowN n).map (·.1) := by
  unfold idsN rowN
  rw [List.map_map]
  rfl
theorem tail_right {n : Nat} (h : n ≤ 4) (h2 : 2 ≤ n) : rightR ((idsN n).drop 1) 1 = true := by
  have hl : ((idsN n).drop 1).length = n - 1 := by rw [List.length_drop, ids_rows, List.length_map, row_len h]
  refine right_of (by rw [hl]; omega) (by rw [hl]; omega) (fun k hk => ?_) (fun j x y hx hy => ?_)
  · obtain ⟨i, _, rfl⟩ := List.mem_map.1 (List.mem_of_mem_drop hk)
    exact isSum_id _
  · rw [List.getElem?_drop, ids_rows, List.getElem?_map] at hx hy
    cases hx1 : (rowN n)[1 + j]? with
    | none => rw [hx1] at hx; cases hx
    | some a =>
      cases hy1 : (rowN n)[1 + (j + 1)]? with
      | none => rw [hy1] at hy; cases hy
      | some b =>
        rw [hx1] at hx
        rw [hy1] at hy
        obtain rfl : a.1 = x := Option.some.inj hx
        obtain rfl : b.1 = y := Option.some.inj hy
        exact rise_row h hx1 hy1
/-- whom a role without the first key counts -/
def whoN (n : Nat) (ns : List Nat) : List ByteArray := (((ordN n).drop 1).filter fun x => decide (x ∈ ns)).map idN
theorem count_tail {n : Nat} (h : n ≤ 4) (text : ByteArray) {ns : List Nat} (hns : ∀ y ∈ ns, y < 6) {KK : List B2} (hK : keysR KK = true) (hm : ∀ x ∈ (ordN n).drop 1, ∃ i : Nat, KK[i]? = some (kN x)) :
    countR ((idsN n).drop 1) KK text (ns.map fun n => sigOf text (sdB n)) = whoN n ns := by
  unfold countR whoN idsN
  rw [← List.map_drop, List.filter_map]
  congr 1
  refine List.filter_congr fun x hx => ?_
  have hlt := ord_lt h (List.mem_of_mem_drop hx)
  obtain ⟨i, hi⟩ := hm x hx
  exact signed_is (by omega) hns (keys_find hK (i := i) (k := kN x) hi)
theorem at_row {n : Nat} {x : Nat} (hx : x ∈ (ordN n).drop 1) : ∃ i : Nat, (rowN n)[i]? = some (kN x) := by
  obtain ⟨i, hi⟩ := List.getElem?_of_mem (List.mem_of_mem_drop hx)
  exact ⟨i, by unfold rowN; rw [List.getElem?_map, hi]; rfl⟩
theorem at_tail {n : Nat} {x : Nat} (hx : x ∈ (ordN n).drop 1) : ∃ i : Nat, ((rowN n).drop 1)[i]? = some (kN x) := by
  obtain ⟨i, hi⟩ := List.getElem?_of_mem hx
  exact ⟨i, by unfold rowN; rw [← List.map_drop, List.getElem?_map, hi]; rfl⟩
theorem who_turned (n : Nat) (ns : List Nat) (k : Nat) : whoN n (ns.drop k ++ ns.take k) = whoN n ns := by
  unfold whoN
  congr 1
  refine List.filter_congr fun x _ => decide_eq_decide.2 ?_
  rw [List.mem_append]
  constructor
  · exact fun h => h.elim List.mem_of_mem_drop List.mem_of_mem_take
  · intro h
    rw [← List.take_append_drop k ns, List.mem_append] at h
    exact h.symm
/-- who signs of the first i, by a row of yes and no -/
def saysN (B : List Bool) (i : Nat) : List Nat := (List.range i).filter fun x => B.getD x false
theorem says_succ (B : List Bool) (i : Nat) : saysN B (i + 1) = saysN B i ++ (if B.getD i false then [i] else []) := by
  unfold saysN
  rw [List.range_succ, List.filter_append]
  congr 1
  cases h : B.getD i false with
  | false => rw [List.filter_cons, h]; rfl
  | true => rw [List.filter_cons, h]; rfl
theorem says_lt {B : List Bool} {i y : Nat} (h : y ∈ saysN B i) : y < i := by
  unfold saysN at h
  exact List.mem_range.1 (List.mem_filter.1 h).1
end Go.Proofs.YtmekmlgpkbfjpaaGreatDoor.O

/- What Count answers for a role without the first key: whoever signed, whatever the order and whichever keys stand beside. -/
namespace Go.Proofs.YtmekmlgpkbfjpaaGreatDoor.O
open Go.RowKit Go.Sort Go.Proofs.YtmekmlgpkbfjpaaGreatDoor.E
open C (Pts)
open V (Lies OwnL RowL reg lessL bytesLess_is)
set_option maxRecDepth 100000

def WhoPost (WHO : List ByteArray) (w : World) (e : Ending) (w' : World) : Prop :=
  ∃ va vc, e = .returned (.tuple #[.slice va WHO.length vc, .int .i64 0]) ∧ RowL w' 1 (.slice va WHO.length vc) (WHO.map oneS) ∧ Below w.heap.size w w'
theorem count_who (A : Pts EdTab) {n : Nat} (h2 : 2 ≤ n ∧ n ≤ 4) {KK : List B2} (hK : keysR KK = true) (hm : ∀ x ∈ (ordN n).drop 1, ∃ i : Nat, KK[i]? = some (kN x)) (tx : ByteArray) (ht : tx.size ≤ 1000) {ns : List Nat} (hns : ∀ y ∈ ns, y < 6) (hl : ns.length ≤ 16)
    {av kv sv : Option Addr} {ac kc sc : Nat} {w : World} (hR : Rows4 w av ac kv kc sv sc ((idsN n).drop 1) KK (ns.map fun n => sigOf tx (sdB n))) (hT : RTab w) :
    Calls Tryz.prog 9 #[.agg #[.slice av ((idsN n).drop 1).length ac, .int .i64 1], .slice kv KK.length kc, .string tx, .slice sv (ns.map fun n => sigOf tx (sdB n)).length sc] w fun e w' => WhoPost (whoN n ns) w e w' := by
  refine (count_any A av kv sv ac kc sc _ 1 KK tx _ w hR ht hT).mono ?_
  rintro e w' (⟨hno, _⟩ | ⟨_, v, rfl, hO, hb⟩)
  · have hMay : mayR ((idsN n).drop 1) 1 KK (ns.map fun n => sigOf tx (sdB n)) = true := by
      unfold mayR
      rw [tail_right h2.2 h2.1, hK, List.length_map, decide_eq_true hl]
      rfl
    rw [hMay] at hno
    cases hno
  · rw [count_tail h2.2 tx hns hK hm] at hO
    obtain ⟨la, lc, hvL, _⟩ := hO.read.form
    rw [List.length_map] at hvL
    subst hvL
    exact ⟨la, lc, rfl, hO.read, hb⟩
section
variable {a : Act} {d : Option Tmp} {t' : TypeId} {pos : String} {after : Array Edge} {gd : Option (Nat × Bool)} {x y z z2 : Tmp}
theorem run_cutC (ty : TypeId) (k : Nat) (ht : Tryz.prog.underlying ty = some (.slice (Tryz.prog.elem ty))) (hs : ∀ w, (Go.sizeOf (Tryz.prog.elem ty)).run Tryz.prog w = .ok k w) (ad : Option Addr) (n c r : Nat) (hr : r ≤ n) (hx : a.eval (.tmp y) = .slice ad n c) (w : World) :
    (execOp a.eval ⟨d, .slice ty (.tmp y) (some (.const (.int .i64 (r : Int)))) none none, t', pos, after, gd⟩).run Tryz.prog w = .ok (.value (sliced ad r n c k)) w := by
  have h1 := run_slice_l (P := Tryz.prog) w ty ad n c ht .i64 (r : Int) (by omega) (by omega)
  have h2 := run_sliceAt_slice (P := Tryz.prog) w ty (.slice ad n c) (some (.int .i64 (r : Int))) none none ht
  unfold execOp
  simp only [hx, show a.eval (.const (.int .i64 (r : Int))) = .int .i64 (r : Int) from rfl, Option.map_some, Option.map_none, Sem.run_bind, h2, h1, hs, Result.andThen, Sem.run_pure, Int.toNat_natCast]
end
theorem own_void (w : World) (B : Nat) (hB : B ≤ w.heap.size) : OwnL (w.alloc (.cells #[] 46)) B 46 2 (.slice (some ⟨w.heap.size, 0, none⟩) 0 0) [] :=
  ⟨fun cs hcs => by (cases hcs), rfl, .inr ⟨w.heap.size, 0, #[], rfl, hB, heap_alloc_new w _, Nat.le_refl _, by unfold maxLen; decide, rfl, rfl⟩⟩
end Go.Proofs.YtmekmlgpkbfjpaaGreatDoor.O

/- A number that comes in as an argument is one of four words. -/
namespace Go.Proofs.YtmekmlgpkbfjpaaGreatDoor.C
open Go.Proofs.YtmekmlgpkbfjpaaGreatDoor.F
set_option maxRecDepth 100000
open Go.ChangeShapes Go.WideShapes Go.ChangeAt Go.RowKit

theorem cellsU64 : Tryz.prog.cellsOf 65 = 1 := by kernel_rfl
end Go.Proofs.YtmekmlgpkbfjpaaGreatDoor.C

/- What the listed variables give; and a start that meets it. -/
namespace Go.Proofs.YtmekmlgpkbfjpaaGreatDoor.C
open Go.Proofs.YtmekmlgpkbfjpaaGreatDoor.F
set_option maxRecDepth 100000
open Go.ChangeShapes Go.WideShapes Go.ChangeAt Go.RowKit

theorem arr_cells {W : World} {name : String} {g t n fuel : Nat} {cs : Array Value} {p : List MemPlace} (L : List Nat) (hg : Tryz.prog.globalNamed name = some g) (ht : Tryz.prog.underlying t = some (.array n 65)) (hv : W.var? Tryz.prog name = some cs)
    (hd : DataW.trod (fun _ => ()) Tryz.prog W 0 (fun _ => true) false fuel t cs.toList = some (.agg (L.map fun x : Nat => .lit (.int .u64 (x : Int))), p)) (hn : L.length = n) :
    ∀ i, i < n → W.cell? ⟨g, i, none⟩ = some (w64 (L.getD i 0)) := by
  intro i hi
  obtain ⟨xs, m, rfl, hx, _, hxn, hel⟩ := DataW.trod_array ht hd
  have h1 := hel i hi
  simp only [Prod.mk.injEq, DataW.agg.injEq] at hx
  have hxi : xs[i]? = some (xs[i]'(by omega)) := List.getElem?_eq_getElem (by omega)
  rw [hxi, cellsU64, Nat.mul_one] at h1
  obtain ⟨k, e1, e2, _⟩ := DataW.trod_int Tryz.underlying65 h1
  have h2 : (xs.map (·.1))[i]? = some (.lit (.int .u64 k)) := by rw [List.getElem?_map, hxi, e2]; rfl
  rw [← hx.1, List.getElem?_map] at h2
  have hLi : L[i]? = some (L[i]'(by omega)) := List.getElem?_eq_getElem (by omega)
  rw [hLi] at h2
  simp only [Option.map_some, Option.some.injEq, DataW.lit.injEq, Lit.int.injEq, true_and] at h2
  rw [World.var?_cell hg hv i, ← Array.getElem?_toList]
  have h3 : ((cs.toList.drop i).take 1)[0]? = some (.int .u64 k) := by rw [e1]; rfl
  rw [List.getElem?_take, if_pos (by decide), List.getElem?_drop, Nat.add_zero] at h3
  rw [h3, ← h2, List.getD_eq_getElem?_getD, hLi]
  rfl

theorem g_pr : Tryz.prog.globalNamed "imprimatur/field.prime" = some 6 := by kernel_rfl
theorem t_pr : (Tryz.prog.globals[6]?).map (·.type) = some 72 := by kernel_rfl
def w_pr : List Nat := [18446744073709551597, 18446744073709551615, 18446744073709551615, 9223372036854775807]
theorem a_pr (i : Nat) (h : i < 4) : w_pr.getD i 0 = wordN p25 i := by
  match i, h with
  | 0, _ | 1, _ | 2, _ | 3, _ => decide
theorem g_ro : Tryz.prog.globalNamed "imprimatur/field.rootOfMinusOne" = some 7 := by kernel_rfl
theorem t_ro : (Tryz.prog.globals[7]?).map (·.type) = some 72 := by kernel_rfl
def w_ro : List Nat := [14190309331451158704, 3405592160176694392, 3120150775007532967, 3135389899092516619]
theorem a_ro (i : Nat) (h : i < 4) : w_ro.getD i 0 = wordN i25 i := by
  match i, h with
  | 0, _ | 1, _ | 2, _ | 3, _ => decide
theorem g_dd : Tryz.prog.globalNamed "imprimatur/point.d" = some 1 := by kernel_rfl
theorem t_dd : (Tryz.prog.globals[1]?).map (·.type) = some 72 := by kernel_rfl
def w_dd : List Nat := [8496970652267935907, 31536524315187371, 10144147576115030168, 5909686906226998899]
theorem a_dd (i : Nat) (h : i < 4) : w_dd.getD i 0 = wordN dN i := by
  match i, h with
  | 0, _ | 1, _ | 2, _ | 3, _ => decide
theorem g_bx : Tryz.prog.globalNamed "imprimatur/point.baseX" = some 4 := by kernel_rfl
theorem t_bx : (Tryz.prog.globals[4]?).map (·.type) = some 72 := by kernel_rfl
def w_bx : List Nat := [14507833142362363162, 7578651490590762930, 13881468655802702940, 2407515759118799870]
theorem a_bx (i : Nat) (h : i < 4) : w_bx.getD i 0 = wordN bxN i := by
  match i, h with
  | 0, _ | 1, _ | 2, _ | 3, _ => decide
theorem g_by : Tryz.prog.globalNamed "imprimatur/point.baseY" = some 5 := by kernel_rfl
theorem t_by : (Tryz.prog.globals[5]?).map (·.type) = some 72 := by kernel_rfl
def w_by : List Nat := [7378697629483820632, 7378697629483820646, 7378697629483820646, 7378697629483820646]
theorem a_by (i : Nat) (h : i < 4) : w_by.getD i 0 = wordN byN i := by
  match i, h with
  | 0, _ | 1, _ | 2, _ | 3, _ => decide
theorem g_or : Tryz.prog.globalNamed "imprimatur/scalar.order" = some 9 := by kernel_rfl
theorem t_or : (Tryz.prog.globals[9]?).map (·.type) = some 67 := by kernel_rfl
def w_or : List Nat := [6346243789798364141, 1503914060200516822, 0, 1152921504606846976]
theorem a_or (i : Nat) (h : i < 4) : w_or.getD i 0 = wordN G.l25 i := by
  match i, h with
  | 0, _ | 1, _ | 2, _ | 3, _ => decide
end Go.Proofs.YtmekmlgpkbfjpaaGreatDoor.C

/- What the listed variables give: the two tables hold their constants; and a start that meets it. -/
namespace Go.Proofs.YtmekmlgpkbfjpaaGreatDoor.T
open Go.ChangeShapes Go.WideShapes Go.ChangeAt Go.RowKit

theorem cells25 : Tryz.prog.cellsOf 65 = 1 := by kernel_rfl
theorem arr_cells {W : World} {name : String} {g t n fuel : Nat} {cs : Array Value} {p : List MemPlace} (L : List Nat) (hg : Tryz.prog.globalNamed name = some g) (ht : Tryz.prog.underlying t = some (.array n 65)) (hv : W.var? Tryz.prog name = some cs)
    (hd : DataW.trod (fun _ => ()) Tryz.prog W 0 (fun _ => true) false fuel t cs.toList = some (.agg (L.map fun x : Nat => .lit (.int .u64 (x : Int))), p)) (hn : L.length = n) :
    ∀ i, i < n → W.cell? ⟨g, i, none⟩ = some (w64 (L.getD i 0)) := by
  intro i hi
  obtain ⟨xs, m, rfl, hx, _, hxn, hel⟩ := DataW.trod_array ht hd
  have h1 := hel i hi
  simp only [Prod.mk.injEq, DataW.agg.injEq] at hx
  have hxi : xs[i]? = some (xs[i]'(by omega)) := List.getElem?_eq_getElem (by omega)
  rw [hxi, cells25, Nat.mul_one] at h1
  obtain ⟨k, e1, e2, _⟩ := DataW.trod_int Tryz.underlying65 h1
  have h2 : (xs.map (·.1))[i]? = some (.lit (.int .u64 k)) := by rw [List.getElem?_map, hxi, e2]; rfl
  rw [← hx.1, List.getElem?_map] at h2
  have hLi : L[i]? = some (L[i]'(by omega)) := List.getElem?_eq_getElem (by omega)
  rw [hLi] at h2
  simp only [Option.map_some, Option.some.injEq, DataW.lit.injEq, Lit.int.injEq, true_and] at h2
  rw [World.var?_cell hg hv i, ← Array.getElem?_toList]
  have h3 : ((cs.toList.drop i).take 1)[0]? = some (.int .u64 k) := by rw [e1]; rfl
  rw [List.getElem?_take, if_pos (by decide), List.getElem?_drop, Nat.add_zero] at h3
  rw [h3, ← h2, List.getD_eq_getElem?_getD, hLi]
  rfl

theorem gSq : Tryz.prog.globalNamed "imprimatur/sha512.squareRoots" = some 3 := by kernel_rfl
theorem gCu : Tryz.prog.globalNamed "imprimatur/sha512.cubeRoots" = some 8 := by kernel_rfl
theorem tSq : (Tryz.prog.globals[3]?).map (·.type) = some 106 := by kernel_rfl
theorem tCu : (Tryz.prog.globals[8]?).map (·.type) = some 198 := by kernel_rfl
def sq : List Nat := [h0.a, h0.b, h0.c, h0.d, h0.e, h0.f, h0.g, h0.h]
theorem sq_at (i : Nat) (h : i < 8) : sq.getD i 0 = h0.at i := by
  match i, h with
  | 0, _ | 1, _ | 2, _ | 3, _ | 4, _ | 5, _ | 6, _ | 7, _ => rfl

end Go.Proofs.YtmekmlgpkbfjpaaGreatDoor.T

/- What the listed variables give: the two tables hold their constants; and a start that meets it. -/
namespace Go.Proofs.YtmekmlgpkbfjpaaGreatDoor.U
open Go.ChangeShapes Go.WideShapes Go.ChangeAt Go.RowKit

theorem rowOwn : ownKnob Tryz.prog.godebug = none := by kernel_rfl
theorem rowLaid : laidOutB Tryz.prog = true := by kernel_rfl

theorem cells25 : Tryz.prog.cellsOf 88 = 1 := by kernel_rfl
theorem arr_cells {W : World} {name : String} {g t n fuel : Nat} {cs : Array Value} {p : List MemPlace} (L : List Nat) (hg : Tryz.prog.globalNamed name = some g) (ht : Tryz.prog.underlying t = some (.array n 88)) (hv : W.var? Tryz.prog name = some cs)
    (hd : DataW.trod (fun _ => ()) Tryz.prog W 0 (fun _ => true) false fuel t cs.toList = some (.agg (L.map fun x : Nat => .lit (.int .u32 (x : Int))), p)) (hn : L.length = n) :
    ∀ i, i < n → W.cell? ⟨g, i, none⟩ = some (u32 (L.getD i 0)) := by
  intro i hi
  obtain ⟨xs, m, rfl, hx, _, hxn, hel⟩ := DataW.trod_array ht hd
  have h1 := hel i hi
  simp only [Prod.mk.injEq, DataW.agg.injEq] at hx
  have hxi : xs[i]? = some (xs[i]'(by omega)) := List.getElem?_eq_getElem (by omega)
  rw [hxi, cells25, Nat.mul_one] at h1
  obtain ⟨k, e1, e2, _⟩ := DataW.trod_int Tryz.underlying88 h1
  have h2 : (xs.map (·.1))[i]? = some (.lit (.int .u32 k)) := by rw [List.getElem?_map, hxi, e2]; rfl
  rw [← hx.1, List.getElem?_map] at h2
  have hLi : L[i]? = some (L[i]'(by omega)) := List.getElem?_eq_getElem (by omega)
  rw [hLi] at h2
  simp only [Option.map_some, Option.some.injEq, DataW.lit.injEq, Lit.int.injEq, true_and] at h2
  rw [World.var?_cell hg hv i, ← Array.getElem?_toList]
  have h3 : ((cs.toList.drop i).take 1)[0]? = some (.int .u32 k) := by rw [e1]; rfl
  rw [List.getElem?_take, if_pos (by decide), List.getElem?_drop, Nat.add_zero] at h3
  rw [h3, ← h2, List.getD_eq_getElem?_getD, hLi]
  rfl

theorem gSq : Tryz.prog.globalNamed "imprimatur/sha256.squareRoots" = some 0 := by kernel_rfl
theorem gCu : Tryz.prog.globalNamed "imprimatur/sha256.cubeRoots" = some 2 := by kernel_rfl
theorem tSq : (Tryz.prog.globals[0]?).map (·.type) = some 89 := by kernel_rfl
theorem tCu : (Tryz.prog.globals[2]?).map (·.type) = some 156 := by kernel_rfl
def sq : List Nat := [h0.a, h0.b, h0.c, h0.d, h0.e, h0.f, h0.g, h0.h]
theorem sq_at (i : Nat) (h : i < 8) : sq.getD i 0 = h0.at i := by
  match i, h with
  | 0, _ | 1, _ | 2, _ | 3, _ | 4, _ | 5, _ | 6, _ | 7, _ => rfl

end Go.Proofs.YtmekmlgpkbfjpaaGreatDoor.U

/- What the listed variables give: the tables and numbers hold their constants; and starts that meet it. -/
namespace Go.Proofs.YtmekmlgpkbfjpaaGreatDoor.O
open Go.ChangeShapes Go.WideShapes Go.ChangeAt Go.RowKit Go.Proofs.YtmekmlgpkbfjpaaGreatDoor.F Go.Proofs.YtmekmlgpkbfjpaaGreatDoor.C
set_option maxRecDepth 100000
abbrev laidO : List (String × DataW Unit) := [("imprimatur/field.rootOfMinusOne", Rows.laid_imprimatur_field_rootOfMinusOne), ("imprimatur/field.prime", Rows.laid_imprimatur_field_prime), ("imprimatur/point.d", Rows.laid_imprimatur_point_d), ("imprimatur/point.baseX", Rows.laid_imprimatur_point_baseX), ("imprimatur/point.baseY", Rows.laid_imprimatur_point_baseY), ("imprimatur/scalar.order", Rows.laid_imprimatur_scalar_order), ("imprimatur/sha256.squareRoots", Rows.laid_imprimatur_sha256_squareRoots), ("imprimatur/sha256.cubeRoots", Rows.laid_imprimatur_sha256_cubeRoots), ("imprimatur/sha512.squareRoots", Rows.laid_imprimatur_sha512_squareRoots), ("imprimatur/sha512.cubeRoots", Rows.laid_imprimatur_sha512_cubeRoots)]
theorem tabO_of_laid {W : World} (h : laidMetH Tryz.prog laidO W) : U.Tab W ∧ E.EdTab2 W := by
  rw [MakeChecks.laidMetH_plain _ _ _ (by kernel_rfl)] at h
  obtain ⟨ps, ⟨g0, t0, cs0, f0, p0, q0, hg0, ht0, hv0, hd0, ⟨g1, t1, cs1, f1, p1, q1, hg1, ht1, hv1, hd1, ⟨g2, t2, cs2, f2, p2, q2, hg2, ht2, hv2, hd2, ⟨g3, t3, cs3, f3, p3, q3, hg3, ht3, hv3, hd3, ⟨g4, t4, cs4, f4, p4, q4, hg4, ht4, hv4, hd4, ⟨g5, t5, cs5, f5, p5, q5, hg5, ht5, hv5, hd5, ⟨g6, t6, cs6, f6, p6, q6, hg6, ht6, hv6, hd6, ⟨g7, t7, cs7, f7, p7, q7, hg7, ht7, hv7, hd7, ⟨g8, t8, cs8, f8, p8, q8, hg8, ht8, hv8, hd8, ⟨g9, t9, cs9, f9, p9, q9, hg9, ht9, hv9, hd9, _, _⟩, _⟩, _⟩, _⟩, _⟩, _⟩, _⟩, _⟩, _⟩, _⟩, _⟩ := h
  obtain rfl := Option.some.inj (C.g_ro.symm.trans hg0)
  obtain rfl := Option.some.inj (C.g_pr.symm.trans hg1)
  obtain rfl := Option.some.inj (C.g_dd.symm.trans hg2)
  obtain rfl := Option.some.inj (C.g_bx.symm.trans hg3)
  obtain rfl := Option.some.inj (C.g_by.symm.trans hg4)
  obtain rfl := Option.some.inj (C.g_or.symm.trans hg5)
  obtain rfl := Option.some.inj (U.gSq.symm.trans hg6)
  obtain rfl := Option.some.inj (U.gCu.symm.trans hg7)
  obtain rfl := Option.some.inj (T.gSq.symm.trans hg8)
  obtain rfl := Option.some.inj (T.gCu.symm.trans hg9)
  obtain rfl := Option.some.inj (C.t_ro.symm.trans ht0)
  obtain rfl := Option.some.inj (C.t_pr.symm.trans ht1)
  obtain rfl := Option.some.inj (C.t_dd.symm.trans ht2)
  obtain rfl := Option.some.inj (C.t_bx.symm.trans ht3)
  obtain rfl := Option.some.inj (C.t_by.symm.trans ht4)
  obtain rfl := Option.some.inj (C.t_or.symm.trans ht5)
  obtain rfl := Option.some.inj (U.tSq.symm.trans ht6)
  obtain rfl := Option.some.inj (U.tCu.symm.trans ht7)
  obtain rfl := Option.some.inj (T.tSq.symm.trans ht8)
  obtain rfl := Option.some.inj (T.tCu.symm.trans ht9)
  have c_ro : VarN 7 i25 W := fun i hi => by rw [← C.a_ro i hi]; exact C.arr_cells C.w_ro C.g_ro Tryz.underlying72 hv0 hd0 rfl i hi
  have c_pr : VarN 6 p25 W := fun i hi => by rw [← C.a_pr i hi]; exact C.arr_cells C.w_pr C.g_pr Tryz.underlying72 hv1 hd1 rfl i hi
  have c_dd : VarN 1 dN W := fun i hi => by rw [← C.a_dd i hi]; exact C.arr_cells C.w_dd C.g_dd Tryz.underlying72 hv2 hd2 rfl i hi
  have c_bx : VarN 4 bxN W := fun i hi => by rw [← C.a_bx i hi]; exact C.arr_cells C.w_bx C.g_bx Tryz.underlying72 hv3 hd3 rfl i hi
  have c_by : VarN 5 byN W := fun i hi => by rw [← C.a_by i hi]; exact C.arr_cells C.w_by C.g_by Tryz.underlying72 hv4 hd4 rfl i hi
  have c_or : VarN 9 G.l25 W := fun i hi => by rw [← C.a_or i hi]; exact C.arr_cells C.w_or C.g_or Tryz.underlying67 hv5 hd5 rfl i hi
  have c_sq2 := U.arr_cells U.sq U.gSq Tryz.underlying89 hv6 hd6 rfl
  have c_cu2 := U.arr_cells U.ks U.gCu Tryz.underlying156 hv7 hd7 rfl
  have c_sq5 := T.arr_cells T.sq T.gSq Tryz.underlying106 hv8 hd8 rfl
  have c_cu5 := T.arr_cells T.ks T.gCu Tryz.underlying198 hv9 hd9 rfl
  have h1 : U.Tab W := ⟨fun i hi => by rw [← U.sq_at i hi]; exact c_sq2 i hi, c_cu2⟩
  have h2 : E.EdTab W := ⟨⟨fun i hi => by rw [← T.sq_at i hi]; exact c_sq5 i hi, c_cu5⟩, c_or, ⟨c_pr, c_dd, c_bx, c_by⟩⟩
  exact ⟨h1, h2, c_ro⟩
theorem door_metO (os : Os) (args : Array Value) : laidMetH Tryz.prog laidO ((World.doorLaid Tryz.prog 400 os).forCall (fun _ _ => 0) ⟨#[], args, []⟩).memory :=
  laidMetH_of_parts3 (fuel := 8) (laidMet_of_run' 8 (by kernel_rfl) (by kernel_rfl)) (by kernel_rfl) (by kernel_rfl)
end Go.Proofs.YtmekmlgpkbfjpaaGreatDoor.O

/- How roles, keys and signatures, numbers and Booleans are opened as arguments. -/
namespace Go.Proofs.YtmekmlgpkbfjpaaGreatDoor.O
open Go.ChangeShapes Go.WideShapes Go.ChangeAt Go.RowKit
open V (Lies OwnL RowL)
set_option maxRecDepth 100000

/-- a row of elements that are each opened so -/
theorem row_arg {H : Type} {enc : TypeId × Value → H} {W : World} {r : Reach} {b0 : Nat} {v : Value} {d : DataW H} {p : List MemPlace} {α : Type} (ty e : TypeId) (k : Nat) (f : α → List Value) (hty : Tryz.prog.underlying ty = some (.slice e)) (hk : Tryz.prog.cellsOf e = k) (hk0 : 0 < k) (hf : ∀ x, (f x).length = k)
    (ho : ∀ (fuel : Nat) (cs : List Value) (x : DataW H × List MemPlace), DataW.trod enc Tryz.prog W 0 (fun _ => true) true fuel e cs = some x → ∃ y, cs = f y)
    (hv : Value.okWide Tryz.prog W r b0 ty v) (h : DataW.Trod enc Tryz.prog W 0 (fun _ => true) true ty v d p) : ∃ S : List α, RowL W k v (S.map f) := by
  obtain ⟨a0, l0, c0, rfl⟩ := okWide_slice hty hv
  obtain ⟨fuel, hf2⟩ := h
  rcases DataW.trod_slice hty hf2 with ⟨hcs, _⟩ | ⟨a, len, cap, elems, rest, n', rfl, hcs, _, _, hl, hm, hel, hx, _⟩
  · simp [Value.cells] at hcs
    obtain ⟨rfl, rfl, rfl⟩ := hcs
    exact ⟨[], RowL.nil _ _⟩
  · simp [Value.cells] at hcs
    obtain ⟨rfl, rfl, rfl⟩ := hcs
    rw [hk] at hx
    have hx' : ∀ i, i < l0 → ∃ y : α, W.cells? 0 (a.add (i * k)) k = some (f y) := by
      intro i hi
      have := hx i hi
      rw [List.getElem?_eq_getElem (by omega)] at this
      obtain ⟨cs', g1, g2⟩ := Option.bind_eq_some_iff.1 this
      obtain ⟨y, rfl⟩ := ho _ _ _ g2
      exact ⟨y, g1⟩
    rcases Nat.eq_zero_or_pos l0 with h00 | hpos0
    · subst h00
      exact ⟨[], ⟨fun cs hcs => (by cases hcs), some a, c0, rfl, hl, hm, (fun e => by cases e), fun hpos => absurd hpos (by simp)⟩⟩
    obtain ⟨y0, _⟩ := hx' 0 hpos0
    obtain ⟨f', hf'⟩ : ∃ f' : Nat → α, ∀ i, i < l0 → W.cells? 0 (a.add (i * k)) k = some (f (f' i)) := by
      refine ⟨fun i => if hi : i < l0 then (hx' i hi).choose else y0, fun i hi => ?_⟩
      simp only [hi, dite_true]
      exact (hx' i hi).choose_spec
    have hll : (((List.range l0).map f').map f).length = l0 := by simp
    refine ⟨(List.range l0).map f', ⟨fun cs hcs => ?_, some a, c0, by rw [hll], by rw [hll]; exact hl, hm, (fun e => by cases e), fun hpos => ?_⟩⟩
    · obtain ⟨y, _, rfl⟩ := List.mem_map.1 hcs
      exact hf y
    · obtain ⟨_, g2, g3⟩ := World.cells?_some (hf' 0 hpos0)
      have hspot : a.spot = none := by
        have g4 := g3 0 hk0
        rw [List.getElem?_eq_getElem (by have := hf (f' 0); omega)] at g4
        have := World.cell?_spot g4
        simpa [Addr.add] using this
      obtain ⟨b, off, spot⟩ := a
      simp only at hspot
      subst hspot
      refine ⟨b, off, rfl, fun i cs hi j u hu => ?_⟩
      have hlt : i < l0 := by have := (List.getElem?_eq_some_iff.1 hi).1; omega
      have hi2 : cs = f (f' i) := by
        simp only [List.getElem?_map, List.getElem?_range hlt, Option.map_some, Option.some.injEq] at hi
        exact hi.symm
      subst hi2
      obtain ⟨_, g2, g3⟩ := World.cells?_some (hf' i hlt)
      have := g3 j (by have := (List.getElem?_eq_some_iff.1 hu).1; have := hf (f' i); omega)
      rw [Addr.add_mid, Addr.add_mid] at this
      exact this.trans hu
section
variable {H : Type} {enc : TypeId × Value → H} {W : World} {r : Reach} {b0 : Nat} {v : Value} {d : DataW H} {p : List MemPlace}
theorem bools_arg (hv : Value.okWide Tryz.prog W r b0 54 v) (h : DataW.Trod enc Tryz.prog W 0 (fun _ => true) true 54 v d p) : ∃ S : List Bool, RowL W 1 v (S.map fun i => [.bool i]) :=
  row_arg _ _ 1 (fun i => [.bool i]) Tryz.underlying54 (by kernel_rfl) (by decide) (fun _ => rfl) (fun _ _ _ h => by
    obtain ⟨z, ez, _⟩ := DataW.trod_bool Tryz.underlying4 h
    exact ⟨z, ez⟩) hv h
end
end Go.Proofs.YtmekmlgpkbfjpaaGreatDoor.O

