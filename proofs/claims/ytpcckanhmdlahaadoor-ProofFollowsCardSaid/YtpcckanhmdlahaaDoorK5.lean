/- Texts that stand on one another, put together: ROnes, RTake, RLeaf, CQuiet, Late, RAdd, RFew, RSame, RAlive, Held, RSteps, RGrowsA, QTree, QSides, QSteps, QLaws, QRef, QMakes, QOld, QFew, QSums, QTexts, QParts. -/
import Derived.Test.YtpcckanhmdlahaaDoorK4
import Derived.ArgAppend
import Derived.Deep.MidRow
import Derived.Laws.AppendOwnNone
import Derived.Laws.Bits128
import Derived.Laws.BitsAllLaws
import Derived.Laws.DeepStrings4
import Derived.Laws.Rows
import Derived.Lib.QuietBelow
import Derived.StillTail
/- How many bits are 1: the contract of the library's OnesCount, of small numbers. -/
namespace Go.Proofs.YtpcckanhmdlahaaDoor.R
open Go.RowKit Go.Sort Go.Proofs.YtpcckanhmdlahaaDoor.U
set_option maxRecDepth 100000

def q1 (n : Nat) : Nat := ((n / 2 &&& 6148914691236517205) + (n &&& 6148914691236517205)) % 18446744073709551616
def q2 (n : Nat) : Nat := ((n / 4 &&& 3689348814741910323) + (n &&& 3689348814741910323)) % 18446744073709551616
def q3 (n : Nat) : Nat := (n / 16 + n) % 18446744073709551616 &&& 1085102592571150095
def q4 (n : Nat) : Nat := (n + n / 256) % 18446744073709551616
def q5 (n : Nat) : Nat := (n + n / 65536) % 18446744073709551616
def q6 (n : Nat) : Nat := (n + n / 4294967296) % 18446744073709551616
def q7 (n : Nat) : Nat := n % 128
theorem wrapN (a : Nat) : IntKind.u64.wrap (a : Int) = ((a % 18446744073709551616 : Nat) : Int) := by rw [IntKind.wrap_u64]; omega
theorem andN (a b : Nat) (ha : a < 18446744073709551616) (hb : b < 18446744073709551616) : bits BinOp.and IntKind.u64 (a : Int) (b : Int) = ((a &&& b : Nat) : Int) := u64_and_nat a b ha hb
theorem e1 (n : Nat) (h : n < 18446744073709551616) : IntKind.u64.wrap (bits BinOp.and IntKind.u64 ((n : Int) / 2) 6148914691236517205 + bits BinOp.and IntKind.u64 (n : Int) 6148914691236517205) = ((q1 n : Nat) : Int) := by
  rw [show ((n : Int) / 2) = ((n / 2 : Nat) : Int) by omega, show (6148914691236517205 : Int) = ((6148914691236517205 : Nat) : Int) from rfl, andN _ _ (by omega) (by decide), andN _ _ h (by decide), ← Int.natCast_add, wrapN]
  rfl
theorem e2 (n : Nat) (h : n < 18446744073709551616) : IntKind.u64.wrap (bits BinOp.and IntKind.u64 ((n : Int) / 4) 3689348814741910323 + bits BinOp.and IntKind.u64 (n : Int) 3689348814741910323) = ((q2 n : Nat) : Int) := by
  rw [show ((n : Int) / 4) = ((n / 4 : Nat) : Int) by omega, show (3689348814741910323 : Int) = ((3689348814741910323 : Nat) : Int) from rfl, andN _ _ (by omega) (by decide), andN _ _ h (by decide), ← Int.natCast_add, wrapN]
  rfl
theorem e3 (n : Nat) : bits BinOp.and IntKind.u64 (IntKind.u64.wrap ((n : Int) / 16 + (n : Int))) 1085102592571150095 = ((q3 n : Nat) : Int) := by
  rw [show ((n : Int) / 16) = ((n / 16 : Nat) : Int) by omega, show (1085102592571150095 : Int) = ((1085102592571150095 : Nat) : Int) from rfl, ← Int.natCast_add, wrapN, andN _ _ (Nat.mod_lt _ (by decide)) (by decide)]
  rfl
theorem e4 (n : Nat) : IntKind.u64.wrap ((n : Int) + (n : Int) / 256) = ((q4 n : Nat) : Int) := by
  rw [show ((n : Int) / 256) = ((n / 256 : Nat) : Int) by omega, ← Int.natCast_add, wrapN]
  rfl
theorem e7 (n : Nat) : bits BinOp.and IntKind.i64 (wrap64 (n : Int)) 127 = ((q7 n : Nat) : Int) := by
  rw [i64_and127]
  unfold q7 wrap64
  omega

end Go.Proofs.YtpcckanhmdlahaaDoor.R

/- A tree that works: its parts made one; a leaf more. -/
namespace Go.Proofs.YtpcckanhmdlahaaDoor.R
open Go.RowKit Go.Sort Go.Proofs.YtpcckanhmdlahaaDoor.U
set_option maxRecDepth 100000

theorem infoStr : (Tryd.prog.info? 9).map (fun i => (i.zero, i.size, i.bytes)) = some (some (.string ByteArray.empty), 1, 16) := by kernel_rfl
/-- a row that the call owns, or one of nothing, without room -/
def Own (w : World) (B : Nat) (v : Value) (ps : List (List UInt8)) : Prop :=
  (∃ a, v = .slice a 0 0 ∧ ps = []) ∨ ∃ gp cap, v = .slice (some ⟨gp, 0, none⟩) ps.length cap ∧ w.ownsRow B 9 1 v ps.length (ps.map str)
theorem Own.strs {w : World} {B : Nat} {v : Value} {ps : List (List UInt8)} (h : Own w B v ps) : Strs w v ps := by
  rcases h with ⟨a, rfl, rfl⟩ | ⟨gp, cap, rfl, h⟩
  · exact ⟨a, 0, rfl, Nat.le_refl _, Nat.zero_le _, fun _ => rfl, fun h => absurd rfl h⟩
  · exact Strs.owned h
theorem Own.on {w w' : World} {B : Nat} {v : Value} {ps : List (List UInt8)} (h : Own w B v ps) (hb : Below w.heap.size w w') : Own w' B v ps := by
  rcases h with ⟨a, rfl, rfl⟩ | ⟨gp, cap, rfl, h⟩
  · exact .inl ⟨a, rfl, rfl⟩
  · exact .inr ⟨gp, cap, rfl, own_on h hb⟩
theorem own_block {w : World} {B : Nat} {e : TypeId} {g n cap : Nat} {xs : List Value} (h : w.ownsRow B e 1 (.slice (some ⟨g, 0, none⟩) n cap) n xs) : B ≤ g ∧ g < w.heap.size := h.lt g rfl

/-! ### the root -/
end Go.Proofs.YtpcckanhmdlahaaDoor.R

/- A tree that works: one leaf more. -/
namespace Go.Proofs.YtpcckanhmdlahaaDoor.R
open Go.RowKit Go.Sort Go.Proofs.YtpcckanhmdlahaaDoor.U
set_option maxRecDepth 100000

/-- blocks of another type are as they were -/
def Kept (w w' : World) : Prop := ∀ g t cs, t ≠ 9 → Lies w g t cs → Lies w' g t cs
theorem Kept.on {w w1 w2 : World} (h : Kept w w1) (hb : Below w1.heap.size w1 w2) : Kept w w2 := fun g t cs ht hl => (h g t cs ht hl).on hb
theorem Kept.refl (w : World) : Kept w w := fun _ _ _ _ h => h

/-- one text goes behind a row that the call owns -/
theorem wpL_appendS {ops : Array Oper} {rest : List Oper} {a : Act} {w : World} {Q : Exit → Act → World → Prop} {t' : TypeId} {pos : String} {after : Array Edge} {d : Option Tmp} {x y : Tmp}
    (B : Nat) (v : Value) (ps : List (List UInt8)) (n0 : Nat) (z : List UInt8) (b : Nat) (hn0 : ps.length = n0) (hown : Own w B v ps) (hl : Lies w b 9 #[.string ⟨z.toArray⟩]) (hps : ps.length ≤ 100000) (hB : B ≤ w.heap.size)
    (hs : a.eval (.tmp x) = v) (hx : a.eval (.tmp y) = .slice (some ⟨b, 0, none⟩) 1 1)
    (h : ∀ g2 c2 w', Own w' B (.slice (some ⟨g2, 0, none⟩) (n0 + 1) c2) (ps ++ [z]) → Below B w w' → Kept w w' → wpList Tryd.prog ops Q rest (a.put d (.slice (some ⟨g2, 0, none⟩) (n0 + 1) c2)) w') :
    wpList Tryd.prog ops Q (⟨d, .call { callee := .builtin .append, args := #[.tmp x, .tmp y], argTypes := #[22, 22] }, t', pos, after, none⟩ :: rest) a w := by
  obtain ⟨i0, hi, hz0, hz1, hz2⟩ := info_parts infoStr
  subst hn0
  rcases hown with ⟨ao, rfl, rfl⟩ | ⟨gp, cap, rfl, hown⟩
  · refine wpList_append_grows w rfl _ _ 22 rfl 9 i0 _ 1 16 Tryd.underlying22 hi hz0 hz1 hz2 rfl (by decide) ao 0 0 [] hs (fun _ => ⟨rfl, rfl⟩) rfl (fun _ _ j u hj => by cases hj) ⟨b, 0, none⟩ 1 1 [.string ⟨z.toArray⟩] hx rfl (World.news_of_block hl) (by simp [Value.oneCell']) (by decide) (by decide) (by decide) ?_
    intro v' w' ho hg
    obtain ⟨g2, c2, rfl, _⟩ := ho.form (by decide)
    refine h g2 c2 w' (.inr ⟨g2, c2, rfl, own_less ho hB⟩) ((Below.refl B w).grown hg hB (fun k hk => by cases hk)) (fun g t cs _ hl => hl.only hg (by simp))
  · refine wpL_append (P := Tryd.prog) B 9 i0 _ 16 Tryd.underlying22 hi hz0 hz1 hz2 rfl _ ps.length _ hown b (.string ⟨z.toArray⟩) hl rfl (by unfold maxLen; omega) (by omega) hB hs hx ?_
    intro g2 c2 w' ho hg
    have hlt := own_block hown
    refine h g2 c2 w' (.inr ⟨g2, c2, by rw [List.length_append]; rfl, ?_⟩) ((Below.refl B w).grown hg hB (fun k hk => by cases hk; exact hlt.1)) (fun g t cs ht hl => hl.only hg (fun e => own_far hown hl (Ne.symm ht) e.symm))
    rw [List.length_append, List.map_append]
    exact ho

theorem Own.only {w w' : World} {B g : Nat} {t : TypeId} {cs : Array Value} {v : Value} {ps : List (List UInt8)} (h : Own w B v ps) (hl : Lies w g t cs) (ht : t ≠ 9) (hO : Only g w w') : Own w' B v ps := by
  rcases h with ⟨a, rfl, rfl⟩ | ⟨gp, cap, rfl, h⟩
  · exact .inl ⟨a, rfl, rfl⟩
  · refine .inr ⟨gp, cap, rfl, own_grown h hO (fun g' hg' e => ?_)⟩
    have := own_far h hl (Ne.symm ht)
    rw [hg'] at this
    injection e with e
    exact this (by rw [e])

end Go.Proofs.YtpcckanhmdlahaaDoor.R

/- A region that draws its order and whose operations only read and call what only makes memory, guards and all: the steps of its one walk. Nothing of the program is named here. -/
namespace Go.Proofs.YtpcckanhmdlahaaDoor
open Go.Sort Go.RowKit

section
variable {P : Program} {w0 : World}
variable {ops : Array Oper} {Q : Act → Prop} {a : Act} {rest : List Oper} {t' : TypeId} {pos : String} {after : Array Edge} {gd : Option (Nat × Bool)}
/-! ### the same steps in the class of worlds that the kit's own quiet steps walk in -/
abbrev Rg (w0 : World) : World → Prop := fun w' => ∃ p : Regrown, w' = grow (redrawn w0 p.d) p.os
theorem Rg.below {w0 w : World} (h : Rg w0 w) : Below w0.heap.size w0 w := by obtain ⟨⟨d, os⟩, rfl⟩ := h; exact below_regrown w0 d os
end
end Go.Proofs.YtpcckanhmdlahaaDoor

/- Some operations may come behind a store that does not wait for them ('x, e := f(..)' into a block: the extract of e; 'return x, a && b': the pick): whatever comes of a region in which the store waits for them comes of the region as it is. Nothing of the program is named here. -/
namespace Go.Proofs.YtpcckanhmdlahaaDoor
open Go.Sort Go.RowKit

section
variable {P : Program} {Q : Exit → Act → World → Prop} {md : Region.Mode}

/-- what has come up has come up behind all that it waits for -/
structure Closed (md : Region.Mode) (ops : Array Oper) (listed : Array Bool) : Prop where
  size : listed.size = ops.size
  closed : ∀ k ok, ops[k]? = some ok → listed.getD k false = true → ∀ e ∈ ok.after, Region.binds md e = true → listed.getD e.on false = true
theorem Closed.set {ops : Array Oper} {listed : Array Bool} {i : Nat} (h : Closed md ops listed) (hr : i ∈ Region.ready md ops listed) : Closed md ops (listed.setIfInBounds i true) := by
  obtain ⟨hun, oi, hoi, hall⟩ := mem_ready.1 hr
  refine ⟨by simp [h.size], fun k ok hk hl e he hb => ?_⟩
  by_cases hki : k = i
  · subst hki
    obtain rfl : oi = ok := Option.some.inj (hoi.symm.trans hk)
    exact getD_set_true (hall e he hb)
  · rw [getD_set_ne false (Ne.symm hki)] at hl
    exact getD_set_true (h.closed k ok hk hl e he hb)
variable {l : List Oper} {i j : Nat}
end

/-! ### the regions' laws -/
/-- no panic -/
def Calm (Q : Exit → Act → World → Prop) : Exit → Act → World → Prop
  | .panic _, _, _ => False
  | e, a, w => Q e a w
theorem calm_then {K : Act → World → Prop} {Q : Exit → Act → World → Prop} : ∀ (e : Exit) (a : Act) (w : World), Exit.then K (Calm Q) e a w → Exit.then K Q e a w := fun e a w h => by
  cases e <;> first | exact h | exact (h : False).elim
theorem calm_panic {K : Act → World → Prop} {Q : Exit → Act → World → Prop} : ∀ c d v (a : Act) (w : World), Exit.then K (Calm Q) (.panic c) (a.put d v) w → Exit.then K (Calm Q) (.panic c) a w := fun _ _ _ _ _ h => (h : False).elim
end Go.Proofs.YtpcckanhmdlahaaDoor

/- A tree that goes on: the contract of the program's Add. -/
namespace Go.Proofs.YtpcckanhmdlahaaDoor.R
open Go.RowKit Go.Sort Go.Proofs.YtpcckanhmdlahaaDoor.U
set_option maxRecDepth 100000

theorem Own.form {w : World} {B : Nat} {v : Value} {ps : List (List UInt8)} (h : Own w B v ps) : ∃ a c, v = .slice a ps.length c := by
  rcases h with ⟨a, rfl, rfl⟩ | ⟨gp, cap, rfl, _⟩
  · exact ⟨a, 0, rfl⟩
  · exact ⟨_, _, rfl⟩
section
variable (n : Int) (v lv : Value) (ps l : List (List UInt8)) (w : World)
end

end Go.Proofs.YtpcckanhmdlahaaDoor.R

/- The contract of the statements' own call that takes few and short parts of a row. -/
namespace Go.Proofs.YtpcckanhmdlahaaDoor.R
open Go.RowKit Go.Sort Go.Proofs.YtpcckanhmdlahaaDoor.U

theorem own_form {w : World} {B : Nat} {e : TypeId} {v : Value} {n : Nat} {xs : List Value} (h : w.ownsRow B e 1 v n xs) : ∃ ao cap, v = .slice ao n cap := by
  rcases h.2 with ⟨rfl, h0⟩ | ⟨g, cap, cur, rfl, _⟩
  · exact ⟨none, 0, by rw [h0]⟩
  · exact ⟨some ⟨g, 0, none⟩, cap, rfl⟩
/-- the row while it is cut: the first k are -/
def mixL (l : List (List UInt8)) (k : Nat) : List Value := ((l.take k).map (·.take 40) ++ l.drop k).map str
theorem mixL_zero (l : List (List UInt8)) : mixL l 0 = l.map str := by simp [mixL]
theorem mixL_end (l : List (List UInt8)) : mixL l l.length = (l.map (·.take 40)).map str := by simp [mixL]
theorem mixL_at {l : List (List UInt8)} {k : Nat} {x : List UInt8} (h : l[k]? = some x) : (mixL l k)[k]? = some (str x) := by
  have hlt := (List.getElem?_eq_some_iff.1 h).1
  unfold mixL
  rw [List.getElem?_map, List.getElem?_append_right (by simp; omega)]
  simp [Nat.min_eq_left (Nat.le_of_lt hlt), h]
theorem mixL_set {l : List (List UInt8)} {k : Nat} {x : List UInt8} (h : l[k]? = some x) : (mixL l k).set k (str (x.take 40)) = mixL l (k + 1) := by
  have hlt := (List.getElem?_eq_some_iff.1 h).1
  have hd : l.drop k = x :: l.drop (k + 1) := by rw [List.drop_eq_getElem_cons hlt]; congr 1; exact (List.getElem?_eq_some_iff.1 h).2
  unfold mixL
  rw [hd, show l.take (k + 1) = l.take k ++ [x] by rw [List.take_add_one, h]; rfl, List.map_append, List.set_append_right _ _ (by simp; omega)]
  simp [Nat.min_eq_left (Nat.le_of_lt hlt)]

theorem cut_bytes (x : List UInt8) (m : Nat) (mi : Int) (h : mi = (m : Int)) : (⟨x.toArray⟩ : ByteArray).extract 0 (min (x.length : Int) mi).toNat = ⟨(x.take m).toArray⟩ := by
  subst h
  rw [Lib.extract_eq]
  by_cases h : x.length ≤ m
  · rw [show (min (x.length : Int) (m : Int)).toNat = x.length by omega]
    simp [List.take_of_length_le h]
  · rw [show (min (x.length : Int) (m : Int)).toNat = m by omega]
    simp
theorem cut_to (x : List UInt8) : Value.string (({ data := x.toArray } : ByteArray).extract 0 (min (x.length : Int) 40).toNat) = str (x.take 40) := by
  rw [cut_bytes x 40 40 rfl]
  rfl

end Go.Proofs.YtpcckanhmdlahaaDoor.R

/- The contract of the reference's Same: are two rows the same? -/
namespace Go.Proofs.YtpcckanhmdlahaaDoor.R
open Go.RowKit Go.Sort Go.Proofs.YtpcckanhmdlahaaDoor.U

set_option maxHeartbeats 800000 in
/-- are two rows the same? -/
theorem same_any (w : World) (v u : Value) (l m : List (List UInt8)) (hl : Strs w v l) (hm : Strs w u m) :
    Calls Tryd.prog 14 #[v, u] w fun e w' => e = .returned (.bool (decide (l = m))) ∧ Below w.heap.size w w' := by
  obtain ⟨a, c, rfl, hc, hcm, hn, hl⟩ := hl
  obtain ⟨a', c', rfl, hc', hcm', hn', hm⟩ := hm
  unfold maxLen at hcm hcm'
  by_cases hlen : l.length = m.length
  · have hne : ((l.length : Int) != (m.length : Int)) = false := by simp; omega
    have HL := Lib.hid hlen
    clear hlen
    go_enter Tryd.func14, Tryd.ntmps14
    go_wp2
    go_loopw [13] (fun i wr => ∃ k : Nat, k ≤ l.length ∧ i = .int .i64 k ∧ Hid (l.take k = m.take k) ∧ Below w.heap.size w wr) (fun i _ => l.length - (intOf i).toNat)
    case atStart => exact ⟨0, Nat.zero_le _, rfl, rfl, Below.refl _ _⟩
    case round =>
      obtain ⟨k, hk, rfl, HT, hb⟩ := hrel
      by_cases hlt : k < l.length
      · have hltm : k < m.length := by have := HL.out; omega
        obtain ⟨b, off, rfl, hcell⟩ := hl (by intro h; subst h; simp at hlt)
        obtain ⟨b', off', rfl, hcell'⟩ := hm (by intro h; subst h; simp at hltm)
        obtain ⟨x, hxk⟩ : ∃ x, l[k]? = some x := ⟨l[k], List.getElem?_eq_getElem hlt⟩
        obtain ⟨y, hyk⟩ : ∃ y, m[k]? = some y := ⟨m[k], List.getElem?_eq_getElem hltm⟩
        have g1 := hcell k x hxk
        have g2 := hcell' k y hyk
        have hc1 : wr.cell? ⟨b, off + k, none⟩ = some (.string ⟨x.toArray⟩) := (hb.cell (p := ⟨b, off + k, none⟩) (World.block_lt_of_cell? w _ g1)).trans g1
        have hc2 : wr.cell? ⟨b', off' + k, none⟩ = some (.string ⟨y.toArray⟩) := (hb.cell (p := ⟨b', off' + k, none⟩) (World.block_lt_of_cell? w _ g2)).trans g2
        have e0 : (0 : Int) ≤ (k : Int) := by omega
        have e1 : (k : Int) < (l.length : Int) := by omega
        have e2 : (k : Int) < (m.length : Int) := by omega
        have HX := Lib.hid hxk
        have HY := Lib.hid hyk
        clear hxk hyk hcell hcell' g1 g2 hl hm
        go_wp2_with fail
        go_quiet (fail)
        by_cases hxy : x = y
        · subst hxy
          go_wp2
          · rename_i h
            simp at h
          · go_roundw
            case rel => exact ⟨k + 1, by omega, by go_num, Lib.hid (by rw [List.take_add_one, List.take_add_one, HX.out, HY.out, HT.out]), below_drewN hb _⟩
            case measure => simp [intOf]; omega
        · have HN := Lib.hid (show decide (l = m) = false by simp; intro h; subst h; exact hxy (Option.some.inj (HX.out.symm.trans HY.out)))
          have HQ := Lib.hid hxy
          clear hxy
          go_wp2
          · go_ret
            exact ⟨ret1_of (by rw [HN.out]; rfl), below_drewN hb _⟩
          · rename_i h
            simp at h
            exact absurd h HQ.out
      · have HN := Lib.hid (show decide (l = m) = true by
          have h1 := HT.out
          rw [List.take_of_length_le (by omega), List.take_of_length_le (by have := HL.out; omega)] at h1
          simp [h1])
        go_wp2
        go_ret
        exact ⟨ret1_of (by rw [HN.out]; rfl), hb⟩
  · have hne : ((l.length : Int) != (m.length : Int)) = true := by simp; omega
    have hd : decide (l = m) = false := by simp; intro h; rw [h] at hlen; exact hlen rfl
    rw [hd]
    go_enter Tryd.func14, Tryd.ntmps14
    go_wp2
    go_ret
    exact ⟨rfl, Below.refl _ _⟩
end Go.Proofs.YtpcckanhmdlahaaDoor.R

/- The contracts of the statements' own calls: three leaves' root; a tree with few and short parts. -/
namespace Go.Proofs.YtpcckanhmdlahaaDoor.R
open Go.RowKit Go.Sort Go.Proofs.YtpcckanhmdlahaaDoor.U
set_option maxRecDepth 100000

theorem spl2 : spl 2 = 1 := spl_is (j := 0) (by decide) (by decide)
theorem toList_of (s : List UInt8) : (bytesOf s).toList = s := by rw [ByteArray.toList_eq]; rfl
theorem bytes_ne {s : List UInt8} (h : s.length = 32) : (bytesOf s).toList.isEmpty = false := by
  rw [toList_of]
  cases s with
  | nil => cases h
  | cons x s => rfl
end Go.Proofs.YtpcckanhmdlahaaDoor.R

/- Operations of a region that draws its order, taken one by one: what reads or reckons first, whatever comes. Nothing of the program is named here. -/
namespace Go.Proofs.YtpcckanhmdlahaaDoor
open Go.Sort Go.RowKit
/-! ### operations of a region that draws its order, taken one by one -/
section
variable {P : Program} {md : Region.Mode} {ops : Array Oper} {Q : Exit → Act → World → Prop} {S : World → Prop} {a : Act} {w w' : World}
theorem wpOp_val {i : Nat} {o : Oper} {v : Value} {K : Act → World → Prop} (hi : ops[i]? = some o) (hw : Region.wanted o (yielded ops a.tmps) = true) (hr : (execOp a.eval o).run P w = .ok (.value v) w') (h : K (a.put o.dst v) w') : wpOp P ops Q i K a w := by
  unfold Go.wpOp
  simp only [hi]
  simp only [hw, if_true, Oper.wp, hr, Oper.upon]
  exact .inl h
theorem wp_held_calm {id : Nat} {K : Act → World → Prop} {Q : Exit → Act → World → Prop} (n : Nat) (hn : ops.size = n) (hm : P.follows .mixedOrders = true)
    (h : wpAnyH P .any ops (Exit.then K (Calm Q)) S n (Array.replicate n false) a { w with drawn := w.drawn + 1 }) : (Code.region id ops true).wp P (Exit.then K Q) a w := by
  subst hn
  exact Code.wp_mono (Q := Exit.then K (Calm Q)) calm_then (wp_region_held hm h)
theorem held_done {K : Act → World → Prop} {Q : Exit → Act → World → Prop} {listed : Array Bool} {fuel : Nat} (hr : Region.ready md ops listed = []) (h : Exit.then K Q .normal a w) : wpAnyH P md ops (Exit.then K (Calm Q)) S fuel listed a w := wpAnyH_done hr (show Exit.then K (Calm Q) .normal a w from h) fuel
theorem held_take {K : Act → World → Prop} {Q : Exit → Act → World → Prop} {fuel : Nat} {listed : Array Bool} (i : Nat) (v : Value) {oi : Oper} (hi : ops[i]? = some oi) (hs : Region.noSelect ops = true) (hf : Region.free md ops listed i = true) (hr : (Region.ready md ops listed).contains i = true)
    (hw : Region.wanted oi (yielded ops a.tmps) = true) (hy : ∀ w, S w → (execOp a.eval oi).run P w = .ok (.value v) w) (hS : S w) (h : wpAnyH P md ops (Exit.then K (Calm Q)) S fuel (listed.setIfInBounds i true) (a.put oi.dst v) w) : wpAnyH P md ops (Exit.then K (Calm Q)) S (fuel + 1) listed a w :=
  wpAnyH_take hi hs hf hr (fun c a w h => calm_panic c _ _ a w h) (.inl ⟨hw, hy⟩) hS h
/-- .. with the slot said -/
theorem held_put {K : Act → World → Prop} {Q : Exit → Act → World → Prop} {fuel : Nat} {listed : Array Bool} (i : Nat) (d : Tmp) (v : Value) {oi : Oper} (hi : ops[i]? = some oi) (hd : oi.dst = some d) (hs : Region.noSelect ops = true) (hf : Region.free md ops listed i = true) (hr : (Region.ready md ops listed).contains i = true)
    (hw : Region.wanted oi (yielded ops a.tmps) = true) (hy : ∀ w, S w → (execOp a.eval oi).run P w = .ok (.value v) w) (hS : S w) (h : wpAnyH P md ops (Exit.then K (Calm Q)) S fuel (listed.setIfInBounds i true) ⟨a.tmps.setIfInBounds d v, a.defers⟩ w) : wpAnyH P md ops (Exit.then K (Calm Q)) S (fuel + 1) listed a w :=
  held_take i v hi hs hf hr hw hy hS (by rw [hd]; exact h)
theorem wpOp_put {i : Nat} {o : Oper} (d : Tmp) {v : Value} {K : Act → World → Prop} (hi : ops[i]? = some o) (hd : o.dst = some d) (hw : Region.wanted o (yielded ops a.tmps) = true) (hr : (execOp a.eval o).run P w = .ok (.value v) w') (h : K ⟨a.tmps.setIfInBounds d v, a.defers⟩ w') : wpOp P ops Q i K a w :=
  wpOp_val hi hw hr (by rw [hd]; exact h)
theorem held_one {fuel : Nat} {listed : Array Bool} (i : Nat) (hr : Region.ready md ops listed = [i]) (h : wpOp P ops Q i (fun a' w' => S w' ∧ wpAnyH P md ops Q S fuel (listed.setIfInBounds i true) a' w') a w) : wpAnyH P md ops Q S (fuel + 1) listed a w :=
  wpAnyH_all hr (by simp) (fun j hj => by rw [List.mem_singleton.1 hj]; exact h)
theorem held_two {fuel : Nat} {listed : Array Bool} (i j : Nat) (hr : Region.ready md ops listed = [i, j]) (h : wpOp P ops Q i (fun a' w' => S w' ∧ wpAnyH P md ops Q S fuel (listed.setIfInBounds i true) a' w') a w) (k : wpOp P ops Q j (fun a' w' => S w' ∧ wpAnyH P md ops Q S fuel (listed.setIfInBounds j true) a' w') a w) : wpAnyH P md ops Q S (fuel + 1) listed a w :=
  wpAnyH_all hr (by simp) (fun l hl => by
    simp only [List.mem_cons, List.not_mem_nil, or_false] at hl
    rcases hl with rfl | rfl
    · exact h
    · exact k)
theorem wpOp_call {i : Nat} {o : Oper} (d : Tmp) {f : FuncId} {args : Array Value} {K : Act → World → Prop} (hi : ops[i]? = some o) (hd : o.dst = some d) (hw : Region.wanted o (yielded ops a.tmps) = true) (hr : (execOp a.eval o).run P w = .ok (.enter f args) w) (h : Calls P f args w fun e w'' => ∃ v, e = .returned v ∧ K ⟨a.tmps.setIfInBounds d v, a.defers⟩ w'') : wpOp P ops Q i K a w := by
  unfold Go.wpOp
  simp only [hi]
  simp only [hw, if_true, Oper.wp, hr, Oper.upon]
  refine .inl (h.mono ?_)
  rintro e w'' ⟨v, rfl, hk⟩
  rw [hd]
  exact hk
end
end Go.Proofs.YtpcckanhmdlahaaDoor

/- Operations by themselves, for walks of regions that draw their order: texts, variables, leaves and trees that go on. -/
namespace Go.Proofs.YtpcckanhmdlahaaDoor.R
open Go.RowKit Go.Sort Go.Proofs.YtpcckanhmdlahaaDoor.U
set_option maxRecDepth 100000

section
variable {a : Act} {d : Option Tmp} {x y : Operand} {t' : TypeId} {pos : String} {after : Array Edge} {gd : Option (Nat × Bool)} {r : TypeId}
theorem run_lenS (s : List UInt8) (hx : a.eval x = .string (bytesOf s)) (w : World) :
    (execOp a.eval ⟨d, .call { callee := .builtin .len, args := #[x], argTypes := #[9] }, t', pos, after, gd⟩).run Tryd.prog w = .ok (.value (.int .i64 (s.length : Int))) w := by
  have hz : (bytesOf s).size = s.length := bytes_size s
  have hr : (Builtin.len_ #[9] t' #[.string (bytesOf s)]).run Tryd.prog w = .ok (.int .i64 (s.length : Int)) w := by simp [go_sem, hz]
  simp [execOp, resolve, invoke, builtin, hx, hr, Result.andThen]
theorem run_minI (n : Int) (m : Int) (hx : a.eval x = .int .i64 n) (w : World) :
    (execOp a.eval ⟨d, .call { callee := .builtin .min, args := #[x, .const (.int .i64 m)], argTypes := #[3, 3] }, t', pos, after, gd⟩).run Tryd.prog w = .ok (.value (.int .i64 (min n m))) w := by
  have h2 : a.eval (.const (.int .i64 m)) = .int .i64 m := rfl
  have hr : (Builtin.min_ #[3, 3] t' #[.int .i64 n, .int .i64 m]).run Tryd.prog w = .ok (.int .i64 (min n m)) w := by simp [go_sem]
  simp [execOp, resolve, invoke, builtin, hx, h2, hr, Result.andThen]
theorem run_cutS (s : List UInt8) (m : Nat) (hx : a.eval x = .string (bytesOf s)) (hy : a.eval y = .int .i64 (min (s.length : Int) (m : Int))) (w : World) :
    (execOp a.eval ⟨d, .slice 9 x none (some y) none, t', pos, after, gd⟩).run Tryd.prog w = .ok (.value (.string (bytesOf (s.take m)))) w := by
  have hc := cut_bytes s m m rfl
  have hz : (bytesOf s).size = s.length := bytes_size s
  have h1 : 0 ≤ min (s.length : Int) (m : Int) := by omega
  have h2 : min (s.length : Int) (m : Int) ≤ (s.length : Int) := by omega
  unfold execOp
  simp only [hx, hy, Option.map_some, Option.map_none]
  generalize min (s.length : Int) (m : Int) = q at *
  simp [Instr.sliceAt, run_underlying Tryd.underlying9, go_sem, hz, h1, h2]
  exact hc
end

/-! ### what is said -/
end Go.Proofs.YtpcckanhmdlahaaDoor.R

/- Laws for the walk of the statement of trees that go on from none: slices that are cut, ints that are copied; leaves of texts; what goes on from the parts of the first leaves. -/
namespace Go.Proofs.YtpcckanhmdlahaaDoor.R
open Go.RowKit Go.Sort Go.Proofs.YtpcckanhmdlahaaDoor.U
set_option maxRecDepth 100000

section
variable {a : Act} {d : Option Tmp} {x y z : Operand} {t' : TypeId} {pos : String} {after : Array Edge} {gd : Option (Nat × Bool)} {r : TypeId}
theorem run_headS (ao : Option Addr) (n c j : Nat) (hj : j ≤ c) (hA : (if c = 0 then ao else ao.map (·.add 0)) = ao) (hx : a.eval x = .slice ao n c) (hy : a.eval y = .int .i64 (j : Int)) (w : World) :
    (execOp a.eval ⟨d, .slice 22 x none (some y) none, t', pos, after, gd⟩).run Tryd.prog w = .ok (.value (.slice ao j c)) w := by
  have h : (execOp a.eval ⟨d, .slice 22 x none (some y) none, t', pos, after, gd⟩).run Tryd.prog w = .ok (.value (.slice (if c = 0 then ao else ao.map (·.add 0)) j c)) w := by
    unfold execOp
    simp only [hx, hy, Option.map_some, Option.map_none]
    simp [Instr.sliceAt, run_underlying Tryd.underlying22, go_sem]
    omega
  rw [hA] at h
  exact h
theorem run_neqS (s : ByteArray) (hx : a.eval x = .string s) (hy : a.eval y = .string s) (w : World) :
    (execOp a.eval ⟨d, .binOp .neq 9 x y r, t', pos, after, gd⟩).run Tryd.prog w = .ok (.value (.bool false)) w := by
  unfold execOp
  simp only [hx, hy]
  simp [go_sem]
end

/-- one operation whose run is known -/
theorem wpL_val {P : Program} {ops : Array Oper} {rest : List Oper} {a : Act} {w : World} {Q : Exit → Act → World → Prop} {o : Oper} {v : Value} (hg : o.guard = none) (hr : (execOp a.eval o).run P w = .ok (.value v) w) (h : wpList P ops Q rest (a.put o.dst v) w) : wpList P ops Q (o :: rest) a w := by
  refine wpList_plain hg fun K hK' => ?_
  have hK := hK' _ _ h
  unfold Oper.wp
  rw [hr]
  exact hK
def iv (z : Int) : Value := .int .i64 z
/-! ### leaves of texts -/
/-! ### the parts of the first leaves -/
theorem strs_cut {w : World} {ao : Option Addr} {n c : Nat} {l : List (List UInt8)} (h : Strs w (.slice ao n c) l) {i j : Nat} (hi : i ≤ j) (hj : j ≤ l.length) :
    Strs w (.slice (if c = i then ao else ao.map (·.add i)) (j - i) (c - i)) ((l.drop i).take (j - i)) := by
  have h2 := h
  obtain ⟨a', c', hv, hc, hm, hn, hl⟩ := h2
  injection hv with e1 e2 e3
  subst e1 e2 e3
  by_cases hl0 : l = []
  · subst hl0
    obtain rfl : j = 0 := by simpa using hj
    obtain rfl : i = 0 := by omega
    refine ⟨_, c, rfl, Nat.zero_le _, by simpa using hm, (fun e => ?_), fun e => absurd rfl e⟩
    by_cases hc0 : c = 0
    · exact hc0
    · rw [if_neg hc0] at e
      cases ao with
      | none => exact hn rfl
      | some ad => cases e
  · obtain ⟨b, off, rfl, _⟩ := hl hl0
    by_cases hc0 : c = i
    · subst hc0
      rw [if_pos rfl]
      have e : (l.drop c).take (j - c) = [] := by rw [List.drop_eq_nil_of_le (by omega), List.take_nil]
      rw [e]
      exact ⟨_, _, by rw [show j - c = 0 by omega]; rfl, Nat.zero_le _, by omega, (fun h => by cases h), fun h => absurd rfl h⟩
    · rw [if_neg hc0]
      have e : (some (⟨b, off, none⟩ : Addr)).map (·.add i) = some ⟨b, off + i, none⟩ := by
        show some (Addr.add ⟨b, off, none⟩ i) = _
        rw [Addr.add_mid]
      rw [e]
      exact strs_part h hi hj
theorem row_of {l : List (List UInt8)} (h1 : l.length ≤ 4096) (h2 : ∀ x ∈ l, x.length = 32) : rowB l = true := by
  unfold rowB
  rw [allB_of h2, decide_eq_true h1]
  rfl
end Go.Proofs.YtpcckanhmdlahaaDoor.R

/- Paths of leaves and steps of first leaves, as lists, from the top down; what they make; two unlike texts of one sum. Nothing of the program is named here. -/
namespace Go.Proofs.YtpcckanhmdlahaaDoor.Q
open Go.Proofs.YtpcckanhmdlahaaDoor.R

section
variable {α : Type} (nd : α → α → α) (e : α)

/-! ### paths and steps, the topmost sum first -/
def pathF : Nat → List α → Nat → List α
  | 0, _, _ => []
  | f + 1, l, i => if l.length ≤ 1 then [] else if i < spl l.length then rootL nd e (l.drop (spl l.length)) :: pathF f (l.take (spl l.length)) i else rootL nd e (l.take (spl l.length)) :: pathF f (l.drop (spl l.length)) (i - spl l.length)
theorem pathF_succ (f : Nat) (l : List α) (i : Nat) : pathF nd e (f + 1) l i = if l.length ≤ 1 then [] else if i < spl l.length then rootL nd e (l.drop (spl l.length)) :: pathF nd e f (l.take (spl l.length)) i else rootL nd e (l.take (spl l.length)) :: pathF nd e f (l.drop (spl l.length)) (i - spl l.length) := rfl
def pathT (l : List α) (i : Nat) : List α := pathF nd e l.length l i
theorem pathF_any : ∀ (f g : Nat) (l : List α) (i : Nat), l.length ≤ f → l.length ≤ g → pathF nd e f l i = pathF nd e g l i := by
  intro f
  induction f with
  | zero =>
    intro g l i hf _
    cases g with
    | zero => rfl
    | succ g => rw [pathF_succ, if_pos (by omega)]; rfl
  | succ f ih =>
    intro g l i hf hg
    cases g with
    | zero => rw [pathF_succ, if_pos (by omega)]; rfl
    | succ g =>
      rw [pathF_succ, pathF_succ]
      by_cases h1 : l.length ≤ 1
      · rw [if_pos h1, if_pos h1]
      · rw [if_neg h1, if_neg h1]
        have hs := spl_lt (n := l.length) (by omega)
        have hp := spl_pos l.length
        rw [ih g (l.take (spl l.length)) i (by rw [List.length_take]; omega) (by rw [List.length_take]; omega), ih g (l.drop (spl l.length)) _ (by rw [List.length_drop]; omega) (by rw [List.length_drop]; omega)]
theorem pathT_one {l : List α} (h : l.length ≤ 1) (i : Nat) : pathT nd e l i = [] := by
  unfold pathT
  cases hl : l.length with
  | zero => rfl
  | succ f => rw [pathF_succ, if_pos h]
theorem pathT_two {l : List α} (h : 2 ≤ l.length) (i : Nat) : pathT nd e l i = if i < spl l.length then rootL nd e (l.drop (spl l.length)) :: pathT nd e (l.take (spl l.length)) i else rootL nd e (l.take (spl l.length)) :: pathT nd e (l.drop (spl l.length)) (i - spl l.length) := by
  have hs := spl_lt h
  have hp := spl_pos l.length
  unfold pathT
  rw [pathF_any nd e l.length (l.length - 1 + 1) l i (Nat.le_refl _) (by omega), pathF_succ, if_neg (by omega)]
  rw [pathF_any nd e (l.length - 1) (l.take (spl l.length)).length (l.take (spl l.length)) i (by rw [List.length_take]; omega) (Nat.le_refl _)]
  rw [pathF_any nd e (l.length - 1) (l.drop (spl l.length)).length (l.drop (spl l.length)) _ (by rw [List.length_drop]; omega) (Nat.le_refl _)]

def stepF : Nat → List α → Nat → Bool → List α
  | 0, _, _, _ => []
  | f + 1, l, m, b => if m = l.length then (if b then [] else [rootL nd e l]) else if m ≤ spl l.length then rootL nd e (l.drop (spl l.length)) :: stepF f (l.take (spl l.length)) m b else rootL nd e (l.take (spl l.length)) :: stepF f (l.drop (spl l.length)) (m - spl l.length) false
theorem stepF_succ (f : Nat) (l : List α) (m : Nat) (b : Bool) : stepF nd e (f + 1) l m b = if m = l.length then (if b then [] else [rootL nd e l]) else if m ≤ spl l.length then rootL nd e (l.drop (spl l.length)) :: stepF nd e f (l.take (spl l.length)) m b else rootL nd e (l.take (spl l.length)) :: stepF nd e f (l.drop (spl l.length)) (m - spl l.length) false := rfl
def stepT (l : List α) (m : Nat) (b : Bool) : List α := stepF nd e l.length l m b
theorem stepF_any : ∀ (f g : Nat) (l : List α) (m : Nat) (b : Bool), 1 ≤ m → m ≤ l.length → l.length ≤ f → l.length ≤ g → stepF nd e f l m b = stepF nd e g l m b := by
  intro f
  induction f with
  | zero =>
    intro g l m b h1 h2 hf _
    omega
  | succ f ih =>
    intro g l m b h1 h2 hf hg
    cases g with
    | zero => omega
    | succ g =>
      rw [stepF_succ, stepF_succ]
      by_cases hm : m = l.length
      · rw [if_pos hm, if_pos hm]
      · rw [if_neg hm, if_neg hm]
        have hs := spl_lt (n := l.length) (by omega)
        have hp := spl_pos l.length
        by_cases hk : m ≤ spl l.length
        · rw [if_pos hk, if_pos hk, ih g (l.take (spl l.length)) m b h1 (by rw [List.length_take]; omega) (by rw [List.length_take]; omega) (by rw [List.length_take]; omega)]
        · rw [if_neg hk, if_neg hk, ih g (l.drop (spl l.length)) _ false (by omega) (by rw [List.length_drop]; omega) (by rw [List.length_drop]; omega) (by rw [List.length_drop]; omega)]
theorem stepT_all {l : List α} (h : 1 ≤ l.length) (b : Bool) : stepT nd e l l.length b = if b then [] else [rootL nd e l] := by
  unfold stepT
  obtain ⟨f, hf⟩ : ∃ f, l.length = f + 1 := ⟨l.length - 1, by omega⟩
  rw [hf, stepF_succ, if_pos hf.symm]
theorem stepT_less {l : List α} {m : Nat} (h1 : 1 ≤ m) (h2 : m < l.length) (b : Bool) : stepT nd e l m b = if m ≤ spl l.length then rootL nd e (l.drop (spl l.length)) :: stepT nd e (l.take (spl l.length)) m b else rootL nd e (l.take (spl l.length)) :: stepT nd e (l.drop (spl l.length)) (m - spl l.length) false := by
  have hs := spl_lt (n := l.length) (by omega)
  have hp := spl_pos l.length
  unfold stepT
  rw [stepF_any nd e l.length (l.length - 1 + 1) l m b h1 (by omega) (Nat.le_refl _) (by omega), stepF_succ, if_neg (by omega)]
  by_cases hk : m ≤ spl l.length
  · rw [if_pos hk, if_pos hk, stepF_any nd e (l.length - 1) (l.take (spl l.length)).length _ m b h1 (by rw [List.length_take]; omega) (by rw [List.length_take]; omega) (Nat.le_refl _)]
  · rw [if_neg hk, if_neg hk, stepF_any nd e (l.length - 1) (l.drop (spl l.length)).length _ _ false (by omega) (by rw [List.length_drop]; omega) (by rw [List.length_drop]; omega) (Nat.le_refl _)]

/-! ### what a path makes -/
/-- the topmost sum first -/
def mkP (x : α) : List α → Nat → Nat → Option α
  | [], _, n => if n = 1 then some x else none
  | p :: r, i, n => if n = 1 then none else if i < spl n then (mkP x r i (spl n)).map (fun s => nd s p) else (mkP x r (i - spl n) (n - spl n)).map (fun s => nd p s)
theorem mkP_nil (x : α) (i n : Nat) : mkP nd x [] i n = if n = 1 then some x else none := rfl
theorem mkP_cons (x p : α) (r : List α) (i n : Nat) : mkP nd x (p :: r) i n = if n = 1 then none else if i < spl n then (mkP nd x r i (spl n)).map (fun s => nd s p) else (mkP nd x r (i - spl n) (n - spl n)).map (fun s => nd p s) := rfl
/-- a leaf's path makes the root -/
theorem mkP_path : ∀ (f : Nat) (l : List α) (i : Nat) (x : α), l.length ≤ f → l[i]? = some x → mkP nd x (pathT nd e l i) i l.length = some (rootL nd e l) := by
  intro f
  induction f with
  | zero =>
    intro l i x h hx
    have := (List.getElem?_eq_some_iff.1 hx).1
    omega
  | succ f ih =>
    intro l i x h hx
    have hi := (List.getElem?_eq_some_iff.1 hx).1
    by_cases h1 : l.length ≤ 1
    · obtain ⟨y, rfl⟩ : ∃ y, l = [y] := by
        match l, hi, h1 with
        | [y], _, _ => exact ⟨y, rfl⟩
      obtain rfl : i = 0 := by simp at hi; exact hi
      obtain rfl : y = x := by simpa using hx
      rw [pathT_one nd e (Nat.le_refl _), mkP_nil, if_pos (show [y].length = 1 from rfl), rootL_one]
    · have hs := spl_lt (n := l.length) (by omega)
      have hp := spl_pos l.length
      have hlt : (l.take (spl l.length)).length = spl l.length := by rw [List.length_take]; omega
      have hld : (l.drop (spl l.length)).length = l.length - spl l.length := by rw [List.length_drop]
      rw [pathT_two nd e (by omega)]
      by_cases hk : i < spl l.length
      · rw [if_pos hk, mkP_cons, if_neg (by omega), if_pos hk]
        have h2 := ih (l.take (spl l.length)) i x (by omega) (by rw [List.getElem?_take, if_pos hk]; exact hx)
        rw [hlt] at h2
        rw [h2, rootL_two nd e (l := l) (by omega)]
        rfl
      · rw [if_neg hk, mkP_cons, if_neg (by omega), if_neg hk]
        have h2 := ih (l.drop (spl l.length)) (i - spl l.length) x (by omega) (by rw [List.getElem?_drop, show spl l.length + (i - spl l.length) = i by omega]; exact hx)
        rw [hld] at h2
        rw [h2, rootL_two nd e (l := l) (by omega)]
        rfl
/-- how deep a leaf is -/
def deepF : Nat → Nat → Nat → Nat
  | 0, _, _ => 0
  | f + 1, i, n => if n ≤ 1 then 0 else if i < spl n then deepF f i (spl n) + 1 else deepF f (i - spl n) (n - spl n) + 1
theorem deepF_succ (f i n : Nat) : deepF (f + 1) i n = if n ≤ 1 then 0 else if i < spl n then deepF f i (spl n) + 1 else deepF f (i - spl n) (n - spl n) + 1 := rfl
theorem deepF_any : ∀ (f g i n : Nat), n ≤ f → n ≤ g → deepF f i n = deepF g i n := by
  intro f
  induction f with
  | zero =>
    intro g i n hf _
    cases g with
    | zero => rfl
    | succ g => rw [deepF_succ, if_pos (by omega)]; rfl
  | succ f ih =>
    intro g i n hf hg
    cases g with
    | zero => rw [deepF_succ, if_pos (by omega)]; rfl
    | succ g =>
      rw [deepF_succ, deepF_succ]
      by_cases h1 : n ≤ 1
      · rw [if_pos h1, if_pos h1]
      · rw [if_neg h1, if_neg h1]
        have hs := spl_lt (n := n) (by omega)
        have hp := spl_pos n
        rw [ih g i (spl n) (by omega) (by omega), ih g (i - spl n) (n - spl n) (by omega) (by omega)]
def deep (i n : Nat) : Nat := deepF n i n
theorem deep_one {n : Nat} (h : n ≤ 1) (i : Nat) : deep i n = 0 := by
  unfold deep
  cases n with
  | zero => rfl
  | succ n => rw [deepF_succ, if_pos h]
theorem deep_two {n : Nat} (h : 2 ≤ n) (i : Nat) : deep i n = if i < spl n then deep i (spl n) + 1 else deep (i - spl n) (n - spl n) + 1 := by
  have hs := spl_lt h
  have hp := spl_pos n
  unfold deep
  rw [deepF_any n (n - 1 + 1) i n (Nat.le_refl _) (by omega), deepF_succ, if_neg (by omega), deepF_any (n - 1) (spl n) i (spl n) (by omega) (Nat.le_refl _), deepF_any (n - 1) (n - spl n) _ (n - spl n) (by omega) (Nat.le_refl _)]
theorem pathT_length : ∀ (f : Nat) (l : List α) (i : Nat), l.length ≤ f → (pathT nd e l i).length = deep i l.length := by
  intro f
  induction f with
  | zero =>
    intro l i h
    rw [pathT_one nd e (by omega), deep_one (by omega)]
    rfl
  | succ f ih =>
    intro l i h
    by_cases h1 : l.length ≤ 1
    · rw [pathT_one nd e h1, deep_one h1]
      rfl
    · have hs := spl_lt (n := l.length) (by omega)
      have hp := spl_pos l.length
      rw [pathT_two nd e (by omega), deep_two (by omega)]
      by_cases hk : i < spl l.length
      · rw [if_pos hk, if_pos hk, List.length_cons, ih _ _ (by rw [List.length_take]; omega), List.length_take, Nat.min_eq_left (by omega)]
      · rw [if_neg hk, if_neg hk, List.length_cons, ih _ _ (by rw [List.length_drop]; omega), List.length_drop]
theorem pathT_le : ∀ (f : Nat) (l : List α) (i : Nat), l.length ≤ f → (pathT nd e l i).length ≤ l.length := by
  intro f
  induction f with
  | zero => intro l i h; rw [pathT_one nd e (by omega)]; exact Nat.zero_le _
  | succ f ih =>
    intro l i h
    by_cases h1 : l.length ≤ 1
    · rw [pathT_one nd e h1]; exact Nat.zero_le _
    · have hs := spl_lt (n := l.length) (by omega)
      have hp := spl_pos l.length
      have i1 := ih (l.take (spl l.length)) i (by rw [List.length_take]; omega)
      have i2 := ih (l.drop (spl l.length)) (i - spl l.length) (by rw [List.length_drop]; omega)
      rw [List.length_take] at i1
      rw [List.length_drop] at i2
      rw [pathT_two nd e (by omega)]
      split <;> rw [List.length_cons] <;> omega
theorem stepT_le : ∀ (f : Nat) (l : List α) (m : Nat) (b : Bool), l.length ≤ f → 1 ≤ m → m ≤ l.length → (stepT nd e l m b).length ≤ l.length := by
  intro f
  induction f with
  | zero => intro l m b h h1 h2; omega
  | succ f ih =>
    intro l m b h h1 h2
    by_cases hm : m = l.length
    · subst hm
      rw [stepT_all nd e h1]
      cases b <;> simp <;> omega
    · have hs := spl_lt (n := l.length) (by omega)
      have hp := spl_pos l.length
      rw [stepT_less nd e h1 (by omega)]
      by_cases hk : m ≤ spl l.length
      · have i1 := ih (l.take (spl l.length)) m b (by rw [List.length_take]; omega) h1 (by rw [List.length_take]; omega)
        rw [List.length_take] at i1
        rw [if_pos hk, List.length_cons]
        omega
      · have i2 := ih (l.drop (spl l.length)) (m - spl l.length) false (by rw [List.length_drop]; omega) (by omega) (by rw [List.length_drop]; omega)
        rw [List.length_drop] at i2
        rw [if_neg hk, List.length_cons]
        omega
/-- a path makes something just if it has as many sums as the leaf is deep -/
theorem mkP_some : ∀ (r : List α) (x : α) (i n : Nat), 1 ≤ n → ((mkP nd x r i n).isSome ↔ r.length = deep i n) := by
  intro r
  induction r with
  | nil =>
    intro x i n h
    rw [mkP_nil]
    by_cases h1 : n = 1
    · rw [if_pos h1, deep_one (by omega)]
      simp
    · rw [if_neg h1, deep_two (by omega)]
      split <;> simp
  | cons p r ih =>
    intro x i n h
    rw [mkP_cons]
    by_cases h1 : n = 1
    · rw [if_pos h1, deep_one (by omega)]
      simp
    · have hs := spl_lt (n := n) (by omega)
      have hp := spl_pos n
      rw [if_neg h1, deep_two (by omega)]
      by_cases hk : i < spl n
      · rw [if_pos hk, if_pos hk, Option.isSome_map, ih x i (spl n) hp, List.length_cons]
        omega
      · rw [if_neg hk, if_neg hk, Option.isSome_map, ih x _ (n - spl n) (by omega), List.length_cons]
        omega

/-! ### what a step makes -/
def endS (old : α) (r : List α) (b : Bool) : Option α := match b with
  | true => match r with
    | [] => some old
    | _ :: _ => none
  | false => match r with
    | [] => none
    | y :: s => match s with
      | [] => some y
      | _ :: _ => none
def oldS (old : α) : List α → Nat → Nat → Bool → Option α
  | [], m, n, b => if m = n then endS old [] b else none
  | p :: r, m, n, b => if m = n then endS old (p :: r) b else if m ≤ spl n then oldS old r m (spl n) b else (oldS old r (m - spl n) (n - spl n) false).map (fun s => nd p s)
def newS (old : α) : List α → Nat → Nat → Bool → Option α
  | [], m, n, b => if m = n then endS old [] b else none
  | p :: r, m, n, b => if m = n then endS old (p :: r) b else if m ≤ spl n then (newS old r m (spl n) b).map (fun s => nd s p) else (newS old r (m - spl n) (n - spl n) false).map (fun s => nd p s)
theorem oldS_cons (old p : α) (r : List α) (m n : Nat) (b : Bool) : oldS nd old (p :: r) m n b = if m = n then endS old (p :: r) b else if m ≤ spl n then oldS nd old r m (spl n) b else (oldS nd old r (m - spl n) (n - spl n) false).map (fun s => nd p s) := rfl
theorem newS_cons (old p : α) (r : List α) (m n : Nat) (b : Bool) : newS nd old (p :: r) m n b = if m = n then endS old (p :: r) b else if m ≤ spl n then (newS nd old r m (spl n) b).map (fun s => nd s p) else (newS nd old r (m - spl n) (n - spl n) false).map (fun s => nd p s) := rfl
theorem oldS_all (old : α) (r : List α) (n : Nat) (b : Bool) : oldS nd old r n n b = endS old r b := by
  cases r with
  | nil => show (if n = n then _ else _) = _; rw [if_pos rfl]
  | cons p r => rw [oldS_cons, if_pos rfl]
theorem newS_all (old : α) (r : List α) (n : Nat) (b : Bool) : newS nd old r n n b = endS old r b := by
  cases r with
  | nil => show (if n = n then _ else _) = _; rw [if_pos rfl]
  | cons p r => rw [newS_cons, if_pos rfl]
/-- a step from the first ones makes their root, and that of all -/
theorem step_makes : ∀ (f : Nat) (l : List α) (m : Nat) (b : Bool) (old : α), l.length ≤ f → 1 ≤ m → m ≤ l.length → (b = true → old = rootL nd e (l.take m)) → oldS nd old (stepT nd e l m b) m l.length b = some (rootL nd e (l.take m)) ∧ newS nd old (stepT nd e l m b) m l.length b = some (rootL nd e l) := by
  intro f
  induction f with
  | zero => intro l m b old h h1 h2 _; omega
  | succ f ih =>
    intro l m b old h h1 h2 ho
    by_cases hm : m = l.length
    · subst hm
      rw [oldS_all, newS_all, stepT_all nd e h1, List.take_length]
      cases b with
      | true =>
        have := ho rfl
        rw [List.take_length] at this
        subst this
        exact ⟨rfl, rfl⟩
      | false => exact ⟨rfl, rfl⟩
    · have hs := spl_lt (n := l.length) (by omega)
      have hp := spl_pos l.length
      have hl2 := le_spl l.length
      have hlt : (l.take (spl l.length)).length = spl l.length := by rw [List.length_take]; omega
      have hld : (l.drop (spl l.length)).length = l.length - spl l.length := by rw [List.length_drop]
      rw [stepT_less nd e h1 (by omega)]
      by_cases hk : m ≤ spl l.length
      · have e1 : (l.take (spl l.length)).take m = l.take m := by rw [List.take_take, Nat.min_eq_left hk]
        obtain ⟨i1, i2⟩ := ih (l.take (spl l.length)) m b old (by omega) h1 (by omega) (by rw [e1]; exact ho)
        rw [hlt] at i1 i2
        rw [if_pos hk, oldS_cons, newS_cons, if_neg hm, if_neg hm, if_pos hk, if_pos hk, i1, i2, e1, rootL_two nd e (l := l) (by omega)]
        exact ⟨rfl, rfl⟩
      · obtain ⟨i1, i2⟩ := ih (l.drop (spl l.length)) (m - spl l.length) false old (by omega) (by omega) (by omega) (by intro h; cases h)
        rw [hld] at i1 i2
        have hsm : spl m = spl l.length := by unfold spl at *; exact spl_is (j := (l.length - 1).log2) (by omega) (by omega)
        have e1 : rootL nd e (l.take m) = nd (rootL nd e (l.take (spl l.length))) (rootL nd e ((l.drop (spl l.length)).take (m - spl l.length))) := by
          rw [rootL_two nd e (l := l.take m) (by rw [List.length_take]; omega), List.length_take, Nat.min_eq_left h2, hsm, List.take_take, Nat.min_eq_left (by omega), List.drop_take]
        rw [if_neg hk, oldS_cons, newS_cons, if_neg hm, if_neg hm, if_neg hk, if_neg hk, i1, i2, e1, rootL_two nd e (l := l) (by omega)]
        exact ⟨rfl, rfl⟩
/-- steps that make something at the same places have the same length -/
theorem oldS_length : ∀ (r r' : List α) (m n : Nat) (b : Bool) (old old' : α), (oldS nd old r m n b).isSome → (oldS nd old' r' m n b).isSome → r.length = r'.length := by
  intro r
  induction r with
  | nil =>
    intro r' m n b old old' h h'
    by_cases hm : m = n
    · subst hm
      rw [oldS_all] at h h'
      cases b with
      | true =>
        cases r' with
        | nil => rfl
        | cons p r' => cases h'
      | false => cases h
    · have : oldS nd old [] m n b = none := by show (if m = n then _ else _) = _; rw [if_neg hm]
      rw [this] at h
      cases h
  | cons p r ih =>
    intro r' m n b old old' h h'
    by_cases hm : m = n
    · subst hm
      rw [oldS_all] at h h'
      cases b with
      | true => cases h
      | false =>
        cases r with
        | cons q r => cases h
        | nil =>
          cases r' with
          | nil => cases h'
          | cons p' r' =>
            cases r' with
            | nil => rfl
            | cons q' r' => cases h'
    · cases r' with
      | nil =>
        have : oldS nd old' [] m n b = none := by show (if m = n then _ else _) = _; rw [if_neg hm]
        rw [this] at h'
        cases h'
      | cons p' r' =>
        rw [oldS_cons, if_neg hm] at h h'
        rw [List.length_cons, List.length_cons]
        by_cases hk : m ≤ spl n
        · rw [if_pos hk] at h h'
          rw [ih r' m (spl n) b old old' h h']
        · rw [if_neg hk, Option.isSome_map] at h h'
          rw [ih r' _ _ _ old old' h h']
end

/-! ### two unlike texts of one sum -/
section
variable {α : Type} (nd : α → α → α)
/-- both sums of each node that a path makes, from the topmost one down -/
def prs (x : α) : List α → Nat → Nat → List (α × α)
  | [], _, _ => []
  | p :: r, i, n => if n = 1 then [] else if i < spl n then (match mkP nd x r i (spl n) with | some s => (s, p) :: prs x r i (spl n) | none => []) else (match mkP nd x r (i - spl n) (n - spl n) with | some s => (p, s) :: prs x r (i - spl n) (n - spl n) | none => [])
theorem prs_left {x p s : α} {r : List α} {i n : Nat} (h1 : n ≠ 1) (hk : i < spl n) (hs : mkP nd x r i (spl n) = some s) : prs nd x (p :: r) i n = (s, p) :: prs nd x r i (spl n) := by
  show (if n = 1 then _ else _) = _
  rw [if_neg h1, if_pos hk, hs]
theorem prs_right {x p s : α} {r : List α} {i n : Nat} (h1 : n ≠ 1) (hk : ¬ i < spl n) (hs : mkP nd x r (i - spl n) (n - spl n) = some s) : prs nd x (p :: r) i n = (p, s) :: prs nd x r (i - spl n) (n - spl n) := by
  show (if n = 1 then _ else _) = _
  rw [if_neg h1, if_neg hk, hs]
/-- where paths of unlike leaves make one root there are a first two nodes that are unlike, and they have one sum -/
theorem clash_is : ∀ (r r' : List α) (x y : α) (i n : Nat) (s : α), x ≠ y → mkP nd x r i n = some s → mkP nd y r' i n = some s →
    ∃ (j : Nat) (u v : α × α), (prs nd x r i n)[j]? = some u ∧ (prs nd y r' i n)[j]? = some v ∧ u ≠ v ∧ nd u.1 u.2 = nd v.1 v.2 ∧ ∀ k, k < j → (prs nd x r i n)[k]? = (prs nd y r' i n)[k]? := by
  intro r
  induction r with
  | nil =>
    intro r' x y i n s hxy h h'
    rw [mkP_nil] at h
    by_cases h1 : n = 1
    · rw [if_pos h1] at h
      cases r' with
      | nil =>
        rw [mkP_nil, if_pos h1] at h'
        exact absurd ((Option.some.inj h).trans (Option.some.inj h').symm) hxy
      | cons p r' => rw [mkP_cons, if_pos h1] at h'; cases h'
    · rw [if_neg h1] at h; cases h
  | cons p r ih =>
    intro r' x y i n s hxy h h'
    rw [mkP_cons] at h
    by_cases h1 : n = 1
    · rw [if_pos h1] at h; cases h
    · cases r' with
      | nil => rw [mkP_nil, if_neg h1] at h'; cases h'
      | cons p' r' =>
        rw [mkP_cons] at h'
        rw [if_neg h1] at h h'
        by_cases hk : i < spl n
        · rw [if_pos hk] at h h'
          obtain ⟨a, ha, hs⟩ := Option.map_eq_some_iff.1 h
          obtain ⟨c, hc, hs'⟩ := Option.map_eq_some_iff.1 h'
          rw [prs_left nd h1 hk ha, prs_left nd h1 hk hc]
          by_cases he : ((a, p) : α × α) = (c, p')
          · injection he with e1 e2
            subst e1
            obtain ⟨j, u, v, g1, g2, g3, g4, g5⟩ := ih r' x y i (spl n) a hxy ha hc
            exact ⟨j + 1, u, v, g1, g2, g3, g4, fun k hkj => by
              cases k with
              | zero => rw [e2]; rfl
              | succ k => exact g5 k (by omega)⟩
          · exact ⟨0, (a, p), (c, p'), rfl, rfl, he, hs.trans hs'.symm, fun k hk => by omega⟩
        · rw [if_neg hk] at h h'
          obtain ⟨a, ha, hs⟩ := Option.map_eq_some_iff.1 h
          obtain ⟨c, hc, hs'⟩ := Option.map_eq_some_iff.1 h'
          rw [prs_right nd h1 hk ha, prs_right nd h1 hk hc]
          by_cases he : ((p, a) : α × α) = (p', c)
          · injection he with e1 e2
            subst e2
            obtain ⟨j, u, v, g1, g2, g3, g4, g5⟩ := ih r' x y _ (n - spl n) a hxy ha hc
            exact ⟨j + 1, u, v, g1, g2, g3, g4, fun k hkj => by
              cases k with
              | zero => rw [e1]; rfl
              | succ k => exact g5 k (by omega)⟩
          · exact ⟨0, (p, a), (p', c), rfl, rfl, he, hs.trans hs'.symm, fun k hk => by omega⟩
end

end Go.Proofs.YtpcckanhmdlahaaDoor.Q

/- On which side each sum of a path stands, from the top down and by bits from the leaf up. Nothing of the program is named here. -/
namespace Go.Proofs.YtpcckanhmdlahaaDoor.Q
open Go.Proofs.YtpcckanhmdlahaaDoor.R

/-- on which side the sums of a path stand, the topmost first: true is the left one -/
def sideF : Nat → Nat → Nat → List Bool
  | 0, _, _ => []
  | f + 1, i, n => if n ≤ 1 then [] else if i < spl n then false :: sideF f i (spl n) else true :: sideF f (i - spl n) (n - spl n)
theorem sideF_succ (f i n : Nat) : sideF (f + 1) i n = if n ≤ 1 then [] else if i < spl n then false :: sideF f i (spl n) else true :: sideF f (i - spl n) (n - spl n) := rfl
theorem sideF_any : ∀ (f g i n : Nat), n ≤ f → n ≤ g → sideF f i n = sideF g i n := by
  intro f
  induction f with
  | zero =>
    intro g i n hf _
    cases g with
    | zero => rfl
    | succ g => rw [sideF_succ, if_pos (by omega)]; rfl
  | succ f ih =>
    intro g i n hf hg
    cases g with
    | zero => rw [sideF_succ, if_pos (by omega)]; rfl
    | succ g =>
      rw [sideF_succ, sideF_succ]
      by_cases h1 : n ≤ 1
      · rw [if_pos h1, if_pos h1]
      · rw [if_neg h1, if_neg h1]
        have hs := spl_lt (n := n) (by omega)
        have hp := spl_pos n
        rw [ih g i (spl n) (by omega) (by omega), ih g (i - spl n) (n - spl n) (by omega) (by omega)]
def sideT (i n : Nat) : List Bool := sideF n i n
theorem sideT_one {n : Nat} (h : n ≤ 1) (i : Nat) : sideT i n = [] := by
  unfold sideT
  cases n with
  | zero => rfl
  | succ n => rw [sideF_succ, if_pos h]
theorem sideT_two {n : Nat} (h : 2 ≤ n) (i : Nat) : sideT i n = if i < spl n then false :: sideT i (spl n) else true :: sideT (i - spl n) (n - spl n) := by
  have hs := spl_lt h
  have hp := spl_pos n
  unfold sideT
  rw [sideF_any n (n - 1 + 1) i n (Nat.le_refl _) (by omega), sideF_succ, if_neg (by omega), sideF_any (n - 1) (spl n) i (spl n) (by omega) (Nat.le_refl _), sideF_any (n - 1) (n - spl n) _ (n - spl n) (by omega) (Nat.le_refl _)]
/-! ### by bits, the lowest first; s is the last place -/
def bitF : Nat → Nat → Nat → List Bool
  | 0, _, _ => []
  | f + 1, i, s => if s = 0 then [] else if i % 2 = 1 then true :: bitF f (i / 2) (s / 2) else if i < s then false :: bitF f (i / 2) (s / 2) else bitF f (i / 2) (s / 2)
theorem bitF_succ (f i s : Nat) : bitF (f + 1) i s = if s = 0 then [] else if i % 2 = 1 then true :: bitF f (i / 2) (s / 2) else if i < s then false :: bitF f (i / 2) (s / 2) else bitF f (i / 2) (s / 2) := rfl
theorem bitF_any : ∀ (f g i s : Nat), s ≤ f → s ≤ g → bitF f i s = bitF g i s := by
  intro f
  induction f with
  | zero =>
    intro g i s hf _
    obtain rfl : s = 0 := by omega
    cases g with
    | zero => rfl
    | succ g => rw [bitF_succ, if_pos rfl]; rfl
  | succ f ih =>
    intro g i s hf hg
    cases g with
    | zero =>
      obtain rfl : s = 0 := by omega
      rw [bitF_succ, if_pos rfl]; rfl
    | succ g =>
      rw [bitF_succ, bitF_succ]
      by_cases h0 : s = 0
      · rw [if_pos h0, if_pos h0]
      · rw [if_neg h0, if_neg h0, ih g (i / 2) (s / 2) (by omega) (by omega)]
def bits (i s : Nat) : List Bool := bitF s i s
theorem bits_zero (i : Nat) : bits i 0 = [] := rfl
theorem bits_two {s : Nat} (h : 0 < s) (i : Nat) : bits i s = if i % 2 = 1 then true :: bits (i / 2) (s / 2) else if i < s then false :: bits (i / 2) (s / 2) else bits (i / 2) (s / 2) := by
  unfold bits
  rw [bitF_any s (s - 1 + 1) i s (Nat.le_refl _) (by omega), bitF_succ, if_neg (by omega), bitF_any (s - 1) (s / 2) (i / 2) (s / 2) (by omega) (Nat.le_refl _)]
theorem bits_odd {i s : Nat} (h : i % 2 = 1) (hi : i ≤ s) : bits i s = true :: bits (i / 2) (s / 2) := by rw [bits_two (by omega), if_pos h]
theorem bits_even {i s : Nat} (h : i % 2 = 0) (hi : i < s) : bits i s = false :: bits (i / 2) (s / 2) := by rw [bits_two (by omega), if_neg (by omega), if_pos hi]
theorem bits_last {i s : Nat} (h : i % 2 = 0) (hi : i = s) : bits i s = bits (i / 2) (s / 2) := by
  subst hi
  rcases Nat.eq_zero_or_pos i with h0 | h0
  · subst h0; rfl
  · rw [bits_two h0, if_neg (by omega), if_neg (by omega)]
/-- the place in the first half, the last one in the second -/
theorem bits_low : ∀ (j i s : Nat), i < 2 ^ j → 2 ^ j ≤ s → s < 2 * 2 ^ j → bits i s = bits i (2 ^ j - 1) ++ [false] := by
  intro j
  induction j with
  | zero =>
    intro i s hi h1 h2
    obtain rfl : i = 0 := by simpa using hi
    obtain rfl : s = 1 := by simp at h1 h2; omega
    rfl
  | succ j ih =>
    intro i s hi h1 h2
    rw [Nat.pow_succ] at hi h1 h2
    have hp := Nat.pow_pos (n := j) (show 0 < 2 by decide)
    have h3 := ih (i / 2) (s / 2) (by omega) (by omega) (by omega)
    have e : (2 ^ (j + 1) - 1) / 2 = 2 ^ j - 1 := by rw [Nat.pow_succ]; omega
    rcases Nat.mod_two_eq_zero_or_one i with h0 | h0
    · rw [bits_even h0 (by omega), bits_even h0 (s := 2 ^ (j + 1) - 1) (by rw [Nat.pow_succ]; omega), h3, e]
      rfl
    · rw [bits_odd h0 (by omega), bits_odd h0 (s := 2 ^ (j + 1) - 1) (by rw [Nat.pow_succ]; omega), h3, e]
      rfl
/-- both in the second half -/
theorem bits_high : ∀ (j a b : Nat), a ≤ b → b < 2 ^ j → bits (2 ^ j + a) (2 ^ j + b) = bits a b ++ [true] := by
  intro j
  induction j with
  | zero =>
    intro a b hab hb
    obtain rfl : b = 0 := by simpa using hb
    obtain rfl : a = 0 := by omega
    rfl
  | succ j ih =>
    intro a b hab hb
    rw [Nat.pow_succ] at hb ⊢
    have hp := Nat.pow_pos (n := j) (show 0 < 2 by decide)
    have h3 := ih (a / 2) (b / 2) (by omega) (by omega)
    have e1 : (2 ^ j * 2 + a) / 2 = 2 ^ j + a / 2 := by omega
    have e2 : (2 ^ j * 2 + b) / 2 = 2 ^ j + b / 2 := by omega
    rcases Nat.mod_two_eq_zero_or_one a with h0 | h0
    · by_cases hlt : a < b
      · rw [bits_even (i := 2 ^ j * 2 + a) (by omega) (by omega), bits_even h0 hlt, e1, e2, h3]
        rfl
      · rw [bits_last (i := 2 ^ j * 2 + a) (by omega) (by omega), bits_last h0 (by omega), e1, e2, h3]
    · rw [bits_odd (i := 2 ^ j * 2 + a) (by omega) (by omega), bits_odd h0 hab, e1, e2, h3]
      rfl
/-- sides from the top down are those by bits from the leaf up -/
theorem side_bits : ∀ (f i n : Nat), n ≤ f → i < n → (sideT i n).reverse = bits i (n - 1) := by
  intro f
  induction f with
  | zero => intro i n h hi; omega
  | succ f ih =>
    intro i n h hi
    by_cases h1 : n ≤ 1
    · rw [sideT_one h1, show n - 1 = 0 by omega, bits_zero]
      rfl
    · have hs := spl_lt (n := n) (by omega)
      have hp := spl_pos n
      have hl := le_spl n
      rw [sideT_two (by omega)]
      by_cases hk : i < spl n
      · rw [if_pos hk, List.reverse_cons, ih i (spl n) (by omega) hk]
        unfold spl at *
        rw [bits_low (n - 1).log2 i (n - 1) hk (by omega) (by omega)]
      · rw [if_neg hk, List.reverse_cons, ih (i - spl n) (n - spl n) (by omega) (by omega)]
        unfold spl at *
        have h2 := bits_high (n - 1).log2 (i - 2 ^ (n - 1).log2) (n - 1 - 2 ^ (n - 1).log2) (by omega) (by omega)
        rw [show 2 ^ (n - 1).log2 + (i - 2 ^ (n - 1).log2) = i by omega, show 2 ^ (n - 1).log2 + (n - 1 - 2 ^ (n - 1).log2) = n - 1 by omega] at h2
        rw [h2, show n - 2 ^ (n - 1).log2 - 1 = n - 1 - 2 ^ (n - 1).log2 by omega]

section
variable {α : Type} (nd : α → α → α)
/-- the node of one that was made and the next sum -/
def nodeB (b : Bool) (x p : α) : α := if b then nd p x else nd x p
/-- what sums make, the lowest first -/
def mkUp : α → List Bool → List α → Option α
  | x, [], [] => some x
  | x, b :: bs, p :: ps => mkUp (nodeB nd b x p) bs ps
  | _, _, _ => none
theorem mkUp_cons (x p : α) (b : Bool) (bs : List Bool) (ps : List α) : mkUp nd x (b :: bs) (p :: ps) = mkUp nd (nodeB nd b x p) bs ps := rfl
theorem mkUp_short (x p : α) (ps : List α) : mkUp nd x [] (p :: ps) = none := rfl
theorem mkUp_end (x p : α) (ps : List α) : mkUp nd x [] (ps ++ [p]) = none := by cases ps <;> rfl
theorem mkUp_snoc : ∀ (bs : List Bool) (ps : List α) (x p : α) (b : Bool), mkUp nd x (bs ++ [b]) (ps ++ [p]) = (mkUp nd x bs ps).map (fun s => nodeB nd b s p) := by
  intro bs
  induction bs with
  | nil =>
    intro ps x p b
    cases ps with
    | nil => rfl
    | cons q ps =>
      show mkUp nd (nodeB nd b x q) [] (ps ++ [p]) = _
      rw [mkUp_end, mkUp_short]
      rfl
  | cons c bs ih =>
    intro ps x p b
    cases ps with
    | nil =>
      show mkUp nd (nodeB nd c x p) (bs ++ [b]) [] = _
      cases bs <;> rfl
    | cons q ps => exact ih ps (nodeB nd c x q) p b
/-- a path makes, from the top down, what it makes from the leaf up -/
theorem mkP_up : ∀ (r : List α) (x : α) (i n : Nat), i < n → mkP nd x r i n = mkUp nd x (sideT i n).reverse r.reverse := by
  intro r
  induction r with
  | nil =>
    intro x i n hi
    rw [mkP_nil]
    by_cases h1 : n = 1
    · rw [if_pos h1, sideT_one (by omega)]
      rfl
    · rw [if_neg h1, sideT_two (by omega)]
      split
      · rw [List.reverse_cons]
        cases (sideT i (spl n)).reverse <;> rfl
      · rw [List.reverse_cons]
        cases (sideT (i - spl n) (n - spl n)).reverse <;> rfl
  | cons p r ih =>
    intro x i n hi
    rw [mkP_cons, List.reverse_cons]
    by_cases h1 : n = 1
    · rw [if_pos h1, sideT_one (by omega)]
      exact (mkUp_end nd x p r.reverse).symm
    · rw [if_neg h1, sideT_two (by omega)]
      by_cases hk : i < spl n
      · rw [if_pos hk, if_pos hk, List.reverse_cons, mkUp_snoc, ih x i (spl n) hk]
        rfl
      · rw [if_neg hk, if_neg hk, List.reverse_cons, mkUp_snoc, ih x _ (n - spl n) (by omega)]
        rfl
end
end Go.Proofs.YtpcckanhmdlahaaDoor.Q

/- What a step makes, by bits from the lowest sum up. Nothing of the program is named here. -/
namespace Go.Proofs.YtpcckanhmdlahaaDoor.Q
open Go.Proofs.YtpcckanhmdlahaaDoor.R

/-! ### the sides of a step -/
def sdF : Nat → Nat → Nat → List Bool
  | 0, _, _ => []
  | f + 1, m, n => if m = n then [] else if m ≤ spl n then false :: sdF f m (spl n) else true :: sdF f (m - spl n) (n - spl n)
theorem sdF_succ (f m n : Nat) : sdF (f + 1) m n = if m = n then [] else if m ≤ spl n then false :: sdF f m (spl n) else true :: sdF f (m - spl n) (n - spl n) := rfl
theorem sdF_any : ∀ (f g m n : Nat), 1 ≤ m → m ≤ n → n ≤ f → n ≤ g → sdF f m n = sdF g m n := by
  intro f
  induction f with
  | zero => intro g m n h1 h2 hf _; omega
  | succ f ih =>
    intro g m n h1 h2 hf hg
    cases g with
    | zero => omega
    | succ g =>
      rw [sdF_succ, sdF_succ]
      by_cases hm : m = n
      · rw [if_pos hm, if_pos hm]
      · rw [if_neg hm, if_neg hm]
        have hs := spl_lt (n := n) (by omega)
        have hp := spl_pos n
        by_cases hk : m ≤ spl n
        · rw [if_pos hk, if_pos hk, ih g m (spl n) h1 hk (by omega) (by omega)]
        · rw [if_neg hk, if_neg hk, ih g (m - spl n) (n - spl n) (by omega) (by omega) (by omega) (by omega)]
def sdT (m n : Nat) : List Bool := sdF n m n
theorem sdT_all {n : Nat} (h : 1 ≤ n) : sdT n n = [] := by
  unfold sdT
  obtain ⟨f, rfl⟩ : ∃ f, n = f + 1 := ⟨n - 1, by omega⟩
  rw [sdF_succ, if_pos rfl]
theorem sdT_less {m n : Nat} (h1 : 1 ≤ m) (h2 : m < n) : sdT m n = if m ≤ spl n then false :: sdT m (spl n) else true :: sdT (m - spl n) (n - spl n) := by
  have hs := spl_lt (n := n) (by omega)
  have hp := spl_pos n
  unfold sdT
  rw [sdF_any n (n - 1 + 1) m n h1 (by omega) (Nat.le_refl _) (by omega), sdF_succ, if_neg (by omega)]
  by_cases hk : m ≤ spl n
  · rw [if_pos hk, if_pos hk, sdF_any (n - 1) (spl n) m (spl n) h1 hk (by omega) (Nat.le_refl _)]
  · rw [if_neg hk, if_neg hk, sdF_any (n - 1) (n - spl n) _ (n - spl n) (by omega) (by omega) (by omega) (Nat.le_refl _)]

section
variable {α : Type} (nd : α → α → α)
/-- the old root: a sum on the right is no part of it -/
def nodeO (b : Bool) (x p : α) : α := if b then nd p x else x
def mkOld : α → List Bool → List α → Option α
  | x, [], [] => some x
  | x, b :: bs, p :: ps => mkOld (nodeO nd b x p) bs ps
  | _, _, _ => none
theorem mkOld_end (x p : α) (ps : List α) : mkOld nd x [] (ps ++ [p]) = none := by cases ps <;> rfl
theorem mkOld_snoc : ∀ (bs : List Bool) (ps : List α) (x p : α) (b : Bool), mkOld nd x (bs ++ [b]) (ps ++ [p]) = (mkOld nd x bs ps).map (fun s => nodeO nd b s p) := by
  intro bs
  induction bs with
  | nil =>
    intro ps x p b
    cases ps with
    | nil => rfl
    | cons q ps =>
      show mkOld nd (nodeO nd b x q) [] (ps ++ [p]) = _
      rw [mkOld_end]
      rfl
  | cons c bs ih =>
    intro ps x p b
    cases ps with
    | nil =>
      show mkOld nd (nodeO nd c x p) (bs ++ [b]) [] = _
      cases bs <;> rfl
    | cons q ps => exact ih ps (nodeO nd c x q) p b
theorem mkUp_none (x : α) (bs : List Bool) (b : Bool) : mkUp nd x (bs ++ [b]) [] = none := by cases bs <;> rfl
theorem mkOld_none (x : α) (bs : List Bool) (b : Bool) : mkOld nd x (bs ++ [b]) [] = none := by cases bs <;> rfl
/-- what goes on with the first sum -/
def fromTop (K : α → List α → Option α) : List α → Option α
  | [] => none
  | x :: ps => K x ps
theorem fromTop_snoc (K : α → List α → Option α) (ps : List α) (p : α) : fromTop K (ps ++ [p]) = match ps with
    | [] => K p []
    | x :: qs => K x (qs ++ [p]) := by cases ps <;> rfl
theorem endS_true (old : α) (r : List α) : endS old r true = mkUp nd old [] r.reverse := by
  cases r with
  | nil => rfl
  | cons p r => rw [List.reverse_cons, mkUp_end]; rfl
theorem endS_trueO (old : α) (r : List α) : endS old r true = mkOld nd old [] r.reverse := by
  cases r with
  | nil => rfl
  | cons p r => rw [List.reverse_cons, mkOld_end]; rfl
theorem endS_false (old : α) (r : List α) : endS old r false = fromTop (fun x ps => mkUp nd x [] ps) r.reverse := by
  cases r with
  | nil => rfl
  | cons p r =>
    cases r with
    | nil => rfl
    | cons q r =>
      rw [List.reverse_cons, List.reverse_cons, fromTop_snoc]
      cases hr : r.reverse with
      | nil => rfl
      | cons x qs => exact (mkUp_end nd x p (qs ++ [q])).symm
theorem endS_falseO (old : α) (r : List α) : endS old r false = fromTop (fun x ps => mkOld nd x [] ps) r.reverse := by
  cases r with
  | nil => rfl
  | cons p r =>
    cases r with
    | nil => rfl
    | cons q r =>
      rw [List.reverse_cons, List.reverse_cons, fromTop_snoc]
      cases hr : r.reverse with
      | nil => rfl
      | cons x qs => exact (mkOld_end nd x p (qs ++ [q])).symm
/-- the new root, from the lowest sum up: from the old root, if no side is a left one, else from the first sum -/
theorem newS_up : ∀ (r : List α) (old : α) (m n : Nat) (b : Bool), 1 ≤ m → m ≤ n → newS nd old r m n b = if b = true ∧ true ∉ sdT m n then mkUp nd old (sdT m n).reverse r.reverse else fromTop (fun x ps => mkUp nd x (sdT m n).reverse ps) r.reverse := by
  intro r
  induction r with
  | nil =>
    intro old m n b h1 h2
    by_cases hm : m = n
    · subst hm
      rw [newS_all, sdT_all h1]
      cases b <;> rfl
    · have e : newS nd old [] m n b = none := by show (if m = n then _ else _) = _; rw [if_neg hm]
      rw [e, sdT_less h1 (by omega)]
      by_cases hk : m ≤ spl n
      · rw [if_pos hk]
        split
        · rw [List.reverse_cons]; exact (mkUp_none nd _ _ _).symm
        · rfl
      · rw [if_neg hk]
        split
        · rw [List.reverse_cons]; exact (mkUp_none nd _ _ _).symm
        · rfl
  | cons p r ih =>
    intro old m n b h1 h2
    by_cases hm : m = n
    · subst hm
      rw [newS_all, sdT_all h1]
      cases b with
      | true => rw [if_pos ⟨rfl, by simp⟩]; exact endS_true nd old (p :: r)
      | false => rw [if_neg (fun h => by cases h.1)]; exact endS_false nd old (p :: r)
    · have hs := spl_lt (n := n) (by omega)
      have hp := spl_pos n
      rw [newS_cons, if_neg hm, sdT_less h1 (by omega)]
      by_cases hk : m ≤ spl n
      · rw [if_pos hk, if_pos hk, ih old m (spl n) b h1 hk]
        have e : (true ∉ false :: sdT m (spl n)) ↔ (true ∉ sdT m (spl n)) := by simp
        by_cases hb : b = true ∧ true ∉ sdT m (spl n)
        · rw [if_pos hb, if_pos ⟨hb.1, e.2 hb.2⟩, List.reverse_cons, List.reverse_cons, mkUp_snoc]
          rfl
        · rw [if_neg hb, if_neg (fun h => hb ⟨h.1, e.1 h.2⟩), List.reverse_cons, List.reverse_cons, fromTop_snoc]
          cases hr : r.reverse with
          | nil => exact (mkUp_none nd _ _ _).symm
          | cons x qs => show Option.map _ (mkUp nd x _ qs) = mkUp nd x (_ ++ [false]) (qs ++ [p]); rw [mkUp_snoc]; rfl
      · rw [if_neg hk, if_neg hk, ih old (m - spl n) (n - spl n) false (by omega) (by omega)]
        rw [if_neg (fun h => by cases h.1), if_neg (fun h => h.2 (by simp)), List.reverse_cons, List.reverse_cons, fromTop_snoc]
        cases hr : r.reverse with
        | nil => exact (mkUp_none nd _ _ _).symm
        | cons x qs => show Option.map _ (mkUp nd x _ qs) = mkUp nd x (_ ++ [true]) (qs ++ [p]); rw [mkUp_snoc]; rfl
theorem oldS_up : ∀ (r : List α) (old : α) (m n : Nat) (b : Bool), 1 ≤ m → m ≤ n → oldS nd old r m n b = if b = true ∧ true ∉ sdT m n then mkOld nd old (sdT m n).reverse r.reverse else fromTop (fun x ps => mkOld nd x (sdT m n).reverse ps) r.reverse := by
  intro r
  induction r with
  | nil =>
    intro old m n b h1 h2
    by_cases hm : m = n
    · subst hm
      rw [oldS_all, sdT_all h1]
      cases b <;> rfl
    · have e : oldS nd old [] m n b = none := by show (if m = n then _ else _) = _; rw [if_neg hm]
      rw [e, sdT_less h1 (by omega)]
      by_cases hk : m ≤ spl n
      · rw [if_pos hk]
        split
        · rw [List.reverse_cons]; exact (mkOld_none nd _ _ _).symm
        · rfl
      · rw [if_neg hk]
        split
        · rw [List.reverse_cons]; exact (mkOld_none nd _ _ _).symm
        · rfl
  | cons p r ih =>
    intro old m n b h1 h2
    by_cases hm : m = n
    · subst hm
      rw [oldS_all, sdT_all h1]
      cases b with
      | true => rw [if_pos ⟨rfl, by simp⟩]; exact endS_trueO nd old (p :: r)
      | false => rw [if_neg (fun h => by cases h.1)]; exact endS_falseO nd old (p :: r)
    · have hs := spl_lt (n := n) (by omega)
      have hp := spl_pos n
      rw [oldS_cons, if_neg hm, sdT_less h1 (by omega)]
      by_cases hk : m ≤ spl n
      · rw [if_pos hk, if_pos hk, ih old m (spl n) b h1 hk]
        have e : (true ∉ false :: sdT m (spl n)) ↔ (true ∉ sdT m (spl n)) := by simp
        by_cases hb : b = true ∧ true ∉ sdT m (spl n)
        · rw [if_pos hb, if_pos ⟨hb.1, e.2 hb.2⟩, List.reverse_cons, List.reverse_cons, mkOld_snoc]
          cases mkOld nd old (sdT m (spl n)).reverse r.reverse <;> rfl
        · rw [if_neg hb, if_neg (fun h => hb ⟨h.1, e.1 h.2⟩), List.reverse_cons, List.reverse_cons, fromTop_snoc]
          cases hr : r.reverse with
          | nil => exact (mkOld_none nd _ _ _).symm
          | cons x qs =>
            show mkOld nd x (sdT m (spl n)).reverse qs = mkOld nd x (_ ++ [false]) (qs ++ [p])
            rw [mkOld_snoc]
            cases mkOld nd x (sdT m (spl n)).reverse qs <;> rfl
      · rw [if_neg hk, if_neg hk, ih old (m - spl n) (n - spl n) false (by omega) (by omega)]
        rw [if_neg (fun h => by cases h.1), if_neg (fun h => h.2 (by simp)), List.reverse_cons, List.reverse_cons, fromTop_snoc]
        cases hr : r.reverse with
        | nil => exact (mkOld_none nd _ _ _).symm
        | cons x qs => show Option.map _ (mkOld nd x _ qs) = mkOld nd x (_ ++ [true]) (qs ++ [p]); rw [mkOld_snoc]; rfl
end

/-! ### by bits: i is the last one of the first leaves, s the last of all -/
def sdBF : Nat → Nat → Nat → List Bool
  | 0, i, s => bits i s
  | f + 1, i, s => if i % 2 = 1 then sdBF f (i / 2) (s / 2) else bits i s
theorem sdBF_succ (f i s : Nat) : sdBF (f + 1) i s = if i % 2 = 1 then sdBF f (i / 2) (s / 2) else bits i s := rfl
theorem sdBF_any : ∀ (f g i s : Nat), i ≤ f → i ≤ g → sdBF f i s = sdBF g i s := by
  intro f
  induction f with
  | zero =>
    intro g i s hf _
    obtain rfl : i = 0 := by omega
    cases g with
    | zero => rfl
    | succ g => rw [sdBF_succ, if_neg (by decide)]; rfl
  | succ f ih =>
    intro g i s hf hg
    cases g with
    | zero =>
      obtain rfl : i = 0 := by omega
      rw [sdBF_succ, if_neg (by decide)]; rfl
    | succ g =>
      rw [sdBF_succ, sdBF_succ]
      by_cases h : i % 2 = 1
      · rw [if_pos h, if_pos h, ih g (i / 2) (s / 2) (by omega) (by omega)]
      · rw [if_neg h, if_neg h]
def sdB (i s : Nat) : List Bool := sdBF i i s
theorem sdB_even {i : Nat} (h : i % 2 = 0) (s : Nat) : sdB i s = bits i s := by
  unfold sdB
  cases i with
  | zero => rfl
  | succ i => rw [sdBF_succ, if_neg (by omega)]
theorem sdB_odd {i : Nat} (h : i % 2 = 1) (s : Nat) : sdB i s = sdB (i / 2) (s / 2) := by
  unfold sdB
  rw [sdBF_any i (i - 1 + 1) i s (Nat.le_refl _) (by omega), sdBF_succ, if_pos h, sdBF_any (i - 1) (i / 2) _ _ (by omega) (Nat.le_refl _)]
theorem sdB_low : ∀ (j i s : Nat), i < 2 ^ j → 2 ^ j ≤ s → s < 2 * 2 ^ j → sdB i s = (if i = 2 ^ j - 1 then [] else sdB i (2 ^ j - 1)) ++ [false] := by
  intro j
  induction j with
  | zero =>
    intro i s hi h1 h2
    obtain rfl : i = 0 := by simpa using hi
    obtain rfl : s = 1 := by simp at h1 h2; omega
    rfl
  | succ j ih =>
    intro i s hi h1 h2
    have hlow := bits_low (j + 1) i s hi h1 h2
    rw [Nat.pow_succ] at hi h1 h2
    have hp := Nat.pow_pos (n := j) (show 0 < 2 by decide)
    have e : (2 ^ (j + 1) - 1) / 2 = 2 ^ j - 1 := by rw [Nat.pow_succ]; omega
    rcases Nat.mod_two_eq_zero_or_one i with h0 | h0
    · rw [sdB_even h0, sdB_even h0, hlow, if_neg (by rw [Nat.pow_succ]; omega)]
    · have h3 := ih (i / 2) (s / 2) (by omega) (by omega) (by omega)
      rw [sdB_odd h0, sdB_odd h0, h3, e]
      by_cases hi2 : i = 2 ^ (j + 1) - 1
      · rw [if_pos hi2, if_pos (by rw [hi2, e])]
      · rw [if_neg hi2, if_neg (by rw [Nat.pow_succ] at hi2; omega)]
theorem sdB_high : ∀ (j a b : Nat), a < b → b < 2 ^ j → sdB (2 ^ j + a) (2 ^ j + b) = sdB a b ++ [true] := by
  intro j
  induction j with
  | zero => intro a b hab hb; simp at hb; omega
  | succ j ih =>
    intro a b hab hb
    have hhigh := bits_high (j + 1) a b (by omega) hb
    have e1 : (2 ^ (j + 1) + a) / 2 = 2 ^ j + a / 2 := by rw [Nat.pow_succ]; omega
    have e2 : (2 ^ (j + 1) + b) / 2 = 2 ^ j + b / 2 := by rw [Nat.pow_succ]; omega
    have e3 : (2 ^ (j + 1) + a) % 2 = a % 2 := by rw [Nat.pow_succ]; omega
    rw [Nat.pow_succ] at hb
    rcases Nat.mod_two_eq_zero_or_one a with h0 | h0
    · rw [sdB_even (i := 2 ^ (j + 1) + a) (by omega), sdB_even h0, hhigh]
    · rw [sdB_odd (i := 2 ^ (j + 1) + a) (by omega), sdB_odd h0, e1, e2, ih (a / 2) (b / 2) (by omega) (by omega)]
/-- a step's sides from the top down are those by bits, behind those bits of the last place that are 1 -/
theorem sd_bits : ∀ (f m n : Nat), n ≤ f → 1 ≤ m → m < n → (sdT m n).reverse = sdB (m - 1) (n - 1) := by
  intro f
  induction f with
  | zero => intro m n h h1 h2; omega
  | succ f ih =>
    intro m n h h1 h2
    have hs := spl_lt (n := n) (by omega)
    have hp := spl_pos n
    have hl := le_spl n
    rw [sdT_less h1 h2]
    by_cases hk : m ≤ spl n
    · rw [if_pos hk, List.reverse_cons]
      have h3 := sdB_low (n - 1).log2 (m - 1) (n - 1) (by unfold spl at *; omega) (by unfold spl at *; omega) (by unfold spl at *; omega)
      rw [h3]
      by_cases hm : m = spl n
      · rw [if_pos (by unfold spl at hm; omega), ← hm, sdT_all h1]
        rfl
      · rw [if_neg (by unfold spl at hm hp; omega), ih m (spl n) (by omega) h1 (by omega)]
        rfl
    · rw [if_neg hk, List.reverse_cons, ih (m - spl n) (n - spl n) (by omega) (by omega) (by omega)]
      have h3 := sdB_high (n - 1).log2 (m - 1 - spl n) (n - 1 - spl n) (by omega) (by unfold spl at *; omega)
      rw [show 2 ^ (n - 1).log2 + (m - 1 - spl n) = m - 1 by unfold spl at *; omega, show 2 ^ (n - 1).log2 + (n - 1 - spl n) = n - 1 by unfold spl at *; omega] at h3
      rw [h3, show m - spl n - 1 = m - 1 - spl n by omega, show n - spl n - 1 = n - 1 - spl n by omega]
/-- bits of 0 are no left sides; others have one -/
theorem bits_left : ∀ (f i s : Nat), s ≤ f → i ≤ s → (true ∈ bits i s ↔ 0 < i) := by
  intro f
  induction f with
  | zero =>
    intro i s h hi
    obtain rfl : s = 0 := by omega
    obtain rfl : i = 0 := by omega
    rw [bits_zero]
    simp
  | succ f ih =>
    intro i s h hi
    rcases Nat.eq_zero_or_pos s with h0 | h0
    · subst h0
      obtain rfl : i = 0 := by omega
      rw [bits_zero]
      simp
    · have h3 := ih (i / 2) (s / 2) (by omega) (by omega)
      rcases Nat.mod_two_eq_zero_or_one i with h1 | h1
      · by_cases hlt : i < s
        · rw [bits_even h1 hlt]
          simp only [List.mem_cons, Bool.true_eq_false, false_or]
          rw [h3]
          omega
        · rw [bits_last h1 (by omega), h3]
          omega
      · rw [bits_odd h1 hi]
        simp
        omega
/-- the last place without its lowest bits that are 1 -/
def stripF : Nat → Nat → Nat
  | 0, i => i
  | f + 1, i => if i % 2 = 1 then stripF f (i / 2) else i
theorem stripF_succ (f i : Nat) : stripF (f + 1) i = if i % 2 = 1 then stripF f (i / 2) else i := rfl
theorem stripF_any : ∀ (f g i : Nat), i ≤ f → i ≤ g → stripF f i = stripF g i := by
  intro f
  induction f with
  | zero =>
    intro g i hf _
    obtain rfl : i = 0 := by omega
    cases g with
    | zero => rfl
    | succ g => rw [stripF_succ, if_neg (by decide)]; rfl
  | succ f ih =>
    intro g i hf hg
    cases g with
    | zero =>
      obtain rfl : i = 0 := by omega
      rw [stripF_succ, if_neg (by decide)]; rfl
    | succ g =>
      rw [stripF_succ, stripF_succ]
      by_cases h : i % 2 = 1
      · rw [if_pos h, if_pos h, ih g (i / 2) (by omega) (by omega)]
      · rw [if_neg h, if_neg h]
def strip (i : Nat) : Nat := stripF i i
theorem strip_even {i : Nat} (h : i % 2 = 0) : strip i = i := by
  unfold strip
  cases i with
  | zero => rfl
  | succ i => rw [stripF_succ, if_neg (by omega)]
theorem strip_odd {i : Nat} (h : i % 2 = 1) : strip i = strip (i / 2) := by
  unfold strip
  rw [stripF_any i (i - 1 + 1) i (Nat.le_refl _) (by omega), stripF_succ, if_pos h, stripF_any (i - 1) (i / 2) _ (by omega) (Nat.le_refl _)]
theorem sdB_left : ∀ (f i s : Nat), i ≤ f → i ≤ s → (true ∈ sdB i s ↔ 0 < strip i) := by
  intro f
  induction f with
  | zero =>
    intro i s h hi
    obtain rfl : i = 0 := by omega
    rw [sdB_even (by decide), strip_even (by decide), bits_left s 0 s (Nat.le_refl _) hi]
  | succ f ih =>
    intro i s h hi
    rcases Nat.mod_two_eq_zero_or_one i with h1 | h1
    · rw [sdB_even h1, strip_even h1, bits_left s i s (Nat.le_refl _) hi]
    · rw [sdB_odd h1, strip_odd h1, ih (i / 2) (s / 2) (by omega) (by omega)]
end Go.Proofs.YtpcckanhmdlahaaDoor.Q

/- Rows of texts that are put behind an own row. -/
namespace Go.Proofs.YtpcckanhmdlahaaDoor.Q
open Go.RowKit Go.Sort Go.Proofs.YtpcckanhmdlahaaDoor.U Go.Proofs.YtpcckanhmdlahaaDoor.R
set_option maxRecDepth 100000

/-- 'append(x, v...)', where the call owns x -/
theorem wpL_joinO {ops : Array Oper} {rest : List Oper} {a : Act} {w : World} {Q : Exit → Act → World → Prop} {t' : TypeId} {pos : String} {after : Array Edge} {d : Option Tmp} {x y : Tmp}
    (B g0 n0 c0 : Nat) (qs : List (List UInt8)) (hn : qs.length = n0) (hown0 : w.ownsRow B 9 1 (.slice (some ⟨g0, 0, none⟩) n0 c0) n0 (qs.map str)) (hB : B ≤ w.heap.size)
    (a' : Option Addr) (c' : Nat) (ps : List (List UInt8)) (hv : Strs w (.slice a' ps.length c') ps) (hps : ps.length ≤ 100000) (hqs : n0 ≤ 100000)
    (hs : a.eval (.tmp x) = .slice (some ⟨g0, 0, none⟩) n0 c0) (hx : a.eval (.tmp y) = .slice a' ps.length c')
    (h : ∀ g2 c2 w', w'.ownsRow B 9 1 (.slice (some ⟨g2, 0, none⟩) (n0 + ps.length) c2) (n0 + ps.length) ((qs ++ ps).map str) → Below B w w' → wpList Tryd.prog ops Q rest (a.put d (.slice (some ⟨g2, 0, none⟩) (n0 + ps.length) c2)) w') :
    wpList Tryd.prog ops Q (⟨d, .call { callee := .builtin .append, args := #[.tmp x, .tmp y], argTypes := #[22, 22] }, t', pos, after, none⟩ :: rest) a w := by
  obtain ⟨i0, hi, hz0, hz1, hz2⟩ := info_parts infoStr
  have hv2 := hv
  obtain ⟨a1, c1, hvv, hc, hm, hna, hcl⟩ := hv2
  injection hvv with e1 e2 e3
  subst e1 e3
  by_cases h0 : ps = []
  · subst h0
    have hK0 := h g0 c0 w (by rw [List.append_nil]; exact hown0) (Below.refl _ _)
    have hcap : n0 ≤ c0 := by
      rcases hown0.2 with ⟨h3, _⟩ | ⟨g', cap', cur, hv, _, _, h4, _⟩
      · cases h3
      · injection hv with e1 e2 e3
        omega
    have hcap2 : ¬ c0 < n0 := by omega
    have hr : (Builtin.append_ #[22, 22] t' #[.slice (some ⟨g0, 0, none⟩) n0 c0, .slice a' 0 c']).run Tryd.prog w = .ok (.slice (some ⟨g0, 0, none⟩) n0 c0) w := by
      cases a' with
      | none =>
        have hf : (Builtin.firstCells i0.size 0 (.slice none 0 c')).run Tryd.prog w = .ok #[] w := by simp [Builtin.firstCells]
        simp [Builtin.append_, run_underlying Tryd.underlying22, sizeOf, typeInfo, hi, Builtin.lenOf, hf, storeCells, hcap2]
      | some b =>
        have hf : (Builtin.firstCells i0.size 0 (.slice (some b) 0 c')).run Tryd.prog w = .ok #[] w := by rw [run_firstCells_some (P := Tryd.prog) w i0.size 0 b 0 c' [] (by simp) (fun j u hj => by cases hj)]
        simp [Builtin.append_, run_underlying Tryd.underlying22, sizeOf, typeInfo, hi, Builtin.lenOf, hf, storeCells, hcap2]
    have hx0 : a.eval (.tmp y) = .slice a' 0 c' := hx
    refine wpList_plain rfl fun K hK' => ?_
    have hK := hK' _ _ hK0
    generalize Operand.tmp x = X at hs
    generalize Operand.tmp y = Y at hx0
    unfold Oper.wp
    simp only [execOp, resolve, invoke, builtin]
    simp [hs, hx0, hr, Result.andThen]
    exact hK
  · obtain ⟨b, off, rfl, hcell⟩ := hcl h0
    have hpos := List.length_pos_iff.2 h0
    refine wpList_append_own _ rfl _ _ 22 (by rfl) B 9 i0 _ 1 16 Tryd.underlying22 hi hz0 hz1 hz2 rfl (by omega) _ n0 (qs.map str) hs hown0 ⟨b, off, none⟩ ps.length c' (ps.map str) hx (by simp) (by
      intro j u hj
      rw [List.getElem?_map] at hj
      obtain ⟨z, hzj, rfl⟩ := Option.map_eq_some_iff.1 hj
      rw [Addr.add_mid]
      exact hcell j z hzj) (by intro u hu; obtain ⟨z, _, rfl⟩ := List.mem_map.1 hu; rfl) (by unfold maxLen; omega) (by omega) hB ?_
    intro v' w1 hown1 hgrow1 hnil1
    rw [← List.map_append] at hown1
    rcases hown1.2 with ⟨rfl, e⟩ | ⟨g, cap, cur, rfl, _⟩
    · omega
    · exact h g cap w1 hown1 ((Below.refl _ _).mono hB |>.grown hgrow1 hB (fun j hj => (hown0.lt j hj).1))
/-- an own row is one that reads as texts -/
theorem own_of {w : World} {B g n c : Nat} {ps : List (List UInt8)} (hn : ps.length = n) (h : w.ownsRow B 9 1 (.slice (some ⟨g, 0, none⟩) n c) n (ps.map str)) : Own w B (.slice (some ⟨g, 0, none⟩) n c) ps := by
  subst hn
  exact .inr ⟨g, c, rfl, h⟩
theorem own_copied {w : World} {B g n c : Nat} {ps : List (List UInt8)} (h : w.ownsRow B 9 1 (.slice (some ⟨g, 0, none⟩) (0 + n) c) (0 + n) (([] ++ ps).map str)) : w.ownsRow B 9 1 (.slice (some ⟨g, 0, none⟩) n c) n (ps.map str) := by
  rw [Nat.zero_add, List.nil_append] at h
  exact h

/-! ### what may be nothing -/
def optB : Option (List UInt8) → ByteArray
  | some s => bytesOf s
  | none => { data := #[] }
theorem mkP_32 : ∀ (r : List (List UInt8)) (x : List UInt8) (i n : Nat) (s : List UInt8), x.length = 32 → mkP nd x r i n = some s → s.length = 32 := by
  intro r
  cases r with
  | nil =>
    intro x i n s hx h
    rw [mkP_nil] at h
    split at h
    · rw [← Option.some.inj h]; exact hx
    · cases h
  | cons p r =>
    intro x i n s hx h
    rw [mkP_cons] at h
    split at h
    · cases h
    · split at h <;> obtain ⟨y, _, rfl⟩ := Option.map_eq_some_iff.1 h <;> exact nd_length _ _
theorem endS_32 {old s : List UInt8} {r : List (List UInt8)} {b : Bool} (ho : old.length = 32) (hr : ∀ x ∈ r, x.length = 32) (h : endS old r b = some s) : s.length = 32 := by
  cases b with
  | true =>
    cases r with
    | nil => rw [← Option.some.inj h]; exact ho
    | cons p r => cases h
  | false =>
    cases r with
    | nil => cases h
    | cons p r =>
      cases r with
      | nil => rw [← Option.some.inj h]; exact hr p (by simp)
      | cons q r => cases h
theorem oldS_32 : ∀ (r : List (List UInt8)) (old : List UInt8) (m n : Nat) (b : Bool) (s : List UInt8), old.length = 32 → (∀ x ∈ r, x.length = 32) → oldS nd old r m n b = some s → s.length = 32 := by
  intro r
  induction r with
  | nil =>
    intro old m n b s ho hr h
    have h : (if m = n then endS old [] b else none) = some s := h
    split at h
    · exact endS_32 ho hr h
    · cases h
  | cons p r ih =>
    intro old m n b s ho hr h
    rw [oldS_cons] at h
    split at h
    · exact endS_32 ho hr h
    · split at h
      · exact ih old _ _ _ s ho (fun x hx => hr x (by simp [hx])) h
      · obtain ⟨y, _, rfl⟩ := Option.map_eq_some_iff.1 h; exact nd_length _ _
theorem newS_32 : ∀ (r : List (List UInt8)) (old : List UInt8) (m n : Nat) (b : Bool) (s : List UInt8), old.length = 32 → (∀ x ∈ r, x.length = 32) → newS nd old r m n b = some s → s.length = 32 := by
  intro r
  cases r with
  | nil =>
    intro old m n b s ho hr h
    have h : (if m = n then endS old [] b else none) = some s := h
    split at h
    · exact endS_32 ho hr h
    · cases h
  | cons p r =>
    intro old m n b s ho hr h
    rw [newS_cons] at h
    split at h
    · exact endS_32 ho hr h
    · split at h <;> obtain ⟨y, _, rfl⟩ := Option.map_eq_some_iff.1 h <;> exact nd_length _ _
/-- the last sum of a path, and the rest, in memory -/
theorem strs_last {w : World} {v : Value} {p : List UInt8} {r : List (List UInt8)} (h : Strs w v (p :: r).reverse) : ∃ b off c, v = .slice (some ⟨b, off, none⟩) (r.length + 1) c ∧ r.length + 1 ≤ c ∧ c ≤ maxLen ∧ w.cell? ⟨b, off + r.length, none⟩ = some (str p) ∧ Strs w (.slice (some ⟨b, off, none⟩) r.length c) r.reverse := by
  have h2 := h
  obtain ⟨a, c, rfl, hc, hm, hn, hl⟩ := h2
  obtain ⟨b, off, rfl, hcell⟩ := hl (by simp)
  have hlen : (p :: r).reverse.length = r.length + 1 := by simp
  have h3 := strs_head h (j := r.length) (by rw [hlen]; omega)
  rw [List.reverse_cons, List.take_append_of_le_length (by simp), List.take_of_length_le (by simp)] at h3
  refine ⟨b, off, c, by rw [hlen], by rw [hlen] at hc; exact hc, hm, ?_, h3⟩
  refine hcell r.length p ?_
  rw [List.reverse_cons, List.getElem?_append_right (by simp)]
  simp
end Go.Proofs.YtpcckanhmdlahaaDoor.Q

/- The reference's Path and Step. -/
namespace Go.Proofs.YtpcckanhmdlahaaDoor.Q
open Go.RowKit Go.Sort Go.Proofs.YtpcckanhmdlahaaDoor.U Go.Proofs.YtpcckanhmdlahaaDoor.R
set_option maxRecDepth 100000

set_option maxHeartbeats 1600000 in
theorem refPath_small : ∀ (f : Nat) (l : List (List UInt8)) (i : Nat) (w : World) (v : Value), l.length ≤ f → l.length ≤ 4096 → (∀ x ∈ l, x.length = 32) → i < l.length → Strs w v l →
    Calls Tryd.prog 15 #[v, .int .i64 (i : Int)] w fun e w' => ∃ a c, e = .returned (.slice a (pathT nd e0 l i).reverse.length c) ∧ Own w' w.heap.size (.slice a (pathT nd e0 l i).reverse.length c) (pathT nd e0 l i).reverse ∧ Below w.heap.size w w' := by
  intro f
  induction f with
  | zero => intro l i w v h _ _ hi; omega
  | succ f ih =>
    intro l i w v h h4 hx hi hl
    have hs := hl
    obtain ⟨a, c, rfl, hc, hm, hn, hl⟩ := hl
    unfold maxLen at hm
    obtain ⟨b, off, rfl, hcell⟩ := hl (by intro h; subst h; simp at hi)
    clear hl hn hcell
    have hown0 : (w.alloc (.cells #[] 9)).ownsRow w.heap.size 9 1 (.slice (some ⟨w.heap.size, 0, none⟩) 0 0) 0 [] := World.ownsRow_made w #[] 0 (Nat.le_refl _) (Nat.zero_le _) rfl
    have hb0 : Below w.heap.size w (w.alloc (.cells #[] 9)) := (Below.refl w.heap.size w).alloc (Nat.le_refl _) _
    by_cases h1 : l.length = 1
    · have hi1 : (l.length : Int) = 1 := by omega
      have HP := Lib.hid (pathT_one nd e0 (l := l) (by omega) i)
      clear ih hs
      go_enter Tryd.func15, Tryd.ntmps15
      go_wp2
      go_ret
      exact ⟨some ⟨w.heap.size, 0, none⟩, 0, by rw [HP.out]; rfl, by rw [HP.out]; exact .inl ⟨_, rfl, rfl⟩, hb0⟩
    · have hk1 := spl_lt (n := l.length) (by omega)
      have hk2 := spl_pos l.length
      have HPt := pathT_two nd e0 (l := l) (by omega) i
      obtain ⟨k, hk⟩ : ∃ k, spl l.length = k := ⟨_, rfl⟩
      have HL := Lib.hid (refSplit_any l.length · (by omega) (by omega))
      rw [hk] at HL hk1 hk2 HPt
      have hx1 : ∀ x ∈ l.take k, x.length = 32 := fun x hx' => hx x (List.mem_of_mem_take hx')
      have hx2 : ∀ x ∈ l.drop k, x.length = 32 := fun x hx' => hx x (List.mem_of_mem_drop hx')
      have hi1 : ¬ (l.length : Int) = 1 := by omega
      by_cases hik : i < k
      · rw [if_pos hik] at HPt
        have HA := Lib.hid (fun W (hw : Below w.heap.size w W) => ih (l.take k) i W _ (by rw [List.length_take]; omega) (by rw [List.length_take]; omega) hx1 (by rw [List.length_take]; omega) ((strs_head hs (j := k) (by omega)).below hw))
        have HB := Lib.hid (fun W (hw : Below w.heap.size w W) => refRoot_small (l.drop k).length (l.drop k) W _ (Nat.le_refl _) (by rw [List.length_drop]; omega) hx2 ((strs_tail hs (i := k) (by omega)).below hw))
        have HE : Hid ((pathT nd e0 l i).reverse = (pathT nd e0 (l.take k) i).reverse ++ [rt (l.drop k)]) := Lib.hid (by rw [HPt, List.reverse_cons])
        have hpl : (pathT nd e0 (l.take k) i).reverse.length ≤ 4096 := by
          have h3 := pathT_le nd e0 _ (l.take k) i (Nat.le_refl _)
          rw [List.length_take] at h3
          rw [List.length_reverse]
          omega
        generalize (pathT nd e0 (l.take k) i).reverse = P at *
        generalize rt (l.drop k) = R at *
        clear ih hx1 hx2 HPt hs hk hx
        go_enter Tryd.func15, Tryd.ntmps15
        go_wp2_with (first
          | (go_at_call 28; refine (HL.out _).mono ?_; rintro e w1 ⟨rfl, rfl⟩)
          | (go_at_call 15; refine (HA.out _ hb0).mono ?_; rintro e w2 ⟨a2, c2, rfl, ho2, hb2⟩)
          | ((with_reducible refine wpL_joinO w.heap.size w.heap.size 0 0 [] rfl (own_on hown0 hb2) (below_on hb0 hb2).size a2 c2 P ho2.strs (by omega) (by omega) ?_ ?_ ?_); rfl; rfl; intro g3 c3 w3 ho3 hb3; replace ho3 := own_copied ho3)
          | (go_at_call 21; refine (HB.out _ ((below_on hb0 hb2).trans hb3)).mono ?_; rintro e w4 ⟨rfl, hb4⟩)
          | ((with_reducible refine wpL_appendS w.heap.size _ P P.length R w4.heap.size rfl (((own_of rfl ho3).on hb4).on ((Below.refl _ _).alloc (Nat.le_refl _) _)) (Lies.new w4 _ _) (by omega) (by have := ((below_on hb0 hb2).trans hb3).size; have := hb4.size; simp; omega) ?_ ?_ ?_); rfl; rfl; intro g6 c6 w6 ho6 hb6 hk6))
        go_ret
        exact ⟨some ⟨g6, 0, none⟩, c6, by rw [HE.out, List.length_append]; rfl, by rw [HE.out, List.length_append]; exact ho6, ((below_on ((below_on hb0 hb2).trans hb3) hb4).alloc (by have := ((below_on hb0 hb2).trans hb3).size; have := hb4.size; omega) _).trans hb6⟩
      · rw [if_neg hik] at HPt
        have ei : ((i - k : Nat) : Int) = (i : Int) - (k : Int) := by omega
        have HA := Lib.hid (fun W (hw : Below w.heap.size w W) => ih (l.drop k) (i - k) W _ (by rw [List.length_drop]; omega) (by rw [List.length_drop]; omega) hx2 (by rw [List.length_drop]; omega) ((strs_tail hs (i := k) (by omega)).below hw))
        rw [ei] at HA
        have HB := Lib.hid (fun W (hw : Below w.heap.size w W) => refRoot_small (l.take k).length (l.take k) W _ (Nat.le_refl _) (by rw [List.length_take]; omega) hx1 ((strs_head hs (j := k) (by omega)).below hw))
        have HE : Hid ((pathT nd e0 l i).reverse = (pathT nd e0 (l.drop k) (i - k)).reverse ++ [rt (l.take k)]) := Lib.hid (by rw [HPt, List.reverse_cons])
        have hpl : (pathT nd e0 (l.drop k) (i - k)).reverse.length ≤ 4096 := by
          have h3 := pathT_le nd e0 _ (l.drop k) (i - k) (Nat.le_refl _)
          rw [List.length_drop] at h3
          rw [List.length_reverse]
          omega
        generalize (pathT nd e0 (l.drop k) (i - k)).reverse = P at *
        generalize rt (l.take k) = R at *
        clear ih hx1 hx2 HPt hs hk hx
        go_enter Tryd.func15, Tryd.ntmps15
        go_wp2_with (first
          | (go_at_call 28; refine (HL.out _).mono ?_; rintro e w1 ⟨rfl, rfl⟩)
          | (go_at_call 15; refine (HA.out _ hb0).mono ?_; rintro e w2 ⟨a2, c2, rfl, ho2, hb2⟩)
          | ((with_reducible refine wpL_joinO w.heap.size w.heap.size 0 0 [] rfl (own_on hown0 hb2) (below_on hb0 hb2).size a2 c2 P ho2.strs (by omega) (by omega) ?_ ?_ ?_); rfl; rfl; intro g3 c3 w3 ho3 hb3; replace ho3 := own_copied ho3)
          | (go_at_call 21; refine (HB.out _ ((below_on hb0 hb2).trans hb3)).mono ?_; rintro e w4 ⟨rfl, hb4⟩)
          | ((with_reducible refine wpL_appendS w.heap.size _ P P.length R w4.heap.size rfl (((own_of rfl ho3).on hb4).on ((Below.refl _ _).alloc (Nat.le_refl _) _)) (Lies.new w4 _ _) (by omega) (by have := ((below_on hb0 hb2).trans hb3).size; have := hb4.size; simp; omega) ?_ ?_ ?_); rfl; rfl; intro g6 c6 w6 ho6 hb6 hk6))
        go_ret
        exact ⟨some ⟨g6, 0, none⟩, c6, by rw [HE.out, List.length_append]; rfl, by rw [HE.out, List.length_append]; exact ho6, ((below_on ((below_on hb0 hb2).trans hb3) hb4).alloc (by have := ((below_on hb0 hb2).trans hb3).size; have := hb4.size; omega) _).trans hb6⟩

set_option maxHeartbeats 1600000 in
theorem refStep_small : ∀ (f : Nat) (l : List (List UInt8)) (m : Nat) (bo : Bool) (w : World) (v : Value), l.length ≤ f → l.length ≤ 4096 → (∀ x ∈ l, x.length = 32) → 1 ≤ m → m ≤ l.length → Strs w v l →
    Calls Tryd.prog 16 #[v, .int .i64 (m : Int), .bool bo] w fun e w' => ∃ a c, e = .returned (.slice a (stepT nd e0 l m bo).reverse.length c) ∧ Own w' w.heap.size (.slice a (stepT nd e0 l m bo).reverse.length c) (stepT nd e0 l m bo).reverse ∧ Below w.heap.size w w' := by
  intro f
  induction f with
  | zero => intro l m bo w v h _ _ h1 h2; omega
  | succ f ih =>
    intro l m bo w v h h4 hx hm1 hm2 hl
    have hs := hl
    obtain ⟨a, c, rfl, hc, hm, hn, hl⟩ := hl
    unfold maxLen at hm
    obtain ⟨b, off, rfl, hcell⟩ := hl (by intro h; subst h; simp at hm2; omega)
    clear hl hn hcell
    have hown0 : (w.alloc (.cells #[] 9)).ownsRow w.heap.size 9 1 (.slice (some ⟨w.heap.size, 0, none⟩) 0 0) 0 [] := World.ownsRow_made w #[] 0 (Nat.le_refl _) (Nat.zero_le _) rfl
    have hb0 : Below w.heap.size w (w.alloc (.cells #[] 9)) := (Below.refl w.heap.size w).alloc (Nat.le_refl _) _
    by_cases h1 : m = l.length
    · subst h1
      have HP := Lib.hid (stepT_all nd e0 hm1 bo)
      have HB := Lib.hid (fun W (hw : Below w.heap.size w W) => refRoot_small l.length l W _ (Nat.le_refl _) h4 hx (hs.below hw))
      clear ih hs
      cases bo with
      | true =>
        go_enter Tryd.func16, Tryd.ntmps16
        go_wp2
        go_ret
        exact ⟨some ⟨w.heap.size, 0, none⟩, 0, by rw [HP.out]; rfl, by rw [HP.out]; exact .inl ⟨_, rfl, rfl⟩, hb0⟩
      | false =>
        have HP2 : Hid (stepT nd e0 l l.length false = [rt l]) := Lib.hid HP.out
        clear HP
        generalize rt l = R at *
        have hO0 : Own (w.alloc (.cells #[] 9)) w.heap.size (.slice (some ⟨w.heap.size, 0, none⟩) 0 0) [] := .inl ⟨_, rfl, rfl⟩
        go_enter Tryd.func16, Tryd.ntmps16
        go_wp2_with (first
          | (go_at_call 21; refine (HB.out _ hb0).mono ?_; rintro e w4 ⟨rfl, hb4⟩)
          | ((with_reducible refine wpL_appendS w.heap.size _ [] 0 R w4.heap.size rfl ((hO0.on hb4).on ((Below.refl _ _).alloc (Nat.le_refl _) _)) (Lies.new w4 _ _) (by simp) (by have := hb0.size; have := hb4.size; simp; omega) ?_ ?_ ?_); rfl; rfl; intro g6 c6 w6 ho6 hb6 hk6))
        go_ret
        exact ⟨some ⟨g6, 0, none⟩, c6, by rw [HP2.out]; rfl, by rw [HP2.out]; exact ho6, ((below_on hb0 hb4).alloc (by have := hb0.size; have := hb4.size; omega) _).trans hb6⟩
    · have hk1 := spl_lt (n := l.length) (by omega)
      have hk2 := spl_pos l.length
      have HPt := stepT_less nd e0 hm1 (show m < l.length by omega) bo
      obtain ⟨k, hk⟩ : ∃ k, spl l.length = k := ⟨_, rfl⟩
      have HL := Lib.hid (refSplit_any l.length · (by omega) (by omega))
      rw [hk] at HL hk1 hk2 HPt
      have hx1 : ∀ x ∈ l.take k, x.length = 32 := fun x hx' => hx x (List.mem_of_mem_take hx')
      have hx2 : ∀ x ∈ l.drop k, x.length = 32 := fun x hx' => hx x (List.mem_of_mem_drop hx')
      have hi1 : ¬ (m : Int) = (l.length : Int) := by omega
      by_cases hik : m ≤ k
      · rw [if_pos hik] at HPt
        have HA := Lib.hid (fun W (hw : Below w.heap.size w W) => ih (l.take k) m bo W _ (by rw [List.length_take]; omega) (by rw [List.length_take]; omega) hx1 hm1 (by rw [List.length_take]; omega) ((strs_head hs (j := k) (by omega)).below hw))
        have HB := Lib.hid (fun W (hw : Below w.heap.size w W) => refRoot_small (l.drop k).length (l.drop k) W _ (Nat.le_refl _) (by rw [List.length_drop]; omega) hx2 ((strs_tail hs (i := k) (by omega)).below hw))
        have HE : Hid ((stepT nd e0 l m bo).reverse = (stepT nd e0 (l.take k) m bo).reverse ++ [rt (l.drop k)]) := Lib.hid (by rw [HPt, List.reverse_cons])
        have hpl : (stepT nd e0 (l.take k) m bo).reverse.length ≤ 4096 := by
          have h3 := stepT_le nd e0 _ (l.take k) m bo (Nat.le_refl _) hm1 (by rw [List.length_take]; omega)
          rw [List.length_take] at h3
          rw [List.length_reverse]
          omega
        generalize (stepT nd e0 (l.take k) m bo).reverse = P at *
        generalize rt (l.drop k) = R at *
        clear ih hx1 hx2 HPt hs hk hx
        go_enter Tryd.func16, Tryd.ntmps16
        go_wp2_with (first
          | (go_at_call 28; refine (HL.out _).mono ?_; rintro e w1 ⟨rfl, rfl⟩)
          | (go_at_call 16; refine (HA.out _ hb0).mono ?_; rintro e w2 ⟨a2, c2, rfl, ho2, hb2⟩)
          | ((with_reducible refine wpL_joinO w.heap.size w.heap.size 0 0 [] rfl (own_on hown0 hb2) (below_on hb0 hb2).size a2 c2 P ho2.strs (by omega) (by omega) ?_ ?_ ?_); rfl; rfl; intro g3 c3 w3 ho3 hb3; replace ho3 := own_copied ho3)
          | (go_at_call 21; refine (HB.out _ ((below_on hb0 hb2).trans hb3)).mono ?_; rintro e w4 ⟨rfl, hb4⟩)
          | ((with_reducible refine wpL_appendS w.heap.size _ P P.length R w4.heap.size rfl (((own_of rfl ho3).on hb4).on ((Below.refl _ _).alloc (Nat.le_refl _) _)) (Lies.new w4 _ _) (by omega) (by have := ((below_on hb0 hb2).trans hb3).size; have := hb4.size; simp; omega) ?_ ?_ ?_); rfl; rfl; intro g6 c6 w6 ho6 hb6 hk6))
        go_ret
        exact ⟨some ⟨g6, 0, none⟩, c6, by rw [HE.out, List.length_append]; rfl, by rw [HE.out, List.length_append]; exact ho6, ((below_on ((below_on hb0 hb2).trans hb3) hb4).alloc (by have := ((below_on hb0 hb2).trans hb3).size; have := hb4.size; omega) _).trans hb6⟩
      · rw [if_neg hik] at HPt
        have ei : ((m - k : Nat) : Int) = (m : Int) - (k : Int) := by omega
        have HA := Lib.hid (fun W (hw : Below w.heap.size w W) => ih (l.drop k) (m - k) false W _ (by rw [List.length_drop]; omega) (by rw [List.length_drop]; omega) hx2 (by omega) (by rw [List.length_drop]; omega) ((strs_tail hs (i := k) (by omega)).below hw))
        rw [ei] at HA
        have HB := Lib.hid (fun W (hw : Below w.heap.size w W) => refRoot_small (l.take k).length (l.take k) W _ (Nat.le_refl _) (by rw [List.length_take]; omega) hx1 ((strs_head hs (j := k) (by omega)).below hw))
        have HE : Hid ((stepT nd e0 l m bo).reverse = (stepT nd e0 (l.drop k) (m - k) false).reverse ++ [rt (l.take k)]) := Lib.hid (by rw [HPt, List.reverse_cons])
        have hpl : (stepT nd e0 (l.drop k) (m - k) false).reverse.length ≤ 4096 := by
          have h3 := stepT_le nd e0 _ (l.drop k) (m - k) false (Nat.le_refl _) (by omega) (by rw [List.length_drop]; omega)
          rw [List.length_drop] at h3
          rw [List.length_reverse]
          omega
        generalize (stepT nd e0 (l.drop k) (m - k) false).reverse = P at *
        generalize rt (l.take k) = R at *
        clear ih hx1 hx2 HPt hs hk hx
        go_enter Tryd.func16, Tryd.ntmps16
        go_wp2_with (first
          | (go_at_call 28; refine (HL.out _).mono ?_; rintro e w1 ⟨rfl, rfl⟩)
          | (go_at_call 16; refine (HA.out _ hb0).mono ?_; rintro e w2 ⟨a2, c2, rfl, ho2, hb2⟩)
          | ((with_reducible refine wpL_joinO w.heap.size w.heap.size 0 0 [] rfl (own_on hown0 hb2) (below_on hb0 hb2).size a2 c2 P ho2.strs (by omega) (by omega) ?_ ?_ ?_); rfl; rfl; intro g3 c3 w3 ho3 hb3; replace ho3 := own_copied ho3)
          | (go_at_call 21; refine (HB.out _ ((below_on hb0 hb2).trans hb3)).mono ?_; rintro e w4 ⟨rfl, hb4⟩)
          | ((with_reducible refine wpL_appendS w.heap.size _ P P.length R w4.heap.size rfl (((own_of rfl ho3).on hb4).on ((Below.refl _ _).alloc (Nat.le_refl _) _)) (Lies.new w4 _ _) (by omega) (by have := ((below_on hb0 hb2).trans hb3).size; have := hb4.size; simp; omega) ?_ ?_ ?_); rfl; rfl; intro g6 c6 w6 ho6 hb6 hk6))
        go_ret
        exact ⟨some ⟨g6, 0, none⟩, c6, by rw [HE.out, List.length_append]; rfl, by rw [HE.out, List.length_append]; exact ho6, ((below_on ((below_on hb0 hb2).trans hb3) hb4).alloc (by have := ((below_on hb0 hb2).trans hb3).size; have := hb4.size; omega) _).trans hb6⟩
end Go.Proofs.YtpcckanhmdlahaaDoor.Q

/- The reference's Makes, Old and New: what paths and steps make. -/
namespace Go.Proofs.YtpcckanhmdlahaaDoor.Q
open Go.RowKit Go.Sort Go.Proofs.YtpcckanhmdlahaaDoor.U Go.Proofs.YtpcckanhmdlahaaDoor.R
set_option maxRecDepth 100000

theorem strs_lastN {w : World} {v : Value} {p : List UInt8} {r : List (List UInt8)} (h : Strs w v (p :: r).reverse) : ∃ b off c N, v = .slice (some ⟨b, off, none⟩) N c ∧ N = r.length + 1 ∧ N ≤ c ∧ c ≤ maxLen ∧ w.cell? ⟨b, off + (N - 1), none⟩ = some (str p) ∧ Strs w (.slice (some ⟨b, off, none⟩) (N - 1) c) r.reverse := by
  obtain ⟨b, off, c, hv, h1, h2, h3, h4⟩ := strs_last h
  exact ⟨b, off, c, r.length + 1, hv, rfl, h1, h2, h3, h4⟩
theorem strs_zero {w : World} {v : Value} (h : Strs w v ([] : List (List UInt8)).reverse) : ∃ a c, v = .slice a 0 c := by
  obtain ⟨a, c, rfl, _⟩ := h
  exact ⟨a, c, rfl⟩

set_option maxHeartbeats 1600000 in
theorem refMakes_any : ∀ (r : List (List UInt8)) (x : List UInt8) (i n : Nat) (w : World) (v : Value), i < n → n ≤ 4096 → x.length = 32 → (∀ y ∈ r, y.length = 32) → r.length ≤ 1000 → Strs w v r.reverse →
    Calls Tryd.prog 19 #[.string (bytesOf x), .int .i64 (i : Int), .int .i64 (n : Int), v] w fun e w' => e = .returned (.string (optB (mkP nd x r i n))) ∧ Below w.heap.size w w' := by
  intro r
  induction r with
  | nil =>
    intro x i n w v hi h4 hx hr hrl hs
    obtain ⟨a, c, rfl⟩ := strs_zero hs
    have HM := Lib.hid (mkP_nil nd x i n)
    by_cases h1 : n = 1
    · have hi1 : (n : Int) = 1 := by omega
      rw [if_pos h1] at HM
      clear h1 hs
      go_enter Tryd.func19, Tryd.ntmps19
      go_wp2
      go_ret
      exact ⟨by rw [HM.out]; rfl, Below.refl _ _⟩
    · have hi1 : ¬ (n : Int) = 1 := by omega
      rw [if_neg h1] at HM
      clear h1 hs
      go_enter Tryd.func19, Tryd.ntmps19
      go_wp2
      go_ret
      exact ⟨by rw [HM.out]; rfl, Below.refl _ _⟩
  | cons p r ih =>
    intro x i n w v hi h4 hx hr hrl hs
    obtain ⟨b, off, c, N, rfl, hN, hc, hm, hcell, hsr⟩ := strs_lastN hs
    have hrl2 : r.length + 1 ≤ 1000 := by simpa using hrl
    have hN1 : 1 ≤ N := by omega
    have hN2 : N ≤ 1000 := by omega
    have HM := Lib.hid (mkP_cons nd x p r i n)
    have hp32 := hr p (by simp)
    have hr32 : ∀ y ∈ r, y.length = 32 := fun y hy => hr y (by simp [hy])
    unfold maxLen at hm
    unfold str at hcell
    by_cases h1 : n = 1
    · have hi1 : (n : Int) = 1 := by omega
      rw [if_pos h1] at HM
      clear h1 hs hsr ih hN hr hr32 hrl hrl2
      go_enter Tryd.func19, Tryd.ntmps19
      go_wp2
      go_ret
      exact ⟨by rw [HM.out]; rfl, Below.refl _ _⟩
    · have hi1 : ¬ (n : Int) = 1 := by omega
      have hk1 := spl_lt (n := n) (by omega)
      have hk2 := spl_pos n
      rw [if_neg h1] at HM
      obtain ⟨k, hk⟩ : ∃ k, spl n = k := ⟨_, rfl⟩
      have HL := Lib.hid (refSplit_any n · (by omega) (by omega))
      rw [hk] at HL hk1 hk2 HM
      by_cases hik : i < k
      · rw [if_pos hik] at HM
        have HA := Lib.hid (fun W (hw : Below w.heap.size w W) => ih x i k W _ hik (by omega) hx hr32 (by omega) (hsr.below hw))
        cases hmk : mkP nd x r i k with
        | none =>
          rw [hmk] at HA HM
          unfold optB at HA
          clear h1 hs hsr ih hN hr hr32 hrl hrl2 hk hmk
          go_enter Tryd.func19, Tryd.ntmps19
          go_wp2_with (first
            | (go_at_call 28; refine (HL.out _).mono ?_; rintro e w1 ⟨rfl, rfl⟩)
            | (go_at_call 19; refine (HA.out _ (Below.refl _ _)).mono ?_; rintro e w2 ⟨rfl, hb2⟩))
          go_ret
          exact ⟨by rw [HM.out]; rfl, hb2⟩
        | some s =>
          rw [hmk] at HA HM
          have hs32 := mkP_32 r x i k s hx hmk
          have hne := bytes_ne hs32
          have HN := Lib.hid (fun W => refNode_any s p W (by omega) (by omega))
          clear h1 hs hsr ih hN hr hr32 hrl hrl2 hk hmk
          unfold optB at HA
          unfold bytesOf at HN
          go_enter Tryd.func19, Tryd.ntmps19
          go_wp2_with (first
            | (go_at_call 28; refine (HL.out _).mono ?_; rintro e w1 ⟨rfl, rfl⟩)
            | (go_at_call 19; refine (HA.out _ (Below.refl _ _)).mono ?_; rintro e w2 ⟨rfl, hb2⟩)
            | (go_at_call 37; refine (HN.out _).mono ?_; rintro e w3 ⟨rfl, hb3⟩))
          go_ret
          exact ⟨by rw [HM.out]; rfl, below_on hb2 hb3⟩
      · rw [if_neg hik] at HM
        have HA := Lib.hid (fun W (hw : Below w.heap.size w W) => ih x (i - k) (n - k) W _ (by omega) (by omega) hx hr32 (by omega) (hsr.below hw))
        rw [show ((i - k : Nat) : Int) = (i : Int) - (k : Int) by omega, show ((n - k : Nat) : Int) = (n : Int) - (k : Int) by omega] at HA
        cases hmk : mkP nd x r (i - k) (n - k) with
        | none =>
          rw [hmk] at HA HM
          unfold optB at HA
          clear h1 hs hsr ih hN hr hr32 hrl hrl2 hk hmk
          go_enter Tryd.func19, Tryd.ntmps19
          go_wp2_with (first
            | (go_at_call 28; refine (HL.out _).mono ?_; rintro e w1 ⟨rfl, rfl⟩)
            | (go_at_call 19; refine (HA.out _ (Below.refl _ _)).mono ?_; rintro e w2 ⟨rfl, hb2⟩))
          go_ret
          exact ⟨by rw [HM.out]; rfl, hb2⟩
        | some s =>
          rw [hmk] at HA HM
          have hs32 := mkP_32 r x _ _ s hx hmk
          have hne := bytes_ne hs32
          have HN := Lib.hid (fun W => refNode_any p s W (by omega) (by omega))
          clear h1 hs hsr ih hN hr hr32 hrl hrl2 hk hmk
          unfold optB at HA
          unfold bytesOf at HN
          go_enter Tryd.func19, Tryd.ntmps19
          go_wp2_with (first
            | (go_at_call 28; refine (HL.out _).mono ?_; rintro e w1 ⟨rfl, rfl⟩)
            | (go_at_call 19; refine (HA.out _ (Below.refl _ _)).mono ?_; rintro e w2 ⟨rfl, hb2⟩)
            | (go_at_call 37; refine (HN.out _).mono ?_; rintro e w3 ⟨rfl, hb3⟩))
          go_ret
          exact ⟨by rw [HM.out]; rfl, below_on hb2 hb3⟩
end Go.Proofs.YtpcckanhmdlahaaDoor.Q

/- The reference's Old and New: the old root and the new one that a step makes. -/
namespace Go.Proofs.YtpcckanhmdlahaaDoor.Q
open Go.RowKit Go.Sort Go.Proofs.YtpcckanhmdlahaaDoor.U Go.Proofs.YtpcckanhmdlahaaDoor.R
set_option maxRecDepth 100000

set_option maxHeartbeats 1600000 in
theorem refOld_any : ∀ (r : List (List UInt8)) (old : List UInt8) (m n : Nat) (bo : Bool) (w : World) (v : Value), 1 ≤ m → m ≤ n → n ≤ 4096 → old.length = 32 → (∀ y ∈ r, y.length = 32) → r.length ≤ 1000 → Strs w v r.reverse →
    Calls Tryd.prog 22 #[.int .i64 (m : Int), .int .i64 (n : Int), .string (bytesOf old), v, .bool bo] w fun e w' => e = .returned (.string (optB (oldS nd old r m n bo))) ∧ Below w.heap.size w w' := by
  intro r
  induction r with
  | nil =>
    intro old m n bo w v hm1 hm2 h4 ho hr hrl hs
    obtain ⟨a, c, rfl⟩ := strs_zero hs
    by_cases h1 : m = n
    · subst h1
      have HM := Lib.hid (oldS_all nd old [] m bo)
      clear hs
      cases bo with
      | true =>
        go_enter Tryd.func22, Tryd.ntmps22
        go_wp2
        go_ret
        exact ⟨by rw [HM.out]; rfl, Below.refl _ _⟩
      | false =>
        go_enter Tryd.func22, Tryd.ntmps22
        go_wp2
        go_ret
        exact ⟨by rw [HM.out]; rfl, Below.refl _ _⟩
    · have hi1 : ¬ (m : Int) = (n : Int) := by omega
      have HM : Hid (oldS nd old [] m n bo = none) := Lib.hid (by show (if m = n then _ else _) = _; rw [if_neg h1])
      clear h1 hs
      go_enter Tryd.func22, Tryd.ntmps22
      go_wp2
      go_ret
      exact ⟨by rw [HM.out]; rfl, Below.refl _ _⟩
  | cons p r ih =>
    intro old m n bo w v hm1 hm2 h4 ho hr hrl hs
    obtain ⟨b, off, c, N, rfl, hN, hc, hm, hcell, hsr⟩ := strs_lastN hs
    have hrl2 : r.length + 1 ≤ 1000 := by simpa using hrl
    have hN1 : 1 ≤ N := by omega
    have hN2 : N ≤ 1000 := by omega
    have hp32 := hr p (by simp)
    have hr32 : ∀ y ∈ r, y.length = 32 := fun y hy => hr y (by simp [hy])
    unfold maxLen at hm
    unfold str at hcell
    by_cases h1 : m = n
    · subst h1
      have HM := Lib.hid (oldS_all nd old (p :: r) m bo)
      have hi0 : ¬ (N : Int) = 0 := by omega
      cases bo with
      | true =>
        clear hs hsr ih hr hr32 hrl hrl2
        go_enter Tryd.func22, Tryd.ntmps22
        go_wp2
        go_ret
        exact ⟨by rw [HM.out]; rfl, Below.refl _ _⟩
      | false =>
        cases r with
        | nil =>
          obtain rfl : N = 1 := hN
          have hcell0 : w.cell? ⟨b, off, none⟩ = some (.string ⟨p.toArray⟩) := hcell
          clear hs hsr ih hr hr32 hrl hrl2 hcell
          go_enter Tryd.func22, Tryd.ntmps22
          go_wp2
          go_ret
          exact ⟨by rw [HM.out]; rfl, Below.refl _ _⟩
        | cons q r =>
          have hi2 : ¬ (N : Int) = 1 := by rw [hN]; simp; omega
          clear hs hsr ih hr hr32 hrl hrl2 hN
          go_enter Tryd.func22, Tryd.ntmps22
          go_wp2
          go_ret
          exact ⟨by rw [HM.out]; rfl, Below.refl _ _⟩
    · have hi1 : ¬ (m : Int) = (n : Int) := by omega
      have HM := Lib.hid (oldS_cons nd old p r m n bo)
      have hk1 := spl_lt (n := n) (by omega)
      have hk2 := spl_pos n
      rw [if_neg h1] at HM
      obtain ⟨k, hk⟩ : ∃ k, spl n = k := ⟨_, rfl⟩
      have HL := Lib.hid (refSplit_any n · (by omega) (by omega))
      rw [hk] at HL hk1 hk2 HM
      by_cases hik : m ≤ k
      · rw [if_pos hik] at HM
        have HA := Lib.hid (fun W (hw : Below w.heap.size w W) => ih old m k bo W _ hm1 hik (by omega) ho hr32 (by omega) (hsr.below hw))
        rw [← HM.out] at HA
        clear h1 hs hsr ih hN hr hr32 hrl hrl2 hk
        go_enter Tryd.func22, Tryd.ntmps22
        go_wp2_with (first
          | (go_at_call 28; refine (HL.out _).mono ?_; rintro e w1 ⟨rfl, rfl⟩)
          | (go_at_call 22; refine (HA.out _ (Below.refl _ _)).mono ?_; rintro e w2 ⟨rfl, hb2⟩))
        go_ret
        exact ⟨rfl, hb2⟩
      · rw [if_neg hik] at HM
        have HA := Lib.hid (fun W (hw : Below w.heap.size w W) => ih old (m - k) (n - k) false W _ (by omega) (by omega) (by omega) ho hr32 (by omega) (hsr.below hw))
        rw [show ((m - k : Nat) : Int) = (m : Int) - (k : Int) by omega, show ((n - k : Nat) : Int) = (n : Int) - (k : Int) by omega] at HA
        cases hmk : oldS nd old r (m - k) (n - k) false with
        | none =>
          rw [hmk] at HA HM
          unfold optB at HA
          clear h1 hs hsr ih hN hr hr32 hrl hrl2 hk hmk
          go_enter Tryd.func22, Tryd.ntmps22
          go_wp2_with (first
            | (go_at_call 28; refine (HL.out _).mono ?_; rintro e w1 ⟨rfl, rfl⟩)
            | (go_at_call 22; refine (HA.out _ (Below.refl _ _)).mono ?_; rintro e w2 ⟨rfl, hb2⟩))
          go_ret
          exact ⟨by rw [HM.out]; rfl, hb2⟩
        | some s =>
          rw [hmk] at HA HM
          have hs32 := oldS_32 r old _ _ _ s ho hr32 hmk
          have hne := bytes_ne hs32
          have HN := Lib.hid (fun W => refNode_any p s W (by omega) (by omega))
          clear h1 hs hsr ih hN hr hr32 hrl hrl2 hk hmk
          unfold optB at HA
          unfold bytesOf at HN
          go_enter Tryd.func22, Tryd.ntmps22
          go_wp2_with (first
            | (go_at_call 28; refine (HL.out _).mono ?_; rintro e w1 ⟨rfl, rfl⟩)
            | (go_at_call 22; refine (HA.out _ (Below.refl _ _)).mono ?_; rintro e w2 ⟨rfl, hb2⟩)
            | (go_at_call 37; refine (HN.out _).mono ?_; rintro e w3 ⟨rfl, hb3⟩))
          go_ret
          exact ⟨by rw [HM.out]; rfl, below_on hb2 hb3⟩

set_option maxHeartbeats 1600000 in
theorem refNew_any : ∀ (r : List (List UInt8)) (old : List UInt8) (m n : Nat) (bo : Bool) (w : World) (v : Value), 1 ≤ m → m ≤ n → n ≤ 4096 → old.length = 32 → (∀ y ∈ r, y.length = 32) → r.length ≤ 1000 → Strs w v r.reverse →
    Calls Tryd.prog 23 #[.int .i64 (m : Int), .int .i64 (n : Int), .string (bytesOf old), v, .bool bo] w fun e w' => e = .returned (.string (optB (newS nd old r m n bo))) ∧ Below w.heap.size w w' := by
  intro r
  induction r with
  | nil =>
    intro old m n bo w v hm1 hm2 h4 ho hr hrl hs
    by_cases h1 : m = n
    · subst h1
      have HO := Lib.hid (refOld_any [] old m m bo w v hm1 (Nat.le_refl _) h4 ho hr hrl hs)
      have HM := Lib.hid (show oldS nd old [] m m bo = newS nd old [] m m bo by rw [oldS_all, newS_all])
      obtain ⟨a, c, rfl⟩ := strs_zero hs
      rw [HM.out] at HO
      clear hs
      go_enter Tryd.func23, Tryd.ntmps23
      go_wp2_with (go_at_call 22; refine HO.out.mono ?_; rintro e w2 ⟨rfl, hb2⟩)
      go_ret
      exact ⟨rfl, hb2⟩
    · obtain ⟨a, c, rfl⟩ := strs_zero hs
      have hi1 : ¬ (m : Int) = (n : Int) := by omega
      have HM : Hid (newS nd old [] m n bo = none) := Lib.hid (by show (if m = n then _ else _) = _; rw [if_neg h1])
      clear h1 hs
      go_enter Tryd.func23, Tryd.ntmps23
      go_wp2
      go_ret
      exact ⟨by rw [HM.out]; rfl, Below.refl _ _⟩
  | cons p r ih =>
    intro old m n bo w v hm1 hm2 h4 ho hr hrl hs
    have HOA := Lib.hid (fun W (hw : Below w.heap.size w W) => refOld_any (p :: r) old m m bo W v hm1 (Nat.le_refl _) (by omega) ho hr hrl (hs.below hw))
    obtain ⟨b, off, c, N, rfl, hN, hc, hm, hcell, hsr⟩ := strs_lastN hs
    have hrl2 : r.length + 1 ≤ 1000 := by simpa using hrl
    have hN1 : 1 ≤ N := by omega
    have hN2 : N ≤ 1000 := by omega
    have hp32 := hr p (by simp)
    have hr32 : ∀ y ∈ r, y.length = 32 := fun y hy => hr y (by simp [hy])
    unfold maxLen at hm
    unfold str at hcell
    by_cases h1 : m = n
    · subst h1
      have HM := Lib.hid (show oldS nd old (p :: r) m m bo = newS nd old (p :: r) m m bo by rw [oldS_all, newS_all])
      have HO := Lib.hid (HOA.out w (Below.refl _ _))
      rw [HM.out] at HO
      clear HOA hs hsr ih hN hr hr32 hrl hrl2
      go_enter Tryd.func23, Tryd.ntmps23
      go_wp2_with (go_at_call 22; refine HO.out.mono ?_; rintro e w2 ⟨rfl, hb2⟩)
      go_ret
      exact ⟨rfl, hb2⟩
    · have hi1 : ¬ (m : Int) = (n : Int) := by omega
      have HM := Lib.hid (newS_cons nd old p r m n bo)
      have hk1 := spl_lt (n := n) (by omega)
      have hk2 := spl_pos n
      rw [if_neg h1] at HM
      obtain ⟨k, hk⟩ : ∃ k, spl n = k := ⟨_, rfl⟩
      have HL := Lib.hid (refSplit_any n · (by omega) (by omega))
      rw [hk] at HL hk1 hk2 HM
      by_cases hik : m ≤ k
      · rw [if_pos hik] at HM
        have HA := Lib.hid (fun W (hw : Below w.heap.size w W) => ih old m k bo W _ hm1 hik (by omega) ho hr32 (by omega) (hsr.below hw))
        cases hmk : newS nd old r m k bo with
        | none =>
          rw [hmk] at HA HM
          unfold optB at HA
          clear h1 hs hsr ih hN hr hr32 hrl hrl2 hk HOA hmk
          go_enter Tryd.func23, Tryd.ntmps23
          go_wp2_with (first
            | (go_at_call 28; refine (HL.out _).mono ?_; rintro e w1 ⟨rfl, rfl⟩)
            | (go_at_call 23; refine (HA.out _ (Below.refl _ _)).mono ?_; rintro e w2 ⟨rfl, hb2⟩))
          go_ret
          exact ⟨by rw [HM.out]; rfl, hb2⟩
        | some s =>
          rw [hmk] at HA HM
          have hs32 := newS_32 r old _ _ _ s ho hr32 hmk
          have hne := bytes_ne hs32
          have HN := Lib.hid (fun W => refNode_any s p W (by omega) (by omega))
          clear h1 hs hsr ih hN hr hr32 hrl hrl2 hk HOA hmk
          unfold optB at HA
          unfold bytesOf at HN
          go_enter Tryd.func23, Tryd.ntmps23
          go_wp2_with (first
            | (go_at_call 28; refine (HL.out _).mono ?_; rintro e w1 ⟨rfl, rfl⟩)
            | (go_at_call 23; refine (HA.out _ (Below.refl _ _)).mono ?_; rintro e w2 ⟨rfl, hb2⟩)
            | (go_at_call 37; refine (HN.out _).mono ?_; rintro e w3 ⟨rfl, hb3⟩))
          go_ret
          exact ⟨by rw [HM.out]; rfl, below_on hb2 hb3⟩
      · rw [if_neg hik] at HM
        have HA := Lib.hid (fun W (hw : Below w.heap.size w W) => ih old (m - k) (n - k) false W _ (by omega) (by omega) (by omega) ho hr32 (by omega) (hsr.below hw))
        rw [show ((m - k : Nat) : Int) = (m : Int) - (k : Int) by omega, show ((n - k : Nat) : Int) = (n : Int) - (k : Int) by omega] at HA
        cases hmk : newS nd old r (m - k) (n - k) false with
        | none =>
          rw [hmk] at HA HM
          unfold optB at HA
          clear h1 hs hsr ih hN hr hr32 hrl hrl2 hk HOA hmk
          go_enter Tryd.func23, Tryd.ntmps23
          go_wp2_with (first
            | (go_at_call 28; refine (HL.out _).mono ?_; rintro e w1 ⟨rfl, rfl⟩)
            | (go_at_call 23; refine (HA.out _ (Below.refl _ _)).mono ?_; rintro e w2 ⟨rfl, hb2⟩))
          go_ret
          exact ⟨by rw [HM.out]; rfl, hb2⟩
        | some s =>
          rw [hmk] at HA HM
          have hs32 := newS_32 r old _ _ _ s ho hr32 hmk
          have hne := bytes_ne hs32
          have HN := Lib.hid (fun W => refNode_any p s W (by omega) (by omega))
          clear h1 hs hsr ih hN hr hr32 hrl hrl2 hk HOA hmk
          unfold optB at HA
          unfold bytesOf at HN
          go_enter Tryd.func23, Tryd.ntmps23
          go_wp2_with (first
            | (go_at_call 28; refine (HL.out _).mono ?_; rintro e w1 ⟨rfl, rfl⟩)
            | (go_at_call 23; refine (HA.out _ (Below.refl _ _)).mono ?_; rintro e w2 ⟨rfl, hb2⟩)
            | (go_at_call 37; refine (HN.out _).mono ?_; rintro e w3 ⟨rfl, hb3⟩))
          go_ret
          exact ⟨by rw [HM.out]; rfl, below_on hb2 hb3⟩
end Go.Proofs.YtpcckanhmdlahaaDoor.Q

/- The contract of the statements' own call that takes few and short parts of a row (stage 9's). -/
namespace Go.Proofs.YtpcckanhmdlahaaDoor.Q
open Go.RowKit Go.Sort Go.Proofs.YtpcckanhmdlahaaDoor.U Go.Proofs.YtpcckanhmdlahaaDoor.R

/-- few parts, each cut -/
def fewQ (l : List (List UInt8)) : List (List UInt8) := (l.take 50).map (·.take 40)
theorem fewQ_length (l : List (List UInt8)) : (fewQ l).length ≤ 50 := by simp [fewQ]; omega
theorem fewQ_part {l : List (List UInt8)} {x : List UInt8} (h : x ∈ fewQ l) : x.length ≤ 40 := by
  obtain ⟨y, _, rfl⟩ := List.mem_map.1 h
  simp; omega
theorem fewQ_max (l : List (List UInt8)) : ∀ x ∈ fewQ l, x.length ≤ maxLen := fun x hx => by have := fewQ_part hx; unfold maxLen; omega

set_option maxRecDepth 100000 in
set_option maxHeartbeats 1600000 in
theorem fewQ_great (w : World) (b off c : Nat) (l : List (List UInt8)) (h0 : 0 < l.length) (hc : l.length ≤ c) (hm : c ≤ maxLen) (hx : ∀ x ∈ l, x.length ≤ maxLen)
    (hcell : ∀ i x, l[i]? = some x → w.cell? ⟨b, off + i, none⟩ = some (str x)) :
    Calls Tryd.prog 9 #[.slice (some ⟨b, off, none⟩) l.length c] w fun e w' => ∃ v, e = .returned v ∧ Strs w' v (fewQ l) ∧ Below w.heap.size w w' := by
  unfold maxLen at hm hx
  obtain ⟨i0, hi, hz0, hz1, hz2⟩ := info_parts infoStr
  have hown0 : (w.alloc (.cells #[] 9)).ownsRow w.heap.size 9 1 (.slice (some ⟨w.heap.size, 0, none⟩) 0 0) 0 [] := World.ownsRow_made w #[] 0 (Nat.le_refl _) (Nat.zero_le _) rfl
  obtain ⟨q, hq⟩ : ∃ q, (min (l.length : Int) 50).toNat = q := ⟨_, rfl⟩
  have hq50 : q ≤ 50 := by omega
  have hql : q ≤ l.length := by omega
  have hTl : (l.take 50).length = q := by rw [List.length_take]; omega
  have hlenT : ((l.take 50).map str).length = q * 1 := by rw [List.length_map, hTl, Nat.mul_one]
  have hnews : ∀ j u, ((l.take 50).map str)[j]? = some u → (w.alloc (.cells #[] 9)).cell? ((⟨b, off, none⟩ : Addr).add j) = some u := by
    intro j u hj
    rw [List.getElem?_map] at hj
    obtain ⟨x, hxj, rfl⟩ := Option.map_eq_some_iff.1 hj
    have hlj : l[j]? = some x := by rw [List.getElem?_take] at hxj; split at hxj <;> simp_all
    have h1 := hcell j x hlj
    have h2 : ((⟨b, off, none⟩ : Addr).add j) = ⟨b, off + j, none⟩ := by unfold Addr.add; split <;> simp_all
    rw [h2]
    exact (((Below.refl w.heap.size w).alloc (Nat.le_refl _) _).cell (p := ⟨b, off + j, none⟩) (World.block_lt_of_cell? w _ h1)).trans h1
  have hxT : ∀ (k : Nat) (x : List UInt8), (l.take 50)[k]? = some x → x.length ≤ 2 ^ 63 - 1 := fun k x h => hx x (List.mem_of_mem_take (List.mem_of_getElem? h))
  have hres : (l.take 50).map (·.take 40) = fewQ l := by rfl
  have HR := Lib.hid hres
  have HL := Lib.hid hTl
  have HN := Lib.hid hnews
  have HX := Lib.hid hxT
  clear hres hTl hnews hxT hx hcell
  generalize l.take 50 = T at HR HL HN HX hlenT
  go_enter Tryd.func9, Tryd.ntmps9
  go_wp2_with (at_builtin; refine wpList_append_lies _ rfl _ _ 22 (by rfl) w.heap.size 9 i0 _ 1 16 Tryd.underlying22 hi hz0 hz1 hz2 rfl (by omega) _ 0 [] (by rfl) hown0 ⟨b, off, none⟩ q c (T.map str) (by rfl) hlenT HN.out (by intro u hu; obtain ⟨x, _, rfl⟩ := List.mem_map.1 hu; rfl) (by omega) (by unfold maxLen; omega) (by omega) (by simp) (w.heap.size + 1) (by simp) ?_; intro g cap w1 hown1 hgrow1 hat1 hlt1)
  simp only [Nat.zero_add, List.nil_append] at hown1
  have hb1 : Below w.heap.size w w1 := ((Below.refl w.heap.size w).alloc (Nat.le_refl _) _).grown hgrow1 (by simp) (fun j hj => (hown0.lt j hj).1)
  clear hown0 hgrow1 hat1 hlt1 hlenT HN
  go_loopw [14] (fun i wr => ∃ k : Nat, k ≤ q ∧ i = .int .i64 k ∧ wr.ownsRow w.heap.size 9 1 (.slice (some ⟨g, 0, none⟩) q cap) q (mixL T k) ∧ Below w.heap.size w wr) (fun i _ => q - (intOf i).toNat)
  case atStart => exact ⟨0, Nat.zero_le _, rfl, by rw [mixL_zero]; exact hown1, hb1⟩
  case round =>
    obtain ⟨k, hk, rfl, ho, hb⟩ := hrel
    by_cases hlt : k < q
    · obtain ⟨x, hxk⟩ : ∃ x, T[k]? = some x := ⟨T[k]'(by have := HL.out; omega), List.getElem?_eq_getElem _⟩
      have hxl := HX.out k x hxk
      have hc1 : wr.cell? ⟨g, k, none⟩ = some (.string ⟨x.toArray⟩) := (ho.cellAt k (by omega)).trans (mixL_at hxk)
      have hf1 := ho.frozenAt k
      have hst := (ho.stored k (str (x.take 40))).1
      rw [mixL_set hxk] at hst
      have HB := Lib.hid (hb.setCell (p := ⟨g, k, none⟩) (by exact (ho.lt g rfl).1) (str (x.take 40)))
      have HS := Lib.hid hst
      have HC := Lib.hid (cut_to x)
      clear hst hxk ho hown1 hb1
      go_wp2_with fail
      go_roundw
      case rel => exact ⟨k + 1, by omega, by go_num, by rw [HC.out]; exact HS.out, by rw [HC.out]; exact HB.out⟩
      case measure => simp [intOf]; omega
    · have HK := Lib.hid (show mixL T k = (fewQ l).map str by rw [show k = T.length by have := HL.out; omega, mixL_end, HR.out])
      go_wp2_with fail
      go_ret
      exact ⟨_, rfl, Strs.owned (by rw [← HK.out]; exact ho), hb⟩

/-- an empty row -/
theorem fewQ_none (w : World) : Calls Tryd.prog 9 #[.slice none 0 0] w fun e w' => ∃ v, e = .returned v ∧ Strs w' v (fewQ []) ∧ Below w.heap.size w w' := by
  obtain ⟨i0, hi, hz0, hz1, hz2⟩ := info_parts infoStr
  have hown0 : (w.alloc (.cells #[] 9)).ownsRow w.heap.size 9 1 (.slice (some ⟨w.heap.size, 0, none⟩) 0 0) 0 [] := World.ownsRow_made w #[] 0 (Nat.le_refl _) (Nat.zero_le _) rfl
  go_enter Tryd.func9, Tryd.ntmps9
  go_wp2_with (at_builtin; refine wpList_append_own_none rfl _ _ 22 (by rfl) w.heap.size 9 i0 1 Tryd.underlying22 hi _ 0 [] (by rfl) hown0 (by rfl) ?_)
  have hb1 : Below w.heap.size w (w.alloc (.cells #[] 9)) := (Below.refl w.heap.size w).alloc (Nat.le_refl _) _
  go_loopw [14] (fun i wr => i = .int .i64 0 ∧ wr.ownsRow w.heap.size 9 1 (.slice (some ⟨w.heap.size, 0, none⟩) 0 0) 0 [] ∧ Below w.heap.size w wr) (fun _ _ => 0)
  case atStart => exact ⟨rfl, hown0, hb1⟩
  case round =>
    obtain ⟨rfl, ho, hb⟩ := hrel
    go_wp2_with fail
    go_ret
    exact ⟨_, rfl, Strs.owned (l := []) ho, hb⟩

/-- an empty row that is not nil -/
theorem fewQ_empty (w : World) (ad : Addr) (c : Nat) : Calls Tryd.prog 9 #[.slice (some ad) 0 c] w fun e w' => ∃ v, e = .returned v ∧ Strs w' v (fewQ []) ∧ Below w.heap.size w w' := by
  obtain ⟨i0, hi, hz0, hz1, hz2⟩ := info_parts infoStr
  have hown0 : (w.alloc (.cells #[] 9)).ownsRow w.heap.size 9 1 (.slice (some ⟨w.heap.size, 0, none⟩) 0 0) 0 [] := World.ownsRow_made w #[] 0 (Nat.le_refl _) (Nat.zero_le _) rfl
  go_enter Tryd.func9, Tryd.ntmps9
  go_wp2_with (at_builtin; refine wpList_append_own _ rfl _ _ 22 (by rfl) w.heap.size 9 i0 _ 1 16 Tryd.underlying22 hi hz0 hz1 hz2 rfl (by omega) _ 0 [] (by rfl) hown0 ad 0 c [] (by rfl) rfl (by intro j u hj; cases hj) (by intro u hu; cases hu) (by unfold maxLen; omega) (by omega) (by simp) ?_; intro v' w1 hown1 hgrow1 hnil1; obtain ⟨ao, cp, rfl⟩ := own_form hown1)
  simp only [Nat.zero_add, List.append_nil] at hown1
  have hb1 : Below w.heap.size w w1 := ((Below.refl w.heap.size w).alloc (Nat.le_refl _) _).grown hgrow1 (by simp) (fun j hj => (hown0.lt j hj).1)
  clear hown0 hgrow1 hnil1
  go_loopw [14] (fun i wr => i = .int .i64 0 ∧ wr.ownsRow w.heap.size 9 1 (.slice ao 0 cp) 0 [] ∧ Below w.heap.size w wr) (fun _ _ => 0)
  case atStart => exact ⟨rfl, hown1, hb1⟩
  case round =>
    obtain ⟨rfl, ho, hb⟩ := hrel
    go_wp2_with fail
    go_ret
    exact ⟨_, rfl, Strs.owned (l := []) ho, hb⟩

/-- whatever row: few of its parts, each cut -/
theorem fewQ_any (w : World) (v : Value) (l : List (List UInt8)) (hl : Strs w v l) (hx : ∀ x ∈ l, x.length ≤ maxLen) :
    Calls Tryd.prog 9 #[v] w fun e w' => ∃ v', e = .returned v' ∧ Strs w' v' (fewQ l) ∧ Below w.heap.size w w' := by
  obtain ⟨a, c, rfl, hc, hm, hn, hl⟩ := hl
  by_cases h0 : l = []
  · subst h0
    cases a with
    | none => rw [hn rfl]; exact fewQ_none w
    | some ad => exact fewQ_empty w ad c
  · obtain ⟨b, off, rfl, hcell⟩ := hl h0
    exact fewQ_great w b off c l (List.length_pos_iff.2 h0) hc hm hx hcell

end Go.Proofs.YtpcckanhmdlahaaDoor.Q

/- The contracts of the statements' own calls of stage 9: leaves' sums of data; have all 32 bytes? -/
namespace Go.Proofs.YtpcckanhmdlahaaDoor.Q
open Go.RowKit Go.Sort Go.Proofs.YtpcckanhmdlahaaDoor.U Go.Proofs.YtpcckanhmdlahaaDoor.R
set_option maxRecDepth 100000

def sumsL (data : List (List UInt8)) (k : Nat) : List (List UInt8) := ((data.take k).take 50).map (fun s => lf (s.take 50))
theorem sumsL_length (data : List (List UInt8)) (k : Nat) : (sumsL data k).length ≤ 50 := by simp [sumsL]; omega
theorem sumsL_32 (data : List (List UInt8)) (k : Nat) : ∀ x ∈ sumsL data k, x.length = 32 := by
  intro x hx
  obtain ⟨s, _, rfl⟩ := List.mem_map.1 hx
  exact lf_length _
theorem sumsL_next {data : List (List UInt8)} {k : Nat} {x : List UInt8} (h : data[k]? = some x) (hk : k < 50) : sumsL data (k + 1) = sumsL data k ++ [lf (x.take 50)] := by
  have e1 : data.take (k + 1) = data.take k ++ [x] := by rw [List.take_add_one, h]; rfl
  unfold sumsL
  rw [e1, List.take_of_length_le (l := data.take k) (by rw [List.length_take]; omega), List.take_of_length_le (by rw [List.length_append, List.length_take]; simp; omega)]
  simp
theorem sumsL_past (data : List (List UInt8)) {k : Nat} (hk : 50 ≤ k) : sumsL data (k + 1) = sumsL data k := by
  unfold sumsL
  rw [List.take_take, List.take_take, Nat.min_eq_left (by omega), Nat.min_eq_left (by omega)]

section
attribute [local irreducible] sumsL
set_option maxHeartbeats 1600000 in
theorem sums_any (data : List (List UInt8)) (v : Value) (W : World) (hs0 : Strs W v data) (hx : ∀ x ∈ data, x.length ≤ maxLen) (hT : Tab W) :
    Calls Tryd.prog 24 #[v] W fun e w' => ∃ a c, e = .returned (.slice a (sumsL data data.length).length c) ∧ Own w' W.heap.size (.slice a (sumsL data data.length).length c) (sumsL data data.length) ∧ Below W.heap.size W w' := by
  have HLf := Lib.hid (fun (x : List UInt8) (h : x.length ≤ 50) w (hb : Below W.heap.size W w) => leaf_any x w (by omega) (hT.below hb))
  obtain ⟨ao, c0, rfl, hc0, hm0, hna, hcl⟩ := hs0
  unfold maxLen at hm0 hx
  clear hT
  go_enter Tryd.func24, Tryd.ntmps24
  go_wp2
  go_loopw [3, 8] (fun lv iv wr => ∃ (k : Nat) (a : Option Addr) (c : Nat), k ≤ data.length ∧ iv = .int .i64 k ∧ lv = .slice a (sumsL data k).length c ∧ Own wr W.heap.size (.slice a (sumsL data k).length c) (sumsL data k) ∧ Below W.heap.size W wr) (fun _ iv _ => data.length - (intOf iv).toNat)
  case atStart => exact ⟨0, none, 0, Nat.zero_le _, rfl, by unfold sumsL; rfl, by unfold sumsL; exact .inl ⟨none, rfl, rfl⟩, Below.refl _ _⟩
  case round =>
    obtain ⟨k, lo, cL, hk, rfl, rfl, ho, hB⟩ := hrel
    by_cases hlt : k < data.length
    · obtain ⟨b, off, rfl, hcell⟩ := hcl (by intro h; subst h; simp at hlt)
      obtain ⟨x, hxk⟩ : ∃ x, data[k]? = some x := ⟨data[k], List.getElem?_eq_getElem hlt⟩
      have hxl := hx x (List.mem_of_getElem? hxk)
      have hc4 := hcell k x hxk
      replace hc4 := (hB.cell (p := ⟨b, off + k, none⟩) (World.block_lt_of_cell? W _ hc4)).trans hc4
      unfold str at hc4
      have h70 := sumsL_length data k
      by_cases h7 : k < 50
      · have HNx := Lib.hid (sumsL_next hxk h7)
        have hcut := cut_bytes x 50 50 rfl
        have HL1 := Lib.hid (HLf.out (x.take 50) (by rw [List.length_take]; omega) wr hB)
        unfold bytesOf at HL1
        have hsz := hB.size
        clear hxk hcell hcl
        go_wp2_with (first
          | (go_at_call 33; refine HL1.out.mono ?_; rintro e w2 ⟨rfl, hb2⟩)
          | ((with_reducible refine wpL_appendS W.heap.size _ (sumsL data k) (sumsL data k).length (lf (x.take 50)) w2.heap.size rfl ((ho.on hb2).on ((Below.refl _ _).alloc (Nat.le_refl _) _)) (Lies.new w2 _ _) (by omega) (by have := hb2.size; simp; omega) ?_ ?_ ?_); rfl; rfl; intro g6 c6 w6 ho6 hb6 hk6))
        go_roundw
        case rel => exact ⟨k + 1, some ⟨g6, 0, none⟩, c6, by omega, by go_num, by rw [HNx.out, List.length_append]; rfl, by rw [HNx.out, List.length_append]; exact ho6, ((below_on hB hb2).alloc (by have := hb2.size; omega) _).trans hb6⟩
        case measure => simp [intOf]; omega
      · have HNx := Lib.hid (sumsL_past data (k := k) (by omega))
        clear hxk hcell hcl
        go_wp2
        go_roundw
        case rel => exact ⟨k + 1, lo, cL, by omega, by go_num, by rw [HNx.out], by rw [HNx.out]; exact ho, hB⟩
        case measure => simp [intOf]; omega
    · obtain rfl : k = data.length := by omega
      clear hcl
      go_wp2
      go_ret
      exact ⟨lo, cL, rfl, ho, hB⟩
end

theorem refAll_any (w : World) (v : Value) (l : List (List UInt8)) (hl : Strs w v l) (hx : ∀ x ∈ l, x.length ≤ maxLen) :
    Calls Tryd.prog 18 #[v] w fun e w' => e = .returned (.bool (allB l)) ∧ w = w' := by
  obtain ⟨a, c, rfl, hc, hm, hn, hcl⟩ := hl
  unfold maxLen at hm hx
  go_enter Tryd.func18, Tryd.ntmps18
  go_wp2
  go_loop [7] (fun i => ∃ k : Nat, k ≤ l.length ∧ i = .int .i64 k ∧ Hid (∀ x ∈ l.take k, x.length = 32)) (fun i => l.length - (intOf i).toNat)
  case atStart => exact ⟨0, Nat.zero_le _, rfl, Lib.hid (by simp)⟩
  case round =>
    obtain ⟨k, hk, rfl, HT⟩ := hrel
    by_cases hlt : k < l.length
    · obtain ⟨b, off, rfl, hcell⟩ := hcl (by intro h; subst h; simp at hlt)
      obtain ⟨x, hxk⟩ : ∃ x, l[k]? = some x := ⟨l[k], List.getElem?_eq_getElem hlt⟩
      have hxl := hx x (List.mem_of_getElem? hxk)
      have hc4 := hcell k x hxk
      unfold str at hc4
      have hsz : (({ data := x.toArray } : ByteArray).size : Int) = (x.length : Int) := by rw [str_size]
      by_cases h32 : x.length = 32
      · have hi : ((x.length : Int) != 32) = false := by simp; omega
        have HT2 : Hid (∀ y ∈ l.take (k + 1), y.length = 32) := Lib.hid (by
          intro y hy
          rw [List.take_add_one, hxk] at hy
          rcases List.mem_append.1 hy with h | h
          · exact HT.out y h
          · have : y = x := by simpa using h
            subst this
            exact h32)
        clear hxk hcell hcl
        go_wp2
        go_round
        case rel => exact ⟨k + 1, by omega, by go_num, HT2⟩
        case measure => simp [intOf]; omega
      · have hi : ((x.length : Int) != 32) = true := by simp; omega
        have HF : Hid (allB l = false) := Lib.hid (by
          cases h : allB l with
          | false => rfl
          | true => exact absurd (allB_mem h (List.mem_of_getElem? hxk)) h32)
        clear hxk hcell hcl
        go_wp2
        go_ret
        exact ⟨ret1_of (by rw [HF.out]; rfl), rfl⟩
    · have HA : Hid (allB l = true) := Lib.hid (by
        have h1 := HT.out
        rw [List.take_of_length_le (by omega)] at h1
        exact allB_of h1)
      go_wp2
      go_ret
      exact ⟨ret1_of (by rw [HA.out]; rfl), rfl⟩
end Go.Proofs.YtpcckanhmdlahaaDoor.Q

/- The contract of the statements' own call that tells the texts whose sums a path goes through. -/
namespace Go.Proofs.YtpcckanhmdlahaaDoor.Q
open Go.RowKit Go.Sort Go.Proofs.YtpcckanhmdlahaaDoor.U Go.Proofs.YtpcckanhmdlahaaDoor.R
set_option maxRecDepth 100000

/-- a node's text -/
def txt (u : List UInt8 × List UInt8) : List UInt8 := 1 :: (u.1 ++ u.2)
theorem sum_txt (u : List UInt8 × List UInt8) : sumT (txt u) = nd u.1 u.2 := (nd_eq u.1 u.2).symm
theorem txt_inj {u v : List UInt8 × List UInt8} (h1 : u.1.length = v.1.length) (h : txt u = txt v) : u = v := by
  unfold txt at h
  injection h with _ h
  obtain ⟨a, b⟩ := List.append_inj h h1
  exact Prod.ext a b
theorem own_one {w : World} {B : Nat} (z : List UInt8) (hB : B ≤ w.heap.size) : (w.alloc (.cells #[.string ⟨z.toArray⟩] 9)).ownsRow B 9 1 (.slice (some ⟨w.heap.size, 0, none⟩) 1 1) 1 ([z].map str) :=
  ⟨rfl, .inr ⟨w.heap.size, 1, #[.string ⟨z.toArray⟩], rfl, hB, heap_alloc_new w _, Nat.le_refl _, by unfold maxLen; decide, rfl, rfl⟩⟩

theorem prs_length : ∀ (r : List (List UInt8)) (x : List UInt8) (i n : Nat), (prs nd x r i n).length ≤ r.length := by
  intro r
  induction r with
  | nil => intro x i n; exact Nat.le_refl _
  | cons p r ih =>
    intro x i n
    show (if n = 1 then [] else if i < spl n then _ else _ : List (List UInt8 × List UInt8)).length ≤ _
    split
    · exact Nat.zero_le _
    · split
      · split
        · have := ih x i (spl n)
          simp only [List.length_cons]
          omega
        · exact Nat.zero_le _
      · split
        · have := ih x (i - spl n) (n - spl n)
          simp only [List.length_cons]
          omega
        · exact Nat.zero_le _

set_option maxHeartbeats 1600000 in
theorem texts_any : ∀ (r : List (List UInt8)) (x : List UInt8) (i n : Nat) (s : List UInt8) (w : World) (v : Value), i < n → n ≤ 4096 → x.length = 32 → (∀ y ∈ r, y.length = 32) → r.length ≤ 1000 → mkP nd x r i n = some s → Strs w v r.reverse →
    Calls Tryd.prog 26 #[.string (bytesOf x), .int .i64 (i : Int), .int .i64 (n : Int), v] w fun e w' => ∃ a c, e = .returned (.slice a ((prs nd x r i n).map txt).length c) ∧ Own w' w.heap.size (.slice a ((prs nd x r i n).map txt).length c) ((prs nd x r i n).map txt) ∧ Below w.heap.size w w' := by
  intro r
  induction r with
  | nil =>
    intro x i n s w v hi h4 hx hr hrl hmk hs
    obtain ⟨a, c, rfl⟩ := strs_zero hs
    clear hs hmk
    by_cases h1 : n = 1
    · have hi1 : (n : Int) = 1 := by omega
      clear h1
      go_enter Tryd.func26, Tryd.ntmps26
      go_wp2
      go_ret
      exact ⟨none, 0, rfl, .inl ⟨none, rfl, rfl⟩, Below.refl _ _⟩
    · have hi1 : ¬ (n : Int) = 1 := by omega
      clear h1
      go_enter Tryd.func26, Tryd.ntmps26
      go_wp2
      go_ret
      exact ⟨none, 0, rfl, .inl ⟨none, rfl, rfl⟩, Below.refl _ _⟩
  | cons p r ih =>
    intro x i n s w v hi h4 hx hr hrl hmk hs
    obtain ⟨b, off, c, N, rfl, hN, hc, hm, hcell, hsr⟩ := strs_lastN hs
    have hrl2 : r.length + 1 ≤ 1000 := by simpa using hrl
    have hN1 : 1 ≤ N := by omega
    have hN2 : N ≤ 1000 := by omega
    have hN0 : ((N : Int) == 0) = false := by simp; omega
    have hp32 := hr p (by simp)
    have hr32 : ∀ y ∈ r, y.length = 32 := fun y hy => hr y (by simp [hy])
    unfold maxLen at hm
    unfold str at hcell
    by_cases h1 : n = 1
    · rw [mkP_cons, if_pos h1] at hmk
      cases hmk
    · have hi1 : ((n : Int) == 1) = false := by simp; omega
      have hk1 := spl_lt (n := n) (by omega)
      have hk2 := spl_pos n
      rw [mkP_cons, if_neg h1] at hmk
      have HL0 := fun w => refSplit_any n w (by omega) (by omega)
      by_cases hik : i < spl n
      · rw [if_pos hik] at hmk
        obtain ⟨s1, hs1, _⟩ := Option.map_eq_some_iff.1 hmk
        have HPr := Lib.hid (prs_left nd (p := p) h1 hik hs1)
        have HA := Lib.hid (fun W (hw : Below w.heap.size w W) => refMakes_any r x i (spl n) W _ (by omega) (by omega) hx hr32 (by omega) (hsr.below hw))
        have HB := Lib.hid (fun W (hw : Below w.heap.size w W) => ih x i (spl n) s1 W _ (by omega) (by omega) hx hr32 (by omega) hs1 (hsr.below hw))
        have hlen : ((prs nd x r i (spl n)).map txt).length ≤ 1000 := by
          have := prs_length r x i (spl n)
          rw [List.length_map]
          omega
        have s32 := mkP_32 r x _ _ s1 hx hs1
        rw [hs1] at HA
        unfold optB at HA
        unfold bytesOf at HA
        have HE : Hid ((prs nd x (p :: r) i n).map txt = [txt (s1, p)] ++ (prs nd x r i (spl n)).map txt) := Lib.hid (by rw [HPr.out]; rfl)
        have htx : ({ data := #[1] } : ByteArray) ++ { data := s1.toArray } ++ { data := p.toArray } = { data := (txt (s1, p)).toArray } := rfl
        clear HPr
        generalize (prs nd x r i (spl n)).map txt = P at *
        generalize txt (s1, p) = z at *
        generalize spl n = k at *
        have HL := Lib.hid HL0
        clear h1 hs hsr ih hN hr hr32 hrl hrl2 hmk hs1 HL0
        go_enter Tryd.func26, Tryd.ntmps26
        go_upto_region 4 with (go_at_call 28; refine (HL.out _).mono ?_; rintro e w1 ⟨rfl, rfl⟩)
        go_quiet (fail)
        go_upto_region 6 with fail
        have hbq := below_drawn (Below.refl w.heap.size w) nq
        generalize World.drewN w nq = wq at *
        go_wp2_with (first
          | (go_at_call 19; refine (HA.out _ hbq).mono ?_; rintro e w2 ⟨rfl, hb2⟩)
          | (go_at_call 26; refine (HB.out _ ((below_on hbq hb2).alloc (below_on hbq hb2).size _)).mono ?_; rintro e w3 ⟨a3, c3, rfl, ho3, hb3⟩)
          | ((with_reducible refine wpL_joinO w.heap.size w2.heap.size 1 1 [z] rfl (own_on (own_one z (below_on hbq hb2).size) hb3) (below_on ((below_on hbq hb2).alloc (below_on hbq hb2).size _) hb3).size a3 c3 P ho3.strs (by omega) (by omega) ?_ ?_ ?_); rfl; rfl; intro g4 c4 w4 ho4 hb4))
        go_ret
        exact ⟨some ⟨g4, 0, none⟩, c4, by rw [HE.out, List.length_append]; rfl, by rw [HE.out, List.length_append]; exact own_of (by rw [List.length_append, List.length_singleton]) ho4, (below_on ((below_on hbq hb2).alloc (below_on hbq hb2).size _) hb3).trans hb4⟩
      · rw [if_neg hik] at hmk
        obtain ⟨s1, hs1, _⟩ := Option.map_eq_some_iff.1 hmk
        have HPr := Lib.hid (prs_right nd (p := p) h1 hik hs1)
        have HA := Lib.hid (fun W (hw : Below w.heap.size w W) => refMakes_any r x (i - spl n) (n - spl n) W _ (by omega) (by omega) hx hr32 (by omega) (hsr.below hw))
        have HB := Lib.hid (fun W (hw : Below w.heap.size w W) => ih x (i - spl n) (n - spl n) s1 W _ (by omega) (by omega) hx hr32 (by omega) hs1 (hsr.below hw))
        have hlen : ((prs nd x r (i - spl n) (n - spl n)).map txt).length ≤ 1000 := by
          have := prs_length r x (i - spl n) (n - spl n)
          rw [List.length_map]
          omega
        have s32 := mkP_32 r x _ _ s1 hx hs1
        rw [hs1] at HA
        unfold optB at HA
        unfold bytesOf at HA
        rw [show ((i - spl n : Nat) : Int) = (i : Int) - (spl n : Int) by omega, show ((n - spl n : Nat) : Int) = (n : Int) - (spl n : Int) by omega] at HA HB
        have HE : Hid ((prs nd x (p :: r) i n).map txt = [txt (p, s1)] ++ (prs nd x r (i - spl n) (n - spl n)).map txt) := Lib.hid (by rw [HPr.out]; rfl)
        have htx : ({ data := #[1] } : ByteArray) ++ { data := p.toArray } ++ { data := s1.toArray } = { data := (txt (p, s1)).toArray } := rfl
        clear HPr
        generalize (prs nd x r (i - spl n) (n - spl n)).map txt = P at *
        generalize txt (p, s1) = z at *
        generalize spl n = k at *
        have HL := Lib.hid HL0
        clear h1 hs hsr ih hN hr hr32 hrl hrl2 hmk hs1 HL0
        go_enter Tryd.func26, Tryd.ntmps26
        go_upto_region 4 with (go_at_call 28; refine (HL.out _).mono ?_; rintro e w1 ⟨rfl, rfl⟩)
        go_quiet (fail)
        go_upto_region 7 with fail
        have hbq := below_drawn (Below.refl w.heap.size w) nq
        generalize World.drewN w nq = wq at *
        go_wp2_with (first
          | (go_at_call 19; refine (HA.out _ hbq).mono ?_; rintro e w2 ⟨rfl, hb2⟩)
          | (go_at_call 26; refine (HB.out _ ((below_on hbq hb2).alloc (below_on hbq hb2).size _)).mono ?_; rintro e w3 ⟨a3, c3, rfl, ho3, hb3⟩)
          | ((with_reducible refine wpL_joinO w.heap.size w2.heap.size 1 1 [z] rfl (own_on (own_one z (below_on hbq hb2).size) hb3) (below_on ((below_on hbq hb2).alloc (below_on hbq hb2).size _) hb3).size a3 c3 P ho3.strs (by omega) (by omega) ?_ ?_ ?_); rfl; rfl; intro g4 c4 w4 ho4 hb4))
        go_ret
        exact ⟨some ⟨g4, 0, none⟩, c4, by rw [HE.out, List.length_append]; rfl, by rw [HE.out, List.length_append]; exact own_of (by rw [List.length_append, List.length_singleton]) ho4, (below_on ((below_on hbq hb2).alloc (below_on hbq hb2).size _) hb3).trans hb4⟩
end Go.Proofs.YtpcckanhmdlahaaDoor.Q

/- Which parts stand beside the way up from a part with a place in it, from the lowest one up: of paths and of steps. Nothing of the program is named here. -/
namespace Go.Proofs.YtpcckanhmdlahaaDoor.Q
open Go.Proofs.YtpcckanhmdlahaaDoor.R

/-- on the left side?, from which leaf, to ahead of which -/
abbrev Part := Bool × Nat × Nat
def prtF : Nat → Nat → Nat → Nat → Nat → List Part
  | 0, _, _, _, _ => []
  | f + 1, i, s, t, n => if s = 0 then [] else if i % 2 = 1 then (true, (i - 1) * 2 ^ t, i * 2 ^ t) :: prtF f (i / 2) (s / 2) (t + 1) n else if i < s then (false, (i + 1) * 2 ^ t, min ((i + 2) * 2 ^ t) n) :: prtF f (i / 2) (s / 2) (t + 1) n else prtF f (i / 2) (s / 2) (t + 1) n
theorem prtF_succ (f i s t n : Nat) : prtF (f + 1) i s t n = if s = 0 then [] else if i % 2 = 1 then (true, (i - 1) * 2 ^ t, i * 2 ^ t) :: prtF f (i / 2) (s / 2) (t + 1) n else if i < s then (false, (i + 1) * 2 ^ t, min ((i + 2) * 2 ^ t) n) :: prtF f (i / 2) (s / 2) (t + 1) n else prtF f (i / 2) (s / 2) (t + 1) n := rfl
theorem prtF_any : ∀ (f g i s t n : Nat), s ≤ f → s ≤ g → prtF f i s t n = prtF g i s t n := by
  intro f
  induction f with
  | zero =>
    intro g i s t n hf _
    obtain rfl : s = 0 := by omega
    cases g with
    | zero => rfl
    | succ g => rw [prtF_succ, if_pos rfl]; rfl
  | succ f ih =>
    intro g i s t n hf hg
    cases g with
    | zero =>
      obtain rfl : s = 0 := by omega
      rw [prtF_succ, if_pos rfl]; rfl
    | succ g =>
      rw [prtF_succ, prtF_succ]
      by_cases h0 : s = 0
      · rw [if_pos h0, if_pos h0]
      · rw [if_neg h0, if_neg h0, ih g (i / 2) (s / 2) (t + 1) n (by omega) (by omega)]
/-- the parts: i, s are the numbers of the part with the place in it and of the last one, of 2^t leaves each; n leaves there are -/
def prt (i s t n : Nat) : List Part := prtF s i s t n
theorem prt_zero (i t n : Nat) : prt i 0 t n = [] := rfl
theorem prt_two {s : Nat} (h : 0 < s) (i t n : Nat) : prt i s t n = if i % 2 = 1 then (true, (i - 1) * 2 ^ t, i * 2 ^ t) :: prt (i / 2) (s / 2) (t + 1) n else if i < s then (false, (i + 1) * 2 ^ t, min ((i + 2) * 2 ^ t) n) :: prt (i / 2) (s / 2) (t + 1) n else prt (i / 2) (s / 2) (t + 1) n := by
  unfold prt
  rw [prtF_any s (s - 1 + 1) i s t n (Nat.le_refl _) (by omega), prtF_succ, if_neg (by omega), prtF_any (s - 1) (s / 2) (i / 2) (s / 2) (t + 1) n (by omega) (Nat.le_refl _)]
theorem prt_odd {i s : Nat} (h : i % 2 = 1) (h0 : 0 < s) (t n : Nat) : prt i s t n = (true, (i - 1) * 2 ^ t, i * 2 ^ t) :: prt (i / 2) (s / 2) (t + 1) n := by rw [prt_two h0, if_pos h]
theorem prt_even {i s : Nat} (h : i % 2 = 0) (hi : i < s) (t n : Nat) : prt i s t n = (false, (i + 1) * 2 ^ t, min ((i + 2) * 2 ^ t) n) :: prt (i / 2) (s / 2) (t + 1) n := by rw [prt_two (by omega), if_neg (by omega), if_pos hi]
theorem prt_last {i s : Nat} (h : i % 2 = 0) (hi : i = s) (t n : Nat) : prt i s t n = prt (i / 2) (s / 2) (t + 1) n := by
  subst hi
  rcases Nat.eq_zero_or_pos i with h0 | h0
  · subst h0; rfl
  · rw [prt_two h0, if_neg (by omega), if_neg (by omega)]
/-- their sides -/
theorem prt_sides : ∀ (f i s t n : Nat), s ≤ f → i ≤ s → (prt i s t n).map (·.1) = bits i s := by
  intro f
  induction f with
  | zero =>
    intro i s t n h hi
    obtain rfl : s = 0 := by omega
    rfl
  | succ f ih =>
    intro i s t n h hi
    rcases Nat.eq_zero_or_pos s with h0 | h0
    · subst h0; rfl
    · rcases Nat.mod_two_eq_zero_or_one i with h1 | h1
      · by_cases hlt : i < s
        · rw [prt_even h1 hlt, bits_even h1 hlt, List.map_cons, ih _ _ _ _ (by omega) (by omega)]
        · rw [prt_last h1 (by omega), bits_last h1 (by omega), ih _ _ _ _ (by omega) (by omega)]
      · rw [prt_odd h1 h0, bits_odd h1 hi, List.map_cons, ih _ _ _ _ (by omega) (by omega)]
theorem half_mul (s t : Nat) : s / 2 * 2 ^ (t + 1) ≤ s * 2 ^ t ∧ (s + 1) * 2 ^ t ≤ (s / 2 + 1) * 2 ^ (t + 1) := by
  have e : ∀ x, x * 2 ^ (t + 1) = (2 * x) * 2 ^ t := fun x => by rw [Nat.pow_succ, Nat.mul_comm (2 ^ t) 2, ← Nat.mul_assoc, Nat.mul_comm x 2]
  rw [e, e]
  exact ⟨Nat.mul_le_mul_right _ (by omega), Nat.mul_le_mul_right _ (by omega)⟩
theorem prt_le : ∀ (f i s t n : Nat), s ≤ f → i ≤ s → s * 2 ^ t < n → ∀ p ∈ prt i s t n, p.2.1 ≤ p.2.2 ∧ p.2.2 ≤ n := by
  intro f
  induction f with
  | zero =>
    intro i s t n h hi _ p hp
    obtain rfl : s = 0 := by omega
    cases hp
  | succ f ih =>
    intro i s t n h hi hn p hp
    rcases Nat.eq_zero_or_pos s with h0 | h0
    · subst h0; cases hp
    · have h2 := (half_mul s t).1
      have hr := ih (i / 2) (s / 2) (t + 1) n (by omega) (by omega) (by omega)
      rcases Nat.mod_two_eq_zero_or_one i with h1 | h1
      · by_cases hlt : i < s
        · rw [prt_even h1 hlt] at hp
          rcases List.mem_cons.1 hp with rfl | hp
          · have h3 : (i + 1) * 2 ^ t ≤ s * 2 ^ t := Nat.mul_le_mul_right _ (by omega)
            have h4 : (i + 1) * 2 ^ t ≤ (i + 2) * 2 ^ t := Nat.mul_le_mul_right _ (by omega)
            show (i + 1) * 2 ^ t ≤ min ((i + 2) * 2 ^ t) n ∧ min ((i + 2) * 2 ^ t) n ≤ n
            omega
          · exact hr p hp
        · rw [prt_last h1 (by omega)] at hp
          exact hr p hp
      · rw [prt_odd h1 h0] at hp
        rcases List.mem_cons.1 hp with rfl | hp
        · have h3 : i * 2 ^ t ≤ s * 2 ^ t := Nat.mul_le_mul_right _ hi
          have h4 : (i - 1) * 2 ^ t ≤ i * 2 ^ t := Nat.mul_le_mul_right _ (by omega)
          show (i - 1) * 2 ^ t ≤ i * 2 ^ t ∧ i * 2 ^ t ≤ n
          omega
        · exact hr p hp
theorem prt_length : ∀ (f i s t n : Nat), s < 2 ^ f → (prt i s t n).length ≤ f := by
  intro f
  induction f with
  | zero =>
    intro i s t n h
    obtain rfl : s = 0 := by simp at h; exact h
    exact Nat.le_refl _
  | succ f ih =>
    intro i s t n h
    rw [Nat.pow_succ] at h
    have h2 := ih (i / 2) (s / 2) (t + 1) n (by omega)
    rcases Nat.eq_zero_or_pos s with h0 | h0
    · subst h0; exact Nat.zero_le _
    · rw [prt_two h0]
      split
      · rw [List.length_cons]; omega
      · split
        · rw [List.length_cons]; omega
        · omega
/-- the place in the first half, the last one in the second -/
theorem prt_low : ∀ (j i s t n : Nat), i < 2 ^ j → 2 ^ j ≤ s → s < 2 * 2 ^ j → s * 2 ^ t < n → n ≤ (s + 1) * 2 ^ t → prt i s t n = prt i (2 ^ j - 1) t (2 ^ (j + t)) ++ [(false, 2 ^ (j + t), n)] := by
  intro j
  induction j with
  | zero =>
    intro i s t n hi h1 h2 h3 h4
    obtain rfl : i = 0 := by simpa using hi
    obtain rfl : s = 1 := by simp at h1 h2; omega
    rw [prt_even (by decide) (by decide), show 1 / 2 = 0 from rfl, prt_zero]
    have h5 : (1 + 1) * 2 ^ t = (0 + 2) * 2 ^ t := rfl
    rw [Nat.min_eq_right (by omega), Nat.zero_add, Nat.zero_add, Nat.one_mul]
    rfl
  | succ j ih =>
    intro i s t n hi h1 h2 h3 h4
    obtain ⟨k1, k2⟩ := half_mul s t
    have hJ : 2 ^ (j + 1 + t) = 2 ^ (j + 1) * 2 ^ t := Nat.pow_add _ _ _
    have hl1 : 2 ^ (j + 1) * 2 ^ t ≤ s * 2 ^ t := Nat.mul_le_mul_right _ h1
    have e0 : 2 ^ (j + 1) = 2 * 2 ^ j := by rw [Nat.pow_succ]; omega
    have hp := Nat.pow_pos (n := j) (show 0 < 2 by decide)
    have e : (2 ^ (j + 1) - 1) / 2 = 2 ^ j - 1 := by omega
    have h5 := ih (i / 2) (s / 2) (t + 1) n (by omega) (by omega) (by omega) (by omega) (by omega)
    rw [show j + (t + 1) = j + 1 + t by omega] at h5
    rcases Nat.mod_two_eq_zero_or_one i with h0 | h0
    · have h6 : (i + 2) * 2 ^ t ≤ 2 ^ (j + 1) * 2 ^ t := Nat.mul_le_mul_right _ (by omega)
      rw [prt_even h0 (by omega), prt_even h0 (s := 2 ^ (j + 1) - 1) (by omega), h5, e, Nat.min_eq_left (by omega), Nat.min_eq_left (by omega)]
      rfl
    · rw [prt_odd h0 (by omega), prt_odd h0 (s := 2 ^ (j + 1) - 1) (by omega), h5, e]
      rfl
/-- from so many leaves on -/
def shift (k : Nat) (p : Part) : Part := (p.1, p.2.1 + k, p.2.2 + k)
/-- both in the second half -/
theorem prt_high : ∀ (j a b t n : Nat), a ≤ b → b < 2 ^ j → (2 ^ j + b) * 2 ^ t < n → n ≤ (2 ^ j + b + 1) * 2 ^ t → prt (2 ^ j + a) (2 ^ j + b) t n = (prt a b t (n - 2 ^ (j + t))).map (shift (2 ^ (j + t))) ++ [(true, 0, 2 ^ (j + t))] := by
  intro j
  induction j with
  | zero =>
    intro a b t n hab hb h3 h4
    obtain rfl : b = 0 := by simpa using hb
    obtain rfl : a = 0 := by omega
    rw [prt_odd (i := 2 ^ 0 + 0) (by decide) (by decide), show (2 ^ 0 + 0) / 2 = 0 from rfl, prt_zero, prt_zero]
    rw [show 2 ^ 0 + 0 = 1 from rfl, Nat.one_mul, Nat.sub_self, Nat.zero_mul, Nat.zero_add]
    rfl
  | succ j ih =>
    intro a b t n hab hb h3 h4
    obtain ⟨k1, k2⟩ := half_mul (2 ^ (j + 1) + b) t
    have hJ : 2 ^ (j + 1 + t) = 2 ^ (j + 1) * 2 ^ t := Nat.pow_add _ _ _
    have e0 : 2 ^ (j + 1) = 2 * 2 ^ j := by rw [Nat.pow_succ]; omega
    have hp := Nat.pow_pos (n := j) (show 0 < 2 by decide)
    have e1 : (2 ^ (j + 1) + a) / 2 = 2 ^ j + a / 2 := by omega
    have e2 : (2 ^ (j + 1) + b) / 2 = 2 ^ j + b / 2 := by omega
    rw [e2] at k1 k2
    have h5 := ih (a / 2) (b / 2) (t + 1) n (by omega) (by omega) (by omega) (by omega)
    rw [show j + (t + 1) = j + 1 + t by omega] at h5
    have hK : ∀ x, (2 ^ (j + 1) + x) * 2 ^ t = x * 2 ^ t + 2 ^ (j + 1 + t) := fun x => by rw [Nat.add_mul, hJ, Nat.add_comm]
    have hKn : 2 ^ (j + 1 + t) ≤ n := by have := hK b; omega
    rcases Nat.mod_two_eq_zero_or_one a with h0 | h0
    · by_cases hlt : a < b
      · rw [prt_even (i := 2 ^ (j + 1) + a) (by omega) (by omega), prt_even h0 hlt, e1, e2, h5]
        have h6 : min ((2 ^ (j + 1) + (a + 2)) * 2 ^ t) n = min ((a + 2) * 2 ^ t) (n - 2 ^ (j + 1 + t)) + 2 ^ (j + 1 + t) := by rw [hK]; omega
        rw [show 2 ^ (j + 1) + a + 2 = 2 ^ (j + 1) + (a + 2) by omega, h6, show 2 ^ (j + 1) + a + 1 = 2 ^ (j + 1) + (a + 1) by omega, hK]
        rfl
      · rw [prt_last (i := 2 ^ (j + 1) + a) (by omega) (by omega), prt_last h0 (by omega), e1, e2, h5]
    · rw [prt_odd (i := 2 ^ (j + 1) + a) (by omega) (by omega), prt_odd h0 (by omega), e1, e2, h5]
      rw [show 2 ^ (j + 1) + a - 1 = 2 ^ (j + 1) + (a - 1) by omega, hK, hK]
      rfl

/-! ### roots of parts -/
section
variable {α : Type} (nd : α → α → α) (e : α)
def cutL (l : List α) (a b : Nat) : List α := (l.drop a).take (b - a)
def rootP (l : List α) (p : Part) : α := rootL nd e (cutL l p.2.1 p.2.2)
theorem cutL_head (l : List α) (a b k : Nat) (h : b ≤ k) : cutL (l.take k) a b = cutL l a b := by
  unfold cutL
  rw [List.drop_take, List.take_take, Nat.min_eq_left (by omega)]
theorem cutL_tail (l : List α) (a b k : Nat) : cutL (l.drop k) a b = cutL l (a + k) (b + k) := by
  unfold cutL
  rw [List.drop_drop, show b + k - (a + k) = b - a by omega, Nat.add_comm k a]
theorem rootP_head (l : List α) (p : Part) (k : Nat) (h : p.2.2 ≤ k) : rootP nd e (l.take k) p = rootP nd e l p := by
  unfold rootP
  rw [cutL_head l _ _ k h]
theorem rootP_tail (l : List α) (p : Part) (k : Nat) : rootP nd e (l.drop k) p = rootP nd e l (shift k p) := by
  unfold rootP shift
  rw [cutL_tail]
theorem rootP_all (l : List α) (a n : Nat) (b : Bool) (h : n = l.length) : rootP nd e l (b, a, n) = rootL nd e (l.drop a) := by
  show rootL nd e ((l.drop a).take (n - a)) = _
  rw [List.take_of_length_le (by rw [List.length_drop]; omega)]
theorem rootP_zero (l : List α) (k : Nat) (b : Bool) : rootP nd e l (b, 0, k) = rootL nd e (l.take k) := rfl
theorem roots_head (l : List α) (ps : List Part) (k : Nat) (h : ∀ p ∈ ps, p.2.2 ≤ k) : ps.map (rootP nd e (l.take k)) = ps.map (rootP nd e l) := List.map_congr_left fun p hp => rootP_head nd e l p k (h p hp)
theorem roots_tail (l : List α) (ps : List Part) (k : Nat) : ps.map (rootP nd e (l.drop k)) = (ps.map (shift k)).map (rootP nd e l) := by
  rw [List.map_map]
  exact List.map_congr_left fun p _ => rootP_tail nd e l p k
/-- a path from the leaf up: the roots of the parts beside -/
theorem path_parts : ∀ (f : Nat) (l : List α) (i : Nat), l.length ≤ f → i < l.length → (pathT nd e l i).reverse = (prt i (l.length - 1) 0 l.length).map (rootP nd e l) := by
  intro f
  induction f with
  | zero => intro l i h hi; omega
  | succ f ih =>
    intro l i h hi
    by_cases h1 : l.length ≤ 1
    · rw [pathT_one nd e h1, show l.length - 1 = 0 by omega, prt_zero]
      rfl
    · have hs := spl_lt (n := l.length) (by omega)
      have hp := spl_pos l.length
      have hl := le_spl l.length
      rw [pathT_two nd e (by omega)]
      by_cases hk : i < spl l.length
      · have hlt : (l.take (spl l.length)).length = spl l.length := by rw [List.length_take]; omega
        rw [if_pos hk, List.reverse_cons, ih _ i (by omega) (by omega), hlt]
        have hb : ∀ p ∈ prt i (spl l.length - 1) 0 (spl l.length), p.2.2 ≤ spl l.length := fun p hp' => (prt_le _ i _ 0 _ (Nat.le_refl _) (by omega) (by omega) p hp').2
        rw [roots_head nd e l _ _ hb]
        have hlow := prt_low (l.length - 1).log2 i (l.length - 1) 0 l.length hk (by unfold spl at *; omega) (by unfold spl at *; omega) (by omega) (by omega)
        rw [hlow, List.map_append, List.map_cons, List.map_nil, rootP_all nd e l _ _ _ rfl]
        rfl
      · have hld : (l.drop (spl l.length)).length = l.length - spl l.length := by rw [List.length_drop]
        rw [if_neg hk, List.reverse_cons, ih _ (i - spl l.length) (by omega) (by omega), hld, roots_tail]
        have hhigh := prt_high (l.length - 1).log2 (i - spl l.length) (l.length - spl l.length - 1) 0 l.length (by omega) (by unfold spl at *; omega) (by unfold spl at *; omega) (by unfold spl at *; omega)
        rw [show 2 ^ (l.length - 1).log2 + (i - spl l.length) = i by unfold spl at *; omega, show 2 ^ (l.length - 1).log2 + (l.length - spl l.length - 1) = l.length - 1 by unfold spl at *; omega] at hhigh
        rw [hhigh, List.map_append, List.map_cons, List.map_nil, rootP_zero]
        rfl
end

/-! ### where steps begin -/
theorem trail_mul : ∀ (f x : Nat), x ≤ f → x + 1 = (x / 2 ^ trail x + 1) * 2 ^ trail x ∧ (x / 2 ^ trail x) % 2 = 0 := by
  intro f
  induction f with
  | zero =>
    intro x h
    obtain rfl : x = 0 := by omega
    rw [trail_zero]
    decide
  | succ f ih =>
    intro x h
    rcases Nat.mod_two_eq_zero_or_one x with h1 | h1
    · rw [trail_even h1]
      simp
      exact h1
    · obtain ⟨i1, i2⟩ := ih (x / 2) (by omega)
      have e : x / 2 ^ (trail (x / 2) + 1) = x / 2 / 2 ^ trail (x / 2) := by rw [Nat.pow_succ, Nat.mul_comm, Nat.div_div_eq_div_mul]
      rw [trail_odd h1, e]
      refine ⟨?_, i2⟩
      rw [Nat.pow_succ, ← Nat.mul_assoc, ← i1]
      omega
theorem sdB_bits : ∀ (f x s : Nat), x ≤ f → sdB x s = bits (x / 2 ^ trail x) (s / 2 ^ trail x) := by
  intro f
  induction f with
  | zero =>
    intro x s h
    obtain rfl : x = 0 := by omega
    rw [sdB_even (by decide), trail_zero, Nat.pow_zero, Nat.div_one, Nat.div_one]
  | succ f ih =>
    intro x s h
    rcases Nat.mod_two_eq_zero_or_one x with h1 | h1
    · rw [sdB_even h1, trail_even h1, Nat.pow_zero, Nat.div_one, Nat.div_one]
    · have e : ∀ y, y / 2 ^ (trail (x / 2) + 1) = y / 2 / 2 ^ trail (x / 2) := fun y => by rw [Nat.pow_succ, Nat.mul_comm, Nat.div_div_eq_div_mul]
      rw [sdB_odd h1, trail_odd h1, e, e, ih (x / 2) (s / 2) (by omega)]
theorem strip_div : ∀ (f x : Nat), x ≤ f → strip x = x / 2 ^ trail x := by
  intro f
  induction f with
  | zero =>
    intro x h
    obtain rfl : x = 0 := by omega
    rfl
  | succ f ih =>
    intro x h
    rcases Nat.mod_two_eq_zero_or_one x with h1 | h1
    · rw [strip_even h1, trail_even h1, Nat.pow_zero, Nat.div_one]
    · have e : x / 2 ^ (trail (x / 2) + 1) = x / 2 / 2 ^ trail (x / 2) := by rw [Nat.pow_succ, Nat.mul_comm, Nat.div_div_eq_div_mul]
      rw [strip_odd h1, trail_odd h1, e, ih (x / 2) (by omega)]
/-- the level of the last whole part of the first m -/
def lev (m : Nat) : Nat := trail (m - 1)
/-- that is all of them -/
def whole (m : Nat) : Bool := decide (m = 2 ^ lev m)
theorem lev_mul {m : Nat} (h : 1 ≤ m) : m = ((m - 1) / 2 ^ lev m + 1) * 2 ^ lev m ∧ ((m - 1) / 2 ^ lev m) % 2 = 0 := by
  have h1 := trail_mul (m - 1) (m - 1) (Nat.le_refl _)
  rw [show m - 1 + 1 = m by omega] at h1
  exact h1
theorem lev_le {m : Nat} (h : 1 ≤ m) : 2 ^ lev m ≤ m := by
  have h1 := (lev_mul h).1
  have h2 : 1 * 2 ^ lev m ≤ ((m - 1) / 2 ^ lev m + 1) * 2 ^ lev m := Nat.mul_le_mul_right _ (Nat.le_add_left 1 _)
  omega
theorem whole_strip {m : Nat} (h : 1 ≤ m) : whole m = true ↔ strip (m - 1) = 0 := by
  have h1 := (lev_mul h).1
  have h2 := strip_div (m - 1) (m - 1) (Nat.le_refl _)
  have hp := Nat.pow_pos (n := lev m) (show 0 < 2 by decide)
  unfold whole
  rw [decide_eq_true_eq, h2]
  change m = 2 ^ lev m ↔ (m - 1) / 2 ^ lev m = 0
  constructor
  · intro h3
    rw [Nat.div_eq_of_lt (by omega)]
  · intro h3
    rw [h3, Nat.zero_add, Nat.one_mul] at h1
    exact h1
/-- a step's sides, and where it begins -/
theorem sd_parts {m n : Nat} (h1 : 1 ≤ m) (h2 : m < n) : (sdT m n).reverse = (prt ((m - 1) / 2 ^ lev m) ((n - 1) / 2 ^ lev m) (lev m) n).map (·.1) ∧ ((true ∉ sdT m n) ↔ whole m = true) := by
  have h3 := sd_bits n m n (Nat.le_refl _) h1 h2
  have h4 := sdB_bits (m - 1) (m - 1) (n - 1) (Nat.le_refl _)
  have h5 := sdB_left (m - 1) (m - 1) (n - 1) (Nat.le_refl _) (by omega)
  refine ⟨?_, ?_⟩
  · rw [prt_sides _ _ _ _ _ (Nat.le_refl _) (Nat.div_le_div_right (by omega)), h3, h4]
    rfl
  · rw [whole_strip h1, ← List.mem_reverse, h3, h5]
    omega
theorem pow_le_inv {a b : Nat} (h : 2 ^ a ≤ 2 ^ b) : a ≤ b := (Nat.pow_le_pow_iff_right (by decide)).1 h
theorem div_low {J t : Nat} (h : t ≤ J) : (2 ^ J - 1) / 2 ^ t = 2 ^ (J - t) - 1 := by
  have e : 2 ^ J = 2 ^ (J - t) * 2 ^ t := by rw [← Nat.pow_add, show J - t + t = J by omega]
  have hp := Nat.pow_pos (n := t) (show 0 < 2 by decide)
  have hq := Nat.pow_pos (n := J - t) (show 0 < 2 by decide)
  rw [e]
  generalize 2 ^ (J - t) = q at *
  generalize 2 ^ t = p at *
  obtain ⟨q, rfl⟩ : ∃ x, q = x + 1 := ⟨q - 1, by omega⟩
  rw [Nat.add_sub_cancel]
  refine Nat.div_eq_of_lt_le ?_ ?_
  · rw [Nat.add_mul]; omega
  · have : 0 < (q + 1) * p := Nat.mul_pos (by omega) hp
    show _ < (q + 1) * p
    omega

section
variable {α : Type} (nd : α → α → α) (e : α)
def headS (b : Bool) (l : List α) (m : Nat) : List α := if b = true ∧ whole m = true then [] else [rootL nd e (cutL l (m - 2 ^ lev m) m)]
theorem step_parts : ∀ (f : Nat) (l : List α) (m : Nat) (b : Bool), l.length ≤ f → 1 ≤ m → (m < l.length ∨ m = l.length ∧ ∃ j, m = 2 ^ j) → (stepT nd e l m b).reverse = headS nd e b l m ++ (prt ((m - 1) / 2 ^ lev m) ((l.length - 1) / 2 ^ lev m) (lev m) l.length).map (rootP nd e l) := by
  intro f
  induction f with
  | zero => intro l m b h h1 h2; omega
  | succ f ih =>
    intro l m b h h1 h2
    have hlp := Nat.pow_pos (n := lev m) (show 0 < 2 by decide)
    obtain ⟨hm1, hm2⟩ := lev_mul h1
    by_cases hm : m = l.length
    · obtain ⟨j, hj⟩ : ∃ j, m = 2 ^ j := by
        rcases h2 with h2 | ⟨_, h2⟩
        · omega
        · exact h2
      have hlev : lev m = j := by unfold lev; rw [hj, (trail_full j).1]
      have hw : whole m = true := by unfold whole; rw [decide_eq_true_eq, hlev, ← hj]
      have hz : (l.length - 1) / 2 ^ lev m = 0 := by rw [hlev, ← hj]; exact Nat.div_eq_of_lt (by omega)
      rw [hz, prt_zero, List.map_nil, List.append_nil]
      unfold headS
      rw [hlev, ← hj, Nat.sub_self]
      subst hm
      rw [stepT_all nd e h1]
      cases b with
      | true => rw [if_pos rfl, if_pos ⟨rfl, hw⟩]; rfl
      | false =>
        rw [if_neg (by decide), if_neg (by simp)]
        unfold cutL
        rw [List.drop_zero, Nat.sub_zero, List.take_length]
        rfl
    · have hlt : m < l.length := by rcases h2 with h2 | ⟨h2, _⟩ <;> omega
      have hs := spl_lt (n := l.length) (by omega)
      have hp := spl_pos l.length
      have hl := le_spl l.length
      obtain ⟨J, hJ⟩ : ∃ J, spl l.length = 2 ^ J := ⟨_, rfl⟩
      rw [stepT_less nd e h1 hlt]
      generalize spl l.length = k at *
      subst hJ
      by_cases hk : m ≤ 2 ^ J
      · have ht : lev m ≤ J := pow_le_inv (Nat.le_trans (lev_le h1) hk)
        have hJt : 2 ^ J = 2 ^ (J - lev m) * 2 ^ lev m := by rw [← Nat.pow_add, show J - lev m + lev m = J by omega]
        have hq := Nat.pow_pos (n := J - lev m) (show 0 < 2 by decide)
        have hlt2 : (l.take (2 ^ J)).length = 2 ^ J := by rw [List.length_take]; omega
        have d1 := Nat.div_add_mod (l.length - 1) (2 ^ lev m)
        have d2 := Nat.mod_lt (l.length - 1) hlp
        rw [Nat.mul_comm] at d1
        have h3 := ih (l.take (2 ^ J)) m b (by omega) h1 (by rw [hlt2]; rcases Nat.lt_or_eq_of_le hk with h | h; exact .inl h; exact .inr ⟨h, J, h⟩)
        rw [if_pos hk, List.reverse_cons, h3, hlt2]
        have hb : ∀ p ∈ prt ((m - 1) / 2 ^ lev m) ((2 ^ J - 1) / 2 ^ lev m) (lev m) (2 ^ J), p.2.2 ≤ 2 ^ J := fun p hp' => (prt_le _ _ _ _ _ (Nat.le_refl _) (Nat.div_le_div_right (by omega)) (by have := Nat.div_mul_le_self (2 ^ J - 1) (2 ^ lev m); omega) p hp').2
        have hlow := prt_low (J - lev m) ((m - 1) / 2 ^ lev m) ((l.length - 1) / 2 ^ lev m) (lev m) l.length (by rw [Nat.div_lt_iff_lt_mul hlp, ← hJt]; omega) (by rw [Nat.le_div_iff_mul_le hlp, ← hJt]; omega) (by rw [Nat.div_lt_iff_lt_mul hlp, Nat.mul_assoc, ← hJt]; omega) (by omega) (by rw [Nat.add_mul]; omega)
        rw [show J - lev m + lev m = J by omega, ← div_low ht] at hlow
        rw [roots_head nd e l _ _ hb, hlow, List.map_append, List.map_cons, List.map_nil, rootP_all nd e l _ _ _ rfl, ← List.append_assoc]
        congr 2
        unfold headS
        rw [cutL_head l _ _ _ hk]
      · have hld : (l.drop (2 ^ J)).length = l.length - 2 ^ J := by rw [List.length_drop]
        have htop : top (m - 1) = 2 ^ J := top_is (by omega) (by omega)
        have ht0 := trail_top (m - 1) (m - 1) (Nat.le_refl _) (by omega) (by rw [htop]; omega)
        have hlev : lev (m - 2 ^ J) = lev m := by
          unfold lev
          rw [ht0, htop, show m - 1 - 2 ^ J = m - 2 ^ J - 1 by omega]
        have hw : whole m = false := by
          cases hw : whole m with
          | false => rfl
          | true =>
            unfold whole at hw
            rw [decide_eq_true_eq] at hw
            exfalso
            have a1 : 2 ^ J < 2 ^ lev m := by omega
            have a2 : 2 ^ lev m < 2 * 2 ^ J := by omega
            have := pow_between (a := lev m) (b := J) a2 (by omega)
            rw [this] at a1
            omega
        have ht : lev m ≤ J := by
          have h5 := lev_le (m := m - 2 ^ J) (by omega)
          rw [hlev] at h5
          exact pow_le_inv (by omega)
        have hJt : 2 ^ J = 2 ^ (J - lev m) * 2 ^ lev m := by rw [← Nat.pow_add, show J - lev m + lev m = J by omega]
        have d1 := Nat.div_add_mod (l.length - 1) (2 ^ lev m)
        have d2 := Nat.mod_lt (l.length - 1) hlp
        rw [Nat.mul_comm] at d1
        have e1 : ∀ x, (2 ^ J + x) / 2 ^ lev m = 2 ^ (J - lev m) + x / 2 ^ lev m := fun x => by rw [hJt, Nat.add_comm, Nat.add_mul_div_right _ _ hlp, Nat.add_comm]
        have h3 := ih (l.drop (2 ^ J)) (m - 2 ^ J) false (by omega) (by omega) (.inl (by omega))
        rw [hlev, hld] at h3
        rw [if_neg hk, List.reverse_cons, h3, roots_tail]
        have em := e1 (m - 2 ^ J - 1)
        have en := e1 (l.length - 2 ^ J - 1)
        rw [show 2 ^ J + (m - 2 ^ J - 1) = m - 1 by omega] at em
        rw [show 2 ^ J + (l.length - 2 ^ J - 1) = l.length - 1 by omega] at en
        have hhigh := prt_high (J - lev m) ((m - 2 ^ J - 1) / 2 ^ lev m) ((l.length - 2 ^ J - 1) / 2 ^ lev m) (lev m) l.length (Nat.div_le_div_right (by omega)) (by rw [Nat.div_lt_iff_lt_mul hlp, ← hJt]; omega) (by rw [← en]; omega) (by rw [← en, Nat.add_mul]; omega)
        rw [show J - lev m + lev m = J by omega, ← em, ← en] at hhigh
        rw [hhigh, List.map_append, List.map_cons, List.map_nil, rootP_zero, ← List.append_assoc]
        congr 2
        unfold headS
        rw [hw, hlev, cutL_tail, show m - 2 ^ J + 2 ^ J = m by omega, if_neg (by simp), if_neg (by simp)]
        have h5 := lev_le (m := m - 2 ^ J) (by omega)
        rw [hlev] at h5
        rw [show m - 2 ^ J - 2 ^ lev m + 2 ^ J = m - 2 ^ lev m by omega]
end

/-! ### the texts of what a path goes through -/
section
variable {α : Type} (nd : α → α → α)
def pairB (b : Bool) (x p : α) : α × α := if b then (p, x) else (x, p)
/-- both sums of each node, the lowest first -/
def upT : α → List Bool → List α → List (α × α)
  | x, b :: bs, p :: ps => pairB b x p :: upT (nodeB nd b x p) bs ps
  | _, _, _ => []
theorem upT_snoc : ∀ (bs : List Bool) (ps : List α) (x p s : α) (b : Bool), mkUp nd x bs ps = some s → upT nd x (bs ++ [b]) (ps ++ [p]) = upT nd x bs ps ++ [pairB b s p] := by
  intro bs
  induction bs with
  | nil =>
    intro ps x p s b h
    cases ps with
    | nil => obtain rfl : x = s := by injection h
             rfl
    | cons q ps => cases h
  | cons c bs ih =>
    intro ps x p s b h
    cases ps with
    | nil => cases h
    | cons q ps =>
      show pairB c x q :: upT nd (nodeB nd c x q) (bs ++ [b]) (ps ++ [p]) = _
      rw [ih ps _ p s b h]
      rfl
theorem prs_up : ∀ (r : List α) (x s : α) (i n : Nat), i < n → mkP nd x r i n = some s → (prs nd x r i n).reverse = upT nd x (sideT i n).reverse r.reverse := by
  intro r
  induction r with
  | nil =>
    intro x s i n hi h
    show [] = _
    cases (sideT i n).reverse <;> rfl
  | cons p r ih =>
    intro x s i n hi h
    rw [mkP_cons] at h
    by_cases h1 : n = 1
    · rw [if_pos h1] at h
      cases h
    · rw [if_neg h1] at h
      by_cases hk : i < spl n
      · rw [if_pos hk] at h
        obtain ⟨a, ha, _⟩ := Option.map_eq_some_iff.1 h
        rw [prs_left nd h1 hk ha, sideT_two (by omega), if_pos hk, List.reverse_cons, List.reverse_cons, List.reverse_cons, upT_snoc nd _ _ x p a false (by rw [← mkP_up nd r x i (spl n) hk]; exact ha), ih x a i (spl n) hk ha]
        rfl
      · rw [if_neg hk] at h
        obtain ⟨a, ha, _⟩ := Option.map_eq_some_iff.1 h
        rw [prs_right nd h1 hk ha, sideT_two (by omega), if_neg hk, List.reverse_cons, List.reverse_cons, List.reverse_cons, upT_snoc nd _ _ x p a true (by rw [← mkP_up nd r x _ (n - spl n) (by omega)]; exact ha), ih x a _ (n - spl n) (by omega) ha]
        rfl
end
end Go.Proofs.YtpcckanhmdlahaaDoor.Q

