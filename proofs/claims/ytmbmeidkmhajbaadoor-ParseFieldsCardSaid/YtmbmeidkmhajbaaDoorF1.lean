/- Texts that stand on one another, put together: Base, RowsMath, Strs, Frame, VMath, VMem, VLies, VReg, VText, VKeys, VLess, VRoom, VStrEq, VRow. -/
import Derived.BigQuiet
import Derived.ChangeOld
import Derived.ChangeSame
import Derived.Deep.MidRow
import Derived.Deep.QuietTactic
import Derived.Deep.Slices
import Derived.Laws.Bits64
import Derived.Laws.BitsLemmas
import Derived.Lib.Bytealg
import Derived.Lib.Hide
import Derived.Lib.ItoaMem
import Derived.Lib.QuietBelow
import Derived.Lib.SmallJoins
import Derived.Lib.Strings
import Derived.Lib.UnsafeStr
import Derived.OpenShut
import Derived.ProofKit
import Derived.ShutString
import Derived.SliceStrings
import Derived.Test.YtmbmeidkmhajbaaDoorProg
import Derived.Test.YtmbmeidkmhajbaaDoorRows
import Derived.WalkKit
import Derived.WalkLawsBesides
import Derived.WalkSpells
/- Small facts that every walk wants: the byte type's row of the table; a slice of bytes that the call owns, turned into a string. -/
namespace Go.Proofs.YtmbmeidkmhajbaaDoor
open Go.RowKit

theorem ret1_of {a b : Value} (h : a = b) : Ending.returned a = .returned b := by rw [h]
/-- one call more -/
theorem below_on {W w1 w2 : World} (hb : Below W.heap.size W w1) (h2 : Below w1.heap.size w1 w2) : Below W.heap.size W w2 := hb.trans (h2.mono hb.size)

theorem info5 : (Tryd.prog.info? 5).map (fun i => (i.zero, i.size, i.bytes)) = some (some (.int .u8 0), 1, 1) := by kernel_rfl

/-- 'string(b)', b a slice of bytes that the call owns -/
theorem str_own {w : World} {B : Nat} {v : Value} {n : Nat} {l : List UInt8} (hown : w.ownsRow B 5 1 v n (Lib.byteCells l)) :
    (convert 42 9 v).run Tryd.prog w = .ok (.string ⟨l.toArray⟩) w := by
  have hl : l.length = n := by have := hown.1; simpa [Lib.byteCells] using this
  rcases hown.2 with ⟨rfl, h0⟩ | ⟨g, cap, cur, rfl, _⟩
  · have : l = [] := List.eq_nil_of_length_eq_zero (by omega)
    subst this
    rw [run_convert_bytes_string w 42 9 5 none 0 0 Tryd.underlying42 Tryd.underlying5 Tryd.underlying9]
    rfl
  · subst hl
    exact run_convert_bytes_back w 42 9 5 ⟨g, 0, none⟩ cap l Tryd.underlying42 Tryd.underlying5 Tryd.underlying9 (by
      intro j hj
      exact hown.cells (g := g) rfl j _ (by simp [Lib.byteCells, List.getElem?_eq_getElem hj]))

end Go.Proofs.YtmbmeidkmhajbaaDoor

/- Plain facts about rows of parts packed into one text, as lists of bytes: nothing of the program is named here. -/
namespace Go.Proofs.YtmbmeidkmhajbaaDoor

/-! ### rows put together -/
/-! ### texts told apart -/
/-- an error, or the parts -/
abbrev Told := Int × List (List UInt8)
end Go.Proofs.YtmbmeidkmhajbaaDoor

/- Rows of texts in memory: what a slice of strings reads as. -/
namespace Go.Proofs.YtmbmeidkmhajbaaDoor
open Go.RowKit

def str (x : List UInt8) : Value := .string ⟨x.toArray⟩
/-- the slice value v reads as the texts l -/
def Strs (w : World) (v : Value) (l : List (List UInt8)) : Prop :=
  ∃ a c, v = .slice a l.length c ∧ l.length ≤ c ∧ c ≤ maxLen ∧ (a = none → c = 0) ∧ (l ≠ [] → ∃ b off, a = some ⟨b, off, none⟩ ∧ ∀ i x, l[i]? = some x → w.cell? ⟨b, off + i, none⟩ = some (str x))

theorem Strs.nil (w : World) : Strs w (.slice none 0 0) [] := ⟨none, 0, rfl, Nat.le_refl _, Nat.zero_le _, fun _ => rfl, fun h => absurd rfl h⟩
theorem Strs.below {w w' : World} {v : Value} {l : List (List UInt8)} (h : Strs w v l) (hb : Below w.heap.size w w') : Strs w' v l := by
  obtain ⟨a, c, hv, hc, hm, hn, hl⟩ := h
  refine ⟨a, c, hv, hc, hm, hn, fun hne => ?_⟩
  obtain ⟨b, off, ha, hx⟩ := hl hne
  refine ⟨b, off, ha, fun i x hi => ?_⟩
  have h1 := hx i x hi
  rw [hb.cell (p := ⟨b, off + i, none⟩) (World.block_lt_of_cell? w _ h1)]
  exact h1
theorem Strs.owned {w : World} {B n : Nat} {v : Value} {l : List (List UInt8)} (h : w.ownsRow B 9 1 v n (l.map str)) : Strs w v l := by
  have hn : l.length = n := by have := h.1; simpa using this
  subst hn
  have h0 := h
  rcases h.2 with ⟨rfl, e⟩ | ⟨g, cap, cur, rfl, _, _, hcap, hmax, _⟩
  · have : l = [] := List.eq_nil_of_length_eq_zero (by omega)
    subst this
    exact Strs.nil w
  · refine ⟨some ⟨g, 0, none⟩, cap, rfl, hcap, hmax, (fun e => by cases e), fun _ => ⟨g, 0, rfl, fun i x hi => ?_⟩⟩
    rw [Nat.zero_add, h0.cellAt i (by have := (List.getElem?_eq_some_iff.1 hi).1; omega)]
    simp [hi]

theorem str_size (x : List UInt8) : ({ data := x.toArray } : ByteArray).size = x.length := by simp [ByteArray.size]

end Go.Proofs.YtmbmeidkmhajbaaDoor

/- How an argument that is a row of texts is opened, and two closed facts of the program that every row's proof wants. -/
namespace Go.Proofs.YtmbmeidkmhajbaaDoor
open Go.ChangeShapes Go.WideShapes Go.ChangeAt Go.RowKit
open Go.ChangeMaps (open_string shut_string)

theorem rowOwn : ownKnob Tryd.prog.godebug = none := by kernel_rfl
theorem rowLaid : laidOutB Tryd.prog = true := by kernel_rfl
theorem cells9 : Tryd.prog.cellsOf 9 = 1 := by kernel_rfl
/-- a row of texts that came in -/
theorem arg_strs {H : Type} {enc : TypeId × Value → H} {W : World} {a0 : Option Addr} {len0 cap0 : Nat} {d : DataW H} {p : List MemPlace}
    (h : DataW.Trod enc Tryd.prog W 0 (fun _ => true) true 23 (.slice a0 len0 cap0) d p) :
    ∃ l, Strs W (.slice a0 len0 cap0) l ∧ ∀ x ∈ l, x.length ≤ maxLen := by
  obtain ⟨fuel, hf⟩ := h
  rcases open_strings Tryd.underlying23 Tryd.underlying9 cells9 hf with ⟨hcs, _⟩ | ⟨a, len, cap, ss, hcs, _, hl, hm, hz, _, hcell, hwz⟩
  · simp [Value.cells] at hcs
    obtain ⟨rfl, rfl, rfl⟩ := hcs
    exact ⟨[], Strs.nil W, fun x hx => by cases hx⟩
  · simp [Value.cells] at hcs
    obtain ⟨rfl, rfl, rfl⟩ := hcs
    have hz' : ss.length = cap0 := by simpa using hz
    have hlen : ((ss.take len0).map (fun s => s.data.toList)).length = len0 := by simp; omega
    refine ⟨(ss.take len0).map (fun s => s.data.toList), ⟨some a, cap0, by rw [hlen], by rw [hlen]; exact hl, hm, (fun e => by cases e), fun hne => ?_⟩, ?_⟩
    · have hpos : 0 < len0 := by
        rcases Nat.eq_zero_or_pos len0 with h0 | h0
        · exfalso; apply hne; rw [h0]; rfl
        · exact h0
      have h0 := hcell 0 (by omega)
      have hspot : a.spot = none := by
        have := World.cell?_spot h0
        unfold Addr.add at this
        split at this <;> simp_all
      obtain ⟨b, off, spot⟩ := a
      simp only at hspot
      subst hspot
      refine ⟨b, off, rfl, fun i x hi => ?_⟩
      have hlt := (List.getElem?_eq_some_iff.1 hi).1
      rw [hlen] at hlt
      have hc := hcell i (by omega)
      have hadd : ((⟨b, off, none⟩ : Addr).add i) = ⟨b, off + i, none⟩ := by unfold Addr.add; split <;> simp_all
      rw [hadd] at hc
      rw [hc]
      have hx : (ss.getD i ByteArray.empty).data.toList = x := by
        rw [List.getElem?_map, List.getElem?_take, if_pos hlt] at hi
        rw [List.getD_eq_getElem?_getD]
        rcases hs : ss[i]? with _ | s
        · rw [hs] at hi; cases hi
        · rw [hs] at hi; simpa using hi
      unfold str
      rw [← hx, Lib.mk_data]
    · intro x hx
      obtain ⟨s, hs, rfl⟩ := List.mem_map.1 hx
      have := hwz s (List.mem_of_mem_take hs)
      rw [← Lib.size_eq]; exact this
end Go.Proofs.YtmbmeidkmhajbaaDoor

/- Values as trees: how many one is, how deep, which may be, its text; a text tells its value. Nothing of the program is named here. -/
namespace Go.Proofs.YtmbmeidkmhajbaaDoor.V
open Go

/-- a value: its kind, number, text, items and keys -/
inductive VT where
  | mk (kind n : Int) (s : List UInt8) (items : List VT) (keys : List (List UInt8)) : VT
def VT.kind : VT → Int | .mk k _ _ _ _ => k
def VT.num : VT → Int | .mk _ n _ _ _ => n
def VT.txt : VT → List UInt8 | .mk _ _ s _ _ => s
def VT.items : VT → List VT | .mk _ _ _ l _ => l
def VT.keys : VT → List (List UInt8) | .mk _ _ _ _ ks => ks
def vt0 : VT := .mk 0 0 [] [] []

/-! ### how many, how deep -/
mutual
def VT.count : VT → Nat
  | .mk _ _ _ l _ => 1 + countL l
def countL : List VT → Nat
  | [] => 0
  | x :: r => x.count + countL r
end
mutual
def VT.depth : VT → Nat
  | .mk _ _ _ l _ => 1 + depthL l
def depthL : List VT → Nat
  | [] => 0
  | x :: r => max x.depth (depthL r)
end
theorem count_eq (k n : Int) (s : List UInt8) (l : List VT) (ks : List (List UInt8)) : (VT.mk k n s l ks).count = 1 + countL l := by rw [VT.count]
theorem depth_eq (k n : Int) (s : List UInt8) (l : List VT) (ks : List (List UInt8)) : (VT.mk k n s l ks).depth = 1 + depthL l := by rw [VT.depth]
theorem countL_nil : countL [] = 0 := by rw [countL]
theorem countL_cons (x : VT) (r : List VT) : countL (x :: r) = x.count + countL r := by rw [countL]
theorem depthL_nil : depthL [] = 0 := by rw [depthL]
theorem depthL_cons (x : VT) (r : List VT) : depthL (x :: r) = max x.depth (depthL r) := by rw [depthL]
theorem countL_append : ∀ (a b : List VT), countL (a ++ b) = countL a + countL b := by
  intro a b
  induction a with
  | nil => rw [List.nil_append, countL_nil, Nat.zero_add]
  | cons x a ih => rw [List.cons_append, countL_cons, countL_cons, ih, Nat.add_assoc]
theorem count_pos (v : VT) : 1 ≤ v.count := by obtain ⟨k, n, s, l, ks⟩ := v; rw [count_eq]; omega
/- how many, one above a limit told as more: the reference's own way -/
mutual
def VT.cnt : VT → Int → Int
  | .mk _ _ _ l _, lim => cntL l lim 1
def cntL : List VT → Int → Int → Int
  | [], _, n => n
  | x :: r, lim, n => if lim < n then n else cntL r lim (n + x.cnt (lim - n))
end
theorem cnt_eq (k n : Int) (s : List UInt8) (l : List VT) (ks : List (List UInt8)) (lim : Int) : (VT.mk k n s l ks).cnt lim = cntL l lim 1 := by rw [VT.cnt]
theorem cntL_nil (lim n : Int) : cntL [] lim n = n := by rw [cntL]
theorem cntL_cons (x : VT) (r : List VT) (lim n : Int) : cntL (x :: r) lim n = if lim < n then n else cntL r lim (n + x.cnt (lim - n)) := by rw [cntL]
/-- what it tells: the number, if that is no more than the limit; else more than the limit, by one at most -/
def CntOk (c : Nat) (lim t : Int) : Prop := ((c : Int) ≤ lim → t = c) ∧ (lim < (c : Int) → lim < t ∧ t ≤ max 1 (lim + 1)) ∧ 1 ≤ t
theorem cntL_more (l : List VT) (lim n : Int) (h : lim < n) : cntL l lim n = n := by
  cases l with
  | nil => exact cntL_nil _ _
  | cons x r => rw [cntL_cons, if_pos h]
theorem cnt_ok : ∀ (m : Nat) (v : VT), v.count ≤ m → ∀ lim : Int, CntOk v.count lim (v.cnt lim) := by
  intro m
  induction m with
  | zero => intro v h; have := count_pos v; omega
  | succ m ih =>
    intro v h lim
    obtain ⟨k, n, s, l, ks⟩ := v
    rw [count_eq] at h ⊢
    rw [cnt_eq]
    have key : ∀ (r : List VT) (a : Int), countL r ≤ m → 1 ≤ a → a ≤ max 1 (lim + 1) → (a + (countL r : Int) ≤ lim → cntL r lim a = a + (countL r : Int)) ∧ (lim < a + (countL r : Int) → lim < cntL r lim a ∧ cntL r lim a ≤ max 1 (lim + 1)) ∧ 1 ≤ cntL r lim a := by
      intro r
      induction r with
      | nil =>
        intro a _ h1 h2
        rw [countL_nil, cntL_nil]
        refine ⟨fun _ => by simp, fun h => ⟨by simpa using h, h2⟩, h1⟩
      | cons x r ihr =>
        intro a hr h1 h2
        rw [countL_cons] at hr ⊢
        rw [cntL_cons]
        have hx := ih x (by omega) (lim - a)
        obtain ⟨c1, c2, c3⟩ := hx
        by_cases hc : lim < a
        · rw [if_pos hc]
          exact ⟨fun h => by omega, fun _ => ⟨hc, h2⟩, h1⟩
        · rw [if_neg hc]
          by_cases hb : (x.count : Int) ≤ lim - a
          · rw [c1 hb]
            have := ihr (a + x.count) (by omega) (by omega) (by omega)
            obtain ⟨d1, d2, d3⟩ := this
            refine ⟨fun h => ?_, fun h => d2 (by push_cast at h; omega), d3⟩
            rw [d1 (by push_cast at h; omega)]
            push_cast
            omega
          · obtain ⟨e1, e2⟩ := c2 (by omega)
            have hm : lim < a + x.cnt (lim - a) := by omega
            rw [cntL_more _ _ _ hm]
            refine ⟨fun h => by push_cast at h; omega, fun _ => ⟨hm, by omega⟩, by omega⟩
    obtain ⟨k1, k2, k3⟩ := key l 1 (by omega) (by omega) (by omega)
    refine ⟨fun h => ?_, fun h => k2 (by push_cast at h; omega), k3⟩
    rw [k1 (by push_cast at h; omega)]
    push_cast
    omega
theorem cnt_more (v : VT) (lim : Int) : 1 ≤ v.cnt lim ∧ v.cnt lim ≤ max 1 (lim + 1) := by
  obtain ⟨h1, h2, h3⟩ := cnt_ok v.count v (Nat.le_refl _) lim
  refine ⟨h3, ?_⟩
  by_cases h : (v.count : Int) ≤ lim
  · rw [h1 h]; omega
  · exact (h2 (by omega)).2
end Go.Proofs.YtmbmeidkmhajbaaDoor.V

/- A value in memory: five cells, its items in a row of five cells each, its keys in a row of texts; what stays of it; and how one that came in is opened. -/
namespace Go.Proofs.YtmbmeidkmhajbaaDoor.V
open Go.ChangeShapes Go.WideShapes Go.ChangeAt Go.RowKit
set_option maxRecDepth 100000

theorem on_below {B : Nat} {w0 w w' : World} (h : Below B w0 w) (hb : Below w.heap.size w w') (hB : B ≤ w.heap.size) : Below B w0 w' := h.trans (hb.mono hB)
theorem on_new {w w' : World} (o : Obj) (hb : Below (w.alloc o).heap.size (w.alloc o) w') : Below w.heap.size w w' := on_below ((Below.refl _ w).alloc (Nat.le_refl _) o) hb (by simp)
instance : Inhabited VT := ⟨vt0⟩
theorem range_below {w w' : World} {b o : Nat} {cs : List Value} (hb : Below w.heap.size w w') (h : w.rangeAt b o cs) : w'.rangeAt b o cs := fun j v hv => by
  have h4 := h j v hv
  rw [hb.cell (p := ⟨b, o + j, none⟩) (World.block_lt_of_cell? w _ h4), h4]
theorem range5 {w : World} {b o : Nat} {c0 c1 c2 c3 c4 : Value} (h : w.rangeAt b o [c0, c1, c2, c3, c4]) :
    w.cell? ⟨b, o, none⟩ = some c0 ∧ w.cell? ⟨b, o + 1, none⟩ = some c1 ∧ w.cell? ⟨b, o + 2, none⟩ = some c2 ∧ w.cell? ⟨b, o + 3, none⟩ = some c3 ∧ w.cell? ⟨b, o + 4, none⟩ = some c4 := ⟨h 0 _ rfl, h 1 _ rfl, h 2 _ rfl, h 3 _ rfl, h 4 _ rfl⟩
/-- a row of k cells each: the slice value, how many, what is said of each one's cells -/
def RowC (w : World) (k : Nat) (v : Value) (m : Nat) (p : Nat → List Value → Prop) : Prop :=
  ∃ a c, v = .slice a m c ∧ m ≤ c ∧ c ≤ maxLen ∧ (a = none → c = 0) ∧ (0 < m → ∃ b off, a = some ⟨b, off, none⟩ ∧ ∀ i, i < m → ∃ cs, cs.length = k ∧ w.rangeAt b (off + i * k) cs ∧ p i cs)
theorem RowC.nil (w : World) (k : Nat) (p : Nat → List Value → Prop) : RowC w k (.slice none 0 0) 0 p := ⟨none, 0, rfl, Nat.le_refl _, Nat.zero_le _, fun _ => rfl, fun h => absurd h (by decide)⟩
theorem RowC.mono {w : World} {k : Nat} {v : Value} {m : Nat} {p q : Nat → List Value → Prop} (h : RowC w k v m p) (hq : ∀ i cs, i < m → p i cs → q i cs) : RowC w k v m q := by
  obtain ⟨a, c, hv, hc, hm, hn, hl⟩ := h
  refine ⟨a, c, hv, hc, hm, hn, fun hpos => ?_⟩
  obtain ⟨b, off, ha, hx⟩ := hl hpos
  exact ⟨b, off, ha, fun i hi => let ⟨cs, h1, h2, h3⟩ := hx i hi; ⟨cs, h1, h2, hq i cs hi h3⟩⟩
theorem RowC.below {w w' : World} {k : Nat} {v : Value} {m : Nat} {p : Nat → List Value → Prop} (h : RowC w k v m p) (hb : Below w.heap.size w w') : RowC w' k v m p := by
  obtain ⟨a, c, hv, hc, hm, hn, hl⟩ := h
  refine ⟨a, c, hv, hc, hm, hn, fun hpos => ?_⟩
  obtain ⟨b, off, ha, hx⟩ := hl hpos
  refine ⟨b, off, ha, fun i hi => ?_⟩
  obtain ⟨cs, h1, h2, h3⟩ := hx i hi
  exact ⟨cs, h1, range_below hb h2, h3⟩

/-- what fits a value's own fields -/
def VFit (t : VT) : Prop := (-9223372036854775808 ≤ t.kind ∧ t.kind ≤ 9223372036854775807) ∧ (-9223372036854775808 ≤ t.num ∧ t.num ≤ 9223372036854775807) ∧ t.txt.length ≤ maxLen ∧ ∀ x ∈ t.keys, x.length ≤ maxLen
/-- the five cells cs are the value t, which is no deeper than d -/
def IsV (w : World) : Nat → List Value → VT → Prop
  | 0, _, _ => False
  | d + 1, cs, t => ∃ vi vk, cs = [.int .i64 t.kind, .int .i64 t.num, str t.txt, vi, vk] ∧ VFit t ∧ Strs w vk t.keys ∧ RowC w 5 vi t.items.length (fun i cs' => ∃ x, t.items[i]? = some x ∧ IsV w d cs' x)
/-- the five cells, laid out -/
theorem IsV.form {w : World} {d : Nat} {cs : List Value} {t : VT} (h : IsV w d cs t) : ∃ ai ci ak ck, cs = [.int .i64 t.kind, .int .i64 t.num, .string ⟨t.txt.toArray⟩, .slice ai t.items.length ci, .slice ak t.keys.length ck] := by
  cases d with
  | zero => exact h.elim
  | succ d =>
    obtain ⟨vi, vk, rfl, _, ⟨ak, ck, rfl, _⟩, ai, ci, rfl, _⟩ := h
    exact ⟨ai, ci, ak, ck, rfl⟩
theorem IsV.mono {w : World} : ∀ {d d' : Nat} {cs : List Value} {t : VT}, IsV w d cs t → d ≤ d' → IsV w d' cs t := by
  intro d
  induction d with
  | zero => intro d' cs t h; exact h.elim
  | succ d ih =>
    intro d' cs t h hd
    obtain ⟨e, rfl⟩ : ∃ e, d' = e + 1 := ⟨d' - 1, by omega⟩
    obtain ⟨vi, vk, h1, h2, h3, h4⟩ := h
    exact ⟨vi, vk, h1, h2, h3, h4.mono fun i cs _ ⟨x, hx, hv⟩ => ⟨x, hx, ih hv (by omega)⟩⟩
theorem IsV.below {w w' : World} (hb : Below w.heap.size w w') : ∀ {d : Nat} {cs : List Value} {t : VT}, IsV w d cs t → IsV w' d cs t := by
  intro d
  induction d with
  | zero => intro cs t h; exact h.elim
  | succ d ih =>
    intro cs t h
    obtain ⟨vi, vk, h1, h2, h3, h4⟩ := h
    exact ⟨vi, vk, h1, h2, h3.below hb, (h4.below hb).mono fun i cs _ ⟨x, hx, hv⟩ => ⟨x, hx, ih hv⟩⟩
theorem IsV.deep {w : World} : ∀ {d : Nat} {cs : List Value} {t : VT}, IsV w d cs t → t.depth ≤ d := by
  intro d
  induction d with
  | zero => intro cs t h; exact h.elim
  | succ d ih =>
    intro cs t h
    obtain ⟨k, n, s, l, ks⟩ := t
    obtain ⟨vi, vk, _, _, _, a, c, _, _, _, _, hl⟩ := h
    rw [depth_eq]
    have key : ∀ r : List VT, (∀ x ∈ r, x.depth ≤ d) → depthL r ≤ d := by
      intro r
      induction r with
      | nil => intro _; rw [depthL_nil]; exact Nat.zero_le _
      | cons x r ihr =>
        intro h
        rw [depthL_cons]
        have h1 := h x (by simp)
        have h2 := ihr fun y hy => h y (by simp [hy])
        omega
    have := key l fun x hx => by
      obtain ⟨i, hi, rfl⟩ := List.getElem_of_mem hx
      obtain ⟨b, off, _, hi2⟩ := hl (by show 0 < l.length; omega)
      obtain ⟨cs', _, _, y, hy, hv⟩ := hi2 i hi
      have hy : l[i]? = some y := hy
      rw [List.getElem?_eq_getElem hi] at hy
      rw [Option.some.inj hy]
      exact ih hv
    omega

/-! ### one that came in -/
theorem cellsV : Tryd.prog.cellsOf 25 = 5 := by kernel_rfl
theorem cells64 : Tryd.prog.cellsOf 2 = 1 := by kernel_rfl
theorem cellsI : Tryd.prog.cellsOf 3 = 1 := by kernel_rfl
theorem cellsT : Tryd.prog.cellsOf 9 = 1 := by kernel_rfl
theorem cellsVs : Tryd.prog.cellsOf 22 = 1 := by kernel_rfl
theorem cellsTs : Tryd.prog.cellsOf 23 = 1 := by kernel_rfl
theorem list5 {α : Type} {l : List α} (h : l.length = 5) : ∃ c0 c1 c2 c3 c4, l = [c0, c1, c2, c3, c4] := by
  match l, h with
  | [c0, c1, c2, c3, c4], _ => exact ⟨c0, c1, c2, c3, c4, rfl⟩
theorem i64_of {k : Int} (h : (Lit.int .i64 k).wf = true) : -9223372036854775808 ≤ k ∧ k ≤ 9223372036854775807 := by
  simp only [Lit.wf, IntKind.min, IntKind.max, IntKind.signed, IntKind.bits, Bool.and_eq_true, decide_eq_true_eq, if_true] at h
  omega
theorem val_open {H : Type} {enc : TypeId × Value → H} {W : World} : ∀ (m fuel : Nat), fuel ≤ m → ∀ (cs : List Value) (x : DataW H × List MemPlace),
    DataW.trod enc Tryd.prog W 0 (fun _ => true) true fuel 25 cs = some x → ∃ t d, IsV W d cs t := by
  intro m
  induction m with
  | zero =>
    intro fuel hf cs x h
    obtain rfl : fuel = 0 := by omega
    simp [DataW.trod] at h
  | succ m ih =>
    intro fuel hf cs x h
    obtain ⟨xs, n, rfl, _, hlen, hxl, hfl⟩ := DataW.trod_struct Tryd.underlying25 h
    obtain ⟨c0, c1, c2, c3, c4, rfl⟩ := list5 (hlen.trans cellsV)
    obtain ⟨y0, y1, y2, y3, y4, rfl⟩ := list5 (l := xs) hxl
    have h0 := hfl 0 _ rfl
    have h1 := hfl 1 _ rfl
    have h2 := hfl 2 _ rfl
    have h3 := hfl 3 _ rfl
    have h4 := hfl 4 _ rfl
    simp [cellsI, cells64, cellsT, cellsVs, cellsTs] at h0 h1 h2 h3 h4
    clear hfl
    obtain ⟨k, ek, _, hk⟩ := DataW.trod_int Tryd.underlying3 h0
    injection ek with ek
    subst ek
    obtain ⟨z, ez, _, hz⟩ := DataW.trod_int Tryd.underlying2 h1
    injection ez with ez
    subst ez
    obtain ⟨s, es, _, hs⟩ := DataW.trod_string Tryd.underlying9 h2
    injection es with es
    subst es
    have hkey : ∃ a len c, c4 = .slice a len c := by
      rcases open_strings Tryd.underlying23 Tryd.underlying9 cells9 h4 with ⟨hcs, _⟩ | ⟨a, len, cap, ss, hcs, _⟩
      · simp at hcs
        exact ⟨_, _, _, hcs⟩
      · simp at hcs
        exact ⟨_, _, _, hcs⟩
    obtain ⟨ka, kl, kc, rfl⟩ := hkey
    obtain ⟨ks, hks, hkm⟩ := arg_strs (enc := enc) (d := y4.1) (p := y4.2) ⟨n, h4⟩
    have hs' : (Value.string s) = str s.data.toList := rfl
    have hsl : s.data.toList.length ≤ maxLen := by simpa using hs
    have fit : ∀ l, VFit (.mk k z s.data.toList l ks) := fun l => ⟨i64_of hk, i64_of hz, hsl, hkm⟩
    rcases DataW.trod_slice Tryd.underlying22 h3 with ⟨hcs, _⟩ | ⟨a, len, cap, elems, rest, n', rfl, hcs, _, _, hl, hm, hel, hx, _⟩
    · injection hcs with hcs
      subst hcs
      exact ⟨.mk k z s.data.toList [] ks, 1, _, _, rfl, fit _, hks, RowC.nil _ _ _⟩
    · injection hcs with hcs
      subst hcs
      rw [cellsV] at hx
      have hx' : ∀ i, i < len → ∃ p : List Value × VT, W.cells? 0 (a.add (i * 5)) 5 = some p.1 ∧ ∃ d, IsV W d p.1 p.2 := by
        intro i hi
        have := hx i hi
        rw [List.getElem?_eq_getElem (by omega)] at this
        obtain ⟨cs', g1, g2⟩ := Option.bind_eq_some_iff.1 this
        obtain ⟨t, d, ht⟩ := ih n' (by omega) cs' _ g2
        exact ⟨(cs', t), g1, d, ht⟩
      obtain ⟨f, hf'⟩ := Go.Deep.choose_lt hx'
      obtain ⟨d, hd⟩ := Go.Deep.fuel_lt (q := fun i d => IsV W d (f i).1 (f i).2) (fun i a b hab h => h.mono hab) (fun i hi => (hf' i hi).2)
      have hll : ((List.range len).map fun i => (f i).2).length = len := by simp
      refine ⟨.mk k z s.data.toList ((List.range len).map fun i => (f i).2) ks, d + 1, _, _, rfl, fit _, hks, some a, cap, ?_, ?_, hm, (fun e => by cases e), fun hpos => ?_⟩
      · show _ = Value.slice (some a) (List.length _) cap
        simp only [VT.items, hll]
      · simpa only [VT.items, hll] using hl
      · simp only [VT.items, hll] at hpos ⊢
        obtain ⟨_, g2, g3⟩ := World.cells?_some (hf' 0 hpos).1
        have hspot : a.spot = none := by
          have g4 := g3 0 (by decide)
          rw [List.getElem?_eq_getElem (by omega)] at g4
          have := World.cell?_spot g4
          simpa [Addr.add] using this
        obtain ⟨b, off, spot⟩ := a
        simp only at hspot
        subst hspot
        refine ⟨b, off, rfl, fun i hi => ?_⟩
        obtain ⟨_, g2, g3⟩ := World.cells?_some (hf' i hi).1
        refine ⟨(f i).1, g2, fun j v hv => ?_, (f i).2, by simp [hi], hd i hi⟩
        have := g3 j (by have := (List.getElem?_eq_some_iff.1 hv).1; omega)
        rw [Addr.add_mid, Addr.add_mid] at this
        exact this.trans hv
end Go.Proofs.YtmbmeidkmhajbaaDoor.V

/- A block that is known whole. Nothing of the program is named here. -/
namespace Go.Proofs.YtmbmeidkmhajbaaDoor.V
set_option maxRecDepth 100000
open Go.RowKit

/-- block g is just these cells, none of them frozen -/
def Lies (w : World) (g : Nat) (t : TypeId) (cs : Array Value) : Prop := w.heap[g]? = some (.cells cs t (0, 0))

section
variable {w w' : World} {g : Nat} {t : TypeId} {cs : Array Value}
theorem Lies.lt (h : Lies w g t cs) : g < w.heap.size := by
  rcases Nat.lt_or_ge g w.heap.size with hlt | hge
  · exact hlt
  · unfold Lies at h; rw [Array.getElem?_eq_none hge] at h; cases h
theorem Lies.cell (h : Lies w g t cs) (i : Nat) : w.cell? ⟨g, i, none⟩ = cs[i]? := cell_of_row w g i cs t (0, 0) h
theorem Lies.frozen (h : Lies w g t cs) (i : Nat) : w.frozen? ⟨g, i, none⟩ = false := frozen_of_row w g i cs t h
theorem Lies.drewN (h : Lies w g t cs) (n : Nat) : Lies (w.drewN n) g t cs := h
theorem Lies.drew (h : Lies w g t cs) : Lies w.drew g t cs := h
theorem Lies.alloc (h : Lies w g t cs) (o : Obj) : Lies (w.alloc o) g t cs := (Below.heap_alloc w o g h.lt).trans h
theorem Lies.new (w : World) (t : TypeId) (cs : Array Value) : Lies (w.alloc (.cells cs t)) w.heap.size t cs := heap_alloc_new w _
theorem Lies.put (h : Lies w g t cs) (i : Nat) (v : Value) : Lies (w.setCell ⟨g, i, none⟩ v) g t (cs.setIfInBounds i v) := heap_setCell_same w g i cs t v h
theorem Lies.far (h : Lies w g t cs) {p : Addr} (hp : g ≠ p.block) (v : Value) : Lies (w.setCell p v) g t cs := (heap_setCell_other w p g v hp).trans h
theorem Lies.below {B : Nat} (h : Lies w g t cs) (hb : Below B w w') (hg : g < B) : Lies w' g t cs := (hb.block g hg).trans h
theorem Lies.on (h : Lies w g t cs) (hb : Below w.heap.size w w') : Lies w' g t cs := h.below hb h.lt
theorem Lies.only {row : Option Nat} (h : Lies w g t cs) (hb : w.grownBy w' row) (hg : some g ≠ row) : Lies w' g t cs := (hb.block g h.lt hg).trans h
theorem Lies.row (h : Lies w g t cs) (old : Array Value) : Lies (w.setRow g old) g t old := setRow_heap w g cs old t (0, 0) h
theorem Lies.rowFar {g' : Nat} (h : Lies w g t cs) (hg : g ≠ g') (old : Array Value) : Lies (w.setRow g' old) g t cs := (setRow_other w g' g old hg).trans h
end
end Go.Proofs.YtmbmeidkmhajbaaDoor.V

/- A contract that ends in 'Below', met within a region that draws its order. -/
namespace Go.Proofs.YtmbmeidkmhajbaaDoor.V
open Go.RowKit Go.Sort
theorem reg {f : FuncId} {args : Array Value} {W : World} {v : Value} (h : ∀ w, Below W.heap.size W w → Calls Tryd.prog f args w fun e w' => e = .returned v ∧ Below w.heap.size w w') :
    ∀ d os, Calls Tryd.prog f args (grow (redrawn W d) os) fun e w'' => e = .returned v ∧ ∃ p : Regrown, w'' = grow (redrawn W p.d) p.os := fun d os => Calls.regrown_of (h _ (below_regrown W d os))
end Go.Proofs.YtmbmeidkmhajbaaDoor.V

/- The text of a value, and which may be; values that may be have one text just if they are the same. Nothing of the program is named here. -/
namespace Go.Proofs.YtmbmeidkmhajbaaDoor.V
open Go

/-! ### decimal digits -/
theorem digit_of (k : Nat) (h : k < 10) : (UInt8.ofNat (48 + k)).toNat = 48 + k := by rw [UInt8.toNat_ofNat']; omega
/-- a byte is a digit -/
def isDig (c : UInt8) : Bool := decide (48 ≤ c.toNat) && decide (c.toNat ≤ 57)
def decVal (l : List UInt8) : Nat := l.foldl (fun a c => 10 * a + (c.toNat - 48)) 0
theorem decVal_snoc (l : List UInt8) (c : UInt8) : decVal (l ++ [c]) = 10 * decVal l + (c.toNat - 48) := by unfold decVal; rw [List.foldl_append]; rfl
theorem dec_digits : ∀ (m u : Nat), u ≤ m → (∀ c ∈ Lib.decDigits u, isDig c = true) ∧ decVal (Lib.decDigits u) = u := by
  intro m
  induction m with
  | zero =>
    intro u h
    obtain rfl : u = 0 := by omega
    rw [Lib.decDigits_one (by decide)]
    exact ⟨by decide, by decide⟩
  | succ m ih =>
    intro u h
    by_cases h10 : u < 10
    · rw [Lib.decDigits_one h10]
      have hd := digit_of u h10
      refine ⟨fun c hc => ?_, ?_⟩
      · rw [List.mem_singleton.1 hc]
        unfold isDig
        rw [hd, decide_eq_true (by omega), decide_eq_true (by omega)]
        rfl
      · show decVal ([] ++ [_]) = u
        rw [decVal_snoc, hd]
        show 10 * 0 + _ = u
        omega
    · have e : Lib.decDigits u = Lib.decDigits (u / 10) ++ [UInt8.ofNat (48 + u % 10)] := by rw [Lib.decDigits, dif_neg h10]
      obtain ⟨i1, i2⟩ := ih (u / 10) (by omega)
      have hd := digit_of (u % 10) (by omega)
      rw [e]
      refine ⟨fun c hc => ?_, ?_⟩
      · rcases List.mem_append.1 hc with hc | hc
        · exact i1 c hc
        · rw [List.mem_singleton.1 hc]
          unfold isDig
          rw [hd, decide_eq_true (by omega), decide_eq_true (by omega)]
          rfl
      · rw [decVal_snoc, i2, hd]
        omega
theorem dec_ne (u : Nat) : Lib.decDigits u ≠ [] := by
  intro h
  have := congrArg List.length h
  rw [Lib.decDigits] at this
  split at this
  · simp at this
  · simp at this
/-- what stands behind a number's digits: nothing, or no digit -/
def Delim (r : List UInt8) : Prop := ∀ c t, r = c :: t → isDig c = false
/-- the first byte of a number's text -/
def numHead (c : UInt8) : Prop := c = 45 ∨ isDig c = true
theorem dec_head (u : Nat) : ∃ c t, Lib.decDigits u = c :: t ∧ isDig c = true := by
  cases h : Lib.decDigits u with
  | nil => exact absurd h (dec_ne u)
  | cons c t => exact ⟨c, t, rfl, (dec_digits u u (Nat.le_refl _)).1 c (by rw [h]; simp)⟩
theorem itoa_head (n : Int) : ∃ c t, Lib.itoa n = c :: t ∧ numHead c := by
  unfold Lib.itoa
  split
  · exact ⟨45, _, rfl, .inl rfl⟩
  · obtain ⟨c, t, h, hd⟩ := dec_head n.toNat
    exact ⟨c, t, h, .inr hd⟩
/-! ### texts in quotes -/
def escL : List UInt8 → List UInt8
  | [] => []
  | c :: r => (if c = 34 ∨ c = 92 then [92, c] else [c]) ++ escL r
def quotL (s : List UInt8) : List UInt8 := 34 :: (escL s ++ [34])
/-! ### the text of a value -/
mutual
def VT.wr : VT → List UInt8
  | .mk k n s l ks => if k = 1 then Lib.itoa n else if k = 2 then quotL s else if k = 4 then 123 :: (wrM true l ks ++ [125]) else 91 :: (wrL true l ++ [93])
def wrL : Bool → List VT → List UInt8
  | _, [] => []
  | first, x :: r => (if first then [] else [44]) ++ (x.wr ++ wrL false r)
def wrM : Bool → List VT → List (List UInt8) → List UInt8
  | _, [], _ => []
  | first, x :: r, ks => (if first then [] else [44]) ++ (quotL (ks.headD []) ++ 58 :: (x.wr ++ wrM false r ks.tail))
end
theorem wr_eq (k n : Int) (s : List UInt8) (l : List VT) (ks : List (List UInt8)) : (VT.mk k n s l ks).wr = if k = 1 then Lib.itoa n else if k = 2 then quotL s else if k = 4 then 123 :: (wrM true l ks ++ [125]) else 91 :: (wrL true l ++ [93]) := by rw [VT.wr]
theorem wrL_nil (b : Bool) : wrL b [] = [] := by rw [wrL]
theorem wrL_cons (b : Bool) (x : VT) (r : List VT) : wrL b (x :: r) = (if b then [] else [44]) ++ (x.wr ++ wrL false r) := by rw [wrL]
theorem wrM_nil (b : Bool) (ks : List (List UInt8)) : wrM b [] ks = [] := by rw [wrM]
theorem wrM_cons (b : Bool) (x : VT) (r : List VT) (ks : List (List UInt8)) : wrM b (x :: r) ks = (if b then [] else [44]) ++ (quotL (ks.headD []) ++ 58 :: (x.wr ++ wrM false r ks.tail)) := by rw [wrM]

/-! ### which may be -/
def textOk (s : List UInt8) : Bool := s.all (fun c => decide (32 ≤ c.toNat)) && decide (s.length ≤ 4000)
/-- byte by byte -/
def lessL : List UInt8 → List UInt8 → Bool
  | [], [] => false
  | [], _ :: _ => true
  | _ :: _, [] => false
  | a :: r, b :: s => if a = b then lessL r s else decide (a.toNat < b.toNat)
def keysOk : List (List UInt8) → Bool
  | [] => true
  | [k] => textOk k
  | k :: k' :: r => textOk k && lessL k k' && keysOk (k' :: r)
/-- may a value be, but for its items? -/
def oneB (k n : Int) (s : List UInt8) (m : Nat) (ks : List (List UInt8)) : Bool :=
  (decide (1 ≤ k) && decide (k ≤ 4)) && (decide (k = 1) || decide (n = 0)) && (decide (k = 2) || decide (s = [])) && (decide (3 ≤ k) || decide (m = 0)) && (decide (k = 4) || decide (ks = []))
    && (decide (-1099511627776 ≤ n) && decide (n ≤ 1099511627776)) && textOk s && (decide (k ≠ 4) || decide (ks.length = m)) && keysOk ks
mutual
def VT.each : VT → Bool
  | .mk k n s l ks => eachL l && oneB k n s l.length ks
def eachL : List VT → Bool
  | [] => true
  | x :: r => x.each && eachL r
end
theorem each_eq (k n : Int) (s : List UInt8) (l : List VT) (ks : List (List UInt8)) : (VT.mk k n s l ks).each = (eachL l && oneB k n s l.length ks) := by rw [VT.each]
theorem eachL_nil : eachL [] = true := by rw [eachL]
theorem eachL_cons (x : VT) (r : List VT) : eachL (x :: r) = (x.each && eachL r) := by rw [eachL]
theorem eachL_mem {l : List VT} (h : eachL l = true) {x : VT} (hx : x ∈ l) : x.each = true := by
  induction l with
  | nil => cases hx
  | cons y l ih =>
    rw [eachL_cons, Bool.and_eq_true] at h
    rcases List.mem_cons.1 hx with rfl | hx
    · exact h.1
    · exact ih h.2 hx
def VT.okB (v : VT) : Bool := decide (v.count ≤ 2000) && decide (v.depth ≤ 12) && v.each
theorem one_of {k n : Int} {s : List UInt8} {m : Nat} {ks : List (List UInt8)} (h : oneB k n s m ks = true) :
    (k = 1 ∧ s = [] ∧ m = 0 ∧ ks = []) ∨ (k = 2 ∧ n = 0 ∧ m = 0 ∧ ks = []) ∨ (k = 3 ∧ n = 0 ∧ s = [] ∧ ks = []) ∨ (k = 4 ∧ n = 0 ∧ s = [] ∧ ks.length = m) := by
  unfold oneB at h
  simp only [Bool.and_eq_true, Bool.or_eq_true, decide_eq_true_eq] at h
  obtain ⟨⟨⟨⟨⟨⟨⟨⟨⟨h1, h2⟩, h3⟩, h4⟩, h5⟩, h6⟩, _⟩, _⟩, h7⟩, _⟩ := h
  have hk : k = 1 ∨ k = 2 ∨ k = 3 ∨ k = 4 := by omega
  rcases hk with rfl | rfl | rfl | rfl
  · exact .inl ⟨rfl, h4.resolve_left (by decide), h5.resolve_left (by decide), h6.resolve_left (by decide)⟩
  · exact .inr (.inl ⟨rfl, h3.resolve_left (by decide), h5.resolve_left (by decide), h6.resolve_left (by decide)⟩)
  · exact .inr (.inr (.inl ⟨rfl, h3.resolve_left (by decide), h4.resolve_left (by decide), h6.resolve_left (by decide)⟩))
  · exact .inr (.inr (.inr ⟨rfl, h3.resolve_left (by decide), h4.resolve_left (by decide), h7.resolve_left (by decide)⟩))
/-- the first byte tells the kind -/
theorem wr_head {v : VT} (h : v.each = true) : ∃ c t, v.wr = c :: t ∧ ((v.kind = 1 ∧ numHead c) ∨ (v.kind = 2 ∧ c = 34) ∨ (v.kind = 3 ∧ c = 91) ∨ (v.kind = 4 ∧ c = 123)) := by
  obtain ⟨k, n, s, l, ks⟩ := v
  rw [each_eq, Bool.and_eq_true] at h
  rw [wr_eq]
  rcases one_of h.2 with ⟨rfl, _⟩ | ⟨rfl, _⟩ | ⟨rfl, _⟩ | ⟨rfl, _⟩
  · rw [if_pos rfl]
    obtain ⟨c, t, e, hc⟩ := itoa_head n
    exact ⟨c, t, e, .inl ⟨rfl, hc⟩⟩
  · rw [if_neg (by decide), if_pos rfl]
    exact ⟨34, _, rfl, .inr (.inl ⟨rfl, rfl⟩)⟩
  · rw [if_neg (by decide), if_neg (by decide), if_neg (by decide)]
    exact ⟨91, _, rfl, .inr (.inr (.inl ⟨rfl, rfl⟩))⟩
  · rw [if_neg (by decide), if_neg (by decide), if_pos rfl]
    exact ⟨123, _, rfl, .inr (.inr (.inr ⟨rfl, rfl⟩))⟩
theorem delim_at {c : UInt8} {t : List UInt8} (h : isDig c = false) : Delim (c :: t) := fun d u e => by
  injection e with e1 _
  rw [← e1]; exact h
theorem head_no {v : VT} (h : v.each = true) (r t : List UInt8) (c : UInt8) (hc : c = 93 ∨ c = 125 ∨ c = 44) : v.wr ++ r ≠ c :: t := by
  intro e
  obtain ⟨d, u, hd, hk⟩ := wr_head h
  rw [hd] at e
  injection e with e1 _
  subst e1
  rcases hk with ⟨_, hk⟩ | ⟨_, rfl⟩ | ⟨_, rfl⟩ | ⟨_, rfl⟩
  · rcases hc with rfl | rfl | rfl <;> exact absurd hk (by unfold numHead; decide)
  · exact absurd hc (by decide)
  · exact absurd hc (by decide)
  · exact absurd hc (by decide)
end Go.Proofs.YtmbmeidkmhajbaaDoor.V

/- Keys, place by place. Nothing of the program is named here. -/
namespace Go.Proofs.YtmbmeidkmhajbaaDoor.V
open Go

theorem keysOk_nil : keysOk [] = true := by rw [keysOk]
theorem keysOk_one (k : List UInt8) : keysOk [k] = textOk k := by rw [keysOk]
theorem keysOk_two (k k' : List UInt8) (r : List (List UInt8)) : keysOk (k :: k' :: r) = (textOk k && lessL k k' && keysOk (k' :: r)) := by rw [keysOk]
/-- each may be, and each is greater than the one ahead of it -/
theorem keysOk_iff : ∀ ks : List (List UInt8), keysOk ks = true ↔ (∀ (j : Nat) (k : List UInt8), ks[j]? = some k → textOk k = true) ∧ (∀ (j : Nat) (k k' : List UInt8), ks[j]? = some k → ks[j + 1]? = some k' → lessL k k' = true) := by
  intro ks
  induction ks with
  | nil => rw [keysOk_nil]; simp
  | cons k r ih =>
    cases r with
    | nil =>
      rw [keysOk_one]
      constructor
      · intro h
        refine ⟨fun j x hx => ?_, fun j x y _ hy => ?_⟩
        · cases j with
          | zero => simp at hx; rw [← hx]; exact h
          | succ j => simp at hx
        · simp at hy
      · intro h
        exact h.1 0 k rfl
    | cons k' r =>
      rw [keysOk_two, Bool.and_eq_true, Bool.and_eq_true, ih]
      constructor
      · rintro ⟨⟨h1, h2⟩, h3, h4⟩
        refine ⟨fun j x hx => ?_, fun j x y hx hy => ?_⟩
        · cases j with
          | zero => simp at hx; rw [← hx]; exact h1
          | succ j => exact h3 j x (by simpa using hx)
        · cases j with
          | zero => simp at hx hy; rw [← hx, ← hy]; exact h2
          | succ j => exact h4 j x y (by simpa using hx) (by simpa using hy)
      · rintro ⟨h1, h2⟩
        refine ⟨⟨h1 0 k rfl, h2 0 k k' rfl rfl⟩, fun j x hx => h1 (j + 1) x (by simpa using hx), fun j x y hx hy => h2 (j + 1) x y (by simpa using hx) (by simpa using hy)⟩
/-- the first j of them are so -/
def KeysTo (ks : List (List UInt8)) (j : Nat) : Prop := (∀ (i : Nat) (k : List UInt8), i < j → ks[i]? = some k → textOk k = true) ∧ (∀ (i : Nat) (k k' : List UInt8), i + 1 < j → ks[i]? = some k → ks[i + 1]? = some k' → lessL k k' = true)
theorem KeysTo.zero (ks : List (List UInt8)) : KeysTo ks 0 := ⟨fun i k h => absurd h (by omega), fun i k k' h => absurd h (by omega)⟩
theorem KeysTo.all {ks : List (List UInt8)} (h : KeysTo ks ks.length) : keysOk ks = true :=
  (keysOk_iff ks).2 ⟨fun j k hk => h.1 j k (List.getElem?_eq_some_iff.1 hk).1 hk, fun j k k' hk hk' => h.2 j k k' (List.getElem?_eq_some_iff.1 hk').1 hk hk'⟩
theorem KeysTo.first {ks : List (List UInt8)} {k : List UInt8} (hk : ks[0]? = some k) (ht : textOk k = true) : KeysTo ks 1 := ⟨fun i x hi hx => by
  obtain rfl : i = 0 := by omega
  rw [hk] at hx
  rw [← Option.some.inj hx]; exact ht, fun i x y hi => by omega⟩
theorem KeysTo.next {ks : List (List UInt8)} {j : Nat} {k k' : List UInt8} (h : KeysTo ks (j + 1)) (hk : ks[j]? = some k) (hk' : ks[j + 1]? = some k') (ht : textOk k' = true) (hl : lessL k k' = true) : KeysTo ks (j + 1 + 1) := by
  refine ⟨fun i x hi hx => ?_, fun i x y hi hx hy => ?_⟩
  · rcases Nat.lt_or_ge i (j + 1) with h1 | h1
    · exact h.1 i x h1 hx
    · obtain rfl : i = j + 1 := by omega
      rw [hk'] at hx
      rw [← Option.some.inj hx]; exact ht
  · rcases Nat.lt_or_ge (i + 1) (j + 1) with h1 | h1
    · exact h.2 i x y h1 hx hy
    · obtain rfl : i = j := by omega
      rw [hk] at hx
      rw [hk'] at hy
      rw [← Option.some.inj hx, ← Option.some.inj hy]; exact hl
end Go.Proofs.YtmbmeidkmhajbaaDoor.V

/- Byte by byte: three ways of saying it. Nothing of the program is named here. -/
namespace Go.Proofs.YtmbmeidkmhajbaaDoor.V
open Go

theorem bytesLess_is : ∀ x y : List UInt8, Op.bytesLess x y = lessL x y := by
  intro x
  induction x with
  | nil => intro y; cases y with
    | nil => rw [lessL]; rfl
    | cons b s => rw [lessL]; rfl
  | cons a r ih =>
    intro y
    cases y with
    | nil => rw [lessL]; rfl
    | cons b s =>
      rw [lessL, Op.bytesLess]
      by_cases h : a = b
      · subst h
        rw [if_pos rfl, ih]
        simp
      · rw [if_neg h]
        by_cases h2 : a < b
        · have h3 : a.toNat < b.toNat := UInt8.lt_iff_toNat_lt.1 h2
          simp [h2, h3]
        · have h3 : ¬ a.toNat < b.toNat := fun h => h2 (UInt8.lt_iff_toNat_lt.2 h)
          simp [h2, h3, h]
/-- one of three -/
theorem less_three : ∀ x y : List UInt8, (lessL x y = true ∧ x ≠ y ∧ lessL y x = false) ∨ (x = y ∧ lessL x y = false ∧ lessL y x = false) ∨ (lessL x y = false ∧ x ≠ y ∧ lessL y x = true) := by
  intro x
  induction x with
  | nil => intro y; cases y with
    | nil => exact .inr (.inl ⟨rfl, by rw [lessL], by rw [lessL]⟩)
    | cons b s => exact .inl ⟨by rw [lessL], by simp, by rw [lessL]⟩
  | cons a r ih =>
    intro y
    cases y with
    | nil => exact .inr (.inr ⟨by rw [lessL], by simp, by rw [lessL]⟩)
    | cons b s =>
      rw [lessL, lessL]
      by_cases h : a = b
      · subst h
        rw [if_pos rfl, if_pos rfl]
        rcases ih s with ⟨h1, h2, h3⟩ | ⟨h1, h2, h3⟩ | ⟨h1, h2, h3⟩
        · exact .inl ⟨h1, by simpa using h2, h3⟩
        · exact .inr (.inl ⟨by rw [h1], h2, h3⟩)
        · exact .inr (.inr ⟨h1, by simpa using h2, h3⟩)
      · rw [if_neg h, if_neg (show ¬ b = a from fun e => h e.symm)]
        have hn : a.toNat ≠ b.toNat := fun e => h (UInt8.toNat_inj.1 e)
        have hne : a :: r ≠ b :: s := fun e => h (List.cons.inj e).1
        rcases Nat.lt_or_ge a.toNat b.toNat with h1 | h1
        · exact .inl ⟨decide_eq_true h1, hne, decide_eq_false (by omega)⟩
        · exact .inr (.inr ⟨decide_eq_false (by omega), hne, decide_eq_true (by omega)⟩)
end Go.Proofs.YtmbmeidkmhajbaaDoor.V

/- The developers' roomBeside and Right. -/
namespace Go.Proofs.YtmbmeidkmhajbaaDoor.V
open Go.RowKit Go.Sort Go.Joins
set_option maxRecDepth 100000

/-- may a value be, so deep and so many? -/
def fits (t : VT) (L r : Nat) : Bool := decide (t.depth ≤ L) && decide (t.count ≤ r) && t.each
theorem fits_iff {t : VT} {L r : Nat} : fits t L r = true ↔ t.depth ≤ L ∧ t.count ≤ r ∧ t.each = true := by
  unfold fits
  rw [Bool.and_eq_true, Bool.and_eq_true, decide_eq_true_eq, decide_eq_true_eq, and_assoc]
theorem eachL_iff : ∀ l : List VT, eachL l = true ↔ ∀ x ∈ l, x.each = true := by
  intro l
  induction l with
  | nil => rw [eachL_nil]; simp
  | cons x l ih => rw [eachL_cons, Bool.and_eq_true, ih]; simp
theorem depthL_le {l : List VT} {L : Nat} : depthL l ≤ L ↔ ∀ x ∈ l, x.depth ≤ L := by
  induction l with
  | nil => rw [depthL_nil]; simp
  | cons x l ih => rw [depthL_cons, Nat.max_le, ih]; simp
theorem countL_take {l : List VT} {j : Nat} {x : VT} (h : l[j]? = some x) : countL (l.take (j + 1)) = countL (l.take j) + x.count ∧ countL (l.take j) + x.count ≤ countL l := by
  obtain ⟨hlt, rfl⟩ := List.getElem?_eq_some_iff.1 h
  have e : countL (l.take (j + 1)) = countL (l.take j) + l[j].count := by rw [List.take_succ_eq_append_getElem hlt, countL_append, countL_cons, countL_nil, Nat.add_zero]
  refine ⟨e, ?_⟩
  rw [← e]
  have := countL_append (l.take (j + 1)) (l.drop (j + 1))
  rw [List.take_append_drop] at this
  omega
/-- the first j items fit, and so many are left -/
def RoomTo (l : List VT) (L r j m : Nat) : Prop := (∀ (i : Nat) x, i < j → l[i]? = some x → x.depth ≤ L ∧ x.each = true) ∧ m + countL (l.take j) = r
theorem RoomTo.next {l : List VT} {L r j m : Nat} {x : VT} (h : RoomTo l L r j m) (hx : l[j]? = some x) (hf : fits x L m = true) : RoomTo l L r (j + 1) (m - x.count) := by
  obtain ⟨h1, h2⟩ := h
  obtain ⟨f1, f2, f3⟩ := fits_iff.1 hf
  refine ⟨fun i y hi hy => ?_, ?_⟩
  · rcases Nat.lt_or_ge i j with h | h
    · exact h1 i y h hy
    · obtain rfl : i = j := by omega
      rw [hx] at hy
      rw [← Option.some.inj hy]; exact ⟨f1, f3⟩
  · rw [(countL_take hx).1]; omega
theorem RoomTo.bad {k n : Int} {s : List UInt8} {l : List VT} {ks : List (List UInt8)} {L r j m : Nat} {x : VT} (h : RoomTo l L r j m) (hx : l[j]? = some x) (hf : fits x L m = false) : fits (.mk k n s l ks) (L + 1) (r + 1) = false := by
  cases hh : fits (.mk k n s l ks) (L + 1) (r + 1) with
  | false => rfl
  | true =>
    obtain ⟨f1, f2, f3⟩ := fits_iff.1 hh
    rw [depth_eq] at f1
    rw [count_eq] at f2
    rw [each_eq, Bool.and_eq_true] at f3
    have hm := List.mem_of_getElem? hx
    have h2 := countL_take hx
    have h3 := h.2
    rw [fits_iff.2 ⟨depthL_le.1 (by omega) x hm, by omega, eachL_mem f3.1 hm⟩] at hf
    cases hf
theorem RoomTo.all {k n : Int} {s : List UInt8} {l : List VT} {ks : List (List UInt8)} {L r m : Nat} (h : RoomTo l L r l.length m) (ho : oneB k n s l.length ks = true) : fits (.mk k n s l ks) (L + 1) (r + 1) = true ∧ r + 1 - (VT.mk k n s l ks).count = m := by
  obtain ⟨h1, h2⟩ := h
  rw [List.take_of_length_le (Nat.le_refl _)] at h2
  have h3 : ∀ x ∈ l, x.depth ≤ L ∧ x.each = true := fun x hx => by
    obtain ⟨i, hi, rfl⟩ := List.getElem_of_mem hx
    exact h1 i _ hi (List.getElem?_eq_getElem hi)
  have h4 : depthL l ≤ L := depthL_le.2 fun x hx => (h3 x hx).1
  refine ⟨fits_iff.2 ⟨by rw [depth_eq]; omega, by rw [count_eq]; omega, by rw [each_eq, ho, (eachL_iff l).2 fun x hx => (h3 x hx).2]; rfl⟩, by rw [count_eq]; omega⟩
end Go.Proofs.YtmbmeidkmhajbaaDoor.V

/- The library's Equal and Index of rows of texts. -/
namespace Go.Proofs.YtmbmeidkmhajbaaDoor.V
open Go.RowKit Go.Sort Go.Joins
set_option maxRecDepth 100000

/-- the first place of a key -/
def firstAt : List (List UInt8) → List UInt8 → Int
  | [], _ => -1
  | k :: r, key => if k = key then 0 else if firstAt r key < 0 then -1 else firstAt r key + 1
def FirstTo (ks : List (List UInt8)) (key : List UInt8) (j : Nat) : Prop := ∀ (i : Nat) (k : List UInt8), i < j → ks[i]? = some k → k ≠ key
theorem firstAt_none : ∀ (ks : List (List UInt8)) (key : List UInt8), (∀ k ∈ ks, k ≠ key) → firstAt ks key = -1 := by
  intro ks
  induction ks with
  | nil => intro key _; rw [firstAt]
  | cons k r ih =>
    intro key h
    rw [firstAt, if_neg (h k (by simp)), ih key (fun x hx => h x (by simp [hx])), if_pos (by decide)]
theorem firstAt_some : ∀ (ks : List (List UInt8)) (key : List UInt8) (j : Nat), FirstTo ks key j → ks[j]? = some key → firstAt ks key = j := by
  intro ks
  induction ks with
  | nil => intro key j _ h; simp at h
  | cons k r ih =>
    intro key j h hj
    cases j with
    | zero => simp at hj; rw [firstAt, if_pos hj]; rfl
    | succ j =>
      have hk := h 0 k (by omega) rfl
      have h2 := ih key j (fun i x hi hx => h (i + 1) x (by omega) (by simpa using hx)) (by simpa using hj)
      rw [firstAt, if_neg hk, h2, if_neg (by omega)]
      rfl
set_option maxHeartbeats 1600000 in
theorem strIdx_any (v : Value) (ks : List (List UInt8)) (key : List UInt8) (W : World) (h : Strs W v ks) :
    Calls Tryd.prog 18 #[v, .string ⟨key.toArray⟩] W fun e w' => e = .returned (.int .i64 (firstAt ks key)) ∧ Below W.heap.size W w' := by
  obtain ⟨ka, kc, rfl, hkc, hkm, _, hkx⟩ := h
  have HK := Lib.hid hkx
  clear hkx
  unfold maxLen at hkm
  go_enter Tryd.func18, Tryd.ntmps18
  go_wp2
  go_loopw [8] (fun iv wr => ∃ (j : Nat), iv = .int .i64 j ∧ j ≤ ks.length ∧ Hid (FirstTo ks key j) ∧ Below W.heap.size W wr) (fun iv _ => ks.length - (intOf iv).toNat)
  case atStart => exact ⟨0, rfl, by omega, Lib.hid (fun i k h => absurd h (by omega)), Below.refl _ _⟩
  case round =>
    obtain ⟨j, rfl, hj, HS, hb⟩ := hrel
    by_cases hlt : j < ks.length
    · obtain ⟨b, off, rfl, hkx⟩ := HK.out (by intro h; rw [h] at hlt; simp at hlt)
      obtain ⟨x, hxi⟩ : ∃ x, ks[j]? = some x := ⟨ks[j], List.getElem?_eq_getElem hlt⟩
      have g1 : W.cell? ⟨b, off + j, none⟩ = some (.string ⟨x.toArray⟩) := hkx j x hxi
      have c1 := (hb.cell (p := ⟨b, off + j, none⟩) (World.block_lt_of_cell? W _ g1)).trans g1
      clear hkx g1 HK
      by_cases hxy : x = key
      · subst hxy
        have hr := Lib.hid (firstAt_some ks x j HS.out hxi)
        clear hxi HS
        go_wp2
        go_ret
        exact ⟨ret1_of (by rw [hr.out]; rfl), hb⟩
      · have HS2 : Hid (FirstTo ks key (j + 1)) := Lib.hid (fun i k hi hk => by
          rcases Nat.lt_or_ge i j with h | h
          · exact HS.out i k h hk
          · obtain rfl : i = j := by omega
            rw [hxi] at hk
            rw [← Option.some.inj hk]; exact hxy)
        clear hxi HS
        go_wp2
        · rename_i hh
          exact absurd (by simpa using hh) (fun h : key = x => hxy h.symm)
        · go_roundw
          case rel => exact ⟨j + 1, by go_num, by omega, HS2, hb⟩
          case measure => simp [intOf]; omega
    · have hr := Lib.hid (firstAt_none ks key (fun k hk => by
        obtain ⟨i, hi, rfl⟩ := List.getElem_of_mem hk
        exact HS.out i _ (by omega) (List.getElem?_eq_getElem hi)))
      clear HS HK
      go_wp2
      go_ret
      exact ⟨ret1_of (by rw [hr.out]; rfl), hb⟩
end Go.Proofs.YtmbmeidkmhajbaaDoor.V

/- Whole variables read and written, and handed back. -/
namespace Go.Proofs.YtmbmeidkmhajbaaDoor.V
set_option maxRecDepth 100000
open Go.RowKit

theorem below_drawn {B : Nat} {a w : World} (h : Below B a w) (n : Nat) : Below B a (w.drewN n) := ⟨h.os, h.tape, h.output, h.size, h.block⟩
theorem below_rowSet {B : Nat} {a w : World} (h : Below B a w) {g : Nat} (hg : B ≤ g) (cs : Array Value) : Below B a (w.setRow g cs) :=
  h.trans ⟨rfl, rfl, rfl, by simp, fun k hk => setRow_other _ _ _ _ (by omega)⟩
/-- a type of rows or structs, of so many cells -/
def RowT (P : Program) (ty : TypeId) (n : Nat) : Prop := (∃ d, P.underlying ty = some d ∧ d.isRow = true) ∧ (P.info? ty).map (·.size) = some n
/-- cells of one value each -/
def Ones (cs : Array Value) : Prop := cs.all (·.oneCell') = true
section
variable {P : Program} {ops : Array Oper} {rest : List Oper} {a : Act} {w : World} {Q : Exit → Act → World → Prop} {t' : TypeId} {pos : String} {after : Array Edge}
/-- a variable that is a whole block is read -/
theorem wpL_load {d : Option Tmp} {x : Tmp} {ty : TypeId} (g : Nat) (t : TypeId) (cs : Array Value) (n : Nat) (hT : RowT P ty n) (hn : cs.size = n) (hg : Lies w g t cs)
    (hx : a.eval (.tmp x) = .pointer (some ⟨g, 0, none⟩)) (h : wpList P ops Q rest (a.put d (.agg cs)) w) : wpList P ops Q (⟨d, .load ty (.tmp x), t', pos, after, none⟩ :: rest) a w := by
  obtain ⟨⟨ds, hu, hd⟩, hi⟩ := hT
  exact wpList_load_row (o := ⟨d, .load ty (.tmp x), t', pos, after, none⟩) rfl ty (.tmp x) rfl g hx t cs (0, 0) ds hg hu (by cases ds <;> first | rfl | simp [TypeDesc.isRow] at hd) (by rw [hi, hn]) h
/-- .. and written -/
theorem wpL_store {x y : Tmp} {ty : TypeId} (g : Nat) (t : TypeId) (old cs : Array Value) (n : Nat) (hT : RowT P ty n) (ho : old.size = n) (hn : cs.size = n) (h1 : Ones cs) (hg : Lies w g t old)
    (hx : a.eval (.tmp x) = .pointer (some ⟨g, 0, none⟩)) (hy : a.eval (.tmp y) = .agg cs) (h : wpList P ops Q rest (a.put none undef) (w.setRow g cs)) : wpList P ops Q (⟨none, .store ty (.tmp x) (.tmp y), t', pos, after, none⟩ :: rest) a w :=
  wpList_store_row (o := ⟨none, .store ty (.tmp x) (.tmp y), t', pos, after, none⟩) rfl ty (.tmp x) (.tmp y) rfl g cs hx hy t old hg (by rw [hT.2, hn]) (by rw [ho, hn]) h1 h
/-- some cells in the middle of a block are read -/
theorem wpL_loadMid {d : Option Tmp} {x : Tmp} {ty : TypeId} (g o : Nat) (cs : List Value) (n : Nat) (hT : RowT P ty n) (hn : cs.length = n) (hg : w.rangeAt g o cs)
    (hx : a.eval (.tmp x) = .pointer (some ⟨g, o, none⟩)) (h : wpList P ops Q rest (a.put d (.agg cs.toArray)) w) : wpList P ops Q (⟨d, .load ty (.tmp x), t', pos, after, none⟩ :: rest) a w := by
  obtain ⟨⟨ds, hu, hd⟩, hi⟩ := hT
  exact wpList_load_mid (op := ⟨d, .load ty (.tmp x), t', pos, after, none⟩) rfl ty (.tmp x) rfl g o hx cs ds hg hu hd (by rw [hi, hn]) h
end
/-- what a function hands back that lies in a variable -/
theorem results_row {P : Program} {fn : Func} {p : Tmp} {ty : TypeId} {n : Nat} {w : World} {g : Nat} {t : TypeId} {cs : Array Value} {tmps : Array Value} (h : fn.results = #[.cell p ty]) (hT : RowT P ty n) (hn : cs.size = n) (hg : Lies w g t cs) (hp : tmps.getD p undef = .pointer (some ⟨g, 0, none⟩)) :
    (results fn tmps).run P w = .ok (.agg cs) w := by
  obtain ⟨⟨ds, hu, hd⟩, hi⟩ := hT
  exact results_cell_row h tmps w g t cs (0, 0) ds hp hg hu (by cases ds <;> first | rfl | simp [TypeDesc.isRow] at hd) (by rw [hi, hn])
theorem results_row_tmp {P : Program} {fn : Func} {p u : Tmp} {ty : TypeId} {n : Nat} {w : World} {g : Nat} {t : TypeId} {cs : Array Value} {tmps : Array Value} {x : Value} (h : fn.results = #[.cell p ty, .tmp u]) (hT : RowT P ty n) (hn : cs.size = n) (hg : Lies w g t cs) (hp : tmps.getD p undef = .pointer (some ⟨g, 0, none⟩)) (hx : tmps.getD u undef = x) :
    (results fn tmps).run P w = .ok (.tuple #[.agg cs, x]) w := by
  obtain ⟨⟨d, hu, hd⟩, hi⟩ := hT
  have hl := run_loadVar_row (P := P) w g t ty cs (0, 0) d hg hu (by cases d <;> first | rfl | simp [TypeDesc.isRow] at hd) (by rw [hi, hn])
  have hp' : tmps[p]?.getD undef = .pointer (some ⟨g, 0, none⟩) := by simpa using hp
  have hx' : tmps[u]?.getD undef = x := by simpa using hx
  simp [results, h, hp', hx', asAddr, hl]
theorem rowVal : RowT Tryd.prog 25 5 := ⟨⟨_, Tryd.underlying25, rfl⟩, by kernel_rfl⟩
abbrev valZ : Array Value := #[.int .i64 0, .int .i64 0, .string ⟨#[]⟩, .slice none 0 0, .slice none 0 0]
theorem valC_one (k n : Int) (s : ByteArray) (ai : Option Addr) (li ci : Nat) (ak : Option Addr) (lk ck : Nat) : Ones #[.int .i64 k, .int .i64 n, .string s, .slice ai li ci, .slice ak lk ck] := by unfold Ones; simp [Value.oneCell']
end Go.Proofs.YtmbmeidkmhajbaaDoor.V

