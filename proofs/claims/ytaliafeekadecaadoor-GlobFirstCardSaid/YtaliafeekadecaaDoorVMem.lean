/- A value in memory: five cells, its items in a row of five cells each, its keys in a row of texts; what stays of it; and how one that came in is opened. -/
import Derived.Test.YtaliafeekadecaaDoorFrame
import Derived.Test.YtaliafeekadecaaDoorVMath
import Derived.Deep.Slices
import Derived.Deep.MidRow
import Derived.ChangeSame
import Derived.OpenShut
namespace Go.Proofs.YtaliafeekadecaaDoor.V
open Go.ChangeShapes Go.WideShapes Go.ChangeAt Go.RowKit
set_option maxRecDepth 100000

theorem on_below {B : Nat} {w0 w w' : World} (h : Below B w0 w) (hb : Below w.heap.size w w') (hB : B ≤ w.heap.size) : Below B w0 w' := h.trans (hb.mono hB)
theorem on_new {w w' : World} (o : Obj) (hb : Below (w.alloc o).heap.size (w.alloc o) w') : Below w.heap.size w w' := on_below ((Below.refl _ w).alloc (Nat.le_refl _) o) hb (by simp)
instance : Inhabited VT := ⟨vt0⟩
theorem range_below {w w' : World} {b o : Nat} {cs : List Value} (hb : Below w.heap.size w w') (h : w.rangeAt b o cs) : w'.rangeAt b o cs := fun j v hv => by
  have h4 := h j v hv
  rw [hb.cell (p := ⟨b, o + j, none⟩) (World.block_lt_of_cell? w _ h4), h4]
theorem range5 {w : World} {b o : Nat} {c0 c1 c2 c3 c4 : Value} (h : w.rangeAt b o [c0, c1, c2, c3, c4]) :
    w.cell? ⟨b, o, none⟩ = some c0 ∧ w.cell? ⟨b, o + 1, none⟩ = some c1 ∧ w.cell? ⟨b, o + 2, none⟩ = some c2 ∧ w.cell? ⟨b, o + 3, none⟩ = some c3 ∧ w.cell? ⟨b, o + 4, none⟩ = some c4 := ⟨h 0 _ rfl, h 1 _ rfl, h 2 _ rfl, h 3 _ rfl, h 4 _ rfl⟩
/-- a row of k cells each: the slice value, how many, what is said of each one's cells -/
def RowC (w : World) (k : Nat) (v : Value) (m : Nat) (p : Nat → List Value → Prop) : Prop :=
  ∃ a c, v = .slice a m c ∧ m ≤ c ∧ c ≤ maxLen ∧ (a = none → c = 0) ∧ (0 < m → ∃ b off, a = some ⟨b, off, none⟩ ∧ ∀ i, i < m → ∃ cs, cs.length = k ∧ w.rangeAt b (off + i * k) cs ∧ p i cs)
theorem RowC.nil (w : World) (k : Nat) (p : Nat → List Value → Prop) : RowC w k (.slice none 0 0) 0 p := ⟨none, 0, rfl, Nat.le_refl _, Nat.zero_le _, fun _ => rfl, fun h => absurd h (by decide)⟩
theorem RowC.mono {w : World} {k : Nat} {v : Value} {m : Nat} {p q : Nat → List Value → Prop} (h : RowC w k v m p) (hq : ∀ i cs, i < m → p i cs → q i cs) : RowC w k v m q := by
  obtain ⟨a, c, hv, hc, hm, hn, hl⟩ := h
  refine ⟨a, c, hv, hc, hm, hn, fun hpos => ?_⟩
  obtain ⟨b, off, ha, hx⟩ := hl hpos
  exact ⟨b, off, ha, fun i hi => let ⟨cs, h1, h2, h3⟩ := hx i hi; ⟨cs, h1, h2, hq i cs hi h3⟩⟩
theorem RowC.below {w w' : World} {k : Nat} {v : Value} {m : Nat} {p : Nat → List Value → Prop} (h : RowC w k v m p) (hb : Below w.heap.size w w') : RowC w' k v m p := by
  obtain ⟨a, c, hv, hc, hm, hn, hl⟩ := h
  refine ⟨a, c, hv, hc, hm, hn, fun hpos => ?_⟩
  obtain ⟨b, off, ha, hx⟩ := hl hpos
  refine ⟨b, off, ha, fun i hi => ?_⟩
  obtain ⟨cs, h1, h2, h3⟩ := hx i hi
  exact ⟨cs, h1, range_below hb h2, h3⟩

/-- what fits a value's own fields -/
def VFit (t : VT) : Prop := (-9223372036854775808 ≤ t.kind ∧ t.kind ≤ 9223372036854775807) ∧ (-9223372036854775808 ≤ t.num ∧ t.num ≤ 9223372036854775807) ∧ t.txt.length ≤ maxLen ∧ ∀ x ∈ t.keys, x.length ≤ maxLen
/-- the five cells cs are the value t, which is no deeper than d -/
def IsV (w : World) : Nat → List Value → VT → Prop
  | 0, _, _ => False
  | d + 1, cs, t => ∃ vi vk, cs = [.int .i64 t.kind, .int .i64 t.num, str t.txt, vi, vk] ∧ VFit t ∧ Strs w vk t.keys ∧ RowC w 5 vi t.items.length (fun i cs' => ∃ x, t.items[i]? = some x ∧ IsV w d cs' x)
theorem isV_succ (w : World) (d : Nat) (cs : List Value) (t : VT) : IsV w (d + 1) cs t ↔ ∃ vi vk, cs = [.int .i64 t.kind, .int .i64 t.num, str t.txt, vi, vk] ∧ VFit t ∧ Strs w vk t.keys ∧ RowC w 5 vi t.items.length (fun i cs' => ∃ x, t.items[i]? = some x ∧ IsV w d cs' x) := Iff.rfl
/-- the five cells, laid out -/
theorem IsV.form {w : World} {d : Nat} {cs : List Value} {t : VT} (h : IsV w d cs t) : ∃ ai ci ak ck, cs = [.int .i64 t.kind, .int .i64 t.num, .string ⟨t.txt.toArray⟩, .slice ai t.items.length ci, .slice ak t.keys.length ck] := by
  cases d with
  | zero => exact h.elim
  | succ d =>
    obtain ⟨vi, vk, rfl, _, ⟨ak, ck, rfl, _⟩, ai, ci, rfl, _⟩ := h
    exact ⟨ai, ci, ak, ck, rfl⟩
theorem IsV.mono {w : World} : ∀ {d d' : Nat} {cs : List Value} {t : VT}, IsV w d cs t → d ≤ d' → IsV w d' cs t := by
  intro d
  induction d with
  | zero => intro d' cs t h; exact h.elim
  | succ d ih =>
    intro d' cs t h hd
    obtain ⟨e, rfl⟩ : ∃ e, d' = e + 1 := ⟨d' - 1, by omega⟩
    obtain ⟨vi, vk, h1, h2, h3, h4⟩ := h
    exact ⟨vi, vk, h1, h2, h3, h4.mono fun i cs _ ⟨x, hx, hv⟩ => ⟨x, hx, ih hv (by omega)⟩⟩
theorem IsV.below {w w' : World} (hb : Below w.heap.size w w') : ∀ {d : Nat} {cs : List Value} {t : VT}, IsV w d cs t → IsV w' d cs t := by
  intro d
  induction d with
  | zero => intro cs t h; exact h.elim
  | succ d ih =>
    intro cs t h
    obtain ⟨vi, vk, h1, h2, h3, h4⟩ := h
    exact ⟨vi, vk, h1, h2, h3.below hb, (h4.below hb).mono fun i cs _ ⟨x, hx, hv⟩ => ⟨x, hx, ih hv⟩⟩
theorem IsV.deep {w : World} : ∀ {d : Nat} {cs : List Value} {t : VT}, IsV w d cs t → t.depth ≤ d := by
  intro d
  induction d with
  | zero => intro cs t h; exact h.elim
  | succ d ih =>
    intro cs t h
    obtain ⟨k, n, s, l, ks⟩ := t
    obtain ⟨vi, vk, _, _, _, a, c, _, _, _, _, hl⟩ := h
    rw [depth_eq]
    have key : ∀ r : List VT, (∀ x ∈ r, x.depth ≤ d) → depthL r ≤ d := by
      intro r
      induction r with
      | nil => intro _; rw [depthL_nil]; exact Nat.zero_le _
      | cons x r ihr =>
        intro h
        rw [depthL_cons]
        have h1 := h x (by simp)
        have h2 := ihr fun y hy => h y (by simp [hy])
        omega
    have := key l fun x hx => by
      obtain ⟨i, hi, rfl⟩ := List.getElem_of_mem hx
      obtain ⟨b, off, _, hi2⟩ := hl (by show 0 < l.length; omega)
      obtain ⟨cs', _, _, y, hy, hv⟩ := hi2 i hi
      have hy : l[i]? = some y := hy
      rw [List.getElem?_eq_getElem hi] at hy
      rw [Option.some.inj hy]
      exact ih hv
    omega

/-! ### one that came in -/
theorem cells64 : Tryd.prog.cellsOf 2 = 1 := by kernel_rfl
theorem cellsI : Tryd.prog.cellsOf 3 = 1 := by kernel_rfl
theorem cellsT : Tryd.prog.cellsOf 9 = 1 := by kernel_rfl
theorem cellsTs : Tryd.prog.cellsOf 22 = 1 := by kernel_rfl
theorem list5 {α : Type} {l : List α} (h : l.length = 5) : ∃ c0 c1 c2 c3 c4, l = [c0, c1, c2, c3, c4] := by
  match l, h with
  | [c0, c1, c2, c3, c4], _ => exact ⟨c0, c1, c2, c3, c4, rfl⟩
theorem i64_of {k : Int} (h : (Lit.int .i64 k).wf = true) : -9223372036854775808 ≤ k ∧ k ≤ 9223372036854775807 := by
  simp only [Lit.wf, IntKind.min, IntKind.max, IntKind.signed, IntKind.bits, Bool.and_eq_true, decide_eq_true_eq, if_true] at h
  omega
end Go.Proofs.YtaliafeekadecaaDoor.V
