/- How a value, and a row of pairs, is opened as an argument. -/
import Derived.Test.YtdfdpckcemdimaaDoorVMake
namespace Go.Proofs.YtdfdpckcemdimaaDoor.V
open Go.ChangeShapes Go.WideShapes Go.ChangeAt Go.RowKit
set_option maxRecDepth 100000

/-- an argument that is a value -/
theorem val_arg {H : Type} {enc : TypeId × Value → H} {W : World} {r : Reach} {b0 : Nat} {v : Value} {d : DataW H} {p : List MemPlace}
    (hv : Value.okWide Tryd.prog W r b0 25 v) (h : DataW.Trod enc Tryd.prog W 0 (fun _ => true) true 25 v d p) :
    ∃ (cs : List Value) (t : VT) (e : Nat), v = .agg cs.toArray ∧ IsV W e cs t := by
  obtain ⟨a, rfl, _⟩ := okWide_struct Tryd.underlying25 hv
  obtain ⟨fuel, hf⟩ := h
  obtain ⟨t, e, ht⟩ := val_open fuel fuel (Nat.le_refl _) _ _ hf
  exact ⟨a.toList, t, e, rfl, ht⟩
/-- one pair: its key, its value's cells, its value -/
structure PairT where
  key : List UInt8
  cells : List Value
  val : VT
instance : Inhabited PairT := ⟨⟨[], [], vt0⟩⟩
def PairT.all (p : PairT) : List Value := str p.key :: p.cells
/-- the slice value v reads as these pairs -/
def Pairs (w : World) (d : Nat) (v : Value) (S : List PairT) : Prop := RowL w 6 v (S.map PairT.all) ∧ ∀ p ∈ S, IsV w d p.cells p.val ∧ p.key.length ≤ maxLen
theorem Pairs.below {w w' : World} {d : Nat} {v : Value} {S : List PairT} (h : Pairs w d v S) (hb : Below w.heap.size w w') : Pairs w' d v S := ⟨h.1.below hb, fun p hp => ⟨(h.2 p hp).1.below hb, (h.2 p hp).2⟩⟩
theorem IsV.five {w : World} {d : Nat} {cs : List Value} {t : VT} (h : IsV w d cs t) : cs.length = 5 := by
  obtain ⟨_, _, _, _, rfl⟩ := h.form
  rfl
theorem IsV.ones {w : World} {d : Nat} {cs : List Value} {t : VT} (h : IsV w d cs t) : ∀ u ∈ cs, u.oneCell' = true := by
  obtain ⟨_, _, _, _, rfl⟩ := h.form
  intro u hu
  simp only [List.mem_cons, List.mem_nil_iff, or_false] at hu
  rcases hu with rfl | rfl | rfl | rfl | rfl <;> rfl
theorem cellsP : Tryd.prog.cellsOf 39 = 6 := by kernel_rfl
theorem list2 {α : Type} {l : List α} (h : l.length = 2) : ∃ c0 c1, l = [c0, c1] := by
  match l, h with
  | [c0, c1], _ => exact ⟨c0, c1, rfl⟩
theorem list6 {α : Type} {l : List α} (h : l.length = 6) : ∃ c0 c1 c2 c3 c4 c5, l = [c0, c1, c2, c3, c4, c5] := by
  match l, h with
  | [c0, c1, c2, c3, c4, c5], _ => exact ⟨c0, c1, c2, c3, c4, c5, rfl⟩
theorem pair_open {H : Type} {enc : TypeId × Value → H} {W : World} {fuel : Nat} {cs : List Value} {x : DataW H × List MemPlace}
    (h : DataW.trod enc Tryd.prog W 0 (fun _ => true) true fuel 39 cs = some x) : ∃ (p : PairT) (d : Nat), cs = p.all ∧ IsV W d p.cells p.val ∧ p.key.length ≤ maxLen := by
  obtain ⟨xs, n, rfl, _, hlen, hxl, hfl⟩ := DataW.trod_struct Tryd.underlying39 h
  obtain ⟨c0, c1, c2, c3, c4, c5, rfl⟩ := list6 (hlen.trans cellsP)
  obtain ⟨y0, y1, rfl⟩ := list2 (l := xs) hxl
  have h0 := hfl 0 _ rfl
  have h1 := hfl 1 _ rfl
  simp [cellsT, cellsV] at h0 h1
  clear hfl
  obtain ⟨s, es, _, hs⟩ := DataW.trod_string Tryd.underlying9 h0
  injection es with es
  subst es
  obtain ⟨t, d, ht⟩ := val_open n n (Nat.le_refl _) _ _ h1
  exact ⟨⟨s.data.toList, [c1, c2, c3, c4, c5], t⟩, d, rfl, ht, by simpa using hs⟩
/-- an argument that is a row of pairs -/
theorem pairs_arg {H : Type} {enc : TypeId × Value → H} {W : World} {r : Reach} {b0 : Nat} {v : Value} {d : DataW H} {p : List MemPlace}
    (hv : Value.okWide Tryd.prog W r b0 34 v) (h : DataW.Trod enc Tryd.prog W 0 (fun _ => true) true 34 v d p) : ∃ (S : List PairT) (e : Nat), Pairs W e v S := by
  obtain ⟨a0, l0, c0, rfl⟩ := okWide_slice Tryd.underlying34 hv
  obtain ⟨fuel, hf⟩ := h
  rcases DataW.trod_slice Tryd.underlying34 hf with ⟨hcs, _⟩ | ⟨a, len, cap, elems, rest, n', rfl, hcs, _, _, hl, hm, hel, hx, _⟩
  · simp [Value.cells] at hcs
    obtain ⟨rfl, rfl, rfl⟩ := hcs
    exact ⟨[], 0, RowL.nil _ _, fun p hp => by cases hp⟩
  · simp [Value.cells] at hcs
    obtain ⟨rfl, rfl, rfl⟩ := hcs
    rw [cellsP] at hx
    have hx' : ∀ i, i < l0 → ∃ p : PairT, W.cells? 0 (a.add (i * 6)) 6 = some p.all ∧ ∃ d, IsV W d p.cells p.val ∧ p.key.length ≤ maxLen := by
      intro i hi
      have := hx i hi
      rw [List.getElem?_eq_getElem (by omega)] at this
      obtain ⟨cs', g1, g2⟩ := Option.bind_eq_some_iff.1 this
      obtain ⟨p, d, rfl, h1, h2⟩ := pair_open g2
      exact ⟨p, g1, d, h1, h2⟩
    obtain ⟨f, hf'⟩ := Go.Deep.choose_lt hx'
    obtain ⟨d, hd⟩ := Go.Deep.fuel_lt (q := fun i d => IsV W d (f i).cells (f i).val ∧ (f i).key.length ≤ maxLen) (fun i a b hab h => ⟨h.1.mono hab, h.2⟩) (fun i hi => (hf' i hi).2)
    have hll : (((List.range l0).map f).map PairT.all).length = l0 := by simp
    refine ⟨(List.range l0).map f, d, ⟨fun cs hcs => ?_, some a, c0, by rw [hll], by rw [hll]; exact hl, hm, (fun e => by cases e), fun hpos => ?_⟩, fun p hp => ?_⟩
    · obtain ⟨p, hp, rfl⟩ := List.mem_map.1 hcs
      obtain ⟨i, hi, rfl⟩ := List.mem_map.1 hp
      have := (hd i (List.mem_range.1 hi)).1.five
      show (_ :: _).length = 6
      rw [List.length_cons, this]
    · rw [hll] at hpos
      obtain ⟨_, g2, g3⟩ := World.cells?_some (hf' 0 hpos).1
      have hspot : a.spot = none := by
        have g4 := g3 0 (by decide)
        rw [List.getElem?_eq_getElem (by omega)] at g4
        have := World.cell?_spot g4
        simpa [Addr.add] using this
      obtain ⟨b, off, spot⟩ := a
      simp only at hspot
      subst hspot
      refine ⟨b, off, rfl, fun i cs hi j u hu => ?_⟩
      have hlt : i < l0 := by have := (List.getElem?_eq_some_iff.1 hi).1; omega
      have hi2 : cs = (f i).all := by
        simp only [List.getElem?_map, List.getElem?_range hlt, Option.map_some, Option.some.injEq] at hi
        exact hi.symm
      subst hi2
      obtain ⟨_, g2, g3⟩ := World.cells?_some (hf' i hlt).1
      have := g3 j (by have := (List.getElem?_eq_some_iff.1 hu).1; omega)
      rw [Addr.add_mid, Addr.add_mid] at this
      exact this.trans hu
    · obtain ⟨i, hi, rfl⟩ := List.mem_map.1 hp
      exact hd i (List.mem_range.1 hi)
end Go.Proofs.YtdfdpckcemdimaaDoor.V
