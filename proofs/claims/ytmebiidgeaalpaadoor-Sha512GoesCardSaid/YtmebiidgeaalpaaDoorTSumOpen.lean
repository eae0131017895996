/- A sum that goes on, as an argument: its cells. -/
import Derived.Test.YtmebiidgeaalpaaDoorTLaid
import Derived.Deep.Strs
namespace Go.Proofs.YtmebiidgeaalpaaDoor.T
open Go.ChangeShapes Go.WideShapes Go.ChangeAt Go.RowKit

theorem cells26 : Tryd.prog.cellsOf 26 = 8 := by kernel_rfl
theorem cells29 : Tryd.prog.cellsOf 28 = 10 := by kernel_rfl
theorem cells9 : Tryd.prog.cellsOf 9 = 1 := by kernel_rfl
theorem cells27 : Tryd.prog.cellsOf 25 = 1 := by kernel_rfl
theorem array10 {α : Type} {cs : Array α} (h : cs.size = 10) : ∃ c0 c1 c2 c3 c4 c5 c6 c7 c8 c9, cs = #[c0, c1, c2, c3, c4, c5, c6, c7, c8, c9] := by
  obtain ⟨l⟩ := cs
  match l, h with
  | [c0, c1, c2, c3, c4, c5, c6, c7, c8, c9], _ => exact ⟨c0, c1, c2, c3, c4, c5, c6, c7, c8, c9, rfl⟩
theorem nat_of_u32 {k : Int} (h : (Lit.int .u64 k).wf = true) : ∃ x : Nat, k = (x : Int) ∧ x < 18446744073709551616 := by
  have := bounds_u64 h
  exact ⟨k.toNat, by omega, by omega⟩
theorem nat_of_u64 {k : Int} (h : (Lit.int .u64 k).wf = true) : ∃ x : Nat, k = (x : Int) ∧ x < 18446744073709551616 := by
  have := bounds_u64 h
  exact ⟨k.toNat, by omega, by omega⟩
theorem words_open {H : Type} {enc : TypeId × Value → H} {W : World} {fuel : Nat} {l : List Value} {x : DataW H × List MemPlace}
    (h : DataW.trod enc Tryd.prog W 0 (fun _ => true) true fuel 26 l = some x) : ∀ i, i < 8 → ∃ k : Nat, l[i]? = some (w64 k) ∧ k < 18446744073709551616 := by
  intro i hi
  obtain ⟨xs, m, rfl, hx, _, hxn, hel⟩ := DataW.trod_array Tryd.underlying26 h
  have h1 := hel i hi
  have hxi : xs[i]? = some (xs[i]'(by omega)) := List.getElem?_eq_getElem (by omega)
  rw [hxi, cells25, Nat.mul_one] at h1
  obtain ⟨k, e1, _, hw⟩ := DataW.trod_int Tryd.underlying25 h1
  obtain ⟨k, rfl, hk⟩ := nat_of_u32 hw
  have h3 : ((l.drop i).take 1)[0]? = some (.int .u64 (k : Int)) := by rw [e1]; rfl
  rw [List.getElem?_take, if_pos (by decide), List.getElem?_drop, Nat.add_zero] at h3
  exact ⟨k, h3, hk⟩
theorem sum_open {H : Type} {enc : TypeId × Value → H} {W : World} {r : Reach} {b0 : Nat} {v : Value} {d : DataW H} {p : List MemPlace}
    (hv : Value.okWide Tryd.prog W r b0 28 v) (h : DataW.Trod enc Tryd.prog W 0 (fun _ => true) true 28 v d p) :
    ∃ (S : H8) (buf : ByteArray) (n : Nat), v = .agg (sumA S buf n) ∧ S.Ok ∧ n < 18446744073709551616 ∧ buf.size ≤ maxLen := by
  obtain ⟨cs, rfl, hsz⟩ := okWide_struct Tryd.underlying28 hv
  obtain ⟨c0, c1, c2, c3, c4, c5, c6, c7, c8, c9, rfl⟩ := array10 (hsz.trans cells29)
  obtain ⟨fuel, hf⟩ := h
  obtain ⟨y0, y1, y2, n, hx, _, h0, h1, h2⟩ := Go.Deep.trod_struct3 Tryd.underlying28 hf
  simp [Value.cells, cells26, cells9, cells27] at h0 h1 h2
  have hw := words_open h0
  obtain ⟨k0, e0, l0⟩ := hw 0 (by decide)
  obtain ⟨k1, e1, l1⟩ := hw 1 (by decide)
  obtain ⟨k2, e2, l2⟩ := hw 2 (by decide)
  obtain ⟨k3, e3, l3⟩ := hw 3 (by decide)
  obtain ⟨k4, e4, l4⟩ := hw 4 (by decide)
  obtain ⟨k5, e5, l5⟩ := hw 5 (by decide)
  obtain ⟨k6, e6, l6⟩ := hw 6 (by decide)
  obtain ⟨k7, e7, l7⟩ := hw 7 (by decide)
  obtain ⟨s, es, _, hs⟩ := DataW.trod_string Tryd.underlying9 h1
  obtain ⟨k, ek, _, hk⟩ := DataW.trod_int Tryd.underlying25 h2
  obtain ⟨k, rfl, hk2⟩ := nat_of_u64 hk
  injection e0 with e0
  injection e1 with e1
  injection e2 with e2
  injection e3 with e3
  injection e4 with e4
  injection e5 with e5
  injection e6 with e6
  injection e7 with e7
  injection es with es
  injection ek with ek
  subst e0 e1 e2 e3 e4 e5 e6 e7 es ek
  exact ⟨⟨k0, k1, k2, k3, k4, k5, k6, k7⟩, s, k, rfl, ⟨l0, l1, l2, l3, l4, l5, l6, l7⟩, hk2, hs⟩
end Go.Proofs.YtmebiidgeaalpaaDoor.T
