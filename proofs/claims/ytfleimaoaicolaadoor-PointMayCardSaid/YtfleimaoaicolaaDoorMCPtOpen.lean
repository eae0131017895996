/- A point that comes in as an argument is four numbers. -/
import Derived.Test.YtfleimaoaicolaaDoorLot12
namespace Go.Proofs.YtfleimaoaicolaaDoor.C
open Go.Proofs.YtfleimaoaicolaaDoor.F
set_option maxRecDepth 100000
open Go.ChangeShapes Go.WideShapes Go.ChangeAt Go.RowKit

theorem cellsF : Tryd.prog.cellsOf 24 = 4 := by kernel_rfl
theorem cellsP : Tryd.prog.cellsOf 26 = 16 := by kernel_rfl
theorem array16 {α : Type} {cs : Array α} (h : cs.size = 16) : ∃ c0 c1 c2 c3 c4 c5 c6 c7 c8 c9 d0 d1 d2 d3 d4 d5, cs = #[c0, c1, c2, c3, c4, c5, c6, c7, c8, c9, d0, d1, d2, d3, d4, d5] := by
  obtain ⟨l⟩ := cs
  match l, h with
  | [c0, c1, c2, c3, c4, c5, c6, c7, c8, c9, d0, d1, d2, d3, d4, d5], _ => exact ⟨c0, c1, c2, c3, c4, c5, c6, c7, c8, c9, d0, d1, d2, d3, d4, d5, rfl⟩
theorem words_openF {H : Type} {enc : TypeId × Value → H} {W : World} {fuel : Nat} {l : List Value} {x : DataW H × List MemPlace}
    (h : DataW.trod enc Tryd.prog W 0 (fun _ => true) true fuel 24 l = some x) : ∀ i, i < 4 → ∃ k : Nat, l[i]? = some (w64 k) ∧ k < 18446744073709551616 := by
  intro i hi
  obtain ⟨xs, m, rfl, hx, _, hxn, hel⟩ := DataW.trod_array Tryd.underlying24 h
  have h1 := hel i hi
  have hxi : xs[i]? = some (xs[i]'(by omega)) := List.getElem?_eq_getElem (by omega)
  rw [hxi, cellsU64, Nat.mul_one] at h1
  obtain ⟨k, e1, _, hw⟩ := DataW.trod_int Tryd.underlying22 h1
  obtain ⟨k, rfl, hk⟩ := nat_of_u64 hw
  have h3 : ((l.drop i).take 1)[0]? = some (.int .u64 (k : Int)) := by rw [e1]; rfl
  rw [List.getElem?_take, if_pos (by decide), List.getElem?_drop, Nat.add_zero] at h3
  exact ⟨k, h3, hk⟩
theorem four_open {H : Type} {enc : TypeId × Value → H} {W : World} {fuel : Nat} {c0 c1 c2 c3 : Value} {x : DataW H × List MemPlace}
    (h : DataW.trod enc Tryd.prog W 0 (fun _ => true) true fuel 24 [c0, c1, c2, c3] = some x) : ∃ n, n < K256 ∧ #[c0, c1, c2, c3] = feA n := by
  have hw := words_openF h
  obtain ⟨k0, e0, l0⟩ := hw 0 (by decide)
  obtain ⟨k1, e1, l1⟩ := hw 1 (by decide)
  obtain ⟨k2, e2, l2⟩ := hw 2 (by decide)
  obtain ⟨k3, e3, l3⟩ := hw 3 (by decide)
  injection e0 with e0
  injection e1 with e1
  injection e2 with e2
  injection e3 with e3
  subst e0 e1 e2 e3
  obtain ⟨n, hn, he, _⟩ := fe_of k0 k1 k2 k3 l0 l1 l2 l3
  injection he with he
  exact ⟨n, hn, he⟩
theorem pt_open {H : Type} {enc : TypeId × Value → H} {W : World} {r : Reach} {b0 : Nat} {v : Value} {d : DataW H} {p : List MemPlace}
    (hv : Value.okWide Tryd.prog W r b0 26 v) (h : DataW.Trod enc Tryd.prog W 0 (fun _ => true) true 26 v d p) : ∃ u : N4, u.Lt ∧ v = pt u := by
  obtain ⟨cs, rfl, hsz⟩ := okWide_struct Tryd.underlying26 hv
  obtain ⟨c0, c1, c2, c3, c4, c5, c6, c7, c8, c9, d0, d1, d2, d3, d4, d5, rfl⟩ := array16 (hsz.trans cellsP)
  obtain ⟨fuel, hf⟩ := h
  obtain ⟨xs, m, _, _, _, hlen, hel⟩ := DataW.trod_struct Tryd.underlying26 hf
  match xs, hlen with
  | [y0, y1, y2, y3], _ =>
    have h0 := hel 0 _ rfl
    have h1 := hel 1 _ rfl
    have h2 := hel 2 _ rfl
    have h3 := hel 3 _ rfl
    simp [Value.cells, cellsF] at h0 h1 h2 h3
    obtain ⟨n0, l0, e0⟩ := four_open h0
    obtain ⟨n1, l1, e1⟩ := four_open h1
    obtain ⟨n2, l2, e2⟩ := four_open h2
    obtain ⟨n3, l3, e3⟩ := four_open h3
    refine ⟨⟨n0, n1, n2, n3⟩, ⟨l0, l1, l2, l3⟩, ?_⟩
    show Value.agg _ = Value.agg (feA n0 ++ feA n1 ++ feA n2 ++ feA n3)
    rw [← e0, ← e1, ← e2, ← e3]
    rfl
end Go.Proofs.YtfleimaoaicolaaDoor.C
