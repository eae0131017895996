/- A number that comes in as an argument is one of four words. -/
import Derived.Test.YtknpgijapbkebaaDoorRows
import Derived.Test.YtknpgijapbkebaaDoorGFe
import Derived.ProofKit
import Derived.OpenShut
import Derived.ShutString
import Derived.ChangeOld
import Derived.LaidMore
import Derived.Stop.Joined
import Derived.Deep.Strs
namespace Go.Proofs.YtknpgijapbkebaaDoor.F
open Go.ChangeShapes Go.WideShapes Go.ChangeAt Go.RowKit

theorem rowOwn : ownKnob Tryd.prog.godebug = none := by kernel_rfl
theorem rowLaid : laidOutB Tryd.prog = true := by kernel_rfl
theorem cellsU64 : Tryd.prog.cellsOf 22 = 1 := by kernel_rfl
theorem cellsFe : Tryd.prog.cellsOf 24 = 4 := by kernel_rfl
theorem array4 {α : Type} {cs : Array α} (h : cs.size = 4) : ∃ c0 c1 c2 c3, cs = #[c0, c1, c2, c3] := by
  obtain ⟨l⟩ := cs
  match l, h with
  | [c0, c1, c2, c3], _ => exact ⟨c0, c1, c2, c3, rfl⟩
theorem nat_of_u64 {k : Int} (h : (Lit.int .u64 k).wf = true) : ∃ x : Nat, k = (x : Int) ∧ x < 18446744073709551616 := by
  have := bounds_u64 h
  exact ⟨k.toNat, by omega, by omega⟩
theorem okWide_array {w : World} {r : Reach} {base : Nat} {t e n : Nat} {v : Value} (ht : Tryd.prog.underlying t = some (.array n e)) (h : Value.okWide Tryd.prog w r base t v) : ∃ cs, v = .agg cs ∧ cs.size = Tryd.prog.cellsOf t := by
  simp only [Value.okWide, ht] at h
  obtain ⟨cs, h1, h2, _⟩ := h
  exact ⟨cs, h1, h2⟩
theorem words_open {H : Type} {enc : TypeId × Value → H} {W : World} {fuel : Nat} {l : List Value} {x : DataW H × List MemPlace}
    (h : DataW.trod enc Tryd.prog W 0 (fun _ => true) true fuel 24 l = some x) : ∀ i, i < 4 → ∃ k : Nat, l[i]? = some (w64 k) ∧ k < 18446744073709551616 := by
  intro i hi
  obtain ⟨xs, m, rfl, hx, _, hxn, hel⟩ := DataW.trod_array Tryd.underlying24 h
  have h1 := hel i hi
  have hxi : xs[i]? = some (xs[i]'(by omega)) := List.getElem?_eq_getElem (by omega)
  rw [hxi, cellsU64, Nat.mul_one] at h1
  obtain ⟨k, e1, _, hw⟩ := DataW.trod_int Tryd.underlying22 h1
  obtain ⟨k, rfl, hk⟩ := nat_of_u64 hw
  have h3 : ((l.drop i).take 1)[0]? = some (.int .u64 (k : Int)) := by rw [e1]; rfl
  rw [List.getElem?_take, if_pos (by decide), List.getElem?_drop, Nat.add_zero] at h3
  exact ⟨k, h3, hk⟩
theorem fe_open {H : Type} {enc : TypeId × Value → H} {W : World} {r : Reach} {b0 : Nat} {v : Value} {d : DataW H} {p : List MemPlace}
    (hv : Value.okWide Tryd.prog W r b0 24 v) (h : DataW.Trod enc Tryd.prog W 0 (fun _ => true) true 24 v d p) : ∃ n, n < K256 ∧ v = fe n := by
  obtain ⟨cs, rfl, hsz⟩ := okWide_array Tryd.underlying24 hv
  obtain ⟨c0, c1, c2, c3, rfl⟩ := array4 (hsz.trans cellsFe)
  obtain ⟨fuel, hf⟩ := h
  have hw := words_open hf
  obtain ⟨k0, e0, l0⟩ := hw 0 (by decide)
  obtain ⟨k1, e1, l1⟩ := hw 1 (by decide)
  obtain ⟨k2, e2, l2⟩ := hw 2 (by decide)
  obtain ⟨k3, e3, l3⟩ := hw 3 (by decide)
  injection e0 with e0
  injection e1 with e1
  injection e2 with e2
  injection e3 with e3
  subst e0 e1 e2 e3
  obtain ⟨n, hn, he, _⟩ := fe_of k0 k1 k2 k3 l0 l1 l2 l3
  exact ⟨n, hn, he⟩
end Go.Proofs.YtknpgijapbkebaaDoor.F
