/- How an argument that is a row of texts is opened, and two closed facts of the program that every row's proof wants. -/
import Derived.Test.YtaliafeekadecaaDoorRows
import Derived.Test.YtaliafeekadecaaDoorStrs
import Derived.ProofKit
import Derived.OpenShut
import Derived.ShutString
import Derived.ChangeOld
import Derived.SliceStrings
namespace Go.Proofs.YtaliafeekadecaaDoor
open Go.ChangeShapes Go.WideShapes Go.ChangeAt Go.RowKit
open Go.ChangeMaps (open_string shut_string)

theorem rowOwn : ownKnob Tryd.prog.godebug = none := by kernel_rfl
theorem rowLaid : laidOutB Tryd.prog = true := by kernel_rfl
theorem cells9 : Tryd.prog.cellsOf 9 = 1 := by kernel_rfl
theorem rowNat {a : Int} (h : (Lit.int .u64 a).wf = true) : 0 ≤ a ∧ a < 2 ^ 64 := by
  have h1 : IntKind.u64.min = 0 := rfl
  have h2 : IntKind.u64.max = 18446744073709551615 := rfl
  simp only [Lit.wf, Bool.and_eq_true, decide_eq_true_eq, h1, h2] at h
  omega

/-- a row of texts that came in -/
theorem arg_strs {H : Type} {enc : TypeId × Value → H} {W : World} {a0 : Option Addr} {len0 cap0 : Nat} {d : DataW H} {p : List MemPlace}
    (h : DataW.Trod enc Tryd.prog W 0 (fun _ => true) true 22 (.slice a0 len0 cap0) d p) :
    ∃ l, Strs W (.slice a0 len0 cap0) l ∧ ∀ x ∈ l, x.length ≤ maxLen := by
  obtain ⟨fuel, hf⟩ := h
  rcases open_strings Tryd.underlying22 Tryd.underlying9 cells9 hf with ⟨hcs, _⟩ | ⟨a, len, cap, ss, hcs, _, hl, hm, hz, _, hcell, hwz⟩
  · simp [Value.cells] at hcs
    obtain ⟨rfl, rfl, rfl⟩ := hcs
    exact ⟨[], Strs.nil W, fun x hx => by cases hx⟩
  · simp [Value.cells] at hcs
    obtain ⟨rfl, rfl, rfl⟩ := hcs
    have hz' : ss.length = cap0 := by simpa using hz
    have hlen : ((ss.take len0).map (fun s => s.data.toList)).length = len0 := by simp; omega
    refine ⟨(ss.take len0).map (fun s => s.data.toList), ⟨some a, cap0, by rw [hlen], by rw [hlen]; exact hl, hm, (fun e => by cases e), fun hne => ?_⟩, ?_⟩
    · have hpos : 0 < len0 := by
        rcases Nat.eq_zero_or_pos len0 with h0 | h0
        · exfalso; apply hne; rw [h0]; rfl
        · exact h0
      have h0 := hcell 0 (by omega)
      have hspot : a.spot = none := by
        have := World.cell?_spot h0
        unfold Addr.add at this
        split at this <;> simp_all
      obtain ⟨b, off, spot⟩ := a
      simp only at hspot
      subst hspot
      refine ⟨b, off, rfl, fun i x hi => ?_⟩
      have hlt := (List.getElem?_eq_some_iff.1 hi).1
      rw [hlen] at hlt
      have hc := hcell i (by omega)
      have hadd : ((⟨b, off, none⟩ : Addr).add i) = ⟨b, off + i, none⟩ := by unfold Addr.add; split <;> simp_all
      rw [hadd] at hc
      rw [hc]
      have hx : (ss.getD i ByteArray.empty).data.toList = x := by
        rw [List.getElem?_map, List.getElem?_take, if_pos hlt] at hi
        rw [List.getD_eq_getElem?_getD]
        rcases hs : ss[i]? with _ | s
        · rw [hs] at hi; cases hi
        · rw [hs] at hi; simpa using hi
      unfold str
      rw [← hx, Lib.mk_data]
    · intro x hx
      obtain ⟨s, hs, rfl⟩ := List.mem_map.1 hx
      have := hwz s (List.mem_of_mem_take hs)
      rw [← Lib.size_eq]; exact this
end Go.Proofs.YtaliafeekadecaaDoor
