/- Rows of texts that come in, are cut and copied, and written in place; texts cut short. -/
import Derived.Test.YtaliafeekadecaaDoorZAny
namespace Go.Proofs.YtaliafeekadecaaDoor.Z
open Go.RowKit Go.Shelf Go.Sort
open V (Lies OwnL RowL reg)
set_option maxRecDepth 100000

def shB (x : ByteArray) : ByteArray := x.extract 0 (min (x.size : Int) 205).toNat
theorem shB_size (x : ByteArray) : (shB x).size ≤ 205 := by
  have := cut_size x 205 (by decide)
  unfold shB
  omega
theorem short_any (x : ByteArray) (w : World) : Calls Tryd.prog 7 #[.string x] w fun e w' => e = .returned (.string (shB x)) ∧ w' = w := by
  have m1 : (0 : Int) ≤ min (x.size : Int) 205 ∧ min (x.size : Int) 205 ≤ (x.size : Int) := by omega
  go_enter Tryd.func7, Tryd.ntmps7
  go_wp2
  go_ret
  exact ⟨rfl, rfl⟩
theorem strs_row {w : World} {v : Value} {S : List (List UInt8)} (h : Strs w v S) : RowL w 1 v ((S.map bytesOf).map oneS) := by
  obtain ⟨a, c, rfl, hc, hm, hn, hl⟩ := h
  refine ⟨fun cs hcs => ?_, a, c, by simp, by simpa using hc, hm, hn, fun hpos => ?_⟩
  · obtain ⟨b, _, rfl⟩ := List.mem_map.1 hcs
    rfl
  · have hne : S ≠ [] := fun e => by rw [e] at hpos; simp at hpos
    obtain ⟨b, off, ha, hx⟩ := hl hne
    refine ⟨b, off, ha, fun i cs hi j u hu => ?_⟩
    rw [List.getElem?_map, List.getElem?_map] at hi
    cases hs : S[i]? with
    | none => rw [hs] at hi; cases hi
    | some x =>
      rw [hs] at hi
      have hcs : cs = oneS (bytesOf x) := (Option.some.inj hi).symm
      subst hcs
      cases j with
      | zero =>
        have : u = .string (bytesOf x) := (Option.some.inj hu).symm
        rw [this, Nat.mul_one, Nat.add_zero]
        exact hx i x hs
      | succ j => cases hu
theorem rowOnes (l : List ByteArray) : ∀ u ∈ (l.map oneS).flatten, u.oneCell' = true := by
  intro u hu
  obtain ⟨cs, hcs, hu⟩ := List.mem_flatten.1 hu
  obtain ⟨b, _, rfl⟩ := List.mem_map.1 hcs
  rw [List.mem_singleton.1 hu]
  rfl
theorem elemS : ∀ w, (Go.sizeOf (Tryd.prog.elem 22)).run Tryd.prog w = .ok 1 w := by
  rw [show Tryd.prog.elem 22 = 9 by kernel_rfl]
  exact Tryd.sizeOf9
section
variable {ops : Array Oper} {rest : List Oper} {a : Act} {w : World} {Q : Exit → Act → World → Prop} {t' : TypeId} {pos : String} {after : Array Edge} {d : Option Tmp} {x y : Tmp}
theorem run_cutR {gd : Option (Nat × Bool)} (ad : Option Addr) (n c r : Nat) (hr : r ≤ c) (hx : a.eval (.tmp x) = .slice ad n c) (hy : a.eval (.tmp y) = .int .i64 (r : Int)) (w : World) :
    (execOp a.eval ⟨d, .slice 22 (.tmp x) none (some (.tmp y)) none, t', pos, after, gd⟩).run Tryd.prog w = .ok (.value (sliced ad 0 r c 1)) w := by
  have h1 := run_slice_h (P := Tryd.prog) w 22 ad n c Tryd.underlying22 .i64 (r : Int) (by omega) (by omega)
  have h2 := run_sliceAt_slice (P := Tryd.prog) w 22 (.slice ad n c) none (some (.int .i64 (r : Int))) none Tryd.underlying22
  unfold execOp
  simp only [hx, hy, Option.map_some, Option.map_none, Sem.run_bind, h2, h1, elemS, Result.andThen, Sem.run_pure, Int.toNat_natCast]
theorem wpL_cutR (ad : Option Addr) (n c r : Nat) (css : List (List Value)) (hR : RowL w 1 (.slice ad n c) css) (hr : r ≤ n) (hx : a.eval (.tmp x) = .slice ad n c) (hy : a.eval (.tmp y) = .int .i64 (r : Int))
    (h : ∀ v', RowL w 1 v' (css.take r) → wpList Tryd.prog ops Q rest (a.put d v') w) : wpList Tryd.prog ops Q (⟨d, .slice 22 (.tmp x) none (some (.tmp y)) none, t', pos, after, none⟩ :: rest) a w := by
  have hn : n = css.length := by obtain ⟨_, a', c', e, _⟩ := hR; injection e
  have hc : n ≤ c := by obtain ⟨_, a', c', e, hc, _⟩ := hR; injection e with _ e2 e3; omega
  exact V.wpL_val (sliced ad 0 r c 1) rfl (run_cutR ad n c r (by omega) hx hy w) (h _ (hR.take (by omega)))
end
/-- a row of texts that the call owns: where it lies -/
theorem own_at {w : World} {B : Nat} {v : Value} {l : List ByteArray} (h : OwnL w B 9 1 v (l.map oneS)) : (v = .slice none 0 0 ∧ l = []) ∨ ∃ g c, v = .slice (some ⟨g, 0, none⟩) l.length c ∧ B ≤ g ∧ g < w.heap.size ∧ l.length ≤ c ∧ c ≤ maxLen ∧
    (∀ j x, l[j]? = some x → w.cell? ⟨g, j, none⟩ = some (.string x) ∧ w.frozen? ⟨g, j, none⟩ = false) ∧
    (∀ j x, j < l.length → OwnL (w.setCell ⟨g, j, none⟩ (.string x)) B 9 1 v ((l.set j x).map oneS)) := by
  have h0 := h
  obtain ⟨h1, hlen, h2⟩ := h
  rw [List.length_map] at h2 hlen
  have hfl : ∀ l : List ByteArray, (l.map oneS).flatten = l.map Value.string := by
    intro l
    induction l with
    | nil => rfl
    | cons b l ih => rw [List.map_cons, List.flatten_cons, ih]; rfl
  rcases h2 with ⟨hv, hn⟩ | ⟨g, cap, cur, hv, hB, hh, hc, hm, hs, ht⟩
  · exact .inl ⟨hv, List.eq_nil_of_length_eq_zero (by omega)⟩
  · right
    rw [hfl, Nat.mul_one] at ht
    have hcur : ∀ j, j < l.length → cur[j]? = (l[j]?).map Value.string := fun j hj => by
      have : (cur.toList.take l.length)[j]? = (l.map Value.string)[j]? := by rw [ht]
      rw [List.getElem?_take, if_pos hj, List.getElem?_map] at this
      rw [← this, Array.getElem?_toList]
    refine ⟨g, cap, hv, hB, (Array.getElem?_eq_some_iff.1 hh).1, hc, hm, fun j x hj => ?_, fun j x hj => ?_⟩
    · have hlt := (List.getElem?_eq_some_iff.1 hj).1
      refine ⟨?_, frozen_of_row w g j cur _ hh⟩
      rw [cell_of_row w g j cur _ (0, 0) hh, hcur j hlt, hj]
      rfl
    · refine ⟨fun cs hcs => ?_, ?_, .inr ⟨g, cap, cur.setIfInBounds j (.string x), ?_, hB, heap_setCell_same w g j cur _ (.string x) hh, ?_, hm, ?_, ?_⟩⟩
      · obtain ⟨b, _, rfl⟩ := List.mem_map.1 hcs
        rfl
      · rw [hfl]; simp
      · rw [hv]; simp
      · simpa using hc
      · rw [Array.size_setIfInBounds]; exact hs
      · rw [List.length_map, List.length_set, hfl, Nat.mul_one, Array.toList_setIfInBounds, List.take_set, ht, List.map_set]
theorem fIdx_congr {q q' : ByteArray → Bool} : ∀ (l : List ByteArray) (j : Nat), (∀ x ∈ l, q x = q' x) → fIdx q l j = fIdx q' l j := by
  intro l
  induction l with
  | nil => intro j _; rfl
  | cons x l ih =>
    intro j h
    rw [fIdx, fIdx, h x (by simp), ih (j + 1) (fun y hy => h y (by simp [hy]))]
theorem fIdx_snoc (q : ByteArray → Bool) (x : ByteArray) : ∀ (l : List ByteArray) (j : Nat), fIdx q (l ++ [x]) j = if fIdx q l j < 0 then (if q x = true then ((j + l.length : Nat) : Int) else -1) else fIdx q l j := by
  intro l
  induction l with
  | nil =>
    intro j
    rw [List.nil_append, fIdx, fIdx, fIdx]
    simp
  | cons y l ih =>
    intro j
    rw [List.cons_append, fIdx, fIdx]
    by_cases h : q y = true
    · rw [if_pos h, if_pos h, if_neg (by omega)]
    · rw [if_neg h, if_neg h, ih (j + 1), List.length_cons, show j + 1 + l.length = j + (l.length + 1) by omega]
end Go.Proofs.YtaliafeekadecaaDoor.Z
