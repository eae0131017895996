/- The library's SortFunc, over pairs and the developers' comparison. -/
import Derived.Test.YtdfdpckcemdimaaDoorShelfS
import Derived.Test.YtdfdpckcemdimaaDoorShelfC
import Derived.Test.YtdfdpckcemdimaaDoorVOpen
import Derived.Test.YtdfdpckcemdimaaDoorVLess
namespace Go.Proofs.YtdfdpckcemdimaaDoor.V
open Go.RowKit Go.Sort Go.Joins
set_option maxRecDepth 100000

def goodC (cs : List Value) : Bool := cs.length == 5 && cs.all (·.oneCell')
/-- a pair's six cells, whatever pair -/
def encP (p : PairT) : List Value := str p.key :: (if goodC p.cells then p.cells else [.int .i64 0, .int .i64 0, .string ⟨#[]⟩, .slice none 0 0, .slice none 0 0])
theorem encP_good {p : PairT} (h : goodC p.cells = true) : encP p = p.all := by unfold encP PairT.all; rw [if_pos h]
theorem goodC_of {w : World} {d : Nat} {cs : List Value} {t : VT} (h : IsV w d cs t) : goodC cs = true := by
  unfold goodC
  rw [h.five, Bool.and_eq_true, List.all_eq_true]
  exact ⟨rfl, h.ones⟩
theorem encP_form (p : PairT) : ∃ c1 c2 c3 c4 c5, encP p = [str p.key, c1, c2, c3, c4, c5] ∧ ∀ u ∈ encP p, u.oneCell' = true := by
  unfold encP
  cases h : goodC p.cells with
  | false => exact ⟨_, _, _, _, _, rfl, by intro u hu; simp at hu; rcases hu with rfl | rfl | rfl | rfl | rfl <;> rfl⟩
  | true =>
    unfold goodC at h
    rw [Bool.and_eq_true, List.all_eq_true, beq_iff_eq] at h
    obtain ⟨c1, c2, c3, c4, c5, e⟩ := list5 h.1
    rw [if_pos rfl, e]
    refine ⟨c1, c2, c3, c4, c5, rfl, fun u hu => ?_⟩
    rcases List.mem_cons.1 hu with rfl | hu
    · rfl
    · exact h.2 u (by rw [e]; exact hu)
theorem encP_len (p : PairT) : (encP p).length = 6 := by obtain ⟨_, _, _, _, _, e, _⟩ := encP_form p; rw [e]; rfl
def cmpP (p q : PairT) : Int := Lib.compareBytes p.key q.key
theorem ltP (p q : PairT) : ltOf cmpP p q = lessL p.key q.key := by
  unfold ltOf cmpP
  rw [compare_is]
  cases h : lessL p.key q.key with
  | true => rfl
  | false =>
    rw [if_neg (by decide)]
    split <;> rfl
theorem swoP : SWO (ltOf cmpP) where
  irrefl p := by rw [ltP]; exact lessL_same _
  trans p q r h1 h2 := by rw [ltP] at *; exact less_trans _ _ _ h1 h2
  ntrans p q r h1 h2 := by
    rw [ltP] at *
    cases h : lessL p.key r.key with
    | false => rfl
    | true =>
      rcases less_three p.key q.key with ⟨h3, _, _⟩ | ⟨h3, _, _⟩ | ⟨_, _, h3⟩
      · rw [h3] at h1; cases h1
      · rw [h3, h2] at h; cases h
      · have := less_trans _ _ _ h3 h
        rw [this] at h2; cases h2
set_option maxHeartbeats 1000000 in
theorem closP (p q : PairT) (W : World) : Calls Tryd.prog 36 (#[.agg (encP p).toArray, .agg (encP q).toArray] ++ #[]) W fun e w' => e = .returned (.int .i64 (cmpP p q)) ∧ ∃ n os', w' = grow (W.drewN n) os' := by
  have hcon := fun W' => Tryd.strings_Compare ⟨p.key.toArray⟩ ⟨q.key.toArray⟩ W'
  obtain ⟨c1, c2, c3, c4, c5, e1, _⟩ := encP_form p
  obtain ⟨b1, b2, b3, b4, b5, e2, _⟩ := encP_form q
  have hc : Lib.compareBytes (⟨p.key.toArray⟩ : ByteArray).data.toList (⟨q.key.toArray⟩ : ByteArray).data.toList = cmpP p q := rfl
  rw [hc] at hcon
  rw [e1, e2]
  unfold str
  clear e1 e2 hc
  generalize cmpP p q = r at hcon ⊢
  show Calls _ _ #[.agg #[.string ⟨p.key.toArray⟩, c1, c2, c3, c4, c5], .agg #[.string ⟨q.key.toArray⟩, b1, b2, b3, b4, b5]] _ _
  go_enter Tryd.func36, Tryd.ntmps36
  go_wp2_with (go_at_call 37; refine (hcon _).mono ?_; rintro e w' ⟨rfl, rfl⟩)
  go_ret
  exact ⟨rfl, 0, _, by rw [alloc_eq_grow, alloc_eq_grow, grow_grow]; rfl⟩
theorem cmpsP (blk off size : Nat) (w : World) : CmpLays Tryd.prog 36 #[] encP 6 cmpP blk off size w := fun _ _ _ _ p q => closP p q _

/-! ### rows of pairs -/
theorem below_map {B : Nat} {a w : World} (h : Below B a w) {blk : Nat} (hb : B ≤ blk) (f : Array Value → Array Value) : Below B a (mapBlock w blk f) :=
  h.trans ⟨rfl, rfl, rfl, by simp [mapBlock], fun k hk => by simp [mapBlock, Array.getElem?_modify, show blk ≠ k by omega]⟩
theorem below_ahead {B : Nat} {a w : World} (h : Below B a w) (n : Nat) : Below B a (Sort.ahead w n) := ⟨h.os, h.tape, h.output, h.size, h.block⟩
theorem below_growB {B : Nat} {a w : World} (h : Below B a w) (hB : B ≤ w.heap.size) (os : Array Obj) : Below B a (grow w os) :=
  h.trans ⟨rfl, rfl, rfl, by simp [grow], fun k hk => by simp [grow, Array.getElem?_append, show k < w.heap.size by omega]⟩
theorem holds_rowP {w : World} {B g cap : Nat} {S : List PairT} (ho : OwnL w B 39 6 (.slice (some ⟨g, 0, none⟩) S.length cap) (S.map encP)) : HoldsK encP 6 w g 0 S.toArray := by
  intro j hj
  rw [size_flatK] at hj
  have hj : j < S.length * 6 := hj
  have hi : j / 6 < S.length := by omega
  have hsi : S[j / 6]? = some S[j / 6] := List.getElem?_eq_getElem hi
  have hr := ho.read
  obtain ⟨b, off, e, hra, _⟩ := hr.at (i := j / 6) (cs := encP S[j / 6]) (by rw [List.getElem?_map, hsi]; rfl)
  simp only [Option.some.injEq, Addr.mk.injEq, and_true] at e
  obtain ⟨rfl, rfl⟩ := e
  have hlen := encP_len S[j / 6]
  have hc := hra (j % 6) (encP S[j / 6])[j % 6] (List.getElem?_eq_getElem _)
  rw [get_flatK _ _ _ _ hj]
  refine ⟨?_, ?_⟩
  · rw [show 0 + j = 0 + j / 6 * 6 + j % 6 by omega, hc]
    have e1 : S.toArray[j / 6]! = S[j / 6] := by simp [hi]
    rw [e1, List.getElem!_eq_getElem?_getD, List.getElem?_eq_getElem (by omega)]
    rfl
  · rcases ho.2.2 with ⟨hv, _⟩ | ⟨g2, cap2, cur, hv, _, hh, _⟩
    · cases hv
    · injection hv with e1 e2 e3
      simp only [Option.some.injEq, Addr.mk.injEq, and_true] at e1
      rw [e1]
      exact frozen_of_row w g2 _ cur 39 hh
theorem row_holdsP {w : World} {g cap : Nat} {S : List PairT} (h : HoldsK encP 6 w g 0 S.toArray) (hc : S.length ≤ cap) (hm : cap ≤ maxLen) : RowL w 6 (.slice (some ⟨g, 0, none⟩) S.length cap) (S.map encP) := by
  refine ⟨fun cs hcs => ?_, some ⟨g, 0, none⟩, cap, by rw [List.length_map], by rw [List.length_map]; exact hc, hm, (fun e => by cases e), fun _ => ⟨g, 0, rfl, fun i cs hi j u hu => ?_⟩⟩
  · obtain ⟨p, _, rfl⟩ := List.mem_map.1 hcs
    exact encP_len p
  · rw [List.getElem?_map] at hi
    obtain ⟨p, hp, rfl⟩ := Option.map_eq_some_iff.1 hi
    have hlt := (List.getElem?_eq_some_iff.1 hp).1
    have hj := (List.getElem?_eq_some_iff.1 hu).1
    rw [encP_len] at hj
    have := (h.cell (i := i) (c := j) (by simpa using hlt) hj).1
    rw [this]
    have e1 : S.toArray[i]! = p := by
      have := (List.getElem?_eq_some_iff.1 hp).2
      simp [hlt, this]
    rw [e1, List.getElem!_eq_getElem?_getD, hu]
    rfl
/-- in the order of the keys -/
def InOrder (S : List PairT) : Prop := ∀ (i j : Nat) (p q : PairT), i < j → S[i]? = some p → S[j]? = some q → lessL q.key p.key = false
theorem isAggP : ∀ w, (isAgg 39).run Tryd.prog w = .ok true w := Tryd.isAgg39
theorem sizeP : ∀ w, (Go.sizeOf 39).run Tryd.prog w = .ok 6 w := Tryd.sizeOf39
theorem sortP_any (v : Value) (S : List PairT) (B : Nat) (W : World) (ho : OwnL W B 39 6 v (S.map encP)) (hn : S.length ≤ 1000) (hB : B ≤ W.heap.size) :
    Calls Tryd.prog 35 #[v, .func (.func 36) #[] #[]] W fun e w' => e = .returned (.tuple #[]) ∧ ∃ S' : List PairT, S'.Perm S ∧ InOrder S' ∧ RowL w' 6 v (S'.map encP) ∧ Below B W w' := by
  have hr := ho.read
  have h2 := ho.2.2
  rcases h2 with ⟨rfl, h0⟩ | ⟨g, cap, cur, rfl, hg, hh, hc, hm, _, _⟩
  · obtain rfl : S = [] := List.eq_nil_of_length_eq_zero (by simpa using h0)
    refine (AnyF.slices_SortFunc_none Tryd.sortP none 0 _ W).mono fun e w' ⟨he, hw⟩ => ?_
    subst hw
    exact ⟨he, [], List.Perm.refl _, (fun i j p q _ h => by simp at h), hr, Below.refl _ _⟩
  · rw [List.length_map] at hc ho hr ⊢
    have hlt : g < W.heap.size := (Array.getElem?_eq_some_iff.1 hh).1
    have hH := holds_rowP ho
    have eg : ∀ args w, (callFunc 36 args).run Tryd.prog w = .ok (.enter 36 args) w := enters_of Tryd.func36 (by kernel_rfl) rfl
    have hcon := AnyQ.slices_SortFunc Tryd.sortP 6 isAggP sizeP encP encP_len (fun x => (encP_form x).choose_spec.choose_spec.choose_spec.choose_spec.choose_spec.2) cmpP swoP 36 #[] g 0 cap S.toArray W eg (cmpsP g 0 S.toArray.size W) hH hlt (by simp; omega)
    have hcon2 : Calls Tryd.prog 35 #[.slice (some ⟨g, 0, none⟩) S.length cap, .func (.func 36) #[] #[]] W _ := hcon
    refine hcon2.mono fun e w' ⟨he, d', n, os, hp, hs, hw⟩ => ?_
    obtain ⟨hsz, _, hperm⟩ := hp
    have hsz : d'.size = S.length := hsz
    have e1 : (d'.extract 0 S.length).toList = d'.toList := by rw [← hsz]; simp
    have e2 : (S.toArray.extract 0 S.length).toList = S := by simp
    have hperm : (d'.extract 0 S.length).toList.Perm (S.toArray.extract 0 S.length).toList := hperm
    rw [e1, e2] at hperm
    have hlen : d'.toList.length = S.length := by rw [Array.length_toList, hsz]
    refine ⟨he, d'.toList, hperm, fun i j p q hij hi hj => ?_, ?_, ?_⟩
    · have hj2 := (List.getElem?_eq_some_iff.1 hj).1
      have := hs i j (Nat.zero_le _) hij (by show j < S.length; omega)
      rw [ltP] at this
      have a1 : d'[i]! = p := by
        have h1 := (List.getElem?_eq_some_iff.1 hi)
        rw [getElem!_pos d' i (by omega)]
        exact h1.2
      have a2 : d'[j]! = q := by
        have h1 := (List.getElem?_eq_some_iff.1 hj)
        rw [getElem!_pos d' j (by omega)]
        exact h1.2
      rwa [a1, a2] at this
    · rw [hw]
      have hK : HoldsK encP 6 (sortWorldK encP 6 W g 0 n d' os) g 0 d' := by
        unfold sortWorldK
        refine holdsK_grow encP 6 _ os g 0 d' (by simpa [putRowK, putRow, mapBlock, Sort.ahead] using hlt) ?_
        exact holdsK_putRowK encP 6 _ g 0 S.toArray d' (holdsK_ahead encP 6 W n g 0 _ hH) (by simpa using hsz)
      have := row_holdsP (S := d'.toList) (cap := cap) (by rw [Array.toArray_toList]; exact hK) (by omega) hm
      rwa [hlen] at this
    · rw [hw]
      unfold sortWorldK putRowK putRow
      exact below_growB (below_map (below_ahead (Below.refl B W) n) hg _) (by simpa [mapBlock, Sort.ahead] using hB) os
end Go.Proofs.YtdfdpckcemdimaaDoor.V
