/- Values by keys: rising pairs, their one order, what a key gets. -/
import Derived.Test.YtdfdpckcemdimaaDoorVSizesW
namespace Go.Proofs.YtdfdpckcemdimaaDoor.V
open Go.RowKit Go.Sort Go.Joins
set_option maxRecDepth 100000

theorem Rising.tail {p : PairT} {S : List PairT} (h : Rising (p :: S)) : Rising S := fun i x y h1 h2 => h (i + 1) x y (by simpa using h1) (by simpa using h2)
theorem Rising.pair : ∀ {S : List PairT}, Rising S → S.Pairwise (fun p q => lessL p.key q.key = true) := by
  intro S
  induction S with
  | nil => intro _; exact List.Pairwise.nil
  | cons p r ih =>
    intro h
    refine List.Pairwise.cons ?_ (ih h.tail)
    cases r with
    | nil => intro x hx; cases hx
    | cons q r =>
      have hpq := h 0 p q rfl rfl
      intro x hx
      rcases List.mem_cons.1 hx with rfl | hx
      · exact hpq
      · exact less_trans _ _ _ hpq (List.rel_of_pairwise_cons (ih h.tail) hx)
theorem less_anti {x y : List UInt8} (h : lessL x y = true) : lessL y x = false := by
  rcases less_three x y with ⟨_, _, h1⟩ | ⟨h1, _, _⟩ | ⟨h1, _, _⟩
  · exact h1
  · rw [h1, lessL_same] at h; cases h
  · rw [h1] at h; cases h
theorem rising_one {S S' : List PairT} (hp : S.Perm S') (h : Rising S) (h' : Rising S') : S = S' :=
  List.Perm.eq_of_pairwise (fun a b _ _ hab hba => by rw [less_anti hab] at hba; cases hba) h.pair h'.pair hp
theorem Rising.nodup {S : List PairT} (h : Rising S) : (S.map (·.key)).Nodup := by
  rw [List.nodup_iff_pairwise_ne, List.pairwise_map]
  exact h.pair.imp fun hab he => by rw [he, lessL_same] at hab; cases hab
theorem perm_nodup {S S' : List PairT} (hp : S'.Perm S) (h : Rising S') : (S.map (·.key)).Nodup := ((hp.map (·.key)).nodup_iff).1 h.nodup
/-- what a key gets, or no value -/
def getT (t : VT) (key : List UInt8) : VT := (getV t key).getD zeroT
theorem get_any (d : Nat) (cs : List Value) (t : VT) (key : List UInt8) (W : World) (h : IsV W (d + 1) cs t) :
    Calls Tryd.prog 19 #[.agg cs.toArray, .string ⟨key.toArray⟩] W fun e w' => ∃ cs', e = .returned (.tuple #[.agg cs'.toArray, .bool (getV t key).isSome]) ∧ IsV w' (d + 1) cs' (getT t key) ∧ Below W.heap.size W w' := by
  unfold getT
  cases hg : getV t key with
  | none =>
    refine (get_none (d + 1) cs t key W h hg).mono ?_
    rintro e w' ⟨rfl, hb⟩
    exact ⟨_, rfl, isV_zero w' d, hb⟩
  | some x =>
    refine (get_some d cs t x key W h hg).mono ?_
    rintro e w' ⟨cs', rfl, hv, hb⟩
    exact ⟨cs', rfl, hv.mono (Nat.le_succ _), hb⟩
theorem get_mapT {S : List PairT} (h : Rising S) {p : PairT} (hp : p ∈ S) : getV (mapT S) p.key = some p.val := by
  obtain ⟨j, hj⟩ := List.mem_iff_getElem?.1 hp
  have hlt := (List.getElem?_eq_some_iff.1 hj).1
  have hf : firstAt (mapT S).keys p.key = j := by
    refine firstAt_some _ _ j (fun i k hi hk he => ?_) (by show (S.map (·.key))[j]? = _; rw [List.getElem?_map, hj]; rfl)
    have hk : (S.map (·.key))[i]? = some k := hk
    rw [List.getElem?_map] at hk
    obtain ⟨q, hq, rfl⟩ := Option.map_eq_some_iff.1 hk
    obtain ⟨l1, e1⟩ := List.getElem?_eq_some_iff.1 hq
    obtain ⟨l2, e2⟩ := List.getElem?_eq_some_iff.1 hj
    have := List.pairwise_iff_getElem.1 h.pair i j l1 l2 hi
    rw [e1, e2, he, lessL_same] at this
    cases this
  unfold getV
  rw [hf, if_pos ⟨rfl, by show (S.map (·.key)).length = (S.map (·.val)).length; simp, Int.natCast_nonneg j⟩, Int.toNat_natCast]
  show (S.map (·.val))[j]? = _
  rw [List.getElem?_map, hj]
  rfl
theorem get_zeroT (key : List UInt8) : getV zeroT key = none := by
  unfold getV
  exact if_neg (fun h => absurd h.1 (by decide))
theorem drop_take_perm (S : List PairT) (j : Nat) : (S.drop j ++ S.take j).Perm S := by
  have := List.perm_append_comm (l₁ := S.drop j) (l₂ := S.take j)
  rwa [List.take_append_drop] at this
/-- two orders of one row of pairs -/
theorem map_both {S S2 : List PairT} (hp : S2.Perm S) {t u : VT} {er er2 : Int} (h : (er = 0 ∧ ∃ S' : List PairT, S'.Perm S ∧ Rising S' ∧ t = mapT S') ∨ (er = 23 ∧ ¬ (S.map (·.key)).Nodup ∧ t = zeroT))
    (h2 : (er2 = 0 ∧ ∃ S' : List PairT, S'.Perm S2 ∧ Rising S' ∧ u = mapT S') ∨ (er2 = 23 ∧ ¬ (S2.map (·.key)).Nodup ∧ u = zeroT)) : er = er2 ∧ u = t ∧ ((er = 0 ∧ ∀ p ∈ S, getV t p.key = some p.val) ∨ er = 23) := by
  rcases h with ⟨rfl, S1, h1, r1, rfl⟩ | ⟨rfl, n1, rfl⟩
  · rcases h2 with ⟨rfl, S3, h3, r3, rfl⟩ | ⟨rfl, n2, rfl⟩
    · refine ⟨rfl, ?_, .inl ⟨rfl, fun p hpm => get_mapT r1 (h1.mem_iff.2 hpm)⟩⟩
      rw [rising_one ((h3.trans hp).trans h1.symm) r3 r1]
    · exact absurd (((hp.map (·.key)).nodup_iff).2 (perm_nodup h1 r1)) n2
  · rcases h2 with ⟨rfl, S3, h3, r3, rfl⟩ | ⟨rfl, n2, rfl⟩
    · exact absurd (((hp.map (·.key)).nodup_iff).1 (perm_nodup h3 r3)) n1
    · exact ⟨rfl, rfl, .inr rfl⟩
theorem Pairs.mono {w : World} {d d' : Nat} {v : Value} {S : List PairT} (h : Pairs w d v S) (hd : d ≤ d') : Pairs w d' v S := ⟨h.1, fun p hp => ⟨(h.2 p hp).1.mono hd, (h.2 p hp).2⟩⟩
end Go.Proofs.YtdfdpckcemdimaaDoor.V
