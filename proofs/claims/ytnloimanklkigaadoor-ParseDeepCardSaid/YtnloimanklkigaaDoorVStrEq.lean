/- The library's Equal and Index of rows of texts. -/
import Derived.Test.YtnloimanklkigaaDoorVReg
import Derived.Test.YtnloimanklkigaaDoorStrs
namespace Go.Proofs.YtnloimanklkigaaDoor.V
open Go.RowKit Go.Sort Go.Joins
set_option maxRecDepth 100000

/-- the first place of a key -/
def firstAt : List (List UInt8) → List UInt8 → Int
  | [], _ => -1
  | k :: r, key => if k = key then 0 else if firstAt r key < 0 then -1 else firstAt r key + 1
def FirstTo (ks : List (List UInt8)) (key : List UInt8) (j : Nat) : Prop := ∀ (i : Nat) (k : List UInt8), i < j → ks[i]? = some k → k ≠ key
theorem firstAt_none : ∀ (ks : List (List UInt8)) (key : List UInt8), (∀ k ∈ ks, k ≠ key) → firstAt ks key = -1 := by
  intro ks
  induction ks with
  | nil => intro key _; rw [firstAt]
  | cons k r ih =>
    intro key h
    rw [firstAt, if_neg (h k (by simp)), ih key (fun x hx => h x (by simp [hx])), if_pos (by decide)]
theorem firstAt_some : ∀ (ks : List (List UInt8)) (key : List UInt8) (j : Nat), FirstTo ks key j → ks[j]? = some key → firstAt ks key = j := by
  intro ks
  induction ks with
  | nil => intro key j _ h; simp at h
  | cons k r ih =>
    intro key j h hj
    cases j with
    | zero => simp at hj; rw [firstAt, if_pos hj]; rfl
    | succ j =>
      have hk := h 0 k (by omega) rfl
      have h2 := ih key j (fun i x hi hx => h (i + 1) x (by omega) (by simpa using hx)) (by simpa using hj)
      rw [firstAt, if_neg hk, h2, if_neg (by omega)]
      rfl
set_option maxHeartbeats 1600000 in
theorem strIdx_any (v : Value) (ks : List (List UInt8)) (key : List UInt8) (W : World) (h : Strs W v ks) :
    Calls Tryd.prog 27 #[v, .string ⟨key.toArray⟩] W fun e w' => e = .returned (.int .i64 (firstAt ks key)) ∧ Below W.heap.size W w' := by
  obtain ⟨ka, kc, rfl, hkc, hkm, _, hkx⟩ := h
  have HK := Lib.hid hkx
  clear hkx
  unfold maxLen at hkm
  go_enter Tryd.func27, Tryd.ntmps27
  go_wp2
  go_loopw [8] (fun iv wr => ∃ (j : Nat), iv = .int .i64 j ∧ j ≤ ks.length ∧ Hid (FirstTo ks key j) ∧ Below W.heap.size W wr) (fun iv _ => ks.length - (intOf iv).toNat)
  case atStart => exact ⟨0, rfl, by omega, Lib.hid (fun i k h => absurd h (by omega)), Below.refl _ _⟩
  case round =>
    obtain ⟨j, rfl, hj, HS, hb⟩ := hrel
    by_cases hlt : j < ks.length
    · obtain ⟨b, off, rfl, hkx⟩ := HK.out (by intro h; rw [h] at hlt; simp at hlt)
      obtain ⟨x, hxi⟩ : ∃ x, ks[j]? = some x := ⟨ks[j], List.getElem?_eq_getElem hlt⟩
      have g1 : W.cell? ⟨b, off + j, none⟩ = some (.string ⟨x.toArray⟩) := hkx j x hxi
      have c1 := (hb.cell (p := ⟨b, off + j, none⟩) (World.block_lt_of_cell? W _ g1)).trans g1
      clear hkx g1 HK
      by_cases hxy : x = key
      · subst hxy
        have hr := Lib.hid (firstAt_some ks x j HS.out hxi)
        clear hxi HS
        go_wp2
        go_ret
        exact ⟨ret1_of (by rw [hr.out]; rfl), hb⟩
      · have HS2 : Hid (FirstTo ks key (j + 1)) := Lib.hid (fun i k hi hk => by
          rcases Nat.lt_or_ge i j with h | h
          · exact HS.out i k h hk
          · obtain rfl : i = j := by omega
            rw [hxi] at hk
            rw [← Option.some.inj hk]; exact hxy)
        clear hxi HS
        go_wp2
        · rename_i hh
          exact absurd (by simpa using hh) (fun h : key = x => hxy h.symm)
        · go_roundw
          case rel => exact ⟨j + 1, by go_num, by omega, HS2, hb⟩
          case measure => simp [intOf]; omega
    · have hr := Lib.hid (firstAt_none ks key (fun k hk => by
        obtain ⟨i, hi, rfl⟩ := List.getElem_of_mem hk
        exact HS.out i _ (by omega) (List.getElem?_eq_getElem hi)))
      clear HS HK
      go_wp2
      go_ret
      exact ⟨ret1_of (by rw [hr.out]; rfl), hb⟩
end Go.Proofs.YtnloimanklkigaaDoor.V
