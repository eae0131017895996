/- The library's Equal and Index of rows of texts. -/
import Derived.Test.YtdfdpckcemdimaaDoorVReg
import Derived.Test.YtdfdpckcemdimaaDoorStrs
namespace Go.Proofs.YtdfdpckcemdimaaDoor.V
open Go.RowKit Go.Sort Go.Joins
set_option maxRecDepth 100000

set_option maxHeartbeats 1600000 in
theorem strEq_any (v v' : Value) (ks ks' : List (List UInt8)) (W : World) (h : Strs W v ks) (h' : Strs W v' ks') :
    Calls Tryd.prog 49 #[v, v'] W fun e w' => e = .returned (.bool (decide (ks = ks'))) ∧ Below W.heap.size W w' := by
  obtain ⟨ka, kc, rfl, hkc, hkm, _, hkx⟩ := h
  obtain ⟨ka', kc', rfl, hkc', hkm', _, hkx'⟩ := h'
  have HK := Lib.hid hkx
  have HK' := Lib.hid hkx'
  clear hkx hkx'
  unfold maxLen at hkm hkm'
  by_cases hl : ks.length = ks'.length
  case neg =>
    rw [decide_eq_false (fun h => hl (by rw [h]))]
    have h1 : ((ks.length : Int) != (ks'.length : Int)) = true := bne_iff_ne.2 (by omega)
    go_enter Tryd.func49, Tryd.ntmps49
    go_wp2
    go_ret
    exact ⟨rfl, Below.refl _ _⟩
  have h1 : ((ks.length : Int) != (ks'.length : Int)) = false := by rw [hl]; exact bne_self_eq_false _
  have HL := Lib.hid hl
  clear hl
  go_enter Tryd.func49, Tryd.ntmps49
  go_wp2
  go_loopw [13] (fun iv wr => ∃ (j : Nat), iv = .int .i64 j ∧ j ≤ ks.length ∧ Hid (ks.take j = ks'.take j) ∧ Below W.heap.size W wr) (fun iv _ => ks.length - (intOf iv).toNat)
  case atStart => exact ⟨0, rfl, by omega, Lib.hid rfl, Below.refl _ _⟩
  case round =>
    obtain ⟨j, rfl, hj, HS, hb⟩ := hrel
    by_cases hlt : j < ks.length
    · have hlt' : j < ks'.length := by rw [← HL.out]; exact hlt
      obtain ⟨b, off, rfl, hkx⟩ := HK.out (by intro h; rw [h] at hlt; simp at hlt)
      obtain ⟨b', off', rfl, hkx'⟩ := HK'.out (by intro h; rw [h] at hlt'; simp at hlt')
      obtain ⟨x, hxi⟩ : ∃ x, ks[j]? = some x := ⟨ks[j], List.getElem?_eq_getElem hlt⟩
      obtain ⟨y, hyi⟩ : ∃ y, ks'[j]? = some y := ⟨ks'[j], List.getElem?_eq_getElem hlt'⟩
      have g1 : W.cell? ⟨b, off + j, none⟩ = some (.string ⟨x.toArray⟩) := hkx j x hxi
      have g2 : W.cell? ⟨b', off' + j, none⟩ = some (.string ⟨y.toArray⟩) := hkx' j y hyi
      have c1 := (hb.cell (p := ⟨b, off + j, none⟩) (World.block_lt_of_cell? W _ g1)).trans g1
      have c2 := (hb.cell (p := ⟨b', off' + j, none⟩) (World.block_lt_of_cell? W _ g2)).trans g2
      have hjl : (j : Int) < (ks'.length : Int) := by omega
      have u1 := cell_regrown c1
      have u2 := cell_regrown c2
      clear hkx hkx' g1 g2 HK HK' c1 c2
      by_cases hxy : x = y
      · subst hxy
        have HS2 := Lib.hid (show ks.take (j + 1) = ks'.take (j + 1) by
          rw [List.take_succ_eq_append_getElem hlt, List.take_succ_eq_append_getElem hlt', HS.out, (List.getElem?_eq_some_iff.1 hxi).2, (List.getElem?_eq_some_iff.1 hyi).2])
        clear hxi hyi HS
        go_wp2
        refine wp_region_quiet_below (by kernel_rfl) (by kernel_rfl) ?_
        repeat (go_big_quiet_step (fail))
        refine wpQuiet_nil ?_
        intro _ hw'
        obtain ⟨⟨dq, osq⟩, hw''⟩ := hw'
        subst hw''
        have hb2 := below_regrown wr dq osq
        go_wp2
        go_roundw
        case rel => exact ⟨j + 1, by go_num, by omega, HS2, on_below hb hb2 hb.size⟩
        case measure => simp [intOf]; omega
      · have hr := Lib.hid (show decide (ks = ks') = false from decide_eq_false (fun h => hxy (by
          rw [h, hyi] at hxi
          exact (Option.some.inj hxi).symm)))
        clear hxi hyi HS
        go_wp2
        refine wp_region_quiet_below (by kernel_rfl) (by kernel_rfl) ?_
        repeat (go_big_quiet_step (fail))
        refine wpQuiet_nil ?_
        intro _ hw'
        obtain ⟨⟨dq, osq⟩, hw''⟩ := hw'
        subst hw''
        have hb2 := below_regrown wr dq osq
        go_wp2
        · go_ret
          exact ⟨ret1_of (by rw [hr.out]; rfl), on_below hb hb2 hb.size⟩
        · rename_i hh
          exact absurd (by simpa using hh) hxy
    · have HE := Lib.hid (show decide (ks = ks') = true from decide_eq_true (by
        have := HS.out
        rwa [List.take_of_length_le (by omega), List.take_of_length_le (by have := HL.out; omega)] at this))
      clear HS HK HK'
      go_wp2
      go_ret
      exact ⟨ret1_of (by rw [HE.out]; rfl), hb⟩

theorem strEq_yes (v v' : Value) (ks ks' : List (List UInt8)) (W : World) (h : Strs W v ks) (h' : Strs W v' ks') (he : ks = ks') :
    Calls Tryd.prog 49 #[v, v'] W fun e w' => e = .returned (.bool true) ∧ Below W.heap.size W w' := by
  have := strEq_any v v' ks ks' W h h'
  rwa [decide_eq_true he] at this
theorem strEq_no (v v' : Value) (ks ks' : List (List UInt8)) (W : World) (h : Strs W v ks) (h' : Strs W v' ks') (he : ks ≠ ks') :
    Calls Tryd.prog 49 #[v, v'] W fun e w' => e = .returned (.bool false) ∧ Below W.heap.size W w' := by
  have := strEq_any v v' ks ks' W h h'
  rwa [decide_eq_false he] at this
/-- the first place of a key -/
def firstAt : List (List UInt8) → List UInt8 → Int
  | [], _ => -1
  | k :: r, key => if k = key then 0 else if firstAt r key < 0 then -1 else firstAt r key + 1
def FirstTo (ks : List (List UInt8)) (key : List UInt8) (j : Nat) : Prop := ∀ (i : Nat) (k : List UInt8), i < j → ks[i]? = some k → k ≠ key
theorem firstAt_none : ∀ (ks : List (List UInt8)) (key : List UInt8), (∀ k ∈ ks, k ≠ key) → firstAt ks key = -1 := by
  intro ks
  induction ks with
  | nil => intro key _; rw [firstAt]
  | cons k r ih =>
    intro key h
    rw [firstAt, if_neg (h k (by simp)), ih key (fun x hx => h x (by simp [hx])), if_pos (by decide)]
theorem firstAt_some : ∀ (ks : List (List UInt8)) (key : List UInt8) (j : Nat), FirstTo ks key j → ks[j]? = some key → firstAt ks key = j := by
  intro ks
  induction ks with
  | nil => intro key j _ h; simp at h
  | cons k r ih =>
    intro key j h hj
    cases j with
    | zero => simp at hj; rw [firstAt, if_pos hj]; rfl
    | succ j =>
      have hk := h 0 k (by omega) rfl
      have h2 := ih key j (fun i x hi hx => h (i + 1) x (by omega) (by simpa using hx)) (by simpa using hj)
      rw [firstAt, if_neg hk, h2, if_neg (by omega)]
      rfl
set_option maxHeartbeats 1600000 in
theorem strIdx_any (v : Value) (ks : List (List UInt8)) (key : List UInt8) (W : World) (h : Strs W v ks) :
    Calls Tryd.prog 33 #[v, .string ⟨key.toArray⟩] W fun e w' => e = .returned (.int .i64 (firstAt ks key)) ∧ Below W.heap.size W w' := by
  obtain ⟨ka, kc, rfl, hkc, hkm, _, hkx⟩ := h
  have HK := Lib.hid hkx
  clear hkx
  unfold maxLen at hkm
  go_enter Tryd.func33, Tryd.ntmps33
  go_wp2
  go_loopw [8] (fun iv wr => ∃ (j : Nat), iv = .int .i64 j ∧ j ≤ ks.length ∧ Hid (FirstTo ks key j) ∧ Below W.heap.size W wr) (fun iv _ => ks.length - (intOf iv).toNat)
  case atStart => exact ⟨0, rfl, by omega, Lib.hid (fun i k h => absurd h (by omega)), Below.refl _ _⟩
  case round =>
    obtain ⟨j, rfl, hj, HS, hb⟩ := hrel
    by_cases hlt : j < ks.length
    · obtain ⟨b, off, rfl, hkx⟩ := HK.out (by intro h; rw [h] at hlt; simp at hlt)
      obtain ⟨x, hxi⟩ : ∃ x, ks[j]? = some x := ⟨ks[j], List.getElem?_eq_getElem hlt⟩
      have g1 : W.cell? ⟨b, off + j, none⟩ = some (.string ⟨x.toArray⟩) := hkx j x hxi
      have c1 := (hb.cell (p := ⟨b, off + j, none⟩) (World.block_lt_of_cell? W _ g1)).trans g1
      clear hkx g1 HK
      by_cases hxy : x = key
      · subst hxy
        have hr := Lib.hid (firstAt_some ks x j HS.out hxi)
        clear hxi HS
        go_wp2
        go_ret
        exact ⟨ret1_of (by rw [hr.out]; rfl), hb⟩
      · have HS2 : Hid (FirstTo ks key (j + 1)) := Lib.hid (fun i k hi hk => by
          rcases Nat.lt_or_ge i j with h | h
          · exact HS.out i k h hk
          · obtain rfl : i = j := by omega
            rw [hxi] at hk
            rw [← Option.some.inj hk]; exact hxy)
        clear hxi HS
        go_wp2
        · rename_i hh
          exact absurd (by simpa using hh) (fun h : key = x => hxy h.symm)
        · go_roundw
          case rel => exact ⟨j + 1, by go_num, by omega, HS2, hb⟩
          case measure => simp [intOf]; omega
    · have hr := Lib.hid (firstAt_none ks key (fun k hk => by
        obtain ⟨i, hi, rfl⟩ := List.getElem_of_mem hk
        exact HS.out i _ (by omega) (List.getElem?_eq_getElem hi)))
      clear HS HK
      go_wp2
      go_ret
      exact ⟨ret1_of (by rw [hr.out]; rfl), hb⟩
end Go.Proofs.YtdfdpckcemdimaaDoor.V
