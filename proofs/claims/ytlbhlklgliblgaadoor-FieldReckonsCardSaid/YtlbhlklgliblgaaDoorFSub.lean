/- The contract of the program's Sub. -/
import Derived.Test.YtlbhlklgliblgaaDoorFLeast
namespace Go.Proofs.YtlbhlklgliblgaaDoor.F
open Go.RowKit Go.Sort
attribute [local irreducible] feA

/-- what is lacking while 2^256 is lent -/
def lentN (b : Bool) : Nat := if b = true then p25 - 38 else 0
theorem sub_start (m n : Nat) (hm : m < K256) (hn : n < K256) : ((m + K256 - n) % K256 + lentN (decide (m < n))) % p25 = (m + (p25 - n % p25)) % p25 ∧ (m + K256 - n) % K256 < K256 := by
  refine ⟨?_, Nat.mod_lt _ (by decide)⟩
  have h1 : n = p25 * (n / p25) + n % p25 := (Nat.div_add_mod n p25).symm
  have h2 : n % p25 < p25 := Nat.mod_lt _ p25_pos
  have h3 : n / p25 ≤ 2 := by
    unfold K256 p25 at *
    omega
  obtain ⟨q, hq⟩ : ∃ q, n / p25 = q := ⟨_, rfl⟩
  obtain ⟨r, hr⟩ : ∃ r, n % p25 = r := ⟨_, rfl⟩
  rw [hq, hr] at h1
  rw [hq] at h3
  rw [hr] at h2 ⊢
  by_cases hlt : m < n
  · rw [decide_eq_true hlt]
    have e1 : (m + K256 - n) % K256 = m + K256 - n := Nat.mod_eq_of_lt (by omega)
    rw [e1, lentN, if_pos rfl]
    have e2 : m + K256 - n + (p25 - 38) = (m + (p25 - r)) + p25 * (2 - q) := by
      have hq3 : q = 0 ∨ q = 1 ∨ q = 2 := by omega
      unfold K256 p25 at *
      rcases hq3 with rfl | rfl | rfl <;> omega
    rw [e2, Nat.add_mul_mod_self_left]
  · rw [decide_eq_false hlt]
    have e1 : (m + K256 - n) % K256 = m - n := by
      rw [show m + K256 - n = m - n + K256 by omega, Nat.add_mod_right, Nat.mod_eq_of_lt (by omega)]
    rw [e1, lentN, if_neg (by decide), Nat.add_zero]
    have e2 : m + (p25 - r) = (m - n) + p25 * (q + 1) := by
      have hq3 : q = 0 ∨ q = 1 ∨ q = 2 := by omega
      unfold K256 p25 at *
      rcases hq3 with rfl | rfl | rfl <;> omega
    rw [e2, Nat.add_mul_mod_self_left]
theorem sub_step (v : Nat) (hv : v < K256) : ((v + K256 - 38) % K256 + lentN (decide (v < 38))) % p25 = (v + lentN true) % p25 ∧ (v + K256 - 38) % K256 < K256 ∧ (v < 38 → ¬ (v + K256 - 38) % K256 < 38) := by
  have hl : lentN true = p25 - 38 := by unfold lentN; rw [if_pos rfl]
  refine ⟨?_, Nat.mod_lt _ (by decide), ?_⟩
  · rw [hl]
    by_cases h : v < 38
    · rw [decide_eq_true h, hl]
      have e1 : (v + K256 - 38) % K256 = v + K256 - 38 := Nat.mod_eq_of_lt (by omega)
      rw [e1, show v + K256 - 38 + (p25 - 38) = (v + (p25 - 38)) + p25 * 2 by unfold K256 p25; omega, Nat.add_mul_mod_self_left]
    · rw [decide_eq_false h]
      have e1 : (v + K256 - 38) % K256 = v - 38 := by
        rw [show v + K256 - 38 = v - 38 + K256 by omega, Nat.add_mod_right, Nat.mod_eq_of_lt (by omega)]
      rw [e1, lentN, if_neg (by decide), Nat.add_zero, show v + (p25 - 38) = (v - 38) + p25 by unfold p25; omega, Nat.add_mod_right]
  · intro h
    have e1 : (v + K256 - 38) % K256 = v + K256 - 38 := Nat.mod_eq_of_lt (by omega)
    rw [e1]
    unfold K256
    omega
attribute [irreducible] lentN
/-- how often it is still gone through -/
def subM (g : Nat) (b : Value) (w : World) : Nat := match b with | .bool true => if numB w g < 38 then 2 else 1 | _ => 0
theorem subM_step {g v u : Nat} {w w' : World} (hv : numB w g = v) (hu : numB w' g = u) (h : v < 38 → ¬ u < 38) : subM g (.bool (decide (v < 38))) w' < subM g (.bool true) w := by
  by_cases h1 : v < 38
  · rw [decide_eq_true h1]
    show (if numB w' g < 38 then 2 else 1) < (if numB w g < 38 then 2 else 1)
    rw [hv, hu, if_pos h1, if_neg (h h1)]
    decide
  · rw [decide_eq_false h1]
    show 0 < (if numB w g < 38 then 2 else 1)
    rw [hv, if_neg h1]
    decide

set_option maxRecDepth 100000 in
set_option maxHeartbeats 800000 in
theorem sub_any (m n : Nat) (W : World) (hm : m < K256) (hn : n < K256) (hT : Tab W) :
    Calls Tryd.prog 15 #[fe m, fe n] W fun e w' => e = .returned (fe ((m + (p25 - n % p25)) % p25)) ∧ Below W.heap.size W w' := by
  have HP := Lib.hid (fun w => minus_words m n w hm hn)
  have HS0 := Lib.hid (sub_start m n hm hn)
  obtain ⟨T, hTT⟩ : ∃ T, (m + (p25 - n % p25)) % p25 = T := ⟨_, rfl⟩
  obtain ⟨y, hy⟩ : ∃ y, (m + K256 - n) % K256 = y := ⟨_, rfl⟩
  obtain ⟨b0, hb0⟩ : ∃ b0, decide (m < n) = b0 := ⟨_, rfl⟩
  have HTp : Hid (T < p25) := Lib.hid (by rw [← hTT]; exact Nat.mod_lt _ p25_pos)
  rw [hTT] at HS0 ⊢
  rw [hy, hb0] at HS0 HP
  clear hTT hy hb0
  have hT0 := Lib.hid hT
  clear hT
  go_enter Tryd.func15, Tryd.ntmps15
  have hx := ((Lies.new W 24 (feA m)).alloc (.cells (feA n) 24)).alloc (.cells fe0A 24)
  have hy : Lies ((W.alloc (.cells (feA m) 24)).alloc (.cells (feA n) 24)) (W.heap.size + 1) 24 (feA n) := heap_alloc2_new W _ _
  replace hy := hy.alloc (.cells fe0A 24)
  have hr := lies3 W (.cells (feA m) 24) (.cells (feA n) 24) 24 fe0A
  have hB := (((Below.refl W.heap.size W).alloc (Nat.le_refl _) (.cells (feA m) 24)).alloc (by simp) (.cells (feA n) 24)).alloc (by simp; omega) (.cells fe0A 24)
  go_upto_region 1 with fail
  generalize World.alloc (World.alloc (World.alloc W _) _) _ = w0 at *
  go_upto_region 2 with (first
    | ((with_reducible refine wpL_load W.heap.size 24 (feA m) 4 rowFe (feA_size _) hx ?_ ?_); rfl)
    | ((with_reducible refine wpL_load (W.heap.size + 1) 24 (feA n) 4 rowFe (feA_size _) hy ?_ ?_); rfl)
    | (go_at_call 25; refine (HP.out _).mono ?_; rintro e w1 ⟨rfl, hb⟩; replace hr := hr.on hb; replace hB := below_on hB hb; clear hb)
    | ((with_reducible refine wpL_store w1.heap.size 24 _ (feA y) 4 rowFe ?_ (feA_size _) (feA_one _) (Lies.new w1 _ _) ?_ ?_ ?_); rfl; rfl; rfl))
  have hz := newly_lies w1 24 fe0A (feA y)
  have hnw := newly w1 (.cells fe0A 24) (feA y)
  have hgz : W.heap.size + 2 < w1.heap.size := hr.lt
  replace hr := hr.on hnw
  replace hB := below_on hB hnw
  clear hnw HP
  generalize World.setRow _ _ _ = w2 at *
  generalize w1.heap.size = gz at *
  clear hx hy hm hn
  go_loopw [6] (fun bx wr => ∃ (v : Nat) (b : Bool), bx = .bool b ∧ v < K256 ∧ Hid ((v + lentN b) % p25 = T) ∧ Lies wr gz 24 (feA v) ∧ Lies wr (W.heap.size + 2) 24 fe0A ∧ Below W.heap.size W wr) (fun bx wr => subM gz bx wr)
  case atStart => exact ⟨y, b0, rfl, HS0.out.2, Lib.hid HS0.out.1, hz, hr, hB⟩
  case round =>
    clear hz hr hB
    obtain ⟨v, b, rfl, hv, HV, hz, hr, hB⟩ := hrel
    cases b
    · have HL := Lib.hid (fun w hT => least_any v w hv hT)
      have hvT : v % p25 = T := by
        have h := HV.out
        rw [show lentN false = 0 by unfold lentN; rfl, Nat.add_zero] at h
        exact h
      rw [hvT] at HL
      clear HV hvT
      have hT := hT0.out.on hB
      go_wp2_with (first
        | ((with_reducible refine wpL_load gz 24 (feA v) 4 rowFe (feA_size _) hz ?_ ?_); rfl)
        | (go_at_call 11; refine (HL.out _ hT).mono ?_; rintro e w3 ⟨rfl, hb⟩; replace hr := hr.on hb; replace hB := below_on hB hb; clear hb)
        | ((with_reducible refine wpL_store (W.heap.size + 1 + 1) 24 _ (feA T) 4 rowFe rfl (feA_size _) (feA_one _) hr ?_ ?_ ?_); rfl; rfl))
      exact bodyPost_ret (results_row Tryd.results15 rowFe (feA_size _) (hr.row _) rfl) rfl ⟨rfl, below_rowSet hB (by omega) _⟩
    · have hnb := hz.numB hv
      have HSt := Lib.hid (sub_step v hv)
      have HM := Lib.hid (fun w => minus_words v 38 w hv (by decide))
      obtain ⟨u, hu⟩ : ∃ u, (v + K256 - 38) % K256 = u := ⟨_, rfl⟩
      obtain ⟨c, hc⟩ : ∃ c, decide (v < 38) = c := ⟨_, rfl⟩
      rw [hu] at HSt HM
      rw [hc] at HM
      have hR : (u + lentN c) % p25 = T := by rw [← hc, HSt.out.1]; exact HV.out
      have HR := Lib.hid hR
      have HO : ∀ w, Calls Tryd.prog 10 #[.int .u64 38] w fun e w' => e = .returned (fe 38) ∧ Below w.heap.size w w' := fun w => of_any 38 w (by decide)
      have HMs : Hid (∀ w', numB w' gz = u → subM gz (.bool c) w' < subM gz (.bool true) wr) := Lib.hid (fun w' h => by rw [← hc]; exact subM_step hnb h HSt.out.2.2)
      have HuK := Lib.hid HSt.out.2.1
      obtain ⟨a0, a1, a2, a3, ha⟩ := fe_four v
      have e1 : fe v = .agg #[w64 a0, w64 a1, w64 a2, w64 a3] := by rw [fe, ha]
      have hz' := hz
      rw [ha] at hz'
      rw [e1] at HM
      clear hu hc hR HV HSt e1 ha
      obtain ⟨z0, z1, z2, z3⟩ := hz'.four
      have hwlt := hz.lt
      replace hz := hz.drew
      replace hr := hr.drew
      replace hB := hB.drew
      go_upto_region 3 with fail
      go_region_with (first
        | (go_at_call 10; refine (HO _).mono ?_; rintro e w3 ⟨rfl, hb⟩; replace hz := hz.on hb; replace hz' := (hz'.drew).on hb; replace hr := hr.on hb; replace hB := below_on hB hb; clear hb z0 z1 z2 z3; obtain ⟨z0, z1, z2, z3⟩ := hz'.four)
        | (go_at_call 25; refine (HM.out _).mono ?_; rintro e w4 ⟨rfl, hb⟩; replace hz := hz.on hb; replace hr := hr.on hb; replace hB := below_on hB hb; clear hb; have hst := hz.storeFe u (feA_size _); have hsz := feA_size u))
      all_goals
        simp only [List.getElem_toArray, List.getElem_cons_succ, List.getElem_cons_zero, Act.put, List.setIfInBounds_toArray, List.set_cons_succ, List.set_cons_zero]
        go_wp2_with fail
        go_roundw
        case rel => exact ⟨u, c, rfl, HuK.out, HR, hz.row _, hr.rowFar (by omega) _, below_rowSet hB (by omega) _⟩
        case measure =>
          exact HMs.out _ ((hz.row (feA u)).numB HuK.out)
end Go.Proofs.YtlbhlklgliblgaaDoor.F
