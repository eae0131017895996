/- The statement GlobStars, walked. -/
import Derived.Test.YtaliafeekadecaaDoorZAlive
import Derived.Test.YtaliafeekadecaaDoorZStars
namespace Go.Proofs.YtaliafeekadecaaDoor.Z
open Go.RowKit Go.Shelf Go.Sort
open V (Lies OwnL RowL reg)
set_option maxRecDepth 100000

theorem appL (a b : ByteArray) : (a ++ b).data.toList = a.data.toList ++ b.data.toList := by rw [ByteArray.data_append, Array.toList_append]
theorem appS (a b : ByteArray) : (a ++ b).size = a.size + b.size := by rw [← list_len, appL, List.length_append, list_len, list_len]
theorem saysOne {b : Bool} (m p : ByteArray) (w : World) (hm : m.size ≤ 1000000) (hp : p.size ≤ 1000000) (h : matchP m.data.toList p.data.toList = b) :
    Calls Tryd.prog 13 #[.string m, .string p] w fun e w' => e = .returned (.bool b) ∧ Below w.heap.size w w' := by
  have h2 := match_any m p w hm hp
  rw [h] at h2
  exact h2
theorem zero74 : ∀ w, (zeroValue 74).run Tryd.prog w = .ok (.agg (Array.replicate 256 (.bool false))) w := fun w => by kernel_rfl
set_option maxHeartbeats 6400000 in
theorem stars_walk (xa xb xp : ByteArray) (W : World) : Calls Tryd.prog 4 #[.string xa, .string xb, .string xp] W fun e w' => e = .returned (.bool true) ∧ Below W.heap.size W w' := by
  have HA := Lib.hid alive_any
  have hz1 := cut_size xa 40 (by decide)
  have hz2 := cut_size xb 40 (by decide)
  have hz3 := cut_size xp 100 (by decide)
  have m1 : (0 : Int) ≤ min (xa.size : Int) 40 ∧ min (xa.size : Int) 40 ≤ (xa.size : Int) := by omega
  have m2 : (0 : Int) ≤ min (xb.size : Int) 40 ∧ min (xb.size : Int) 40 ≤ (xb.size : Int) := by omega
  have m3 : (0 : Int) ≤ min (xp.size : Int) 100 ∧ min (xp.size : Int) 100 ≤ (xp.size : Int) := by omega
  go_enter Tryd.func4, Tryd.ntmps4
  go_upto_region 1 with fail
  go_quiet (fail)
  have hb0 : Below W.heap.size W (W.drewN nq) := below_drawn (Below.refl _ _) _
  generalize W.drewN nq = w0 at *
  generalize xa.extract 0 (min (xa.size : Int) 40).toNat = A at *
  generalize xb.extract 0 (min (xb.size : Int) 40).toNat = B at *
  generalize xp.extract 0 (min (xp.size : Int) 100).toNat = P at *
  have hAs : A.size ≤ 40 := by omega
  have hBs : B.size ≤ 40 := by omega
  have hPs : P.size ≤ 100 := by omega
  clear m1 m2 m3 hz1 hz2 hz3
  have HR := Lib.hid (fun (w : World) => refRight_any P false w (by omega))
  cases hr : rightG false P.data.toList with
  | false =>
    rw [hr] at HR
    have HM := Lib.hid (fun (w : World) => saysOne (b := false) P P w (by omega) (by omega) (by unfold matchP; rw [hr, Bool.false_and, Bool.and_false]))
    clear hr
    go_wp2_with (first
      | (go_at_call 8; refine (HR.out _).mono ?_; rintro e w1 ⟨rfl, hb1⟩)
      | (go_at_call 14; refine (HA.out _).mono ?_; rintro e w2 ⟨rfl, hb2⟩)
      | (go_at_call 13; refine (HM.out _).mono ?_; rintro e w3 ⟨rfl, hb3⟩))
    go_ret
    exact ⟨rfl, ((hb0.trans (hb1.mono hb0.size)).trans (hb2.mono (Nat.le_trans hb0.size hb1.size))).trans (hb3.mono (Nat.le_trans hb0.size (Nat.le_trans hb1.size hb2.size)))⟩
  | true =>
    rw [hr] at HR
    have HV := Lib.hid hr
    clear hr
    have hlP := list_len P
    have hfew := right_few HV.out (by omega)
    obtain ⟨n, hn⟩ : ∃ n, slashes P = n := ⟨_, rfl⟩
    have hn49 : n ≤ 49 := by rw [← hn]; exact hfew
    have HC := Lib.hid (fun (w : World) => by have h := countOne P w; rw [hn] at h; exact h)
    obtain ⟨S0, hS0e⟩ : ∃ S0 : ByteArray, (⟨(Lib.repeatL (⟨#[42, 47]⟩ : ByteArray).data.toList n).toArray⟩ : ByteArray) = S0 := ⟨_, rfl⟩
    have hS0 : S0.data.toList = Lib.repeatL [42, 47] n := by rw [← hS0e]
    have hS0s : S0.size = n * 2 := by rw [← list_len, hS0, Lib.repeatL_length]; rfl
    have HRp := Lib.hid (fun (w : World) => by have h := Tryd.strings_Repeat ⟨#[42, 47]⟩ n w (by omega) (by show 2 * n ≤ _; omega); rw [hS0e] at h; exact h)
    clear hS0e
    obtain ⟨S1, hS1⟩ : ∃ S1, S0 ++ (⟨#[42]⟩ : ByteArray) = S1 := ⟨_, rfl⟩
    have hS1l : S1.data.toList = starsL n := by rw [← hS1, appL, hS0]; exact stars_rep n
    have hS1s : S1.size ≤ 200 := by rw [← list_len, hS1l, stars_len]; omega
    have s1 : ¬ 9223372036854775807 < S0.size + 1 := by omega
    have t1 : (⟨#[42]⟩ : ByteArray).size = 1 := rfl
    have t2 : (⟨#[42, 47]⟩ : ByteArray).size = 2 := rfl
    have s2 : ¬ 9223372036854775807 < 2 + S1.size := by omega
    have HM1 := Lib.hid (fun (w : World) => saysOne (b := true) P P w (by omega) (by omega) (by unfold matchP; rw [right_both HV.out, HV.out]; exact matchL_self _))
    have HM2 := Lib.hid (fun (w : World) => saysOne (b := true) S1 P w (by omega) (by omega) (by unfold matchP; rw [hS1l, stars_right n (by omega), HV.out, ← hn]; exact stars_match _))
    have HM3 := Lib.hid (fun (w : World) => saysOne (b := false) (⟨#[42, 47]⟩ ++ S1) P w (by rw [appS]; omega) (by omega) (by
      have h := stars_more P.data.toList
      unfold matchP
      rw [appL, hS1l, ← hn]
      show (_ && (_ && matchG (starsL (P.data.toList.count 47 + 1)) P.data.toList)) = false
      rw [h, Bool.and_false, Bool.and_false]))
    obtain ⟨D0, hD0⟩ : ∃ D0, A ++ (⟨#[42]⟩ : ByteArray) = D0 := ⟨_, rfl⟩
    obtain ⟨PT, hPT⟩ : ∃ PT, D0 ++ B = PT := ⟨_, rfl⟩
    obtain ⟨AB, hAB⟩ : ∃ AB, A ++ B = AB := ⟨_, rfl⟩
    have hD0s : D0.size = A.size + 1 := by rw [← hD0, appS]; rfl
    have s3 : ¬ 9223372036854775807 < A.size + 1 := by omega
    have s4 : ¬ 9223372036854775807 < D0.size + B.size := by omega
    have s5 : ¬ 9223372036854775807 < A.size + B.size := by omega
    have hPTs : PT.size ≤ 100 := by rw [← hPT, appS]; omega
    have hABs : AB.size ≤ 100 := by rw [← hAB, appS]; omega
    have hPTl : PT.data.toList = A.data.toList ++ 42 :: B.data.toList := by rw [← hPT, ← hD0, appL, appL, List.append_assoc]; rfl
    have hABl : AB.data.toList = A.data.toList ++ B.data.toList := by rw [← hAB, appL]
    have HR2 := Lib.hid (fun (w : World) => refRight_any PT true w (by omega))
    clear hS1l hS1s hS0s hfew hS0
    go_upto_region 8 with (first
      | (go_at_call 8; refine (HR.out _).mono ?_; rintro e w1 ⟨rfl, hb1⟩; replace hb0 := hb0.trans (hb1.mono hb0.size); clear HR)
      | (go_at_call 16; refine (HC.out _).mono ?_; rintro e w2 ⟨rfl, rfl⟩)
      | (go_at_call 15; refine (HRp.out _).mono ?_; rintro e w3 ⟨rfl, hb3⟩; replace hb0 := hb0.trans (hb3.mono hb0.size))
      | (go_at_call 13; refine (HM1.out _).mono ?_; rintro e w4 ⟨rfl, hb4⟩; replace hb0 := hb0.trans (hb4.mono hb0.size); clear HM1)
      | (go_at_call 13; refine (HM2.out _).mono ?_; rintro e w5 ⟨rfl, hb5⟩; replace hb0 := hb0.trans (hb5.mono hb0.size); clear HM2)
      | (go_at_call 13; refine (HM3.out _).mono ?_; rintro e w6 ⟨rfl, hb6⟩; replace hb0 := hb0.trans (hb6.mono hb0.size); clear HM3)
      | (go_at_call 14; refine (HA.out _).mono ?_; rintro e w7 ⟨rfl, hb7⟩; replace hb0 := hb0.trans (hb7.mono hb0.size)))
    cases hr2 : rightG true PT.data.toList with
    | false =>
      rw [hr2] at HR2
      clear hr2
      go_wp2_with (go_at_call 8; refine (HR2.out _).mono ?_; rintro e w8 ⟨rfl, hb8⟩; replace hb0 := hb0.trans (hb8.mono hb0.size))
      go_ret
      exact ⟨rfl, hb0⟩
    | true =>
      rw [hr2] at HR2
      have hpt := (right_bytes hr2).1
      have hasc : ∀ (j : Nat) b, AB.data.toList[j]? = some b → b.toNat < 128 := fun j b hj => by
        have hm : b ∈ PT.data.toList := by
          have := List.mem_of_getElem? hj
          rw [hABl] at this
          rw [hPTl]
          rcases List.mem_append.1 this with h | h <;> simp [h]
        exact byt_ascii (hpt b hm)
      have hasc2 : ∀ (j : Nat) b, (⟨#[42, 63, 47]⟩ : ByteArray).data.toList[j]? = some b → b.toNat < 128 := fun j b hj => by
        have hm := List.mem_of_getElem? hj
        have : b = 42 ∨ b = 63 ∨ b = 47 := by simpa using hm
        rcases this with rfl | rfl | rfl <;> decide
      have HCA := Lib.hid (fun (w : World) => Tryd.strings_ContainsAny zero74 AB ⟨#[42, 63, 47]⟩ w (by omega) (by decide) hasc hasc2)
      have HCo := Lib.hid (fun (w : World) => Tryd.strings_Contains_one P 47 w)
      cases hca : Lib.containsAny AB.data.toList (⟨#[42, 63, 47]⟩ : ByteArray).data.toList with
      | true =>
        rw [hca] at HCA
        clear hca hr2 hpt hasc hasc2
        go_wp2_with (first
          | (go_at_call 8; refine (HR2.out _).mono ?_; rintro e w8 ⟨rfl, hb8⟩; replace hb0 := hb0.trans (hb8.mono hb0.size))
          | (go_at_call 17; refine (HCA.out _).mono ?_; rintro e w9 ⟨rfl, hb9⟩; replace hb0 := hb0.trans (hb9.mono hb0.size)))
        go_ret
        exact ⟨rfl, hb0⟩
      | false =>
        rw [hca] at HCA
        have hnone := contains_none _ _ hca
        rcases slash_at P with hsl | ⟨hsl, hno⟩
        · rw [hsl] at HCo
          clear hca hr2 hpt hasc hasc2 hsl hnone
          go_wp2_with (first
            | (go_at_call 8; refine (HR2.out _).mono ?_; rintro e w8 ⟨rfl, hb8⟩; replace hb0 := hb0.trans (hb8.mono hb0.size))
            | (go_at_call 17; refine (HCA.out _).mono ?_; rintro e w9 ⟨rfl, hb9⟩; replace hb0 := hb0.trans (hb9.mono hb0.size))
            | (go_at_call 18; refine (HCo.out _).mono ?_; rintro e w10 ⟨rfl, rfl⟩))
          go_ret
          exact ⟨rfl, hb0⟩
        · rw [hsl] at HCo
          have hmem : ∀ c ∈ AB.data.toList, c ≠ 42 ∧ c ≠ 63 ∧ c ≠ 47 := fun c hc => by
            have := hnone c hc
            simp at this
            exact this
          rw [hABl] at hmem
          have hbt := match_between (by rw [← hPTl]; exact hr2) HV.out hno (fun c hc => hmem c (List.mem_append_left _ hc)) (fun c hc => hmem c (List.mem_append_right _ hc))
          rw [← hPTl, list_len, list_len, list_len] at hbt
          have hbt : matchP PT.data.toList P.data.toList = (decide (A.size + B.size ≤ P.size) && (Lib.hasPrefix P.data.toList A.data.toList && Lib.hasSuffix P.data.toList B.data.toList)) := hbt
          have HPr := Lib.hid (fun (w : World) => Tryd.strings_HasPrefix P A w)
          have HSu := Lib.hid (fun (w : World) => Tryd.strings_HasSuffix P B w (by omega))
          have HM4 := Lib.hid (fun (w : World) => saysOne PT P w (by omega) (by omega) hbt)
          generalize Lib.hasPrefix P.data.toList A.data.toList = pr at *
          generalize Lib.hasSuffix P.data.toList B.data.toList = su at *
          clear hca hr2 hpt hasc hasc2 hsl hnone hmem hbt hno hABl hPTl
          by_cases hle : A.size + B.size ≤ P.size
          · have i1 : (A.size : Int) + (B.size : Int) ≤ (P.size : Int) := by omega
            rw [decide_eq_true hle, Bool.true_and] at HM4
            clear hle
            cases pr <;> cases su <;> simp only [Bool.and_true, Bool.and_false] at HM4
            all_goals
              go_wp2_with (first
                | (go_at_call 8; refine (HR2.out _).mono ?_; rintro e w8 ⟨rfl, hb8⟩; replace hb0 := hb0.trans (hb8.mono hb0.size))
                | (go_at_call 17; refine (HCA.out _).mono ?_; rintro e w9 ⟨rfl, hb9⟩; replace hb0 := hb0.trans (hb9.mono hb0.size))
                | (go_at_call 18; refine (HCo.out _).mono ?_; rintro e w10 ⟨rfl, rfl⟩)
                | (go_at_call 19; refine (HPr.out _).mono ?_; rintro e w11 ⟨rfl, rfl⟩)
                | (go_at_call 20; refine (HSu.out _).mono ?_; rintro e w12 ⟨rfl, rfl⟩)
                | (go_at_call 13; refine (HM4.out _).mono ?_; rintro e w13 ⟨rfl, hb13⟩; replace hb0 := hb0.trans (hb13.mono hb0.size)))
              go_ret
              exact ⟨rfl, hb0⟩
          · have i1 : ¬ (A.size : Int) + (B.size : Int) ≤ (P.size : Int) := by omega
            rw [decide_eq_false hle, Bool.false_and] at HM4
            clear hle
            go_wp2_with (first
              | (go_at_call 8; refine (HR2.out _).mono ?_; rintro e w8 ⟨rfl, hb8⟩; replace hb0 := hb0.trans (hb8.mono hb0.size))
              | (go_at_call 17; refine (HCA.out _).mono ?_; rintro e w9 ⟨rfl, hb9⟩; replace hb0 := hb0.trans (hb9.mono hb0.size))
              | (go_at_call 18; refine (HCo.out _).mono ?_; rintro e w10 ⟨rfl, rfl⟩)
              | (go_at_call 19; refine (HPr.out _).mono ?_; rintro e w11 ⟨rfl, rfl⟩)
              | (go_at_call 20; refine (HSu.out _).mono ?_; rintro e w12 ⟨rfl, rfl⟩)
              | (go_at_call 13; refine (HM4.out _).mono ?_; rintro e w13 ⟨rfl, hb13⟩; replace hb0 := hb0.trans (hb13.mono hb0.size)))
            go_ret
            exact ⟨rfl, hb0⟩
end Go.Proofs.YtaliafeekadecaaDoor.Z
