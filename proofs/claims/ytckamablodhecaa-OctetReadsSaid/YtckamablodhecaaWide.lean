/- What is proved: whatever number and whatever text the statement of the widths of numbers is called with, it answers true; no condition. -/
import Derived.Test.YtckamablodhecaaRows
import Derived.Test.YtckamablodhecaaAlive
import Derived.Test.YtckamablodhecaaBig
import Derived.ProofKit
import Derived.OpenShut
import Derived.ShutString
import Derived.ChangeOld
namespace Go.Proofs.Ytckamablodhecaa
open Go.ChangeShapes Go.WideShapes Go.ChangeAt Go.RowKit
open Go.ChangeMaps (open_string shut_string)

/-- the number of a number's own bytes is the number -/
theorem num_big (n w : Nat) (W : World) (hw : w ≤ 8) (hn : n < 256 ^ w) :
    Calls Try.prog 10 #[.string { data := (bigL n w).toArray }] W fun e W' => e = .returned (.tuple #[.int .u64 n, .int .i64 0]) ∧ W = W' := by
  have h := num_any { data := (bigL n w).toArray } W (by show (bigL n w).toArray.size ≤ 8; simp [bigL_length]; omega)
  have e : numL ({ data := (bigL n w).toArray } : ByteArray).data.toList = n := by rw [show ({ data := (bigL n w).toArray } : ByteArray).data.toList = bigL n w from rfl, numL_bigL, Nat.mod_eq_of_lt hn]
  rw [e] at h
  exact h
theorem num_none (W : World) : Calls Try.prog 10 #[.string ByteArray.empty] W fun e W' => e = .returned (.tuple #[.int .u64 0, .int .i64 0]) ∧ W = W' := num_any ByteArray.empty W (by decide)
theorem big_size (n w : Nat) : ({ data := (bigL n w).toArray } : ByteArray).size = w := by show (bigL n w).toArray.size = w; simp [bigL_length]

theorem fits_yes {n w : Nat} (h : n < 256 ^ w) : ((n : Int) / 2 ^ (8 * w) != 0) = false ∧ ((n : Int) / 2 ^ (8 * w) == 0) = true := by
  have e : (2 : Int) ^ (8 * w) = ((256 ^ w : Nat) : Int) := by rw [Int.pow_mul]; simp
  have h0 : n / 256 ^ w = 0 := Nat.div_eq_of_lt h
  have : (n : Int) / 2 ^ (8 * w) = 0 := by rw [e]; omega
  rw [this]
  decide
theorem fits_no {n w : Nat} (h : ¬ n < 256 ^ w) : ((n : Int) / 2 ^ (8 * w) != 0) = true ∧ ((n : Int) / 2 ^ (8 * w) == 0) = false := by
  have e : (2 : Int) ^ (8 * w) = ((256 ^ w : Nat) : Int) := by rw [Int.pow_mul]; simp
  have hp : 0 < 256 ^ w := Nat.pow_pos (by decide)
  have h0 : 0 < n / 256 ^ w := Nat.div_pos (by omega) hp
  have : (n : Int) / 2 ^ (8 * w) ≠ 0 := by rw [e]; omega
  simp [this]

set_option maxHeartbeats 800000 in
theorem wide_walk (n : Nat) (s : ByteArray) (W : World) (hn : n < 2 ^ 64) (hs : s.size ≤ maxLen) :
    Calls Try.prog 7 #[.int .u64 n, .string s] W fun e W' => e = .returned (.bool true) ∧ Below W.heap.size W W' := by
  unfold maxLen at hs
  have ht : (s.extract 0 (min (s.size : Int) 200).toNat).size ≤ 200 := by simp [ByteArray.size_extract]; omega
  go_enter Try.func7, Try.ntmps7
  go_wp2_with fail
  generalize s.extract 0 (min (s.size : Int) 200).toNat = t at ht ⊢
  go_loopw [16] (fun i wr => ∃ k : Nat, k ≤ 9 ∧ i = .int .i64 k ∧ Below W.heap.size W wr) (fun i _ => 9 - (intOf i).toNat)
  case atStart => exact ⟨0, by omega, rfl, Below.refl _ _⟩
  case round =>
    obtain ⟨k, hk, rfl, hb⟩ := hrel
    have hB := hb.size
    by_cases hlt : k < 9
    · have hk8 : k ≤ 8 := by omega
      by_cases hf : n < 256 ^ k
      · have f1 := (fits_yes hf).1
        have f2 := (fits_yes hf).2
        have hz := big_size n k
        go_wp2_with (first | (go_at_call 9; refine (big_yes _ _ _ hk8 f1).mono ?_; rintro e w1 ⟨rfl, hb1⟩) | (go_at_call 10; refine (num_big _ _ _ hk8 hf).mono ?_; rintro e w2 ⟨rfl, rfl⟩))
        all_goals
          go_roundw
          case rel => exact ⟨k + 1, by omega, val_int (by omega), hb.trans (hb1.mono hB)⟩
          case measure => simp [intOf]; omega
      · have h8 : k < 8 := by
          rcases Nat.lt_or_ge k 8 with h | h
          · exact h
          · exfalso; apply hf; have : k = 8 := by omega
            subst this; omega
        have f1 := (fits_no hf).1
        have f2 := (fits_no hf).2
        go_wp2_with (first | (go_at_call 9; refine (big_no _ _ _ hk8 f1).mono ?_; rintro e w1 ⟨rfl, rfl⟩) | (go_at_call 10; refine (num_none _).mono ?_; rintro e w2 ⟨rfl, rfl⟩))
        go_roundw
        case rel => exact ⟨k + 1, by omega, val_int (by omega), hb⟩
        case measure => simp [intOf]; omega
    · have htt : (t ++ t).size ≤ 400 := by simp; omega
      have hl1 : (hexL t.data.toList).length ≤ 2 * t.size := by rw [hexL_length, ← Lib.size_eq]; omega
      have hl2 : 2 * t.size ≤ (hexL t.data.toList).length := by rw [hexL_length, ← Lib.size_eq]; omega
      clear hB
      go_wp2_with (first | (go_at_call 14; refine (alive_any _).mono ?_; rintro e w1 ⟨rfl, hb1⟩; replace hb := below_on hb hb1; clear hb1) | (go_at_call 12; refine (hex_any _ _ (by omega)).mono ?_; rintro e w2 ⟨rfl, hb2⟩; replace hb := below_on hb hb2; clear hb2))
      go_ret
      exact ⟨ret1_of (by rw [cat_two, Lib.toList_data, hexL_append]; simp), hb⟩

/-! ### the row -/
theorem own : ownKnob Try.prog.godebug = none := by kernel_rfl
theorem laidOut : laidOutB Try.prog = true := by kernel_rfl
theorem u64_bounds {a : Int} (h : (Lit.int .u64 a).wf = true) : 0 ≤ a ∧ a < 2 ^ 64 := by
  have h1 : IntKind.u64.min = 0 := rfl
  have h2 : IntKind.u64.max = 18446744073709551615 := rfl
  simp only [Lit.wf, Bool.and_eq_true, decide_eq_true_eq, h1, h2] at h
  omega

set_option maxRecDepth 100000 in
theorem wide_lifted (os : Os) (started : os.Started) (H : Type) (enc : TypeId × Value → H) :
    ReturnsInHanded {} Try.checked os 7 .any (Rows.octetWideSpec.pre6 enc Try.prog Try.f7 Rows.octetWideRow.domain false) (Rows.octetWideSpec.post enc Try.prog Try.f7 false true false false) := by
  refine returnsInHanded_of_change (C := Try.checked) own started (by kernel_rfl) Try.func7
    (ChangeSpec.witness6 (enc := enc) (C := Try.checked) false ⟨#[], #[.int .u64 0, .string ByteArray.empty], []⟩ 8 (by kernel_rfl) (by kernel_rfl) (by kernel_rfl) (by kernel_rfl)) ?_
  intro W base args ds gs before hval0 hW hcnd _
  have hval : ∀ (j : Nat) t v, Try.f7.params[j]? = some t → args[j]? = some v → Value.okWide Try.prog W .any base t v := hval0
  have hW' := hW
  obtain ⟨p, q, hA0, hV, rfl, hfz, hnd⟩ := hW
  have hA : DataW.TrodAll enc Try.prog W 0 (fun _ => true) true Try.f7.params.toList args.toList ds p := hA0
  rw [Try.params7] at hA hval
  obtain ⟨v0, vs0, d0, ds0, p0, q0, hargs, rfl, rfl, h0, r0⟩ := trodAll_cons hA
  obtain ⟨v1, vs1, d1, ds1, p1, q1, rfl, rfl, rfl, h1, r1⟩ := trodAll_cons r0
  obtain ⟨rfl, rfl, rfl⟩ := trodAll_nil r1
  obtain rfl : args = #[v0, v1] := by cases args; simp_all
  obtain ⟨rfl, rfl⟩ := trodVars_none hV
  obtain ⟨a0, rfl, rfl, rfl, w0⟩ := open_int Try.underlying22 (hval 0 22 v0 rfl rfl) h0
  obtain ⟨a1, rfl, rfl, rfl, w1⟩ := open_string Try.underlying9 (hval 1 9 v1 rfl rfl) h1
  clear hA0 hval0
  simp only [List.append_nil] at hW'
  have hbd := u64_bounds w0
  obtain ⟨n, rfl⟩ := Int.eq_ofNat_of_zero_le hbd.1
  refine (wide_walk n a1 W (by omega) w1).mono fun e W' ⟨he, bel⟩ => ?_
  subst he
  exact ⟨_, rfl, _, _, _, [], _, [], hW', trodAll_mk1 (shut_bool Try.underlying4 _), (trodAll_cons_mk (shut_int Try.underlying22 w0) (trodAll_cons_mk (shut_string Try.underlying9 w1) trodAll_mk0)), rfl, bel.frame _, fun h => by cases h⟩

theorem wide_over : Rows.octetWideRow.holds Try.pinned (OpenSpec.ofChange Rows.octetWideSpec) :=
  OpenClaim.holds_of_wide 7 Try.f7 rfl rfl rfl rfl rfl rfl rfl ⟨rfl, rfl, rfl, rfl, rfl⟩ rfl rfl rfl rfl rfl (by kernel_rfl) Try.func7 (by kernel_rfl)
    (of_decide_eq_true (by kernel_rfl)) (by unfold Func.isWrapper; first | (rw [if_pos (by decide +kernel)]; kernel_rfl) | (rw [if_neg (by decide +kernel)]; exact ⟨rfl, rfl⟩))
    (fun os started H enc _ => wide_lifted os started H enc)

theorem wide_holds : Rows.OctetWideSaid := wide_over
end Go.Proofs.Ytckamablodhecaa
