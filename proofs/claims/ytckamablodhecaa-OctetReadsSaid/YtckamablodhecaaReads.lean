/- What is proved: whatever text, number and width the statement of digits and numbers is called with, it answers true; no condition. -/
import Derived.Test.YtckamablodhecaaWide
import Derived.Test.YtckamablodhecaaRefUnhex
namespace Go.Proofs.Ytckamablodhecaa
open Go.ChangeShapes Go.WideShapes Go.ChangeAt Go.RowKit
open Go.ChangeMaps (open_string shut_string)

/-- what the two calls that read digits answer, in one of two ways -/
theorem unhex_two (t : ByteArray) (ht : t.size ≤ 1000000) :
    (∃ x : ByteArray, (∀ W, Calls Try.prog 8 #[.string t] W fun e W' => e = .returned (.tuple #[.string x, .int .i64 0]) ∧ Below W.heap.size W W') ∧
      ∀ W, Calls Try.prog 11 #[.string t] W fun e W' => e = .returned (.tuple #[.string x, .bool true]) ∧ Below W.heap.size W W') ∨
    ((∀ W, Calls Try.prog 8 #[.string t] W fun e W' => e = .returned (.tuple #[.string ByteArray.empty, .int .i64 4]) ∧ Below W.heap.size W W') ∧
      ∀ W, Calls Try.prog 11 #[.string t] W fun e W' => e = .returned (.tuple #[.string ByteArray.empty, .bool false]) ∧ Below W.heap.size W W') := by
  have h1 := fun W => unhex_any t W ht
  have h2 := fun W => refUnhex_any t W ht
  rcases hu : unhexL t.data.toList with _ | x
  · rw [unhexS_none hu, unhexE_none hu] at h1
    rw [unhexS_none hu, unhexB_none hu] at h2
    exact Or.inr ⟨h1, h2⟩
  · rw [unhexS_some hu, unhexE_some hu] at h1
    rw [unhexS_some hu, unhexB_some hu] at h2
    exact Or.inl ⟨_, h1, h2⟩

set_option maxHeartbeats 1600000 in
theorem reads_fit (n w : Nat) (hn : n < 2 ^ 64) (hw : w ≤ 8) (hf : n < 256 ^ w) (s : ByteArray) (W : World) (hs : s.size ≤ maxLen) :
    Calls Try.prog 3 #[.string s, .int .u64 n, .int .i64 w] W fun e W' => e = .returned (.bool true) ∧ Below W.heap.size W W' := by
  unfold maxLen at hs
  have ht : (s.extract 0 (min (s.size : Int) 500).toNat).size ≤ 500 := by simp [ByteArray.size_extract]; omega
  have f1 := (fits_yes hf).1
  have f3 : ((left n w : Int) == 0) = true := by have : left n w = 0 := Nat.div_eq_of_lt hf; rw [this]; rfl
  have hb := Below.refl W.heap.size W
  go_enter Try.func3, Try.ntmps3
  go_wp2_with fail
  generalize s.extract 0 (min (s.size : Int) 500).toNat = t at ht ⊢
  rcases unhex_two t (by omega) with ⟨x, hU, hR⟩ | ⟨hU, hR⟩
  all_goals
    have HU := Lib.hid hU
    have HR := Lib.hid hR
    clear hU hR
    by_cases h8 : t.size ≤ 8
    · go_wp2_with (first | (go_at_call 8; refine (HU.out _).mono ?_; rintro e w1 ⟨rfl, hb1⟩; replace hb := below_on hb hb1; clear hb1) | (go_at_call 9; refine (big_yes _ _ _ hw f1).mono ?_; rintro e w1 ⟨rfl, hb1⟩; replace hb := below_on hb hb1; clear hb1) | (go_at_call 10; refine (num_any _ _ h8).mono ?_; rintro e w1 ⟨rfl, rfl⟩) | (go_at_call 11; refine (HR.out _).mono ?_; rintro e w1 ⟨rfl, hb1⟩; replace hb := below_on hb hb1; clear hb1) | (go_at_call 12; refine (hex_any _ _ (by omega)).mono ?_; rintro e w1 ⟨rfl, hb1⟩; replace hb := below_on hb hb1; clear hb1) | (go_at_call 13; refine (refHex_any _ _ (by omega)).mono ?_; rintro e w1 ⟨rfl, hb1⟩; replace hb := below_on hb hb1; clear hb1) | (go_at_call 14; refine (alive_any _).mono ?_; rintro e w1 ⟨rfl, hb1⟩; replace hb := below_on hb hb1; clear hb1) | (go_at_call 15; refine (fits_any _ _ _ hn hw).mono ?_; rintro e w1 ⟨rfl, rfl⟩) | (go_at_call 16; refine (refBig_any _ _ _ hn hw).mono ?_; rintro e w1 ⟨rfl, hb1⟩; replace hb := below_on hb hb1; clear hb1) | (go_at_call 17; refine (refNum_any _ _ h8).mono ?_; rintro e w1 ⟨rfl, rfl⟩))
      go_ret
      exact ⟨rfl, hb⟩
    · have h8' : 8 < t.size := by omega
      go_wp2_with (first | (go_at_call 8; refine (HU.out _).mono ?_; rintro e w1 ⟨rfl, hb1⟩; replace hb := below_on hb hb1; clear hb1) | (go_at_call 9; refine (big_yes _ _ _ hw f1).mono ?_; rintro e w1 ⟨rfl, hb1⟩; replace hb := below_on hb hb1; clear hb1) | (go_at_call 10; refine (num_long _ _ h8').mono ?_; rintro e w1 ⟨rfl, rfl⟩) | (go_at_call 11; refine (HR.out _).mono ?_; rintro e w1 ⟨rfl, hb1⟩; replace hb := below_on hb hb1; clear hb1) | (go_at_call 12; refine (hex_any _ _ (by omega)).mono ?_; rintro e w1 ⟨rfl, hb1⟩; replace hb := below_on hb hb1; clear hb1) | (go_at_call 13; refine (refHex_any _ _ (by omega)).mono ?_; rintro e w1 ⟨rfl, hb1⟩; replace hb := below_on hb hb1; clear hb1) | (go_at_call 14; refine (alive_any _).mono ?_; rintro e w1 ⟨rfl, hb1⟩; replace hb := below_on hb hb1; clear hb1) | (go_at_call 15; refine (fits_any _ _ _ hn hw).mono ?_; rintro e w1 ⟨rfl, rfl⟩) | (go_at_call 16; refine (refBig_any _ _ _ hn hw).mono ?_; rintro e w1 ⟨rfl, hb1⟩; replace hb := below_on hb hb1; clear hb1))
      go_ret
      exact ⟨rfl, hb⟩

set_option maxHeartbeats 1600000 in
theorem reads_not (n w : Nat) (hn : n < 2 ^ 64) (hw : w ≤ 8) (hf : ¬ n < 256 ^ w) (s : ByteArray) (W : World) (hs : s.size ≤ maxLen) :
    Calls Try.prog 3 #[.string s, .int .u64 n, .int .i64 w] W fun e W' => e = .returned (.bool true) ∧ Below W.heap.size W W' := by
  unfold maxLen at hs
  have ht : (s.extract 0 (min (s.size : Int) 500).toNat).size ≤ 500 := by simp [ByteArray.size_extract]; omega
  have f1 := (fits_no hf).1
  have f3 : ((left n w : Int) == 0) = false := by have h1 : 0 < 256 ^ w := Nat.pow_pos (by decide); have : 0 < left n w := Nat.div_pos (by omega) h1; simp; omega
  have hb := Below.refl W.heap.size W
  go_enter Try.func3, Try.ntmps3
  go_wp2_with fail
  generalize s.extract 0 (min (s.size : Int) 500).toNat = t at ht ⊢
  rcases unhex_two t (by omega) with ⟨x, hU, hR⟩ | ⟨hU, hR⟩
  all_goals
    have HU := Lib.hid hU
    have HR := Lib.hid hR
    clear hU hR
    by_cases h8 : t.size ≤ 8
    · go_wp2_with (first | (go_at_call 8; refine (HU.out _).mono ?_; rintro e w1 ⟨rfl, hb1⟩; replace hb := below_on hb hb1; clear hb1) | (go_at_call 9; refine (big_no _ _ _ hw f1).mono ?_; rintro e w1 ⟨rfl, rfl⟩) | (go_at_call 10; refine (num_any _ _ h8).mono ?_; rintro e w1 ⟨rfl, rfl⟩) | (go_at_call 11; refine (HR.out _).mono ?_; rintro e w1 ⟨rfl, hb1⟩; replace hb := below_on hb hb1; clear hb1) | (go_at_call 12; refine (hex_any _ _ (by omega)).mono ?_; rintro e w1 ⟨rfl, hb1⟩; replace hb := below_on hb hb1; clear hb1) | (go_at_call 13; refine (refHex_any _ _ (by omega)).mono ?_; rintro e w1 ⟨rfl, hb1⟩; replace hb := below_on hb hb1; clear hb1) | (go_at_call 14; refine (alive_any _).mono ?_; rintro e w1 ⟨rfl, hb1⟩; replace hb := below_on hb hb1; clear hb1) | (go_at_call 15; refine (fits_any _ _ _ hn hw).mono ?_; rintro e w1 ⟨rfl, rfl⟩) | (go_at_call 16; refine (refBig_any _ _ _ hn hw).mono ?_; rintro e w1 ⟨rfl, hb1⟩; replace hb := below_on hb hb1; clear hb1) | (go_at_call 17; refine (refNum_any _ _ h8).mono ?_; rintro e w1 ⟨rfl, rfl⟩))
      go_ret
      exact ⟨rfl, hb⟩
    · have h8' : 8 < t.size := by omega
      go_wp2_with (first | (go_at_call 8; refine (HU.out _).mono ?_; rintro e w1 ⟨rfl, hb1⟩; replace hb := below_on hb hb1; clear hb1) | (go_at_call 9; refine (big_no _ _ _ hw f1).mono ?_; rintro e w1 ⟨rfl, rfl⟩) | (go_at_call 10; refine (num_long _ _ h8').mono ?_; rintro e w1 ⟨rfl, rfl⟩) | (go_at_call 11; refine (HR.out _).mono ?_; rintro e w1 ⟨rfl, hb1⟩; replace hb := below_on hb hb1; clear hb1) | (go_at_call 12; refine (hex_any _ _ (by omega)).mono ?_; rintro e w1 ⟨rfl, hb1⟩; replace hb := below_on hb hb1; clear hb1) | (go_at_call 13; refine (refHex_any _ _ (by omega)).mono ?_; rintro e w1 ⟨rfl, hb1⟩; replace hb := below_on hb hb1; clear hb1) | (go_at_call 14; refine (alive_any _).mono ?_; rintro e w1 ⟨rfl, hb1⟩; replace hb := below_on hb hb1; clear hb1) | (go_at_call 15; refine (fits_any _ _ _ hn hw).mono ?_; rintro e w1 ⟨rfl, rfl⟩) | (go_at_call 16; refine (refBig_any _ _ _ hn hw).mono ?_; rintro e w1 ⟨rfl, hb1⟩; replace hb := below_on hb hb1; clear hb1))
      go_ret
      exact ⟨rfl, hb⟩

set_option maxHeartbeats 1600000 in
theorem reads_neg (n : Nat) (x : Int) (hx : x < 0) (s : ByteArray) (W : World) (hs : s.size ≤ maxLen) :
    Calls Try.prog 3 #[.string s, .int .u64 n, .int .i64 x] W fun e W' => e = .returned (.bool true) ∧ Below W.heap.size W W' := by
  unfold maxLen at hs
  have ht : (s.extract 0 (min (s.size : Int) 500).toNat).size ≤ 500 := by simp [ByteArray.size_extract]; omega
  have hb := Below.refl W.heap.size W
  go_enter Try.func3, Try.ntmps3
  go_wp2_with fail
  generalize s.extract 0 (min (s.size : Int) 500).toNat = t at ht ⊢
  rcases unhex_two t (by omega) with ⟨x, hU, hR⟩ | ⟨hU, hR⟩
  all_goals
    have HU := Lib.hid hU
    have HR := Lib.hid hR
    clear hU hR
    by_cases h8 : t.size ≤ 8
    · go_wp2_with (first | (go_at_call 8; refine (HU.out _).mono ?_; rintro e w1 ⟨rfl, hb1⟩; replace hb := below_on hb hb1; clear hb1) | (go_at_call 9; refine (big_neg _ _ _ hx).mono ?_; rintro e w1 ⟨rfl, rfl⟩) | (go_at_call 10; refine (num_any _ _ h8).mono ?_; rintro e w1 ⟨rfl, rfl⟩) | (go_at_call 11; refine (HR.out _).mono ?_; rintro e w1 ⟨rfl, hb1⟩; replace hb := below_on hb hb1; clear hb1) | (go_at_call 12; refine (hex_any _ _ (by omega)).mono ?_; rintro e w1 ⟨rfl, hb1⟩; replace hb := below_on hb hb1; clear hb1) | (go_at_call 13; refine (refHex_any _ _ (by omega)).mono ?_; rintro e w1 ⟨rfl, hb1⟩; replace hb := below_on hb hb1; clear hb1) | (go_at_call 14; refine (alive_any _).mono ?_; rintro e w1 ⟨rfl, hb1⟩; replace hb := below_on hb hb1; clear hb1) | (go_at_call 17; refine (refNum_any _ _ h8).mono ?_; rintro e w1 ⟨rfl, rfl⟩))
      go_ret
      exact ⟨rfl, hb⟩
    · have h8' : 8 < t.size := by omega
      go_wp2_with (first | (go_at_call 8; refine (HU.out _).mono ?_; rintro e w1 ⟨rfl, hb1⟩; replace hb := below_on hb hb1; clear hb1) | (go_at_call 9; refine (big_neg _ _ _ hx).mono ?_; rintro e w1 ⟨rfl, rfl⟩) | (go_at_call 10; refine (num_long _ _ h8').mono ?_; rintro e w1 ⟨rfl, rfl⟩) | (go_at_call 11; refine (HR.out _).mono ?_; rintro e w1 ⟨rfl, hb1⟩; replace hb := below_on hb hb1; clear hb1) | (go_at_call 12; refine (hex_any _ _ (by omega)).mono ?_; rintro e w1 ⟨rfl, hb1⟩; replace hb := below_on hb hb1; clear hb1) | (go_at_call 13; refine (refHex_any _ _ (by omega)).mono ?_; rintro e w1 ⟨rfl, hb1⟩; replace hb := below_on hb hb1; clear hb1) | (go_at_call 14; refine (alive_any _).mono ?_; rintro e w1 ⟨rfl, hb1⟩; replace hb := below_on hb hb1; clear hb1))
      go_ret
      exact ⟨rfl, hb⟩

set_option maxHeartbeats 1600000 in
theorem reads_wide (n : Nat) (x : Int) (hx : 8 < x) (s : ByteArray) (W : World) (hs : s.size ≤ maxLen) :
    Calls Try.prog 3 #[.string s, .int .u64 n, .int .i64 x] W fun e W' => e = .returned (.bool true) ∧ Below W.heap.size W W' := by
  unfold maxLen at hs
  have ht : (s.extract 0 (min (s.size : Int) 500).toNat).size ≤ 500 := by simp [ByteArray.size_extract]; omega
  have hx0 : ¬ x < 0 := by omega
  have hb := Below.refl W.heap.size W
  go_enter Try.func3, Try.ntmps3
  go_wp2_with fail
  generalize s.extract 0 (min (s.size : Int) 500).toNat = t at ht ⊢
  rcases unhex_two t (by omega) with ⟨x, hU, hR⟩ | ⟨hU, hR⟩
  all_goals
    have HU := Lib.hid hU
    have HR := Lib.hid hR
    clear hU hR
    by_cases h8 : t.size ≤ 8
    · go_wp2_with (first | (go_at_call 8; refine (HU.out _).mono ?_; rintro e w1 ⟨rfl, hb1⟩; replace hb := below_on hb hb1; clear hb1) | (go_at_call 9; refine (big_wide _ _ _ hx).mono ?_; rintro e w1 ⟨rfl, rfl⟩) | (go_at_call 10; refine (num_any _ _ h8).mono ?_; rintro e w1 ⟨rfl, rfl⟩) | (go_at_call 11; refine (HR.out _).mono ?_; rintro e w1 ⟨rfl, hb1⟩; replace hb := below_on hb hb1; clear hb1) | (go_at_call 12; refine (hex_any _ _ (by omega)).mono ?_; rintro e w1 ⟨rfl, hb1⟩; replace hb := below_on hb hb1; clear hb1) | (go_at_call 13; refine (refHex_any _ _ (by omega)).mono ?_; rintro e w1 ⟨rfl, hb1⟩; replace hb := below_on hb hb1; clear hb1) | (go_at_call 14; refine (alive_any _).mono ?_; rintro e w1 ⟨rfl, hb1⟩; replace hb := below_on hb hb1; clear hb1) | (go_at_call 17; refine (refNum_any _ _ h8).mono ?_; rintro e w1 ⟨rfl, rfl⟩))
      go_ret
      exact ⟨rfl, hb⟩
    · have h8' : 8 < t.size := by omega
      go_wp2_with (first | (go_at_call 8; refine (HU.out _).mono ?_; rintro e w1 ⟨rfl, hb1⟩; replace hb := below_on hb hb1; clear hb1) | (go_at_call 9; refine (big_wide _ _ _ hx).mono ?_; rintro e w1 ⟨rfl, rfl⟩) | (go_at_call 10; refine (num_long _ _ h8').mono ?_; rintro e w1 ⟨rfl, rfl⟩) | (go_at_call 11; refine (HR.out _).mono ?_; rintro e w1 ⟨rfl, hb1⟩; replace hb := below_on hb hb1; clear hb1) | (go_at_call 12; refine (hex_any _ _ (by omega)).mono ?_; rintro e w1 ⟨rfl, hb1⟩; replace hb := below_on hb hb1; clear hb1) | (go_at_call 13; refine (refHex_any _ _ (by omega)).mono ?_; rintro e w1 ⟨rfl, hb1⟩; replace hb := below_on hb hb1; clear hb1) | (go_at_call 14; refine (alive_any _).mono ?_; rintro e w1 ⟨rfl, hb1⟩; replace hb := below_on hb hb1; clear hb1))
      go_ret
      exact ⟨rfl, hb⟩

theorem reads_walk (n : Nat) (x : Int) (s : ByteArray) (W : World) (hn : n < 2 ^ 64) (hs : s.size ≤ maxLen) :
    Calls Try.prog 3 #[.string s, .int .u64 n, .int .i64 x] W fun e W' => e = .returned (.bool true) ∧ Below W.heap.size W W' := by
  by_cases h0 : x < 0
  · exact reads_neg n x h0 s W hs
  · by_cases h1 : 8 < x
    · exact reads_wide n x h1 s W hs
    · obtain ⟨w, rfl⟩ := Int.eq_ofNat_of_zero_le (show 0 ≤ x by omega)
      by_cases hf : n < 256 ^ w
      · exact reads_fit n w hn (by omega) hf s W hs
      · exact reads_not n w hn (by omega) hf s W hs

/-! ### the row -/
set_option maxRecDepth 100000 in
theorem reads_lifted (os : Os) (started : os.Started) (H : Type) (enc : TypeId × Value → H) :
    ReturnsInHanded {} Try.checked os 3 .any (Rows.octetReadsSpec.pre6 enc Try.prog Try.f3 Rows.octetReadsRow.domain false) (Rows.octetReadsSpec.post enc Try.prog Try.f3 false true false false) := by
  refine returnsInHanded_of_change (C := Try.checked) own started (by kernel_rfl) Try.func3
    (ChangeSpec.witness6 (enc := enc) (C := Try.checked) false ⟨#[], #[.string ByteArray.empty, .int .u64 0, .int .i64 0], []⟩ 8 (by kernel_rfl) (by kernel_rfl) (by kernel_rfl) (by kernel_rfl)) ?_
  intro W base args ds gs before hval0 hW hcnd _
  have hval : ∀ (j : Nat) t v, Try.f3.params[j]? = some t → args[j]? = some v → Value.okWide Try.prog W .any base t v := hval0
  have hW' := hW
  obtain ⟨p, q, hA0, hV, rfl, hfz, hnd⟩ := hW
  have hA : DataW.TrodAll enc Try.prog W 0 (fun _ => true) true Try.f3.params.toList args.toList ds p := hA0
  rw [Try.params3] at hA hval
  obtain ⟨v0, vs0, d0, ds0, p0, q0, hargs, rfl, rfl, h0, r0⟩ := trodAll_cons hA
  obtain ⟨v1, vs1, d1, ds1, p1, q1, rfl, rfl, rfl, h1, r1⟩ := trodAll_cons r0
  obtain ⟨v2, vs2, d2, ds2, p2, q2, rfl, rfl, rfl, h2, r2⟩ := trodAll_cons r1
  obtain ⟨rfl, rfl, rfl⟩ := trodAll_nil r2
  obtain rfl : args = #[v0, v1, v2] := by cases args; simp_all
  obtain ⟨rfl, rfl⟩ := trodVars_none hV
  obtain ⟨a0, rfl, rfl, rfl, w0⟩ := open_string Try.underlying9 (hval 0 9 v0 rfl rfl) h0
  obtain ⟨a1, rfl, rfl, rfl, w1⟩ := open_int Try.underlying22 (hval 1 22 v1 rfl rfl) h1
  obtain ⟨a2, rfl, rfl, rfl, w2⟩ := open_int Try.underlying3 (hval 2 3 v2 rfl rfl) h2
  clear hA0 hval0
  simp only [List.append_nil] at hW'
  have hbd := u64_bounds w1
  obtain ⟨n, rfl⟩ := Int.eq_ofNat_of_zero_le hbd.1
  refine (reads_walk n a2 a0 W (by omega) w0).mono fun e W' ⟨he, bel⟩ => ?_
  subst he
  exact ⟨_, rfl, _, _, _, [], _, [], hW', trodAll_mk1 (shut_bool Try.underlying4 _), (trodAll_cons_mk (shut_string Try.underlying9 w0) (trodAll_cons_mk (shut_int Try.underlying22 w1) (trodAll_cons_mk (shut_int Try.underlying3 w2) trodAll_mk0))), rfl, bel.frame _, fun h => by cases h⟩

theorem reads_over : Rows.octetReadsRow.holds Try.pinned (OpenSpec.ofChange Rows.octetReadsSpec) :=
  OpenClaim.holds_of_wide 3 Try.f3 rfl rfl rfl rfl rfl rfl rfl ⟨rfl, rfl, rfl, rfl, rfl⟩ rfl rfl rfl rfl rfl (by kernel_rfl) Try.func3 (by kernel_rfl)
    (of_decide_eq_true (by kernel_rfl)) (by unfold Func.isWrapper; first | (rw [if_pos (by decide +kernel)]; kernel_rfl) | (rw [if_neg (by decide +kernel)]; exact ⟨rfl, rfl⟩))
    (fun os started H enc _ => reads_lifted os started H enc)

theorem reads_holds : Rows.OctetReadsSaid := reads_over
end Go.Proofs.Ytckamablodhecaa
