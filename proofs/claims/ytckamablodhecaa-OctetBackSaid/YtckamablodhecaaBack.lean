/- What is proved: whatever parts, text and number the statement that what is written is read is called with, it answers true; no condition. -/
import Derived.Test.YtckamablodhecaaFrame
import Derived.Test.YtckamablodhecaaFew
import Derived.Test.YtckamablodhecaaPack
import Derived.Test.YtckamablodhecaaAlive
namespace Go.Proofs.Ytckamablodhecaa
open Go.ChangeShapes Go.WideShapes Go.ChangeAt Go.RowKit
open Go.ChangeMaps (open_string shut_string)

/-! ### what a call gives, said of its argument alone -/
def PackGives (l : List (List UInt8)) (A : ByteArray) (e : Int) : Prop := ∀ w v, Strs w v l → Calls Try.prog 19 #[v] w fun x w' => x = .returned (.tuple #[.string A, .int .i64 e]) ∧ Below w.heap.size w w'
def UnpackGives (A : ByteArray) (e : Int) (r : List (List UInt8)) : Prop := ∀ w, Calls Try.prog 20 #[.string A] w fun x w' => ∃ v, x = .returned (.tuple #[v, .int .i64 e]) ∧ Strs w' v r ∧ Below w.heap.size w w'
def SameGives (r l : List (List UInt8)) (b : Bool) : Prop := ∀ w v u, Strs w v r → Strs w u l → Calls Try.prog 23 #[v, u] w fun x w' => x = .returned (.bool b) ∧ Below w.heap.size w w'
def UnhexGives (A B : ByteArray) (e : Int) : Prop := ∀ w, Calls Try.prog 8 #[.string A] w fun x w' => x = .returned (.tuple #[.string B, .int .i64 e]) ∧ Below w.heap.size w w'
def HexGives (A B : ByteArray) : Prop := ∀ w, Calls Try.prog 12 #[.string A] w fun x w' => x = .returned (.string B) ∧ Below w.heap.size w w'

/-- a row put together, and told apart again -/
theorem row_back (l : List (List UInt8)) (hx : ∀ x ∈ l, x.length ≤ 1000000) :
    ∃ A e f r b, PackGives l A e ∧ UnpackGives A f r ∧ SameGives r l b ∧ ((e = 0 ∧ f = 0 ∧ b = true) ∨ (e == 0) = false) := by
  refine ⟨packS l, packE l, (unpackT (packS l).data.toList).1, (unpackT (packS l).data.toList).2, decide ((unpackT (packS l).data.toList).2 = l), fun w v h => pack_any w v l h hx, fun w => unpack_any _ w, fun w v u h k => same_any w v u _ _ h k, ?_⟩
  by_cases h : packE l = 0
  · left
    have e1 : (packS l).data.toList = packL l := by rw [packS_ok h]
    rw [e1, unpack_pack h]
    exact ⟨h, rfl, by simp⟩
  · right; simpa using h
/-- a text told apart, and put together again -/
theorem text_back (t : ByteArray) (ht : t.size ≤ 65536) :
    ∃ e r A f, UnpackGives t e r ∧ PackGives r A f ∧ ((e = 0 ∧ f = 0 ∧ A = t) ∨ (e == 0) = false) := by
  by_cases h : (unpackT t.data.toList).1 = 0
  · have hp := pack_unpack (l := t.data.toList) (p := (unpackT t.data.toList).2) (Prod.ext h rfl)
    have hs : packS (unpackT t.data.toList).2 = t := by rw [packS_ok hp.2, hp.1, Lib.mk_data]
    refine ⟨_, _, packS (unpackT t.data.toList).2, packE (unpackT t.data.toList).2, fun w => unpack_any t w, fun w v hv => pack_any w v _ hv ?_, Or.inl ⟨h, hp.2, hs⟩⟩
    intro x hx
    have h1 := part_lt hx
    rw [hp.1, ← Lib.size_eq] at h1
    omega
  · refine ⟨_, (unpackT t.data.toList).2, packS (unpackT t.data.toList).2, packE (unpackT t.data.toList).2, fun w => unpack_any t w, fun w v hv => pack_any w v _ hv ?_, Or.inr (by simpa using h)⟩
    have h0 : (unpackT t.data.toList).2 = [] := by
      unfold unpackT at h ⊢
      split
      · rfl
      · rename_i hc
        rw [if_neg hc] at h
        exact tell_err 0 _ h
    rw [h0]
    intro x hx
    cases hx
/-- digits read, and written again -/
theorem digits_back (t : ByteArray) (ht : t.size ≤ 65536) : ∃ B e C, UnhexGives t B e ∧ HexGives B C ∧ ((e = 0 ∧ C = t) ∨ (e == 0) = false) := by
  rcases hu : unhexL t.data.toList with _ | x
  · refine ⟨ByteArray.empty, 4, ⟨(hexL ByteArray.empty.data.toList).toArray⟩, fun w => ?_, fun w => hex_any _ w (by decide), Or.inr (by decide)⟩
    have h := unhex_any t w (by omega)
    rw [unhexS_none hu, unhexE_none hu] at h
    exact h
  · have hh := hex_unhex t.data.toList.length t.data.toList x (Nat.le_refl _) hu
    have hl : x.length ≤ 1000000 := by
      have := congrArg List.length hh
      rw [hexL_length, ← Lib.size_eq] at this
      omega
    refine ⟨⟨x.toArray⟩, 0, t, fun w => ?_, fun w => ?_, Or.inl ⟨rfl, rfl⟩⟩
    · have h := unhex_any t w (by omega)
      rw [unhexS_some hu, unhexE_some hu] at h
      exact h
    · have h := hex_any ⟨x.toArray⟩ w (by rw [str_size]; exact hl)
      rw [show ({ data := x.toArray } : ByteArray).data.toList = x from rfl, hh, Lib.mk_data] at h
      exact h
/-- digits written, and read again -/
theorem written_back (t : ByteArray) (ht : t.size ≤ 65536) : ∃ B, HexGives t B ∧ UnhexGives B t 0 := by
  refine ⟨⟨(hexL t.data.toList).toArray⟩, fun w => hex_any t w (by omega), fun w => ?_⟩
  have h := unhex_any ⟨(hexL t.data.toList).toArray⟩ w (by rw [str_size, hexL_length, ← Lib.size_eq]; omega)
  rw [show ({ data := (hexL t.data.toList).toArray } : ByteArray).data.toList = hexL t.data.toList from rfl, unhexS_some (unhex_hex _), unhexE_some (unhex_hex _), Lib.mk_data] at h
  exact h
theorem eight (n : Nat) (h : n < 2 ^ 64) : ((n : Int) / 2 ^ (8 * 8) != 0) = false := by
  have : (n : Int) / 2 ^ (8 * 8) = 0 := by omega
  rw [this]
  decide
theorem num_eight (n : Nat) (h : n < 2 ^ 64) (W : World) :
    Calls Try.prog 10 #[.string { data := (bigL n 8).toArray }] W fun e W' => e = .returned (.tuple #[.int .u64 n, .int .i64 0]) ∧ W = W' := by
  have h1 := num_any { data := (bigL n 8).toArray } W (by rw [str_size, bigL_length]; omega)
  rw [show ({ data := (bigL n 8).toArray } : ByteArray).data.toList = bigL n 8 from rfl, numL_bigL, Nat.mod_eq_of_lt (by omega)] at h1
  exact h1

set_option maxHeartbeats 1600000 in
theorem back_walk (v : Value) (l : List (List UInt8)) (s : ByteArray) (n : Nat) (W : World) (hl : Strs W v l) (hx : ∀ x ∈ l, x.length ≤ maxLen) (hs : s.size ≤ maxLen) (hn : n < 2 ^ 64) :
    Calls Try.prog 5 #[v, .string s, .int .u64 n] W fun e W' => e = .returned (.bool true) ∧ Below W.heap.size W W' := by
  unfold maxLen at hs
  have hb := Below.refl W.heap.size W
  have HX := Lib.hid hx
  clear hx
  obtain ⟨A1, e1, f1, r1, b1, HP1, HU1, HS1, hc1⟩ := row_back (fewL l) (fun x hx => by have := fewL_part hx; omega)
  have ht : (s.extract 0 (min (s.size : Int) 3000).toNat).size ≤ 3000 := by simp [ByteArray.size_extract]; omega
  have hbl : (bigL n 8).length ≤ 8 := by rw [bigL_length]; omega
  have hbl' : 8 ≤ (bigL n 8).length := by rw [bigL_length]; omega
  have HE := Lib.hid (eight n hn)
  have HN := Lib.hid (num_eight n hn)
  go_enter Try.func5, Try.ntmps5
  go_wp2_with (go_at_call 18; refine (few_any _ _ _ hl HX.out).mono ?_; rintro e w1 ⟨v1, rfl, hs1, hb1⟩; replace hb := below_on hb hb1; clear hb1)
  generalize s.extract 0 (min (s.size : Int) 3000).toNat = t at ht ⊢
  obtain ⟨e2, r2, A2, f2, HU2, HP2, hc2⟩ := text_back t (by omega)
  obtain ⟨B3, e3, C3, HX3, HH3, hc3⟩ := digits_back t (by omega)
  obtain ⟨B4, HH4, HX4⟩ := written_back t (by omega)
  unfold PackGives at HP1 HP2
  unfold UnpackGives at HU1 HU2
  unfold SameGives at HS1
  unfold UnhexGives at HX3 HX4
  unfold HexGives at HH3 HH4
  replace HP1 := Lib.hid HP1
  replace HP2 := Lib.hid HP2
  replace HU1 := Lib.hid HU1
  replace HU2 := Lib.hid HU2
  replace HS1 := Lib.hid HS1
  replace HX3 := Lib.hid HX3
  replace HX4 := Lib.hid HX4
  replace HH3 := Lib.hid HH3
  replace HH4 := Lib.hid HH4
  rcases hc1 with ⟨rfl, rfl, rfl⟩ | hc1
  all_goals rcases hc2 with ⟨rfl, rfl, rfl⟩ | hc2
  all_goals rcases hc3 with ⟨rfl, rfl⟩ | hc3
  · go_wp2_with (go_at_call 19; ((with_reducible refine (HP1.out _ _ hs1).mono ?_); rintro e w1 ⟨rfl, hb1⟩; replace hs1 := hs1.below hb1; replace hb := below_on hb hb1; clear hb1))
    go_wp2_with (go_at_call 20; ((with_reducible refine (HU1.out _).mono ?_); rintro e w1 ⟨v2, rfl, hs2, hb1⟩; replace hs1 := hs1.below hb1; replace hb := below_on hb hb1; clear hb1))
    go_wp2_with (go_at_call 23; refine (HS1.out _ _ _ hs2 hs1).mono ?_; rintro e w1 ⟨rfl, hb1⟩; replace hb := below_on hb hb1; clear hb1)
    go_wp2_with (go_at_call 20; ((with_reducible refine (HU2.out _).mono ?_); rintro e w1 ⟨v3, rfl, hs3, hb1⟩; replace hb := below_on hb hb1; clear hb1))
    go_wp2_with (go_at_call 19; ((with_reducible refine (HP2.out _ _ hs3).mono ?_); rintro e w1 ⟨rfl, hb1⟩; replace hb := below_on hb hb1; clear hb1))
    go_wp2_with (go_at_call 12; ((with_reducible refine (HH4.out _).mono ?_); rintro e w1 ⟨rfl, hb1⟩; replace hb := below_on hb hb1; clear hb1))
    go_wp2_with (go_at_call 8; ((with_reducible refine (HX4.out _).mono ?_); rintro e w1 ⟨rfl, hb1⟩; replace hb := below_on hb hb1; clear hb1))
    go_wp2_with (go_at_call 9; refine (big_yes _ _ _ (by decide) HE.out).mono ?_; rintro e w1 ⟨rfl, hb1⟩; replace hb := below_on hb hb1; clear hb1)
    go_wp2_with (go_at_call 10; refine (HN.out _).mono ?_; rintro e w1 ⟨rfl, rfl⟩)
    go_wp2_with (go_at_call 8; ((with_reducible refine (HX3.out _).mono ?_); rintro e w1 ⟨rfl, hb1⟩; replace hb := below_on hb hb1; clear hb1))
    go_wp2_with (go_at_call 12; ((with_reducible refine (HH3.out _).mono ?_); rintro e w1 ⟨rfl, hb1⟩; replace hb := below_on hb hb1; clear hb1))
    go_wp2_with (go_at_call 14; refine (alive_any _).mono ?_; rintro e w1 ⟨rfl, hb1⟩; replace hb := below_on hb hb1; clear hb1)
    go_ret
    exact ⟨rfl, hb⟩
  · go_wp2_with (go_at_call 19; ((with_reducible refine (HP1.out _ _ hs1).mono ?_); rintro e w1 ⟨rfl, hb1⟩; replace hs1 := hs1.below hb1; replace hb := below_on hb hb1; clear hb1))
    go_wp2_with (go_at_call 20; ((with_reducible refine (HU1.out _).mono ?_); rintro e w1 ⟨v2, rfl, hs2, hb1⟩; replace hs1 := hs1.below hb1; replace hb := below_on hb hb1; clear hb1))
    go_wp2_with (go_at_call 23; refine (HS1.out _ _ _ hs2 hs1).mono ?_; rintro e w1 ⟨rfl, hb1⟩; replace hb := below_on hb hb1; clear hb1)
    go_wp2_with (go_at_call 20; ((with_reducible refine (HU2.out _).mono ?_); rintro e w1 ⟨v3, rfl, hs3, hb1⟩; replace hb := below_on hb hb1; clear hb1))
    go_wp2_with (go_at_call 19; ((with_reducible refine (HP2.out _ _ hs3).mono ?_); rintro e w1 ⟨rfl, hb1⟩; replace hb := below_on hb hb1; clear hb1))
    go_wp2_with (go_at_call 12; ((with_reducible refine (HH4.out _).mono ?_); rintro e w1 ⟨rfl, hb1⟩; replace hb := below_on hb hb1; clear hb1))
    go_wp2_with (go_at_call 8; ((with_reducible refine (HX4.out _).mono ?_); rintro e w1 ⟨rfl, hb1⟩; replace hb := below_on hb hb1; clear hb1))
    go_wp2_with (go_at_call 9; refine (big_yes _ _ _ (by decide) HE.out).mono ?_; rintro e w1 ⟨rfl, hb1⟩; replace hb := below_on hb hb1; clear hb1)
    go_wp2_with (go_at_call 10; refine (HN.out _).mono ?_; rintro e w1 ⟨rfl, rfl⟩)
    go_wp2_with (go_at_call 8; ((with_reducible refine (HX3.out _).mono ?_); rintro e w1 ⟨rfl, hb1⟩; replace hb := below_on hb hb1; clear hb1))
    go_wp2_with (go_at_call 14; refine (alive_any _).mono ?_; rintro e w1 ⟨rfl, hb1⟩; replace hb := below_on hb hb1; clear hb1)
    go_ret
    exact ⟨rfl, hb⟩
  · go_wp2_with (go_at_call 19; ((with_reducible refine (HP1.out _ _ hs1).mono ?_); rintro e w1 ⟨rfl, hb1⟩; replace hs1 := hs1.below hb1; replace hb := below_on hb hb1; clear hb1))
    go_wp2_with (go_at_call 20; ((with_reducible refine (HU1.out _).mono ?_); rintro e w1 ⟨v2, rfl, hs2, hb1⟩; replace hs1 := hs1.below hb1; replace hb := below_on hb hb1; clear hb1))
    go_wp2_with (go_at_call 23; refine (HS1.out _ _ _ hs2 hs1).mono ?_; rintro e w1 ⟨rfl, hb1⟩; replace hb := below_on hb hb1; clear hb1)
    go_wp2_with (go_at_call 20; ((with_reducible refine (HU2.out _).mono ?_); rintro e w1 ⟨v3, rfl, hs3, hb1⟩; replace hb := below_on hb hb1; clear hb1))
    go_wp2_with (go_at_call 12; ((with_reducible refine (HH4.out _).mono ?_); rintro e w1 ⟨rfl, hb1⟩; replace hb := below_on hb hb1; clear hb1))
    go_wp2_with (go_at_call 8; ((with_reducible refine (HX4.out _).mono ?_); rintro e w1 ⟨rfl, hb1⟩; replace hb := below_on hb hb1; clear hb1))
    go_wp2_with (go_at_call 9; refine (big_yes _ _ _ (by decide) HE.out).mono ?_; rintro e w1 ⟨rfl, hb1⟩; replace hb := below_on hb hb1; clear hb1)
    go_wp2_with (go_at_call 10; refine (HN.out _).mono ?_; rintro e w1 ⟨rfl, rfl⟩)
    go_wp2_with (go_at_call 8; ((with_reducible refine (HX3.out _).mono ?_); rintro e w1 ⟨rfl, hb1⟩; replace hb := below_on hb hb1; clear hb1))
    go_wp2_with (go_at_call 12; ((with_reducible refine (HH3.out _).mono ?_); rintro e w1 ⟨rfl, hb1⟩; replace hb := below_on hb hb1; clear hb1))
    go_wp2_with (go_at_call 14; refine (alive_any _).mono ?_; rintro e w1 ⟨rfl, hb1⟩; replace hb := below_on hb hb1; clear hb1)
    go_ret
    exact ⟨rfl, hb⟩
  · go_wp2_with (go_at_call 19; ((with_reducible refine (HP1.out _ _ hs1).mono ?_); rintro e w1 ⟨rfl, hb1⟩; replace hs1 := hs1.below hb1; replace hb := below_on hb hb1; clear hb1))
    go_wp2_with (go_at_call 20; ((with_reducible refine (HU1.out _).mono ?_); rintro e w1 ⟨v2, rfl, hs2, hb1⟩; replace hs1 := hs1.below hb1; replace hb := below_on hb hb1; clear hb1))
    go_wp2_with (go_at_call 23; refine (HS1.out _ _ _ hs2 hs1).mono ?_; rintro e w1 ⟨rfl, hb1⟩; replace hb := below_on hb hb1; clear hb1)
    go_wp2_with (go_at_call 20; ((with_reducible refine (HU2.out _).mono ?_); rintro e w1 ⟨v3, rfl, hs3, hb1⟩; replace hb := below_on hb hb1; clear hb1))
    go_wp2_with (go_at_call 12; ((with_reducible refine (HH4.out _).mono ?_); rintro e w1 ⟨rfl, hb1⟩; replace hb := below_on hb hb1; clear hb1))
    go_wp2_with (go_at_call 8; ((with_reducible refine (HX4.out _).mono ?_); rintro e w1 ⟨rfl, hb1⟩; replace hb := below_on hb hb1; clear hb1))
    go_wp2_with (go_at_call 9; refine (big_yes _ _ _ (by decide) HE.out).mono ?_; rintro e w1 ⟨rfl, hb1⟩; replace hb := below_on hb hb1; clear hb1)
    go_wp2_with (go_at_call 10; refine (HN.out _).mono ?_; rintro e w1 ⟨rfl, rfl⟩)
    go_wp2_with (go_at_call 8; ((with_reducible refine (HX3.out _).mono ?_); rintro e w1 ⟨rfl, hb1⟩; replace hb := below_on hb hb1; clear hb1))
    go_wp2_with (go_at_call 14; refine (alive_any _).mono ?_; rintro e w1 ⟨rfl, hb1⟩; replace hb := below_on hb hb1; clear hb1)
    go_ret
    exact ⟨rfl, hb⟩
  · go_wp2_with (go_at_call 19; ((with_reducible refine (HP1.out _ _ hs1).mono ?_); rintro e w1 ⟨rfl, hb1⟩; replace hs1 := hs1.below hb1; replace hb := below_on hb hb1; clear hb1))
    go_wp2_with (go_at_call 20; ((with_reducible refine (HU1.out _).mono ?_); rintro e w1 ⟨v2, rfl, hs2, hb1⟩; replace hs1 := hs1.below hb1; replace hb := below_on hb hb1; clear hb1))
    go_wp2_with (go_at_call 20; ((with_reducible refine (HU2.out _).mono ?_); rintro e w1 ⟨v3, rfl, hs3, hb1⟩; replace hb := below_on hb hb1; clear hb1))
    go_wp2_with (go_at_call 19; ((with_reducible refine (HP2.out _ _ hs3).mono ?_); rintro e w1 ⟨rfl, hb1⟩; replace hb := below_on hb hb1; clear hb1))
    go_wp2_with (go_at_call 12; ((with_reducible refine (HH4.out _).mono ?_); rintro e w1 ⟨rfl, hb1⟩; replace hb := below_on hb hb1; clear hb1))
    go_wp2_with (go_at_call 8; ((with_reducible refine (HX4.out _).mono ?_); rintro e w1 ⟨rfl, hb1⟩; replace hb := below_on hb hb1; clear hb1))
    go_wp2_with (go_at_call 9; refine (big_yes _ _ _ (by decide) HE.out).mono ?_; rintro e w1 ⟨rfl, hb1⟩; replace hb := below_on hb hb1; clear hb1)
    go_wp2_with (go_at_call 10; refine (HN.out _).mono ?_; rintro e w1 ⟨rfl, rfl⟩)
    go_wp2_with (go_at_call 8; ((with_reducible refine (HX3.out _).mono ?_); rintro e w1 ⟨rfl, hb1⟩; replace hb := below_on hb hb1; clear hb1))
    go_wp2_with (go_at_call 12; ((with_reducible refine (HH3.out _).mono ?_); rintro e w1 ⟨rfl, hb1⟩; replace hb := below_on hb hb1; clear hb1))
    go_wp2_with (go_at_call 14; refine (alive_any _).mono ?_; rintro e w1 ⟨rfl, hb1⟩; replace hb := below_on hb hb1; clear hb1)
    go_ret
    exact ⟨rfl, hb⟩
  · go_wp2_with (go_at_call 19; ((with_reducible refine (HP1.out _ _ hs1).mono ?_); rintro e w1 ⟨rfl, hb1⟩; replace hs1 := hs1.below hb1; replace hb := below_on hb hb1; clear hb1))
    go_wp2_with (go_at_call 20; ((with_reducible refine (HU1.out _).mono ?_); rintro e w1 ⟨v2, rfl, hs2, hb1⟩; replace hs1 := hs1.below hb1; replace hb := below_on hb hb1; clear hb1))
    go_wp2_with (go_at_call 20; ((with_reducible refine (HU2.out _).mono ?_); rintro e w1 ⟨v3, rfl, hs3, hb1⟩; replace hb := below_on hb hb1; clear hb1))
    go_wp2_with (go_at_call 19; ((with_reducible refine (HP2.out _ _ hs3).mono ?_); rintro e w1 ⟨rfl, hb1⟩; replace hb := below_on hb hb1; clear hb1))
    go_wp2_with (go_at_call 12; ((with_reducible refine (HH4.out _).mono ?_); rintro e w1 ⟨rfl, hb1⟩; replace hb := below_on hb hb1; clear hb1))
    go_wp2_with (go_at_call 8; ((with_reducible refine (HX4.out _).mono ?_); rintro e w1 ⟨rfl, hb1⟩; replace hb := below_on hb hb1; clear hb1))
    go_wp2_with (go_at_call 9; refine (big_yes _ _ _ (by decide) HE.out).mono ?_; rintro e w1 ⟨rfl, hb1⟩; replace hb := below_on hb hb1; clear hb1)
    go_wp2_with (go_at_call 10; refine (HN.out _).mono ?_; rintro e w1 ⟨rfl, rfl⟩)
    go_wp2_with (go_at_call 8; ((with_reducible refine (HX3.out _).mono ?_); rintro e w1 ⟨rfl, hb1⟩; replace hb := below_on hb hb1; clear hb1))
    go_wp2_with (go_at_call 14; refine (alive_any _).mono ?_; rintro e w1 ⟨rfl, hb1⟩; replace hb := below_on hb hb1; clear hb1)
    go_ret
    exact ⟨rfl, hb⟩
  · go_wp2_with (go_at_call 19; ((with_reducible refine (HP1.out _ _ hs1).mono ?_); rintro e w1 ⟨rfl, hb1⟩; replace hs1 := hs1.below hb1; replace hb := below_on hb hb1; clear hb1))
    go_wp2_with (go_at_call 20; ((with_reducible refine (HU1.out _).mono ?_); rintro e w1 ⟨v2, rfl, hs2, hb1⟩; replace hs1 := hs1.below hb1; replace hb := below_on hb hb1; clear hb1))
    go_wp2_with (go_at_call 20; ((with_reducible refine (HU2.out _).mono ?_); rintro e w1 ⟨v3, rfl, hs3, hb1⟩; replace hb := below_on hb hb1; clear hb1))
    go_wp2_with (go_at_call 12; ((with_reducible refine (HH4.out _).mono ?_); rintro e w1 ⟨rfl, hb1⟩; replace hb := below_on hb hb1; clear hb1))
    go_wp2_with (go_at_call 8; ((with_reducible refine (HX4.out _).mono ?_); rintro e w1 ⟨rfl, hb1⟩; replace hb := below_on hb hb1; clear hb1))
    go_wp2_with (go_at_call 9; refine (big_yes _ _ _ (by decide) HE.out).mono ?_; rintro e w1 ⟨rfl, hb1⟩; replace hb := below_on hb hb1; clear hb1)
    go_wp2_with (go_at_call 10; refine (HN.out _).mono ?_; rintro e w1 ⟨rfl, rfl⟩)
    go_wp2_with (go_at_call 8; ((with_reducible refine (HX3.out _).mono ?_); rintro e w1 ⟨rfl, hb1⟩; replace hb := below_on hb hb1; clear hb1))
    go_wp2_with (go_at_call 12; ((with_reducible refine (HH3.out _).mono ?_); rintro e w1 ⟨rfl, hb1⟩; replace hb := below_on hb hb1; clear hb1))
    go_wp2_with (go_at_call 14; refine (alive_any _).mono ?_; rintro e w1 ⟨rfl, hb1⟩; replace hb := below_on hb hb1; clear hb1)
    go_ret
    exact ⟨rfl, hb⟩
  · go_wp2_with (go_at_call 19; ((with_reducible refine (HP1.out _ _ hs1).mono ?_); rintro e w1 ⟨rfl, hb1⟩; replace hs1 := hs1.below hb1; replace hb := below_on hb hb1; clear hb1))
    go_wp2_with (go_at_call 20; ((with_reducible refine (HU1.out _).mono ?_); rintro e w1 ⟨v2, rfl, hs2, hb1⟩; replace hs1 := hs1.below hb1; replace hb := below_on hb hb1; clear hb1))
    go_wp2_with (go_at_call 20; ((with_reducible refine (HU2.out _).mono ?_); rintro e w1 ⟨v3, rfl, hs3, hb1⟩; replace hb := below_on hb hb1; clear hb1))
    go_wp2_with (go_at_call 12; ((with_reducible refine (HH4.out _).mono ?_); rintro e w1 ⟨rfl, hb1⟩; replace hb := below_on hb hb1; clear hb1))
    go_wp2_with (go_at_call 8; ((with_reducible refine (HX4.out _).mono ?_); rintro e w1 ⟨rfl, hb1⟩; replace hb := below_on hb hb1; clear hb1))
    go_wp2_with (go_at_call 9; refine (big_yes _ _ _ (by decide) HE.out).mono ?_; rintro e w1 ⟨rfl, hb1⟩; replace hb := below_on hb hb1; clear hb1)
    go_wp2_with (go_at_call 10; refine (HN.out _).mono ?_; rintro e w1 ⟨rfl, rfl⟩)
    go_wp2_with (go_at_call 8; ((with_reducible refine (HX3.out _).mono ?_); rintro e w1 ⟨rfl, hb1⟩; replace hb := below_on hb hb1; clear hb1))
    go_wp2_with (go_at_call 14; refine (alive_any _).mono ?_; rintro e w1 ⟨rfl, hb1⟩; replace hb := below_on hb hb1; clear hb1)
    go_ret
    exact ⟨rfl, hb⟩
end Go.Proofs.Ytckamablodhecaa
