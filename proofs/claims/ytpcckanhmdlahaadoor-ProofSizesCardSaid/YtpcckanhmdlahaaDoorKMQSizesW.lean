/- The walk of the statement of how long paths and steps are: whatever data and place, it answers true. -/
import Derived.Test.YtpcckanhmdlahaaDoorK8
namespace Go.Proofs.YtpcckanhmdlahaaDoor.Q
open Go.RowKit Go.Sort Go.Proofs.YtpcckanhmdlahaaDoor.U Go.Proofs.YtpcckanhmdlahaaDoor.R
set_option maxRecDepth 100000

set_option maxHeartbeats 3200000 in
theorem sizesQ_walk (ok : ProofOk) (v : Value) (data : List (List UInt8)) (i : Int) (W : World) (hi : (Lit.int .i64 i).wf = true) (hs : Strs W v data) (hx : ∀ x ∈ data, x.length ≤ maxLen) (hT : Tab W) (hZ : Tz W) :
    Calls Tryd.prog 8 #[v, .int .i64 i] W fun e w' => e = .returned (.bool true) ∧ Below W.heap.size W w' := by
  obtain ⟨hi1, hi2⟩ := wf_range hi
  have HSu := Lib.hid (sums_any data v W hs hx hT)
  have h50 := sumsL_length data data.length
  have h32 := sumsL_32 data data.length
  have HOk := Lib.hid ok
  have HT := Lib.hid hT
  have HZ := Lib.hid hZ
  clear hZ
  obtain ⟨ao, c0, hv, _⟩ := id hs
  subst hv
  generalize sumsL data data.length = L at *
  have hrow := row_of (show L.length ≤ 4096 by omega) h32
  have H100 := Lib.hid (show ∀ x ∈ L, x.length ≤ 100 from fun x hx => by rw [h32 x hx]; decide)
  have Hrow := Lib.hid hrow
  have hz := stepA_zero hrow
  have hall : stepA L (L.length : Int) = [] ∧ stepE L (L.length : Int) = 0 := by
    rcases Nat.eq_zero_or_pos L.length with h0 | h0
    · rw [h0]; exact hz
    · have h := stepA_yes hrow h0 (Nat.le_refl _)
      rw [stepT_all nd e0 h0] at h
      exact h
  have HSt := Lib.hid (fun w v' m (hm1 : -9223372036854775808 ≤ m) (hm2 : m ≤ 9223372036854775807) (hb : Below W.heap.size W w) (h : Strs w v' L) => HOk.out.step w v' L m hm1 hm2 h (by omega) H100.out (HT.out.below hb) (HZ.out.below hb))
  have HSt0 : Hid (∀ w v', Below W.heap.size W w → Strs w v' L → Calls Tryd.prog 11 #[v', .int .i64 0] w fun e w' => ∃ a c, e = .returned (.tuple #[.slice a 0 c, .int .i64 0]) ∧ Below w.heap.size w w') := Lib.hid (fun w v' hb h => (HSt.out w v' 0 (by decide) (by decide) hb h).mono fun e w' ⟨a, c, he, _, hb2⟩ => ⟨a, c, by rw [hz.1, hz.2] at he; exact he, hb2⟩)
  have HStn : Hid (∀ w v', Below W.heap.size W w → Strs w v' L → Calls Tryd.prog 11 #[v', .int .i64 (L.length : Int)] w fun e w' => ∃ a c, e = .returned (.tuple #[.slice a 0 c, .int .i64 0]) ∧ Below w.heap.size w w') := Lib.hid (fun w v' hb h => (HSt.out w v' (L.length : Int) (by omega) (by omega) hb h).mono fun e w' ⟨a, c, he, _, hb2⟩ => ⟨a, c, by rw [hall.1, hall.2] at he; exact he, hb2⟩)
  have HAl := Lib.hid (fun w (hb : Below W.heap.size W w) => aliveQ_any HOk.out w (HT.out.below hb))
  clear hx hT hi hs ok hz hall HSt hrow h32
  go_enter Tryd.func8, Tryd.ntmps8
  go_upto_region 3 with (go_at_call 24; refine HSu.out.mono ?_; rintro e w1 ⟨a1, c1, rfl, ho1, hB⟩)
  have hs1 := ho1.strs
  clear HSu ho1
  go_upto_region 5 with (first
    | (go_at_call 11; with_reducible refine (HSt0.out _ _ hB hs1).mono ?_; rintro e w2 ⟨a2, c2, rfl, hb2⟩; replace hB := below_on hB hb2; replace hs1 := hs1.below hb2)
    | (go_at_call 11; with_reducible refine (HStn.out _ _ hB hs1).mono ?_; rintro e w3 ⟨a3, c3, rfl, hb3⟩; replace hB := below_on hB hb3; replace hs1 := hs1.below hb3))
  rcases Nat.eq_zero_or_pos L.length with h0 | h0
  · have hn0 : ((L.length : Int) == 0) = true := by rw [h0]; rfl
    go_wp2_with (go_at_call 13; refine (HAl.out _ hB).mono ?_; rintro e w4 ⟨rfl, hb4⟩; replace hB := below_on hB hb4)
    go_ret
    exact ⟨rfl, hB⟩
  · have hn0 : ((L.length : Int) == 0) = false := by simp; intro h; subst h; exact absurd h0 (by simp)
    obtain ⟨r, k, hr, hr1, hr2, hk, hkn⟩ := mod_any i L.length h0
    have HPa : Hid (∀ w v', Below W.heap.size W w → Strs w v' L → Calls Tryd.prog 10 #[v', .int .i64 (k : Int)] w fun e w' => ∃ a c, e = .returned (.tuple #[.slice a (deep k L.length) c, .int .i64 0]) ∧ Below w.heap.size w w') := Lib.hid (fun w v' hb h => (HOk.out.path w v' L (k : Int) (by omega) (by omega) h (by omega) H100.out (HT.out.below hb)).mono fun e w' ⟨a, c, he, _, hb2⟩ => ⟨a, c, by
      have h1 := pathA_yes Hrow.out hkn
      rw [h1.1, h1.2, List.length_reverse, pathT_length nd e0 _ L k (Nat.le_refl _)] at he
      exact he, hb2⟩)
    have hDle : deep k L.length ≤ L.length := by rw [← pathT_length nd e0 _ L k (Nat.le_refl _)]; exact pathT_le nd e0 _ L k (Nat.le_refl _)
    obtain ⟨D, hD⟩ : ∃ D, deep k L.length = D := ⟨_, rfl⟩
    rw [hD] at HPa hDle
    have HD := Lib.hid hD
    have HS1 := Lib.hid hs1
    clear hD hs1 H100 Hrow
    go_wp2_with (go_at_call 13; refine (HAl.out _ hB).mono ?_; rintro e w4 ⟨rfl, hb4⟩; have hB4 := below_on hB hb4)
    go_loop [11, 12, 13] (fun dv iv kv => ∃ d j q : Nat, dv = .int .i64 d ∧ iv = .int .i64 j ∧ kv = .int .i64 q ∧ j < q ∧ q ≤ 50 ∧ d ≤ D ∧ Hid (d + deep j q = D)) (fun _ _ kv => (intOf kv).toNat)
    case atStart => exact ⟨0, k, L.length, rfl, rfl, rfl, hkn, h50, Nat.zero_le _, Lib.hid (by rw [Nat.zero_add]; exact HD.out)⟩
    case round =>
      obtain ⟨d, j, q, rfl, rfl, rfl, hjq, hq50, hdD, HJ⟩ := hrel
      by_cases hq : 1 < q
      · have hs2 := spl_lt (n := q) (by omega)
        have hs3 := spl_pos q
        have hJ := deep_two (n := q) (by omega) j
        have HL0 := fun w => refSplit_any q w (by omega) (by omega)
        obtain ⟨s, hs⟩ : ∃ s, spl q = s := ⟨_, rfl⟩
        rw [hs] at hs2 hs3 hJ HL0
        have HL := Lib.hid HL0
        by_cases hjs : j < s
        · have HJ2 : Hid (d + 1 + deep j s = D) := Lib.hid (by have := HJ.out; rw [hJ, if_pos hjs] at this; omega)
          have hd2 : d + 1 ≤ D := by have := HJ2.out; omega
          clear hJ HL0 hs HJ
          go_wp2_with (go_at_call 28; refine (HL.out _).mono ?_; rintro e w5 ⟨rfl, rfl⟩)
          go_round
          case rel => exact ⟨d + 1, j, s, by go_num, by go_num, by go_num, hjs, by omega, hd2, HJ2⟩
          case measure => simp [intOf]; omega
        · have HJ2 : Hid (d + 1 + deep (j - s) (q - s) = D) := Lib.hid (by have := HJ.out; rw [hJ, if_neg hjs] at this; omega)
          have hd2 : d + 1 ≤ D := by have := HJ2.out; omega
          clear hJ HL0 hs HJ
          go_wp2_with (go_at_call 28; refine (HL.out _).mono ?_; rintro e w5 ⟨rfl, rfl⟩)
          go_round
          case rel => exact ⟨d + 1, j - s, q - s, by go_num, by go_num, by go_num, by omega, by omega, hd2, HJ2⟩
          case measure => simp [intOf]; omega
      · obtain rfl : q = 1 := by omega
        obtain rfl : d = D := by have := HJ.out; rw [deep_one (Nat.le_refl 1)] at this; omega
        go_wp2_with (go_at_call 10; refine (HPa.out _ _ hB4 (HS1.out.below hb4)).mono ?_; rintro e w6 ⟨a6, c6, rfl, hb6⟩)
        go_ret
        exact ⟨rfl, below_on hB4 hb6⟩
end Go.Proofs.YtpcckanhmdlahaaDoor.Q
