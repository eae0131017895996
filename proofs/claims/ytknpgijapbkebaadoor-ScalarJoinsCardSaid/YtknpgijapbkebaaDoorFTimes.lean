/- The contract of the reference's Times. -/
import Derived.Test.YtknpgijapbkebaaDoorFPlus
namespace Go.Proofs.YtknpgijapbkebaaDoor.F
set_option maxRecDepth 100000
open Go.RowKit

set_option maxRecDepth 100000 in
set_option maxHeartbeats 1600000 in
theorem times_any (a b : List Nat) (ga oa ca gb ob cb : Nat) (W : World) (ha : Dig W ga oa a) (hb : Dig W gb ob b) (hla : a.length ≤ 400) (hlb : b.length ≤ 400) (da : Dg a) (db : Dg b) :
    Calls Tryd.prog 27 #[.slice (some ⟨ga, oa, none⟩) a.length ca, .slice (some ⟨gb, ob, none⟩) b.length cb] W fun e W' => ∃ r g' cap', e = .returned (.slice (some ⟨g', 0, none⟩) r.length cap') ∧ r.length ≤ cap' ∧ r.length ≤ a.length + b.length + 4 ∧ Dig W' g' 0 r ∧ Dg r ∧ Tr r ∧ val r = val a * val b ∧ Below W.heap.size W W' := by
  obtain ⟨i0, hi, hz0, hz1, hz2⟩ := info_parts info3
  obtain ⟨N, hN⟩ : ∃ N, a.length + b.length = N := ⟨_, rfl⟩
  have hNi : (a.length : Int) + (b.length : Int) = (N : Int) := by omega
  have HA := Lib.hid da
  have HBd := Lib.hid db
  clear da db
  go_enter Tryd.func27, Tryd.ntmps27
  go_wp2_with (at_make; refine wpList_make_full _ rfl _ _ 41 rfl W.heap.size 3 i0 (.int .i64 0) 1 Tryd.underlying41 hi hz0 hz1 _ _ _ _ N rfl rfl ?e1 ?e2 ?b2 ?b3 (Nat.le_refl _) ?_)
  case e1 => omega
  case e2 => omega
  case b2 => rw [hz2]; omega
  case b3 => unfold maxLen; omega
  intro w1 hown hgrow
  have hb1 : Below W.heap.size W w1 := (Below.refl _ _).grown hgrow (Nat.le_refl _) (fun k hk => by cases hk)
  rw [made_zeros] at hown
  clear hgrow
  go_wp2_with fail
  go_loopw [16] (fun ix wr => ∃ i : Nat, i ≤ a.length ∧ ix = .int .i64 i ∧ wr.ownsRow W.heap.size 3 1 (.slice (some ⟨W.heap.size, 0, none⟩) N N) N ((outS a b i).map i64) ∧ Below W.heap.size W wr) (fun ix _ => a.length - (intOf ix).toNat)
  case atStart => exact ⟨0, Nat.zero_le _, rfl, by rw [outS, hN]; exact hown, hb1⟩
  case round =>
    clear hown hb1
    obtain ⟨i, hi1, rfl, ho, hB⟩ := hrel
    by_cases hlt : i < a.length
    · go_wp2_with fail
      go_loopw [21] (fun kx wv => ∃ k : Nat, k ≤ b.length ∧ kx = .int .i64 k ∧ wv.ownsRow W.heap.size 3 1 (.slice (some ⟨W.heap.size, 0, none⟩) N N) N ((innS a b i (outS a b i) k).map i64) ∧ Below W.heap.size W wv) (fun kx _ => b.length - (intOf kx).toNat)
      case atStart => exact ⟨0, Nat.zero_le _, rfl, ho, hB⟩
      case round =>
        clear ho hB
        obtain ⟨k, hk1, rfl, ho, hB⟩ := hrel
        by_cases hltk : k < b.length
        · obtain ⟨m, hm⟩ : ∃ m, i + k = m := ⟨_, rfl⟩
          have hmN : m < N := by omega
          have hF := ho.frozenAt m
          have hO := own_at ho m hmN
          have hO2 := innS_bd HA.out HBd.out i k hi1 hk1 hlt m
          have HO := Lib.hid ho
          have HS : Hid (innS a b i (outS a b i) (k + 1) = (innS a b i (outS a b i) k).set (i + k) ((innS a b i (outS a b i) k).getD (i + k) 0 + a.getD i 0 * b.getD k 0)) := Lib.hid rfl
          rw [hm] at HS
          have hX := (ha.on hB) i hlt
          have hX2 := HA.out.at i
          have hY := (hb.on hB) k hltk
          have hY2 := HBd.out.at k
          have hP2 := Nat.le_trans (Nat.mul_le_mul (show a.getD i 0 ≤ 65535 by omega) (show b.getD k 0 ≤ 65535 by omega)) (show 65535 * 65535 ≤ 4294836225 by decide)
          clear ho
          have e1 : IntKind.i64.wrap ((i : Int) + (k : Int)) = (m : Int) := by rw [IntWalk.i64_in _ (by omega)]; omega
          have hcast : (i : Int) + (k : Int) = (m : Int) := by omega
          have b1 : (m : Int) < (N : Int) := by omega
          generalize (innS a b i (outS a b i) k).getD m 0 = O at hO hO2 HS
          generalize a.getD i 0 = X at hX hX2 HS hP2
          generalize b.getD k 0 = Y at hY hY2 HS hP2
          obtain ⟨M, hM⟩ : ∃ M, X * Y = M := ⟨_, rfl⟩
          have eM : (X : Int) * (Y : Int) = (M : Int) := by rw [← hM]; omega
          rw [hM] at HS hP2
          clear hM
          have hO3 : O ≤ 1152921504606846976 := by omega
          have eM2 : IntKind.i64.wrap (M : Int) = (M : Int) := by rw [IntWalk.i64_in _ (by omega)]
          have hsum := i64_sum O M hO3 (by omega)
          obtain ⟨T, hT⟩ : ∃ T, O + M = T := ⟨_, rfl⟩
          rw [hT] at HS hsum
          have hcast2 : (O : Int) + (M : Int) = (T : Int) := by omega
          clear hO2 hX2 hY2
          go_wp2_with fail
          go_region
          all_goals
            go_wp2_with fail
            go_roundw
            case rel => exact ⟨k + 1, by omega, by go_num, by rw [HS.out]; exact own_putv HO.out m _ _ rfl, (below_put hB (Nat.le_refl _) _ _).drew⟩
            case measure => simp [intOf]; omega
        · obtain rfl : k = b.length := by omega
          go_wp2_with fail
          go_roundw
          case rel => exact ⟨i + 1, by omega, by go_num, ho, hB⟩
          case measure => simp [intOf]; omega
    · obtain rfl : i = a.length := by omega
      have hD := own_dig ho
      have hlen := outS_length a b a.length
      rw [hN] at hlen
      have HT := Lib.hid (carry_any (outS a b a.length) 1717934490000 W.heap.size 0 N wr hD (by omega) (bd_of fun j => Nat.le_trans (outS_bd HA.out HBd.out a.length (Nat.le_refl _) j) (by omega)) (by decide))
      rw [hlen] at HT
      have HVal : Hid (val (outS a b a.length) = val a * val b) := Lib.hid (by rw [outS_val _ _ _ (Nat.le_refl _), List.take_of_length_le (Nat.le_refl _)])
      clear ho hD
      go_wp2_with (go_at_call 36; refine HT.out.mono ?_; rintro e w2 ⟨r, g2, cap2, rfl, hr1, hr2, hr3, hr4, hr5, hr6, hb2⟩)
      go_ret
      exact ⟨r, g2, cap2, rfl, hr1, by omega, hr3, hr4, hr5, hr6.trans HVal.out, below_on hB hb2⟩
end Go.Proofs.YtknpgijapbkebaaDoor.F
