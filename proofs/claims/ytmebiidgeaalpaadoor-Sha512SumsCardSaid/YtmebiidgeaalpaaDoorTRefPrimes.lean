/- The contract of the reference's primes. -/
import Derived.Test.YtmebiidgeaalpaaDoorTRefTimes
import Derived.Test.YtmebiidgeaalpaaDoorTRootVals
namespace Go.Proofs.YtmebiidgeaalpaaDoor.T
open Go.RowKit

theorem val_bool2 {a b : Bool} (h : a = b) : Value.bool a = Value.bool b := by rw [h]

set_option maxRecDepth 100000 in
set_option maxHeartbeats 1600000 in
theorem primes_any (many T : Nat) (W : World) (h1 : (sieveL (T + 1)).length = many) (h2 : (sieveL T).length < many) (hT : T ≤ 1000) :
    Calls Tryd.prog 27 #[.int .i64 (many : Int)] W fun e W' => ∃ g cap, e = .returned (.slice (some ⟨g, 0, none⟩) many cap) ∧ W'.ownsRow W.heap.size 25 1 (.slice (some ⟨g, 0, none⟩) many cap) many ((sieveL (T + 1)).map w64) ∧ Below W.heap.size W W' := by
  obtain ⟨i0, hi, hz0, hz1, hz2⟩ := info_parts info27
  go_enter Tryd.func27, Tryd.ntmps27
  go_wp2_with fail
  go_loopw [3, 4] (fun ox nx wr => ∃ t g cap : Nat, t ≤ T + 1 ∧ nx = .int .u64 ((2 + t : Nat) : Int) ∧ ox = .slice (some ⟨g, 0, none⟩) (sieveL t).length cap ∧ wr.ownsRow W.heap.size 25 1 (.slice (some ⟨g, 0, none⟩) (sieveL t).length cap) (sieveL t).length ((sieveL t).map w64) ∧ Below W.heap.size W wr) (fun _ nx _ => T + 3 - (intOf nx).toNat)
  case atStart => exact ⟨0, _, _, by omega, rfl, rfl, own_empty (Lies.new W _ _) (Nat.le_refl _), (Below.refl _ _).alloc (Nat.le_refl _) _⟩
  case round =>
    obtain ⟨t, g, cap, ht, rfl, rfl, ho, hB⟩ := hrel
    have hl := sieve_length t
    by_cases hlt : (sieveL t).length < many
    · have htT : t ≤ T := by
        rcases Nat.lt_or_ge T t with h | h
        · obtain rfl : t = T + 1 := by omega
          omega
        · exact h
      have hin := sieve_in t
      have HS : Hid (sieveL (t + 1) = if (sieveL t).all (fun p => decide ((2 + t) % p ≠ 0)) = true then sieveL t ++ [2 + t] else sieveL t) := Lib.hid rfl
      obtain ⟨N, hN⟩ : ∃ N, 2 + t = N := ⟨_, rfl⟩
      rw [hN] at HS
      have eN : ((2 + t : Nat) : Int) = (N : Int) := by rw [hN]
      rw [eN]
      have hN2 : N ≤ 1002 := by omega
      generalize hso : sieveL t = o at *
      clear hso eN
      obtain ⟨wq, hwq⟩ : ∃ wq, wq = wr := ⟨_, rfl⟩
      subst hwq
      go_wp2_with fail
      go_loopw [5, 17] (fun fx ix wv => ∃ k : Nat, k ≤ o.length ∧ ix = .int .i64 k ∧ fx = .bool ((o.take k).all fun p => decide (N % p ≠ 0)) ∧ wv = wq) (fun _ ix _ => o.length - (intOf ix).toNat)
      case atStart => exact ⟨0, Nat.zero_le _, rfl, rfl, rfl⟩
      case round =>
        obtain ⟨k, hk, rfl, rfl, rfl⟩ := hrel
        by_cases hlk : k < o.length
        · have hX := own_dig ho k hlk
          have hP := (hin _ (getD_mem o k hlk)).1
          have HA := Lib.hid (all_next o (fun p => decide (N % p ≠ 0)) k hlk)
          generalize o.getD k 0 = P at hX hP HA
          generalize (o.take k).all (fun p => decide (N % p ≠ 0)) = F at *
          have hP0 : ¬ (P : Int) = 0 := by omega
          have eR : (N : Int) % (P : Int) = ((N % P : Nat) : Int) := rfl
          have eR2 : Int.tmod (N : Int) (P : Int) = ((N % P : Nat) : Int) := rfl
          obtain ⟨R, hR⟩ : ∃ R, N % P = R := ⟨_, rfl⟩
          rw [hR] at eR eR2
          have HR := Lib.hid hR
          clear hR
          by_cases hz : R = 0
          · subst hz
            go_wp2_with fail
            go_roundw
            case rel => exact ⟨k + 1, by omega, by go_num, val_bool2 (by rw [HA.out, HR.out]; simp), trivial⟩
            case measure => simp [intOf]; omega
          · have hzi : ¬ (R : Int) = 0 := by omega
            go_wp2_with fail
            go_roundw
            case rel => exact ⟨k + 1, by omega, by go_num, val_bool2 (by rw [HA.out, HR.out]; simp [hz]), trivial⟩
            case measure => simp [intOf]; omega
        · obtain rfl : k = o.length := by omega
          rw [List.take_length] at *
          have hsz := hB.size
          obtain ⟨F, hF⟩ : ∃ F, o.all (fun p => decide (N % p ≠ 0)) = F := ⟨_, rfl⟩
          rw [hF] at HS ⊢
          clear hF
          cases F with
          | true =>
            go_wp2_with ((with_reducible refine wpL_append W.heap.size 25 i0 (.int .u64 0) 8 Tryd.underlying31 hi hz0 hz1 hz2 rfl _ o.length _ (ho.alloc _) _ (.int .u64 (N : Int)) (Lies.new _ _ _) rfl (by unfold maxLen; omega) (by omega) (by simp; omega) ?_ ?_ ?_); rfl; rfl; intro g6 cap6 w6 ho6 hgrow6)
            rw [if_pos rfl] at HS
            go_roundw
            case rel => exact ⟨t + 1, g6, cap6, by omega, val_int (by omega), by rw [HS.out, List.length_append]; rfl, by rw [HS.out, List.length_append, List.map_append]; exact ho6, (hB.alloc hsz _).grown hgrow6 (by simp; omega) (fun j hj => (ho.lt j hj).1)⟩
            case measure => simp [intOf]; omega
          | false =>
            rw [if_neg (by decide)] at HS
            go_wp2_with fail
            go_roundw
            case rel => exact ⟨t + 1, g, cap, by omega, val_int (by omega), by rw [HS.out], by rw [HS.out]; exact ho, hB⟩
            case measure => simp [intOf]; omega
    · obtain rfl : t = T + 1 := by
        rcases Nat.lt_or_ge t (T + 1) with h | h
        · have := sieve_mono t (T - t)
          rw [show t + (T - t) = T by omega] at this
          omega
        · omega
      rw [h1] at *
      go_wp2_with fail
      go_ret
      exact ⟨g, cap, rfl, ho, hB⟩
end Go.Proofs.YtmebiidgeaalpaaDoor.T
