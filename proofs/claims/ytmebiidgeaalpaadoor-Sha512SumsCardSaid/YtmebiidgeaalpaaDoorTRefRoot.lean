/- The contract of the reference's root: a root's first bits, digit by digit. -/
import Derived.Test.YtmebiidgeaalpaaDoorTRefTimes
import Derived.Test.YtmebiidgeaalpaaDoorTRefRot
namespace Go.Proofs.YtmebiidgeaalpaaDoor.T
open Go.RowKit

theorem Digs.far {w : World} {g : Nat} {l : List Nat} (h : Digs w g l) {p : Addr} (hp : p.block ≠ g) (v : Value) : Digs (w.setCell p v) g l := fun i hi => by
  rw [World.cell?_setCell_other w p ⟨g, i, none⟩ v (fun e => hp (by rw [e]))]
  exact h i hi
theorem Digs.lt {w : World} {g : Nat} {l : List Nat} (h : Digs w g l) (h0 : 0 < l.length) : g < w.heap.size := World.block_lt_of_cell? w ⟨g, 0, none⟩ (h 0 h0)
theorem plus64 (x t : Nat) : IntKind.u64.wrap ((x : Int) + (t : Int)) = (((x + t) % 18446744073709551616 : Nat) : Int) := by
  rw [IntKind.wrap_u64]
  omega
theorem minus64 (x t : Nat) (ht : t ≤ 18446744073709551616) : IntKind.u64.wrap ((x : Int) - (t : Int)) = (((x + 18446744073709551616 - t) % 18446744073709551616 : Nat) : Int) := by
  rw [IntKind.wrap_u64]
  omega
theorem val_step (v x : Nat) : IntKind.u64.wrap (IntKind.u64.wrap ((v : Int) * 65536) + (x : Int)) = (((v * 65536 + x) % 18446744073709551616 : Nat) : Int) := by
  rw [IntKind.wrap_u64, IntKind.wrap_u64]
  omega

set_option maxRecDepth 100000 in
set_option maxHeartbeats 1600000 in
theorem root_any (p d : Nat) (W : World) (hd1 : 2 ≤ d) (hd2 : d ≤ 3) :
    Calls Tryd.prog 28 #[.int .u64 (p : Int), .int .i64 (d : Int)] W fun e W' => e = .returned (.int .u64 (rootL p d : Int)) ∧ Below W.heap.size W W' := by
  obtain ⟨i0, hi, hz0, hz1, hz2⟩ := info_parts info27
  have HW0 : Hid ((List.replicate (4 * d + 1) 0).set (4 * d) p = wholeL 4 p d) := Lib.hid rfl
  have hwl := whole_length 4 p d
  obtain ⟨m2, hm2⟩ : ∃ m2, 4 * d = m2 := ⟨_, rfl⟩
  have ed : (4 : Int) * (d : Int) = (m2 : Int) := by omega
  rw [hm2] at HW0 hwl
  go_enter Tryd.func28, Tryd.ntmps28
  go_wp2_with (at_make; refine wpList_make_full _ rfl _ _ 31 rfl W.heap.size 25 i0 (.int .u64 0) 1 Tryd.underlying31 hi hz0 hz1 _ _ _ _ (m2 + 1) rfl rfl ?e1 ?e2 ?b2 ?b3 (Nat.le_refl _) ?_)
  case e1 => omega
  case e2 => omega
  case b2 => rw [hz2]; omega
  case b3 => unfold maxLen; omega
  intro w1 hown hgrow
  have hb1 : Below W.heap.size W w1 := (Below.refl _ _).grown hgrow (Nat.le_refl _) (fun k hk => by cases hk)
  rw [made_zeros] at hown
  clear hgrow
  have hc := own_dig hown m2 (by simp)
  have hf := hown.frozenAt m2
  generalize (List.replicate (m2 + 1) 0).getD m2 0 = z0 at hc
  go_upto_region 3 with fail
  have hown2 := own_putv hown m2 p (.int .u64 (p : Int)) rfl
  rw [HW0.out] at hown2
  have hb2 := hb1.setCell (p := ⟨W.heap.size, m2, none⟩) (Nat.le_refl _) (.int .u64 (p : Int))
  generalize World.setCell w1 _ _ = w2 at *
  clear hown hb1 hc hf
  go_wp2_with (at_make; refine wpList_make_full _ rfl _ _ 31 rfl w2.heap.size 25 i0 (.int .u64 0) 1 Tryd.underlying31 hi hz0 hz1 _ _ _ _ 5 rfl rfl rfl rfl ?b2 ?b3 (Nat.le_refl _) ?_)
  case b2 => rw [hz2]; omega
  case b3 => unfold maxLen; omega
  intro w3 hown3 hgrow3
  have hbb : Below w2.heap.size w2 w3 := (Below.refl _ _).grown hgrow3 (Nat.le_refl _) (fun k hk => by cases hk)
  rw [made_zeros] at hown3
  have hDW := (own_dig hown2).on hbb
  have hgw := (own_dig hown2).lt (by omega)
  have hB3 := below_on hb2 hbb
  have hB2 := hb2.size
  clear hgrow3 hbb hown2 hb2
  generalize w2.heap.size = gr at *
  have HWl := Lib.hid hwl
  generalize HWh : wholeL 4 p d = Wh at *
  have HWH := Lib.hid HWh
  clear HWh hwl
  go_wp2_with fail
  go_loopw [7] (fun ax wr => ∃ n : Nat, n ≤ 69 ∧ ax = .int .i64 (68 - (n : Int)) ∧ Digs wr W.heap.size Wh ∧ wr.ownsRow gr 25 1 (.slice (some ⟨gr, 0, none⟩) 5 5) 5 ((digitsL 4 p d n).map w64) ∧ Below W.heap.size W wr) (fun ax _ => (intOf ax + 1).toNat)
  case atStart => exact ⟨0, by omega, rfl, hDW, hown3, hB3⟩
  case round =>
    clear hDW hown3 hB3
    obtain ⟨n, hn, rfl, hDW, ho, hB⟩ := hrel
    have hr3 := digits_length 4 p d n
    by_cases hlt : n < 69
    · obtain ⟨m, hm⟩ : ∃ m : Nat, 68 - n = m := ⟨_, rfl⟩
      have em : 68 - (n : Int) = (m : Int) := by omega
      have HS : Hid (digitsL 4 p d (n + 1) = stepL 4 p d (digitsL 4 p d n) m) := Lib.hid (by rw [← hm]; rfl)
      rw [em]
      generalize digitsL 4 p d n = r at *
      go_wp2_with fail
      go_loopw [8, 9] (fun bx ix wv => ∃ j : Nat, j ≤ m % 16 ∧ ix = .int .i64 j ∧ bx = .int .u64 ((2 ^ j : Nat) : Int) ∧ wv = wr) (fun _ ix _ => m % 16 - (intOf ix).toNat)
      case atStart => exact ⟨0, Nat.zero_le _, rfl, rfl, rfl⟩
      case round =>
        obtain ⟨j, hj, rfl, rfl, rfl⟩ := hrel
        have hT : 2 ^ j ≤ 2 ^ 15 := Nat.pow_le_pow_right (n := 2) (by decide) (by omega)
        by_cases hlj : j < m % 16
        · have HP := Lib.hid (Nat.pow_succ 2 j)
          generalize 2 ^ j = T at *
          have hcd : (j : Int) < (m : Int) % 16 := by omega
          go_wp2_with fail
          go_roundw
          case rel => exact ⟨j + 1, by omega, by go_num, val_int (by rw [HP.out]; omega), trivial⟩
          case measure => simp [intOf]; omega
        · obtain rfl : j = m % 16 := by omega
          have hcd : ¬ ((m % 16 : Nat) : Int) < (m : Int) % 16 := by omega
          obtain ⟨i, hi16⟩ : ∃ i, m / 16 = i := ⟨_, rfl⟩
          have ei : (m : Int) / 16 = (i : Int) := by omega
          have hi3 : i < 5 := by omega
          have HT : Hid (triedL r m = r.set i ((r.getD i 0 + 2 ^ (m % 16)) % 18446744073709551616)) := Lib.hid (by rw [← hi16]; rfl)
          have HU : Hid (stepL 4 p d r m = if aboveL (powL (triedL r m) (d - 1)) Wh (5 * (d - 1 + 1) + (m2 + 1)) = true then (triedL r m).set i (((triedL r m).getD i 0 + 18446744073709551616 - 2 ^ (m % 16)) % 18446744073709551616) else triedL r m) := Lib.hid (by rw [← hi16, ← HWH.out, ← hm2]; rfl)
          have h1l := (tried_length r m).trans hr3
          have hX := own_dig ho i (by omega)
          have hF := ho.frozenAt i
          generalize 2 ^ (m % 16) = T at *
          generalize m % 16 = m16 at *
          generalize r.getD i 0 = X at hX HT
          generalize triedL r m = r1 at *
          have hb3 : (i : Int) < 5 := by omega
          go_upto_region 13 with fail
          generalize hW4 : World.setCell wr _ _ = w4
          have ho4 : w4.ownsRow gr 25 1 (.slice (some ⟨gr, 0, none⟩) 5 5) 5 (r1.map w64) := by rw [← hW4, HT.out]; exact own_putv ho i _ _ (val_int (plus64 X T))
          have hD4 : Digs w4 W.heap.size Wh := by rw [← hW4]; exact hDW.far (by simp only; omega) _
          have hB4 : Below W.heap.size W w4 := by rw [← hW4]; exact hB.setCell (p := ⟨gr, i, none⟩) hB2 _
          clear hW4 hX hF ho hDW hB
          go_wp2_with fail
          go_loopw [10, 11] (fun qx ix wv => ∃ e g c : Nat, e + 1 ≤ d ∧ ix = .int .i64 ((e + 1 : Nat) : Int) ∧ qx = .slice (some ⟨g, 0, none⟩) (5 * (e + 1)) c ∧ Digs wv g (powL r1 e) ∧ Digs wv W.heap.size Wh ∧ wv.ownsRow gr 25 1 (.slice (some ⟨gr, 0, none⟩) 5 5) 5 (r1.map w64) ∧ Below W.heap.size W wv) (fun _ ix _ => d - (intOf ix).toNat)
          case atStart => exact ⟨0, gr, 5, by omega, rfl, rfl, own_dig ho4, hD4, ho4, hB4⟩
          case round =>
            clear ho4 hD4 hB4
            obtain ⟨e, g, c, he, rfl, rfl, hq, hDW, ho, hB⟩ := hrel
            have hql : (powL r1 e).length = 5 * (e + 1) := by rw [pow_length, h1l]
            have hBs := hB.size
            by_cases hle : e + 1 < d
            · have hC := times_any (powL r1 e) r1 g gr c 5 wr hq (own_dig ho) (by omega) (by omega)
              rw [hql, h1l] at hC
              have HC := Lib.hid hC
              clear hC
              have HQ : Hid (powL r1 (e + 1) = timesL (powL r1 e) r1) := Lib.hid rfl
              go_wp2_with (go_at_call 35; refine HC.out.mono ?_; rintro x w5 ⟨g5, c5, rfl, hg5, hD5, hb5⟩)
              go_roundw
              case rel => exact ⟨e + 1, g5, c5, by omega, by go_num, rfl, by rw [HQ.out]; exact hD5, hDW.on hb5, own_on ho hb5, below_on hB hb5⟩
              case measure => simp [intOf]; omega
            · have hde : d - 1 = e := by omega
              have hC := above_any (powL r1 e) Wh g W.heap.size c (m2 + 1) wr hq hDW (by omega) (by rw [HWl.out]; omega)
              rw [hql, HWl.out] at hC
              rw [hde] at HU
              obtain ⟨A, hA⟩ : ∃ A, aboveL (powL r1 e) Wh (5 * (e + 1) + (m2 + 1)) = A := ⟨_, rfl⟩
              rw [hA] at hC HU
              have HC := Lib.hid hC
              clear hC hA
              have hX := own_dig ho i (by omega)
              have hF := ho.frozenAt i
              generalize r1.getD i 0 = X1 at hX HU
              cases A with
              | true =>
                rw [if_pos rfl] at HU
                go_wp2_with (go_at_call 36; refine HC.out.mono ?_; rintro x w5 ⟨rfl, rfl⟩)
                go_roundw
                case rel => exact ⟨n + 1, by omega, val_int (by omega), hDW.far (by simp only; omega) _, by rw [HS.out, HU.out]; exact own_putv ho i _ _ (val_int (minus64 X1 T (by omega))), hB.setCell (p := ⟨gr, i, none⟩) hB2 _⟩
                case measure => simp [intOf]
              | false =>
                rw [if_neg (by decide)] at HU
                go_wp2_with (go_at_call 36; refine HC.out.mono ?_; rintro x w5 ⟨rfl, rfl⟩)
                go_roundw
                case rel => exact ⟨n + 1, by omega, val_int (by omega), hDW, by rw [HS.out, HU.out]; exact ho, hB⟩
                case measure => simp [intOf]
    · obtain rfl : n = 69 := by omega
      have HR : Hid (rootL p d = valL (digitsL 4 p d 69) 4) := Lib.hid rfl
      generalize digitsL 4 p d 69 = r at *
      go_wp2_with fail
      go_loopw [12, 13] (fun nx ix wv => ∃ j : Nat, j ≤ 4 ∧ ix = .int .i64 (3 - (j : Int)) ∧ nx = .int .u64 (valL r j : Int) ∧ wv = wr) (fun _ ix _ => (intOf ix + 1).toNat)
      case atStart => exact ⟨0, by omega, rfl, rfl, rfl⟩
      case round =>
        obtain ⟨j, hj, rfl, rfl, rfl⟩ := hrel
        by_cases hlj : j < 4
        · obtain ⟨k, hk⟩ : ∃ k, 3 - j = k := ⟨_, rfl⟩
          have ek : 3 - (j : Int) = (k : Int) := by omega
          have HV : Hid (valL r (j + 1) = (valL r j * 65536 + r.getD k 0) % 18446744073709551616) := Lib.hid (by rw [← hk]; rfl)
          have hX := own_dig ho k (by omega)
          have hk3 : (k : Int) < 5 := by omega
          have hvl := val_lt r j
          rw [ek]
          generalize r.getD k 0 = X at hX HV
          generalize valL r j = V at *
          go_wp2_with fail
          go_roundw
          case rel => exact ⟨j + 1, by omega, val_int (by omega), val_int (by rw [HV.out]; exact val_step V X), trivial⟩
          case measure => simp [intOf]
        · obtain rfl : j = 4 := by omega
          go_wp2_with fail
          go_ret
          exact ⟨ret1_of (val_int (by rw [HR.out])), hB⟩
end Go.Proofs.YtmebiidgeaalpaaDoor.T
