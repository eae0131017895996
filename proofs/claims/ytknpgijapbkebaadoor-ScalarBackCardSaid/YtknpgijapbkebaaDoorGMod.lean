/- The contract of the reference's Mod: what digits leave, divided by others. -/
import Derived.Test.YtknpgijapbkebaaDoorFTimes
import Derived.Test.YtknpgijapbkebaaDoorFReck
import Derived.Test.YtknpgijapbkebaaDoorFWords
namespace Go.Proofs.YtknpgijapbkebaaDoor.F
open Go.RowKit

theorem bit_next (j : Nat) : 32768 / 2 ^ j / 2 = 32768 / 2 ^ (j + 1) := by rw [Nat.div_div_eq_div_mul, Nat.pow_succ]
/-- the digit one that was just laid -/
theorem one_dig (w : World) : Dig (w.alloc (.cells #[Value.int .i64 1] 3)) w.heap.size 0 [1] := fun i hi => by
  obtain rfl : i = 0 := by simpa using hi
  exact (Lies.new w 3 #[Value.int .i64 1]).cell 0
/-- the bits of a digit, the highest first -/
theorem bits_next (a j : Nat) (hj : j < 16) : a / 2 ^ (16 - (j + 1)) = 2 * (a / 2 ^ (16 - j)) + a / (32768 / 2 ^ j) % 2 := by
  have e1 : 32768 / 2 ^ j = 2 ^ (15 - j) := by
    rw [show (32768 : Nat) = 2 ^ 15 by decide, Nat.pow_div (by omega) (by decide)]
  have e2 : (2 : Nat) ^ (16 - j) = 2 ^ (15 - j) * 2 := by rw [← Nat.pow_succ]; congr 1; omega
  rw [e1, e2, ← Nat.div_div_eq_div_mul, show 16 - (j + 1) = 15 - j by omega]
  omega
theorem bit_pos (j : Nat) (hj : j < 16) : 0 < 32768 / 2 ^ j := by
  rw [show (32768 : Nat) = 2 ^ 15 by decide, Nat.pow_div (by omega) (by decide)]
  exact Nat.pow_pos (by decide)
theorem cell_on {w w' : World} {a : Addr} {v : Value} (h : w.cell? a = some v) (hb : Below w.heap.size w w') : w'.cell? a = some v := (hb.cell (World.block_lt_of_cell? w _ h)).trans h
/-- one bit more -/
theorem mod_step {M r V t : Nat} (b : Nat) (h : r = (V + t) % M) : (2 * r + b) % M = (2 * V + 2 * t + b) % M := by
  rw [h, show 2 * V + 2 * t + b = 2 * (V + t) + b by omega, Nat.add_mod, Nat.mul_mod, Nat.mod_mod, ← Nat.mul_mod, ← Nat.add_mod]

set_option maxRecDepth 100000 in
set_option maxHeartbeats 1600000 in
theorem mod_any (a m : List Nat) (ga oa ca gm om cm : Nat) (W : World) (ha : Dig W ga oa a) (hm : Dig W gm om m) (hla : a.length ≤ 100) (hlm : m.length ≤ 100) (da : Dg a) (dm : Dg m) (tm : Tr m) (hpos : 0 < val m) :
    Calls Tryd.prog 33 #[.slice (some ⟨ga, oa, none⟩) a.length ca, .slice (some ⟨gm, om, none⟩) m.length cm] W fun e W' => ∃ r g' cap', e = .returned (.slice (some ⟨g', 0, none⟩) r.length cap') ∧ r.length ≤ m.length ∧ Dig W' g' 0 r ∧ Dg r ∧ val r = val a % val m ∧ Below W.heap.size W W' := by
  have HDa := Lib.hid da
  have HDm := Lib.hid dm
  have HTm := Lib.hid tm
  have HPos := Lib.hid hpos
  have HA := Lib.hid ha
  have HM := Lib.hid hm
  clear da dm tm hpos ha hm
  go_enter Tryd.func33, Tryd.ntmps33
  go_wp2_with fail
  go_loopw [5, 6] (fun rx ix wr => ∃ (n : Nat) (r : List Nat) (g cap : Nat), n ≤ a.length ∧ ix = .int .i64 ((n : Int) - 1) ∧ rx = .slice (some ⟨g, 0, none⟩) r.length cap ∧ r.length ≤ m.length ∧ Dig wr g 0 r ∧ Dg r ∧ Tr r ∧ Hid (val r = val (a.drop n) % val m) ∧ Below W.heap.size W wr) (fun _ ix _ => (intOf ix + 1).toNat)
  case atStart => exact ⟨a.length, [], _, _, Nat.le_refl _, val_int (by omega), rfl, by simp, (fun i hi => by simp at hi), (fun d hd => by cases hd), (fun n hn => by simp at hn), Lib.hid (by rw [List.drop_of_length_le (Nat.le_refl _)]; simp [val]), (Below.refl _ _).alloc (Nat.le_refl _) _⟩
  case round =>
    obtain ⟨n, r, g, cap, hn, rfl, rfl, hl, hr, dr, tr, HV, hB⟩ := hrel
    cases n with
    | zero =>
      go_wp2_with fail
      go_ret
      exact ⟨r, g, cap, rfl, hl, hr, dr, HV.out, hB⟩
    | succ n =>
      have em : ((n + 1 : Nat) : Int) - 1 = (n : Int) := by omega
      rw [em]
      have hA2 := HDa.out.at n
      have HX : Hid (val (a.drop n) = a.getD n 0 + 65536 * val (a.drop (n + 1))) := Lib.hid (by
        rw [List.drop_eq_getElem_cons (show n < a.length by omega), val, List.getD_eq_getElem?_getD, List.getElem?_eq_getElem (show n < a.length by omega)]
        rfl)
      go_wp2_with fail
      go_loopw [5, 7] (fun rx bx wv => ∃ (j : Nat) (r : List Nat) (g cap : Nat), j ≤ 16 ∧ bx = i64 (32768 / 2 ^ j) ∧ rx = .slice (some ⟨g, 0, none⟩) r.length cap ∧ r.length ≤ m.length ∧ Dig wv g 0 r ∧ Dg r ∧ Tr r ∧ Hid (val r = (val (a.drop (n + 1)) * 2 ^ j + a.getD n 0 / 2 ^ (16 - j)) % val m) ∧ Below W.heap.size W wv) (fun _ bx _ => (intOf bx).toNat)
      case atStart => exact ⟨0, r, g, cap, by omega, rfl, rfl, hl, hr, dr, tr, Lib.hid (by rw [HV.out, Nat.pow_zero, Nat.mul_one, Nat.div_eq_of_lt hA2]; rfl), hB⟩
      case round =>
        clear hr dr tr hl HV hB
        obtain ⟨j, r, g, cap, hj, rfl, rfl, hl, hr, dr, tr, HV, hB⟩ := hrel
        by_cases hlt : j < 16
        · have hbp := bit_pos j hlt
          have hAn := (HA.out.on hB) n (by omega)
          have HN := Lib.hid (bit_next j)
          have HBt := Lib.hid (bits_next (a.getD n 0) j hlt)
          have hbb : 32768 / 2 ^ j ≤ 32768 := Nat.div_le_self _ _
          generalize a.getD n 0 = x at *
          generalize 32768 / 2 ^ j = bit at *
          obtain ⟨q, hq⟩ : ∃ q, x / bit = q := ⟨_, rfl⟩
          have hqi : (x : Int) / (bit : Int) = (q : Int) := by rw [← hq]; exact (Int.natCast_ediv x bit).symm
          have hqt : Int.tdiv (x : Int) (bit : Int) = (q : Int) := by rw [Int.tdiv_eq_ediv_of_nonneg (by omega), hqi]
          have hqle : q ≤ x := by rw [← hq]; exact Nat.div_le_self _ _
          have hbit0 : ¬ (bit : Int) = 0 := by omega
          have hbit1 : (0 : Int) < (bit : Int) := by omega
          rw [hq] at HBt
          clear hq
          have HP1 := Lib.hid (plus_any r r g 0 cap g 0 cap wr hr hr (by omega) (by omega) dr dr)
          by_cases hb : q % 2 = 1
          · have hbi : (q : Int) % 2 = 1 := by omega
            have hrm : val r < val m := by rw [HV.out]; exact Nat.mod_lt _ HPos.out
            by_cases hless : val r + val r + 1 < val m
            · go_wp2_with (first
                | (go_at_call 25; first
                  | (with_reducible refine HP1.out.mono ?_; rintro e v1 ⟨r1, g1, cap1, rfl, p1, p2, p3, p4, p5, p6, hb1⟩; replace hAn := cell_on hAn hb1; replace hB := below_on hB hb1; clear hb1)
                  | (refine (plus_any r1 [1] g1 0 cap1 v1.heap.size 0 1 _ (p3.on ((Below.refl _ v1).alloc (Nat.le_refl _) _)) (one_dig v1) (by omega) (by decide) p4 (by unfold Dg; simp)).mono ?_; rintro e v2 ⟨r2, g2, cap2, rfl, q1, q2, q3, q4, q5, q6, hb2⟩; replace q6 : val r2 = val r1 + 1 := q6; replace q2 : r2.length ≤ r1.length + 1 + 4 := q2; replace hB := below_on (hB.alloc hB.size _) hb2; clear hb2))
                | (go_at_call 41; have hd : decide (val r2 < val m) = true := decide_eq_true (by rw [q6, p6]; omega); have HL := less_any r2 m g2 0 cap2 gm om cm v2 q3 (HM.out.on hB) (by omega) q4 HDm.out q5 HTm.out; rw [hd] at HL; refine HL.mono ?_; rintro e v3 ⟨rfl, hb3⟩; have z3 := q3.on hb3; replace hB := below_on hB hb3; clear hb3))
              go_roundw
              case rel => exact ⟨j + 1, r2, g2, cap2, by omega, val_int (by rw [← HN.out]; omega), rfl, Nat.le_trans (shorter q5 HDm.out (by rw [q6, p6]; omega)) (Nat.le_refl _), z3, q4, q5, Lib.hid (by rw [HBt.out, hb, Nat.pow_succ, Nat.mul_comm (2 ^ j) 2, Nat.mul_left_comm, ← Nat.add_assoc, ← mod_step 1 HV.out]; rw [Nat.mod_eq_of_lt (by omega), q6, p6]; omega), hB⟩
              case measure => simp [intOf]; omega
            · go_wp2_with (first
                | (go_at_call 25; first
                  | (with_reducible refine HP1.out.mono ?_; rintro e v1 ⟨r1, g1, cap1, rfl, p1, p2, p3, p4, p5, p6, hb1⟩; replace hAn := cell_on hAn hb1; replace hB := below_on hB hb1; clear hb1)
                  | (refine (plus_any r1 [1] g1 0 cap1 v1.heap.size 0 1 _ (p3.on ((Below.refl _ v1).alloc (Nat.le_refl _) _)) (one_dig v1) (by omega) (by decide) p4 (by unfold Dg; simp)).mono ?_; rintro e v2 ⟨r2, g2, cap2, rfl, q1, q2, q3, q4, q5, q6, hb2⟩; replace q6 : val r2 = val r1 + 1 := q6; replace q2 : r2.length ≤ r1.length + 1 + 4 := q2; replace hB := below_on (hB.alloc hB.size _) hb2; clear hb2))
                | (go_at_call 41; have hd : decide (val r2 < val m) = false := decide_eq_false (by rw [q6, p6]; omega); have HL := less_any r2 m g2 0 cap2 gm om cm v2 q3 (HM.out.on hB) (by omega) q4 HDm.out q5 HTm.out; rw [hd] at HL; refine HL.mono ?_; rintro e v3 ⟨rfl, hb3⟩; have z3 := q3.on hb3; replace hB := below_on hB hb3; clear hb3)
                | (go_at_call 42; refine (minus_any r2 m g2 0 cap2 gm om cm v3 z3 (HM.out.on hB) (by omega) q4 HDm.out (by rw [q6, p6]; omega)).mono ?_; rintro e v4 ⟨r4, g4, cap4, rfl, t1, t2, t3, t4, t5, t6, hb4⟩; replace hB := below_on hB hb4; clear hb4))
              go_roundw
              case rel => exact ⟨j + 1, r4, g4, cap4, by omega, val_int (by rw [← HN.out]; omega), rfl, shorter t5 HDm.out (by rw [t6, q6, p6]; omega), t3, t4, t5, Lib.hid (by rw [HBt.out, hb, Nat.pow_succ, Nat.mul_comm (2 ^ j) 2, Nat.mul_left_comm, ← Nat.add_assoc, ← mod_step 1 HV.out]; rw [t6, q6, p6, Nat.mod_eq_sub_mod (by omega), Nat.mod_eq_of_lt (by omega)]; omega), hB⟩
              case measure => simp [intOf]; omega
          · have hbi : ¬ (q : Int) % 2 = 1 := by omega
            have hrm : val r < val m := by rw [HV.out]; exact Nat.mod_lt _ HPos.out
            by_cases hless : val r + val r < val m
            · go_wp2_with (first
                | (go_at_call 25; first
                  | (with_reducible refine HP1.out.mono ?_; rintro e v1 ⟨r1, g1, cap1, rfl, p1, p2, p3, p4, p5, p6, hb1⟩; replace hAn := cell_on hAn hb1; replace hB := below_on hB hb1; clear hb1))
                | (go_at_call 41; have hd : decide (val r1 < val m) = true := decide_eq_true (by rw [p6]; omega); have HL := less_any r1 m g1 0 cap1 gm om cm v1 p3 (HM.out.on hB) (by omega) p4 HDm.out p5 HTm.out; rw [hd] at HL; refine HL.mono ?_; rintro e v3 ⟨rfl, hb3⟩; have z3 := p3.on hb3; replace hB := below_on hB hb3; clear hb3))
              go_roundw
              case rel => exact ⟨j + 1, r1, g1, cap1, by omega, val_int (by rw [← HN.out]; omega), rfl, Nat.le_trans (shorter p5 HDm.out (by rw [p6]; omega)) (Nat.le_refl _), z3, p4, p5, Lib.hid (by rw [HBt.out, show q % 2 = 0 by omega, Nat.pow_succ, Nat.mul_comm (2 ^ j) 2, Nat.mul_left_comm, ← Nat.add_assoc, ← mod_step 0 HV.out]; rw [Nat.mod_eq_of_lt (by omega), p6]; omega), hB⟩
              case measure => simp [intOf]; omega
            · go_wp2_with (first
                | (go_at_call 25; first
                  | (with_reducible refine HP1.out.mono ?_; rintro e v1 ⟨r1, g1, cap1, rfl, p1, p2, p3, p4, p5, p6, hb1⟩; replace hAn := cell_on hAn hb1; replace hB := below_on hB hb1; clear hb1))
                | (go_at_call 41; have hd : decide (val r1 < val m) = false := decide_eq_false (by rw [p6]; omega); have HL := less_any r1 m g1 0 cap1 gm om cm v1 p3 (HM.out.on hB) (by omega) p4 HDm.out p5 HTm.out; rw [hd] at HL; refine HL.mono ?_; rintro e v3 ⟨rfl, hb3⟩; have z3 := p3.on hb3; replace hB := below_on hB hb3; clear hb3)
                | (go_at_call 42; refine (minus_any r1 m g1 0 cap1 gm om cm v3 z3 (HM.out.on hB) (by omega) p4 HDm.out (by rw [p6]; omega)).mono ?_; rintro e v4 ⟨r4, g4, cap4, rfl, t1, t2, t3, t4, t5, t6, hb4⟩; replace hB := below_on hB hb4; clear hb4))
              go_roundw
              case rel => exact ⟨j + 1, r4, g4, cap4, by omega, val_int (by rw [← HN.out]; omega), rfl, shorter t5 HDm.out (by rw [t6, p6]; omega), t3, t4, t5, Lib.hid (by rw [HBt.out, show q % 2 = 0 by omega, Nat.pow_succ, Nat.mul_comm (2 ^ j) 2, Nat.mul_left_comm, ← Nat.add_assoc, ← mod_step 0 HV.out]; rw [t6, p6, Nat.mod_eq_sub_mod (by omega), Nat.mod_eq_of_lt (by omega)]; omega), hB⟩
              case measure => simp [intOf]; omega
        · obtain rfl : j = 16 := by omega
          rw [show (32768 : Nat) / 2 ^ 16 = 0 by decide]
          go_wp2_with fail
          go_roundw
          case rel => exact ⟨n, r, g, cap, by omega, val_int (by omega), rfl, hl, hr, dr, tr, Lib.hid (by rw [HV.out, HX.out, Nat.sub_self, Nat.pow_zero, Nat.div_one, Nat.mul_comm, Nat.add_comm]), hB⟩
          case measure => simp [intOf]
end Go.Proofs.YtknpgijapbkebaaDoor.F
