/- The contracts of the reference's Plus and Times. -/
import Derived.Test.YtknpgijapbkebaaDoorFTrim
import Derived.Test.YtknpgijapbkebaaDoorFSums
import Derived.BigRegion
namespace Go.Proofs.YtknpgijapbkebaaDoor.F
set_option maxRecDepth 100000
open Go.RowKit

theorem below_put {B : Nat} {a w : World} (h : Below B a w) {g : Nat} (hg : B ≤ g) (i : Nat) (v : Value) : Below B a (w.setCell ⟨g, i, none⟩ v) := h.setCell (p := ⟨g, i, none⟩) hg v
theorem i64_sum (A B : Nat) (hA : A ≤ 1152921504606846976) (hB : B ≤ 1152921504606846976) : IntKind.i64.wrap ((A : Int) + (B : Int)) = ((A + B : Nat) : Int) := by
  rw [IntWalk.i64_in _ (by omega)]
  omega

set_option maxRecDepth 100000 in
set_option maxHeartbeats 1600000 in
theorem plus_any (a b : List Nat) (ga oa ca gb ob cb : Nat) (W : World) (ha : Dig W ga oa a) (hb : Dig W gb ob b) (hla : a.length ≤ 400) (hlb : b.length ≤ 400) (da : Dg a) (db : Dg b) :
    Calls Tryd.prog 25 #[.slice (some ⟨ga, oa, none⟩) a.length ca, .slice (some ⟨gb, ob, none⟩) b.length cb] W fun e W' => ∃ r g' cap', e = .returned (.slice (some ⟨g', 0, none⟩) r.length cap') ∧ r.length ≤ cap' ∧ r.length ≤ a.length + b.length + 4 ∧ Dig W' g' 0 r ∧ Dg r ∧ Tr r ∧ val r = val a + val b ∧ Below W.heap.size W W' := by
  obtain ⟨i0, hi, hz0, hz1, hz2⟩ := info_parts info3
  obtain ⟨N, hN⟩ : ∃ N, a.length + b.length = N := ⟨_, rfl⟩
  have hNi : (a.length : Int) + (b.length : Int) = (N : Int) := by omega
  go_enter Tryd.func25, Tryd.ntmps25
  go_wp2_with (at_make; refine wpList_make_full _ rfl _ _ 41 rfl W.heap.size 3 i0 (.int .i64 0) 1 Tryd.underlying41 hi hz0 hz1 _ _ _ _ N rfl rfl ?e1 ?e2 ?b2 ?b3 (Nat.le_refl _) ?_)
  case e1 => omega
  case e2 => omega
  case b2 => rw [hz2]; omega
  case b3 => unfold maxLen; omega
  intro w1 hown hgrow
  have hb1 : Below W.heap.size W w1 := (Below.refl _ _).grown hgrow (Nat.le_refl _) (fun k hk => by cases hk)
  rw [made_zeros] at hown
  clear hgrow
  go_wp2_with fail
  go_loopw [16] (fun ix wr => ∃ i : Nat, i ≤ a.length ∧ ix = .int .i64 i ∧ wr.ownsRow W.heap.size 3 1 (.slice (some ⟨W.heap.size, 0, none⟩) N N) N ((a.take i ++ List.replicate (N - i) 0).map i64) ∧ Below W.heap.size W wr) (fun ix _ => a.length - (intOf ix).toNat)
  case atStart => exact ⟨0, Nat.zero_le _, rfl, hown, hb1⟩
  case round =>
    clear hown hb1
    obtain ⟨i, hi1, rfl, ho, hB⟩ := hrel
    by_cases hlt : i < a.length
    · have hF := ho.frozenAt i
      have hO := own_at ho i (by omega)
      have HO := Lib.hid ho
      have HP := Lib.hid (pre_set (a.take i) N i (a.getD i 0) (by rw [List.length_take]; omega) (by omega))
      have HS : Hid (a.take (i + 1) = a.take i ++ [a.getD i 0]) := Lib.hid (by
        rw [List.take_succ_eq_append_getElem hlt, List.getD_eq_getElem?_getD, List.getElem?_eq_getElem hlt]
        rfl)
      have hX := (ha.on hB) i hlt
      clear ho
      generalize (a.take i ++ List.replicate (N - i) 0).getD i 0 = Z at hO
      generalize a.getD i 0 = X at hX HP HS
      go_wp2_with fail
      go_roundw
      case rel => exact ⟨i + 1, by omega, by go_num, by rw [HS.out, ← HP.out]; exact own_putv HO.out i _ _ rfl, below_put hB (Nat.le_refl _) _ _⟩
      case measure => simp [intOf]; omega
    · obtain rfl : i = a.length := by omega
      rw [List.take_of_length_le (Nat.le_refl _)] at ho
      obtain ⟨s, hs⟩ : ∃ s, a ++ List.replicate (N - a.length) 0 = s := ⟨_, rfl⟩
      have hsl : s.length = N := by rw [← hs]; simp; omega
      have hsd : Dg s := by rw [← hs]; exact dg_zeros da _
      have hsv : val s = val a := by rw [← hs]; exact val_pad _ _
      rw [hs] at ho
      have HD := Lib.hid hsd
      have HV := Lib.hid hsv
      have HDb := Lib.hid db
      clear hs hsd hsv da db
      go_wp2_with fail
      go_loopw [29] (fun ix wr => ∃ k : Nat, k ≤ b.length ∧ ix = .int .i64 k ∧ wr.ownsRow W.heap.size 3 1 (.slice (some ⟨W.heap.size, 0, none⟩) N N) N ((plusS s b k).map i64) ∧ Below W.heap.size W wr) (fun ix _ => b.length - (intOf ix).toNat)
      case atStart => exact ⟨0, Nat.zero_le _, rfl, ho, hB⟩
      case round =>
        clear ho hB
        obtain ⟨k, hk1, rfl, ho, hB⟩ := hrel
        by_cases hltk : k < b.length
        · have hF := ho.frozenAt k
          have hO := own_at ho k (by omega)
          have hO2 := (plusS_bd HD.out HDb.out k (by omega)).at k
          have HO := Lib.hid ho
          have HS : Hid (plusS s b (k + 1) = (plusS s b k).set k ((plusS s b k).getD k 0 + b.getD k 0)) := Lib.hid rfl
          have hY := (hb.on hB) k hltk
          have hY2 := HDb.out.at k
          clear ho
          generalize (plusS s b k).getD k 0 = X at hO hO2 HS
          generalize b.getD k 0 = Y at hY hY2 HS
          have hsum := i64_sum X Y (by omega) (by omega)
          go_wp2_with fail
          go_region
          all_goals
            go_wp2_with fail
            go_roundw
            case rel => exact ⟨k + 1, by omega, by go_num, by rw [HS.out]; exact own_putv HO.out k _ _ (val_int (by omega)), (below_put hB (Nat.le_refl _) _ _).drew⟩
            case measure => simp [intOf]; omega
        · obtain rfl : k = b.length := by omega
          have hD := own_dig ho
          have hlen := plusS_length s b b.length
          rw [hsl] at hlen
          have HT := Lib.hid (carry_any (plusS s b b.length) 131072 W.heap.size 0 N wr hD (by omega) (plusS_bd HD.out HDb.out _ (by omega)) (by decide))
          rw [hlen] at HT
          have HVal : Hid (val (plusS s b b.length) = val a + val b) := Lib.hid (by rw [plusS_val _ _ _ (by omega), HV.out, List.take_of_length_le (Nat.le_refl _)])
          clear ho hD
          go_wp2_with (go_at_call 36; refine HT.out.mono ?_; rintro e w2 ⟨r, g2, cap2, rfl, hr1, hr2, hr3, hr4, hr5, hr6, hb2⟩)
          go_ret
          exact ⟨r, g2, cap2, rfl, hr1, by omega, hr3, hr4, hr5, hr6.trans HVal.out, below_on hB hb2⟩
end Go.Proofs.YtknpgijapbkebaaDoor.F
