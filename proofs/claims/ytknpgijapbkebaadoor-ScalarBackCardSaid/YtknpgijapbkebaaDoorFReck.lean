/- The contracts of the reference's Less and Minus. -/
import Derived.Test.YtknpgijapbkebaaDoorFTrim
import Derived.Test.YtknpgijapbkebaaDoorFSums
import Derived.BigRegion
namespace Go.Proofs.YtknpgijapbkebaaDoor.F
set_option maxRecDepth 100000
open Go.RowKit

set_option maxHeartbeats 800000 in
theorem less_any (a b : List Nat) (ga oa ca gb ob cb : Nat) (W : World) (ha : Dig W ga oa a) (hb : Dig W gb ob b) (hla : a.length ≤ 900) (da : Dg a) (db : Dg b) (ta : Tr a) (tb : Tr b) :
    Calls Tryd.prog 41 #[.slice (some ⟨ga, oa, none⟩) a.length ca, .slice (some ⟨gb, ob, none⟩) b.length cb] W fun e W' => e = .returned (.bool (decide (val a < val b))) ∧ Below W.heap.size W W' := by
  by_cases hne : a.length = b.length
  · have hne2 : (a.length : Int) = (b.length : Int) := by omega
    have HA := Lib.hid (fun i => less_at a b i da hne)
    have HB := Lib.hid (fun i => less_at b a i db hne.symm)
    have HD := Lib.hid (fun i => @drop_same a b i hne)
    clear da db ta tb
    go_enter Tryd.func41, Tryd.ntmps41
    go_wp2
    go_loopw [5] (fun ix wr => ∃ n : Nat, n ≤ a.length ∧ ix = .int .i64 ((n : Int) - 1) ∧ Hid (a.drop n = b.drop n) ∧ Below W.heap.size W wr) (fun ix _ => (intOf ix + 1).toNat)
    case atStart => exact ⟨a.length, Nat.le_refl _, val_int (by omega), Lib.hid (by rw [List.drop_of_length_le (Nat.le_refl _), List.drop_of_length_le (by omega)]), Below.refl _ _⟩
    case round =>
      obtain ⟨n, hn, rfl, HS, hB⟩ := hrel
      cases n with
      | zero =>
        have HE := Lib.hid (show a = b from HS.out)
        go_wp2
        go_ret
        exact ⟨ret1_of (by rw [HE.out]; simp), hB⟩
      | succ m =>
        have em : ((m + 1 : Nat) : Int) - 1 = (m : Int) := by omega
        rw [em]
        have hX := (ha.on hB) m (by omega)
        have hY := (hb.on hB) m (by omega)
        have HA1 := Lib.hid (HA.out m (by omega) HS.out)
        have HB1 := Lib.hid (HB.out m (by omega) HS.out.symm)
        have HD1 := Lib.hid (HD.out m (by omega) HS.out)
        generalize a.getD m 0 = X at hX HA1 HB1 HD1
        generalize b.getD m 0 = Y at hY HA1 HB1 HD1
        by_cases hxy : X = Y
        · have HD2 := Lib.hid (HD1.out hxy)
          clear HA1 HB1 HD1
          subst hxy
          go_wp2_with fail
          go_quiet (fail)
          go_wp2_with fail
          go_roundw
          case rel => exact ⟨m, by omega, rfl, HD2, below_drawn hB nq⟩
          case measure => simp [intOf]
        · have hxy2 : ¬ (X : Int) = (Y : Int) := by omega
          have HE : Hid (decide (X < Y) = decide (val a < val b)) := Lib.hid (by
            by_cases h : X < Y
            · rw [decide_eq_true (HA1.out h), decide_eq_true h]
            · rw [decide_eq_false h, decide_eq_false (by have := HB1.out (by omega); omega)])
          clear HA1 HB1 HD1
          go_wp2_with fail
          go_quiet (fail)
          go_wp2_with fail
          go_quiet (fail)
          go_wp2_with fail
          go_ret
          exact ⟨ret1_of (by rw [← HE.out]; rfl), below_drawn (below_drawn hB _) _⟩
  · have hne2 : ¬ (a.length : Int) = (b.length : Int) := by omega
    have HE : Hid (decide (a.length < b.length) = decide (val a < val b)) := Lib.hid (by
      by_cases h : a.length < b.length
      · rw [decide_eq_true (tr_shorter da tb h), decide_eq_true h]
      · rw [decide_eq_false h, decide_eq_false (by have := tr_shorter db ta (by omega); omega)])
    go_enter Tryd.func41, Tryd.ntmps41
    go_wp2
    go_ret
    exact ⟨ret1_of (by rw [← HE.out]; rfl), Below.refl _ _⟩

/-- a fresh row of n zeros -/
theorem bor_pos {A B L : Nat} (h : ¬ A < L + B) : (A : Int) - L - B = ((A - L - B : Nat) : Int) := by omega
theorem bor_neg {A B L : Nat} (hA : A < 65536) (hB : B < 65536) (hL : L ≤ 1) : (A : Int) - L - B + 65536 = ((A + 65536 - L - B : Nat) : Int) := by omega

set_option maxHeartbeats 1600000 in
theorem minus_any (a b : List Nat) (ga oa ca gb ob cb : Nat) (W : World) (ha : Dig W ga oa a) (hb : Dig W gb ob b) (hla : a.length ≤ 900) (da : Dg a) (db : Dg b) (hle : val b ≤ val a) :
    Calls Tryd.prog 42 #[.slice (some ⟨ga, oa, none⟩) a.length ca, .slice (some ⟨gb, ob, none⟩) b.length cb] W fun e W' => ∃ r g' cap', e = .returned (.slice (some ⟨g', 0, none⟩) r.length cap') ∧ r.length ≤ cap' ∧ r.length ≤ a.length ∧ Dig W' g' 0 r ∧ Dg r ∧ Tr r ∧ val r = val a - val b ∧ Below W.heap.size W W' := by
  obtain ⟨i0, hi, hz0, hz1, hz2⟩ := info_parts info3
  have HE := Lib.hid (bor_end da db hle)
  have HA := Lib.hid da
  have HBd := Lib.hid db
  clear da db hle
  go_enter Tryd.func42, Tryd.ntmps42
  go_wp2_with (at_make; refine wpList_make_full _ rfl _ _ 41 rfl W.heap.size 3 i0 (.int .i64 0) 1 Tryd.underlying41 hi hz0 hz1 _ _ _ _ a.length rfl rfl ?e1 ?e2 ?b2 ?b3 (Nat.le_refl _) ?_)
  case e1 => omega
  case e2 => omega
  case b2 => rw [hz2]; omega
  case b3 => unfold maxLen; omega
  intro w1 hown hgrow
  have hb1 : Below W.heap.size W w1 := (Below.refl _ _).grown hgrow (Nat.le_refl _) (fun k hk => by cases hk)
  rw [made_zeros] at hown
  clear hgrow
  go_wp2_with fail
  go_loopw [6, 14] (fun low ix wr => ∃ i : Nat, i ≤ a.length ∧ ix = .int .i64 i ∧ low = i64 (borN a b i) ∧ wr.ownsRow W.heap.size 3 1 (.slice (some ⟨W.heap.size, 0, none⟩) a.length a.length) a.length ((borL a b i ++ List.replicate (a.length - i) 0).map i64) ∧ Below W.heap.size W wr) (fun _ ix _ => a.length - (intOf ix).toNat)
  case atStart => exact ⟨0, Nat.zero_le _, rfl, rfl, hown, hb1⟩
  case round =>
    clear hown hb1
    obtain ⟨i, hi1, rfl, rfl, ho, hB⟩ := hrel
    by_cases hlt : i < a.length
    · have hF := ho.frozenAt i
      have hO := own_at ho i hlt
      have HO := Lib.hid ho
      have HP := Lib.hid (pre_set (borL a b i) a.length i (borD a b i) (borL_length a b i) hlt)
      have HS := Lib.hid (borL_succ a b i)
      have HN : Hid (borN a b (i + 1) = if a.getD i 0 < borN a b i + b.getD i 0 then 1 else 0) := Lib.hid rfl
      have HD : Hid (borD a b i = if a.getD i 0 < borN a b i + b.getD i 0 then a.getD i 0 + 65536 - borN a b i - b.getD i 0 else a.getD i 0 - borN a b i - b.getD i 0) := Lib.hid rfl
      have hL := borN_le a b i
      have hX := (ha.on hB) i hlt
      have hX2 := HA.out.at i
      clear ho
      generalize (borL a b i ++ List.replicate (a.length - i) 0).getD i 0 = Z at hO
      by_cases hlt2 : i < b.length
      · have hY := (hb.on hB) i hlt2
        have hY2 := HBd.out.at i
        generalize a.getD i 0 = A at hX hX2 HN HD
        generalize b.getD i 0 = B at hY hY2 HN HD
        generalize borN a b i = L at hL HN HD
        have e1 : IntKind.i64.wrap ((A : Int) - (L : Int)) = (A : Int) - L := by rw [IntWalk.i64_in _ (by omega)]
        have e2 : IntKind.i64.wrap ((A : Int) - (L : Int) - (B : Int)) = (A : Int) - L - B := by rw [IntWalk.i64_in _ (by omega)]
        by_cases hbo : A < L + B
        · have hneg : (A : Int) - L - B < 0 := by omega
          have HQ := Lib.hid (bor_neg hX2 hY2 hL)
          have e3 : IntKind.i64.wrap ((A : Int) - (L : Int) - (B : Int) + 65536) = (A : Int) - L - B + 65536 := by rw [IntWalk.i64_in _ (by omega)]
          go_wp2_with fail
          go_roundw
          case rel => exact ⟨i + 1, by omega, by go_num, val_int (by rw [HN.out, if_pos hbo]; rfl), by rw [HS.out, ← HP.out]; exact own_putv HO.out i _ _ (val_int (by rw [HD.out, if_pos hbo, ← HQ.out])), hB.setCell (p := ⟨W.heap.size, i, none⟩) (Nat.le_refl _) _⟩
          case measure => simp [intOf]; omega
        · have hneg : ¬ (A : Int) - L - B < 0 := by omega
          have HQ := Lib.hid (bor_pos hbo)
          go_wp2_with fail
          go_roundw
          case rel => exact ⟨i + 1, by omega, by go_num, val_int (by rw [HN.out, if_neg hbo]; rfl), by rw [HS.out, ← HP.out]; exact own_putv HO.out i _ _ (val_int (by rw [HD.out, if_neg hbo, ← HQ.out])), hB.setCell (p := ⟨W.heap.size, i, none⟩) (Nat.le_refl _) _⟩
          case measure => simp [intOf]; omega
      · rw [getD_past hlt2] at HN HD
        generalize a.getD i 0 = A at hX hX2 HN HD
        generalize borN a b i = L at hL HN HD
        have e1 : IntKind.i64.wrap ((A : Int) - (L : Int)) = (A : Int) - L := by rw [IntWalk.i64_in _ (by omega)]
        by_cases hbo : A < L + 0
        · have hneg : (A : Int) - L < 0 := by omega
          have HQ := Lib.hid (bor_neg hX2 (B := 0) (by omega) hL)
          have e3 : IntKind.i64.wrap ((A : Int) - (L : Int) + 65536) = (A : Int) - L + 65536 := by rw [IntWalk.i64_in _ (by omega)]
          go_wp2_with fail
          go_roundw
          case rel => exact ⟨i + 1, by omega, by go_num, val_int (by rw [HN.out, if_pos hbo]; rfl), by rw [HS.out, ← HP.out]; exact own_putv HO.out i _ _ (val_int (by rw [HD.out, if_pos hbo, ← HQ.out]; omega)), hB.setCell (p := ⟨W.heap.size, i, none⟩) (Nat.le_refl _) _⟩
          case measure => simp [intOf]; omega
        · have hneg : ¬ (A : Int) - L < 0 := by omega
          have HQ := Lib.hid (bor_pos (B := 0) hbo)
          go_wp2_with fail
          go_roundw
          case rel => exact ⟨i + 1, by omega, by go_num, val_int (by rw [HN.out, if_neg hbo]; rfl), by rw [HS.out, ← HP.out]; exact own_putv HO.out i _ _ (val_int (by rw [HD.out, if_neg hbo, ← HQ.out]; omega)), hB.setCell (p := ⟨W.heap.size, i, none⟩) (Nat.le_refl _) _⟩
          case measure => simp [intOf]; omega
    · obtain rfl : i = a.length := by omega
      rw [Nat.sub_self, List.replicate_zero, List.append_nil] at ho
      have hD := own_dig ho
      have hlen := borL_length a b a.length
      have HT := Lib.hid (trim_any (borL a b a.length) W.heap.size 0 a.length wr hD (by omega) (by omega))
      rw [hlen] at HT
      have hle := trimL_le (borL a b a.length)
      clear ho
      go_wp2_with (go_at_call 43; refine HT.out.mono ?_; rintro e w2 ⟨rfl, rfl⟩)
      go_ret
      exact ⟨trimL (borL a b a.length), _, _, rfl, by omega, by omega, hD.take _, (borL_dg HA.out HBd.out _).trim, trim_tr _, (val_trim _).trans HE.out, hB⟩

end Go.Proofs.YtknpgijapbkebaaDoor.F
