/- The contracts of the reference's trim and carry: digits without zeros at the end. -/
import Derived.Test.YtknpgijapbkebaaDoorFMem
import Derived.Deep.CutRange
namespace Go.Proofs.YtknpgijapbkebaaDoor.F
set_option maxRecDepth 100000
open Go.RowKit

theorem info3 : (Tryd.prog.info? 3).map (fun i => (i.zero, i.size, i.bytes)) = some (some (.int .i64 0), 1, 8) := by kernel_rfl

set_option maxHeartbeats 400000 in
theorem trim_any (l : List Nat) (g o cap : Nat) (w : World) (hd : Dig w g o l) (hl : l.length ≤ 1000) (hc : l.length ≤ cap) :
    Calls Tryd.prog 43 #[.slice (some ⟨g, o, none⟩) l.length cap] w fun e w' => e = .returned (.slice (some ⟨g, o, none⟩) (trimL l).length cap) ∧ w' = w := by
  have HL := Lib.hid (trimL_length l)
  go_enter Tryd.func43, Tryd.ntmps43
  go_wp2
  go_loop [3] (fun n => ∃ k : Nat, k ≤ l.length ∧ n = .int .i64 k ∧ Hid (trimN l l.length = trimN l k)) (fun n => (intOf n).toNat)
  case atStart => exact ⟨_, Nat.le_refl _, rfl, Lib.hid rfl⟩
  case round =>
    obtain ⟨k, hk, rfl, HT⟩ := hrel
    cases k with
    | zero =>
      have HE := Lib.hid (HL.out.trans HT.out)
      go_wp2
      go_ret
      exact ⟨ret1_of (by rw [HE.out]; rfl), rfl⟩
    | succ k =>
      have hX := hd k (by omega)
      have HS : Hid (trimN l (k + 1) = if l.getD k 0 = 0 then trimN l k else k + 1) := Lib.hid rfl
      generalize l.getD k 0 = X at hX HS
      have em : ((k + 1 : Nat) : Int) - 1 = (k : Int) := by omega
      by_cases hx : X = 0
      · subst hx
        go_wp2
        go_round
        case rel => exact ⟨k, by omega, by go_num, Lib.hid (by rw [HT.out, HS.out, if_pos rfl])⟩
        case measure => simp [intOf]
      · have HE := Lib.hid (HL.out.trans (HT.out.trans (HS.out.trans (if_neg hx))))
        go_wp2
        go_ret
        exact ⟨ret1_of (by rw [HE.out]; rfl), rfl⟩

theorem pre_set (p : List Nat) (n i x : Nat) (hp : p.length = i) (h : i < n) : (p ++ List.replicate (n - i) 0).set i x = (p ++ [x]) ++ List.replicate (n - (i + 1)) 0 := by
  rw [List.set_append_right _ _ (by omega), hp, Nat.sub_self, show n - i = (n - (i + 1)) + 1 by omega, List.replicate_succ, List.set_cons_zero, List.append_assoc]
  rfl
theorem carry_step (C X : Nat) (hC : C ≤ 1152921504606846976) (hX : X ≤ 1152921504606846976) : IntKind.i64.wrap ((C : Int) + (X : Int)) = ((C + X : Nat) : Int) := by
  rw [IntWalk.i64_in _ (by omega)]
  omega

set_option maxHeartbeats 800000 in
theorem carry_any (d : List Nat) (M g o cap : Nat) (W : World) (hd : Dig W g o d) (hl : d.length ≤ 900) (hM : Bd M d) (hM2 : M ≤ 1152921504606846976) :
    Calls Tryd.prog 36 #[.slice (some ⟨g, o, none⟩) d.length cap] W fun e W' => ∃ r g' cap', e = .returned (.slice (some ⟨g', 0, none⟩) r.length cap') ∧ r.length ≤ cap' ∧ r.length ≤ d.length + 4 ∧ Dig W' g' 0 r ∧ Dg r ∧ Tr r ∧ val r = val d ∧ Below W.heap.size W W' := by
  obtain ⟨i0, hi, hz0, hz1, hz2⟩ := info_parts info3
  go_enter Tryd.func36, Tryd.ntmps36
  go_wp2_with (at_make; refine wpList_make_full _ rfl _ _ 41 rfl W.heap.size 3 i0 (.int .i64 0) 1 Tryd.underlying41 hi hz0 hz1 _ _ _ _ (d.length + 4) rfl rfl ?e1 ?e2 ?b2 ?b3 (Nat.le_refl _) ?_)
  case e1 => omega
  case e2 => omega
  case b2 => rw [hz2]; omega
  case b3 => unfold maxLen; omega
  intro w1 hown hgrow
  have hb1 : Below W.heap.size W w1 := (Below.refl _ _).grown hgrow (Nat.le_refl _) (fun k hk => by cases hk)
  rw [made_zeros] at hown
  clear hgrow
  go_wp2_with fail
  go_loopw [4, 12] (fun n ix wr => ∃ i : Nat, i ≤ d.length + 4 ∧ ix = .int .i64 i ∧ n = i64 (carN d i) ∧ wr.ownsRow W.heap.size 3 1 (.slice (some ⟨W.heap.size, 0, none⟩) (d.length + 4) (d.length + 4)) (d.length + 4) ((carL d i ++ List.replicate (d.length + 4 - i) 0).map i64) ∧ Below W.heap.size W wr) (fun _ ix _ => d.length + 4 - (intOf ix).toNat)
  case atStart => exact ⟨0, Nat.zero_le _, rfl, rfl, hown, hb1⟩
  case round =>
    clear hown hb1
    obtain ⟨i, hi1, rfl, rfl, ho, hB⟩ := hrel
    by_cases hlt : i < d.length + 4
    · have hC := Nat.le_trans (carN_le hM i) hM2
      have hF := ho.frozenAt i
      have hO := own_at ho i (by omega)
      have HO := Lib.hid ho
      have HP := Lib.hid (pre_set (carL d i) (d.length + 4) i (carD d i) (carL_length d i) hlt)
      have HS := Lib.hid (carL_succ d i)
      have HN : Hid (carN d (i + 1) = (carN d i + d.getD i 0) / 65536) := Lib.hid rfl
      have HD : Hid (carD d i = (carN d i + d.getD i 0) % 65536) := Lib.hid rfl
      clear ho
      generalize (carL d i ++ List.replicate (d.length + 4 - i) 0).getD i 0 = Y at hO
      by_cases hlt2 : i < d.length
      · have hX := (hd.on hB) i hlt2
        have hX2 := Nat.le_trans (hM.at i) hM2
        generalize carN d i = C at hC HN HD
        generalize d.getD i 0 = X at hX hX2 HN HD
        have hcs := carry_step C X hC hX2
        obtain ⟨S, hS⟩ : ∃ S, C + X = S := ⟨_, rfl⟩
        have hSle : S ≤ 2305843009213693952 := by omega
        rw [hS] at hcs HN HD
        clear hS hC hX2
        go_wp2_with fail
        go_roundw
        case rel => exact ⟨i + 1, by omega, by go_num, val_int (by rw [HN.out]; omega), by rw [HS.out, ← HP.out]; exact own_putv HO.out i _ _ (val_int (by rw [HD.out]; omega)), hB.setCell (p := ⟨W.heap.size, i, none⟩) (Nat.le_refl _) _⟩
        case measure => simp [intOf]; omega
      · rw [getD_past hlt2, Nat.add_zero] at HN HD
        generalize carN d i = C at hC HN HD
        go_wp2_with fail
        go_roundw
        case rel => exact ⟨i + 1, by omega, by go_num, val_int (by rw [HN.out]; omega), by rw [HS.out, ← HP.out]; exact own_putv HO.out i _ _ (val_int (by rw [HD.out]; omega)), hB.setCell (p := ⟨W.heap.size, i, none⟩) (Nat.le_refl _) _⟩
        case measure => simp [intOf]; omega
    · obtain rfl : i = d.length + 4 := by omega
      rw [Nat.sub_self, List.replicate_zero, List.append_nil] at ho
      have hD := own_dig ho
      have hlen := carL_length d (d.length + 4)
      have HT := Lib.hid (trim_any (carL d (d.length + 4)) W.heap.size 0 (d.length + 4) wr hD (by omega) (by omega))
      rw [hlen] at HT
      have hle := trimL_le (carL d (d.length + 4))
      clear ho
      go_wp2_with (go_at_call 43; refine HT.out.mono ?_; rintro e w2 ⟨rfl, rfl⟩)
      go_ret
      exact ⟨trimL (carL d (d.length + 4)), _, _, rfl, by omega, by omega, hD.take _, (carL_dg _ _).trim, trim_tr _, (val_trim _).trans (car_end hM (by omega)), hB⟩
end Go.Proofs.YtknpgijapbkebaaDoor.F
