/- What is proved: whatever text the statement of bytes is called with, it answers true. -/
import Derived.Test.YtfleimaoaicolaaDoorLot12
import Derived.Test.YtfleimaoaicolaaDoorMCRight
namespace Go.Proofs.YtfleimaoaicolaaDoor.C
open Go.RowKit Go.Sort Go.Proofs.YtfleimaoaicolaaDoor.F
set_option maxRecDepth 100000

theorem parse_text (t : ByteArray) (h32 : t.size = 32) (h : parseB (numLE t.data.toList % two255) (decide (two255 ≤ numLE t.data.toList)) = true) : textN (parseN (numLE t.data.toList % two255) (decide (two255 ≤ numLE t.data.toList))).of = t := by
  have hl : t.data.toList.length = 32 := by rw [Array.length_toList]; exact h32
  have hlt := numLE_lt t.data.toList
  have hback : leL (numLE t.data.toList) 32 = t.data.toList := by rw [← hl]; exact leL_numLE _
  rw [hl] at hlt
  rw [(parse_pn h).of]
  unfold parseB at h
  simp only [Bool.and_eq_true, decide_eq_true_eq] at h
  obtain ⟨⟨hm, _⟩, hx⟩ := h
  have hpar := xOf_odd (numLE t.data.toList % two255) (decide (two255 ≤ numLE t.data.toList)) (by
    cases hd : decide (two255 ≤ numLE t.data.toList) with
    | false => exact .inr rfl
    | true =>
      rw [hd] at hx
      refine .inl (fun e => ?_)
      rw [e] at hx
      exact absurd hx (by decide))
  unfold textN
  show (⟨(leL ((z (numLE t.data.toList % two255)).val + two255 * ((z (xOf (numLE t.data.toList % two255) (decide (two255 ≤ numLE t.data.toList)))).val % 2)) 32).toArray⟩ : ByteArray) = t
  rw [val_z hm, val_z (xOf_lt _ _), hpar]
  have h2 : (256 : Nat) ^ 32 = 2 * two255 := by decide
  have hsum : numLE t.data.toList % two255 + two255 * (if decide (two255 ≤ numLE t.data.toList) = true then 1 else 0) = numLE t.data.toList := by
    rw [h2] at hlt
    unfold two255 at *
    by_cases hd : 57896044618658097711785492504343953926634992332820282019728792003956564819968 ≤ numLE t.data.toList
    · rw [if_pos (decide_eq_true hd)]
      omega
    · rw [if_neg (by simpa using hd)]
      omega
  rw [hsum, hback]
theorem none_eq (w : World) : (binOp .eql 26 (pt noneN) (.agg #[.int .u64 0, .int .u64 0, .int .u64 0, .int .u64 0, .int .u64 0, .int .u64 0, .int .u64 0, .int .u64 0, .int .u64 0, .int .u64 0, .int .u64 0, .int .u64 0, .int .u64 0, .int .u64 0, .int .u64 0, .int .u64 0])).run Tryd.prog w = .ok (.bool true) w := by kernel_rfl
/-- some cells in the middle of a block are read under a guard -/
theorem wpL_loadMid_g {P : Program} {ops : Array Oper} {rest : List Oper} {a : Act} {w : World} {Q : Exit → Act → World → Prop} {t' : TypeId} {pos : String} {after : Array Edge} {gd : Option (Nat × Bool)} {d : Option Tmp} {x : Tmp} {ty : TypeId} (g o : Nat) (cs : List Value) (n : Nat) (hT : RowT P ty n) (hn : cs.length = n) (hg : w.rangeAt g o cs)
    (hw : Region.wanted ⟨d, .load ty (.tmp x), t', pos, after, gd⟩ (yielded ops a.tmps) = true) (hx : a.eval (.tmp x) = .pointer (some ⟨g, o, none⟩)) (h : wpList P ops Q rest (a.put d (.agg cs.toArray)) w) : wpList P ops Q (⟨d, .load ty (.tmp x), t', pos, after, gd⟩ :: rest) a w := by
  obtain ⟨⟨ds, hu, hd⟩, hi⟩ := hT
  unfold wpList
  rw [if_pos hw]
  exact .inl (wp_load_mid (op := ⟨d, .load ty (.tmp x), t', pos, after, gd⟩) ty (.tmp x) rfl g o hx cs ds hg hu hd (by rw [hi, hn]) h)
attribute [local irreducible] feA ptA

set_option maxHeartbeats 3200000 in
theorem bytes_walk (s : ByteArray) (hs : s.size ≤ 9223372036854775807) (W : World) (hT : PtTab2 W) :
    Calls Tryd.prog 5 #[.string s] W fun e W' => e = .returned (.bool true) ∧ Below W.heap.size W W' := by
  have hB := Below.refl W.heap.size W
  have AL := Lib.hid (fun w hT => cAlive_any point_ok w hT)
  go_enter Tryd.func5, Tryd.ntmps5
  go_upto_region 2 with fail
  generalize ht : ByteArray.extract s 0 _ = t
  have ht40 : t.size ≤ 40 := by
    rw [← ht, ByteArray.size_extract]
    omega
  clear ht hs
  have HP := Lib.hid (fun w hT => point_ok.parse t w (by omega) hT)
  by_cases h32 : t.size = 32
  case neg =>
    rw [if_neg h32] at HP
    have hne : ¬ (t.size : Int) = 32 := by omega
    have hnz := none_eq
    clear h32
    go_upto_region 3 with (first
      | (go_at_call 26; (with_reducible refine (HP.out _ hT).mono ?_); rintro e w1 ⟨rfl, hb⟩; replace hT := hT.on hb; replace hB := below_on hB hb; clear hb)
      | ((with_reducible refine wpL_store w1.heap.size 26 _ (ptA noneN) 16 rowPt ?_ (ptA_size _) (ptA_one _) (Lies.new w1 _ _) ?_ ?_ ?_); rfl; rfl; rfl))
    have hp := newly_lies w1 26 z16A (ptA noneN)
    have hnw := newly w1 (.cells z16A 26) (ptA noneN)
    replace hT := hT.on hnw
    replace hB := below_on hB hnw
    clear hnw HP
    generalize World.setRow _ _ _ = w2 at *
    generalize w1.heap.size = gp at *
    have hP := hT.1
    go_wp2_with (first
      | (go_at_call 16; (with_reducible refine (AL.out _ hP).mono ?_); rintro e w3 ⟨rfl, hb⟩; replace hp := hp.on hb; replace hB := below_on hB hb; clear hb)
      | ((with_reducible refine wpL_load_g gp 26 (ptA noneN) 16 rowPt (ptA_size _) hp ?_ ?_ ?_); rfl; rfl))
    go_ret
    exact ⟨rfl, hB⟩
  case pos =>
    rw [if_pos h32] at HP
    have HR := Lib.hid (fun w => refParseP_any t h32 w)
    have htx := parse_text t h32
    have hpn := parse_pn (y := numLE t.data.toList % two255) (odd := decide (two255 ≤ numLE t.data.toList))
    have h32i : (t.size : Int) = 32 := by omega
    generalize numLE t.data.toList % two255 = m at *
    generalize decide (two255 ≤ numLE t.data.toList) = odd at *
    by_cases hpb : parseB m odd = true
    case neg =>
      rw [if_neg hpb] at HP HR
      have hnz := none_eq
      clear hpn htx hpb
      go_upto_region 3 with (first
        | (go_at_call 26; (with_reducible refine (HP.out _ hT).mono ?_); rintro e w1 ⟨rfl, hb⟩; replace hT := hT.on hb; replace hB := below_on hB hb; clear hb)
        | ((with_reducible refine wpL_store w1.heap.size 26 _ (ptA noneN) 16 rowPt ?_ (ptA_size _) (ptA_one _) (Lies.new w1 _ _) ?_ ?_ ?_); rfl; rfl; rfl))
      have hp := newly_lies w1 26 z16A (ptA noneN)
      have hnw := newly w1 (.cells z16A 26) (ptA noneN)
      replace hT := hT.on hnw
      replace hB := below_on hB hnw
      clear hnw HP
      generalize World.setRow _ _ _ = w2 at *
      generalize w1.heap.size = gp at *
      go_upto_region 6 with (first
        | (go_at_call 27; (with_reducible refine (HR.out _).mono ?_); rintro e w3 ⟨rfl, hb⟩; replace hp := hp.on hb; replace hT := hT.on hb; replace hB := below_on hB hb; clear hb)
        | ((with_reducible refine wpL_store w3.heap.size 31 _ (afA 0 0) 8 rowAf ?_ (afA_size _ _) (afA_one _ _) (Lies.new w3 _ _) ?_ ?_ ?_); rfl; rfl; rfl))
      have hnw := newly w3 (.cells z8F 31) (afA 0 0)
      replace hp := hp.on hnw
      replace hT := hT.on hnw
      replace hB := below_on hB hnw
      clear hnw HR
      generalize World.setRow _ _ _ = w4 at *
      have hP := hT.1
      go_wp2_with (first
        | (go_at_call 16; (with_reducible refine (AL.out _ hP).mono ?_); rintro e w5 ⟨rfl, hb⟩; replace hp := hp.on hb; replace hB := below_on hB hb; clear hb)
        | ((with_reducible refine wpL_load_g gp 26 (ptA noneN) 16 rowPt (ptA_size _) hp ?_ ?_ ?_); rfl; rfl))
      go_ret
      exact ⟨rfl, hB⟩
    case pos =>
      rw [if_pos hpb] at HP HR
      have hu := hpn hpb
      have hlt := hu.lt
      have HBy := Lib.hid (fun w hT => point_ok.bytes (parseN m odd) w hlt hT)
      rw [if_pos hu.right, htx hpb] at HBy
      have HRi := Lib.hid (fun w => refRight_any (parseN m odd) hlt w)
      rw [hu.right] at HRi
      have hdef := parseN_def m odd
      have e1 := eql_self (xOf m odd)
      have e2 := eql_self m
      have e3 := one_four
      have fX : (parseN m odd).X = xOf m odd := by rw [hdef]
      have fY : (parseN m odd).Y = m := by rw [hdef]
      have fZ : (parseN m odd).Z = 1 := by rw [hdef]
      have FX := Lib.hid fX
      have FY := Lib.hid fY
      have FZ := Lib.hid fZ
      generalize parseN m odd = u at *
      generalize xOf m odd = xv at *
      clear hpn htx hpb hu hlt hdef fX fY fZ
      go_upto_region 3 with (first
        | (go_at_call 26; (with_reducible refine (HP.out _ hT).mono ?_); rintro e w1 ⟨rfl, hb⟩; replace hT := hT.on hb; replace hB := below_on hB hb; clear hb)
        | ((with_reducible refine wpL_store w1.heap.size 26 _ (ptA u) 16 rowPt ?_ (ptA_size _) (ptA_one _) (Lies.new w1 _ _) ?_ ?_ ?_); rfl; rfl; rfl))
      have hp := newly_lies w1 26 z16A (ptA u)
      have hnw := newly w1 (.cells z16A 26) (ptA u)
      replace hT := hT.on hnw
      replace hB := below_on hB hnw
      clear hnw HP
      generalize World.setRow _ _ _ = w2 at *
      generalize w1.heap.size = gp at *
      go_upto_region 6 with (first
        | (go_at_call 27; (with_reducible refine (HR.out _).mono ?_); rintro e w3 ⟨rfl, hb⟩; replace hp := hp.on hb; replace hT := hT.on hb; replace hB := below_on hB hb; clear hb)
        | ((with_reducible refine wpL_store w3.heap.size 31 _ (afA xv m) 8 rowAf ?_ (afA_size _ _) (afA_one _ _) (Lies.new w3 _ _) ?_ ?_ ?_); rfl; rfl; rfl))
      have ha := newly_lies w3 31 z8F (afA xv m)
      have hnw := newly w3 (.cells z8F 31) (afA xv m)
      replace hp := hp.on hnw
      replace hT := hT.on hnw
      replace hB := below_on hB hnw
      clear hnw HR
      generalize World.setRow _ _ _ = w4 at *
      generalize w3.heap.size = ga at *
      have hP := hT.1
      go_upto_region 9 with (first
        | ((with_reducible refine wpL_load gp 26 (ptA u) 16 rowPt (ptA_size _) hp ?_ ?_); rfl)
        | (go_at_call 21; (with_reducible refine (HBy.out _ hP).mono ?_); rintro e w5 ⟨rfl, hb⟩; replace hp := hp.on hb; replace ha := ha.on hb; replace hT := hT.on hb; replace hB := below_on hB hb; clear hb))
      clear hP HBy
      have hP := hT.1
      go_wp2_with (first
        | (go_at_call 16; (with_reducible refine (AL.out _ hP).mono ?_); rintro e w6 ⟨rfl, hb⟩; replace hp := hp.on hb; replace ha := ha.on hb; replace hB := below_on hB hb; clear hb; have pX := pt_X hp; have pY := pt_Y hp; have pZ := pt_Z hp; have aX := af_X ha; have aY := af_Y ha; rw [FX.out] at pX; rw [FY.out] at pY; rw [FZ.out] at pZ)
        | ((with_reducible refine wpL_loadMid_g gp 0 (feA xv).toList 4 rowFe (by rw [Array.length_toList]; exact feA_size _) pX ?_ ?_ ?_); rfl; rfl; rw [Array.toArray_toList])
        | ((with_reducible refine wpL_loadMid_g ga 0 (feA xv).toList 4 rowFe (by rw [Array.length_toList]; exact feA_size _) aX ?_ ?_ ?_); rfl; rfl; rw [Array.toArray_toList])
        | ((with_reducible refine wpL_loadMid_g gp 4 (feA m).toList 4 rowFe (by rw [Array.length_toList]; exact feA_size _) pY ?_ ?_ ?_); rfl; rfl; rw [Array.toArray_toList])
        | ((with_reducible refine wpL_loadMid_g ga 4 (feA m).toList 4 rowFe (by rw [Array.length_toList]; exact feA_size _) aY ?_ ?_ ?_); rfl; rfl; rw [Array.toArray_toList])
        | ((with_reducible refine wpL_loadMid_g gp 8 (feA 1).toList 4 rowFe (by rw [Array.length_toList]; exact feA_size _) pZ ?_ ?_ ?_); rfl; rfl; rw [Array.toArray_toList])
        | ((with_reducible refine wpL_load_g gp 26 (ptA u) 16 rowPt (ptA_size _) hp ?_ ?_ ?_); rfl; rfl)
        | (go_at_call 13; (with_reducible refine (HRi.out _).mono ?_); rintro e w7 ⟨rfl, hb⟩; replace hB := below_on hB hb; clear hb))
      go_ret
      exact ⟨by simp, hB⟩
end Go.Proofs.YtfleimaoaicolaaDoor.C
