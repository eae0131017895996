/- The statement ParseFields, walked. -/
import Derived.Test.YtmbmeidkmhajbaaDoorF8
import Derived.Deep.Cut
import Derived.Deep.CutRange
import Derived.Deep.CutBlock
namespace Go.Proofs.YtmbmeidkmhajbaaDoor.V
open Go.RowKit Go.Sort Go.Joins
set_option maxRecDepth 100000

/-- what Fields told -/
def Told (W : World) (w' : World) (d : Nat) (t : VT) (ks : List (List UInt8)) (al : Option Addr) (nl cl : Nat) (fe : Int) : Prop :=
  (¬ Just t ks ∧ nl = 0 ∧ fe = 24) ∨ (Just t ks ∧ nl = ks.length ∧ fe = 0 ∧ ∃ R : List (List Value), RowL w' 5 (.slice al nl cl) R ∧ R.length = ks.length ∧ ∀ (i : Nat) (k : List UInt8) (cs : List Value), ks[i]? = some k → R[i]? = some cs → ∃ (p : Nat) (y : VT), t.keys[p]? = some k ∧ t.items[p]? = some y ∧ Hid (∀ w2, RowKit.Below W.heap.size W w2 → IsV w2 d cs y))
theorem FieldsPost.form {W : World} {d : Nat} {t : VT} {ks : List (List UInt8)} {e : Ending} {w' : World} (h : FieldsPost W d t ks e w') :
    ∃ (al : Option Addr) (nl cl : Nat) (fe : Int), e = .returned (.tuple #[.slice al nl cl, .int .i64 fe]) ∧ Hid (Told W w' d t ks al nl cl fe) ∧ RowKit.Below W.heap.size W w' := by
  rcases h with ⟨h1, rfl, h2⟩ | ⟨h1, v, R, rfl, hR, hl, hx, h2⟩
  · exact ⟨none, 0, 0, 24, rfl, Lib.hid (.inl ⟨h1, rfl, rfl⟩), h2⟩
  · obtain ⟨a, c, rfl, _, _, _⟩ := hR.form
    exact ⟨a, R.length, c, 0, rfl, Lib.hid (.inr ⟨h1, hl, rfl, R, hR, hl, hx⟩), h2⟩
def goodN (keys ks : List (List UInt8)) (j : Nat) : Bool := (List.range j).all fun i => match ks[i]? with | some k => decide (k ∈ keys) && !decide (k ∈ ks.take i) | none => true
theorem goodN_succ {keys ks : List (List UInt8)} {j : Nat} {k : List UInt8} (h : ks[j]? = some k) : goodN keys ks (j + 1) = (goodN keys ks j && (decide (k ∈ keys) && !decide (k ∈ ks.take j))) := by
  unfold goodN
  rw [List.range_succ, List.all_append, List.all_cons, List.all_nil, Bool.and_true, h]
theorem goodN_all {keys ks : List (List UInt8)} : goodN keys ks ks.length = true ↔ Good keys ks := by
  unfold goodN Good
  rw [List.all_eq_true]
  constructor
  · intro h i k hk
    have := h i (List.mem_range.2 (List.getElem?_eq_some_iff.1 hk).1)
    rw [hk] at this
    simpa using this
  · intro h i hi
    cases hk : ks[i]? with
    | none => rfl
    | some k =>
      have := h i k hk
      simp [this.1, this.2]
def baseB (t : VT) (n : Nat) : Bool := decide (t.kind = 4) && (decide (t.keys.length = n) && decide (t.items.length = n))
theorem just_iff {t : VT} {ks : List (List UInt8)} : (baseB t ks.length && goodN t.keys ks ks.length) = true ↔ Just t ks := by
  unfold baseB Just
  rw [Bool.and_eq_true, Bool.and_eq_true, Bool.and_eq_true, goodN_all, decide_eq_true_eq, decide_eq_true_eq, decide_eq_true_eq]
  constructor
  · rintro ⟨⟨h1, h2, h3⟩, h4⟩
    exact ⟨h1, by omega, h2.symm, h4⟩
  · rintro ⟨h1, h2, h3, h4⟩
    exact ⟨⟨h1, h3.symm, by omega⟩, h4⟩
set_option maxHeartbeats 12800000 in
theorem fields12_walk (d : Nat) (cs : List Value) (t : VT) (key : List UInt8) (kind : Int) (v : Value) (S : List (List UInt8)) (W : World) (h : IsV W d cs t) (hv : Strs W v S) (hS : ∀ k ∈ S, k.length ≤ maxLen) (her : ErrAt W) :
    Calls Tryd.prog 4 #[.agg cs.toArray, .string ⟨key.toArray⟩, .int .i64 kind, v] W fun e w' => e = .returned (.bool true) ∧ Below W.heap.size W w' := by
  obtain ⟨d, rfl⟩ : ∃ e, d = e + 1 := by
    cases d with
    | zero => exact h.elim
    | succ d => exact ⟨d, rfl⟩
  have HC := Lib.hid (fun (w1 : World) (hb : Below W.heap.size W w1) => refCount_any (d + 1) cs t 2100 w1 (h.below hb) (by decide) (by decide))
  have HAl := Lib.hid (fun (w1 : World) (hb : Below W.heap.size W w1) => alive12_any w1 (her.below hb))
  have hrow := strs_row hv
  obtain ⟨a0, c0, rfl, hc0, hm0, hn0⟩ := hrow.form
  clear hv her
  rw [List.length_map] at hrow hc0 ⊢
  obtain ⟨r, hr⟩ : ∃ r : Nat, r = min S.length 20 := ⟨_, rfl⟩
  have hrI : min (S.length : Int) 20 = (r : Int) := by omega
  have hrS : r ≤ S.length := by omega
  have hr20 : r ≤ 20 := by omega
  obtain ⟨ks, hks⟩ : ∃ L, S.take r = L := ⟨_, rfl⟩
  have hkl : ks.length = r := by rw [← hks, List.length_take]; omega
  have hkm : ∀ k ∈ ks, k.length ≤ maxLen := fun k hk => hS k (by rw [← hks] at hk; exact List.mem_of_mem_take hk)
  clear hr hS
  have hcap : S.length ≤ 9223372036854775807 := by unfold maxLen at hm0; omega
  have hc5 := (isV_onesG h).1
  have HV := Lib.hid h
  have hbW := (Below.refl W.heap.size W).alloc (Nat.le_refl _) (.cells cs.toArray 25)
  have lA := Lies.new W 25 cs.toArray
  have HRow := Lib.hid (fun (w1 : World) (hb : Below W.heap.size W w1) => hrow.below hb)
  clear h hrow
  go_enter Tryd.func4, Tryd.ntmps4
  go_upto_region 1 with fail
  generalize World.alloc W _ = wa at *
  obtain ⟨b0, hb0⟩ : ∃ b, b = W.heap.size := ⟨_, rfl⟩
  rw [← hb0] at lA ⊢
  clear hb0
  by_cases hcn : 2100 < t.cnt 2100
  · go_wp2_with (first
      | ((with_reducible refine wpL_load b0 25 cs.toArray 5 rowVal hc5 lA ?_ ?_); rfl)
      | (go_at_call 10; refine (HC.out _ hbW).mono ?_; rintro e w1 ⟨rfl, hb1⟩; replace hbW := below_on hbW hb1)
      | (go_at_call 8; refine (HAl.out _ hbW).mono ?_; rintro e w2 ⟨rfl, hb2⟩))
    go_ret
    exact ⟨rfl, below_on hbW hb2⟩
  go_upto_region 3 with (first
    | ((with_reducible refine wpL_load b0 25 cs.toArray 5 rowVal hc5 lA ?_ ?_); rfl)
    | (go_at_call 10; refine (HC.out _ hbW).mono ?_; rintro e w1 ⟨rfl, hb1⟩; replace lA := lA.on hb1; replace hbW := below_on hbW hb1))
  clear HC hb1 hcn
  have hrow1 := HRow.out _ hbW
  go_upto_region 4 with ((with_reducible refine wpL_cutR a0 S.length c0 r _ hrow1 hrS ?_ ?_ ?_); rfl; (first | rfl | (show Value.int .i64 (min (S.length : Int) 20) = _; rw [hrI])); intro v8 hR8; rw [← List.map_take, hks] at hR8; obtain ⟨a8, c8, rfl, _, _, _⟩ := hR8.form; rw [List.length_map, hkl] at hR8 ⊢)
  clear hrow1 HRow hrI hrS hks hcap hn0 hm0 hc0
  have HF := Lib.hid (field_any d cs t key kind w1 (HV.out.below hbW))
  obtain ⟨FV, hFV⟩ : ∃ r, fieldV t key kind = r := ⟨_, rfl⟩
  rw [hFV] at HF
  go_upto_region 5 with (first
    | ((with_reducible refine wpL_load b0 25 cs.toArray 5 rowVal hc5 lA ?_ ?_); rfl)
    | (go_at_call 11; refine (HF.out).mono ?_; rintro e w2 ⟨cs1, rfl, HX1, hb2⟩; have hx1 := HX1.out _ hb2)
    | ((with_reducible refine wpL_store w2.heap.size 25 valZ cs1.toArray 5 rowVal rfl (isV_onesG hx1).1 (isV_onesG hx1).2 (Lies.new w2 _ _) ?_ ?_ ?_); rfl; rfl))
  have hbY := below_rowSet ((Below.refl w2.heap.size w2).alloc (Nat.le_refl _) (.cells valZ 25)) (Nat.le_refl _) cs1.toArray
  have lX := (Lies.new w2 25 valZ).row cs1.toArray
  have hb3 := hb2.trans (hbY.mono hb2.size)
  have hx1c := (isV_onesG hx1).1
  have lA3 := lA.on hb3
  have hR3 := hR8.below hb3
  have hbW3 := hbW.trans (hb3.mono hbW.size)
  clear HF hx1 lA hbY hb2 hR8
  generalize World.setRow _ _ _ = w3 at *
  generalize w2.heap.size = bx at *
  have HL := Lib.hid (fieldsY_any d cs t _ ks w3 (HV.out.below hbW3) hR3 hkm (by omega))
  go_upto_region 6 with (first
    | ((with_reducible refine wpL_load b0 25 cs.toArray 5 rowVal hc5 lA3 ?_ ?_); rfl)
    | (go_at_call 12; refine (HL.out).mono ?_; intro e w4 hpost; obtain ⟨al, nl, cl, fe, rfl, HT, hb4⟩ := hpost.form; clear hpost))
  have lA4 := lA3.on hb4
  have lX4 := lX.on hb4
  have hbW4 := hbW3.trans (hb4.mono hbW3.size)
  have hb14 := hb3.trans (hb4.mono hb3.size)
  clear HL lA3 lX hb3
  have HG := Lib.hid (getY_any d cs t key W w4 hbW4 HV.out)
  obtain ⟨GV, hGV⟩ : ∃ r, getV t key = r := ⟨_, rfl⟩
  unfold getT at HG
  rw [hGV] at HG
  go_upto_region 7 with (first
    | ((with_reducible refine wpL_load b0 25 cs.toArray 5 rowVal hc5 lA4 ?_ ?_); rfl)
    | (go_at_call 13; refine (HG.out).mono ?_; rintro e w5 ⟨cs2, rfl, HX2, hb5⟩; have hx2 := HX2.out _ (below_on hbW4 hb5))
    | ((with_reducible refine wpL_store w5.heap.size 25 valZ cs2.toArray 5 rowVal rfl (isV_onesG hx2).1 (isV_onesG hx2).2 (Lies.new w5 _ _) ?_ ?_ ?_); rfl; rfl))
  have hbZ := below_rowSet ((Below.refl w5.heap.size w5).alloc (Nat.le_refl _) (.cells valZ 25)) (Nat.le_refl _) cs2.toArray
  have lY := (Lies.new w5 25 valZ).row cs2.toArray
  have hb6 := hb5.trans (hbZ.mono hb5.size)
  have hx2c := (isV_onesG hx2).1
  have lA6 := lA4.on hb6
  have lX6 := lX4.on hb6
  have hbW6 := hbW4.trans (hb6.mono hbW4.size)
  have hb16 := hb14.trans (hb6.mono hb14.size)
  have hb46 := hb4.trans (hb6.mono hb4.size)
  clear HG hx2 lA4 lX4 hbZ hb5
  generalize World.setRow _ _ _ = w6 at *
  generalize w5.heap.size = by_ at *
  have HX1w := Lib.hid (HX1.out w6 hb16)
  have HX2w := Lib.hid (HX2.out w6 hbW6)
  have kX : w6.cell? ⟨bx, 0, none⟩ = some (.int .i64 (FV.getD zeroT).kind) := by
    obtain ⟨_, _, _, _, hcs⟩ := HX1w.out.form
    rw [hcs] at lX6
    exact lX6.cell 0
  have kY : w6.cell? ⟨by_, 0, none⟩ = some (.int .i64 (GV.getD zeroT).kind) := by
    obtain ⟨_, _, _, _, hcs⟩ := HX2w.out.form
    rw [hcs] at lY
    exact lY.cell 0
  have hfil : GV.filter (fun y => y.kind == kind) = FV := by rw [← hGV, ← hFV]; rfl
  generalize hE10 : (if FV.isSome = true then (0 : Int) else 24) = e10 at *
  generalize hB14 : GV.isSome = is14 at *
  obtain ⟨B, hB⟩ : ∃ B, (is14 && ((GV.getD zeroT).kind == kind)) = B := ⟨_, rfl⟩
  have hBt : B = true → e10 = 0 ∧ FV = GV := fun e => by
    subst e
    rw [Bool.and_eq_true] at hB
    cases hGV2 : GV with
    | none => rw [hGV2] at hB14; rw [← hB14] at hB; simp at hB
    | some y =>
      rw [hGV2] at hfil hB
      have h1 : (y.kind == kind) = true := hB.2
      rw [Option.filter_some, if_pos h1] at hfil
      rw [← hfil] at hE10
      exact ⟨hE10.symm, hfil.symm⟩
  have hBf : B = false → e10 = 24 ∧ FV = none := fun e => by
    subst e
    cases hGV2 : GV with
    | none =>
      rw [hGV2] at hfil
      have h1 : FV = none := hfil.symm
      rw [h1] at hE10
      exact ⟨hE10.symm, h1⟩
    | some y =>
      rw [hGV2] at hfil hB hB14
      have h1 : (y.kind == kind) = false := by rw [← hB14] at hB; exact hB
      rw [Option.filter_some, if_neg (by rw [h1]; simp)] at hfil
      rw [← hfil] at hE10
      exact ⟨hE10.symm, hfil.symm⟩
  clear hfil hE10 hB14 hFV hGV HX1 HX2
  generalize hyk : (GV.getD zeroT).kind = yk at *
  clear hyk
  go_cut [61] from 55 to 61 (fun s wx => s = .bool B ∧ wx = w6)
  case first =>
    clear hBt hBf kX HV HX1w HX2w lX6 lY
    cases is14 with
    | false =>
      rw [Bool.false_and] at hB
      subst hB
      go_wp2
      go_meet
      exact ⟨rfl, rfl⟩
    | true =>
      rw [Bool.true_and] at hB
      go_wp2
      go_meet
      exact ⟨by rw [← hB], rfl⟩
  case rest =>
    obtain ⟨rfl, hw6⟩ := hcut
    replace hw6 := hw6.symm
    subst hw6
    clear hB kY
    go_upto_if 61 with fail
    go_cut [] from 62 to 76 (fun wx => Below w6.heap.size w6 wx)
    case first =>
      cases B with
      | true =>
        obtain ⟨rfl, rfl⟩ := hBt rfl
        obtain ⟨z1, z2, z3, z4, hcs1⟩ := HX1w.out.form
        obtain ⟨y1, y2, y3, y4, hcs2⟩ := HX2w.out.form
        subst hcs1 hcs2
        have HS := Lib.hid (refSame_any (d + 1) _ _ _ _ w6 HX1w.out HX2w.out)
        rw [decide_eq_true rfl] at HS
        have p0 := lX6.cell 0; have p1 := lX6.cell 1; have p2 := lX6.cell 2; have p3 := lX6.cell 3; have p4 := lX6.cell 4
        have r0 := lY.cell 0; have r1 := lY.cell 1; have r2 := lY.cell 2; have r3 := lY.cell 3; have r4 := lY.cell 4
        simp only [List.getElem?_toArray, List.getElem?_cons_succ, List.getElem?_cons_zero] at p0 p1 p2 p3 p4 r0 r1 r2 r3 r4
        clear HX1w HX2w HV kX hBf hBt
        go_wp2_with (go_at_call 9; refine (HS.out).mono ?_; rintro e w7 ⟨rfl, hb7⟩)
        go_meet
        exact hb7
      | false =>
        obtain ⟨rfl, rfl⟩ := hBf rfl
        clear HX1w HX2w HV hBf hBt
        go_wp2
        go_meet
        exact Below.refl _ _
    case rest =>
      obtain ⟨w7, rfl⟩ : ∃ w7, w7 = wc := ⟨_, rfl⟩
      obtain ⟨ai, ci, ak, ck, hcs⟩ := HV.out.form
      subst hcs
      have lA7 := lA6.on hcut
      have lBk := Lib.hid (fun (w' : World) (hb : Below w7.heap.size w7 w') => lA7.on hb)
      have hbW7 := hbW6.trans (hcut.mono hbW6.size)
      have hb17 := hb16.trans (hcut.mono hb16.size)
      have hb47 := hb46.trans (hcut.mono hb46.size)
      have hR7 := hR3.below hb47
      have q0 := lA7.cell 0; have q3 := lA7.cell 3; have q4 := lA7.cell 4; simp only [List.getElem?_toArray, List.getElem?_cons_succ, List.getElem?_cons_zero] at q0 q3 q4
      have h4w7 := Lib.hid (hb6.trans (hcut.mono hb6.size))
      clear hBt hBf kX HX1w HX2w lX6 lY hx1c hx2c lA6 hbW6 hb16 hb46 hcut hb14 hbW4 hbW3 hbW hb4 hR3
      go_upto_region 12 with fail
      obtain ⟨J0, hJ0⟩ : ∃ J, baseB t ks.length = J := ⟨_, rfl⟩
      rw [hkl] at hJ0
      unfold baseB at hJ0
      go_cut [15] from 77 to 95 (fun s wx => s = .bool J0 ∧ wx = w7)
      case first =>
        clear HV lBk hR7 lA7
        by_cases h4 : t.kind = 4
        case neg =>
          have h5 : (t.kind == 4) = false := by simp [h4]
          rw [decide_eq_false h4, Bool.false_and] at hJ0
          subst hJ0
          clear h4
          go_wp2
          go_meet
          exact ⟨rfl, rfl⟩
        have h5 : (t.kind == 4) = true := by simp [h4]
        rw [decide_eq_true h4, Bool.true_and] at hJ0
        clear h4
        by_cases h6 : t.keys.length = r
        case neg =>
          have h7 : ((t.keys.length : Int) == (r : Int)) = false := beq_false_of_ne (by omega)
          rw [decide_eq_false h6, Bool.false_and] at hJ0
          subst hJ0
          clear h6
          go_wp2
          go_meet
          exact ⟨rfl, rfl⟩
        have h7 : ((t.keys.length : Int) == (r : Int)) = true := by rw [h6]; exact beq_self_eq_true _
        rw [decide_eq_true h6, Bool.true_and] at hJ0
        clear h6
        by_cases h8 : t.items.length = r
        case neg =>
          have h9 : ((t.items.length : Int) == (r : Int)) = false := beq_false_of_ne (by omega)
          rw [decide_eq_false h8] at hJ0
          subst hJ0
          clear h8
          go_wp2
          go_meet
          exact ⟨rfl, rfl⟩
        have h9 : ((t.items.length : Int) == (r : Int)) = true := by rw [h8]; exact beq_self_eq_true _
        rw [decide_eq_true h8] at hJ0
        subst hJ0
        clear h8
        go_wp2
        go_meet
        exact ⟨rfl, rfl⟩
      case rest =>
        obtain ⟨rfl, hw7⟩ := hcut
        replace hw7 := hw7.symm
        subst hw7
        have HJ0 := Lib.hid hJ0
        have HRkey := Lib.hid ((strs_row HV.out.keyRow).below hbW7)
        clear hJ0
        clear q0 q3 q4
        go_wp2
        go_loopw [15, 16, 17, 18, 20, 22, 98] (fun jv _ _ _ _ _ iv wr => ∃ j : Nat, iv = .int .i64 (j : Int) ∧ j ≤ r ∧ jv = .bool (J0 && goodN t.keys ks j) ∧ wr = w7) (fun _ _ _ _ _ _ iv _ => r - (intOf iv).toNat)
        case atStart => exact ⟨0, rfl, Nat.zero_le _, by rw [show goodN t.keys ks 0 = true from rfl, Bool.and_true], rfl⟩
        case round =>
          obtain ⟨j, rfl, hj, rfl, hwr⟩ := hrel
          replace hwr := hwr.symm
          subst hwr
          obtain ⟨J, hJ⟩ : ∃ J, (J0 && goodN t.keys ks j) = J := ⟨_, rfl⟩
          rw [hJ]
          by_cases hlt : j < r
          case neg =>
            obtain rfl : j = r := by omega
            have i1 : ¬ (j : Int) < (j : Int) := by omega
            have hjust : J = true ↔ Just t ks := by
              have h := @just_iff t ks
              unfold baseB at h
              rw [hkl] at h
              rw [← hJ, ← HJ0.out]
              exact h
            have hbW9 := hbW7
            cases J with
            | false =>
              rcases HT.out with ⟨_, rfl, rfl⟩ | ⟨hJT, _⟩
              · clear hjust hJ hlt hj HV HRkey lBk
                go_wp2_with (go_at_call 8; refine (HAl.out _ hbW9).mono ?_; rintro e w8 ⟨rfl, hb8⟩)
                go_ret
                exact ⟨rfl, hbW9.trans (hb8.mono hbW9.size)⟩
              · exact absurd (hjust.2 hJT) (by simp)
            | true =>
              rcases HT.out with ⟨hnJ, _⟩ | ⟨hJJ, rfl, rfl, R, hRR, hRl, hRv⟩
              · exact absurd (hjust.1 rfl) hnJ
              rw [hkl] at hRR hRl
              have hself : ((ks.length : Int) != (j : Int)) = false := by rw [hkl]; exact bne_self_eq_false _
              have hself2 : ((j : Int) != (j : Int)) = false := bne_self_eq_false _
              have HRv := Lib.hid hRv
              have HJJ := Lib.hid hJJ
              have HRR := Lib.hid (fun (w' : World) (hb : Below w7.heap.size w7 w') => hRR.below (h4w7.out.trans (hb.mono h4w7.out.size)))
              clear hjust hJ hlt hj hRR hRv hJJ
              go_wp2
              go_loopw [23, 24, 25, 26, 157] (fun _ _ _ _ iv wr => ∃ i : Nat, iv = .int .i64 (i : Int) ∧ i ≤ j ∧ Below w7.heap.size w7 wr) (fun _ _ _ _ iv _ => j - (intOf iv).toNat)
              case atStart => exact ⟨0, rfl, Nat.zero_le _, Below.refl _ _⟩
              case round =>
                obtain ⟨i, rfl, hi, hbr⟩ := hrel
                have hbWr := hbW9.trans (hbr.mono hbW9.size)
                by_cases hlt : i < j
                case neg =>
                  obtain rfl : i = j := by omega
                  clear HV HRv HRR lBk HRkey hlt
                  go_wp2_with (go_at_call 8; refine (HAl.out _ hbWr).mono ?_; rintro e w8 ⟨rfl, hb8⟩)
                  go_ret
                  exact ⟨rfl, hbWr.trans (hb8.mono hbWr.size)⟩
                obtain ⟨k, hk⟩ : ∃ k, ks[i]? = some k := ⟨_, List.getElem?_eq_getElem (by omega)⟩
                obtain ⟨csR, hcsR⟩ : ∃ c, R[i]? = some c := ⟨_, List.getElem?_eq_getElem (by omega)⟩
                obtain ⟨p, y, hp1, hp2, HIY⟩ := HRv.out i k csR hk hcsR
                have hget := just_get HJJ.out hp1 hp2
                obtain ⟨bb, off, rfl, hr, _⟩ := (hR7.below hbr).at (i := i) (cs := oneL k) (by rw [List.getElem?_map, hk]; rfl)
                have q0 := hr 0 (.string ⟨k.toArray⟩) rfl
                rw [Nat.mul_one, Nat.add_zero] at q0
                have i2 : (i : Int) < (j : Int) := by omega
                have i3 : (0 : Int) ≤ (i : Int) := by omega
                have HG := Lib.hid (getY_any d _ t k W wr hbWr HV.out)
                unfold getT at HG
                rw [hget] at HG
                have lB := lBk.out _ hbr
                have HLi := Lib.hid hlt
                clear hr hk hget hp1 hp2 hlt hi
                go_upto_region 39 with (first
                  | ((with_reducible refine wpL_load b0 25 _ 5 rowVal rfl lB ?_ ?_); rfl)
                  | (go_at_call 13; refine (HG.out).mono ?_; rintro e w8 ⟨cs9, rfl, HX9, hb8⟩; have hx9 := HX9.out _ (below_on hbWr hb8))
                  | ((with_reducible refine wpL_store w8.heap.size 25 valZ cs9.toArray 5 rowVal rfl (isV_onesG hx9).1 (isV_onesG hx9).2 (Lies.new w8 _ _) ?_ ?_ ?_); rfl; rfl))
                have hbY := below_rowSet ((Below.refl w8.heap.size w8).alloc (Nat.le_refl _) (.cells valZ 25)) (Nat.le_refl _) cs9.toArray
                have lC := (Lies.new w8 25 valZ).row cs9.toArray
                have hb9 := hb8.trans (hbY.mono hb8.size)
                have hbn := hbr.trans (hb9.mono hbr.size)
                have hbWn := hbWr.trans (hb9.mono hbWr.size)
                clear hbY HG hx9 lB hb8
                generalize World.setRow _ _ _ = w9 at *
                generalize w8.heap.size = c at *
                have hyR := HIY.out _ (hb47.trans (hbn.mono hb47.size))
                have hy9 : IsV w9 (d + 1) cs9 y := HX9.out _ hbWn
                obtain ⟨b5, off5, rfl, hr5, _⟩ := (HRR.out _ hbn).at (i := i) (cs := csR) hcsR
                obtain ⟨z1, z2, z3, z4, hf1⟩ := hyR.form
                obtain ⟨y1, y2, y3, y4, hf2⟩ := hy9.form
                subst hf1 hf2
                have HSm := Lib.hid (reg (W := w9) (fun w hw => by
                  have h := refSame_any (d + 1) _ _ _ _ w ((hyR.mono (Nat.le_succ d)).below hw) (hy9.below hw)
                  rw [decide_eq_true rfl] at h
                  exact h))
                have g0 := hr5 0 _ rfl
                rw [Nat.add_zero] at g0
                have u0 := cell_regrown g0
                clear g0
                have u1 := cell_regrown (hr5 1 _ rfl); have u2 := cell_regrown (hr5 2 _ rfl); have u3 := cell_regrown (hr5 3 _ rfl); have u4 := cell_regrown (hr5 4 _ rfl)
                have p0 := lC.cell 0; have p1 := lC.cell 1; have p2 := lC.cell 2; have p3 := lC.cell 3; have p4 := lC.cell 4
                simp only [List.getElem?_toArray, List.getElem?_cons_succ, List.getElem?_cons_zero] at p0 p1 p2 p3 p4
                have s0 := cell_regrown p0; have s1 := cell_regrown p1; have s2 := cell_regrown p2; have s3 := cell_regrown p3; have s4 := cell_regrown p4
                clear hr5 p0 p1 p2 p3 p4 hyR hy9 HX9 HIY hcsR HRv HRR HV HRkey lBk lC
                refine wp_region_quiet_below (by kernel_rfl) (by kernel_rfl) ?_
                repeat (go_big_quiet_step (first | with_reducible exact HSm.out _ _))
                refine wpQuiet_nil ?_
                intro _ hw'
                obtain ⟨⟨dq, osq⟩, hw''⟩ := hw'
                subst hw''
                have hbb := below_regrown w9 dq osq
                go_wp2
                go_roundw
                case rel => exact ⟨i + 1, by go_num, HLi.out, hbn.trans (hbb.mono hbn.size)⟩
                case measure =>
                  have := HLi.out
                  simp [intOf]; omega
          obtain ⟨k, hk⟩ : ∃ k, ks[j]? = some k := ⟨_, List.getElem?_eq_getElem (by omega)⟩
          obtain ⟨bb, off, rfl, hr, _⟩ := hR7.at (i := j) (cs := oneL k) (by rw [List.getElem?_map, hk]; rfl)
          have q0 := hr 0 (.string ⟨k.toArray⟩) rfl
          rw [Nat.mul_one, Nat.add_zero] at q0
          have q4 := lA7.cell 4; simp only [List.getElem?_toArray, List.getElem?_cons_succ, List.getElem?_cons_zero] at q4
          have i1 : (j : Int) < (r : Int) := by omega
          have i2 : (0 : Int) ≤ (j : Int) := by omega
          have HJj := Lib.hid (show (J0 && goodN t.keys ks (j + 1)) = (J && (decide (k ∈ t.keys) && !decide (k ∈ ks.take j))) by rw [goodN_succ hk, ← hJ, Bool.and_assoc])
          clear hJ hr
          go_upto_block 2 with fail
          go_cut [18, 20] from 106 to 115 (fun nv _ wx => nv = .int .i64 ((t.keys.count k : Nat) : Int) ∧ wx = w7)
          case first =>
            clear HJj HV lBk
            go_wp2
            go_loopw [18, 20, 106] (fun nv _ iv wr => ∃ q : Nat, iv = .int .i64 (q : Int) ∧ q ≤ t.keys.length ∧ nv = .int .i64 (((t.keys.take q).count k : Nat) : Int) ∧ wr = w7) (fun _ _ iv _ => t.keys.length - (intOf iv).toNat)
            case atStart => exact ⟨0, rfl, Nat.zero_le _, rfl, rfl⟩
            case round =>
              obtain ⟨q, rfl, hq, rfl, hwr⟩ := hrel
              replace hwr := hwr.symm
              subst hwr
              by_cases hql : q < t.keys.length
              case neg =>
                obtain rfl : q = t.keys.length := by omega
                have j1 : ¬ (t.keys.length : Int) < (t.keys.length : Int) := by omega
                rw [List.take_length]
                clear hql hq
                go_wp2
                go_meet
                exact ⟨rfl, rfl⟩
              obtain ⟨o, ho⟩ : ∃ o, t.keys[q]? = some o := ⟨_, List.getElem?_eq_getElem hql⟩
              obtain ⟨b3, off3, hak, hr3, _⟩ := HRkey.out.at (i := q) (cs := oneL o) (by rw [List.getElem?_map, ho]; rfl)
              subst hak
              have q1 := hr3 0 (.string ⟨o.toArray⟩) rfl
              rw [Nat.mul_one, Nat.add_zero] at q1
              have j1 : (q : Int) < (t.keys.length : Int) := by omega
              have j2 : (0 : Int) ≤ (q : Int) := by omega
              have hcount : (t.keys.take (q + 1)).count k = (t.keys.take q).count k + (if o = k then 1 else 0) := by
                rw [List.take_add_one, ho, List.count_append]
                simp [List.count_cons, List.count_nil]
              have HCo := Lib.hid hcount
              have HQ := Lib.hid hql
              have hcl : (t.keys.take q).count k ≤ q := Nat.le_trans List.count_le_length (by rw [List.length_take]; omega)
              clear hr3 ho hcount hql
              have hcapk : t.keys.length ≤ 9223372036854775807 := by
                obtain ⟨a', c', e, h1, h2, _⟩ := HRkey.out.form
                unfold maxLen at h2
                rw [List.length_map] at h1
                omega
              have hcl2 : ((t.keys.take q).count k : Int) + 1 ≤ 9223372036854775807 := by omega
              by_cases hok : o = k
              · rw [if_pos hok] at HCo
                subst hok
                go_wp2
                go_roundw
                case rel => exact ⟨q + 1, by go_num, HQ.out, by rw [HCo.out]; go_num, by first | trivial | rfl⟩
                case measure =>
                  have := HQ.out
                  simp [intOf]; omega
              · rw [if_neg hok, Nat.add_zero] at HCo
                have hbe : (o == k) = false := beq_false_of_ne hok
                clear hok
                go_wp2
                go_roundw
                case rel => exact ⟨q + 1, by go_num, HQ.out, by rw [HCo.out]; go_num, by first | trivial | rfl⟩
                case measure =>
                  have := HQ.out
                  simp [intOf]; omega
          case rest =>
            obtain ⟨rfl, hwr⟩ := hcut
            replace hwr := hwr.symm
            subst hwr
            clear q4
            obtain ⟨N, hN⟩ : ∃ N, t.keys.count k = N := ⟨_, rfl⟩
            rw [hN]
            go_upto_block 4 with ((with_reducible refine wpL_cutR (some ⟨bb, off, none⟩) r c8 j _ hR7 (by omega) ?_ ?_ ?_); rfl; rfl; intro v18 hR18; rw [← List.map_take] at hR18; obtain ⟨a18, c18, rfl, _, _, _⟩ := hR18.form; rw [List.length_map, List.length_take, hkl, Nat.min_eq_left hj] at hR18 ⊢)
            go_cut [18, 22] from 120 to 127 (fun nv _ wx => nv = .int .i64 (if k ∈ ks.take j then 0 else (N : Int)) ∧ wx = w7)
            case first =>
              have htl : (ks.take j).length = j := by rw [List.length_take]; omega
              have HTL := Lib.hid htl
              generalize ks.take j = ts at *
              clear HJj HV lBk htl
              go_wp2
              go_loopw [18, 22, 120] (fun nv _ iv wr => ∃ q : Nat, iv = .int .i64 (q : Int) ∧ q ≤ j ∧ nv = .int .i64 (if k ∈ ts.take q then 0 else (N : Int)) ∧ wr = w7) (fun _ _ iv _ => j - (intOf iv).toNat)
              case atStart => exact ⟨0, rfl, Nat.zero_le _, by rw [List.take_zero, if_neg (by simp)], rfl⟩
              case round =>
                obtain ⟨q, rfl, hq, rfl, hwr⟩ := hrel
                replace hwr := hwr.symm
                subst hwr
                obtain ⟨Z, hZ⟩ : ∃ Z, (if k ∈ ts.take q then (0 : Int) else (N : Int)) = Z := ⟨_, rfl⟩
                rw [hZ]
                have HZ := Lib.hid hZ
                clear hZ
                by_cases hql : q < j
                case neg =>
                  obtain rfl : q = j := by omega
                  have j1 : ¬ (q : Int) < (q : Int) := by omega
                  have HZ2 := Lib.hid (show (if k ∈ ts then (0 : Int) else (N : Int)) = Z by
                    have := HZ.out
                    rwa [List.take_of_length_le (by have := HTL.out; omega)] at this)
                  clear hql hq HZ
                  go_wp2
                  go_meet
                  exact ⟨by rw [HZ2.out], rfl⟩
                obtain ⟨o, ho⟩ : ∃ o, ts[q]? = some o := ⟨_, List.getElem?_eq_getElem (by have := HTL.out; omega)⟩
                obtain ⟨b3, off3, hak, hr3, _⟩ := hR18.at (i := q) (cs := oneL o) (by rw [List.getElem?_map, ho]; rfl)
                subst hak
                have q1 := hr3 0 (.string ⟨o.toArray⟩) rfl
                rw [Nat.mul_one, Nat.add_zero] at q1
                have j1 : (q : Int) < (j : Int) := by omega
                have j2 : (0 : Int) ≤ (q : Int) := by omega
                have HQ := Lib.hid hql
                have htk : ts.take (q + 1) = ts.take q ++ [o] := by rw [List.take_add_one, ho]; rfl
                have HTK := Lib.hid htk
                clear hr3 ho hql htk
                by_cases hok : o = k
                · have HZ3 := Lib.hid (show (if k ∈ ts.take (q + 1) then (0 : Int) else (N : Int)) = 0 by rw [HTK.out, if_pos (by simp [hok])])
                  subst hok
                  clear HZ HTK
                  go_wp2
                  go_roundw
                  case rel => exact ⟨q + 1, by go_num, HQ.out, by rw [HZ3.out], by first | trivial | rfl⟩
                  case measure =>
                    have := HQ.out
                    simp [intOf]; omega
                · have HZ3 := Lib.hid (show (if k ∈ ts.take (q + 1) then (0 : Int) else (N : Int)) = Z by
                    rw [← HZ.out, HTK.out]
                    have e : (k ∈ ts.take q ++ [o]) ↔ k ∈ ts.take q := by
                      rw [List.mem_append, List.mem_singleton]
                      exact ⟨fun h => h.elim id fun h => absurd h.symm hok, .inl⟩
                    simp only [e])
                  have hbe : (o == k) = false := beq_false_of_ne hok
                  clear hok HZ HTK
                  go_wp2
                  go_roundw
                  case rel => exact ⟨q + 1, by go_num, HQ.out, by rw [HZ3.out], by first | trivial | rfl⟩
                  case measure =>
                    have := HQ.out
                    simp [intOf]; omega
            case rest =>
              obtain ⟨rfl, hwr⟩ := hcut
              replace hwr := hwr.symm
              subst hwr
              obtain ⟨Vn, hVn⟩ : ∃ V, (if k ∈ ks.take j then (0 : Int) else (N : Int)) = V := ⟨_, rfl⟩
              rw [hVn]
              have HLt := Lib.hid hlt
              have hNp : k ∈ t.keys ↔ 0 < N := by rw [← hN]; exact List.count_pos_iff.symm
              cases J with
              | false =>
                have HJ2 := Lib.hid (show (J0 && goodN t.keys ks (j + 1)) = false by rw [HJj.out]; rfl)
                clear HJj hVn hN hk hNp hR18
                go_wp2
                go_roundw
                case rel => exact ⟨j + 1, by go_num, HLt.out, by rw [HJ2.out], by first | trivial | rfl⟩
                case measure =>
                  have := HLt.out
                  simp [intOf]; omega
              | true =>
                by_cases hG : k ∈ t.keys ∧ k ∉ ks.take j
                · have HJ2 := Lib.hid (show (J0 && goodN t.keys ks (j + 1)) = true by rw [HJj.out, decide_eq_true hG.1, decide_eq_false hG.2]; rfl)
                  rw [if_neg hG.2] at hVn
                  have hpos : (0 : Int) < Vn := by have := hNp.1 hG.1; omega
                  clear HJj hVn hN hk hNp hR18 hG
                  go_wp2
                  go_roundw
                  case rel => exact ⟨j + 1, by go_num, HLt.out, by rw [HJ2.out], by first | trivial | rfl⟩
                  case measure =>
                    have := HLt.out
                    simp [intOf]; omega
                · have HJ2 := Lib.hid (show (J0 && goodN t.keys ks (j + 1)) = false by
                    rw [HJj.out]
                    rcases Decidable.not_and_iff_or_not.1 hG with h | h
                    · rw [decide_eq_false h]; rfl
                    · rw [decide_eq_true (Decidable.of_not_not h)]; simp)
                  have hV0 : Vn = 0 := by
                    rw [← hVn]
                    by_cases h : k ∈ ks.take j
                    · rw [if_pos h]
                    · rw [if_neg h]
                      have h2 : k ∉ t.keys := fun h3 => hG ⟨h3, h⟩
                      have : ¬ 0 < N := fun h3 => h2 (hNp.2 h3)
                      omega
                  subst hV0
                  clear HJj hVn hN hk hNp hR18 hG
                  go_wp2
                  go_roundw
                  case rel => exact ⟨j + 1, by go_num, HLt.out, by rw [HJ2.out], by first | trivial | rfl⟩
                  case measure =>
                    have := HLt.out
                    simp [intOf]; omega
end Go.Proofs.YtmbmeidkmhajbaaDoor.V
