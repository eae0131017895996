/- The statement ParseDeep, walked. -/
import Derived.Test.YtnloimanklkigaaDoorYParse
import Derived.Test.YtnloimanklkigaaDoorYOrder
import Derived.Test.YtnloimanklkigaaDoorYCut
import Derived.Test.YtnloimanklkigaaDoorShelfRp
namespace Go.Proofs.YtnloimanklkigaaDoor.V
open Go.RowKit Go.Sort Go.Joins
set_option maxRecDepth 100000

def codeOf : Rd VT → Int
  | .ok _ _ => 0
  | .bad e => e
def kindOf : Rd VT → Int
  | .ok t _ => t.kind
  | .bad _ => 0
def CodePost (w : World) (s : List UInt8) (e : Ending) (w' : World) : Prop :=
  ∃ n st ai ni ci ak nk ck, e = .returned (.tuple #[.agg #[.int .i64 (kindOf (rdP s)), .int .i64 n, .string st, .slice ai ni ci, .slice ak nk ck], .int .i64 (codeOf (rdP s))]) ∧ RowKit.Below w.heap.size w w'
theorem parse_code (s : List UInt8) (w : World) (her : ErrAt w) : Calls Tryd.prog 9 #[.string ⟨s.toArray⟩] w fun e w' => CodePost w s e w' := by
  refine (parse_any ⟨s.toArray⟩ w her).mono ?_
  rintro e w' (⟨er', hX, rfl, hb⟩ | ⟨cs, t', d, hX, rfl, hx, hb⟩)
  · rw [show (⟨s.toArray⟩ : ByteArray).data.toList = s from rfl] at hX
    unfold CodePost
    rw [hX]
    exact ⟨_, _, _, _, _, _, _, _, rfl, hb⟩
  · rw [show (⟨s.toArray⟩ : ByteArray).data.toList = s from rfl] at hX
    obtain ⟨ai, ci, ak, ck, rfl⟩ := hx.form
    unfold CodePost
    rw [hX]
    exact ⟨_, _, _, _, _, _, _, _, rfl, hb⟩
theorem repeat_one (c : UInt8) : ∀ n : Nat, Lib.repeatL [c] n = List.replicate n c := by
  intro n
  induction n with
  | zero => rfl
  | succ n ih => rw [List.replicate_succ, ← ih]; simp [Lib.repeatL]
theorem deepA {m : Nat} (h1 : 1 ≤ m) (h2 : m ≤ 40) : codeOf (rdP (List.replicate m 91 ++ List.replicate m 93)) = if m ≤ 12 then 0 else 21 := by
  obtain ⟨j, rfl⟩ : ∃ j, m = j + 1 := ⟨m - 1, by omega⟩
  by_cases h : j + 1 ≤ 12
  · rw [if_pos h]
    have hE : (.mk 3 0 [] [] [] : VT).each = true := by simp [each_eq, eachL_nil, oneB, textOk, keysOk_nil]
    have hd : (.mk 3 0 [] [] [] : VT).depth = 1 := by simp [depth_eq, depthL_nil]
    have hc : (.mk 3 0 [] [] [] : VT).count = 1 := by simp [count_eq, countL_nil]
    have hw : (.mk 3 0 [] [] [] : VT).wr = [91, 93] := by simp [wr_eq, wrL_nil]
    have hn := rdP_nest hE j (by rw [hd]; omega) (by rw [hc]; omega) (by rw [(nest_is _ hE j).1, hw]; simp; omega)
    have he : List.replicate (j + 1) (91 : UInt8) ++ List.replicate (j + 1) 93 = List.replicate j 91 ++ ((.mk 3 0 [] [] [] : VT).wr ++ List.replicate j 93) := by
      rw [hw, List.replicate_succ', List.replicate_succ]
      simp
    rw [he, hn]
    rfl
  · rw [if_neg h]
    have he : List.replicate (j + 1) (91 : UInt8) ++ List.replicate (j + 1) 93 = List.replicate j 91 ++ (91 :: List.replicate (j + 1) 93) := by
      rw [List.replicate_succ' (n := j) (a := (91 : UInt8))]
      simp
    rw [he, rdP_opens (by simp) (by omega) (by simp; omega)]
    rfl
theorem deepB {m : Nat} (h1 : 1 ≤ m) (h2 : m ≤ 40) : codeOf (rdP (List.replicate (m - 1) 91 ++ ([55] ++ List.replicate (m - 1) 93))) = if m ≤ 12 then 0 else 21 := by
  obtain ⟨j, rfl⟩ : ∃ j, m = j + 1 := ⟨m - 1, by omega⟩
  rw [Nat.add_sub_cancel]
  by_cases h : j + 1 ≤ 12
  · rw [if_pos h]
    have hE : (.mk 1 7 [] [] [] : VT).each = true := by simp [each_eq, eachL_nil, oneB, textOk, keysOk_nil]
    have hd : (.mk 1 7 [] [] [] : VT).depth = 1 := by simp [depth_eq, depthL_nil]
    have hc : (.mk 1 7 [] [] [] : VT).count = 1 := by simp [count_eq, countL_nil]
    have hw : (.mk 1 7 [] [] [] : VT).wr = [55] := by
      have e : Lib.itoa 7 = [55] := by
        unfold Lib.itoa
        rw [if_neg (by decide), Lib.decDigits_one (by decide)]
        rfl
      simp [wr_eq, e]
    have hn := rdP_nest hE j (by rw [hd]; omega) (by rw [hc]; omega) (by rw [(nest_is _ hE j).1, hw]; simp; omega)
    rw [hw] at hn
    rw [hn]
    rfl
  · rw [if_neg h, rdP_opens (by simp) (by omega) (by simp; omega)]
    rfl
theorem clamp40 (z : Int) : ∃ m : Nat, 1 ≤ m ∧ m ≤ 40 ∧ min (max z 1) 40 = (m : Int) ∧ min (max 1 z) 40 = (m : Int) := ⟨(min (max z 1) 40).toNat, by omega, by omega, by omega, by omega⟩
theorem cat2 (a b : List UInt8) : (⟨a.toArray⟩ : ByteArray) ++ ⟨b.toArray⟩ = ⟨(a ++ b).toArray⟩ := by
  ext1
  simp [ByteArray.data_append]
def CP (w : World) (kd c : Int) (e : Ending) (w' : World) : Prop :=
  ∃ n st ai ni ci ak nk ck, e = .returned (.tuple #[.agg #[.int .i64 kd, .int .i64 n, .string st, .slice ai ni ci, .slice ak nk ck], .int .i64 c]) ∧ RowKit.Below w.heap.size w w'
theorem deep_texts {m k : Nat} (hm1 : 1 ≤ m) (hm2 : m ≤ 40) (hk : k = m - 1) : ∃ (a b c d e tA tB : ByteArray) (cd k1 k2 : Int), ((m ≤ 12 ∧ cd = 0) ∨ (12 < m ∧ cd = 21)) ∧ (a.size ≤ 40 ∧ b.size ≤ 40 ∧ c.size ≤ 40 ∧ d.size ≤ 40 ∧ e.size ≤ 41) ∧ a ++ b = tA ∧ c ++ ⟨#[55]⟩ = e ∧ e ++ d = tB ∧
    Hid (∀ w, Calls Tryd.prog 18 #[.string ⟨#[91]⟩, .int .i64 (m : Int)] w fun e w' => e = .returned (.string a) ∧ Below w.heap.size w w') ∧
    Hid (∀ w, Calls Tryd.prog 18 #[.string ⟨#[93]⟩, .int .i64 (m : Int)] w fun e w' => e = .returned (.string b) ∧ Below w.heap.size w w') ∧
    Hid (∀ w, Calls Tryd.prog 18 #[.string ⟨#[91]⟩, .int .i64 (k : Int)] w fun e w' => e = .returned (.string c) ∧ Below w.heap.size w w') ∧
    Hid (∀ w, Calls Tryd.prog 18 #[.string ⟨#[93]⟩, .int .i64 (k : Int)] w fun e w' => e = .returned (.string d) ∧ Below w.heap.size w w') ∧
    Hid (∀ w, ErrAt w → Calls Tryd.prog 9 #[.string tA] w fun e w' => CP w k1 cd e w') ∧
    Hid (∀ w, ErrAt w → Calls Tryd.prog 9 #[.string tB] w fun e w' => CP w k2 cd e w') := by
  have hR : ∀ (c : UInt8) (n : Nat) (w : World), n ≤ 40 → Calls Tryd.prog 18 #[.string ⟨#[c]⟩, .int .i64 (n : Int)] w fun e w' => e = .returned (.string ⟨(List.replicate n c).toArray⟩) ∧ Below w.heap.size w w' := by
    intro c n w hn
    have h1 : (⟨#[c]⟩ : ByteArray).size * n ≤ 140737488355328 := by rw [show (⟨#[c]⟩ : ByteArray).size = 1 from rfl]; omega
    have := Tryd.strings_Repeat ⟨#[c]⟩ n w (by omega) h1
    rwa [show (⟨#[c]⟩ : ByteArray).data.toList = [c] from rfl, repeat_one] at this
  have hC2 := deepA hm1 hm2
  have hC3 := deepB hm1 hm2
  rw [← hk, ← List.append_assoc] at hC3
  refine ⟨⟨(List.replicate m (91 : UInt8)).toArray⟩, ⟨(List.replicate m (93 : UInt8)).toArray⟩, ⟨(List.replicate k (91 : UInt8)).toArray⟩, ⟨(List.replicate k (93 : UInt8)).toArray⟩, ⟨(List.replicate k (91 : UInt8) ++ [55]).toArray⟩, ⟨(List.replicate m (91 : UInt8) ++ List.replicate m 93).toArray⟩, ⟨(List.replicate k (91 : UInt8) ++ [55] ++ List.replicate k 93).toArray⟩, if m ≤ 12 then 0 else 21, kindOf (rdP (List.replicate m (91 : UInt8) ++ List.replicate m 93)), kindOf (rdP (List.replicate k (91 : UInt8) ++ [55] ++ List.replicate k 93)), ?_, ?_, cat2 _ _, cat2 _ [55], cat2 _ _, Lib.hid (fun w => hR 91 m w hm2), Lib.hid (fun w => hR 93 m w hm2), Lib.hid (fun w => hR 91 k w (by omega)), Lib.hid (fun w => hR 93 k w (by omega)), Lib.hid (fun w h => ?_), Lib.hid (fun w h => ?_)⟩
  · by_cases h : m ≤ 12
    · exact .inl ⟨h, if_pos h⟩
    · exact .inr ⟨by omega, if_neg h⟩
  · simp [ByteArray.size]
    omega
  · rw [← hC2]
    exact parse_code _ w h
  · rw [← hC3]
    exact parse_code _ w h
theorem take_bytes (x : List UInt8) (k : Nat) : (⟨x.toArray⟩ : ByteArray).extract 0 k = ⟨(x.take k).toArray⟩ := by
  apply ByteArray.ext
  apply Array.ext'
  simp [ByteArray.data_extract]
theorem rdP_rest {s : List UInt8} {t : VT} {r : List UInt8} (h : rdP s = .ok t r) : r = [] := by
  unfold rdP at h
  split at h
  · cases h
  · split at h <;> first | (injection h with _ h2; exact h2.symm) | cases h
def CutOk (sb : ByteArray) (q : Nat) (er : Int) : Prop := er = 3 ∨ (er = 20 ∧ ∃ h : 0 < q ∧ q ≤ sb.size, (sb[q - 1]'(by omega)) = 45) ∨ (er = 21 ∧ ∃ h : 0 < q ∧ q ≤ sb.size, (sb[q - 1]'(by omega)) = 91)
theorem last_at {sb : ByteArray} {q : Nat} {c : UInt8} (hq : q ≤ sb.size) (h : (sb.data.toList.take q).getLast? = some c) : ∃ h : 0 < q ∧ q ≤ sb.size, (sb[q - 1]'(by omega)) = c := by
  have hl : sb.data.toList.length = sb.size := rfl
  have h1 : (sb.data.toList.take q).length = q := by rw [List.length_take]; omega
  have h0 : 0 < q := by
    rcases Nat.eq_zero_or_pos q with rfl | h0
    · simp at h
    · exact h0
  refine ⟨⟨h0, hq⟩, ?_⟩
  rw [List.getLast?_eq_getElem?, h1, List.getElem?_take_of_lt (by omega), List.getElem?_eq_getElem (by omega)] at h
  injection h
theorem cut_texts (x : List UInt8) : ∃ (sb : ByteArray) (kS gS : Int), (⟨x.toArray⟩ : ByteArray).extract 0 (min (x.length : Int) 3000).toNat = sb ∧ sb.size ≤ 3000 ∧
    Hid (∀ w, ErrAt w → Calls Tryd.prog 9 #[.string sb] w fun e w' => CP w kS gS e w') ∧
    (gS = 0 → kS ≠ 1 → ∀ q, q < sb.size → ∃ er, CutOk sb q er ∧ Hid (∀ w, ErrAt w → Calls Tryd.prog 9 #[.string (sb.extract 0 q)] w fun e w' => CP w 0 er e w')) := by
  have hm : (min (x.length : Int) 3000).toNat = min x.length 3000 := by omega
  have he : (⟨x.toArray⟩ : ByteArray).extract 0 (min (x.length : Int) 3000).toNat = ⟨(x.take 3000).toArray⟩ := by
    rw [take_bytes, hm]
    congr 2
    rw [List.take_eq_take_iff]
    omega
  have hl : (x.take 3000).length ≤ 3000 := by rw [List.length_take]; omega
  refine ⟨⟨(x.take 3000).toArray⟩, kindOf (rdP (x.take 3000)), codeOf (rdP (x.take 3000)), he, by rw [str_size]; exact hl, Lib.hid (fun w h => parse_code _ w h), fun hg hk q hq => ?_⟩
  rw [str_size] at hq
  generalize x.take 3000 = l at *
  cases hr : rdP l with
  | bad e =>
    rw [hr] at hg
    exfalso
    have : e ≠ 0 := rdP_code hr
    exact this hg
  | ok t r =>
    rw [hr] at hk
    obtain ⟨e, h1, h2⟩ := rdP_cut hr hl hk (p := l.take q) (q := l.drop q) (by intro h; have := congrArg List.length h; simp at this; omega) (List.take_append_drop q l)
    refine ⟨e, ?_, Lib.hid (fun w h => ?_)⟩
    · have hs : (⟨l.toArray⟩ : ByteArray).size = l.length := str_size l
      rcases h2 with h2 | ⟨h2, h3⟩ | ⟨h2, h3⟩
      · exact .inl h2
      · exact .inr (.inl ⟨h2, last_at (by omega) h3⟩)
      · exact .inr (.inr ⟨h2, last_at (by omega) h3⟩)
    · rw [take_bytes]
      have := parse_code (l.take q) w h
      unfold CodePost at this
      rw [h1] at this
      exact this
set_option maxHeartbeats 12800000 in
theorem deep_walk (z y : Int) (x : List UInt8) (W : World) (hy : -9223372036854775808 ≤ y ∧ y ≤ 9223372036854775807) (her : ErrAt W) :
    Calls Tryd.prog 6 #[.int .i64 z, .string ⟨x.toArray⟩, .int .i64 y] W fun e w' => e = .returned (.bool true) ∧ Below W.heap.size W w' := by
  obtain ⟨m, hm1, hm2, hc1, hc2⟩ := clamp40 z
  obtain ⟨k, hk⟩ : ∃ k, k = m - 1 := ⟨_, rfl⟩
  obtain ⟨a, b, c, d, f, tA, tB, cd, k1, k2, hcd, hsz, g1, g2, g3, HR1, HR2, HR3, HR4, HA, HB⟩ := deep_texts hm1 hm2 hk
  have hk1 : (m : Int) - 1 = (k : Int) := by omega
  have hk2 : (k : Int) ≤ 40 := by omega
  obtain ⟨z1, z2, z3, z4, z5⟩ := hsz
  have s1 : ¬ 9223372036854775807 < a.size + b.size := by omega
  have s2 : ¬ 9223372036854775807 < c.size + 1 := by omega
  have s3 : ¬ 9223372036854775807 < f.size + d.size := by omega
  have s4 : (⟨#[55]⟩ : ByteArray).size = 1 := rfl
  clear hk z1 z2 z3 z4 z5
  have hb := RowKit.Below.refl W.heap.size W
  have her0 := her
  go_enter Tryd.func6, Tryd.ntmps6
  go_upto_region 2 with fail
  clear hc1 hc2
  go_upto_region 3 with (first
    | (go_at_call 18; first | (with_reducible refine (HR1.out _).mono ?_; rintro e w1 ⟨rfl, hb1⟩; replace hb := below_on hb hb1) | (with_reducible refine (HR2.out _).mono ?_; rintro e w2 ⟨rfl, hb2⟩; replace hb := below_on hb hb2))
    | (go_at_call 9; refine (HA.out _ (her.below hb)).mono ?_; rintro e w3 ⟨n1, st1, ai1, ni1, ci1, ak1, nk1, ck1, rfl, hb3⟩; replace hb := below_on hb hb3)
    | ((with_reducible refine wpL_store w3.heap.size 25 valZ #[.int .i64 k1, .int .i64 n1, .string st1, .slice ai1 ni1 ci1, .slice ak1 nk1 ck1] 5 rowVal rfl rfl (valC_one _ _ _ _ _ _ _ _ _) (Lies.new w3 _ _) ?_ ?_ ?_); rfl; rfl))
  have hbA := below_rowSet (hb.alloc hb.size (.cells valZ 25)) hb.size #[.int .i64 k1, .int .i64 n1, .string st1, .slice ai1 ni1 ci1, .slice ak1 nk1 ck1]
  clear hb hb1 hb2 hb3
  generalize World.setRow _ _ _ = w4 at *
  generalize w3.heap.size = B1 at *
  go_upto_region 4 with (first
    | (go_at_call 18; first | (with_reducible refine (HR3.out _).mono ?_; rintro e w5 ⟨rfl, hb5⟩; replace hbA := below_on hbA hb5) | (with_reducible refine (HR4.out _).mono ?_; rintro e w6 ⟨rfl, hb6⟩; replace hbA := below_on hbA hb6))
    | (go_at_call 9; refine (HB.out _ (her.below hbA)).mono ?_; rintro e w7 ⟨n2, st2, ai2, ni2, ci2, ak2, nk2, ck2, rfl, hb7⟩; replace hbA := below_on hbA hb7)
    | ((with_reducible refine wpL_store w7.heap.size 25 valZ #[.int .i64 k2, .int .i64 n2, .string st2, .slice ai2 ni2 ci2, .slice ak2 nk2 ck2] 5 rowVal rfl rfl (valC_one _ _ _ _ _ _ _ _ _) (Lies.new w7 _ _) ?_ ?_ ?_); rfl; rfl))
  have hbB := below_rowSet (hbA.alloc hbA.size (.cells valZ 25)) hbA.size #[.int .i64 k2, .int .i64 n2, .string st2, .slice ai2 ni2 ci2, .slice ak2 nk2 ck2]
  clear hbA hb5 hb6 hb7
  generalize World.setRow _ _ _ = w8 at *
  generalize w7.heap.size = B2 at *
  have HV := alive12_any w8 (her.below hbB)
  clear HA HB HR1 HR2 HR3 HR4 g1 g2 g3 s1 s2 s3 s4
  obtain ⟨sb, kS, gS, hsb, hsz, HS, hcut⟩ := cut_texts x
  obtain ⟨q, hq⟩ : ∃ q : Nat, (q : Int) = min (max y 0) (max ((sb.size : Int) - 1) 0) := ⟨(min (max y 0) (max ((sb.size : Int) - 1) 0)).toNat, by omega⟩
  have hq2 : 0 < sb.size → q < sb.size := by omega
  have hq3 : min (max 0 y) (max 0 ((sb.size : Int) - 1)) = (q : Int) := by omega
  replace hq := hq.symm
  have HCUT := Lib.hid hcut
  have HQ2 := Lib.hid hq2
  have HSZ := Lib.hid hsz
  clear hcut hq2
  rcases hcd with ⟨h12, rfl⟩ | ⟨h12, rfl⟩
  · have e12 : (m : Int) ≤ 12 := by omega
    go_upto_region 6 with (go_at_call 11; refine HV.mono ?_; rintro e w9 ⟨rfl, hb9⟩; replace hbB := below_on hbB hb9)
    clear hb9 HV e12
    go_upto_region 7 with fail
    go_upto_region 9 with (first
      | (go_at_call 9; refine (HS.out _ (her.below hbB)).mono ?_; rintro e w10 ⟨n3, st3, ai3, ni3, ci3, ak3, nk3, ck3, rfl, hb10⟩; replace hbB := below_on hbB hb10)
      | ((with_reducible refine wpL_store w10.heap.size 25 valZ #[.int .i64 kS, .int .i64 n3, .string st3, .slice ai3 ni3 ci3, .slice ak3 nk3 ck3] 5 rowVal rfl rfl (valC_one _ _ _ _ _ _ _ _ _) (Lies.new w10 _ _) ?_ ?_ ?_); rfl; rfl))
    have hbC := below_rowSet (hbB.alloc hbB.size (.cells valZ 25)) hbB.size #[.int .i64 kS, .int .i64 n3, .string st3, .slice ai3 ni3 ci3, .slice ak3 nk3 ck3]
    have lv := (Lies.new w10 25 valZ).row #[.int .i64 kS, .int .i64 n3, .string st3, .slice ai3 ni3 ci3, .slice ak3 nk3 ck3]
    clear hbB hb10
    generalize World.setRow _ _ _ = w11 at *
    generalize w10.heap.size = B3 at *
    have q0 := lv.cell 0
    simp only [List.getElem?_toArray, List.getElem?_cons_zero] at q0
    by_cases hg : gS = 0
    · subst hg
      by_cases hk : kS = 1
      · subst hk
        go_wp2
        go_ret
        exact ⟨rfl, hbC⟩
      · by_cases h0 : sb.size = 0
        · have h0' : (sb.size : Int) = 0 := by omega
          go_wp2
          go_ret
          exact ⟨rfl, hbC⟩
        · have h0' : ((sb.size : Int) == 0) = false := beq_eq_false_iff_ne.2 (by omega)
          have hk' : (kS == 1) = false := beq_eq_false_iff_ne.2 hk
          have hqs : q < sb.size := HQ2.out (by omega)
          obtain ⟨er, hce, HC⟩ := HCUT.out rfl hk q hqs
          clear HCUT HQ2 hq hq3
          have HSZ2 := HSZ
          clear HSZ
          go_upto_region 12 with (first
            | (go_at_call 9; refine (HC.out _ (her.below hbC)).mono ?_; rintro e w12 ⟨n4, st4, ai4, ni4, ci4, ak4, nk4, ck4, rfl, hb12⟩; replace hbC := below_on hbC hb12)
            | ((with_reducible refine wpL_store w12.heap.size 25 valZ #[.int .i64 0, .int .i64 n4, .string st4, .slice ai4 ni4 ci4, .slice ak4 nk4 ck4] 5 rowVal rfl rfl (valC_one _ _ _ _ _ _ _ _ _) (Lies.new w12 _ _) ?_ ?_ ?_); rfl; rfl))
          have hbD := below_rowSet (hbC.alloc hbC.size (.cells valZ 25)) hbC.size #[.int .i64 0, .int .i64 n4, .string st4, .slice ai4 ni4 ci4, .slice ak4 nk4 ck4]
          generalize World.setRow _ _ _ = w13 at *
          have hqi : ¬ (q : Int) = 0 → (q : Int) - 1 = ((q - 1 : Nat) : Int) := by omega
          rcases hce with rfl | ⟨rfl, ⟨hq0, hqq⟩, hby⟩ | ⟨rfl, ⟨hq0, hqq⟩, hby⟩
          · go_wp2
            all_goals (go_ret; exact ⟨rfl, hbD⟩)
          · have hi : (sb[q - 1].toNat : Int) = 45 := by rw [hby]; rfl
            have hi2 : 1 ≤ (q : Int) ∧ (q : Int) - 1 < (sb.size : Int) := by omega
            go_wp2
            all_goals (go_ret; exact ⟨rfl, hbD⟩)
          · have hi : (sb[q - 1].toNat : Int) = 91 := by rw [hby]; rfl
            have hi2 : 1 ≤ (q : Int) ∧ (q : Int) - 1 < (sb.size : Int) := by omega
            go_wp2
            all_goals (go_ret; exact ⟨rfl, hbD⟩)
    · go_wp2
      go_ret
      exact ⟨rfl, hbC⟩
  · have e12 : ¬ (m : Int) ≤ 12 := by omega
    have e13 : (12 : Int) < (m : Int) := by omega
    go_upto_region 6 with (go_at_call 11; refine HV.mono ?_; rintro e w9 ⟨rfl, hb9⟩; replace hbB := below_on hbB hb9)
    clear hb9 HV e12 e13
    go_upto_region 7 with fail
    go_upto_region 9 with (first
      | (go_at_call 9; refine (HS.out _ (her.below hbB)).mono ?_; rintro e w10 ⟨n3, st3, ai3, ni3, ci3, ak3, nk3, ck3, rfl, hb10⟩; replace hbB := below_on hbB hb10)
      | ((with_reducible refine wpL_store w10.heap.size 25 valZ #[.int .i64 kS, .int .i64 n3, .string st3, .slice ai3 ni3 ci3, .slice ak3 nk3 ck3] 5 rowVal rfl rfl (valC_one _ _ _ _ _ _ _ _ _) (Lies.new w10 _ _) ?_ ?_ ?_); rfl; rfl))
    have hbC := below_rowSet (hbB.alloc hbB.size (.cells valZ 25)) hbB.size #[.int .i64 kS, .int .i64 n3, .string st3, .slice ai3 ni3 ci3, .slice ak3 nk3 ck3]
    have lv := (Lies.new w10 25 valZ).row #[.int .i64 kS, .int .i64 n3, .string st3, .slice ai3 ni3 ci3, .slice ak3 nk3 ck3]
    clear hbB hb10
    generalize World.setRow _ _ _ = w11 at *
    generalize w10.heap.size = B3 at *
    have q0 := lv.cell 0
    simp only [List.getElem?_toArray, List.getElem?_cons_zero] at q0
    by_cases hg : gS = 0
    · subst hg
      by_cases hk : kS = 1
      · subst hk
        go_wp2
        go_ret
        exact ⟨rfl, hbC⟩
      · by_cases h0 : sb.size = 0
        · have h0' : (sb.size : Int) = 0 := by omega
          go_wp2
          go_ret
          exact ⟨rfl, hbC⟩
        · have h0' : ((sb.size : Int) == 0) = false := beq_eq_false_iff_ne.2 (by omega)
          have hk' : (kS == 1) = false := beq_eq_false_iff_ne.2 hk
          have hqs : q < sb.size := HQ2.out (by omega)
          obtain ⟨er, hce, HC⟩ := HCUT.out rfl hk q hqs
          clear HCUT HQ2 hq hq3
          have HSZ2 := HSZ
          clear HSZ
          go_upto_region 12 with (first
            | (go_at_call 9; refine (HC.out _ (her.below hbC)).mono ?_; rintro e w12 ⟨n4, st4, ai4, ni4, ci4, ak4, nk4, ck4, rfl, hb12⟩; replace hbC := below_on hbC hb12)
            | ((with_reducible refine wpL_store w12.heap.size 25 valZ #[.int .i64 0, .int .i64 n4, .string st4, .slice ai4 ni4 ci4, .slice ak4 nk4 ck4] 5 rowVal rfl rfl (valC_one _ _ _ _ _ _ _ _ _) (Lies.new w12 _ _) ?_ ?_ ?_); rfl; rfl))
          have hbD := below_rowSet (hbC.alloc hbC.size (.cells valZ 25)) hbC.size #[.int .i64 0, .int .i64 n4, .string st4, .slice ai4 ni4 ci4, .slice ak4 nk4 ck4]
          generalize World.setRow _ _ _ = w13 at *
          have hqi : ¬ (q : Int) = 0 → (q : Int) - 1 = ((q - 1 : Nat) : Int) := by omega
          rcases hce with rfl | ⟨rfl, ⟨hq0, hqq⟩, hby⟩ | ⟨rfl, ⟨hq0, hqq⟩, hby⟩
          · go_wp2
            all_goals (go_ret; exact ⟨rfl, hbD⟩)
          · have hi : (sb[q - 1].toNat : Int) = 45 := by rw [hby]; rfl
            have hi2 : 1 ≤ (q : Int) ∧ (q : Int) - 1 < (sb.size : Int) := by omega
            go_wp2
            all_goals (go_ret; exact ⟨rfl, hbD⟩)
          · have hi : (sb[q - 1].toNat : Int) = 91 := by rw [hby]; rfl
            have hi2 : 1 ≤ (q : Int) ∧ (q : Int) - 1 < (sb.size : Int) := by omega
            go_wp2
            all_goals (go_ret; exact ⟨rfl, hbD⟩)
    · go_wp2
      go_ret
      exact ⟨rfl, hbC⟩
end Go.Proofs.YtnloimanklkigaaDoor.V
