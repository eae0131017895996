/- The statement GlobMatches, walked. -/
import Derived.Test.YtaliafeekadecaaDoorZRows
import Derived.Deep.CutRange
namespace Go.Proofs.YtaliafeekadecaaDoor.Z
open Go.RowKit Go.Shelf Go.Sort
open V (Lies OwnL RowL reg)
set_option maxRecDepth 100000

theorem saysM2 {b : Bool} (m p : ByteArray) (w : World) (hm : m.size ≤ 1000000) (hp : p.size ≤ 1000000) (h : matchP m.data.toList p.data.toList = b) :
    Calls Tryd.prog 13 #[.string m, .string p] w fun e w' => e = .returned (.bool b) ∧ Below w.heap.size w w' := by
  have h2 := match_any m p w hm hp
  rw [h] at h2
  exact h2
/-- the row when j of its texts were cut short -/
def shRow (L : List ByteArray) (j : Nat) : List ByteArray := (L.take j).map shB ++ L.drop j
theorem shRow_len (L : List ByteArray) (j : Nat) : (shRow L j).length = L.length := by unfold shRow; simp; omega
theorem shRow_at {L : List ByteArray} {j : Nat} {x : ByteArray} (h : L[j]? = some x) : (shRow L j)[j]? = some x := by
  have hlt := (List.getElem?_eq_some_iff.1 h).1
  unfold shRow
  rw [List.getElem?_append_right (by simp; omega), List.length_map, List.length_take, Nat.min_eq_left (by omega), Nat.sub_self, List.getElem?_drop, Nat.add_zero, h]
theorem shRow_set {L : List ByteArray} {j : Nat} {x : ByteArray} (h : L[j]? = some x) : (shRow L j).set j (shB x) = shRow L (j + 1) := by
  obtain ⟨hlt, he⟩ := List.getElem?_eq_some_iff.1 h
  unfold shRow
  rw [List.set_append_right _ _ (by simp; omega), List.length_map, List.length_take, Nat.min_eq_left (by omega), Nat.sub_self, List.drop_eq_getElem_cons hlt, List.set_cons_zero, List.take_add_one, h, List.map_append, List.append_assoc]
  rfl
theorem shRow_all (L : List ByteArray) : shRow L L.length = L.map shB := by unfold shRow; simp
/-- the reference's test of a pattern -/
def fits (may : Bool) (P : ByteArray) (x : ByteArray) : Bool := may && (rightG true x.data.toList && matchG x.data.toList P.data.toList)
theorem any_math (P : ByteArray) (LS : List ByteArray) (may E : Bool) (K : Int) (hmay : rightG false P.data.toList = may) (hE : (may && LS.all fun x => rightG true x.data.toList) = E) (hK : fIdx (fits may P) LS 0 = K) :
    (E = false ∧ anyV P.data.toList LS = 0 ∧ anyE P.data.toList LS = 1) ∨ (E = true ∧ may = true ∧ K < 0 ∧ anyV P.data.toList LS = 0 ∧ anyE P.data.toList LS = 36) ∨ (E = true ∧ may = true ∧ ¬ K < 0 ∧ anyV P.data.toList LS = K ∧ anyE P.data.toList LS = 0) := by
  have hok : anyOk P.data.toList LS = E := by unfold anyOk; rw [hmay]; exact hE
  unfold anyV anyE
  rw [hok]
  cases hEE : E with
  | false => exact .inl ⟨rfl, if_neg (by simp), if_neg (by simp)⟩
  | true =>
    right
    rw [hEE] at hE
    obtain ⟨rfl, hall⟩ := (Bool.and_eq_true _ _).mp hE
    have hk : anyK P.data.toList LS = K := by
      rw [← hK]
      unfold anyK
      refine fIdx_congr _ _ fun x hx => ?_
      unfold fits
      have := List.all_eq_true.1 hall x hx
      rw [this]; rfl
    rw [hk, if_pos rfl, if_pos rfl]
    by_cases hn : K < 0
    · exact .inl ⟨rfl, rfl, hn, if_pos hn, if_pos hn⟩
    · exact .inr ⟨rfl, rfl, hn, if_neg hn, if_neg hn⟩
theorem all_snoc (q : ByteArray → Bool) (l : List ByteArray) (x : ByteArray) : (l ++ [x]).all q = (l.all q && q x) := by simp
theorem take_sh {L : List ByteArray} {j : Nat} {x : ByteArray} (h : L[j]? = some x) : (L.take (j + 1)).map shB = (L.take j).map shB ++ [shB x] := by
  rw [List.take_add_one, h, List.map_append]
  rfl
theorem own_cell {w : World} {B g n c j : Nat} {l : List ByteArray} {x : ByteArray} (h : OwnL w B 9 1 (.slice (some ⟨g, 0, none⟩) n c) (l.map oneS)) (hj : l[j]? = some x) : w.cell? ⟨g, j, none⟩ = some (.string x) := by
  rcases own_at h with ⟨hv, _⟩ | ⟨g', c', hv, _, _, _, _, hcell, _⟩
  · cases hv
  · injection hv with h1
    injection h1 with h1
    injection h1 with h1
    subst h1
    exact (hcell j x hj).1
theorem shRow_new {L : List ByteArray} {j : Nat} {x : ByteArray} (h : L[j]? = some x) : (shRow L (j + 1))[j]? = some (shB x) := by
  rw [← shRow_set h, List.getElem?_set_self (by rw [shRow_len]; exact (List.getElem?_eq_some_iff.1 h).1)]
set_option maxHeartbeats 12800000 in
theorem matches_walk (xm xp : ByteArray) (v : Value) (S : List (List UInt8)) (W : World) (hv : Strs W v S) : Calls Tryd.prog 3 #[.string xm, .string xp, v] W fun e w' => e = .returned (.bool true) ∧ Below W.heap.size W w' := by
  obtain ⟨i0, hi, hz0, hz1, hz2⟩ := info_parts infoT
  have HA := Lib.hid alive_any
  have HSh := Lib.hid short_any
  have hrow := strs_row hv
  obtain ⟨a0, c0, rfl, hc0, hm0, hn0⟩ := hrow.form
  clear hv
  rw [List.length_map, List.length_map] at hrow hc0 ⊢
  obtain ⟨r, hr⟩ : ∃ r : Nat, r = min S.length 10 := ⟨_, rfl⟩
  have hrI : min (S.length : Int) 10 = (r : Int) := by omega
  have hrS : r ≤ S.length := by omega
  have hr10 : r ≤ 10 := by omega
  obtain ⟨L, hL⟩ : ∃ L, (S.map bytesOf).take r = L := ⟨_, rfl⟩
  have hLl : L.length = r := by rw [← hL, List.length_take, List.length_map]; omega
  clear hr
  have hcap : S.length ≤ 9223372036854775807 := by unfold maxLen at hm0; omega
  have hoM := OwnL.made W W.heap.size 9 1 (Nat.le_refl _)
  have hb0 := (Below.refl W.heap.size W).alloc (Nat.le_refl _) (.cells #[] 9)
  have hrow1 := hrow.below ((Below.refl W.heap.size W).alloc (Nat.le_refl _) (.cells #[] 9))
  clear hrow
  have hu : ∀ u ∈ (L.map oneS).flatten, u.oneCell' = true := rowOnes L
  have h63 : ([] : List (List Value)).length + (L.map oneS).length ≤ maxLen := by rw [List.length_map, hLl]; unfold maxLen; simp; omega
  have h64 : (([] : List (List Value)).length + (L.map oneS).length) * 16 ≤ 140737488355328 := by rw [List.length_map, hLl]; simp; omega
  have hrc : ([] ++ L.map oneS).length = r := by rw [List.nil_append, List.length_map, hLl]
  have hbs : W.heap.size ≤ (W.alloc (.cells #[] 9)).heap.size := by simp
  go_enter Tryd.func3, Tryd.ntmps3
  go_upto_region 2 with (go_at_call 7; refine (HSh.out _ _).mono ?_; rintro e w1 ⟨rfl, hw1⟩; replace hw1 := hw1.symm; subst hw1)
  have hMs := shB_size xm
  have hPs := shB_size xp
  generalize shB xm = M at *
  generalize shB xp = P at *
  go_upto_region 3 with ((with_reducible refine wpL_cutR a0 S.length c0 r _ hrow1 hrS ?_ ?_ ?_); rfl; (first | rfl | (show Value.int .i64 (min (S.length : Int) 10) = _; rw [hrI])); intro v8 hR8; rw [← List.map_take, hL] at hR8; obtain ⟨a8, c8, rfl, _, _, _⟩ := hR8.form; rw [List.length_map, hLl] at hR8 ⊢; refine V.wpL_appendL W.heap.size 9 i0 _ 1 16 Tryd.underlying22 hi hz0 hz1 hz2 rfl (by decide) _ [] hoM _ (L.map oneS) hR8 hu h63 h64 hbs ?_ ?_ ?_; rfl; rfl; intro v9 w1 ho1 hg1; obtain ⟨b1, c1, rfl, hbc1, _, _⟩ := ho1.read.form; rw [hrc] at ho1 ⊢)
  have hb : Below W.heap.size W w1 := hb0.grown hg1 hbs (fun k hk => hoM.lt k hk)
  have ho : OwnL w1 W.heap.size 9 1 (.slice b1 r c1) ((shRow L 0).map oneS) := by
    have h := ho1
    rw [List.nil_append] at h
    exact h
  clear ho1 hg1 hbs hb0 hoM hrow1 hR8 hu h63 h64 hrc hrI hrS hcap hn0 hm0 hc0 hL hi hz0 hz1 hz2
  obtain ⟨may, hmay⟩ : ∃ may, rightG false P.data.toList = may := ⟨_, rfl⟩
  have HR := Lib.hid (fun (w : World) => by have h := refRight_any P false w (by omega); rw [hmay] at h; exact h)
  go_upto_region 5 with (go_at_call 8; refine (HR.out _).mono ?_; rintro e w2 ⟨rfl, hb2⟩; replace ho := ho.on hb2; replace hb := hb.trans (hb2.mono hb.size))
  clear HR
  go_wp2
  go_loopw [8, 9, 10, 11, 30] (fun kv ev _ _ iv wr => ∃ j : Nat, iv = .int .i64 (j : Int) ∧ j ≤ r ∧ kv = .int .i64 (fIdx (fits may P) ((L.take j).map shB) 0) ∧ ev = .bool (may && ((L.take j).map shB).all fun x => rightG true x.data.toList) ∧ OwnL wr W.heap.size 9 1 (.slice b1 r c1) ((shRow L j).map oneS) ∧ Below W.heap.size W wr) (fun _ _ _ _ iv _ => r - (intOf iv).toNat)
  case atStart => exact ⟨0, rfl, Nat.zero_le _, rfl, by rw [List.take_zero]; exact (by simp), ho, hb⟩
  case round =>
    obtain ⟨j, rfl, hj, rfl, rfl, ho, hb⟩ := hrel
    obtain ⟨K, hK⟩ : ∃ K, fIdx (fits may P) ((L.take j).map shB) 0 = K := ⟨_, rfl⟩
    obtain ⟨E, hE⟩ : ∃ E, (may && ((L.take j).map shB).all fun x => rightG true x.data.toList) = E := ⟨_, rfl⟩
    rw [hK, hE]
    by_cases hlt : j < r
    case neg =>
      obtain rfl : j = r := by omega
      have i1 : ¬ (j : Int) < (j : Int) := by omega
      rw [← hLl, List.take_length] at hE hK
      rw [← hLl, shRow_all, hLl] at ho
      have hrow := ho.read
      have HY := Lib.hid (any_any P (L.map shB) _ wr (by omega) hrow (fun x hx => by
        obtain ⟨y, _, rfl⟩ := List.mem_map.1 hx
        have := shB_size y
        omega))
      obtain ⟨rM, hrM⟩ : ∃ rM, rightG true M.data.toList = rM := ⟨_, rfl⟩
      obtain ⟨mg, hmg⟩ : ∃ mg, matchG M.data.toList P.data.toList = mg := ⟨_, rfl⟩
      have HRi := Lib.hid (fun (w : World) => by have h := right_any M w (by omega); rw [hrM] at h; exact h)
      have HRr := Lib.hid (fun (w : World) => by have h := refRight_any M true w (by omega); rw [hrM] at h; exact h)
      have HPa := Lib.hid (fun (w : World) => by have h := path_any P w (by omega); rw [hmay] at h; exact h)
      have HMr := Lib.hid (fun (w : World) => by have h := refMatch_any M P w (by omega) (by omega); rw [hmg] at h; exact h)
      have HMa := Lib.hid (fun (w : World) => saysM2 M P w (by omega) (by omega) (show matchP M.data.toList P.data.toList = (rM && (may && mg)) by unfold matchP; rw [hrM, hmay, hmg]))
      have hmath := any_math P (L.map shB) may E K hmay hE hK
      clear hmg hrM hmay hE hK ho hrow hlt
      generalize anyV P.data.toList (L.map shB) = AV at *
      generalize anyE P.data.toList (L.map shB) = AE at *
      rcases hmath with ⟨rfl, rfl, rfl⟩ | ⟨rfl, rfl, hn, rfl, rfl⟩ | ⟨rfl, rfl, hn, rfl, rfl⟩
      · cases may <;> cases rM <;> cases mg <;> simp only [Bool.and_true, Bool.and_false] at HMa
        all_goals
          go_wp2_with (first
            | (go_at_call 10; refine (HY.out).mono ?_; rintro e w3 ⟨rfl, hb3⟩; replace hb := hb.trans (hb3.mono hb.size); clear hb3 HY)
            | (go_at_call 11; refine (HRi.out _).mono ?_; rintro e w4 ⟨rfl, hb3⟩; replace hb := hb.trans (hb3.mono hb.size); clear hb3 HRi)
            | (go_at_call 8; refine (HRr.out _).mono ?_; rintro e w5 ⟨rfl, hb3⟩; replace hb := hb.trans (hb3.mono hb.size); clear hb3)
            | (go_at_call 12; refine (HPa.out _).mono ?_; rintro e w6 ⟨rfl, hb3⟩; replace hb := hb.trans (hb3.mono hb.size); clear hb3 HPa)
            | (go_at_call 13; refine (HMa.out _).mono ?_; rintro e w7 ⟨rfl, hb3⟩; replace hb := hb.trans (hb3.mono hb.size); clear hb3 HMa)
            | (go_at_call 9; refine (HMr.out _).mono ?_; rintro e w8 ⟨rfl, hb3⟩; replace hb := hb.trans (hb3.mono hb.size); clear hb3 HMr)
            | (go_at_call 14; refine (HA.out _).mono ?_; rintro e w9 ⟨rfl, hb3⟩; replace hb := hb.trans (hb3.mono hb.size); clear hb3))
          go_ret
          exact ⟨rfl, hb⟩
      · cases rM <;> cases mg <;> simp only [Bool.and_true, Bool.and_false] at HMa
        all_goals
          go_wp2_with (first
            | (go_at_call 10; refine (HY.out).mono ?_; rintro e w3 ⟨rfl, hb3⟩; replace hb := hb.trans (hb3.mono hb.size); clear hb3 HY)
            | (go_at_call 11; refine (HRi.out _).mono ?_; rintro e w4 ⟨rfl, hb3⟩; replace hb := hb.trans (hb3.mono hb.size); clear hb3 HRi)
            | (go_at_call 8; refine (HRr.out _).mono ?_; rintro e w5 ⟨rfl, hb3⟩; replace hb := hb.trans (hb3.mono hb.size); clear hb3)
            | (go_at_call 12; refine (HPa.out _).mono ?_; rintro e w6 ⟨rfl, hb3⟩; replace hb := hb.trans (hb3.mono hb.size); clear hb3 HPa)
            | (go_at_call 13; refine (HMa.out _).mono ?_; rintro e w7 ⟨rfl, hb3⟩; replace hb := hb.trans (hb3.mono hb.size); clear hb3 HMa)
            | (go_at_call 9; refine (HMr.out _).mono ?_; rintro e w8 ⟨rfl, hb3⟩; replace hb := hb.trans (hb3.mono hb.size); clear hb3 HMr)
            | (go_at_call 14; refine (HA.out _).mono ?_; rintro e w9 ⟨rfl, hb3⟩; replace hb := hb.trans (hb3.mono hb.size); clear hb3))
          go_ret
          exact ⟨rfl, hb⟩
      · have hself : (AV == AV) = true := beq_self_eq_true AV
        cases rM <;> cases mg <;> simp only [Bool.and_true, Bool.and_false] at HMa
        all_goals
          go_wp2_with (first
            | (go_at_call 10; refine (HY.out).mono ?_; rintro e w3 ⟨rfl, hb3⟩; replace hb := hb.trans (hb3.mono hb.size); clear hb3 HY)
            | (go_at_call 11; refine (HRi.out _).mono ?_; rintro e w4 ⟨rfl, hb3⟩; replace hb := hb.trans (hb3.mono hb.size); clear hb3 HRi)
            | (go_at_call 8; refine (HRr.out _).mono ?_; rintro e w5 ⟨rfl, hb3⟩; replace hb := hb.trans (hb3.mono hb.size); clear hb3)
            | (go_at_call 12; refine (HPa.out _).mono ?_; rintro e w6 ⟨rfl, hb3⟩; replace hb := hb.trans (hb3.mono hb.size); clear hb3 HPa)
            | (go_at_call 13; refine (HMa.out _).mono ?_; rintro e w7 ⟨rfl, hb3⟩; replace hb := hb.trans (hb3.mono hb.size); clear hb3 HMa)
            | (go_at_call 9; refine (HMr.out _).mono ?_; rintro e w8 ⟨rfl, hb3⟩; replace hb := hb.trans (hb3.mono hb.size); clear hb3 HMr)
            | (go_at_call 14; refine (HA.out _).mono ?_; rintro e w9 ⟨rfl, hb3⟩; replace hb := hb.trans (hb3.mono hb.size); clear hb3))
          go_ret
          exact ⟨rfl, hb⟩
    have hjL : j < L.length := by omega
    obtain ⟨x, hx⟩ : ∃ x, L[j]? = some x := ⟨_, List.getElem?_eq_getElem hjL⟩
    have hkk := fIdx_lt (fits may P) ((L.take j).map shB) 0
    rw [hK] at hkk
    obtain ⟨ry, hry⟩ : ∃ ry, rightG true (shB x).data.toList = ry := ⟨_, rfl⟩
    obtain ⟨my, hmy⟩ : ∃ my, matchG (shB x).data.toList P.data.toList = my := ⟨_, rfl⟩
    have HF := Lib.hid (show fits may P (shB x) = (may && (ry && my)) by unfold fits; rw [hry, hmy])
    have HK2 := Lib.hid (show fIdx (fits may P) ((L.take (j + 1)).map shB) 0 = if K < 0 then (if fits may P (shB x) = true then (j : Int) else -1) else K by
      have h := fIdx_snoc (fits may P) (shB x) ((L.take j).map shB) 0
      rw [hK, List.length_map, List.length_take, Nat.min_eq_left (by omega), Nat.zero_add] at h
      rw [take_sh hx, h])
    have HE2 := Lib.hid (show (may && ((L.take (j + 1)).map shB).all fun x => rightG true x.data.toList) = (E && ry) by rw [take_sh hx, all_snoc, ← hE, hry, Bool.and_assoc])
    have hxs := shB_size x
    have HR := Lib.hid (fun (w : World) => by have h := refRight_any (shB x) true w (by omega); rw [hry] at h; exact h)
    have HM := Lib.hid (fun (w : World) => by have h := refMatch_any (shB x) P w (by omega) (by omega); rw [hmy] at h; exact h)
    have hnew := shRow_new hx
    rcases own_at ho with ⟨_, hnil⟩ | ⟨g, cc, hv, hBg, hgl, hcc, hcm, hcell, hset⟩
    · have := shRow_len L j
      rw [hnil] at this
      simp at this
      omega
    rw [shRow_len] at hv hset
    injection hv with hv1 hv2 hv3
    subst hv1 hv3
    obtain ⟨q0, f0⟩ := hcell j x (shRow_at hx)
    have ho2 : OwnL (wr.setCell ⟨g, j, none⟩ (.string (shB x))) W.heap.size 9 1 (.slice (some ⟨g, 0, none⟩) r c1) ((shRow L (j + 1)).map oneS) := by
      have h := hset j (shB x) hjL
      rw [shRow_set hx] at h
      exact h
    have hb2 : Below W.heap.size W (wr.setCell ⟨g, j, none⟩ (.string (shB x))) := hb.setCell (p := ⟨g, j, none⟩) hBg _
    have i1 : (j : Int) < (r : Int) := by omega
    have i2 : (0 : Int) ≤ (j : Int) := by omega
    clear hcell hset hmy hry hE hK hcc hcm hmay ho hb hv2
    go_upto_region 9 with (go_at_call 7; refine (HSh.out _ _).mono ?_; rintro e w1 ⟨rfl, hw1⟩; replace hw1 := hw1.symm; subst hw1)
    generalize wr.setCell ⟨g, j, none⟩ (.string (shB x)) = w3 at *
    clear q0 f0
    have q0 := own_cell ho2 hnew
    rcases hkk with rfl | ⟨hk0, _⟩
    · cases E <;> cases ry <;> cases may <;> cases my <;> skip
      all_goals
        go_wp2_with (first
          | (go_at_call 8; refine (HR.out _).mono ?_; rintro e w4 ⟨rfl, hb4⟩; replace ho2 := ho2.on hb4; replace q0 := own_cell ho2 hnew; replace hb2 := hb2.trans (hb4.mono hb2.size); clear hb4)
          | (go_at_call 9; refine (HM.out _).mono ?_; rintro e w4 ⟨rfl, hb4⟩; replace ho2 := ho2.on hb4; replace q0 := own_cell ho2 hnew; replace hb2 := hb2.trans (hb4.mono hb2.size); clear hb4))
        go_roundw
        case rel => exact ⟨j + 1, by go_num, by omega, by rw [HK2.out, HF.out]; rfl, (congrArg Value.bool HE2.out).symm, ho2, hb2⟩
        case measure => simp [intOf]; omega
    · have hn : ¬ K < 0 := by omega
      cases E <;> cases ry
      all_goals
        go_wp2_with (go_at_call 8; refine (HR.out _).mono ?_; rintro e w4 ⟨rfl, hb4⟩; replace ho2 := ho2.on hb4; replace q0 := own_cell ho2 hnew; replace hb2 := hb2.trans (hb4.mono hb2.size); clear hb4)
        go_roundw
        case rel => exact ⟨j + 1, by go_num, by omega, by rw [HK2.out, if_neg (show ¬ K < 0 by omega)], (congrArg Value.bool HE2.out).symm, ho2, hb2⟩
        case measure => simp [intOf]; omega
end Go.Proofs.YtaliafeekadecaaDoor.Z
