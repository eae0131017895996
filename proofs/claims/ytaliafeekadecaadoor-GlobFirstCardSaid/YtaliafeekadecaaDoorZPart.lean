/- The reference's 'part': a row of answers for each byte of the pattern. -/
import Derived.Test.YtaliafeekadecaaDoorZRefR
import Derived.OwnWalk
import Derived.BigRegion
namespace Go.Proofs.YtaliafeekadecaaDoor.Z
open Go.RowKit Go.Shelf
open V (Lies OwnL RowL)
set_option maxRecDepth 100000

/-! ### answers, one for each length -/
def dpv (P S : List UInt8) (i k : Nat) : Bool := gm (P.take i) (S.take k)
theorem dp_start (P S : List UInt8) (k : Nat) (h : k ≤ S.length) : dpv P S 0 k = decide (k = 0) := by
  unfold dpv
  rw [List.take_zero, gm_nil]
  cases k with
  | zero => rfl
  | succ k =>
    rw [decide_eq_false (by omega)]
    cases S with
    | nil => simp at h
    | cons c S => rfl
theorem take_one {l : List UInt8} {i : Nat} {c : UInt8} (h : l[i]? = some c) : l.take (i + 1) = l.take i ++ [c] := by
  rw [List.take_add_one, h]
  rfl
theorem dp_star_none {P S : List UInt8} {i : Nat} (h : P[i]? = some 42) : dpv P S (i + 1) 0 = dpv P S i 0 := by
  unfold dpv
  rw [take_one h, List.take_zero, gm_star_none]
theorem dp_star {P S : List UInt8} {i k : Nat} (h : P[i]? = some 42) (hk : k < S.length) : dpv P S (i + 1) (k + 1) = (dpv P S i (k + 1) || dpv P S (i + 1) k) := by
  unfold dpv
  rw [take_one h, take_one (List.getElem?_eq_getElem hk), gm_star_step]
theorem dp_no_none {P S : List UInt8} {i : Nat} {c : UInt8} (h : P[i]? = some c) (hc : c ≠ 42) : dpv P S (i + 1) 0 = false := by
  unfold dpv
  rw [take_one h, List.take_zero, gm_snoc_none _ hc]
theorem dp_no {P S : List UInt8} {i k : Nat} {c b : UInt8} (h : P[i]? = some c) (hc : c ≠ 42) (hk : S[k]? = some b) : dpv P S (i + 1) (k + 1) = ((decide (c = 63) || decide (c = b)) && dpv P S i k) := by
  unfold dpv
  rw [take_one h, take_one hk, gm_plain_snoc _ _ _ hc]
theorem dp_end (P S : List UInt8) : dpv P S P.length S.length = gm P S := by
  unfold dpv
  rw [List.take_length, List.take_length]
/-! ### a row of answers in memory -/
def rowF (f : Nat → Bool) (N : Nat) : Array Value := ((List.range N).map fun j => Value.bool (f j)).toArray
theorem rowF_at (f : Nat → Bool) {N j : Nat} (h : j < N) : (rowF f N)[j]? = some (.bool (f j)) := by
  unfold rowF
  simp [h]
theorem rowF_congr {f g : Nat → Bool} {N : Nat} (h : ∀ j, j < N → f j = g j) : rowF f N = rowF g N := by
  unfold rowF
  congr 1
  apply List.map_congr_left
  intro j hj
  rw [h j (List.mem_range.1 hj)]
theorem rowF_set (f : Nat → Bool) (N k : Nat) (v : Bool) : (rowF f N).setIfInBounds k (.bool v) = rowF (fun j => if j = k then v else f j) N := by
  unfold rowF
  apply Array.ext'
  rw [Array.toList_setIfInBounds]
  apply List.ext_getElem?
  intro j
  rw [List.getElem?_set]
  by_cases hj : j < N
  · by_cases hk : k = j
    · subst hk
      simp [hj]
    · have : ¬ j = k := fun e => hk e.symm
      simp [hj, hk, this]
  · simp [hj]
    intro e
    omega
theorem made_false (n : Nat) : (madeCells #[Value.bool false] n).toList = (rowF (fun _ => false) n).toList := by
  rw [toList_madeCells_one]
  unfold rowF
  simp [List.map_const']
theorem infoB : (Tryd.prog.info? 4).map (fun i => (i.zero, i.size, i.bytes)) = some (some (.bool false), 1, 1) := by kernel_rfl
theorem own_whole {w : World} {B g n : Nat} {e : TypeId} {xs : List Value} (h : w.ownsRow B e 1 (.slice (some ⟨g, 0, none⟩) n n) n xs) : Lies w g e xs.toArray ∧ B ≤ g := by
  rcases h.2 with ⟨hv, _⟩ | ⟨b, cap, cur, hv, hB, hh, hc, hm, hs, ht⟩
  · cases hv
  · injection hv with e1 e2 e3
    injection e1 with e1
    injection e1 with e1
    subst e1 e3
    refine ⟨?_, hB⟩
    have hcur : cur = xs.toArray := by
      apply Array.ext'
      rw [← ht, List.take_of_length_le (by rw [Array.length_toList, hs]; exact Nat.le_refl _)]
    rw [← hcur]
    exact hh
def nextF (P S : List UInt8) (i k : Nat) : Nat → Bool := fun j => decide (j < k) && dpv P S (i + 1) j
theorem nextF_step (P S : List UInt8) (i k N : Nat) : rowF (fun j => if j = k then dpv P S (i + 1) k else nextF P S i k j) N = rowF (nextF P S i (k + 1)) N := by
  apply rowF_congr
  intro j _
  unfold nextF
  by_cases h : j = k
  · subst h
    simp
  · rw [if_neg h]
    congr 1
    apply decide_eq_decide.2
    omega
theorem nextF_skip (P S : List UInt8) (i k N : Nat) (h : dpv P S (i + 1) k = false) : rowF (nextF P S i k) N = rowF (nextF P S i (k + 1)) N := by
  apply rowF_congr
  intro j _
  unfold nextF
  by_cases hj : j = k
  · subst hj
    simp [h]
  · congr 1
    apply decide_eq_decide.2
    omega
set_option maxHeartbeats 6400000 in
theorem refPart_any (P S : ByteArray) (w : World) (hP : P.size ≤ 100000) (hS : S.size ≤ 100000) : Calls Tryd.prog 23 #[.string P, .string S] w fun e w' => e = .returned (.bool (gm P.data.toList S.data.toList)) ∧ Below w.heap.size w w' := by
  have hlP := list_len P
  have hlS := list_len S
  obtain ⟨i0, hi, hz0, hz1, hz2⟩ := info_parts infoB
  obtain ⟨R, hR⟩ : ∃ R, gm P.data.toList S.data.toList = R := ⟨_, rfl⟩
  rw [hR]
  have HR := Lib.hid hR
  clear hR
  obtain ⟨N, hN⟩ : ∃ N, S.size + 1 = N := ⟨_, rfl⟩
  have hNi : (S.size : Int) + 1 = (N : Int) := by omega
  go_enter Tryd.func23, Tryd.ntmps23
  go_upto_region 2 with (at_make; refine wpList_make_full _ rfl _ _ 57 rfl w.heap.size 4 i0 (.bool false) 1 Tryd.underlying57 hi hz0 hz1 _ _ _ _ N rfl rfl ?e1 ?e2 ?b2 ?b3 (Nat.le_refl _) ?_)
  case e1 => omega
  case e2 => omega
  case b2 => rw [hz2]; omega
  case b3 => unfold maxLen; omega
  intro w1 hown hgrow
  have hb1 : Below w.heap.size w w1 := (Below.refl _ _).grown hgrow (Nat.le_refl _) (fun k hk => by cases hk)
  have hown2 : w1.ownsRow w.heap.size 4 1 (.slice (some ⟨w.heap.size, 0, none⟩) N N) N (rowF (fun _ => false) N).toList := by
    rw [← made_false]
    exact hown
  have l0 := (own_whole hown2).1
  rw [Array.toArray_toList] at l0
  clear hown hown2 hgrow
  have hN0 : (0 : Int) < (N : Int) := by omega
  have q0 : w1.cell? ⟨w.heap.size, 0, none⟩ = some (.bool false) := by rw [l0.cell]; exact rowF_at _ (by omega)
  have f0 := l0.frozen 0
  have l1 := l0.put 0 (.bool true)
  rw [rowF_set, rowF_congr (g := dpv P.data.toList S.data.toList 0) (fun j hj => by rw [dp_start _ _ _ (by omega)]; by_cases h : j = 0 <;> simp [h])] at l1
  have hb2 := hb1.trans (show Below w.heap.size w1 (w1.setCell ⟨w.heap.size, 0, none⟩ (.bool true)) from ⟨rfl, rfl, rfl, by simp, fun k hk => Below.heap_setCell w1 ⟨w.heap.size, 0, none⟩ _ k (by simp only; omega)⟩)
  go_upto_region 3 with fail
  generalize World.setCell _ _ _ = w2 at *
  clear q0 f0 l0 hb1
  go_wp2
  go_loopw [5, 6, 7, 8] (fun ev iv _ _ wr => ∃ (i g : Nat), ev = .slice (some ⟨g, 0, none⟩) N N ∧ iv = .int .i64 (i : Int) ∧ i ≤ P.size ∧ w.heap.size ≤ g ∧ Lies wr g 4 (rowF (dpv P.data.toList S.data.toList i) N) ∧ Below w.heap.size w wr) (fun _ iv _ _ _ => P.size - (intOf iv).toNat)
  case atStart => exact ⟨0, w.heap.size, rfl, rfl, Nat.zero_le _, Nat.le_refl _, l1, hb2⟩
  case round =>
    clear l1 hb2
    obtain ⟨i, g, rfl, rfl, hiP, hgl, lE, hb⟩ := hrel
    by_cases hlt : i < P.size
    case neg =>
      obtain rfl : i = P.size := by omega
      have h1 : ¬ ((P.size : Int) < (P.size : Int)) := by omega
      have h2 : (0 : Int) ≤ (S.size : Int) ∧ (S.size : Int) < (N : Int) := by omega
      have qz : wr.cell? ⟨g, S.size, none⟩ = some (.bool R) := by
        rw [lE.cell, rowF_at _ (by omega), ← HR.out, ← hlP, ← hlS, dp_end]
      go_wp2
      go_ret
      exact ⟨rfl, hb⟩
    have h1 : (i : Int) < (P.size : Int) := by omega
    have hPi := at_data hlt
    go_upto_region 7 with (at_make; refine wpList_make_full _ rfl _ _ 57 rfl w.heap.size 4 i0 (.bool false) 1 Tryd.underlying57 hi hz0 hz1 _ _ _ _ N rfl rfl ?e1 ?e2 ?b2 ?b3 hb.size ?_)
    case e1 => omega
    case e2 => omega
    case b2 => rw [hz2]; omega
    case b3 => unfold maxLen; omega
    intro w3 hown hgrow
    obtain ⟨gn, hgn⟩ : ∃ gn, wr.heap.size = gn := ⟨_, rfl⟩
    have hgne : g ≠ gn := by have := lE.lt; omega
    have hgnl : w.heap.size ≤ gn := by have := hb.size; omega
    have hb3 : Below w.heap.size w w3 := hb.grown hgrow hb.size (fun k hk => by cases hk)
    have lE3 : Lies w3 g 4 (rowF (dpv P.data.toList S.data.toList i) N) := lE.only hgrow (by simp)
    have hown2 : w3.ownsRow w.heap.size 4 1 (.slice (some ⟨wr.heap.size, 0, none⟩) N N) N (rowF (fun _ => false) N).toList := by
      rw [← made_false]
      exact hown
    have lN3 := (own_whole hown2).1
    rw [Array.toArray_toList, hgn, rowF_congr (g := nextF P.data.toList S.data.toList i 0) (fun j hj => by unfold nextF; simp)] at lN3
    clear hown hown2 hgrow lE hb
    rw [hgn]
    clear hgn
    go_wp2
    go_loopw [8] (fun kv wr => ∃ k : Nat, kv = .int .i64 (k : Int) ∧ k ≤ N ∧ Lies wr g 4 (rowF (dpv P.data.toList S.data.toList i) N) ∧ Lies wr gn 4 (rowF (nextF P.data.toList S.data.toList i k) N) ∧ Below w.heap.size w wr) (fun kv _ => N - (intOf kv).toNat)
    case atStart => exact ⟨0, rfl, Nat.zero_le _, lE3, lN3, hb3⟩
    case round =>
      clear lE3 lN3 hb3
      obtain ⟨k, rfl, hkN, lE, lN, hb⟩ := hrel
      by_cases hltk : k < N
      case neg =>
        obtain rfl : k = N := by omega
        have i1 : ¬ ((k : Int) ≤ (S.size : Int)) := by omega
        rw [rowF_congr (g := dpv P.data.toList S.data.toList (i + 1)) (fun j hj => by unfold nextF; simp [hj])] at lN
        clear lE
        go_wp2
        go_roundw
        case rel => exact ⟨i + 1, gn, rfl, by go_num, by omega, hgnl, lN, hb⟩
        case measure => simp [intOf]; omega
      have i1 : (k : Int) ≤ (S.size : Int) := by omega
      have i2 : (k : Int) < (N : Int) := by omega
      have i3 : (0 : Int) ≤ (k : Int) := by omega
      have qk : wr.cell? ⟨g, k, none⟩ = some (.bool (dpv P.data.toList S.data.toList i k)) := by rw [lE.cell]; exact rowF_at _ hltk
      have qn : wr.cell? ⟨gn, k, none⟩ = some (.bool (nextF P.data.toList S.data.toList i k k)) := by rw [lN.cell]; exact rowF_at _ hltk
      have fn := lN.frozen k
      generalize nextF P.data.toList S.data.toList i k k = old at qn
      by_cases h42 : P[i] = 42
      · have e42 : ((P[i].toNat : Int) == 42) = true := by rw [h42]; rfl
        rw [h42] at hPi
        obtain ⟨e, he⟩ : ∃ e, dpv P.data.toList S.data.toList i k = e := ⟨_, rfl⟩
        rw [he] at qk
        rcases Nat.eq_zero_or_pos k with hk0 | hkp
        · have HV := Lib.hid (show dpv P.data.toList S.data.toList (i + 1) k = e by rw [← he, hk0]; exact dp_star_none hPi)
          have i4 : ¬ (0 : Int) < (k : Int) := by omega
          clear he hk0
          cases e with
          | true =>
            replace lE := lE.far (p := ⟨gn, k, none⟩) hgne (.bool true)
            have lN2 := lN.put k (.bool true)
            rw [rowF_set] at lN2
            replace hb := hb.trans (show Below w.heap.size wr (wr.setCell ⟨gn, k, none⟩ (.bool true)) from ⟨rfl, rfl, rfl, by simp, fun j hj => Below.heap_setCell wr ⟨gn, k, none⟩ _ j (by simp only; omega)⟩)
            have lN3 : Lies (wr.setCell ⟨gn, k, none⟩ (.bool true)) gn 4 (rowF (nextF P.data.toList S.data.toList i (k + 1)) N) := by rw [← nextF_step, HV.out]; exact lN2
            clear lN lN2 HV
            go_wp2
            go_roundw
            case rel => exact ⟨k + 1, by go_num, by omega, lE, lN3, hb⟩
            case measure => simp [intOf]; omega
          | false =>
            replace lE := lE.far (p := ⟨gn, k, none⟩) hgne (.bool false)
            have lN2 := lN.put k (.bool false)
            rw [rowF_set] at lN2
            replace hb := hb.trans (show Below w.heap.size wr (wr.setCell ⟨gn, k, none⟩ (.bool false)) from ⟨rfl, rfl, rfl, by simp, fun j hj => Below.heap_setCell wr ⟨gn, k, none⟩ _ j (by simp only; omega)⟩)
            have lN3 : Lies (wr.setCell ⟨gn, k, none⟩ (.bool false)) gn 4 (rowF (nextF P.data.toList S.data.toList i (k + 1)) N) := by rw [← nextF_step, HV.out]; exact lN2
            clear lN lN2 HV
            go_wp2
            go_roundw
            case rel => exact ⟨k + 1, by go_num, by omega, lE, lN3, hb⟩
            case measure => simp [intOf]; omega
        · obtain ⟨k', hk'⟩ : ∃ k', k = k' + 1 := ⟨k - 1, by omega⟩
          have hkI : (k : Int) - 1 = (k' : Int) := by omega
          have i4 : (0 : Int) < (k : Int) := by omega
          have i5 : (0 : Int) ≤ (k' : Int) ∧ (k' : Int) < (N : Int) := by omega
          obtain ⟨n, hn⟩ : ∃ n, dpv P.data.toList S.data.toList (i + 1) k' = n := ⟨_, rfl⟩
          have qn' : wr.cell? ⟨gn, k', none⟩ = some (.bool n) := by rw [lN.cell, rowF_at _ (by omega), ← hn]; unfold nextF; rw [decide_eq_true (by omega), Bool.true_and]
          have HV0 := Lib.hid (show dpv P.data.toList S.data.toList (i + 1) k = (e || n) by rw [← he, ← hn, hk']; exact dp_star hPi (by omega))
          clear he hn hk'
          cases e with
          | true =>
            have HV := Lib.hid (HV0.out.trans (Bool.true_or _))
            clear HV0
            replace lE := lE.far (p := ⟨gn, k, none⟩) hgne (.bool true)
            have lN2 := lN.put k (.bool true)
            rw [rowF_set] at lN2
            replace hb := hb.trans (show Below w.heap.size wr (wr.setCell ⟨gn, k, none⟩ (.bool true)) from ⟨rfl, rfl, rfl, by simp, fun j hj => Below.heap_setCell wr ⟨gn, k, none⟩ _ j (by simp only; omega)⟩)
            have lN3 : Lies (wr.setCell ⟨gn, k, none⟩ (.bool true)) gn 4 (rowF (nextF P.data.toList S.data.toList i (k + 1)) N) := by rw [← nextF_step, HV.out]; exact lN2
            clear lN lN2 HV
            go_wp2
            go_roundw
            case rel => exact ⟨k + 1, by go_num, by omega, lE, lN3, hb⟩
            case measure => simp [intOf]; omega
          | false =>
            have HV := Lib.hid (HV0.out.trans (Bool.false_or _))
            clear HV0
            cases n with
            | true =>
              replace lE := lE.far (p := ⟨gn, k, none⟩) hgne (.bool true)
              have lN2 := lN.put k (.bool true)
              rw [rowF_set] at lN2
              replace hb := hb.trans (show Below w.heap.size wr (wr.setCell ⟨gn, k, none⟩ (.bool true)) from ⟨rfl, rfl, rfl, by simp, fun j hj => Below.heap_setCell wr ⟨gn, k, none⟩ _ j (by simp only; omega)⟩)
              have lN3 : Lies (wr.setCell ⟨gn, k, none⟩ (.bool true)) gn 4 (rowF (nextF P.data.toList S.data.toList i (k + 1)) N) := by rw [← nextF_step, HV.out]; exact lN2
              clear lN lN2 HV
              go_wp2
              go_roundw
              case rel => exact ⟨k + 1, by go_num, by omega, lE, lN3, hb⟩
              case measure => simp [intOf]; omega
            | false =>
              replace lE := lE.far (p := ⟨gn, k, none⟩) hgne (.bool false)
              have lN2 := lN.put k (.bool false)
              rw [rowF_set] at lN2
              replace hb := hb.trans (show Below w.heap.size wr (wr.setCell ⟨gn, k, none⟩ (.bool false)) from ⟨rfl, rfl, rfl, by simp, fun j hj => Below.heap_setCell wr ⟨gn, k, none⟩ _ j (by simp only; omega)⟩)
              have lN3 : Lies (wr.setCell ⟨gn, k, none⟩ (.bool false)) gn 4 (rowF (nextF P.data.toList S.data.toList i (k + 1)) N) := by rw [← nextF_step, HV.out]; exact lN2
              clear lN lN2 HV
              go_wp2
              go_roundw
              case rel => exact ⟨k + 1, by go_num, by omega, lE, lN3, hb⟩
              case measure => simp [intOf]; omega
      · have e42 : ((P[i].toNat : Int) == 42) = false := byte_neI h42
        rcases Nat.eq_zero_or_pos k with hk0 | hkp
        · have HV := Lib.hid (show dpv P.data.toList S.data.toList (i + 1) k = false by rw [hk0]; exact dp_no_none hPi h42)
          clear qn qk fn i1 i2 i3
          subst hk0
          have lN3 : Lies wr gn 4 (rowF (nextF P.data.toList S.data.toList i (0 + 1)) N) := by rw [← nextF_skip _ _ _ _ _ HV.out]; exact lN
          have i1 : (0 : Int) ≤ (S.size : Int) := by omega
          clear lN HV
          rw [show ((0 : Nat) : Int) = 0 from rfl]
          go_upto_region 12 with fail
          go_quiet (fail)
          go_wp2
          go_roundw
          case rel => exact ⟨0 + 1, by simp, by omega, lE.drewN _, lN3.drewN _, below_drawn hb _⟩
          case measure => simp [intOf]; omega
        · obtain ⟨k', hk'⟩ : ∃ k', k = k' + 1 := ⟨k - 1, by omega⟩
          have hkI : (k : Int) - 1 = (k' : Int) := by omega
          have i4 : (0 : Int) < (k : Int) := by omega
          have i5 : (0 : Int) ≤ (k' : Int) ∧ (k' : Int) < (N : Int) := by omega
          have hk'S : k' < S.size := by omega
          have i6 : (k' : Int) < (S.size : Int) := by omega
          obtain ⟨e, he⟩ : ∃ e, dpv P.data.toList S.data.toList i k' = e := ⟨_, rfl⟩
          have qe : wr.cell? ⟨g, k', none⟩ = some (.bool e) := by rw [lE.cell, rowF_at _ (by omega), he]
          have HV0 := Lib.hid (show dpv P.data.toList S.data.toList (i + 1) k = ((decide (P[i] = 63) || decide (P[i] = S[k'])) && e) by rw [← he, hk']; exact dp_no hPi h42 (at_data hk'S))
          clear he hk' qk
          by_cases hf : P[i] = 63 ∨ P[i] = S[k']
          · have HV := Lib.hid (HV0.out.trans (show ((decide (P[i] = 63) || decide (P[i] = S[k'])) && e) = e by rw [show (decide (P[i] = 63) || decide (P[i] = S[k'])) = true by simpa using hf, Bool.true_and]))
            clear HV0
            by_cases h63 : P[i] = 63
            · have e63 : ((P[i].toNat : Int) == 63) = true := by rw [h63]; rfl
              clear hf
              go_upto_region 12 with fail
              go_quiet (fail)
              replace lE := lE.drewN nq
              replace lN := lN.drewN nq
              replace hb := below_drawn hb nq
              replace qn : (wr.drewN nq).cell? ⟨gn, k, none⟩ = some (.bool old) := qn
              replace qe : (wr.drewN nq).cell? ⟨g, k', none⟩ = some (.bool e) := qe
              replace fn : (wr.drewN nq).frozen? ⟨gn, k, none⟩ = false := fn
              generalize wr.drewN nq = wd at *
              replace lE := lE.far (p := ⟨gn, k, none⟩) hgne (.bool e)
              have lN2 := lN.put k (.bool e)
              rw [rowF_set] at lN2
              replace hb := hb.trans (show Below w.heap.size wd (wd.setCell ⟨gn, k, none⟩ (.bool e)) from ⟨rfl, rfl, rfl, by simp, fun j hj => Below.heap_setCell wd ⟨gn, k, none⟩ _ j (by simp only; omega)⟩)
              have lN3 : Lies (wd.setCell ⟨gn, k, none⟩ (.bool e)) gn 4 (rowF (nextF P.data.toList S.data.toList i (k + 1)) N) := by rw [← nextF_step, HV.out]; exact lN2
              clear lN lN2 HV
              go_wp2
              go_roundw
              case rel => exact ⟨k + 1, by go_num, by omega, lE, lN3, hb⟩
              case measure => simp [intOf]; omega
            · have e63 : ((P[i].toNat : Int) == 63) = false := byte_neI h63
              have eb : ((P[i].toNat : Int) == (S[k'].toNat : Int)) = true := by rw [hf.resolve_left h63]; exact beq_self_eq_true _
              clear hf
              go_upto_region 12 with fail
              go_quiet (fail)
              replace lE := lE.drewN nq
              replace lN := lN.drewN nq
              replace hb := below_drawn hb nq
              replace qn : (wr.drewN nq).cell? ⟨gn, k, none⟩ = some (.bool old) := qn
              replace qe : (wr.drewN nq).cell? ⟨g, k', none⟩ = some (.bool e) := qe
              replace fn : (wr.drewN nq).frozen? ⟨gn, k, none⟩ = false := fn
              generalize wr.drewN nq = wd at *
              replace lE := lE.far (p := ⟨gn, k, none⟩) hgne (.bool e)
              have lN2 := lN.put k (.bool e)
              rw [rowF_set] at lN2
              replace hb := hb.trans (show Below w.heap.size wd (wd.setCell ⟨gn, k, none⟩ (.bool e)) from ⟨rfl, rfl, rfl, by simp, fun j hj => Below.heap_setCell wd ⟨gn, k, none⟩ _ j (by simp only; omega)⟩)
              have lN3 : Lies (wd.setCell ⟨gn, k, none⟩ (.bool e)) gn 4 (rowF (nextF P.data.toList S.data.toList i (k + 1)) N) := by rw [← nextF_step, HV.out]; exact lN2
              clear lN lN2 HV
              go_wp2
              go_roundw
              case rel => exact ⟨k + 1, by go_num, by omega, lE, lN3, hb⟩
              case measure => simp [intOf]; omega
          · have e63 : ((P[i].toNat : Int) == 63) = false := byte_neI (fun e => hf (.inl e))
            have eb : ((P[i].toNat : Int) == (S[k'].toNat : Int)) = false := byte_neI (fun e => hf (.inr e))
            have HV := Lib.hid (HV0.out.trans (show ((decide (P[i] = 63) || decide (P[i] = S[k'])) && e) = false by rw [show (decide (P[i] = 63) || decide (P[i] = S[k'])) = false by simpa using hf, Bool.false_and]))
            clear HV0 hf qn fn qe
            have lN3 : Lies wr gn 4 (rowF (nextF P.data.toList S.data.toList i (k + 1)) N) := by rw [← nextF_skip _ _ _ _ _ HV.out]; exact lN
            clear lN HV
            go_upto_region 12 with fail
            go_quiet (fail)
            go_wp2
            go_roundw
            case rel => exact ⟨k + 1, by go_num, by omega, lE.drewN _, lN3.drewN _, below_drawn hb _⟩
            case measure => simp [intOf]; omega
end Go.Proofs.YtaliafeekadecaaDoor.Z
