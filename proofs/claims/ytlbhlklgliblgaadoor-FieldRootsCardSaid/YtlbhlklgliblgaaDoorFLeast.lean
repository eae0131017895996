/- The contracts of the program's Of, Least, reduced, Add and Sub. -/
import Derived.Test.YtlbhlklgliblgaaDoorFCarry
import Derived.Test.YtlbhlklgliblgaaDoorFInverts
namespace Go.Proofs.YtlbhlklgliblgaaDoor.F
open Go.RowKit
attribute [local irreducible] feA

section
variable {P : Program} {ops : Array Oper} {rest : List Oper} {a : Act} {w : World} {Q : Exit → Act → World → Prop} {t' : TypeId} {pos : String} {after : Array Edge}
/-- a package-level variable of rows is read -/
theorem wpL_loadGlobal {d : Option Tmp} {x : Operand} {ty : TypeId} (g o : Nat) (cs : List Value) (n : Nat) (hT : RowT P ty n) (hn : cs.length = n) (hg : w.rangeAt g o cs)
    (hx : a.eval x = .pointer (some ⟨g, o, none⟩)) (h : wpList P ops Q rest (a.put d (.agg cs.toArray)) w) : wpList P ops Q (⟨d, .load ty x, t', pos, after, none⟩ :: rest) a w := by
  obtain ⟨⟨ds, hu, hd⟩, hi⟩ := hT
  exact wpList_load_mid (op := ⟨d, .load ty x, t', pos, after, none⟩) rfl ty x rfl g o hx cs ds hg hu hd (by rw [hi, hn]) h
end
theorem Tab.prime {w : World} (h : Tab w) : w.rangeAt 0 0 (feA p25).toList := fun j v hv => by
  rw [Nat.zero_add]
  rw [feA_words] at hv
  match j, hv with
  | 0, hv | 1, hv | 2, hv | 3, hv => exact (h _ (by decide)).trans hv
theorem TabR.root {w : World} (h : TabR w) : w.rangeAt 1 0 (feA i25).toList := fun j v hv => by
  rw [Nat.zero_add]
  rw [feA_words] at hv
  match j, hv with
  | 0, hv | 1, hv | 2, hv | 3, hv => exact (h _ (by decide)).trans hv

theorem of_any (n : Nat) (w : World) (hn : n < 18446744073709551616) : Calls Tryd.prog 10 #[.int .u64 (n : Int)] w fun e w' => e = .returned (fe n) ∧ Below w.heap.size w w' := by
  rw [fe_word n hn]
  go_enter Tryd.func10, Tryd.ntmps10
  go_wp2
  exact bodyPost_ret (results_row Tryd.results10 rowFe rfl (Lies.new w _ #[.int .u64 (n : Int), .int .u64 0, .int .u64 0, .int .u64 0]) rfl) rfl ⟨rfl, (Below.refl _ w).alloc (Nat.le_refl _) _⟩

set_option maxRecDepth 100000 in
set_option maxHeartbeats 800000 in
theorem least_any (n : Nat) (W : World) (hn : n < K256) (hT : Tab W) :
    Calls Tryd.prog 11 #[fe n] W fun e w' => e = .returned (fe (n % p25)) ∧ Below W.heap.size W w' := by
  have hT0 := Lib.hid hT
  go_enter Tryd.func11, Tryd.ntmps11
  have hx := (Lies.new W 24 (feA n)).alloc (.cells fe0A 24)
  have hr : Lies ((W.alloc (.cells (feA n) 24)).alloc (.cells fe0A 24)) (W.heap.size + 1) 24 fe0A := heap_alloc2_new W _ _
  have hB := ((Below.refl W.heap.size W).alloc (Nat.le_refl _) (.cells (feA n) 24)).alloc (by simp) (.cells fe0A 24)
  go_upto_region 1 with fail
  generalize World.alloc (World.alloc W _) _ = w0 at *
  go_wp2_with fail
  go_loopw [5] (fun ix wr => ∃ i v : Nat, i ≤ 2 ∧ ix = .int .i64 i ∧ Hid (v % p25 = n % p25 ∧ v < (3 - i) * p25 ∧ v < K256) ∧ Lies wr W.heap.size 24 (feA v) ∧ Lies wr (W.heap.size + 1) 24 fe0A ∧ Below W.heap.size W wr) (fun ix _ => 2 - (intOf ix).toNat)
  case atStart => exact ⟨0, n, by omega, rfl, Lib.hid ⟨rfl, Nat.lt_of_lt_of_le hn (by decide), hn⟩, hx, hr, hB⟩
  case round =>
    clear hx hr hB hT
    obtain ⟨i, v, hi, rfl, HV, hx, hr, hB⟩ := hrel
    by_cases hlt : i < 2
    · have hT := hT0.out.on hB
      have HM := Lib.hid (fun w => minus_words v p25 w HV.out.2.2 (by decide))
      have hii : (i : Int) < 2 := by omega
      by_cases hv : v < p25
      · rw [decide_eq_true hv] at HM
        have HVn : Hid (v = n % p25) := Lib.hid (by rw [← HV.out.1, Nat.mod_eq_of_lt hv])
        generalize (v + K256 - p25) % K256 = y at HM
        clear hv HV
        go_wp2_with (first
          | ((with_reducible refine wpL_load W.heap.size 24 (feA v) 4 rowFe (feA_size _) hx ?_ ?_); rfl)
          | ((with_reducible refine wpL_loadGlobal 0 0 (feA p25).toList 4 rowFe (by rw [Array.length_toList]; exact feA_size _) hT.prime ?_ ?_); rfl; rw [Array.toArray_toList])
          | (go_at_call 25; refine (HM.out _).mono ?_; rintro e w1 ⟨rfl, hb⟩; replace hx := (hx.on hb).on (newly w1 (.cells fe0A 24) (feA y)); replace hr := (hr.on hb).on (newly w1 (.cells fe0A 24) (feA y)); replace hB := below_on (below_on hB hb) (newly w1 (.cells fe0A 24) (feA y)); clear hb hT)
          | ((with_reducible refine wpL_store w1.heap.size 24 _ (feA y) 4 rowFe ?_ (feA_size _) (feA_one _) (Lies.new w1 _ _) ?_ ?_ ?_); rfl; rfl; rfl)
          | ((with_reducible refine wpL_store (W.heap.size + 1) 24 _ (feA v) 4 rowFe rfl (feA_size _) (feA_one _) hr ?_ ?_ ?_); rfl; rfl))
        exact bodyPost_ret (results_row Tryd.results11 rowFe (feA_size _) (hr.row _) rfl) rfl ⟨by rw [← HVn.out], below_rowSet hB (Nat.le_succ _) _⟩
      · rw [decide_eq_false hv] at HM
        have hle : p25 ≤ v := by omega
        have hyv : (v + K256 - p25) % K256 = v - p25 := by
          have := HV.out.2.2
          rw [show v + K256 - p25 = v - p25 + K256 by omega, Nat.add_mod_right, Nat.mod_eq_of_lt (by omega)]
        have HS : Hid ((v - p25) % p25 = n % p25 ∧ v - p25 < (3 - (i + 1)) * p25 ∧ v - p25 < K256) := Lib.hid ⟨by rw [← HV.out.1, ← Nat.mod_eq_sub_mod hle], by
          have h1 := HV.out.2.1
          rw [show 3 - i = (3 - (i + 1)) + 1 by omega, Nat.succ_mul] at h1
          omega, by have := HV.out.2.2; omega⟩
        rw [hyv] at HM
        generalize v - p25 = y at HM HS
        clear hv HV hyv hle
        go_wp2_with (first
          | ((with_reducible refine wpL_load W.heap.size 24 (feA v) 4 rowFe (feA_size _) hx ?_ ?_); rfl)
          | ((with_reducible refine wpL_loadGlobal 0 0 (feA p25).toList 4 rowFe (by rw [Array.length_toList]; exact feA_size _) hT.prime ?_ ?_); rfl; rw [Array.toArray_toList])
          | (go_at_call 25; refine (HM.out _).mono ?_; rintro e w1 ⟨rfl, hb⟩; replace hx := (hx.on hb).on (newly w1 (.cells fe0A 24) (feA y)); replace hr := (hr.on hb).on (newly w1 (.cells fe0A 24) (feA y)); replace hB := below_on (below_on hB hb) (newly w1 (.cells fe0A 24) (feA y)); clear hb hT; have hz := newly_lies w1 24 fe0A (feA y))
          | ((with_reducible refine wpL_store w1.heap.size 24 _ (feA y) 4 rowFe ?_ (feA_size _) (feA_one _) (Lies.new w1 _ _) ?_ ?_ ?_); rfl; rfl; rfl)
          | ((with_reducible refine wpL_load w1.heap.size 24 (feA y) 4 rowFe (feA_size _) hz ?_ ?_); rfl)
          | ((with_reducible refine wpL_store W.heap.size 24 _ (feA y) 4 rowFe (feA_size _) (feA_size _) (feA_one _) hx ?_ ?_ ?_); rfl; rfl))
        go_roundw
        case rel => exact ⟨i + 1, y, by omega, by go_num, HS, hx.row _, hr.rowFar (by omega) _, below_rowSet hB (Nat.le_refl _) _⟩
        case measure => simp [intOf]; omega
    · obtain rfl : i = 2 := by omega
      have hv : v = n % p25 := by rw [← HV.out.1, Nat.mod_eq_of_lt (by have := HV.out.2.1; omega)]
      have HVn := Lib.hid hv
      clear HV hv
      go_wp2_with (first
        | ((with_reducible refine wpL_load W.heap.size 24 (feA v) 4 rowFe (feA_size _) hx ?_ ?_); rfl)
        | ((with_reducible refine wpL_store (W.heap.size + 1) 24 _ (feA v) 4 rowFe rfl (feA_size _) (feA_one _) hr ?_ ?_ ?_); rfl; rfl))
      exact bodyPost_ret (results_row Tryd.results11 rowFe (feA_size _) (hr.row _) rfl) rfl ⟨by rw [← HVn.out], below_rowSet hB (Nat.le_succ _) _⟩

/-- the number that lies in a block -/
def numB (w : World) (g : Nat) : Nat := match w.heap[g]? with
  | some (.cells cs _ _) => valK (cs.toList.map fun v => (intOf v).toNat)
  | _ => 0
theorem Lies.numB {w : World} {g t v : Nat} (h : Lies w g t (feA v)) (hv : v < K256) : numB w g = v := by
  unfold Lies at h
  unfold F.numB
  rw [h]
  show valK ((feA v).toList.map fun v => (intOf v).toNat) = v
  rw [feA_wordsL, List.map_map]
  have e : (wordsL v).map ((fun v => (intOf v).toNat) ∘ w64) = wordsL v := by
    conv => rhs; rw [← List.map_id (wordsL v)]
    exact List.map_congr_left fun x _ => by simp [intOf]
  rw [e, wordsL_val hv]

set_option maxRecDepth 100000 in
set_option maxHeartbeats 800000 in
/-- what four words, and so many times 2^256, leave -/
theorem reduced_any (z h : Nat) (W : World) (hz : z < K256) (hh : h < 1000) (hT : Tab W) :
    Calls Tryd.prog 29 #[fe z, .int .u64 (h : Int)] W fun e w' => e = .returned (fe ((z + h * K256) % p25)) ∧ Below W.heap.size W w' := by
  have hT0 := Lib.hid hT
  clear hT
  go_enter Tryd.func29, Tryd.ntmps29
  have hx := (Lies.new W 24 (feA z)).alloc (.cells fe0A 24)
  have hr : Lies ((W.alloc (.cells (feA z) 24)).alloc (.cells fe0A 24)) (W.heap.size + 1) 24 fe0A := heap_alloc2_new W _ _
  have hB := ((Below.refl W.heap.size W).alloc (Nat.le_refl _) (.cells (feA z) 24)).alloc (by simp) (.cells fe0A 24)
  go_upto_region 1 with fail
  generalize World.alloc (World.alloc W _) _ = w0 at *
  go_loopw [1] (fun hx wr => ∃ v k : Nat, hx = w64 k ∧ k < 1000 ∧ v < K256 ∧ Hid ((v + k * K256) % p25 = (z + h * K256) % p25) ∧ Lies wr W.heap.size 24 (feA v) ∧ Lies wr (W.heap.size + 1) 24 fe0A ∧ Below W.heap.size W wr) (fun hx wr => (intOf hx).toNat * K256 + numB wr W.heap.size)
  case atStart => exact ⟨z, h, rfl, hh, hz, Lib.hid rfl, hx, hr, hB⟩
  case round =>
    clear hx hr hB hz hh
    obtain ⟨v, k, rfl, hk, hv, HV, hx, hr, hB⟩ := hrel
    by_cases h0 : k = 0
    · subst h0
      have HL := Lib.hid (fun w hT => least_any v w hv hT)
      have HS := Lib.hid HV.out
      rw [Nat.zero_mul, Nat.add_zero] at HS
      rw [HS.out] at HL
      have hT := hT0.out.on hB
      clear HV HS
      obtain ⟨q, hq⟩ : ∃ q, (z + h * K256) % p25 = q := ⟨_, rfl⟩
      rw [hq] at HL
      have HQ := Lib.hid hq
      clear hq
      go_wp2_with (first
        | ((with_reducible refine wpL_load W.heap.size 24 (feA v) 4 rowFe (feA_size _) hx ?_ ?_); rfl)
        | (go_at_call 11; refine (HL.out _ hT).mono ?_; rintro e w1 ⟨rfl, hb⟩; replace hr := hr.on hb; replace hB := below_on hB hb; clear hb)
        | ((with_reducible refine wpL_store (W.heap.size + 1) 24 _ (feA q) 4 rowFe rfl (feA_size _) (feA_one _) hr ?_ ?_ ?_); rfl; rfl))
      exact bodyPost_ret (results_row Tryd.results29 rowFe (feA_size _) (hr.row _) rfl) rfl ⟨by rw [HQ.out], below_rowSet hB (Nat.le_succ _) _⟩
    · have hb38 : k * 38 < 18446744073709551616 := by omega
      have hnb := Lib.hid (hx.numB hv)
      have HVv := Lib.hid (wordsL_val hv)
      have hll : (wordsL v).length = 4 := rfl
      have hwl := wordsL_wd v
      rw [feA_wordsL v] at hx
      obtain ⟨k38, hk38⟩ : ∃ k38, k * 38 = k38 := ⟨_, rfl⟩
      have hmul : IntKind.u64.wrap ((k : Int) * 38) = (k38 : Int) := by rw [IntKind.wrap_u64]; omega
      have hcast : (k : Int) * 38 = (k38 : Int) := by omega
      have hk0 : ¬ (k : Int) = 0 := by omega
      have Hk38 := Lib.hid hk38
      rw [hk38] at hb38
      clear hk38
      generalize wordsL v = l0 at *
      obtain ⟨wq, hwq⟩ : ∃ wq, wq = wr := ⟨_, rfl⟩
      subst hwq
      go_wp2_with fail
      go_loopw [5, 11] (fun cx ix wv => ∃ (i c : Nat) (l : List Nat), i ≤ 4 ∧ ix = .int .i64 i ∧ cx = w64 c ∧ c < 18446744073709551616 ∧ l.length = 4 ∧ Wd l ∧ Hid (valK l + 18446744073709551616 ^ i * c = v + k38) ∧ Lies wv W.heap.size 24 (l.map w64).toArray ∧ Lies wv (W.heap.size + 1) 24 fe0A ∧ Below W.heap.size W wv) (fun _ ix _ => 4 - (intOf ix).toNat)
      case atStart => exact ⟨0, k38, l0, by omega, rfl, rfl, hb38, hll, hwl, Lib.hid (by rw [HVv.out]; simp), hx, hr, hB⟩
      case round =>
        clear hx hr hB hb38 hmul hcast hll hwl
        obtain ⟨i, c, l, hi, rfl, rfl, hc, hl, hw, HS, hx, hr, hB⟩ := hrel
        by_cases hlt : i < 4
        · have cx := (hx.cell i).trans (listA_at l i (by omega))
          have fx := hx.frozen i
          have bx := hw.at i
          have HP := Lib.hid (fun x => listA_set l i x)
          have HW := Lib.hid hw
          have HSt := Lib.hid (fun (s q x : Nat) (hx : l.getD i 0 = x) => @set_sum l i s x 0 c q _ (by omega) hx HS.out)
          clear hw
          generalize hlx : l.getD i 0 = x at *
          have hadd : ∀ w, (callFunc 44 #[.int .u64 (x : Int), .int .u64 (c : Int), .int .u64 0]).run Tryd.prog w = .ok (.value (.tuple #[w64 ((x + c) % 18446744073709551616), w64 ((x + c) / 18446744073709551616)])) w := fun w => add64_run x c 0 (by decide) w
          have hsq : (x + c) % 18446744073709551616 + 18446744073709551616 * ((x + c) / 18446744073709551616) = x + 0 + c := by omega
          obtain ⟨s, hs⟩ : ∃ s, (x + c) % 18446744073709551616 = s := ⟨_, rfl⟩
          obtain ⟨q, hq⟩ : ∃ q, (x + c) / 18446744073709551616 = q := ⟨_, rfl⟩
          have hsK : s < 18446744073709551616 := by omega
          have hq1 : q < 18446744073709551616 := by omega
          rw [hs, hq] at hadd hsq
          have HT := Lib.hid (HSt.out s q x rfl hsq)
          clear hs hq bx hsq HSt hlx
          have hi4 : (i : Int) < 4 := by omega
          go_wp2_with fail
          go_roundw
          case rel => exact ⟨i + 1, q, l.set i s, by omega, by go_num, rfl, hq1, by rw [List.length_set]; exact hl, HW.out.set i hsK, Lib.hid (by have h := HT.out; rwa [Nat.mul_zero, Nat.add_zero] at h), by rw [← HP.out]; exact hx.put i _, hr.far (by simp only; omega) _, below_put hB (by omega) _ _⟩
          case measure => simp [intOf]; omega
        · obtain rfl : i = 4 := by omega
          rw [show ((4 : Nat) : Int) = 4 from rfl]
          obtain ⟨hwe, hwK⟩ := words_feA l hl hw
          rw [hwe] at hx
          have hv4 := HS.out
          rw [show (18446744073709551616 : Nat) ^ 4 = K256 by decide] at hv4
          have hk38 := Hk38.out
          have hqs : c < 1000 := by
            unfold K256 at *
            omega
          have hmeas : c * K256 + valK l < k * K256 + v := by
            unfold K256 at *
            omega
          have HR : Hid ((valK l + c * K256) % p25 = (z + h * K256) % p25) := Lib.hid (by
            rw [← HV.out, show v + k * K256 = (valK l + c * K256) + p25 * (2 * k) by unfold K256 p25 at *; omega, Nat.add_mul_mod_self_left])
          have HM := Lib.hid hmeas
          clear hv4 hk38 hmeas HS HV Hk38 hw
          generalize valK l = V at *
          go_wp2_with fail
          go_roundw
          case rel => exact ⟨V, c, rfl, hqs, hwK, HR, hx, hr, hB⟩
          case measure =>
            rw [hnb.out, hx.numB hwK]
            simp only [intOf, Int.toNat_natCast]
            exact HM.out

set_option maxRecDepth 100000 in
set_option maxHeartbeats 800000 in
theorem add_any (m n : Nat) (W : World) (hm : m < K256) (hn : n < K256) (hT : Tab W) :
    Calls Tryd.prog 13 #[fe m, fe n] W fun e w' => e = .returned (fe ((m + n) % p25)) ∧ Below W.heap.size W w' := by
  have HP := Lib.hid (fun w => plus_words m n w hm hn)
  obtain ⟨y, hy⟩ : ∃ y, (m + n) % K256 = y := ⟨_, rfl⟩
  obtain ⟨q, hq⟩ : ∃ q, (m + n) / K256 = q := ⟨_, rfl⟩
  have hyK : y < K256 := by rw [← hy]; exact Nat.mod_lt _ (by decide)
  have hyq : y + q * K256 = m + n := by rw [← hy, ← hq]; exact Nat.mod_add_div' _ _
  have hq1 : q < 1000 := by
    unfold K256 at *
    omega
  have HF := Lib.hid (fun w hT => reduced_any y q w hyK hq1 hT)
  rw [hyq] at HF
  rw [hy, hq] at HP
  clear hy hq hyq
  have hT0 := Lib.hid hT
  clear hT
  obtain ⟨r, hr⟩ : ∃ r, (m + n) % p25 = r := ⟨_, rfl⟩
  rw [hr] at HF ⊢
  clear hr
  go_enter Tryd.func13, Tryd.ntmps13
  have hx := ((Lies.new W 24 (feA m)).alloc (.cells (feA n) 24)).alloc (.cells fe0A 24)
  have hy : Lies ((W.alloc (.cells (feA m) 24)).alloc (.cells (feA n) 24)) (W.heap.size + 1) 24 (feA n) := heap_alloc2_new W _ _
  replace hy := hy.alloc (.cells fe0A 24)
  have hr := lies3 W (.cells (feA m) 24) (.cells (feA n) 24) 24 fe0A
  have hB := (((Below.refl W.heap.size W).alloc (Nat.le_refl _) (.cells (feA m) 24)).alloc (by simp) (.cells (feA n) 24)).alloc (by simp; omega) (.cells fe0A 24)
  go_upto_region 1 with fail
  generalize World.alloc (World.alloc (World.alloc W _) _) _ = w0 at *
  go_upto_region 2 with (first
    | ((with_reducible refine wpL_load W.heap.size 24 (feA m) 4 rowFe (feA_size _) hx ?_ ?_); rfl)
    | ((with_reducible refine wpL_load (W.heap.size + 1) 24 (feA n) 4 rowFe (feA_size _) hy ?_ ?_); rfl)
    | (go_at_call 28; refine (HP.out _).mono ?_; rintro e w1 ⟨rfl, hb⟩; replace hr := hr.on hb; replace hB := below_on hB hb; clear hb)
    | ((with_reducible refine wpL_store w1.heap.size 24 _ (feA y) 4 rowFe ?_ (feA_size _) (feA_one _) (Lies.new w1 _ _) ?_ ?_ ?_); rfl; rfl; rfl))
  have hz := newly_lies w1 24 fe0A (feA y)
  have hnw := newly w1 (.cells fe0A 24) (feA y)
  replace hr := hr.on hnw
  replace hB := below_on hB hnw
  have hT := hT0.out.on hB
  clear hnw HP
  generalize World.setRow _ _ _ = w2 at *
  generalize w1.heap.size = gz at *
  go_wp2_with (first
    | ((with_reducible refine wpL_load gz 24 (feA y) 4 rowFe (feA_size _) hz ?_ ?_); rfl)
    | (go_at_call 29; refine (HF.out _ hT).mono ?_; rintro e w3 ⟨rfl, hb⟩; replace hr := hr.on hb; replace hB := below_on hB hb; clear hb)
    | ((with_reducible refine wpL_store (W.heap.size + 1 + 1) 24 _ (feA r) 4 rowFe rfl (feA_size _) (feA_one _) hr ?_ ?_ ?_); rfl; rfl))
  exact bodyPost_ret (results_row Tryd.results13 rowFe (feA_size _) (hr.row _) rfl) rfl ⟨rfl, below_rowSet hB (by omega) _⟩
end Go.Proofs.YtlbhlklgliblgaaDoor.F
