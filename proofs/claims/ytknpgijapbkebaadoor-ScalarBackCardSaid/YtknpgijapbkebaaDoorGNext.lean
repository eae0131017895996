/- The contracts of the program's orderTimes, often and next: what a number below L times 2^64, with a word more, leaves. -/
import Derived.Test.YtknpgijapbkebaaDoorGCarry
import Derived.Test.YtknpgijapbkebaaDoorRegionA
import Derived.Laws.BitsAllLaws
import Derived.Laws.ShiftsVarLaws
namespace Go.Proofs.YtknpgijapbkebaaDoor.F
set_option maxRecDepth 100000
open Go.RowKit Go.Sort
attribute [local irreducible] feA

/-! ### numbers -/
/-- how often 2^252 goes in, or the greatest word -/
def oftenN (X : Nat) : Nat := if 7237005577332262213973186563042994240829374041602535252466099000494570602496 ≤ X then 18446744073709551615 else X / 392318858461667547739736838950479151006397215279002157056
theorem oftenN_lt (X : Nat) : oftenN X < 18446744073709551616 := by
  unfold oftenN
  split
  · decide
  · omega
theorem next_math (X w : Nat) (h : X < l25) (hw : w < 18446744073709551616) (r : Nat) (hr : r = ((X * 18446744073709551616 + w) % K256 + K256 - l25 * oftenN X % K256) % K256) :
    (r < 57896044618658097711785492504343953926634992332820282019728792003956564819968 → r = (X * 18446744073709551616 + w) % l25) ∧ (57896044618658097711785492504343953926634992332820282019728792003956564819968 ≤ r → (r + l25) % K256 = (X * 18446744073709551616 + w) % l25) := by
  obtain ⟨q, hq⟩ : ∃ q, oftenN X = q := ⟨_, rfl⟩
  obtain ⟨N, hN⟩ : ∃ N, X * 18446744073709551616 + w = N := ⟨_, rfl⟩
  have hb : (l25 * q ≤ N ∧ N - l25 * q < l25) ∨ (N < l25 * q ∧ l25 * q - N ≤ 7237005577332262213973186563042994240829374041602535252466099000494570602496) := by
    unfold oftenN at hq
    unfold l25 at *
    split at hq <;> omega
  rw [hq, hN] at hr
  rw [hN]
  clear hq hN
  rcases hb with ⟨h1, h2⟩ | ⟨h1, h2⟩
  · obtain ⟨d, rfl⟩ : ∃ d, N = l25 * q + d := ⟨N - l25 * q, by omega⟩
    have hd : d < l25 := by omega
    rw [Nat.mul_add_mod, Nat.mod_eq_of_lt hd]
    generalize l25 * q = M at *
    have e : r = d := by
      unfold l25 at hd
      unfold K256 at hr
      omega
    subst e
    unfold l25 at hd
    exact ⟨fun _ => rfl, fun h => by omega⟩
  · have hq1 : 0 < q := by
      rcases Nat.eq_zero_or_pos q with e | e
      · subst e; omega
      · exact e
    obtain ⟨p, rfl⟩ : ∃ p, q = p + 1 := ⟨q - 1, by omega⟩
    rw [Nat.mul_add, Nat.mul_one] at *
    have h3 : l25 * p ≤ N := by unfold l25 at *; omega
    obtain ⟨d, rfl⟩ : ∃ d, N = l25 * p + d := ⟨N - l25 * p, by omega⟩
    have hd : d < l25 := by omega
    rw [Nat.mul_add_mod, Nat.mod_eq_of_lt hd]
    generalize l25 * p = M at *
    have e : r = d + K256 - l25 := by
      unfold l25 at *
      unfold K256 at *
      omega
    unfold l25 at *
    unfold K256 at *
    exact ⟨fun h => by omega, fun _ => by omega⟩

/-! ### L so many times -/
/-- some words, zeros behind them -/
def padA (ws : List Nat) (n : Nat) : Array Value := ((ws ++ List.replicate (n - ws.length) 0).map w64).toArray
theorem padA_at (ws : List Nat) (n i : Nat) (hi : i < n) : (padA ws n)[i]? = some (w64 ((ws ++ List.replicate (n - ws.length) 0).getD i 0)) := by
  unfold padA
  rw [List.getElem?_toArray, List.getElem?_map, List.getElem?_eq_getElem (by simp; omega), List.getD_eq_getElem?_getD, List.getElem?_eq_getElem (by simp; omega)]
  rfl
theorem padA_set (ws : List Nat) (n i x : Nat) (hl : ws.length = i) (hi : i < n) : (padA ws n).setIfInBounds i (w64 x) = padA (ws ++ [x]) n := by
  unfold padA
  rw [List.setIfInBounds_toArray, ← List.map_set, hl, pre_set ws n i x hl hi, List.length_append, hl]
  rfl
theorem padA_full (ws : List Nat) (n : Nat) (h : ws.length = n) : padA ws n = (ws.map w64).toArray := by
  unfold padA
  rw [h, Nat.sub_self, List.replicate_zero, List.append_nil]
theorem times_step {V A c s q x t i : Nat} (h : V + 18446744073709551616 ^ i * c = A * t) (hs : s + 18446744073709551616 * q = x * t + 0 + c) :
    (V + 18446744073709551616 ^ i * s) + 18446744073709551616 ^ (i + 1) * q = (A + 18446744073709551616 ^ i * x) * t := by
  have h2 : 18446744073709551616 ^ i * s + 18446744073709551616 ^ (i + 1) * q = 18446744073709551616 ^ i * (x * t) + 18446744073709551616 ^ i * c := by
    rw [Nat.pow_succ, Nat.mul_assoc, ← Nat.mul_add, hs, Nat.add_zero, Nat.mul_add]
  rw [Nat.add_mul, Nat.mul_assoc, ← h]
  omega
theorem wordsL_word (n q : Nat) (h : q < 4) : (wordsL n).getD q 0 = wordN n q := by
  match q, h with
  | 0, _ | 1, _ | 2, _ | 3, _ => rfl

set_option maxRecDepth 100000 in
set_option maxHeartbeats 1600000 in
theorem orderTimes_any (t : Nat) (W : World) (ht : t < 18446744073709551616) (hT : Tab W) :
    Calls Tryd.prog 39 #[w64 t] W fun e w' => e = .returned (fe (l25 * t % K256)) ∧ Below W.heap.size W w' := by
  have hT0 := Lib.hid hT
  have hlv : valK (wordsL l25) = l25 := wordsL_val (by decide)
  have HLV := Lib.hid hlv
  have wl := wordsL_wd l25
  have hll : (wordsL l25).length = 4 := rfl
  have hTw : Hid (∀ i, i < 4 → W.cell? ⟨0, i, none⟩ = some (w64 ((wordsL l25).getD i 0))) := Lib.hid (fun i hi => by rw [wordsL_word _ _ hi]; exact hT i hi)
  clear hT hlv
  generalize hxs : wordsL l25 = xs at *
  clear hxs
  generalize l25 = N at *
  have hTon : Hid (∀ w', Below W.heap.size W w' → ∀ i, i < 4 → w'.cell? ⟨0, i, none⟩ = some (w64 (xs.getD i 0))) := Lib.hid (fun w' hb i hi => (hb.cell (p := ⟨0, i, none⟩) (World.block_lt_of_cell? W _ (hTw.out i hi))).trans (hTw.out i hi))
  clear hT0 hTw
  go_enter Tryd.func39, Tryd.ntmps39
  have hr := Lies.new W 24 fe0A
  have hB := (Below.refl W.heap.size W).alloc (Nat.le_refl _) (.cells fe0A 24)
  go_upto_region 1 with fail
  generalize World.alloc W _ = w0 at *
  have hz : Lies (w0.alloc (.cells fe0A 24)) w0.heap.size 24 (padA [] 4) := Lies.new w0 _ _
  have hlt := hr.lt
  replace hr := hr.alloc (.cells fe0A 24)
  have hsz := hB.size
  replace hB := hB.alloc hsz (.cells fe0A 24)
  go_upto_region 2 with fail
  generalize World.alloc w0 _ = w1 at *
  generalize w0.heap.size = gz at *
  go_wp2_with fail
  go_loopw [4, 6] (fun cx ix wr => ∃ (i c : Nat) (ws : List Nat), i ≤ 4 ∧ ix = .int .i64 i ∧ cx = w64 c ∧ c < 18446744073709551616 ∧ ws.length = i ∧ Wd ws ∧ Hid (valK ws + 18446744073709551616 ^ i * c = valK (xs.take i) * t) ∧ Lies wr gz 24 (padA ws 4) ∧ Lies wr W.heap.size 24 fe0A ∧ Below W.heap.size W wr) (fun _ ix _ => 4 - (intOf ix).toNat)
  case atStart => exact ⟨0, 0, [], by omega, rfl, rfl, by decide, rfl, (fun d hd => by cases hd), Lib.hid (by simp [valK]), hz, hr, hB⟩
  case round =>
    clear hz hr hB
    obtain ⟨i, c, ws, hi, rfl, rfl, hc, hl, hw, HV, hz, hr, hB⟩ := hrel
    by_cases hlt : i < 4
    · have co := hTon.out _ hB i hlt
      have bx := wl.at i
      have HP := Lib.hid (fun x => padA_set ws 4 i x hl hlt)
      have HX := Lib.hid (valK_take_succ xs i)
      have HW := Lib.hid hw
      generalize xs.getD i 0 = x at *
      obtain ⟨q, s, b5, b6, hsum, HM⟩ := wordTimes_any x t 0 c bx ht (by decide) hc
      have cM : ∀ W : World, Calls Tryd.prog 26 #[.int .u64 (x : Int), .int .u64 (t : Int), .int .u64 0, .int .u64 (c : Int)] W fun e w' => e = .returned (.tuple #[.int .u64 (q : Int), .int .u64 (s : Int)]) ∧ Below W.heap.size W w' := HM
      have HS := Lib.hid (times_step HV.out hsum)
      have HBs := Lib.hid (And.intro b5 b6)
      have cz := (hz.cell i).trans (padA_at ws 4 i hlt)
      have hii : (i : Int) < 4 := by omega
      generalize (ws ++ List.replicate (4 - ws.length) 0).getD i 0 = z at cz
      clear hsum HM bx hw cz
      go_wp2_with (go_at_call 26; refine (cM _).mono ?_; rintro e w3 ⟨rfl, hb⟩; replace hz := hz.on hb; replace hr := hr.on hb; replace hB := below_on hB hb; clear hb; have cz := (hz.cell i).trans (padA_at ws 4 i hlt); have fz := hz.frozen i)
      go_roundw
      case rel => exact ⟨i + 1, q, ws ++ [s], by omega, by go_num, rfl, HBs.out.1, by rw [List.length_append, hl]; rfl, HW.out.snoc HBs.out.2, Lib.hid (by rw [valK_snoc, hl, HX.out]; exact HS.out), by rw [← HP.out]; exact hz.put i _, hr.far (by simp only; omega) _, below_put hB (by omega) _ _⟩
      case measure => simp [intOf]; omega
    · obtain rfl : i = 4 := by omega
      obtain ⟨hwe, hwK⟩ := words_feA ws hl hw
      rw [padA_full ws 4 hl, hwe] at hz
      have hv := HV.out
      rw [List.take_of_length_le (by omega), HLV.out, show (18446744073709551616 : Nat) ^ 4 = K256 by decide] at hv
      have hvm : valK ws = N * t % K256 := by rw [← hv, Nat.add_mul_mod_self_left, Nat.mod_eq_of_lt hwK]
      have HVM := Lib.hid hvm
      clear hv hvm hwe hwK HV hw
      generalize valK ws = V at *
      go_wp2_with (first
        | ((with_reducible refine wpL_load gz 24 (feA V) 4 rowFe (feA_size _) hz ?_ ?_); rfl)
        | ((with_reducible refine wpL_store W.heap.size 24 _ (feA V) 4 rowFe rfl (feA_size _) (feA_one _) hr ?_ ?_ ?_); rfl; rfl))
      exact bodyPost_ret (results_row Tryd.results39 rowFe (feA_size _) (hr.row _) rfl) rfl ⟨by rw [← HVM.out], below_rowSet hB (by omega) _⟩

theorem high_or (a b : Nat) (ha : a < 1152921504606846976) (hb : b < 18446744073709551616) : bits BinOp.or IntKind.u64 ((a : Int) * 16) ((b : Int) / 1152921504606846976) = ((a * 16 + b / 1152921504606846976 : Nat) : Int) := by
  have e1 : (a : Int) * 16 = ((a * 16 : Nat) : Int) := by omega
  have e2 : (b : Int) / 1152921504606846976 = ((b / 1152921504606846976 : Nat) : Int) := by omega
  rw [e1, e2, u64_or_nat _ _ (by omega) (by omega)]
  congr 1
  have h := Nat.two_pow_add_eq_or_of_lt (i := 4) (b := b / 1152921504606846976) (by omega) a
  rw [Nat.mul_comm a 16]
  exact h.symm

set_option maxRecDepth 100000 in
set_option maxHeartbeats 800000 in
theorem often_any (X : Nat) (W : World) (hX : X < l25) (hT : Tab W) :
    Calls Tryd.prog 40 #[fe X] W fun e w' => e = .returned (w64 (oftenN X)) ∧ Below W.heap.size W w' := by
  obtain ⟨V, hV⟩ : ∃ V, oftenN X = V := ⟨_, rfl⟩
  rw [hV]
  have hz0 := Lies.new W 24 (feA X)
  have hB := (Below.refl W.heap.size W).alloc (Nat.le_refl _) (.cells (feA X) 24)
  have c3 := hz0.cell 3
  have c2 := hz0.cell 2
  have e3 : (feA X)[3]? = some (w64 (wordN X 3)) := by rw [feA_words]; rfl
  have e2 : (feA X)[2]? = some (w64 (wordN X 2)) := by rw [feA_words]; rfl
  rw [e3] at c3
  rw [e2] at c2
  have h3 := (hT.on hB) 3 (by decide)
  rw [show wordN l25 3 = 1152921504606846976 by decide] at h3
  replace h3 : (World.alloc W (.cells (feA X) 24)).cell? ⟨0, 3, none⟩ = some (.int .u64 1152921504606846976) := h3
  have w2 := wordN_lt X 2
  have hv3 : wordN X 3 = X / 6277101735386680763835789423207666416102355444464034512896 := by
    unfold wordN
    unfold l25 at hX
    omega
  have hcase : (wordN X 3 = 1152921504606846976 ∧ V = 18446744073709551615) ∨ (wordN X 3 < 1152921504606846976 ∧ wordN X 3 * 16 + wordN X 2 / 1152921504606846976 = V) := by
    unfold oftenN at hV
    unfold wordN at *
    unfold l25 at hX
    split at hV
    · exact .inl ⟨by omega, by omega⟩
    · exact .inr ⟨by omega, by omega⟩
  clear hV hv3 e3 e2 hz0 hT
  generalize wordN X 3 = x3 at *
  generalize wordN X 2 = x2 at *
  go_enter Tryd.func40, Tryd.ntmps40
  go_upto_region 1 with fail
  generalize World.alloc W _ = w0 at *
  rcases hcase with ⟨rfl, rfl⟩ | ⟨hx, hV⟩
  · go_wp2_with fail
    go_ret
    exact ⟨rfl, hB⟩
  · have hne : ¬ (x3 : Int) = 1152921504606846976 := by omega
    have ho := high_or x3 x2 hx w2
    rw [hV] at ho
    go_wp2_with fail
    go_ret
    exact ⟨rfl, hB⟩

/-! ### one word more -/
theorem alloc_sc {o : Oper} (h : o.op = .alloc 24) (a : Act) (w : World) : (execOp a.eval o).run Tryd.prog w = .ok (.value (.pointer (some ⟨w.heap.size, 0, none⟩))) (w.alloc (.cells fe0A 24)) := by
  unfold execOp
  rw [h]
  kernel_rfl
section
variable {w0 : World} {Q : Act → Prop} {a : Act} {rest : List Oper} {t' : TypeId} {pos : String} {after : Array Edge} {d : Option Tmp} {x : Operand}
theorem wpQB_sc (g n : Nat) (hz : Lies w0 g 24 (feA n)) (hx : a.eval x = .pointer (some ⟨g, 0, none⟩))
    (h : wpQB Tryd.prog w0 Q rest (a.put d (fe n))) : wpQB Tryd.prog w0 Q (⟨d, .load 24 x, t', pos, after, none⟩ :: rest) a :=
  wpQB_load g 24 (feA n) _ Tryd.underlying24 rfl (by rw [feA_size]; exact rowFe.2) hz hx h
/-- one word of a block is read -/
theorem wpQB_word (g i n : Nat) (hc : w0.cell? ⟨g, i, none⟩ = some (w64 n)) (hx : a.eval x = .pointer (some ⟨g, i, none⟩))
    (h : wpQB Tryd.prog w0 Q rest (a.put d (w64 n))) : wpQB Tryd.prog w0 Q (⟨d, .load 22 x, t', pos, after, none⟩ :: rest) a :=
  wpQB_run (w64 n) rfl (fun w hw => by
    have hc' : w.cell? ⟨g, i, none⟩ = some (w64 n) := (hw.cell (p := ⟨g, i, none⟩) (World.block_lt_of_cell? w0 _ hc)).trans hc
    unfold execOp
    simp [hx, Instr.loadAt, Instr.sureAddr, loadVar, hc']) h
end

/-- L is read whole -/
theorem tab_range {w : World} (h : Tab w) : w.rangeAt 0 0 (feA l25).toList := fun j v hv => by
  have hj : j < 4 := by
    have := (List.getElem?_eq_some_iff.1 hv).1
    rwa [Array.length_toList, feA_size] at this
  rw [Nat.zero_add, h j hj, ← hv, feA_words]
  match j, hj with
  | 0, _ | 1, _ | 2, _ | 3, _ => rfl
theorem wpL_loadG {P : Program} {ops : Array Oper} {rest : List Oper} {a : Act} {w : World} {Q : Exit → Act → World → Prop} {t' : TypeId} {pos : String} {after : Array Edge} {d : Option Tmp} {x : Operand} {ty : TypeId} (g o : Nat) (cs : List Value) (n : Nat) (hT : RowT P ty n) (hn : cs.length = n) (hg : w.rangeAt g o cs)
    (hx : a.eval x = .pointer (some ⟨g, o, none⟩)) (h : wpList P ops Q rest (a.put d (.agg cs.toArray)) w) : wpList P ops Q (⟨d, .load ty x, t', pos, after, none⟩ :: rest) a w := by
  obtain ⟨⟨ds, hu, hd⟩, hi⟩ := hT
  exact wpList_load_mid (op := ⟨d, .load ty x, t', pos, after, none⟩) rfl ty x rfl g o hx cs ds hg hu hd (by rw [hi, hn]) h

set_option maxRecDepth 100000 in
set_option maxHeartbeats 1600000 in
theorem next_any (X x : Nat) (W : World) (hX : X < l25) (hx : x < 18446744073709551616) (hT : Tab W) :
    Calls Tryd.prog 31 #[fe X, w64 x] W fun e w' => e = .returned (fe ((X * 18446744073709551616 + x) % l25)) ∧ Below W.heap.size W w' := by
  have hT0 := Lib.hid hT
  have ht : oftenN X < 18446744073709551616 := oftenN_lt X
  have hb : (X * 18446744073709551616 + x) % K256 < K256 := Nat.mod_lt _ (by decide)
  have hb2 : l25 * oftenN X % K256 < K256 := Nat.mod_lt _ (by decide)
  obtain ⟨r, hr⟩ : ∃ r, ((X * 18446744073709551616 + x) % K256 + K256 - l25 * oftenN X % K256) % K256 = r := ⟨_, rfl⟩
  have hrK : r < K256 := by rw [← hr]; exact Nat.mod_lt _ (by decide)
  obtain ⟨hp1, hp2⟩ := next_math X x hX hx r hr.symm
  have HO := Lib.hid (fun w hT => often_any X w hX hT)
  have HL := Lib.hid (fun w hT => orderTimes_any (oftenN X) w ht hT)
  have HM := Lib.hid (fun w => minus_words _ _ w hb hb2)
  have HP := Lib.hid (fun w => plus_words r l25 w hrK (by decide))
  rw [hr] at HM
  have hfe : fe ((X * 18446744073709551616 + x) % K256) = .agg #[w64 x, w64 (wordN X 0), w64 (wordN X 1), w64 (wordN X 2)] := by
    unfold fe
    rw [feA_words]
    have h0 : wordN ((X * 18446744073709551616 + x) % K256) 0 = x := by
      unfold wordN K256
      omega
    have h1 : wordN ((X * 18446744073709551616 + x) % K256) 1 = wordN X 0 := by
      unfold wordN K256
      omega
    have h2 : wordN ((X * 18446744073709551616 + x) % K256) 2 = wordN X 1 := by
      unfold wordN K256
      omega
    have h3 : wordN ((X * 18446744073709551616 + x) % K256) 3 = wordN X 2 := by
      unfold wordN K256
      omega
    rw [h0, h1, h2, h3]
  rw [hfe] at HM
  obtain ⟨V, hV⟩ : ∃ V, (X * 18446744073709551616 + x) % l25 = V := ⟨_, rfl⟩
  rw [hV] at hp1 hp2 ⊢
  have hcase : Hid ((wordN r 3 < 9223372036854775808 ∧ r = V) ∨ (¬ wordN r 3 < 9223372036854775808 ∧ (r + l25) % K256 = V)) := Lib.hid (by
    have e : wordN r 3 = r / 6277101735386680763835789423207666416102355444464034512896 := by
      unfold wordN
      unfold K256 at hrK
      omega
    have hk : r < 115792089237316195423570985008687907853269984665640564039457584007913129639936 := hrK
    by_cases h : r < 57896044618658097711785492504343953926634992332820282019728792003956564819968
    · exact .inl ⟨by omega, hp1 h⟩
    · exact .inr ⟨by omega, hp2 (by omega)⟩)
  generalize oftenN X = t at *
  generalize l25 * t % K256 = M at *
  generalize (X * 18446744073709551616 + x) % K256 = N at *
  clear hp1 hp2 hV hfe hr hb hb2 hX hT
  go_enter Tryd.func31, Tryd.ntmps31
  have hz := (Lies.new W 24 (feA X)).alloc (.cells fe0A 24)
  have hr : Lies ((W.alloc (.cells (feA X) 24)).alloc (.cells fe0A 24)) (W.heap.size + 1) 24 fe0A := heap_alloc2_new W _ _
  have hB := ((Below.refl W.heap.size W).alloc (Nat.le_refl _) (.cells (feA X) 24)).alloc (by simp) (.cells fe0A 24)
  go_upto_region 1 with fail
  generalize World.alloc (World.alloc W _) _ = w0 at *
  have hT := hT0.out.on hB
  have c0 : w0.cell? ⟨W.heap.size, 0, none⟩ = some (w64 (wordN X 0)) := (hz.cell 0).trans (by rw [feA_words]; rfl)
  have c1 : w0.cell? ⟨W.heap.size, 1, none⟩ = some (w64 (wordN X 1)) := (hz.cell 1).trans (by rw [feA_words]; rfl)
  have c2 : w0.cell? ⟨W.heap.size, 2, none⟩ = some (w64 (wordN X 2)) := (hz.cell 2).trans (by rw [feA_words]; rfl)
  generalize wordN X 0 = x0 at *
  generalize wordN X 1 = x1 at *
  generalize wordN X 2 = x2 at *
  refine wp_region_made 12 5 _ 24 fe0A rfl rfl (by kernel_rfl) (by kernel_rfl) (alloc_sc rfl) ?_
  simp only [List.take_succ_cons, List.take_zero, List.drop_succ_cons, List.drop_zero]
  refine wpQB_move ?_
  simp only [Act.put, List.setIfInBounds_toArray, List.set_cons_succ, List.set_cons_zero]
  refine wpQB_run (.pointer (some ⟨W.heap.size, 0, none⟩)) rfl (fun _ _ => by kernel_rfl) ?_
  simp only [Act.put, List.setIfInBounds_toArray, List.set_cons_succ, List.set_cons_zero]
  refine wpQB_word W.heap.size 0 x0 c0 rfl ?_
  simp only [Act.put, List.setIfInBounds_toArray, List.set_cons_succ, List.set_cons_zero]
  refine wpQB_run (.pointer (some ⟨W.heap.size, 1, none⟩)) rfl (fun _ _ => by kernel_rfl) ?_
  simp only [Act.put, List.setIfInBounds_toArray, List.set_cons_succ, List.set_cons_zero]
  refine wpQB_word W.heap.size 1 x1 c1 rfl ?_
  simp only [Act.put, List.setIfInBounds_toArray, List.set_cons_succ, List.set_cons_zero]
  refine wpQB_run (.pointer (some ⟨W.heap.size, 2, none⟩)) rfl (fun _ _ => by kernel_rfl) ?_
  simp only [Act.put, List.setIfInBounds_toArray, List.set_cons_succ, List.set_cons_zero]
  refine wpQB_word W.heap.size 2 x2 c2 rfl ?_
  simp only [Act.put, List.setIfInBounds_toArray, List.set_cons_succ, List.set_cons_zero]
  refine wpQB_run (.agg #[w64 x, w64 x0, w64 x1, w64 x2]) rfl (fun _ _ => by kernel_rfl) ?_
  simp only [Act.put, List.setIfInBounds_toArray, List.set_cons_succ, List.set_cons_zero]
  refine wpQB_sc W.heap.size X hz rfl ?_
  simp only [Act.put, List.setIfInBounds_toArray, List.set_cons_succ, List.set_cons_zero]
  refine wpQB_call 40 #[fe X] (w64 t) rfl rfl (fun _ => by kernel_rfl) (fun w hb => HO.out w (hT.on hb)) ?_
  simp only [Act.put, List.setIfInBounds_toArray, List.set_cons_succ, List.set_cons_zero]
  refine wpQB_call 39 #[w64 t] (fe M) rfl rfl (fun _ => by kernel_rfl) (fun w hb => HL.out w (hT.on hb)) ?_
  simp only [Act.put, List.setIfInBounds_toArray, List.set_cons_succ, List.set_cons_zero]
  refine wpQB_call 38 #[.agg #[w64 x, w64 x0, w64 x1, w64 x2], fe M] (fe r) rfl rfl (fun _ => by kernel_rfl) (fun w _ => HM.out w) ?_
  simp only [Act.put, List.setIfInBounds_toArray, List.set_cons_succ, List.set_cons_zero]
  refine wpQB_nil ?_
  intro k w3 hb hk hy3
  simp only [List.setIfInBounds_toArray, List.set_cons_succ, List.set_cons_zero]
  replace hy3 : Lies w3 k 24 fe0A := hy3
  have hrl := hr.lt
  replace hr := (hr.on hb).rowFar (show W.heap.size + 1 ≠ k by omega) (feA r)
  replace hB := below_rowSet (below_on hB hb) (show W.heap.size ≤ k by omega) (feA r)
  have hv := hy3.row (feA r)
  clear hb HO HL HM hT c0 c1 c2 hz
  go_upto_region 2 with ((with_reducible refine wpL_store k 24 _ (feA r) 4 rowFe rfl (feA_size _) (feA_one _) hy3 ?_ ?_ ?_); rfl; rfl)
  clear hy3
  generalize World.setRow _ _ _ = w4 at *
  have hT := hT0.out.on hB
  have c3 : w4.cell? ⟨k, 3, none⟩ = some (w64 (wordN r 3)) := (hv.cell 3).trans (by rw [feA_words]; rfl)
  have hrange := tab_range hT
  rcases hcase.out with ⟨h3, hrV⟩ | ⟨h3, hrV⟩
  · subst hrV
    clear hcase
    generalize wordN r 3 = r3 at *
    have hn3 : ¬ (9223372036854775808 : Int) ≤ (r3 : Int) := by omega
    go_wp2_with (first
      | ((with_reducible refine wpL_load k 24 (feA r) 4 rowFe (feA_size _) hv ?_ ?_); rfl)
      | ((with_reducible refine wpL_store (W.heap.size + 1) 24 _ (feA r) 4 rowFe rfl (feA_size _) (feA_one _) hr ?_ ?_ ?_); rfl; rfl))
    exact bodyPost_ret (results_row Tryd.results31 rowFe (feA_size _) (hr.row _) rfl) rfl ⟨rfl, below_rowSet hB (by omega) _⟩
  · rw [hrV] at HP
    clear hrV hcase
    generalize wordN r 3 = r3 at *
    have hn3 : (9223372036854775808 : Int) ≤ (r3 : Int) := by omega
    generalize (r + l25) / K256 = oc at *
    generalize l25 = L at *
    go_upto_region 3 with fail
    go_upto_region 4 with (first
      | ((with_reducible refine wpL_load k 24 (feA r) 4 rowFe (feA_size _) hv ?_ ?_); rfl)
      | ((with_reducible refine wpL_loadG 0 0 (feA L).toList 4 rowFe (by rw [Array.length_toList]; exact feA_size _) hrange ?_ ?_); rfl; rw [Array.toArray_toList])
      | (go_at_call 24; refine (HP.out _).mono ?_; rintro e w5 ⟨rfl, hb⟩; replace hv := hv.on hb; replace hr := hr.on hb; replace hB := below_on hB hb; clear hb hrange)
      | ((with_reducible refine wpL_store k 24 _ (feA V) 4 rowFe (feA_size _) (feA_size _) (feA_one _) hv ?_ ?_ ?_); rfl; rfl))
    replace hv := hv.row (feA V)
    replace hr := hr.rowFar (show W.heap.size + 1 ≠ k by omega) (feA V)
    replace hB := below_rowSet hB (show W.heap.size ≤ k by omega) (feA V)
    generalize World.setRow _ _ _ = w6 at *
    go_wp2_with (first
      | ((with_reducible refine wpL_load k 24 (feA V) 4 rowFe (feA_size _) hv ?_ ?_); rfl)
      | ((with_reducible refine wpL_store (W.heap.size + 1) 24 _ (feA V) 4 rowFe rfl (feA_size _) (feA_one _) hr ?_ ?_ ?_); rfl; rfl))
    exact bodyPost_ret (results_row Tryd.results31 rowFe (feA_size _) (hr.row _) rfl) rfl ⟨rfl, below_rowSet hB (by omega) _⟩
end Go.Proofs.YtknpgijapbkebaaDoor.F
