/- The contracts of the reference's Digits and Words: four words as digits, and back. -/
import Derived.Test.YtknpgijapbkebaaDoorFPlus
namespace Go.Proofs.YtknpgijapbkebaaDoor.F
set_option maxRecDepth 100000
open Go.RowKit

/-- a number of 64-bit words, word by word -/
def wordN (n j : Nat) : Nat := n / 18446744073709551616 ^ j % 18446744073709551616
theorem wordN_lt (n j : Nat) : wordN n j < 18446744073709551616 := Nat.mod_lt _ (by decide)
theorem feA_words (n : Nat) : feA n = #[w64 (wordN n 0), w64 (wordN n 1), w64 (wordN n 2), w64 (wordN n 3)] := by
  unfold feA wordN
  rw [Nat.pow_zero, Nat.div_one]
theorem index_four (a b c d : Nat) (i : Nat) (h : i < 4) (W : World) : (Instr.index 23 (.agg #[w64 a, w64 b, w64 c, w64 d]) (.int .i64 (i : Int))).run Tryd.prog W = .ok (w64 ([a, b, c, d].getD i 0)) W := by
  match i, h with
  | 0, _ | 1, _ | 2, _ | 3, _ => (show _ = _; kernel_rfl)
theorem index_word (n i : Nat) (h : i < 4) (W : World) : (Instr.index 23 (.agg #[w64 (wordN n 0), w64 (wordN n 1), w64 (wordN n 2), w64 (wordN n 3)]) (.int .i64 (i : Int))).run Tryd.prog W = .ok (w64 (wordN n i)) W := by
  rw [index_four _ _ _ _ i h]
  match i, h with
  | 0, _ | 1, _ | 2, _ | 3, _ => rfl

/-! ### digits of a number -/
def digN (n k : Nat) : Nat := n / 65536 ^ k % 65536
def dgL (n : Nat) : Nat → List Nat
  | 0 => []
  | k + 1 => dgL n k ++ [digN n k]
theorem dgL_length (n k : Nat) : (dgL n k).length = k := by
  induction k with
  | zero => rfl
  | succ k ih => rw [dgL, List.length_append, ih]; rfl
theorem dgL_dg (n k : Nat) : Dg (dgL n k) := by
  induction k with
  | zero => intro d hd; cases hd
  | succ k ih =>
    intro d hd
    rw [dgL, List.mem_append, List.mem_singleton] at hd
    rcases hd with hd | rfl
    · exact ih d hd
    · exact Nat.mod_lt _ (by decide)
theorem dgL_at (n k i : Nat) (h : i < k) : (dgL n k).getD i 0 = digN n i := by
  induction k with
  | zero => omega
  | succ k ih =>
    rw [dgL, List.getD_eq_getElem?_getD]
    by_cases e : i < k
    · rw [List.getElem?_append_left (by rw [dgL_length]; exact e), ← List.getD_eq_getElem?_getD, ih e]
    · obtain rfl : i = k := by omega
      rw [List.getElem?_append_right (by rw [dgL_length]; exact Nat.le_refl _), dgL_length, Nat.sub_self]
      rfl
theorem dgL_val (n k : Nat) : val (dgL n k) = n % 65536 ^ k := by
  induction k with
  | zero => simp [dgL, val, Nat.mod_one]
  | succ k ih => rw [dgL, val_snoc, ih, dgL_length, digN, Nat.pow_succ, Nat.mod_mul]
theorem dgL_full {n : Nat} (h : n < K256) : val (dgL n 16) = n := by
  rw [dgL_val, Nat.mod_eq_of_lt]
  exact h
/-- what is left of a word behind i digits -/
theorem word_digit (n j i : Nat) (hi : i < 4) : wordN n j / 65536 ^ i % 65536 = digN n (4 * j + i) := by
  unfold wordN digN
  have e1 : (18446744073709551616 : Nat) = 65536 ^ i * 65536 ^ (4 - i) := by rw [← Nat.pow_add, show i + (4 - i) = 4 by omega]
  have e2 : (65536 : Nat) ^ (4 * j + i) = 18446744073709551616 ^ j * 65536 ^ i := by rw [Nat.pow_add, Nat.pow_mul]
  have e3 : (65536 : Nat) ^ (4 - i) = 65536 * 65536 ^ (3 - i) := by rw [show 4 - i = (3 - i) + 1 by omega, Nat.pow_succ, Nat.mul_comm]
  rw [e2, ← Nat.div_div_eq_div_mul]
  generalize n / 18446744073709551616 ^ j = m
  rw [e1, Nat.mod_mul_right_div_self, e3, Nat.mod_mul_right_mod]
theorem left_next (x i : Nat) : x / 65536 ^ i / 65536 = x / 65536 ^ (i + 1) := by rw [Nat.div_div_eq_div_mul, Nat.pow_succ]

set_option maxRecDepth 100000 in
set_option maxHeartbeats 1600000 in
theorem digits_own (n : Nat) (W : World) :
    Calls Tryd.prog 23 #[fe n] W fun e W' => ∃ g cap, e = .returned (.slice (some ⟨g, 0, none⟩) 16 cap) ∧ W'.ownsRow W.heap.size 3 1 (.slice (some ⟨g, 0, none⟩) 16 cap) 16 ((dgL n 16).map i64) ∧ Below W.heap.size W W' := by
  obtain ⟨i0, hi, hz0, hz1, hz2⟩ := info_parts info3
  have hix := index_word n
  rw [fe, feA_words]
  go_enter Tryd.func23, Tryd.ntmps23
  go_wp2_with ((with_reducible refine wpL_load W.heap.size 23 #[w64 (wordN n 0), w64 (wordN n 1), w64 (wordN n 2), w64 (wordN n 3)] 4 row4 rfl (heap_alloc2_old W _ _) ?_ ?_); rfl)
  go_loopw [3, 9] (fun ox jx wr => ∃ j g cap : Nat, j ≤ 4 ∧ jx = .int .i64 j ∧ ox = .slice (some ⟨g, 0, none⟩) (4 * j) cap ∧ wr.ownsRow W.heap.size 3 1 (.slice (some ⟨g, 0, none⟩) (4 * j) cap) (4 * j) ((dgL n (4 * j)).map i64) ∧ Below W.heap.size W wr) (fun _ jx _ => 4 - (intOf jx).toNat)
  case atStart => exact ⟨0, _, _, by omega, rfl, rfl, own_empty (heap_alloc2_new W _ _) (by simp), ((Below.refl _ W).alloc (Nat.le_refl _) _).alloc (by simp) _⟩
  case round =>
    obtain ⟨j, g, cap, hj, rfl, rfl, ho, hB⟩ := hrel
    by_cases hlt : j < 4
    · have hx := hix j hlt
      have hw := wordN_lt n j
      have hji : (j : Int) < 4 := by omega
      have HW := Lib.hid (word_digit n j)
      clear hix
      generalize wordN n j = X at hx hw HW
      go_wp2_with fail
      go_loopw [3, 5, 6] (fun ox wx ix wr => ∃ i g cap : Nat, i ≤ 4 ∧ ix = .int .i64 i ∧ wx = w64 (X / 65536 ^ i) ∧ ox = .slice (some ⟨g, 0, none⟩) (4 * j + i) cap ∧ wr.ownsRow W.heap.size 3 1 (.slice (some ⟨g, 0, none⟩) (4 * j + i) cap) (4 * j + i) ((dgL n (4 * j + i)).map i64) ∧ Below W.heap.size W wr) (fun _ _ ix _ => 4 - (intOf ix).toNat)
      case atStart => exact ⟨0, _, _, by omega, rfl, val_int (by simp), rfl, ho, hB⟩
      case round =>
        clear ho hB
        obtain ⟨i, g, cap, hi1, rfl, rfl, rfl, ho, hB⟩ := hrel
        have hsz := hB.size
        by_cases hlti : i < 4
        · have HD := Lib.hid (HW.out i hlti)
          have HN := Lib.hid (left_next X i)
          have hle : X / 65536 ^ i ≤ X := Nat.div_le_self _ _
          have HS : Hid (dgL n (4 * j + i + 1) = dgL n (4 * j + i) ++ [digN n (4 * j + i)]) := Lib.hid rfl
          have hlen : 4 * j + i ≤ 16 := by omega
          obtain ⟨m, hm⟩ : ∃ m, 4 * j + i = m := ⟨_, rfl⟩
          rw [hm] at HD HS ho hlen
          have hm2 : 4 * (j : Int) + (i : Int) = (m : Int) := by omega
          rw [hm]
          generalize X / 65536 ^ i = Y at *
          go_wp2_with ((with_reducible refine wpL_append W.heap.size 3 i0 (.int .i64 0) 8 Tryd.underlying41 hi hz0 hz1 hz2 rfl _ m _ (ho.alloc _) _ _ (Lies.new _ _ _) rfl (by unfold maxLen; omega) (by omega) (by simp; omega) ?_ ?_ ?_); rfl; rfl; intro g6 cap6 w6 ho6 hgrow6)
          go_roundw
          case rel =>
            rw [← HD.out] at HS
            exact ⟨i + 1, g6, cap6, by omega, by go_num, val_int (by rw [← HN.out]; omega), by rw [← Nat.add_assoc, hm], by
              rw [← Nat.add_assoc, hm, HS.out, List.map_append]
              exact ho6, (hB.alloc hsz _).grown hgrow6 (by simp; omega) (fun j hj => (ho.lt j hj).1)⟩
          case measure => simp [intOf]; omega
        · obtain rfl : i = 4 := by omega
          go_wp2_with fail
          go_roundw
          case rel => exact ⟨j + 1, g, cap, by omega, by go_num, by rw [Nat.mul_add], by rw [Nat.mul_add]; exact ho, hB⟩
          case measure => simp [intOf]; omega
    · obtain rfl : j = 4 := by omega
      clear hix
      go_wp2_with fail
      go_ret
      exact ⟨g, cap, rfl, ho, hB⟩
theorem digits_any (n : Nat) (W : World) :
    Calls Tryd.prog 23 #[fe n] W fun e W' => ∃ g cap, e = .returned (.slice (some ⟨g, 0, none⟩) 16 cap) ∧ 16 ≤ cap ∧ Dig W' g 0 (dgL n 16) ∧ Below W.heap.size W W' :=
  (digits_own n W).mono fun _ _ ⟨g, cap, he, ho, hB⟩ => ⟨g, cap, he, own_cap ho, own_dig ho, hB⟩

/-! ### digits as words -/
/-- what a word is when the digits from n on are there -/
def wrd (d : List Nat) (n j : Nat) : Nat := val ((d.drop (max n (4 * j))).take (4 * j + 4 - max n (4 * j)))
def wrdA (d : List Nat) (n : Nat) : Array Value := #[w64 (wrd d n 0), w64 (wrd d n 1), w64 (wrd d n 2), w64 (wrd d n 3)]
theorem wrd_start (d : List Nat) (j : Nat) : wrd d d.length j = 0 := by
  unfold wrd
  rw [List.drop_of_length_le (Nat.le_max_left _ _)]
  simp [val]
theorem wrd_other (d : List Nat) (n j : Nat) (h : j ≠ n / 4) : wrd d n j = wrd d (n + 1) j := by
  unfold wrd
  by_cases h1 : n < 4 * j
  · rw [Nat.max_eq_right (by omega), Nat.max_eq_right (by omega)]
  · rw [show 4 * j + 4 - max n (4 * j) = 0 by omega, show 4 * j + 4 - max (n + 1) (4 * j) = 0 by omega]
    rfl
theorem wrd_step (d : List Nat) (n : Nat) (h : n < d.length) : wrd d n (n / 4) = 65536 * wrd d (n + 1) (n / 4) + d.getD n 0 := by
  unfold wrd
  rw [Nat.max_eq_left (by omega), Nat.max_eq_left (by omega), show 4 * (n / 4) + 4 - n = (4 * (n / 4) + 4 - (n + 1)) + 1 by omega, List.drop_eq_getElem_cons h, List.take_succ_cons, val, List.getD_eq_getElem?_getD, List.getElem?_eq_getElem h]
  exact Nat.add_comm _ _
theorem wrd_lt {d : List Nat} (hd : Dg d) (n : Nat) : wrd d (n + 1) (n / 4) < 281474976710656 := by
  unfold wrd
  have h1 := val_lt ((hd.drop (max (n + 1) (4 * (n / 4)))).take (4 * (n / 4) + 4 - max (n + 1) (4 * (n / 4))))
  have h2 : 65536 ^ ((d.drop (max (n + 1) (4 * (n / 4)))).take (4 * (n / 4) + 4 - max (n + 1) (4 * (n / 4)))).length ≤ 65536 ^ 3 := Nat.pow_le_pow_right (by decide) (by rw [List.length_take]; omega)
  exact Nat.lt_of_lt_of_le h1 h2
theorem wrd_full {d : List Nat} (hd : Dg d) (j : Nat) : wrd d 0 j < 18446744073709551616 := by
  unfold wrd
  have h1 := val_lt ((hd.drop (max 0 (4 * j))).take (4 * j + 4 - max 0 (4 * j)))
  have h2 : 65536 ^ ((d.drop (max 0 (4 * j))).take (4 * j + 4 - max 0 (4 * j))).length ≤ 65536 ^ 4 := Nat.pow_le_pow_right (by decide) (by rw [List.length_take]; omega)
  exact Nat.lt_of_lt_of_le h1 h2
theorem val_four (l : List Nat) (n : Nat) : val l = val (l.take n) + 65536 ^ n * val (l.drop n) := by
  by_cases h : n ≤ l.length
  · exact val_split l n h
  · rw [List.take_of_length_le (by omega), List.drop_of_length_le (by omega)]
    simp [val]
theorem wrd_val {d : List Nat} (hl : d.length ≤ 16) : val d = wrd d 0 0 + 18446744073709551616 * wrd d 0 1 + 340282366920938463463374607431768211456 * wrd d 0 2 + 6277101735386680763835789423207666416102355444464034512896 * wrd d 0 3 := by
  have h0 := val_four d 4
  have h1 := val_four (d.drop 4) 4
  have h2 := val_four (d.drop 8) 4
  have h3 : (d.drop 12).take 4 = d.drop 12 := List.take_of_length_le (by rw [List.length_drop]; omega)
  rw [List.drop_drop] at h1 h2
  have e0 : wrd d 0 0 = val (d.take 4) := rfl
  have e1 : wrd d 0 1 = val ((d.drop 4).take 4) := rfl
  have e2 : wrd d 0 2 = val ((d.drop 8).take 4) := rfl
  have e3 : wrd d 0 3 = val ((d.drop 12).take 4) := rfl
  rw [h3] at e3
  have p4 : (65536 : Nat) ^ 4 = 18446744073709551616 := by decide
  rw [p4] at h0 h1 h2
  rw [e0, e1, e2, e3]
  have f1 : val (d.drop (4 + 4)) = val (d.drop 8) := rfl
  have f2 : val (d.drop (8 + 4)) = val (d.drop 12) := rfl
  omega
theorem wrdA_fe {d : List Nat} (hd : Dg d) (hl : d.length ≤ 16) : wrdA d 0 = feA (val d) := by
  obtain ⟨n, _, h, hn⟩ := fe_of _ _ _ _ (wrd_full hd 0) (wrd_full hd 1) (wrd_full hd 2) (wrd_full hd 3)
  rw [← wrd_val hl] at hn
  subst hn
  injection h
theorem wrdA_at (d : List Nat) (n j : Nat) (h : j < 4) : (wrdA d n)[j]? = some (w64 (wrd d n j)) := by
  match j, h with
  | 0, _ | 1, _ | 2, _ | 3, _ => rfl
theorem wrdA_set (d : List Nat) (n : Nat) (h : n < d.length) (h4 : n / 4 < 4) : (wrdA d (n + 1)).setIfInBounds (n / 4) (w64 (65536 * wrd d (n + 1) (n / 4) + d.getD n 0)) = wrdA d n := by
  rw [← wrd_step d n h]
  obtain ⟨q, hq⟩ : ∃ q, n / 4 = q := ⟨_, rfl⟩
  have ho := wrd_other d n
  rw [hq] at h4 ho ⊢
  unfold wrdA
  match q, h4, ho with
  | 0, _, ho => rw [← ho 1 (by decide), ← ho 2 (by decide), ← ho 3 (by decide)]; rfl
  | 1, _, ho => rw [← ho 0 (by decide), ← ho 2 (by decide), ← ho 3 (by decide)]; rfl
  | 2, _, ho => rw [← ho 0 (by decide), ← ho 1 (by decide), ← ho 3 (by decide)]; rfl
  | 3, _, ho => rw [← ho 0 (by decide), ← ho 1 (by decide), ← ho 2 (by decide)]; rfl
theorem wrdA_one (d : List Nat) (n : Nat) : Ones (wrdA d n) := by unfold Ones wrdA; simp [Value.oneCell']

set_option maxRecDepth 100000 in
set_option maxHeartbeats 1600000 in
theorem words_any (d : List Nat) (g o cap : Nat) (W : World) (hd : Dig W g o d) (hl : d.length ≤ 16) (dd : Dg d) :
    Calls Tryd.prog 32 #[.slice (some ⟨g, o, none⟩) d.length cap] W fun e W' => e = .returned (fe (val d)) ∧ Below W.heap.size W W' := by
  have HE := Lib.hid (wrdA_fe dd hl)
  have HL := Lib.hid (fun n => @wrd_lt d dd n)
  have HX := Lib.hid dd
  have HZ : Hid (wrdA d d.length = #[w64 0, w64 0, w64 0, w64 0]) := Lib.hid (by unfold wrdA; rw [wrd_start, wrd_start, wrd_start, wrd_start])
  clear dd
  go_enter Tryd.func32, Tryd.ntmps32
  go_wp2_with fail
  go_loopw [4] (fun ix wr => ∃ n : Nat, n ≤ d.length ∧ ix = .int .i64 ((n : Int) - 1) ∧ Lies wr (W.heap.size + 1) 23 (wrdA d n) ∧ Lies wr W.heap.size 23 #[w64 0, w64 0, w64 0, w64 0] ∧ Below W.heap.size W wr) (fun ix _ => (intOf ix + 1).toNat)
  case atStart => exact ⟨d.length, Nat.le_refl _, val_int (by omega), by rw [HZ.out]; exact heap_alloc2_new W _ _, heap_alloc2_old W _ _, ((Below.refl _ W).alloc (Nat.le_refl _) _).alloc (by simp) _⟩
  case round =>
    obtain ⟨n, hn, rfl, hx, hr, hB⟩ := hrel
    cases n with
    | zero =>
      have hx0 := hx
      rw [HE.out] at hx0
      go_wp2_with (first | ((with_reducible refine wpL_load (W.heap.size + 1) 23 (feA (val d)) 4 row4 (feA_size _) hx0 ?_ ?_); rfl) | ((with_reducible refine wpL_store W.heap.size 23 _ (feA (val d)) 4 row4 rfl (feA_size _) (feA_one _) hr ?_ ?_ ?_); rfl; rfl))
      exact bodyPost_ret (results_row Tryd.results32 row4 (feA_size _) (hr.row _) rfl) rfl ⟨rfl, below_rowSet hB (Nat.le_refl _) _⟩
    | succ n =>
      have em : ((n + 1 : Nat) : Int) - 1 = (n : Int) := by omega
      rw [em]
      have hX := (hd.on hB) n (by omega)
      have hX2 := HX.out.at n
      have hlt := HL.out n
      have HS := Lib.hid (wrdA_set d n (by omega) (by omega))
      obtain ⟨q, hq⟩ : ∃ q, n / 4 = q := ⟨_, rfl⟩
      have hq4 : q < 4 := by omega
      rw [hq] at hlt HS
      have hqi : (n : Int) / 4 = (q : Int) := by omega
      have hc := (hx.cell q).trans (wrdA_at d (n + 1) q hq4)
      have hf := hx.frozen q
      have hqi4 : (q : Int) < 4 := by omega
      generalize wrd d (n + 1) q = F at hlt HS hc
      generalize d.getD n 0 = X at hX hX2 HS
      have e1 : IntKind.u64.wrap (65536 * (F : Int)) = ((65536 * F : Nat) : Int) := by rw [IntKind.wrap_u64]; omega
      have e2 : IntKind.u64.wrap (X : Int) = (X : Int) := by rw [IntKind.wrap_u64]; omega
      have hcast : Value.int .u64 (65536 * (F : Int) + (X : Int)) = w64 (65536 * F + X) := val_int (by omega)
      have e3 : IntKind.u64.wrap (((65536 * F : Nat) : Int) + (X : Int)) = ((65536 * F + X : Nat) : Int) := by rw [IntKind.wrap_u64]; omega
      go_wp2_with fail
      go_region
      all_goals
        go_wp2_with fail
        go_roundw
        case rel => exact ⟨n, by omega, rfl, by rw [← HS.out, ← hcast]; exact (hx.put q _).drew, (hr.far (by simp) _).drew, (below_put hB (Nat.le_succ _) _ _).drew⟩
        case measure => simp [intOf]
end Go.Proofs.YtknpgijapbkebaaDoor.F
