/- Texts that stand on one another, put together: FPlus, FWords, FTab, FTimes, FReck. -/
import Derived.Test.YteecbglmohhaeaaGreatDoorK2
import Derived.BigRegion
/- The contracts of the reference's Plus and Times. -/
namespace Go.Proofs.YteecbglmohhaeaaGreatDoor.F
set_option maxRecDepth 100000
open Go.RowKit

theorem below_put {B : Nat} {a w : World} (h : Below B a w) {g : Nat} (hg : B ≤ g) (i : Nat) (v : Value) : Below B a (w.setCell ⟨g, i, none⟩ v) := h.setCell (p := ⟨g, i, none⟩) hg v
theorem i64_sum (A B : Nat) (hA : A ≤ 1152921504606846976) (hB : B ≤ 1152921504606846976) : IntKind.i64.wrap ((A : Int) + (B : Int)) = ((A + B : Nat) : Int) := by
  rw [IntWalk.i64_in _ (by omega)]
  omega

set_option maxRecDepth 100000 in
set_option maxHeartbeats 1600000 in
theorem plus_any (a b : List Nat) (ga oa ca gb ob cb : Nat) (W : World) (ha : Dig W ga oa a) (hb : Dig W gb ob b) (hla : a.length ≤ 400) (hlb : b.length ≤ 400) (da : Dg a) (db : Dg b) :
    Calls Tryz.prog 156 #[.slice (some ⟨ga, oa, none⟩) a.length ca, .slice (some ⟨gb, ob, none⟩) b.length cb] W fun e W' => ∃ r g' cap', e = .returned (.slice (some ⟨g', 0, none⟩) r.length cap') ∧ r.length ≤ cap' ∧ r.length ≤ a.length + b.length + 4 ∧ Dig W' g' 0 r ∧ Dg r ∧ Tr r ∧ val r = val a + val b ∧ Below W.heap.size W W' := by
  obtain ⟨i0, hi, hz0, hz1, hz2⟩ := info_parts info3
  obtain ⟨N, hN⟩ : ∃ N, a.length + b.length = N := ⟨_, rfl⟩
  have hNi : (a.length : Int) + (b.length : Int) = (N : Int) := by omega
  go_enter Tryz.func156, Tryz.ntmps156
  go_wp2_with (at_make; refine wpList_make_full _ rfl _ _ 48 rfl W.heap.size 3 i0 (.int .i64 0) 1 Tryz.underlying48 hi hz0 hz1 _ _ _ _ N rfl rfl ?e1 ?e2 ?b2 ?b3 (Nat.le_refl _) ?_)
  case e1 => omega
  case e2 => omega
  case b2 => rw [hz2]; omega
  case b3 => unfold maxLen; omega
  intro w1 hown hgrow
  have hb1 : Below W.heap.size W w1 := (Below.refl _ _).grown hgrow (Nat.le_refl _) (fun k hk => by cases hk)
  rw [made_zeros] at hown
  clear hgrow
  go_wp2_with fail
  go_loopw [16] (fun ix wr => ∃ i : Nat, i ≤ a.length ∧ ix = .int .i64 i ∧ wr.ownsRow W.heap.size 3 1 (.slice (some ⟨W.heap.size, 0, none⟩) N N) N ((a.take i ++ List.replicate (N - i) 0).map i64) ∧ Below W.heap.size W wr) (fun ix _ => a.length - (intOf ix).toNat)
  case atStart => exact ⟨0, Nat.zero_le _, rfl, hown, hb1⟩
  case round =>
    clear hown hb1
    obtain ⟨i, hi1, rfl, ho, hB⟩ := hrel
    by_cases hlt : i < a.length
    · have hF := ho.frozenAt i
      have hO := own_at ho i (by omega)
      have HO := Lib.hid ho
      have HP := Lib.hid (pre_set (a.take i) N i (a.getD i 0) (by rw [List.length_take]; omega) (by omega))
      have HS : Hid (a.take (i + 1) = a.take i ++ [a.getD i 0]) := Lib.hid (by
        rw [List.take_succ_eq_append_getElem hlt, List.getD_eq_getElem?_getD, List.getElem?_eq_getElem hlt]
        rfl)
      have hX := (ha.on hB) i hlt
      clear ho
      generalize (a.take i ++ List.replicate (N - i) 0).getD i 0 = Z at hO
      generalize a.getD i 0 = X at hX HP HS
      go_wp2_with fail
      go_roundw
      case rel => exact ⟨i + 1, by omega, by go_num, by rw [HS.out, ← HP.out]; exact own_putv HO.out i _ _ rfl, below_put hB (Nat.le_refl _) _ _⟩
      case measure => simp [intOf]; omega
    · obtain rfl : i = a.length := by omega
      rw [List.take_of_length_le (Nat.le_refl _)] at ho
      obtain ⟨s, hs⟩ : ∃ s, a ++ List.replicate (N - a.length) 0 = s := ⟨_, rfl⟩
      have hsl : s.length = N := by rw [← hs]; simp; omega
      have hsd : Dg s := by rw [← hs]; exact dg_zeros da _
      have hsv : val s = val a := by rw [← hs]; exact val_pad _ _
      rw [hs] at ho
      have HD := Lib.hid hsd
      have HV := Lib.hid hsv
      have HDb := Lib.hid db
      clear hs hsd hsv da db
      go_wp2_with fail
      go_loopw [29] (fun ix wr => ∃ k : Nat, k ≤ b.length ∧ ix = .int .i64 k ∧ wr.ownsRow W.heap.size 3 1 (.slice (some ⟨W.heap.size, 0, none⟩) N N) N ((plusS s b k).map i64) ∧ Below W.heap.size W wr) (fun ix _ => b.length - (intOf ix).toNat)
      case atStart => exact ⟨0, Nat.zero_le _, rfl, ho, hB⟩
      case round =>
        clear ho hB
        obtain ⟨k, hk1, rfl, ho, hB⟩ := hrel
        by_cases hltk : k < b.length
        · have hF := ho.frozenAt k
          have hO := own_at ho k (by omega)
          have hO2 := (plusS_bd HD.out HDb.out k (by omega)).at k
          have HO := Lib.hid ho
          have HS : Hid (plusS s b (k + 1) = (plusS s b k).set k ((plusS s b k).getD k 0 + b.getD k 0)) := Lib.hid rfl
          have hY := (hb.on hB) k hltk
          have hY2 := HDb.out.at k
          clear ho
          generalize (plusS s b k).getD k 0 = X at hO hO2 HS
          generalize b.getD k 0 = Y at hY hY2 HS
          have hsum := i64_sum X Y (by omega) (by omega)
          go_wp2_with fail
          go_region
          all_goals
            go_wp2_with fail
            go_roundw
            case rel => exact ⟨k + 1, by omega, by go_num, by rw [HS.out]; exact own_putv HO.out k _ _ (val_int (by omega)), (below_put hB (Nat.le_refl _) _ _).drew⟩
            case measure => simp [intOf]; omega
        · obtain rfl : k = b.length := by omega
          have hD := own_dig ho
          have hlen := plusS_length s b b.length
          rw [hsl] at hlen
          have HT := Lib.hid (carry_any (plusS s b b.length) 131072 W.heap.size 0 N wr hD (by omega) (plusS_bd HD.out HDb.out _ (by omega)) (by decide))
          rw [hlen] at HT
          have HVal : Hid (val (plusS s b b.length) = val a + val b) := Lib.hid (by rw [plusS_val _ _ _ (by omega), HV.out, List.take_of_length_le (Nat.le_refl _)])
          clear ho hD
          go_wp2_with (go_at_call 175; refine HT.out.mono ?_; rintro e w2 ⟨r, g2, cap2, rfl, hr1, hr2, hr3, hr4, hr5, hr6, hb2⟩)
          go_ret
          exact ⟨r, g2, cap2, rfl, hr1, by omega, hr3, hr4, hr5, hr6.trans HVal.out, below_on hB hb2⟩
end Go.Proofs.YteecbglmohhaeaaGreatDoor.F

/- The contracts of the reference's Digits and Words: four words as digits, and back. -/
namespace Go.Proofs.YteecbglmohhaeaaGreatDoor.F
set_option maxRecDepth 100000
open Go.RowKit

/-- a number of 64-bit words, word by word -/
def wordN (n j : Nat) : Nat := n / 18446744073709551616 ^ j % 18446744073709551616
theorem wordN_lt (n j : Nat) : wordN n j < 18446744073709551616 := Nat.mod_lt _ (by decide)
theorem feA_words (n : Nat) : feA n = #[w64 (wordN n 0), w64 (wordN n 1), w64 (wordN n 2), w64 (wordN n 3)] := by
  unfold feA wordN
  rw [Nat.pow_zero, Nat.div_one]
/-! ### digits of a number -/
/-! ### digits as words -/
/-- what a word is when the digits from n on are there -/
def wrd (d : List Nat) (n j : Nat) : Nat := val ((d.drop (max n (4 * j))).take (4 * j + 4 - max n (4 * j)))
def wrdA (d : List Nat) (n : Nat) : Array Value := #[w64 (wrd d n 0), w64 (wrd d n 1), w64 (wrd d n 2), w64 (wrd d n 3)]
theorem wrd_start (d : List Nat) (j : Nat) : wrd d d.length j = 0 := by
  unfold wrd
  rw [List.drop_of_length_le (Nat.le_max_left _ _)]
  simp [val]
theorem wrd_other (d : List Nat) (n j : Nat) (h : j ≠ n / 4) : wrd d n j = wrd d (n + 1) j := by
  unfold wrd
  by_cases h1 : n < 4 * j
  · rw [Nat.max_eq_right (by omega), Nat.max_eq_right (by omega)]
  · rw [show 4 * j + 4 - max n (4 * j) = 0 by omega, show 4 * j + 4 - max (n + 1) (4 * j) = 0 by omega]
    rfl
theorem wrd_step (d : List Nat) (n : Nat) (h : n < d.length) : wrd d n (n / 4) = 65536 * wrd d (n + 1) (n / 4) + d.getD n 0 := by
  unfold wrd
  rw [Nat.max_eq_left (by omega), Nat.max_eq_left (by omega), show 4 * (n / 4) + 4 - n = (4 * (n / 4) + 4 - (n + 1)) + 1 by omega, List.drop_eq_getElem_cons h, List.take_succ_cons, val, List.getD_eq_getElem?_getD, List.getElem?_eq_getElem h]
  exact Nat.add_comm _ _
theorem wrd_lt {d : List Nat} (hd : Dg d) (n : Nat) : wrd d (n + 1) (n / 4) < 281474976710656 := by
  unfold wrd
  have h1 := val_lt ((hd.drop (max (n + 1) (4 * (n / 4)))).take (4 * (n / 4) + 4 - max (n + 1) (4 * (n / 4))))
  have h2 : 65536 ^ ((d.drop (max (n + 1) (4 * (n / 4)))).take (4 * (n / 4) + 4 - max (n + 1) (4 * (n / 4)))).length ≤ 65536 ^ 3 := Nat.pow_le_pow_right (by decide) (by rw [List.length_take]; omega)
  exact Nat.lt_of_lt_of_le h1 h2
theorem wrd_full {d : List Nat} (hd : Dg d) (j : Nat) : wrd d 0 j < 18446744073709551616 := by
  unfold wrd
  have h1 := val_lt ((hd.drop (max 0 (4 * j))).take (4 * j + 4 - max 0 (4 * j)))
  have h2 : 65536 ^ ((d.drop (max 0 (4 * j))).take (4 * j + 4 - max 0 (4 * j))).length ≤ 65536 ^ 4 := Nat.pow_le_pow_right (by decide) (by rw [List.length_take]; omega)
  exact Nat.lt_of_lt_of_le h1 h2
theorem val_four (l : List Nat) (n : Nat) : val l = val (l.take n) + 65536 ^ n * val (l.drop n) := by
  by_cases h : n ≤ l.length
  · exact val_split l n h
  · rw [List.take_of_length_le (by omega), List.drop_of_length_le (by omega)]
    simp [val]
theorem wrd_val {d : List Nat} (hl : d.length ≤ 16) : val d = wrd d 0 0 + 18446744073709551616 * wrd d 0 1 + 340282366920938463463374607431768211456 * wrd d 0 2 + 6277101735386680763835789423207666416102355444464034512896 * wrd d 0 3 := by
  have h0 := val_four d 4
  have h1 := val_four (d.drop 4) 4
  have h2 := val_four (d.drop 8) 4
  have h3 : (d.drop 12).take 4 = d.drop 12 := List.take_of_length_le (by rw [List.length_drop]; omega)
  rw [List.drop_drop] at h1 h2
  have e0 : wrd d 0 0 = val (d.take 4) := rfl
  have e1 : wrd d 0 1 = val ((d.drop 4).take 4) := rfl
  have e2 : wrd d 0 2 = val ((d.drop 8).take 4) := rfl
  have e3 : wrd d 0 3 = val ((d.drop 12).take 4) := rfl
  rw [h3] at e3
  have p4 : (65536 : Nat) ^ 4 = 18446744073709551616 := by decide
  rw [p4] at h0 h1 h2
  rw [e0, e1, e2, e3]
  have f1 : val (d.drop (4 + 4)) = val (d.drop 8) := rfl
  have f2 : val (d.drop (8 + 4)) = val (d.drop 12) := rfl
  omega
theorem wrdA_fe {d : List Nat} (hd : Dg d) (hl : d.length ≤ 16) : wrdA d 0 = feA (val d) := by
  obtain ⟨n, _, h, hn⟩ := fe_of _ _ _ _ (wrd_full hd 0) (wrd_full hd 1) (wrd_full hd 2) (wrd_full hd 3)
  rw [← wrd_val hl] at hn
  subst hn
  injection h
theorem wrdA_at (d : List Nat) (n j : Nat) (h : j < 4) : (wrdA d n)[j]? = some (w64 (wrd d n j)) := by
  match j, h with
  | 0, _ | 1, _ | 2, _ | 3, _ => rfl
theorem wrdA_set (d : List Nat) (n : Nat) (h : n < d.length) (h4 : n / 4 < 4) : (wrdA d (n + 1)).setIfInBounds (n / 4) (w64 (65536 * wrd d (n + 1) (n / 4) + d.getD n 0)) = wrdA d n := by
  rw [← wrd_step d n h]
  obtain ⟨q, hq⟩ : ∃ q, n / 4 = q := ⟨_, rfl⟩
  have ho := wrd_other d n
  rw [hq] at h4 ho ⊢
  unfold wrdA
  match q, h4, ho with
  | 0, _, ho => rw [← ho 1 (by decide), ← ho 2 (by decide), ← ho 3 (by decide)]; rfl
  | 1, _, ho => rw [← ho 0 (by decide), ← ho 2 (by decide), ← ho 3 (by decide)]; rfl
  | 2, _, ho => rw [← ho 0 (by decide), ← ho 1 (by decide), ← ho 3 (by decide)]; rfl
  | 3, _, ho => rw [← ho 0 (by decide), ← ho 1 (by decide), ← ho 2 (by decide)]; rfl
set_option maxRecDepth 100000 in
set_option maxHeartbeats 1600000 in
theorem words_any (d : List Nat) (g o cap : Nat) (W : World) (hd : Dig W g o d) (hl : d.length ≤ 16) (dd : Dg d) :
    Calls Tryz.prog 149 #[.slice (some ⟨g, o, none⟩) d.length cap] W fun e W' => e = .returned (fe (val d)) ∧ Below W.heap.size W W' := by
  have HE := Lib.hid (wrdA_fe dd hl)
  have HL := Lib.hid (fun n => @wrd_lt d dd n)
  have HX := Lib.hid dd
  have HZ : Hid (wrdA d d.length = #[w64 0, w64 0, w64 0, w64 0]) := Lib.hid (by unfold wrdA; rw [wrd_start, wrd_start, wrd_start, wrd_start])
  clear dd
  go_enter Tryz.func149, Tryz.ntmps149
  go_wp2_with fail
  go_loopw [4] (fun ix wr => ∃ n : Nat, n ≤ d.length ∧ ix = .int .i64 ((n : Int) - 1) ∧ Lies wr (W.heap.size + 1) 66 (wrdA d n) ∧ Lies wr W.heap.size 66 #[w64 0, w64 0, w64 0, w64 0] ∧ Below W.heap.size W wr) (fun ix _ => (intOf ix + 1).toNat)
  case atStart => exact ⟨d.length, Nat.le_refl _, val_int (by omega), by rw [HZ.out]; exact heap_alloc2_new W _ _, heap_alloc2_old W _ _, ((Below.refl _ W).alloc (Nat.le_refl _) _).alloc (by simp) _⟩
  case round =>
    obtain ⟨n, hn, rfl, hx, hr, hB⟩ := hrel
    cases n with
    | zero =>
      have hx0 := hx
      rw [HE.out] at hx0
      go_wp2_with (first | ((with_reducible refine wpL_load (W.heap.size + 1) 66 (feA (val d)) 4 row4 (feA_size _) hx0 ?_ ?_); rfl) | ((with_reducible refine wpL_store W.heap.size 66 _ (feA (val d)) 4 row4 rfl (feA_size _) (feA_one _) hr ?_ ?_ ?_); rfl; rfl))
      exact bodyPost_ret (results_row Tryz.results149 row4 (feA_size _) (hr.row _) rfl) rfl ⟨rfl, below_rowSet hB (Nat.le_refl _) _⟩
    | succ n =>
      have em : ((n + 1 : Nat) : Int) - 1 = (n : Int) := by omega
      rw [em]
      have hX := (hd.on hB) n (by omega)
      have hX2 := HX.out.at n
      have hlt := HL.out n
      have HS := Lib.hid (wrdA_set d n (by omega) (by omega))
      obtain ⟨q, hq⟩ : ∃ q, n / 4 = q := ⟨_, rfl⟩
      have hq4 : q < 4 := by omega
      rw [hq] at hlt HS
      have hqi : (n : Int) / 4 = (q : Int) := by omega
      have hc := (hx.cell q).trans (wrdA_at d (n + 1) q hq4)
      have hf := hx.frozen q
      have hqi4 : (q : Int) < 4 := by omega
      generalize wrd d (n + 1) q = F at hlt HS hc
      generalize d.getD n 0 = X at hX hX2 HS
      have e1 : IntKind.u64.wrap (65536 * (F : Int)) = ((65536 * F : Nat) : Int) := by rw [IntKind.wrap_u64]; omega
      have e2 : IntKind.u64.wrap (X : Int) = (X : Int) := by rw [IntKind.wrap_u64]; omega
      have hcast : Value.int .u64 (65536 * (F : Int) + (X : Int)) = w64 (65536 * F + X) := val_int (by omega)
      have e3 : IntKind.u64.wrap (((65536 * F : Nat) : Int) + (X : Int)) = ((65536 * F + X : Nat) : Int) := by rw [IntKind.wrap_u64]; omega
      go_wp2_with fail
      go_region
      all_goals
        go_wp2_with fail
        go_roundw
        case rel => exact ⟨n, by omega, rfl, by rw [← HS.out, ← hcast]; exact (hx.put q _).drew, (hr.far (by simp) _).drew, (below_put hB (Nat.le_succ _) _ _).drew⟩
        case measure => simp [intOf]
end Go.Proofs.YteecbglmohhaeaaGreatDoor.F

/- What the program's own variables hold while the field's functions are called. -/
namespace Go.Proofs.YteecbglmohhaeaaGreatDoor.F
open Go.RowKit

/-- the variable that holds p does -/
def Tab (w : World) : Prop := ∀ i, i < 4 → w.cell? ⟨6, i, none⟩ = some (w64 (wordN p25 i))
theorem Tab.on {w w' : World} (h : Tab w) (hb : Below w.heap.size w w') : Tab w' := fun i hi => by
  have h1 := h i hi
  exact (hb.cell (p := ⟨6, i, none⟩) (World.block_lt_of_cell? w _ h1)).trans h1
/-- .. and the one that holds a root of -1 -/
def TabR (w : World) : Prop := ∀ i, i < 4 → w.cell? ⟨7, i, none⟩ = some (w64 (wordN i25 i))
theorem TabR.on {w w' : World} (h : TabR w) (hb : Below w.heap.size w w') : TabR w' := fun i hi => by
  have h1 := h i hi
  exact (hb.cell (p := ⟨7, i, none⟩) (World.block_lt_of_cell? w _ h1)).trans h1
def Tab2 (w : World) : Prop := Tab w ∧ TabR w
theorem Tab2.on {w w' : World} (h : Tab2 w) (hb : Below w.heap.size w w') : Tab2 w' := ⟨h.1.on hb, h.2.on hb⟩
end Go.Proofs.YteecbglmohhaeaaGreatDoor.F

/- The contract of the reference's Times. -/
namespace Go.Proofs.YteecbglmohhaeaaGreatDoor.F
set_option maxRecDepth 100000
open Go.RowKit

set_option maxRecDepth 100000 in
set_option maxHeartbeats 1600000 in
theorem times_any (a b : List Nat) (ga oa ca gb ob cb : Nat) (W : World) (ha : Dig W ga oa a) (hb : Dig W gb ob b) (hla : a.length ≤ 400) (hlb : b.length ≤ 400) (da : Dg a) (db : Dg b) :
    Calls Tryz.prog 160 #[.slice (some ⟨ga, oa, none⟩) a.length ca, .slice (some ⟨gb, ob, none⟩) b.length cb] W fun e W' => ∃ r g' cap', e = .returned (.slice (some ⟨g', 0, none⟩) r.length cap') ∧ r.length ≤ cap' ∧ r.length ≤ a.length + b.length + 4 ∧ Dig W' g' 0 r ∧ Dg r ∧ Tr r ∧ val r = val a * val b ∧ Below W.heap.size W W' := by
  obtain ⟨i0, hi, hz0, hz1, hz2⟩ := info_parts info3
  obtain ⟨N, hN⟩ : ∃ N, a.length + b.length = N := ⟨_, rfl⟩
  have hNi : (a.length : Int) + (b.length : Int) = (N : Int) := by omega
  have HA := Lib.hid da
  have HBd := Lib.hid db
  clear da db
  go_enter Tryz.func160, Tryz.ntmps160
  go_wp2_with (at_make; refine wpList_make_full _ rfl _ _ 48 rfl W.heap.size 3 i0 (.int .i64 0) 1 Tryz.underlying48 hi hz0 hz1 _ _ _ _ N rfl rfl ?e1 ?e2 ?b2 ?b3 (Nat.le_refl _) ?_)
  case e1 => omega
  case e2 => omega
  case b2 => rw [hz2]; omega
  case b3 => unfold maxLen; omega
  intro w1 hown hgrow
  have hb1 : Below W.heap.size W w1 := (Below.refl _ _).grown hgrow (Nat.le_refl _) (fun k hk => by cases hk)
  rw [made_zeros] at hown
  clear hgrow
  go_wp2_with fail
  go_loopw [16] (fun ix wr => ∃ i : Nat, i ≤ a.length ∧ ix = .int .i64 i ∧ wr.ownsRow W.heap.size 3 1 (.slice (some ⟨W.heap.size, 0, none⟩) N N) N ((outS a b i).map i64) ∧ Below W.heap.size W wr) (fun ix _ => a.length - (intOf ix).toNat)
  case atStart => exact ⟨0, Nat.zero_le _, rfl, by rw [outS, hN]; exact hown, hb1⟩
  case round =>
    clear hown hb1
    obtain ⟨i, hi1, rfl, ho, hB⟩ := hrel
    by_cases hlt : i < a.length
    · go_wp2_with fail
      go_loopw [21] (fun kx wv => ∃ k : Nat, k ≤ b.length ∧ kx = .int .i64 k ∧ wv.ownsRow W.heap.size 3 1 (.slice (some ⟨W.heap.size, 0, none⟩) N N) N ((innS a b i (outS a b i) k).map i64) ∧ Below W.heap.size W wv) (fun kx _ => b.length - (intOf kx).toNat)
      case atStart => exact ⟨0, Nat.zero_le _, rfl, ho, hB⟩
      case round =>
        clear ho hB
        obtain ⟨k, hk1, rfl, ho, hB⟩ := hrel
        by_cases hltk : k < b.length
        · obtain ⟨m, hm⟩ : ∃ m, i + k = m := ⟨_, rfl⟩
          have hmN : m < N := by omega
          have hF := ho.frozenAt m
          have hO := own_at ho m hmN
          have hO2 := innS_bd HA.out HBd.out i k hi1 hk1 hlt m
          have HO := Lib.hid ho
          have HS : Hid (innS a b i (outS a b i) (k + 1) = (innS a b i (outS a b i) k).set (i + k) ((innS a b i (outS a b i) k).getD (i + k) 0 + a.getD i 0 * b.getD k 0)) := Lib.hid rfl
          rw [hm] at HS
          have hX := (ha.on hB) i hlt
          have hX2 := HA.out.at i
          have hY := (hb.on hB) k hltk
          have hY2 := HBd.out.at k
          have hP2 := Nat.le_trans (Nat.mul_le_mul (show a.getD i 0 ≤ 65535 by omega) (show b.getD k 0 ≤ 65535 by omega)) (show 65535 * 65535 ≤ 4294836225 by decide)
          clear ho
          have e1 : IntKind.i64.wrap ((i : Int) + (k : Int)) = (m : Int) := by rw [IntWalk.i64_in _ (by omega)]; omega
          have hcast : (i : Int) + (k : Int) = (m : Int) := by omega
          have b1 : (m : Int) < (N : Int) := by omega
          generalize (innS a b i (outS a b i) k).getD m 0 = O at hO hO2 HS
          generalize a.getD i 0 = X at hX hX2 HS hP2
          generalize b.getD k 0 = Y at hY hY2 HS hP2
          obtain ⟨M, hM⟩ : ∃ M, X * Y = M := ⟨_, rfl⟩
          have eM : (X : Int) * (Y : Int) = (M : Int) := by rw [← hM]; omega
          rw [hM] at HS hP2
          clear hM
          have hO3 : O ≤ 1152921504606846976 := by omega
          have eM2 : IntKind.i64.wrap (M : Int) = (M : Int) := by rw [IntWalk.i64_in _ (by omega)]
          have hsum := i64_sum O M hO3 (by omega)
          obtain ⟨T, hT⟩ : ∃ T, O + M = T := ⟨_, rfl⟩
          rw [hT] at HS hsum
          have hcast2 : (O : Int) + (M : Int) = (T : Int) := by omega
          clear hO2 hX2 hY2
          go_wp2_with fail
          go_region
          all_goals
            go_wp2_with fail
            go_roundw
            case rel => exact ⟨k + 1, by omega, by go_num, by rw [HS.out]; exact own_putv HO.out m _ _ rfl, (below_put hB (Nat.le_refl _) _ _).drew⟩
            case measure => simp [intOf]; omega
        · obtain rfl : k = b.length := by omega
          go_wp2_with fail
          go_roundw
          case rel => exact ⟨i + 1, by omega, by go_num, ho, hB⟩
          case measure => simp [intOf]; omega
    · obtain rfl : i = a.length := by omega
      have hD := own_dig ho
      have hlen := outS_length a b a.length
      rw [hN] at hlen
      have HT := Lib.hid (carry_any (outS a b a.length) 1717934490000 W.heap.size 0 N wr hD (by omega) (bd_of fun j => Nat.le_trans (outS_bd HA.out HBd.out a.length (Nat.le_refl _) j) (by omega)) (by decide))
      rw [hlen] at HT
      have HVal : Hid (val (outS a b a.length) = val a * val b) := Lib.hid (by rw [outS_val _ _ _ (Nat.le_refl _), List.take_of_length_le (Nat.le_refl _)])
      clear ho hD
      go_wp2_with (go_at_call 175; refine HT.out.mono ?_; rintro e w2 ⟨r, g2, cap2, rfl, hr1, hr2, hr3, hr4, hr5, hr6, hb2⟩)
      go_ret
      exact ⟨r, g2, cap2, rfl, hr1, by omega, hr3, hr4, hr5, hr6.trans HVal.out, below_on hB hb2⟩
end Go.Proofs.YteecbglmohhaeaaGreatDoor.F

/- The contracts of the reference's Less and Minus. -/
namespace Go.Proofs.YteecbglmohhaeaaGreatDoor.F
set_option maxRecDepth 100000
open Go.RowKit

set_option maxHeartbeats 800000 in
theorem less_any (a b : List Nat) (ga oa ca gb ob cb : Nat) (W : World) (ha : Dig W ga oa a) (hb : Dig W gb ob b) (hla : a.length ≤ 900) (da : Dg a) (db : Dg b) (ta : Tr a) (tb : Tr b) :
    Calls Tryz.prog 150 #[.slice (some ⟨ga, oa, none⟩) a.length ca, .slice (some ⟨gb, ob, none⟩) b.length cb] W fun e W' => e = .returned (.bool (decide (val a < val b))) ∧ Below W.heap.size W W' := by
  by_cases hne : a.length = b.length
  · have hne2 : (a.length : Int) = (b.length : Int) := by omega
    have HA := Lib.hid (fun i => less_at a b i da hne)
    have HB := Lib.hid (fun i => less_at b a i db hne.symm)
    have HD := Lib.hid (fun i => @drop_same a b i hne)
    clear da db ta tb
    go_enter Tryz.func150, Tryz.ntmps150
    go_wp2
    go_loopw [5] (fun ix wr => ∃ n : Nat, n ≤ a.length ∧ ix = .int .i64 ((n : Int) - 1) ∧ Hid (a.drop n = b.drop n) ∧ Below W.heap.size W wr) (fun ix _ => (intOf ix + 1).toNat)
    case atStart => exact ⟨a.length, Nat.le_refl _, val_int (by omega), Lib.hid (by rw [List.drop_of_length_le (Nat.le_refl _), List.drop_of_length_le (by omega)]), Below.refl _ _⟩
    case round =>
      obtain ⟨n, hn, rfl, HS, hB⟩ := hrel
      cases n with
      | zero =>
        have HE := Lib.hid (show a = b from HS.out)
        go_wp2
        go_ret
        exact ⟨ret1_of (by rw [HE.out]; simp), hB⟩
      | succ m =>
        have em : ((m + 1 : Nat) : Int) - 1 = (m : Int) := by omega
        rw [em]
        have hX := (ha.on hB) m (by omega)
        have hY := (hb.on hB) m (by omega)
        have HA1 := Lib.hid (HA.out m (by omega) HS.out)
        have HB1 := Lib.hid (HB.out m (by omega) HS.out.symm)
        have HD1 := Lib.hid (HD.out m (by omega) HS.out)
        generalize a.getD m 0 = X at hX HA1 HB1 HD1
        generalize b.getD m 0 = Y at hY HA1 HB1 HD1
        by_cases hxy : X = Y
        · have HD2 := Lib.hid (HD1.out hxy)
          clear HA1 HB1 HD1
          subst hxy
          go_wp2_with fail
          go_quiet (fail)
          go_wp2_with fail
          go_roundw
          case rel => exact ⟨m, by omega, rfl, HD2, below_drawn hB nq⟩
          case measure => simp [intOf]
        · have hxy2 : ¬ (X : Int) = (Y : Int) := by omega
          have HE : Hid (decide (X < Y) = decide (val a < val b)) := Lib.hid (by
            by_cases h : X < Y
            · rw [decide_eq_true (HA1.out h), decide_eq_true h]
            · rw [decide_eq_false h, decide_eq_false (by have := HB1.out (by omega); omega)])
          clear HA1 HB1 HD1
          go_wp2_with fail
          go_quiet (fail)
          go_wp2_with fail
          go_quiet (fail)
          go_wp2_with fail
          go_ret
          exact ⟨ret1_of (by rw [← HE.out]; rfl), below_drawn (below_drawn hB _) _⟩
  · have hne2 : ¬ (a.length : Int) = (b.length : Int) := by omega
    have HE : Hid (decide (a.length < b.length) = decide (val a < val b)) := Lib.hid (by
      by_cases h : a.length < b.length
      · rw [decide_eq_true (tr_shorter da tb h), decide_eq_true h]
      · rw [decide_eq_false h, decide_eq_false (by have := tr_shorter db ta (by omega); omega)])
    go_enter Tryz.func150, Tryz.ntmps150
    go_wp2
    go_ret
    exact ⟨ret1_of (by rw [← HE.out]; rfl), Below.refl _ _⟩

/-- a fresh row of n zeros -/
theorem bor_pos {A B L : Nat} (h : ¬ A < L + B) : (A : Int) - L - B = ((A - L - B : Nat) : Int) := by omega
theorem bor_neg {A B L : Nat} (hA : A < 65536) (hB : B < 65536) (hL : L ≤ 1) : (A : Int) - L - B + 65536 = ((A + 65536 - L - B : Nat) : Int) := by omega

set_option maxHeartbeats 1600000 in
theorem minus_any (a b : List Nat) (ga oa ca gb ob cb : Nat) (W : World) (ha : Dig W ga oa a) (hb : Dig W gb ob b) (hla : a.length ≤ 900) (da : Dg a) (db : Dg b) (hle : val b ≤ val a) :
    Calls Tryz.prog 153 #[.slice (some ⟨ga, oa, none⟩) a.length ca, .slice (some ⟨gb, ob, none⟩) b.length cb] W fun e W' => ∃ r g' cap', e = .returned (.slice (some ⟨g', 0, none⟩) r.length cap') ∧ r.length ≤ cap' ∧ r.length ≤ a.length ∧ Dig W' g' 0 r ∧ Dg r ∧ Tr r ∧ val r = val a - val b ∧ Below W.heap.size W W' := by
  obtain ⟨i0, hi, hz0, hz1, hz2⟩ := info_parts info3
  have HE := Lib.hid (bor_end da db hle)
  have HA := Lib.hid da
  have HBd := Lib.hid db
  clear da db hle
  go_enter Tryz.func153, Tryz.ntmps153
  go_wp2_with (at_make; refine wpList_make_full _ rfl _ _ 48 rfl W.heap.size 3 i0 (.int .i64 0) 1 Tryz.underlying48 hi hz0 hz1 _ _ _ _ a.length rfl rfl ?e1 ?e2 ?b2 ?b3 (Nat.le_refl _) ?_)
  case e1 => omega
  case e2 => omega
  case b2 => rw [hz2]; omega
  case b3 => unfold maxLen; omega
  intro w1 hown hgrow
  have hb1 : Below W.heap.size W w1 := (Below.refl _ _).grown hgrow (Nat.le_refl _) (fun k hk => by cases hk)
  rw [made_zeros] at hown
  clear hgrow
  go_wp2_with fail
  go_loopw [6, 14] (fun low ix wr => ∃ i : Nat, i ≤ a.length ∧ ix = .int .i64 i ∧ low = i64 (borN a b i) ∧ wr.ownsRow W.heap.size 3 1 (.slice (some ⟨W.heap.size, 0, none⟩) a.length a.length) a.length ((borL a b i ++ List.replicate (a.length - i) 0).map i64) ∧ Below W.heap.size W wr) (fun _ ix _ => a.length - (intOf ix).toNat)
  case atStart => exact ⟨0, Nat.zero_le _, rfl, rfl, hown, hb1⟩
  case round =>
    clear hown hb1
    obtain ⟨i, hi1, rfl, rfl, ho, hB⟩ := hrel
    by_cases hlt : i < a.length
    · have hF := ho.frozenAt i
      have hO := own_at ho i hlt
      have HO := Lib.hid ho
      have HP := Lib.hid (pre_set (borL a b i) a.length i (borD a b i) (borL_length a b i) hlt)
      have HS := Lib.hid (borL_succ a b i)
      have HN : Hid (borN a b (i + 1) = if a.getD i 0 < borN a b i + b.getD i 0 then 1 else 0) := Lib.hid rfl
      have HD : Hid (borD a b i = if a.getD i 0 < borN a b i + b.getD i 0 then a.getD i 0 + 65536 - borN a b i - b.getD i 0 else a.getD i 0 - borN a b i - b.getD i 0) := Lib.hid rfl
      have hL := borN_le a b i
      have hX := (ha.on hB) i hlt
      have hX2 := HA.out.at i
      clear ho
      generalize (borL a b i ++ List.replicate (a.length - i) 0).getD i 0 = Z at hO
      by_cases hlt2 : i < b.length
      · have hY := (hb.on hB) i hlt2
        have hY2 := HBd.out.at i
        generalize a.getD i 0 = A at hX hX2 HN HD
        generalize b.getD i 0 = B at hY hY2 HN HD
        generalize borN a b i = L at hL HN HD
        have e1 : IntKind.i64.wrap ((A : Int) - (L : Int)) = (A : Int) - L := by rw [IntWalk.i64_in _ (by omega)]
        have e2 : IntKind.i64.wrap ((A : Int) - (L : Int) - (B : Int)) = (A : Int) - L - B := by rw [IntWalk.i64_in _ (by omega)]
        by_cases hbo : A < L + B
        · have hneg : (A : Int) - L - B < 0 := by omega
          have HQ := Lib.hid (bor_neg hX2 hY2 hL)
          have e3 : IntKind.i64.wrap ((A : Int) - (L : Int) - (B : Int) + 65536) = (A : Int) - L - B + 65536 := by rw [IntWalk.i64_in _ (by omega)]
          go_wp2_with fail
          go_roundw
          case rel => exact ⟨i + 1, by omega, by go_num, val_int (by rw [HN.out, if_pos hbo]; rfl), by rw [HS.out, ← HP.out]; exact own_putv HO.out i _ _ (val_int (by rw [HD.out, if_pos hbo, ← HQ.out])), hB.setCell (p := ⟨W.heap.size, i, none⟩) (Nat.le_refl _) _⟩
          case measure => simp [intOf]; omega
        · have hneg : ¬ (A : Int) - L - B < 0 := by omega
          have HQ := Lib.hid (bor_pos hbo)
          go_wp2_with fail
          go_roundw
          case rel => exact ⟨i + 1, by omega, by go_num, val_int (by rw [HN.out, if_neg hbo]; rfl), by rw [HS.out, ← HP.out]; exact own_putv HO.out i _ _ (val_int (by rw [HD.out, if_neg hbo, ← HQ.out])), hB.setCell (p := ⟨W.heap.size, i, none⟩) (Nat.le_refl _) _⟩
          case measure => simp [intOf]; omega
      · rw [getD_past hlt2] at HN HD
        generalize a.getD i 0 = A at hX hX2 HN HD
        generalize borN a b i = L at hL HN HD
        have e1 : IntKind.i64.wrap ((A : Int) - (L : Int)) = (A : Int) - L := by rw [IntWalk.i64_in _ (by omega)]
        by_cases hbo : A < L + 0
        · have hneg : (A : Int) - L < 0 := by omega
          have HQ := Lib.hid (bor_neg hX2 (B := 0) (by omega) hL)
          have e3 : IntKind.i64.wrap ((A : Int) - (L : Int) + 65536) = (A : Int) - L + 65536 := by rw [IntWalk.i64_in _ (by omega)]
          go_wp2_with fail
          go_roundw
          case rel => exact ⟨i + 1, by omega, by go_num, val_int (by rw [HN.out, if_pos hbo]; rfl), by rw [HS.out, ← HP.out]; exact own_putv HO.out i _ _ (val_int (by rw [HD.out, if_pos hbo, ← HQ.out]; omega)), hB.setCell (p := ⟨W.heap.size, i, none⟩) (Nat.le_refl _) _⟩
          case measure => simp [intOf]; omega
        · have hneg : ¬ (A : Int) - L < 0 := by omega
          have HQ := Lib.hid (bor_pos (B := 0) hbo)
          go_wp2_with fail
          go_roundw
          case rel => exact ⟨i + 1, by omega, by go_num, val_int (by rw [HN.out, if_neg hbo]; rfl), by rw [HS.out, ← HP.out]; exact own_putv HO.out i _ _ (val_int (by rw [HD.out, if_neg hbo, ← HQ.out]; omega)), hB.setCell (p := ⟨W.heap.size, i, none⟩) (Nat.le_refl _) _⟩
          case measure => simp [intOf]; omega
    · obtain rfl : i = a.length := by omega
      rw [Nat.sub_self, List.replicate_zero, List.append_nil] at ho
      have hD := own_dig ho
      have hlen := borL_length a b a.length
      have HT := Lib.hid (trim_any (borL a b a.length) W.heap.size 0 a.length wr hD (by omega) (by omega))
      rw [hlen] at HT
      have hle := trimL_le (borL a b a.length)
      clear ho
      go_wp2_with (go_at_call 148; refine HT.out.mono ?_; rintro e w2 ⟨rfl, rfl⟩)
      go_ret
      exact ⟨trimL (borL a b a.length), _, _, rfl, by omega, by omega, hD.take _, (borL_dg HA.out HBd.out _).trim, trim_tr _, (val_trim _).trans HE.out, hB⟩

end Go.Proofs.YteecbglmohhaeaaGreatDoor.F

