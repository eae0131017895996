/- Texts that stand on one another, put together: Region, FMul, FSub. -/
import Derived.Test.YtmekmlgpkbfjpaaGreatDoorK3
import Derived.Lib.QuietBelow
import Derived.StillTail
/- A region that draws its order, whose head only reads and calls what only makes memory, and whose tail comes in the text's order: walked once. Nothing of the program is named here. -/
namespace Go.Proofs.YtmekmlgpkbfjpaaGreatDoor
open Go.Sort Go.RowKit

section
variable {P : Program} {ops : Array Oper} {md : Region.Mode} {C : World → Prop}

/-- whatever order the head is picked in -/
def wpAnyQL (P : Program) (md : Region.Mode) (ops : Array Oper) (C : World → Prop) (n : Nat) (L : Array Bool → Act → Prop) : Nat → Array Bool → Act → Prop
  | 0, listed, a => L listed a
  | f + 1, listed, a => Region.ready md ops listed ≠ [] ∧ ∀ i ∈ Region.ready md ops listed, i < n ∧ qOp P ops C i (wpAnyQL P md ops C n L f (listed.setIfInBounds i true)) a

theorem wpAny_of_headQ {n g : Nat} {L : Array Bool → Act → Prop} {Q' : Exit → Act → World → Prop} (hL : ∀ listed a w, C w → L listed a → wpAny P md ops Q' g listed a w) :
    ∀ (f : Nat) (listed : Array Bool) (a : Act) (w : World), C w → wpAnyQL P md ops C n L f listed a → wpAny P md ops Q' (f + g) listed a w
  | 0, listed, a, w, hw, h => by rw [Nat.zero_add]; exact hL _ _ _ hw h
  | f + 1, listed, a, w, hw, h => by
    rw [show f + 1 + g = (f + g) + 1 by omega]
    exact ⟨fun h0 => absurd h0 h.1, fun i hi => wpOp_of_qOp hw (fun a' w' hw' h' => wpAny_of_headQ hL f _ a' w' hw' h') (h.2 i hi).2⟩

theorem wpAnyQL_first {n i : Nat} {oi : Oper} {v : Value} {L : Array Bool → Act → Prop} (hi : ops[i]? = some oi) (hsel : ∀ (j : Nat) (o : Oper) cs b, ops[j]? = some o → o.op ≠ .select cs b)
    (hs : Region.sinkB md ops n = true) (hc : Region.chainB md ops n = true) (hn : n < ops.size) (hin : i < n)
    (hdone : ∀ listed a, L listed a → ∀ j ∈ Region.ready md ops listed, n ≤ j) :
    ∀ (f : Nat) (listed : Array Bool) (a : Act), HeadInv md ops n listed →
      (∀ j oj, ops[j]? = some oj → j ≠ i → listed.getD j true = false → (∀ e ∈ oj.after, Region.binds md e = true → e.on ≠ i) → oi.apart ops oj = true) →
      i ∈ Region.ready md ops listed → YieldsIn P ops C oi v a →
      wpAnyQL P md ops C n L f (listed.setIfInBounds i true) (a.put oi.dst v) → wpAnyQL P md ops C n L (f + 1) listed a := by
  intro f
  induction f with
  | zero =>
    intro listed a inv _ hr hy H
    have hun := (mem_ready.1 hr).1
    refine ⟨fun h => (by rw [h] at hr; cases hr), fun j hj => ?_⟩
    have hjn : j < n := by
      rcases Nat.lt_or_ge j n with h | h
      · exact h
      · exact absurd hj (tail_waits hs hc hn inv _ i rfl hin hun j h)
    refine ⟨hjn, ?_⟩
    by_cases hji : j = i
    · subst hji; exact hy.qOp hi H
    · have := hdone _ _ H j (ready_mono hj hji)
      omega
  | succ f ih =>
    intro listed a inv hfree hr hy H
    have hun := (mem_ready.1 hr).1
    refine ⟨fun h => (by rw [h] at hr; cases hr), fun j hj => ?_⟩
    have hjn : j < n := by
      rcases Nat.lt_or_ge j n with h | h
      · exact h
      · exact absurd hj (tail_waits hs hc hn inv _ i rfl hin hun j h)
    refine ⟨hjn, ?_⟩
    by_cases hji : j = i
    · subst hji; exact hy.qOp hi H
    · have h1 := (H.2 j (ready_mono hj hji)).2
      obtain ⟨hjun, oj, hoj, hall⟩ := mem_ready.1 hj
      have hnot : ∀ e ∈ oj.after, Region.binds md e = true → e.on ≠ i := fun e he hb heq => by
        have h1 := hall e he hb
        rw [heq, getD_both hun] at h1
        cases h1
      have h2 := qOp_put hoj (hfree j oj hoj hji hjun hnot) (fun cs b => hsel i oi cs b hi) (fun cs b => hsel j oj cs b hoj) hy h1
      have hfree' : ∀ k ok, ops[k]? = some ok → k ≠ i → (listed.setIfInBounds j true).getD k true = false →
          (∀ e ∈ ok.after, Region.binds md e = true → e.on ≠ i) → oi.apart ops ok = true := fun k ok hk hki hun hno => by
        refine hfree k ok hk hki ?_ hno
        by_cases hjk : j = k
        · subst hjk; exact hjun
        · rw [getD_set_ne true hjk] at hun; exact hun
      refine qOp_mono (fun a' h3 => ih (listed.setIfInBounds j true) a' (inv.set hj hjn) hfree' (ready_mono hr (Ne.symm hji)) h3.1 ?_) h2
      rw [Array.setIfInBounds_comm _ _ hji]
      exact h3.2

theorem wpAnyQL_lex {n g : Nat} {Lq : Act → Prop} (hsel : Region.noSelect ops = true) (hs : Region.sinkB md ops n = true) (hc : Region.chainB md ops n = true) (hn : n < ops.size) :
    ∀ (l : List Oper) (k : Nat) (listed : Array Bool) (a : Act), (∀ j, j < l.length → l[j]? = ops[k + j]?) → k + l.length = n → HeadInv md ops n listed →
    Region.lexHead md ops g l.length k listed = true → wpQuiet P ops C Lq l a →
    wpAnyQL P md ops C n (fun listed' a' => Region.seqB md ops g n listed' = true ∧ Lq a') l.length listed a
  | [], k, listed, a, _, hk, _, hB, h => by
    have : k = n := by simpa using hk
    subst this
    exact ⟨by simpa [Region.lexHead] using hB, h⟩
  | o :: l, k, listed, a, hl, hk, inv, hB, h => by
    have h0 : ops[k]? = some o := by simpa using (hl 0 (by simp)).symm
    simp only [List.length_cons, Region.lexHead, Bool.and_eq_true] at hB
    obtain ⟨⟨hr, hf⟩, hB'⟩ := hB
    have hkn : k < n := by simp only [List.length_cons] at hk; omega
    have hr' : k ∈ Region.ready md ops listed := by simpa using hr
    have hst : qOp P ops C k (wpQuiet P ops C Lq l) a := by unfold qOp; simp only [h0]; exact h
    obtain ⟨v, hy, hK⟩ := yieldsIn_of_qOp h0 hst
    exact wpAnyQL_first h0 (Region.noSelect_spec hsel) hs hc hn hkn (fun listed' a' hL => seqB_ready hL.1) l.length listed a inv (Region.free_spec h0 hf) hr' hy
      (wpAnyQL_lex hsel hs hc hn l (k + 1) _ _ (fun j hj => by have := hl (j + 1) (by simp; omega); simpa [Nat.add_assoc, Nat.add_comm 1 j] using this) (by simp only [List.length_cons] at hk; omega) (inv.set hr' hkn) hB' hK)

/-- a head that is quiet in a class of worlds, a tail in the text's order -/
theorem any_quiet_tail {Q : Exit → Act → World → Prop} {a : Act} {w : World} {l : List Oper} (n : Nat) (hB : Region.lexTailB .any l.toArray n = true) (hC : C { w with drawn := w.drawn + 1 })
    (h : wpQuiet P l.toArray C (fun a' => ∀ w', C w' → wpList P l.toArray Q (l.drop n) a' w') (l.take n) a) : wpAny P .any l.toArray Q l.toArray.size (Array.replicate l.toArray.size false) a { w with drawn := w.drawn + 1 } := by
  simp only [Region.lexTailB, Bool.and_eq_true, decide_eq_true_eq] at hB
  obtain ⟨⟨⟨⟨hsel, hn⟩, hs⟩, hc⟩, hlex⟩ := hB
  have hn' : n < l.length := by simpa using hn
  have htl : (l.take n).length = n := by simp; omega
  have hdl : (l.drop n).length = l.toArray.size - n := by simp
  have inv0 : HeadInv .any l.toArray n (Array.replicate l.toArray.size false) :=
    ⟨by simp, fun j oj _ hl => (by rw [getD_replicate_false] at hl; cases hl), fun t _ ht => getD_in (by simpa using ht) (getD_replicate_false _ _)⟩
  have H := wpAnyQL_lex (md := .any) (g := l.toArray.size - n) hsel hs hc hn (l.take n) 0 _ a (fun j hj => by
    have hj' : j < n := by rw [htl] at hj; exact hj
    simp [hj']) (by simpa using htl) inv0 (by rw [htl]; exact hlex) h
  have := wpAny_of_headQ (Q' := Q) (g := l.toArray.size - n) (fun listed a' w' hw' hL => by
    have := wpAny_of_seq (md := .any) (Q' := Q) (l.drop n) n listed a' w' (fun j => by simp [List.getElem?_drop]) (by rw [hdl]; exact hL.1) (hL.2 w' hw')
    rwa [hdl] at this) _ _ _ _ hC H
  rw [htl, show n + (l.toArray.size - n) = l.toArray.size by omega] at this
  exact this
theorem wp_region_quiet_tail {id : Nat} {Q : Exit → Act → World → Prop} {a : Act} {w : World} {l : List Oper} (n : Nat) (hm : P.follows .mixedOrders = true) (hB : Region.lexTailB .any l.toArray n = true) (hC : C { w with drawn := w.drawn + 1 })
    (h : wpQuiet P l.toArray C (fun a' => ∀ w', C w' → wpList P l.toArray Q (l.drop n) a' w') (l.take n) a) : (Code.region id l.toArray true).wp P Q a w :=
  wp_region_any hm (any_quiet_tail n hB hC h)
end

/-- .. whose callees' contracts end in 'Below' -/
theorem wp_region_below_tail {P : Program} {id : Nat} {Q : Exit → Act → World → Prop} {a : Act} {w : World} {l : List Oper} (n : Nat) (hm : P.follows .mixedOrders = true) (hB : Region.lexTailB .any l.toArray n = true)
    (h : wpQuiet P l.toArray (fun w' => ∃ p : Regrown, w' = grow (redrawn w p.d) p.os) (fun a' => ∀ w', (∃ p : Regrown, w' = grow (redrawn w p.d) p.os) → wpList P l.toArray Q (l.drop n) a' w') (l.take n) a) : (Code.region id l.toArray true).wp P Q a w :=
  wp_region_quiet_tail n hm hB ⟨⟨w.drawn + 1, #[]⟩, by rw [grow_empty]; rfl⟩ h
end Go.Proofs.YtmekmlgpkbfjpaaGreatDoor

/- The contract of the program's Mul. -/
namespace Go.Proofs.YtmekmlgpkbfjpaaGreatDoor.F
set_option maxRecDepth 100000
open Go.RowKit Go.Sort
attribute [local irreducible] feA
abbrev z8A : Array Value := #[.int .u64 0, .int .u64 0, .int .u64 0, .int .u64 0, .int .u64 0, .int .u64 0, .int .u64 0, .int .u64 0]
/-- some words, zeros behind them -/
def padA (ws : List Nat) (n : Nat) : Array Value := ((ws ++ List.replicate (n - ws.length) 0).map w64).toArray
theorem padA_at (ws : List Nat) (n i : Nat) (hi : i < n) : (padA ws n)[i]? = some (w64 ((ws ++ List.replicate (n - ws.length) 0).getD i 0)) := by
  unfold padA
  rw [List.getElem?_toArray, List.getElem?_map, List.getElem?_eq_getElem (by simp; omega), List.getD_eq_getElem?_getD, List.getElem?_eq_getElem (by simp; omega)]
  rfl
theorem padA_set (ws : List Nat) (n i x : Nat) (hl : ws.length = i) (hi : i < n) : (padA ws n).setIfInBounds i (w64 x) = padA (ws ++ [x]) n := by
  unfold padA
  rw [List.setIfInBounds_toArray, ← List.map_set, hl, pre_set ws n i x hl hi, List.length_append, hl]
  rfl
theorem padA_full (ws : List Nat) (n : Nat) (h : ws.length = n) : padA ws n = (ws.map w64).toArray := by
  unfold padA
  rw [h, Nat.sub_self, List.replicate_zero, List.append_nil]

set_option maxRecDepth 100000 in
set_option maxHeartbeats 3200000 in
theorem mul_any (m n : Nat) (W : World) (hm : m < K256) (hn : n < K256) (hT : Tab W) :
    Calls Tryz.prog 94 #[fe m, fe n] W fun e w' => e = .returned (fe (m * n % p25)) ∧ Below W.heap.size W w' := by
  have hT0 := Lib.hid hT
  have hmv := Lib.hid (wordsL_val hm)
  have hnv := Lib.hid (wordsL_val hn)
  have wm := wordsL_wd m
  have wn := wordsL_wd n
  rw [fe, fe, feA_wordsL m, feA_wordsL n]
  have hma := wordsL_at m
  have hna := wordsL_at n
  have hml : (wordsL m).length = 4 := rfl
  have hnl : (wordsL n).length = 4 := rfl
  obtain ⟨X, hX⟩ : ∃ X, ((wordsL m).map w64).toArray = X := ⟨_, rfl⟩
  obtain ⟨Y, hY⟩ : ∃ Y, ((wordsL n).map w64).toArray = Y := ⟨_, rfl⟩
  rw [hX] at hma ⊢
  rw [hY] at hna ⊢
  clear hX hY hT
  generalize hxs : wordsL m = xs at *
  generalize hys : wordsL n = ys at *
  clear hxs hys hm hn
  go_enter Tryz.func94, Tryz.ntmps94
  have hx := ((Lies.new W 72 X).alloc (.cells Y 72)).alloc (.cells fe0A 72)
  have hy : Lies ((W.alloc (.cells X 72)).alloc (.cells Y 72)) (W.heap.size + 1) 72 Y := heap_alloc2_new W _ _
  replace hy := hy.alloc (.cells fe0A 72)
  have hr := lies3 W (.cells X 72) (.cells Y 72) 72 fe0A
  have hB := (((Below.refl W.heap.size W).alloc (Nat.le_refl _) (.cells X 72)).alloc (by simp) (.cells Y 72)).alloc (by simp; omega) (.cells fe0A 72)
  go_upto_region 1 with fail
  generalize World.alloc (World.alloc (World.alloc W _) _) _ = w0 at *
  have ha : Lies (w0.alloc (.cells z8A 106)) w0.heap.size 106 (((List.replicate 8 0).map w64).toArray) := Lies.new w0 106 z8A
  replace hx := hx.alloc (.cells z8A 106)
  replace hy := hy.alloc (.cells z8A 106)
  have hrlt := hr.lt
  replace hr := hr.alloc (.cells z8A 106)
  have hBz := hB.size
  replace hB := hB.alloc hBz (.cells z8A 106)
  go_upto_region 2 with fail
  generalize World.alloc w0 _ = w1 at *
  generalize w0.heap.size = ga at *
  go_wp2_with fail
  go_loopw [12] (fun ix wr => ∃ (i : Nat) (al : List Nat), i ≤ 4 ∧ ix = .int .i64 i ∧ al.length = 8 ∧ Wd al ∧ (∀ j, i + 4 ≤ j → al.getD j 0 = 0) ∧ Hid (valK al = valK (xs.take i) * n) ∧ Lies wr ga 106 ((al.map w64).toArray) ∧ Lies wr W.heap.size 72 X ∧ Lies wr (W.heap.size + 1) 72 Y ∧ Lies wr (W.heap.size + 2) 72 fe0A ∧ Below W.heap.size W wr) (fun ix _ => 4 - (intOf ix).toNat)
  case atStart => exact ⟨0, List.replicate 8 0, by omega, rfl, rfl, (fun d hd => by rw [List.mem_replicate] at hd; omega), (fun j _ => by rw [List.getD_eq_getElem?_getD, List.getElem?_replicate]; split <;> rfl), Lib.hid (by rw [valK_zeros, List.take_zero]; simp [valK]), ha, hx, hy, hr, hB⟩
  case round =>
    clear ha hx hy hr hB
    obtain ⟨i, al, hi, rfl, hl8, hw, hz, HV, ha, hx, hy, hr, hB⟩ := hrel
    by_cases hlt : i < 4
    · have HZ := Lib.hid hz
      have hxi := hma i hlt
      have bx := wm.at i
      have HX := Lib.hid (valK_take_succ xs i)
      generalize xs.getD i 0 = x at *
      clear hz
      obtain ⟨wq, hwq⟩ : ∃ wq, wq = wr := ⟨_, rfl⟩
      subst hwq
      go_wp2_with fail
      go_loopw [7, 15] (fun cx kx wv => ∃ (k c : Nat) (al : List Nat), k ≤ 4 ∧ kx = .int .i64 k ∧ cx = w64 c ∧ c < 18446744073709551616 ∧ al.length = 8 ∧ Wd al ∧ Hid (∀ j, i + 4 ≤ j → al.getD j 0 = 0) ∧ Hid (valK al + 18446744073709551616 ^ (i + k) * c = valK (xs.take i) * n + 18446744073709551616 ^ i * (x * valK (ys.take k))) ∧ Lies wv ga 106 ((al.map w64).toArray) ∧ Lies wv W.heap.size 72 X ∧ Lies wv (W.heap.size + 1) 72 Y ∧ Lies wv (W.heap.size + 2) 72 fe0A ∧ Below W.heap.size W wv) (fun _ kx _ => 4 - (intOf kx).toNat)
      case atStart => exact ⟨0, 0, al, by omega, rfl, rfl, by decide, hl8, hw, HZ, Lib.hid (by rw [HV.out]; simp [valK]), ha, hx, hy, hr, hB⟩
      case round =>
        clear ha hx hy hr hB HV HZ hw hl8
        obtain ⟨k, c, al, hk, rfl, rfl, hc, hl8, hw, HZ, HV, ha, hx, hy, hr, hB⟩ := hrel
        by_cases hltk : k < 4
        · have cx := cell_regrown ((hx.cell i).trans hxi)
          have cy := cell_regrown ((hy.cell k).trans (hna k hltk))
          obtain ⟨j, hj⟩ : ∃ j, i + k = j := ⟨_, rfl⟩
          have hj8 : j < 8 := by omega
          have ca := cell_regrown ((ha.cell j).trans (listA_at al j (by omega)))
          have b_y := wn.at k
          have bo := hw.at j
          have HY := Lib.hid (valK_take_succ ys k)
          have HSt := Lib.hid (fun (o nw q y : Nat) (ho : al.getD (i + k) 0 = o) => @inner_step al (valK (xs.take i) * n) (valK (ys.take k)) x y c o nw q i k (by omega) ho HV.out)
          rw [hj] at HSt
          generalize ys.getD k 0 = y at *
          generalize hao : al.getD j 0 = o at *
          clear hao
          obtain ⟨q, nw, b5, b6, hsum, HM⟩ := wordTimes_any x y o c bx b_y bo hc
          have hsum' : nw + 18446744073709551616 * q = x * y + c + o := by rw [hsum]; omega
          have HSum := Lib.hid hsum'
          have cM := reg (W := wr) (fun w _ => HM w)
          have HW := Lib.hid hw
          have HBs := Lib.hid (And.intro b5 b6)
          clear hw hsum hsum' HM b_y bo
          have hji : IntKind.i64.wrap ((i : Int) + (k : Int)) = (j : Int) := by rw [IntWalk.i64_in _ (by omega)]; omega
          have hjc : (i : Int) + (k : Int) = (j : Int) := by omega
          have hj8i : (j : Int) < 8 := by omega
          go_upto_region 9 with fail
          refine wp_region_below_tail 21 (by kernel_rfl) (by kernel_rfl) ?_
          simp only [List.take_succ_cons, List.take_zero, List.drop_succ_cons, List.drop_zero]
          repeat (go_big_quiet_step (with_reducible exact cM _ _))
          refine wpQuiet_nil ?_
          intro w3 hw3
          have hb : Below wr.heap.size wr w3 := by obtain ⟨⟨dq, osq⟩, rfl⟩ := hw3; exact below_regrown wr dq osq
          clear hw3 cx cy ca cM
          replace hx := hx.on hb
          replace hy := hy.on hb
          replace hr := hr.on hb
          replace ha := ha.on hb
          replace hB := below_on hB hb
          clear hb
          have ca := (ha.cell j).trans (listA_at al j (by omega))
          have fa := ha.frozen j
          generalize al.getD j 0 = o2 at ca
          go_wp2_with fail
          go_roundw
          case rel => exact ⟨k + 1, q, al.set j nw, by omega, by go_num, rfl, HBs.out.1, by rw [List.length_set]; exact hl8, HW.out.set j HBs.out.2, Lib.hid (fun t ht => by rw [set_getD _ _ _ _ (by omega)]; exact HZ.out t ht), Lib.hid (by rw [HY.out]; exact HSt.out o nw q y rfl HSum.out), by rw [← listA_set]; exact ha.put j _, hx.far (by simp only; omega) _, hy.far (by simp only; omega) _, hr.far (by simp only; omega) _, below_put hB (by omega) _ _⟩
          case measure => simp [intOf]; omega
        · obtain rfl : k = 4 := by omega
          have hi4 : i + 4 < al.length := by omega
          have ca := (ha.cell (i + 4)).trans (listA_at al (i + 4) hi4)
          have fa := ha.frozen (i + 4)
          have HR := Lib.hid (row_step hi4 (HZ.out (i + 4) (Nat.le_refl _)) (by
            have h := HV.out
            rw [List.take_of_length_le (show ys.length ≤ 4 by omega), hnv.out] at h
            exact h))
          have hji : IntKind.i64.wrap ((i : Int) + 4) = (i : Int) + 4 := by rw [IntWalk.i64_in _ (by omega)]
          generalize al.getD (i + 4) 0 = o at ca
          clear HV
          go_wp2_with fail
          go_roundw
          case rel => exact ⟨i + 1, al.set (i + 4) c, by omega, by go_num, by rw [List.length_set]; exact hl8, hw.set _ hc, (fun t ht => by rw [set_getD _ _ _ _ (by omega)]; exact HZ.out t (by omega)), Lib.hid (by rw [HX.out]; exact HR.out), by rw [← listA_set]; exact ha.put (i + 4) _, hx.far (by simp only; omega) _, hy.far (by simp only; omega) _, hr.far (by simp only; omega) _, below_put hB (by omega) _ _⟩
          case measure => simp [intOf]; omega
    · obtain rfl : i = 4 := by omega
      rw [show ((4 : Nat) : Int) = 4 from rfl]
      have hmn : valK al = m * n := by
        have h := HV.out
        rwa [List.take_of_length_le (by omega), hmv.out] at h
      have HMN := Lib.hid hmn
      have HW := Lib.hid hw
      have hnw := (Below.refl wr.heap.size wr).alloc (Nat.le_refl _) (.cells fe0A 72)
      have hzz := Lies.new wr 72 fe0A
      have halt := ha.lt
      have hrlt2 := hr.lt
      replace ha := ha.on hnw
      replace hr := hr.on hnw
      replace hB := below_on hB hnw
      clear hw hz HV hx hy hmn hnw hma hna wm wn hml hnl hmv hnv
      go_upto_region 14 with fail
      generalize World.alloc wr _ = w2 at *
      generalize wr.heap.size = gz at *
      go_wp2_with fail
      go_loopw [10, 44] (fun cx ix wr => ∃ (i c : Nat) (ws : List Nat), i ≤ 4 ∧ ix = .int .i64 i ∧ cx = w64 c ∧ c < 18446744073709551616 ∧ ws.length = i ∧ Wd ws ∧ Hid (valK ws + 18446744073709551616 ^ i * c = valK (al.take i) + 38 * valK ((al.drop 4).take i)) ∧ Lies wr gz 72 (padA ws 4) ∧ Lies wr ga 106 ((al.map w64).toArray) ∧ Lies wr (W.heap.size + 2) 72 fe0A ∧ Below W.heap.size W wr) (fun _ ix _ => 4 - (intOf ix).toNat)
      case atStart => exact ⟨0, 0, [], by omega, rfl, rfl, by decide, rfl, (fun d hd => by cases hd), Lib.hid rfl, hzz, ha, hr, hB⟩
      case round =>
        clear hzz ha hr hB
        obtain ⟨i, c, ws, hi, rfl, rfl, hc, hl, hw, HV, hz, ha, hr, hB⟩ := hrel
        by_cases hlt2 : i < 4
        · have ca := cell_regrown ((ha.cell i).trans (listA_at al i (by omega)))
          have cb := cell_regrown ((ha.cell (i + 4)).trans (listA_at al (i + 4) (by omega)))
          have bo := HW.out.at i
          have bx := HW.out.at (i + 4)
          have HP := Lib.hid (fun x => padA_set ws 4 i x hl hlt2)
          have HA := Lib.hid (valK_take_succ al i)
          have HH : Hid (valK ((al.drop 4).take (i + 1)) = valK ((al.drop 4).take i) + 18446744073709551616 ^ i * al.getD (i + 4) 0) := Lib.hid (by
            rw [valK_take_succ, List.getD_eq_getElem?_getD, List.getElem?_drop, ← List.getD_eq_getElem?_getD, Nat.add_comm 4 i])
          have HW2 := Lib.hid hw
          clear hw
          generalize al.getD i 0 = o at *
          generalize al.getD (i + 4) 0 = x at *
          obtain ⟨q, nw, b5, b6, hsum, HM⟩ := wordTimes_any x 38 o c bx (by decide) bo hc
          have hsum' : nw + 18446744073709551616 * q = x * 38 + c + o := by rw [hsum]; omega
          have cM : ∀ d os, Calls Tryz.prog 136 #[.int .u64 (x : Int), .int .u64 38, .int .u64 (o : Int), .int .u64 (c : Int)] (grow (redrawn wr d) os) fun e w'' => e = .returned (.tuple #[.int .u64 (q : Int), .int .u64 (nw : Int)]) ∧ ∃ p : Regrown, w'' = grow (redrawn wr p.d) p.os := reg (W := wr) (fun w _ => HM w)
          have HS := Lib.hid (high_step HV.out hsum')
          have HBs := Lib.hid (And.intro b5 b6)
          have hji : IntKind.i64.wrap ((i : Int) + 4) = (i : Int) + 4 := by rw [IntWalk.i64_in _ (by omega)]
          have hii : (i : Int) < 4 := by omega
          clear hsum hsum' HM bo bx
          go_upto_region 18 with fail
          refine wp_region_below_tail 15 (by kernel_rfl) (by kernel_rfl) ?_
          simp only [List.take_succ_cons, List.take_zero, List.drop_succ_cons, List.drop_zero]
          repeat (go_big_quiet_step (with_reducible exact cM _ _))
          refine wpQuiet_nil ?_
          intro w3 hw3
          have hb : Below wr.heap.size wr w3 := by obtain ⟨⟨dq, osq⟩, rfl⟩ := hw3; exact below_regrown wr dq osq
          clear hw3 ca cb cM
          replace hr := hr.on hb
          replace ha := ha.on hb
          replace hz := hz.on hb
          replace hB := below_on hB hb
          clear hb
          have cz := (hz.cell i).trans (padA_at ws 4 i hlt2)
          have fz := hz.frozen i
          generalize (ws ++ List.replicate (4 - ws.length) 0).getD i 0 = z at cz
          go_wp2_with fail
          go_roundw
          case rel => exact ⟨i + 1, q, ws ++ [nw], by omega, by go_num, rfl, HBs.out.1, by rw [List.length_append, hl]; rfl, HW2.out.snoc HBs.out.2, Lib.hid (by rw [valK_snoc, hl, HA.out, HH.out]; exact HS.out), by rw [← HP.out]; exact hz.put i _, ha.far (by simp only; omega) _, hr.far (by simp only; omega) _, below_put hB (by omega) _ _⟩
          case measure => simp [intOf]; omega
        · obtain rfl : i = 4 := by omega
          obtain ⟨hwe, hwK⟩ := words_feA ws hl hw
          rw [padA_full ws 4 hl, hwe] at hz
          have hv := HV.out
          have hd4 : (al.drop 4).length = 4 := by rw [List.length_drop, hl8]
          rw [List.take_of_length_le (show (al.drop 4).length ≤ 4 by omega), show (18446744073709551616 : Nat) ^ 4 = K256 by decide] at hv
          have hsp := valK_append (al.take 4) (al.drop 4)
          rw [List.take_append_drop, HMN.out, List.length_take, hl8, show min 4 8 = 4 by decide, show (18446744073709551616 : Nat) ^ 4 = K256 by decide] at hsp
          have hLb := valK_lt (l := al.take 4) (fun d hd => HW.out d (List.mem_of_mem_take hd))
          have hHb := valK_lt (l := al.drop 4) (fun d hd => HW.out d (List.mem_of_mem_drop hd))
          rw [List.length_take, hl8, show min 4 8 = 4 by decide, show (18446744073709551616 : Nat) ^ 4 = K256 by decide] at hLb
          rw [hd4, show (18446744073709551616 : Nat) ^ 4 = K256 by decide] at hHb
          generalize valK (al.take 4) = Lo at hv hsp hLb
          generalize valK (al.drop 4) = Hi at hv hsp hHb
          have hc1000 : c < 1000 := by
            unfold K256 at *
            omega
          have hmod : (valK ws + c * K256) % p25 = m * n % p25 := by
            rw [Nat.mul_comm c, hv, hsp, show Lo + K256 * Hi = Lo + 38 * Hi + p25 * (2 * Hi) by unfold K256 p25; omega, Nat.add_mul_mod_self_left]
          have HF := Lib.hid (fun w hT => reduced_any (valK ws) c w hwK hc1000 hT)
          rw [hmod] at HF
          have hT := hT0.out.on hB
          obtain ⟨r, hrr⟩ : ∃ r, m * n % p25 = r := ⟨_, rfl⟩
          rw [hrr] at HF
          have HRR := Lib.hid hrr
          clear hv hsp hLb hHb hmod hwe hwK HV HMN HW hw hrr
          generalize valK ws = V at *
          go_wp2_with (first
            | ((with_reducible refine wpL_load gz 72 (feA V) 4 rowFe (feA_size _) hz ?_ ?_); rfl)
            | (go_at_call 137; refine (HF.out _ hT).mono ?_; rintro e w3 ⟨rfl, hb⟩; replace hr := hr.on hb; replace hB := below_on hB hb; clear hb)
            | ((with_reducible refine wpL_store (W.heap.size + 1 + 1) 72 _ (feA r) 4 rowFe rfl (feA_size _) (feA_one _) hr ?_ ?_ ?_); rfl; rfl))
          exact bodyPost_ret (results_row Tryz.results94 rowFe (feA_size _) (hr.row _) rfl) rfl ⟨by rw [HRR.out], below_rowSet hB (by omega) _⟩
end Go.Proofs.YtmekmlgpkbfjpaaGreatDoor.F

/- The contract of the program's Sub. -/
namespace Go.Proofs.YtmekmlgpkbfjpaaGreatDoor.F
set_option maxRecDepth 100000
open Go.RowKit Go.Sort
attribute [local irreducible] feA
/-- what is lacking while 2^256 is lent -/
def lentN (b : Bool) : Nat := if b = true then p25 - 38 else 0
theorem sub_start (m n : Nat) (hm : m < K256) (hn : n < K256) : ((m + K256 - n) % K256 + lentN (decide (m < n))) % p25 = (m + (p25 - n % p25)) % p25 ∧ (m + K256 - n) % K256 < K256 := by
  refine ⟨?_, Nat.mod_lt _ (by decide)⟩
  have h1 : n = p25 * (n / p25) + n % p25 := (Nat.div_add_mod n p25).symm
  have h2 : n % p25 < p25 := Nat.mod_lt _ p25_pos
  have h3 : n / p25 ≤ 2 := by
    unfold K256 p25 at *
    omega
  obtain ⟨q, hq⟩ : ∃ q, n / p25 = q := ⟨_, rfl⟩
  obtain ⟨r, hr⟩ : ∃ r, n % p25 = r := ⟨_, rfl⟩
  rw [hq, hr] at h1
  rw [hq] at h3
  rw [hr] at h2 ⊢
  by_cases hlt : m < n
  · rw [decide_eq_true hlt]
    have e1 : (m + K256 - n) % K256 = m + K256 - n := Nat.mod_eq_of_lt (by omega)
    rw [e1, lentN, if_pos rfl]
    have e2 : m + K256 - n + (p25 - 38) = (m + (p25 - r)) + p25 * (2 - q) := by
      have hq3 : q = 0 ∨ q = 1 ∨ q = 2 := by omega
      unfold K256 p25 at *
      rcases hq3 with rfl | rfl | rfl <;> omega
    rw [e2, Nat.add_mul_mod_self_left]
  · rw [decide_eq_false hlt]
    have e1 : (m + K256 - n) % K256 = m - n := by
      rw [show m + K256 - n = m - n + K256 by omega, Nat.add_mod_right, Nat.mod_eq_of_lt (by omega)]
    rw [e1, lentN, if_neg (by decide), Nat.add_zero]
    have e2 : m + (p25 - r) = (m - n) + p25 * (q + 1) := by
      have hq3 : q = 0 ∨ q = 1 ∨ q = 2 := by omega
      unfold K256 p25 at *
      rcases hq3 with rfl | rfl | rfl <;> omega
    rw [e2, Nat.add_mul_mod_self_left]
theorem sub_step (v : Nat) (hv : v < K256) : ((v + K256 - 38) % K256 + lentN (decide (v < 38))) % p25 = (v + lentN true) % p25 ∧ (v + K256 - 38) % K256 < K256 ∧ (v < 38 → ¬ (v + K256 - 38) % K256 < 38) := by
  have hl : lentN true = p25 - 38 := by unfold lentN; rw [if_pos rfl]
  refine ⟨?_, Nat.mod_lt _ (by decide), ?_⟩
  · rw [hl]
    by_cases h : v < 38
    · rw [decide_eq_true h, hl]
      have e1 : (v + K256 - 38) % K256 = v + K256 - 38 := Nat.mod_eq_of_lt (by omega)
      rw [e1, show v + K256 - 38 + (p25 - 38) = (v + (p25 - 38)) + p25 * 2 by unfold K256 p25; omega, Nat.add_mul_mod_self_left]
    · rw [decide_eq_false h]
      have e1 : (v + K256 - 38) % K256 = v - 38 := by
        rw [show v + K256 - 38 = v - 38 + K256 by omega, Nat.add_mod_right, Nat.mod_eq_of_lt (by omega)]
      rw [e1, lentN, if_neg (by decide), Nat.add_zero, show v + (p25 - 38) = (v - 38) + p25 by unfold p25; omega, Nat.add_mod_right]
  · intro h
    have e1 : (v + K256 - 38) % K256 = v + K256 - 38 := Nat.mod_eq_of_lt (by omega)
    rw [e1]
    unfold K256
    omega
attribute [irreducible] lentN
/-- how often it is still gone through -/
def subM (g : Nat) (b : Value) (w : World) : Nat := match b with | .bool true => if numB w g < 38 then 2 else 1 | _ => 0
theorem subM_step {g v u : Nat} {w w' : World} (hv : numB w g = v) (hu : numB w' g = u) (h : v < 38 → ¬ u < 38) : subM g (.bool (decide (v < 38))) w' < subM g (.bool true) w := by
  by_cases h1 : v < 38
  · rw [decide_eq_true h1]
    show (if numB w' g < 38 then 2 else 1) < (if numB w g < 38 then 2 else 1)
    rw [hv, hu, if_pos h1, if_neg (h h1)]
    decide
  · rw [decide_eq_false h1]
    show 0 < (if numB w g < 38 then 2 else 1)
    rw [hv, if_neg h1]
    decide

set_option maxRecDepth 100000 in
set_option maxHeartbeats 800000 in
theorem sub_any (m n : Nat) (W : World) (hm : m < K256) (hn : n < K256) (hT : Tab W) :
    Calls Tryz.prog 95 #[fe m, fe n] W fun e w' => e = .returned (fe ((m + (p25 - n % p25)) % p25)) ∧ Below W.heap.size W w' := by
  have HP := Lib.hid (fun w => minus_words m n w hm hn)
  have HS0 := Lib.hid (sub_start m n hm hn)
  obtain ⟨T, hTT⟩ : ∃ T, (m + (p25 - n % p25)) % p25 = T := ⟨_, rfl⟩
  obtain ⟨y, hy⟩ : ∃ y, (m + K256 - n) % K256 = y := ⟨_, rfl⟩
  obtain ⟨b0, hb0⟩ : ∃ b0, decide (m < n) = b0 := ⟨_, rfl⟩
  have HTp : Hid (T < p25) := Lib.hid (by rw [← hTT]; exact Nat.mod_lt _ p25_pos)
  rw [hTT] at HS0 ⊢
  rw [hy, hb0] at HS0 HP
  clear hTT hy hb0
  have hT0 := Lib.hid hT
  clear hT
  go_enter Tryz.func95, Tryz.ntmps95
  have hx := ((Lies.new W 72 (feA m)).alloc (.cells (feA n) 72)).alloc (.cells fe0A 72)
  have hy : Lies ((W.alloc (.cells (feA m) 72)).alloc (.cells (feA n) 72)) (W.heap.size + 1) 72 (feA n) := heap_alloc2_new W _ _
  replace hy := hy.alloc (.cells fe0A 72)
  have hr := lies3 W (.cells (feA m) 72) (.cells (feA n) 72) 72 fe0A
  have hB := (((Below.refl W.heap.size W).alloc (Nat.le_refl _) (.cells (feA m) 72)).alloc (by simp) (.cells (feA n) 72)).alloc (by simp; omega) (.cells fe0A 72)
  go_upto_region 1 with fail
  generalize World.alloc (World.alloc (World.alloc W _) _) _ = w0 at *
  go_upto_region 2 with (first
    | ((with_reducible refine wpL_load W.heap.size 72 (feA m) 4 rowFe (feA_size _) hx ?_ ?_); rfl)
    | ((with_reducible refine wpL_load (W.heap.size + 1) 72 (feA n) 4 rowFe (feA_size _) hy ?_ ?_); rfl)
    | (go_at_call 135; refine (HP.out _).mono ?_; rintro e w1 ⟨rfl, hb⟩; replace hr := hr.on hb; replace hB := below_on hB hb; clear hb)
    | ((with_reducible refine wpL_store w1.heap.size 72 _ (feA y) 4 rowFe ?_ (feA_size _) (feA_one _) (Lies.new w1 _ _) ?_ ?_ ?_); rfl; rfl; rfl))
  have hz := newly_lies w1 72 fe0A (feA y)
  have hnw := newly w1 (.cells fe0A 72) (feA y)
  have hgz : W.heap.size + 2 < w1.heap.size := hr.lt
  replace hr := hr.on hnw
  replace hB := below_on hB hnw
  clear hnw HP
  generalize World.setRow _ _ _ = w2 at *
  generalize w1.heap.size = gz at *
  clear hx hy hm hn
  go_loopw [6] (fun bx wr => ∃ (v : Nat) (b : Bool), bx = .bool b ∧ v < K256 ∧ Hid ((v + lentN b) % p25 = T) ∧ Lies wr gz 72 (feA v) ∧ Lies wr (W.heap.size + 2) 72 fe0A ∧ Below W.heap.size W wr) (fun bx wr => subM gz bx wr)
  case atStart => exact ⟨y, b0, rfl, HS0.out.2, Lib.hid HS0.out.1, hz, hr, hB⟩
  case round =>
    clear hz hr hB
    obtain ⟨v, b, rfl, hv, HV, hz, hr, hB⟩ := hrel
    cases b
    · have HL := Lib.hid (fun w hT => least_any v w hv hT)
      have hvT : v % p25 = T := by
        have h := HV.out
        rw [show lentN false = 0 by unfold lentN; rfl, Nat.add_zero] at h
        exact h
      rw [hvT] at HL
      clear HV hvT
      have hT := hT0.out.on hB
      go_wp2_with (first
        | ((with_reducible refine wpL_load gz 72 (feA v) 4 rowFe (feA_size _) hz ?_ ?_); rfl)
        | (go_at_call 93; refine (HL.out _ hT).mono ?_; rintro e w3 ⟨rfl, hb⟩; replace hr := hr.on hb; replace hB := below_on hB hb; clear hb)
        | ((with_reducible refine wpL_store (W.heap.size + 1 + 1) 72 _ (feA T) 4 rowFe rfl (feA_size _) (feA_one _) hr ?_ ?_ ?_); rfl; rfl))
      exact bodyPost_ret (results_row Tryz.results95 rowFe (feA_size _) (hr.row _) rfl) rfl ⟨rfl, below_rowSet hB (by omega) _⟩
    · have hnb := hz.numB hv
      have HSt := Lib.hid (sub_step v hv)
      have HM := Lib.hid (fun w => minus_words v 38 w hv (by decide))
      obtain ⟨u, hu⟩ : ∃ u, (v + K256 - 38) % K256 = u := ⟨_, rfl⟩
      obtain ⟨c, hc⟩ : ∃ c, decide (v < 38) = c := ⟨_, rfl⟩
      rw [hu] at HSt HM
      rw [hc] at HM
      have hR : (u + lentN c) % p25 = T := by rw [← hc, HSt.out.1]; exact HV.out
      have HR := Lib.hid hR
      have HO : ∀ w, Calls Tryz.prog 96 #[.int .u64 38] w fun e w' => e = .returned (fe 38) ∧ Below w.heap.size w w' := fun w => of_any 38 w (by decide)
      have HMs : Hid (∀ w', numB w' gz = u → subM gz (.bool c) w' < subM gz (.bool true) wr) := Lib.hid (fun w' h => by rw [← hc]; exact subM_step hnb h HSt.out.2.2)
      have HuK := Lib.hid HSt.out.2.1
      obtain ⟨a0, a1, a2, a3, ha⟩ := fe_four v
      have e1 : fe v = .agg #[w64 a0, w64 a1, w64 a2, w64 a3] := by rw [fe, ha]
      have hz' := hz
      rw [ha] at hz'
      rw [e1] at HM
      clear hu hc hR HV HSt e1 ha
      obtain ⟨z0, z1, z2, z3⟩ := hz'.four
      have hwlt := hz.lt
      replace hz := hz.drew
      replace hr := hr.drew
      replace hB := hB.drew
      go_upto_region 3 with fail
      go_region_with (first
        | (go_at_call 96; refine (HO _).mono ?_; rintro e w3 ⟨rfl, hb⟩; replace hz := hz.on hb; replace hz' := (hz'.drew).on hb; replace hr := hr.on hb; replace hB := below_on hB hb; clear hb z0 z1 z2 z3; obtain ⟨z0, z1, z2, z3⟩ := hz'.four)
        | (go_at_call 135; refine (HM.out _).mono ?_; rintro e w4 ⟨rfl, hb⟩; replace hz := hz.on hb; replace hr := hr.on hb; replace hB := below_on hB hb; clear hb; have hst := hz.storeFe u (feA_size _); have hsz := feA_size u))
      all_goals
        simp only [List.getElem_toArray, List.getElem_cons_succ, List.getElem_cons_zero, Act.put, List.setIfInBounds_toArray, List.set_cons_succ, List.set_cons_zero]
        go_wp2_with fail
        go_roundw
        case rel => exact ⟨u, c, rfl, HuK.out, HR, hz.row _, hr.rowFar (by omega) _, below_rowSet hB (by omega) _⟩
        case measure =>
          exact HMs.out _ ((hz.row (feA u)).numB HuK.out)
end Go.Proofs.YtmekmlgpkbfjpaaGreatDoor.F

