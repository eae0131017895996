/- The contracts of the reference's times and above: numbers of digits. -/
import Derived.Test.YtmebiidgeaalpaaDoorTOwn
import Derived.Test.YtmebiidgeaalpaaDoorTDigits
import Derived.Deep.CutRange
import Derived.Laws.Bits64
namespace Go.Proofs.YtmebiidgeaalpaaDoor.T
open Go.RowKit

theorem info27 : (Tryd.prog.info? 25).map (fun i => (i.zero, i.size, i.bytes)) = some (some (.int .u64 0), 1, 8) := by kernel_rfl

theorem inner_carry (a b : List Nat) (i : Nat) (out : List Nat) (k : Nat) : (innerL a b i out k).2 < 18446744073709551616 := by
  cases k with
  | zero => show 0 < _; decide
  | succ k => simp only [innerL]; omega

/-! ### rows of them in memory -/
/-- digits lie there -/
def Digs (w : World) (g : Nat) (l : List Nat) : Prop := ∀ i, i < l.length → w.cell? ⟨g, i, none⟩ = some (w64 (l.getD i 0))
theorem Digs.on {w w' : World} {g : Nat} {l : List Nat} (h : Digs w g l) (hb : Below w.heap.size w w') : Digs w' g l := fun i hi => by
  have h1 := h i hi
  exact (hb.cell (p := ⟨g, i, none⟩) (World.block_lt_of_cell? w _ h1)).trans h1
theorem own_dig {w : World} {B g n cap : Nat} {e : TypeId} {l : List Nat} (h : w.ownsRow B e 1 (.slice (some ⟨g, 0, none⟩) n cap) n (l.map w64)) : Digs w g l := fun i hi => by
  have hn : l.length = n := by simpa using h.1
  rw [h.cellAt i (by omega), List.getElem?_map, List.getElem?_eq_getElem hi, List.getD_eq_getElem?_getD, List.getElem?_eq_getElem hi]
  rfl
theorem own_put {w : World} {B g n cap : Nat} {e : TypeId} {l : List Nat} (h : w.ownsRow B e 1 (.slice (some ⟨g, 0, none⟩) n cap) n (l.map w64)) (j x : Nat) :
    (w.setCell ⟨g, j, none⟩ (w64 x)).ownsRow B e 1 (.slice (some ⟨g, 0, none⟩) n cap) n ((l.set j x).map w64) := by
  rw [List.map_set]
  exact (h.stored j _).1
theorem step_s (C O M : Nat) : IntKind.u64.wrap (IntKind.u64.wrap ((C : Int) + (O : Int)) + IntKind.u64.wrap (M : Int)) = (((C + O + M) % 18446744073709551616 : Nat) : Int) := by
  rw [IntKind.wrap_u64, IntKind.wrap_u64, IntKind.wrap_u64]
  omega
theorem step_q (C O M : Nat) : IntKind.u64.wrap ((IntKind.u64.wrap (IntKind.u64.wrap ((C : Int) + (O : Int)) + IntKind.u64.wrap (M : Int))).tdiv 65536) = (((C + O + M) % 18446744073709551616 / 65536 : Nat) : Int) := by
  rw [step_s, Int.tdiv_eq_ediv_of_nonneg (by omega), IntKind.wrap_u64]
  omega
theorem step_r (C O M : Nat) : (IntKind.u64.wrap (IntKind.u64.wrap ((C : Int) + (O : Int)) + IntKind.u64.wrap (M : Int))).tmod 65536 = (((C + O + M) % 18446744073709551616 % 65536 : Nat) : Int) := by
  rw [step_s, Int.tmod_eq_emod_of_nonneg (by omega)]
  omega
theorem own_putv {w : World} {B g n cap : Nat} {e : TypeId} {l : List Nat} (h : w.ownsRow B e 1 (.slice (some ⟨g, 0, none⟩) n cap) n (l.map w64)) (j x : Nat) (v : Value) (hv : v = w64 x) :
    (w.setCell ⟨g, j, none⟩ v).ownsRow B e 1 (.slice (some ⟨g, 0, none⟩) n cap) n ((l.set j x).map w64) := by
  rw [hv]
  exact own_put h j x
theorem made_zeros (n : Nat) : (madeCells #[Value.int .u64 0] n).toList = (List.replicate n 0).map w64 := by
  rw [List.map_replicate, toList_madeCells_one]
  rfl
theorem getD_past {l : List Nat} {i : Nat} (h : ¬ i < l.length) : l.getD i 0 = 0 := by
  rw [List.getD_eq_getElem?_getD, List.getElem?_eq_none (by omega)]
  rfl

set_option maxRecDepth 100000 in
set_option maxHeartbeats 1600000 in
theorem times_any (a b : List Nat) (ga gb ca cb : Nat) (W : World) (ha : Digs W ga a) (hb : Digs W gb b) (hla : a.length ≤ 100) (hlb : b.length ≤ 100) :
    Calls Tryd.prog 35 #[.slice (some ⟨ga, 0, none⟩) a.length ca, .slice (some ⟨gb, 0, none⟩) b.length cb] W fun e W' => ∃ g cap, e = .returned (.slice (some ⟨g, 0, none⟩) (a.length + b.length) cap) ∧ W.heap.size ≤ g ∧ Digs W' g (timesL a b) ∧ Below W.heap.size W W' := by
  obtain ⟨i0, hi, hz0, hz1, hz2⟩ := info_parts info27
  go_enter Tryd.func35, Tryd.ntmps35
  go_wp2_with (at_make; refine wpList_make_full _ rfl _ _ 31 rfl W.heap.size 25 i0 (.int .u64 0) 1 Tryd.underlying31 hi hz0 hz1 _ _ _ _ (a.length + b.length) rfl rfl ?e1 ?e2 ?b2 ?b3 (Nat.le_refl _) ?_)
  case e1 => omega
  case e2 => omega
  case b2 => rw [hz2]; omega
  case b3 => unfold maxLen; omega
  intro w1 hown hgrow
  have hb1 : Below W.heap.size W w1 := (Below.refl _ _).grown hgrow (Nat.le_refl _) (fun k hk => by cases hk)
  rw [made_zeros] at hown
  clear hgrow
  go_wp2_with fail
  go_loopw [17] (fun ix wr => ∃ i : Nat, i ≤ a.length ∧ ix = .int .i64 i ∧ wr.ownsRow W.heap.size 25 1 (.slice (some ⟨W.heap.size, 0, none⟩) (a.length + b.length) (a.length + b.length)) (a.length + b.length) ((outerL a b i).map w64) ∧ Below W.heap.size W wr) (fun ix _ => a.length - (intOf ix).toNat)
  case atStart => exact ⟨0, Nat.zero_le _, rfl, hown, hb1⟩
  case round =>
    clear hown hb1
    obtain ⟨i, hi1, rfl, ho, hB⟩ := hrel
    by_cases hlt : i < a.length
    · go_wp2_with fail
      go_loopw [7, 22] (fun c kx wv => ∃ k : Nat, k ≤ b.length ∧ kx = .int .i64 k ∧ c = w64 (innerL a b i (outerL a b i) k).2 ∧ wv.ownsRow W.heap.size 25 1 (.slice (some ⟨W.heap.size, 0, none⟩) (a.length + b.length) (a.length + b.length)) (a.length + b.length) ((innerL a b i (outerL a b i) k).1.map w64) ∧ Below W.heap.size W wv) (fun _ kx _ => b.length - (intOf kx).toNat)
      case atStart => exact ⟨0, Nat.zero_le _, rfl, rfl, ho, hB⟩
      case round =>
        clear ho hB
        obtain ⟨k, hk1, rfl, rfl, ho, hB⟩ := hrel
        have hcar := inner_carry a b i (outerL a b i) k
        by_cases hltk : k < b.length
        · have hlen : i + k < (innerL a b i (outerL a b i) k).1.length := by rw [inner_length, outer_length]; omega
          have hO := own_dig ho (i + k) hlen
          have hF := ho.frozenAt (i + k)
          have hX := (ha.on (hB.mono (Nat.le_refl _))) i hlt
          have hY := (hb.on (hB.mono (Nat.le_refl _))) k hltk
          have HS : Hid (innerL a b i (outerL a b i) (k + 1) = ((innerL a b i (outerL a b i) k).1.set (i + k) (((innerL a b i (outerL a b i) k).2 + (innerL a b i (outerL a b i) k).1.getD (i + k) 0 + a.getD i 0 * b.getD k 0) % 18446744073709551616 % 65536), ((innerL a b i (outerL a b i) k).2 + (innerL a b i (outerL a b i) k).1.getD (i + k) 0 + a.getD i 0 * b.getD k 0) % 18446744073709551616 / 65536)) := Lib.hid rfl
          have HO := Lib.hid ho
          clear ho hlen
          obtain ⟨m, hm⟩ : ∃ m, i + k = m := ⟨_, rfl⟩
          have e1 : IntKind.i64.wrap ((i : Int) + (k : Int)) = (m : Int) := by rw [IntWalk.i64_in _ (by omega)]; omega
          have b1 : (m : Int) < (a.length : Int) + (b.length : Int) := by omega
          rw [hm] at hO hF HS
          have hcast : (i : Int) + (k : Int) = (m : Int) := by omega
          generalize (innerL a b i (outerL a b i) k).1.getD m 0 = O at hO HS
          generalize a.getD i 0 = X at hX HS
          generalize b.getD k 0 = Y at hY HS
          obtain ⟨M, hM⟩ : ∃ M, X * Y = M := ⟨_, rfl⟩
          have eM : (X : Int) * (Y : Int) = (M : Int) := by rw [← hM]; omega
          rw [hM] at HS
          clear hM
          generalize (innerL a b i (outerL a b i) k).2 = C at *
          go_wp2_with fail
          go_quiet (fail)
          go_wp2_with fail
          go_roundw
          case rel =>
            refine ⟨k + 1, by omega, by go_num, val_int ?_, ?_, (below_drawn hB nq).setCell (p := ⟨W.heap.size, m, none⟩) (Nat.le_refl _) _⟩
            · rw [HS.out]
              exact step_q C O M
            · rw [HS.out]
              exact own_putv (w := wr.drewN nq) HO.out m _ _ (val_int (step_r C O M))
          case measure => simp [intOf]; omega
        · obtain rfl : k = b.length := by omega
          have hlen : i + b.length < (innerL a b i (outerL a b i) b.length).1.length := by rw [inner_length, outer_length]; omega
          have hO := own_dig ho (i + b.length) hlen
          have hF := ho.frozenAt (i + b.length)
          have HS : Hid (outerL a b (i + 1) = (innerL a b i (outerL a b i) b.length).1.set (i + b.length) (innerL a b i (outerL a b i) b.length).2) := Lib.hid rfl
          have HO := Lib.hid ho
          clear ho hlen
          obtain ⟨m, hm⟩ : ∃ m, i + b.length = m := ⟨_, rfl⟩
          have e1 : IntKind.i64.wrap ((i : Int) + (b.length : Int)) = (m : Int) := by rw [IntWalk.i64_in _ (by omega)]; omega
          have b1 : (m : Int) < (a.length : Int) + (b.length : Int) := by omega
          rw [hm] at hO hF HS
          have hcast : (i : Int) + (b.length : Int) = (m : Int) := by omega
          generalize (innerL a b i (outerL a b i) b.length).2 = C at *
          go_wp2_with fail
          go_roundw
          case rel =>
            refine ⟨i + 1, by omega, by go_num, ?_, hB.setCell (p := ⟨W.heap.size, m, none⟩) (Nat.le_refl _) _⟩
            rw [HS.out]
            exact own_putv HO.out m _ _ rfl
          case measure => simp [intOf]; omega
    · obtain rfl : i = a.length := by omega
      go_wp2_with fail
      go_ret
      exact ⟨_, _, rfl, Nat.le_refl _, own_dig ho, hB⟩

set_option maxRecDepth 100000 in
set_option maxHeartbeats 1600000 in
theorem above_any (a b : List Nat) (ga gb ca cb : Nat) (W : World) (ha : Digs W ga a) (hb : Digs W gb b) (hla : a.length ≤ 100) (hlb : b.length ≤ 100) :
    Calls Tryd.prog 36 #[.slice (some ⟨ga, 0, none⟩) a.length ca, .slice (some ⟨gb, 0, none⟩) b.length cb] W fun e W' => e = .returned (.bool (aboveL a b (a.length + b.length))) ∧ W' = W := by
  go_enter Tryd.func36, Tryd.ntmps36
  go_wp2
  go_loopw [5] (fun ix wr => ∃ n : Nat, n ≤ a.length + b.length ∧ ix = .int .i64 ((n : Int) - 1) ∧ Hid (aboveL a b (a.length + b.length) = aboveL a b n) ∧ wr = W) (fun ix _ => (intOf ix + 1).toNat)
  case atStart => exact ⟨_, Nat.le_refl _, val_int (by omega), Lib.hid rfl, rfl⟩
  case round =>
    obtain ⟨n, hn, rfl, HA, rfl⟩ := hrel
    by_cases h0 : 0 < n
    · obtain ⟨m, rfl⟩ : ∃ m, n = m + 1 := ⟨n - 1, by omega⟩
      have em : ((m + 1 : Nat) : Int) - 1 = (m : Int) := by omega
      rw [em]
      have HS : Hid (aboveL a b (m + 1) = if a.getD m 0 = b.getD m 0 then aboveL a b m else decide (b.getD m 0 < a.getD m 0)) := Lib.hid rfl
      by_cases h1 : m < a.length <;> by_cases h2 : m < b.length
      · have hX := ha m h1
        have hY := hb m h2
        generalize a.getD m 0 = X at hX HS
        generalize b.getD m 0 = Y at hY HS
        by_cases hxy : X = Y
        · subst hxy
          go_wp2
          go_roundw
          case rel => exact ⟨m, by omega, rfl, Lib.hid (by rw [HA.out, HS.out, if_pos rfl]), trivial⟩
          case measure => simp [intOf]
        · have hxy2 : ¬ (X : Int) = (Y : Int) := by omega
          go_wp2
          go_ret
          exact ⟨ret1_of (by rw [HA.out, HS.out, if_neg hxy]; simp), rfl⟩
      · have hX := ha m h1
        rw [getD_past h2] at HS
        generalize a.getD m 0 = X at hX HS
        by_cases hxy : X = 0
        · subst hxy
          go_wp2
          go_roundw
          case rel => exact ⟨m, by omega, rfl, Lib.hid (by rw [HA.out, HS.out, if_pos rfl]), trivial⟩
          case measure => simp [intOf]
        · have hxy2 : ¬ (X : Int) = 0 := by omega
          go_wp2
          go_ret
          exact ⟨ret1_of (by rw [HA.out, HS.out, if_neg hxy]; simp), rfl⟩
      · have hY := hb m h2
        rw [getD_past h1] at HS
        generalize b.getD m 0 = Y at hY HS
        by_cases hxy : 0 = Y
        · subst hxy
          go_wp2
          go_roundw
          case rel => exact ⟨m, by omega, rfl, Lib.hid (by rw [HA.out, HS.out, if_pos rfl]), trivial⟩
          case measure => simp [intOf]
        · have hxy2 : ¬ (0 : Int) = (Y : Int) := by omega
          go_wp2
          go_ret
          exact ⟨ret1_of (by rw [HA.out, HS.out, if_neg hxy]; simp), rfl⟩
      · rw [getD_past h1, getD_past h2] at HS
        go_wp2
        go_roundw
        case rel => exact ⟨m, by omega, rfl, Lib.hid (by rw [HA.out, HS.out, if_pos rfl]), trivial⟩
        case measure => simp [intOf]
    · obtain rfl : n = 0 := by omega
      go_wp2
      go_ret
      exact ⟨ret1_of (by rw [HA.out]; rfl), rfl⟩
end Go.Proofs.YtmebiidgeaalpaaDoor.T
