/- Rows of texts in memory: what a slice of strings reads as; the contracts of the calls that only read such rows. -/
import Derived.Test.YtckamablodhecaaBase
import Derived.Test.YtckamablodhecaaRowsMath
import Derived.Deep.QuietTactic
import Derived.BigQuiet
namespace Go.Proofs.Ytckamablodhecaa
open Go.RowKit

def str (x : List UInt8) : Value := .string ⟨x.toArray⟩
/-- the slice value v reads as the texts l -/
def Strs (w : World) (v : Value) (l : List (List UInt8)) : Prop :=
  ∃ a c, v = .slice a l.length c ∧ l.length ≤ c ∧ c ≤ maxLen ∧ (a = none → c = 0) ∧ (l ≠ [] → ∃ b off, a = some ⟨b, off, none⟩ ∧ ∀ i x, l[i]? = some x → w.cell? ⟨b, off + i, none⟩ = some (str x))

theorem Strs.nil (w : World) : Strs w (.slice none 0 0) [] := ⟨none, 0, rfl, Nat.le_refl _, Nat.zero_le _, fun _ => rfl, fun h => absurd rfl h⟩
theorem Strs.below {w w' : World} {v : Value} {l : List (List UInt8)} (h : Strs w v l) (hb : Below w.heap.size w w') : Strs w' v l := by
  obtain ⟨a, c, hv, hc, hm, hn, hl⟩ := h
  refine ⟨a, c, hv, hc, hm, hn, fun hne => ?_⟩
  obtain ⟨b, off, ha, hx⟩ := hl hne
  refine ⟨b, off, ha, fun i x hi => ?_⟩
  have h1 := hx i x hi
  rw [hb.cell (p := ⟨b, off + i, none⟩) (World.block_lt_of_cell? w _ h1)]
  exact h1
theorem Strs.owned {w : World} {B n : Nat} {v : Value} {l : List (List UInt8)} (h : w.ownsRow B 9 1 v n (l.map str)) : Strs w v l := by
  have hn : l.length = n := by have := h.1; simpa using this
  subst hn
  have h0 := h
  rcases h.2 with ⟨rfl, e⟩ | ⟨g, cap, cur, rfl, _, _, hcap, hmax, _⟩
  · have : l = [] := List.eq_nil_of_length_eq_zero (by omega)
    subst this
    exact Strs.nil w
  · refine ⟨some ⟨g, 0, none⟩, cap, rfl, hcap, hmax, (fun e => by cases e), fun _ => ⟨g, 0, rfl, fun i x hi => ?_⟩⟩
    rw [Nat.zero_add, h0.cellAt i (by have := (List.getElem?_eq_some_iff.1 hi).1; omega)]
    simp [hi]

theorem str_size (x : List UInt8) : ({ data := x.toArray } : ByteArray).size = x.length := by simp [ByteArray.size]

set_option maxHeartbeats 800000 in
/-- is there room? -/
theorem fit_any (w : World) (v : Value) (l : List (List UInt8)) (hl : Strs w v l) (hx : ∀ x ∈ l, x.length ≤ 1000000) :
    Calls Try.prog 26 #[v] w fun e w' => e = .returned (.bool (fitR 65536 l)) ∧ w = w' := by
  obtain ⟨a, c, rfl, hc, hm, hn, hl⟩ := hl
  unfold maxLen at hm
  go_enter Try.func26, Try.ntmps26
  go_wp2
  go_loop [3, 8] (fun r i => ∃ (k : Nat) (room : Int), k ≤ l.length ∧ i = .int .i64 k ∧ r = .int .i64 room ∧ 0 ≤ room ∧ room ≤ 65536 ∧ Hid (fitR 65536 l = fitR room (l.drop k))) (fun _ i => l.length - (intOf i).toNat)
  case atStart => exact ⟨0, 65536, Nat.zero_le _, rfl, rfl, by omega, by omega, rfl⟩
  case round =>
    obtain ⟨k, room, hk, rfl, rfl, h0, h1, HF⟩ := hrel
    by_cases hlt : k < l.length
    · obtain ⟨b, off, rfl, hcell⟩ := hl (by intro h; subst h; simp at hlt)
      obtain ⟨x, hxk⟩ : ∃ x, l[k]? = some x := ⟨l[k], List.getElem?_eq_getElem hlt⟩
      have hc1 := hcell k x hxk
      have hxl := hx x (List.mem_of_getElem? hxk)
      have hdr : l.drop k = x :: l.drop (k + 1) := by rw [List.drop_eq_getElem_cons hlt]; congr 1; exact (List.getElem?_eq_some_iff.1 hxk).2
      have HD := Lib.hid hdr
      clear hdr hxk hcell
      unfold str at hc1
      by_cases hr : room - 4 < (x.length : Int)
      · go_wp2
        go_ret
        exact ⟨ret1_of (by rw [HF.out, HD.out, fitR, if_pos hr]; rfl), rfl⟩
      · go_wp2
        go_round
        case rel => exact ⟨k + 1, _, by omega, by go_num, rfl, by omega, by omega, Lib.hid (HF.out.trans (by rw [HD.out, fitR, if_neg hr]))⟩
        case measure => simp [intOf]; omega
    · go_wp2
      go_ret
      exact ⟨ret1_of (by rw [HF.out, List.drop_of_length_le (by omega)]; rfl), rfl⟩

set_option maxHeartbeats 800000 in
/-- are two rows the same? -/
theorem same_any (w : World) (v u : Value) (l m : List (List UInt8)) (hl : Strs w v l) (hm : Strs w u m) :
    Calls Try.prog 23 #[v, u] w fun e w' => e = .returned (.bool (decide (l = m))) ∧ Below w.heap.size w w' := by
  obtain ⟨a, c, rfl, hc, hcm, hn, hl⟩ := hl
  obtain ⟨a', c', rfl, hc', hcm', hn', hm⟩ := hm
  unfold maxLen at hcm hcm'
  by_cases hlen : l.length = m.length
  · have hne : ((l.length : Int) != (m.length : Int)) = false := by simp; omega
    have HL := Lib.hid hlen
    clear hlen
    go_enter Try.func23, Try.ntmps23
    go_wp2
    go_loopw [13] (fun i wr => ∃ k : Nat, k ≤ l.length ∧ i = .int .i64 k ∧ Hid (l.take k = m.take k) ∧ Below w.heap.size w wr) (fun i _ => l.length - (intOf i).toNat)
    case atStart => exact ⟨0, Nat.zero_le _, rfl, rfl, Below.refl _ _⟩
    case round =>
      obtain ⟨k, hk, rfl, HT, hb⟩ := hrel
      by_cases hlt : k < l.length
      · have hltm : k < m.length := by have := HL.out; omega
        obtain ⟨b, off, rfl, hcell⟩ := hl (by intro h; subst h; simp at hlt)
        obtain ⟨b', off', rfl, hcell'⟩ := hm (by intro h; subst h; simp at hltm)
        obtain ⟨x, hxk⟩ : ∃ x, l[k]? = some x := ⟨l[k], List.getElem?_eq_getElem hlt⟩
        obtain ⟨y, hyk⟩ : ∃ y, m[k]? = some y := ⟨m[k], List.getElem?_eq_getElem hltm⟩
        have g1 := hcell k x hxk
        have g2 := hcell' k y hyk
        have hc1 : wr.cell? ⟨b, off + k, none⟩ = some (.string ⟨x.toArray⟩) := (hb.cell (p := ⟨b, off + k, none⟩) (World.block_lt_of_cell? w _ g1)).trans g1
        have hc2 : wr.cell? ⟨b', off' + k, none⟩ = some (.string ⟨y.toArray⟩) := (hb.cell (p := ⟨b', off' + k, none⟩) (World.block_lt_of_cell? w _ g2)).trans g2
        have e0 : (0 : Int) ≤ (k : Int) := by omega
        have e1 : (k : Int) < (l.length : Int) := by omega
        have e2 : (k : Int) < (m.length : Int) := by omega
        have HX := Lib.hid hxk
        have HY := Lib.hid hyk
        clear hxk hyk hcell hcell' g1 g2 hl hm
        go_wp2_with fail
        go_quiet (fail)
        by_cases hxy : x = y
        · subst hxy
          go_wp2
          · rename_i h
            simp at h
          · go_roundw
            case rel => exact ⟨k + 1, by omega, by go_num, Lib.hid (by rw [List.take_add_one, List.take_add_one, HX.out, HY.out, HT.out]), below_drewN hb _⟩
            case measure => simp [intOf]; omega
        · have HN := Lib.hid (show decide (l = m) = false by simp; intro h; subst h; exact hxy (Option.some.inj (HX.out.symm.trans HY.out)))
          have HQ := Lib.hid hxy
          clear hxy
          go_wp2
          · go_ret
            exact ⟨ret1_of (by rw [HN.out]; rfl), below_drewN hb _⟩
          · rename_i h
            simp at h
            exact absurd h HQ.out
      · have HN := Lib.hid (show decide (l = m) = true by
          have h1 := HT.out
          rw [List.take_of_length_le (by omega), List.take_of_length_le (by have := HL.out; omega)] at h1
          simp [h1])
        go_wp2
        go_ret
        exact ⟨ret1_of (by rw [HN.out]; rfl), hb⟩
  · have hne : ((l.length : Int) != (m.length : Int)) = true := by simp; omega
    have hd : decide (l = m) = false := by simp; intro h; rw [h] at hlen; exact hlen rfl
    rw [hd]
    go_enter Try.func23, Try.ntmps23
    go_wp2
    go_ret
    exact ⟨rfl, Below.refl _ _⟩
end Go.Proofs.Ytckamablodhecaa
