/- The contract of the program's Sum: the sum of parts, one behind the other. -/
import Derived.Test.YtmebiidgeaalpaaDoorTWrite
import Derived.Test.YtmebiidgeaalpaaDoorStrs
namespace Go.Proofs.YtmebiidgeaalpaaDoor.T
open Go.RowKit

theorem bytes_size (l : List UInt8) : (bytesOf l).size = l.length := by rw [Lib.size_eq]; rfl
theorem take_flat {l : List (List UInt8)} {k : Nat} {x : List UInt8} (h : l[k]? = some x) : (l.take (k + 1)).flatten = (l.take k).flatten ++ x := by
  rw [List.take_add_one, h, Option.toList_some, List.flatten_append, List.flatten_singleton]
theorem flat_le (l : List (List UInt8)) (k : Nat) : (l.take k).flatten.length ≤ l.flatten.length := by
  have e : l.flatten = (l.take k).flatten ++ (l.drop k).flatten := by rw [← List.flatten_append, List.take_append_drop]
  rw [e, List.length_append]
  omega

set_option maxHeartbeats 800000 in
theorem sum_any (w : World) (v : Value) (l : List (List UInt8)) (hl : Strs w v l) (hx : l.flatten.length ≤ 1000000000) (hT : Tab w) :
    Calls Tryd.prog 8 #[v] w fun e w' => e = .returned (.string (bytesOf (sumT l.flatten))) ∧ Below w.heap.size w w' := by
  have h2 := hT.two
  have HT := Lib.hid hT
  clear hT
  obtain ⟨a, c, rfl, hc, hm, hn, hl⟩ := hl
  unfold maxLen at hm
  go_enter Tryd.func8, Tryd.ntmps8
  go_wp2_with (first | (go_at_call 10; refine (new_any _ HT.out).mono ?_; rintro e w1 ⟨rfl, hb1⟩) | (go_at_call 24; refine (workOn_any h0 noBytes 0 _).mono ?_; rintro e w2 ⟨g, rfl, hg1, hl1, hb2⟩; replace hb2 := below_on hb1 hb2; have hgw : w.heap.size ≤ g := Nat.le_trans hb1.size hg1; clear hb1 hg1))
  go_loopw [10] (fun i wr => ∃ k : Nat, k ≤ l.length ∧ i = .int .i64 k ∧ Lies wr g 58 (sumA (feed h0 (l.take k).flatten) (bytesOf (tailB (l.take k).flatten)) (l.take k).flatten.length) ∧ Below w.heap.size w wr) (fun i _ => l.length - (intOf i).toNat)
  case atStart => exact ⟨0, Nat.zero_le _, rfl, by rw [List.take_zero, List.flatten_nil, feed_short _ _ (by decide), tail_short _ (by decide)]; exact hl1, hb2⟩
  case round =>
    clear hl1 hb2
    obtain ⟨k, hk, rfl, hli, hb⟩ := hrel
    have hB := hb.size
    have htl : (bytesOf (tailB (l.take k).flatten)).size < 128 := by rw [bytes_size, tail_length]; exact Nat.mod_lt _ (by decide)
    have hle := flat_le l k
    by_cases hlt : k < l.length
    · obtain ⟨b, off, rfl, hcell⟩ := hl (by intro h; subst h; simp at hlt)
      obtain ⟨x, hxk⟩ : ∃ x, l[k]? = some x := ⟨l[k], List.getElem?_eq_getElem hlt⟩
      have g1 := hcell k x hxk
      have hc1 : wr.cell? ⟨b, off + k, none⟩ = some (.string ⟨x.toArray⟩) := (hb.cell (p := ⟨b, off + k, none⟩) (World.block_lt_of_cell? w _ g1)).trans g1
      have hle2 := flat_le l (k + 1)
      have HF := Lib.hid (take_flat hxk)
      rw [HF.out, List.length_append] at hle2
      have HK := Lib.hid (take_any g _ _ (bytesOf x) _ wr htl (by rw [bytes_size]; omega) (by rw [bytes_size]; omega) (by omega) (HT.out.below hb) hli (feed_ok' h0_ok _))
      clear hxk hcell g1 hl
      go_wp2_with (go_at_call 25; refine HK.out.mono ?_; rintro e w3 ⟨rfl, hl3, hO3⟩)
      go_roundw
      case rel => exact ⟨k + 1, by omega, by go_num, by rw [HF.out, feed_append _ _ _ _ (Nat.le_refl _), tail_append _ _ _ (Nat.le_refl _), List.length_append, ← bytes_size x]; exact hl3, hO3.below hb hB hgw⟩
      case measure => simp [intOf]; omega
    · have hE := end_any g _ _ _ wr htl (by omega) (by omega) (HT.out.below hb) hli (feed_ok' h0_ok _)
      rw [show l.take k = l from List.take_of_length_le (by omega), show (bytesOf (tailB l.flatten)).data.toList = tailB l.flatten from rfl, end_sum] at hE
      have HK := Lib.hid hE
      clear hE
      go_wp2_with (go_at_call 26; refine HK.out.mono ?_; rintro e w3 ⟨rfl, hO3⟩)
      go_ret
      exact ⟨rfl, hO3.below hb hB hgw⟩
end Go.Proofs.YtmebiidgeaalpaaDoor.T
