/- The contract of octet's Unpack: the parts of a text, or its error. -/
import Derived.Test.YtckamablodhecaaFirst
import Derived.Deep.AppendLies
namespace Go.Proofs.Ytckamablodhecaa
open Go.RowKit

def strLen : Value → Nat | .string b => b.size | _ => 0
theorem info9 : (Try.prog.info? 9).map (fun i => (i.zero, i.size, i.bytes)) = some (some (.string ByteArray.empty), 1, 16) := by kernel_rfl

theorem unpack_long (s : ByteArray) (W : World) (hs : 65536 < s.size) :
    Calls Try.prog 20 #[.string s] W fun e W' => e = .returned (.tuple #[.slice none 0 0, .int .i64 2]) ∧ Below W.heap.size W W' := by
  go_enter Try.func20, Try.ntmps20
  go_wp2
  go_ret2
  exact ⟨rfl, Below.refl _ _⟩

theorem own_form {w : World} {B : Nat} {e : TypeId} {v : Value} {n : Nat} {xs : List Value} (h : w.ownsRow B e 1 v n xs) : ∃ ao cap, v = .slice ao n cap := by
  rcases h.2 with ⟨rfl, rfl⟩ | ⟨g, cap, cur, rfl, _⟩
  · exact ⟨none, 0, rfl⟩
  · exact ⟨_, cap, rfl⟩
theorem own_below {wr w1 : World} {B : Nat} {e : TypeId} {v : Value} {n : Nat} {xs : List Value} (h : wr.ownsRow B e 1 v n xs) (hb : Below wr.heap.size wr w1) : w1.ownsRow B e 1 v n xs := by
  obtain ⟨hl, h⟩ := h
  refine ⟨hl, ?_⟩
  rcases h with h | ⟨g, cap, cur, hv, hg, hh, hr⟩
  · exact Or.inl h
  · have hlt : g < wr.heap.size := by
      rcases Nat.lt_or_ge g wr.heap.size with h' | h'
      · exact h'
      · rw [Array.getElem?_eq_none h'] at hh; cases hh
    exact Or.inr ⟨g, cap, cur, hv, hg, (hb.block g hlt).trans hh, hr⟩
theorem first_no (r : List UInt8) (W : World) (hr : r.length ≤ 65536) (h4 : r.length < 4 ∨ r.length - 4 < numL (r.take 4)) :
    Calls Try.prog 29 #[.string ⟨r.toArray⟩] W fun e W' => e = .returned (.tuple #[.string ByteArray.empty, .string ByteArray.empty, .int .i64 3]) ∧ Below W.heap.size W W' := by
  by_cases h : r.length < 4
  · exact first_short ⟨r.toArray⟩ W (by rw [str_size]; exact h)
  · exact first_far ⟨r.toArray⟩ W (by rw [str_size]; omega) (by rw [str_size]; exact hr) (by rw [str_size]; exact h4.resolve_left h)
theorem first_yes (r : List UInt8) (W : World) (hr : r.length ≤ 65536) (h4 : 4 ≤ r.length) (k : Nat) (hk : numL (r.take 4) = k) (hc : k ≤ r.length - 4) :
    Calls Try.prog 29 #[.string ⟨r.toArray⟩] W fun e W' => e = .returned (.tuple #[.string ⟨((r.drop 4).take k).toArray⟩, .string ⟨(r.drop (4 + k)).toArray⟩, .int .i64 0]) ∧ Below W.heap.size W W' :=
  first_ok ⟨r.toArray⟩ W (by rw [str_size]; exact h4) (by rw [str_size]; exact hr) k hk (by rw [str_size]; exact hc)

set_option maxRecDepth 100000 in
set_option maxHeartbeats 1600000 in
theorem unpack_in (s : ByteArray) (W : World) (hs : s.size ≤ 65536) :
    Calls Try.prog 20 #[.string s] W fun e W' => ∃ v, e = .returned (.tuple #[v, .int .i64 (tell 0 s.data.toList).1]) ∧ Strs W' v (tell 0 s.data.toList).2 ∧ Below W.heap.size W W' := by
  obtain ⟨i0, hi, hz0, hz1, hz2⟩ := info_parts info9
  go_enter Try.func20, Try.ntmps20
  go_wp2_with fail
  go_loopw [4, 5] (fun p v wr => ∃ (acc : List (List UInt8)) (r : List UInt8), v = .string ⟨r.toArray⟩ ∧ r.length ≤ 65536 ∧ acc.length ≤ 64 ∧ wr.ownsRow W.heap.size 9 1 p acc.length (acc.map str) ∧ Goes s.data.toList acc r ∧ Below W.heap.size W wr) (fun _ v _ => strLen v)
  case atStart => exact ⟨[], s.data.toList, by rw [Lib.mk_data], by rw [← Lib.size_eq]; exact hs, Nat.zero_le _, World.ownsRow_nil _ _ _ _, goes_start _, Below.refl _ _⟩
  case round =>
    obtain ⟨acc, r, rfl, hr, ha, ho, hg, hb⟩ := hrel
    obtain ⟨ao, cap, rfl⟩ := own_form ho
    by_cases h0 : r = []
    · subst h0
      have HT := Lib.hid (goes_end hg)
      clear hg
      go_wp2_with fail
      go_ret2
      exact ⟨_, ret2_of rfl (val_int (by rw [HT.out])), by rw [HT.out]; exact Strs.owned ho, hb⟩
    · have hne : r.isEmpty = false := by simpa using h0
      by_cases hn : acc.length = 64
      · have hq : ((acc.length : Int) == 64) = true := by simp; omega
        have HT := Lib.hid (goes_err hg (by rw [hn]; exact tell_many r h0) (by decide))
        clear hg h0 hn
        go_wp2_with fail
        go_ret2
        exact ⟨_, ret2_of rfl (val_int (by rw [HT.out])), by rw [HT.out]; exact Strs.nil _, hb⟩
      · have hq : ((acc.length : Int) == 64) = false := by simp; omega
        have hB := hb.size
        by_cases h4 : r.length < 4 ∨ r.length - 4 < numL (r.take 4)
        · have HT := Lib.hid (goes_err hg (tell_short _ r h0 hn h4) (by decide))
          have hcall := Lib.hid (first_no r wr hr h4)
          clear hg h0 hn h4
          go_wp2_with (go_at_call 29; refine hcall.out.mono ?_; rintro e w1 ⟨rfl, hb1⟩)
          go_ret2
          exact ⟨_, ret2_of rfl (val_int (by rw [HT.out])), by rw [HT.out]; exact Strs.nil _, below_on hb hb1⟩
        · have hg2 := goes_step hg hn (by omega) (by omega)
          have hcall := Lib.hid (first_yes r wr hr (by omega) _ rfl (by omega))
          have hl1 : ((r.drop 4).take (numL (r.take 4))).length ≤ r.length := by simp; omega
          have hl2 : (r.drop (4 + numL (r.take 4))).length < r.length := by simp; omega
          clear hg h0 hn h4
          generalize (r.drop 4).take (numL (r.take 4)) = x at hg2 hcall hl1
          generalize r.drop (4 + numL (r.take 4)) = r2 at hg2 hcall hl2
          go_wp2_with (first | (go_at_call 29; refine hcall.out.mono ?_; rintro e w1 ⟨rfl, hb1⟩; have ho1 := own_below ho hb1; have hb2 := below_on hb hb1; have hB2 := hb2.size; clear ho hb hb1) | (at_builtin; refine wpList_append_lies _ rfl _ _ 37 (by rfl) W.heap.size 9 i0 _ 1 16 Try.underlying37 hi hz0 hz1 hz2 rfl (by omega) _ acc.length _ (by rfl) (ho1.alloc _) ⟨w1.heap.size, 0, none⟩ 1 1 _ (by rfl) (by rfl) (World.news_of_block (t := 9) (fr := (0, 0)) (heap_alloc_new w1 _)) (by simp [Value.oneCell']) (by omega) (by unfold maxLen; omega) (by omega) (by simp; omega) (w1.heap.size + 1) (by simp) ?_; intro g cap w2 hown2 hgrow2 hat2 hlt2))
          go_roundw
          case rel => exact ⟨acc ++ [x], r2, rfl, by omega, by simp; simp at hq; omega, by simpa [str] using hown2, hg2, (hb2.alloc hB2 _).grown hgrow2 (by simp; omega) (fun j hj => (ho1.lt j hj).1)⟩
          case measure => simp [strLen, str_size]; omega

/-- Unpack: the parts, or an error -/
theorem unpack_any (s : ByteArray) (W : World) :
    Calls Try.prog 20 #[.string s] W fun e W' => ∃ v, e = .returned (.tuple #[v, .int .i64 (unpackT s.data.toList).1]) ∧ Strs W' v (unpackT s.data.toList).2 ∧ Below W.heap.size W W' := by
  by_cases h : 65536 < s.size
  · have e : unpackT s.data.toList = (2, []) := by unfold unpackT; rw [if_pos (by rw [← Lib.size_eq]; exact h)]
    rw [e]
    exact (unpack_long s W h).mono fun e W' ⟨he, hb⟩ => ⟨_, he, Strs.nil _, hb⟩
  · have e : unpackT s.data.toList = tell 0 s.data.toList := by unfold unpackT; rw [if_neg (by rw [← Lib.size_eq]; exact h)]
    rw [e]
    exact unpack_in s W (by omega)
end Go.Proofs.Ytckamablodhecaa
