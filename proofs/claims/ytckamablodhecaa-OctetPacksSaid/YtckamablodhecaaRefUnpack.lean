/- The contract of the reference's Unpack. -/
import Derived.Test.YtckamablodhecaaUnpack
namespace Go.Proofs.Ytckamablodhecaa
open Go.RowKit

theorem refUnpack_long (s : ByteArray) (W : World) (hs : 65536 < s.size) :
    Calls Try.prog 22 #[.string s] W fun e W' => e = .returned (.tuple #[.slice none 0 0, .int .i64 2]) ∧ Below W.heap.size W W' := by
  go_enter Try.func22, Try.ntmps22
  go_wp2
  go_ret2
  exact ⟨rfl, (Below.refl _ _).alloc (Nat.le_refl _) _⟩

theorem refNum_cut (s : ByteArray) (W : World) (i : Nat) (h : i + 4 ≤ s.size) :
    Calls Try.prog 17 #[.string (s.extract i (i + 4))] W fun e W' => e = .returned (.int .u64 (numL ((s.data.toList.drop i).take 4))) ∧ W = W' := by
  have h1 := refNum_any (s.extract i (i + 4)) W (by simp [ByteArray.size_extract]; omega)
  rw [Lib.extract_data, show i + 4 - i = 4 by omega] at h1
  exact h1
theorem cut_str (s : ByteArray) (i k : Nat) : Value.string (s.extract (i + 4) (i + 4 + k)) = str (((s.data.toList.drop i).drop 4).take k) := by
  unfold str
  rw [Lib.extract_eq, List.drop_drop, show i + 4 + k - (i + 4) = k by omega]

set_option maxRecDepth 100000 in
set_option maxHeartbeats 1600000 in
theorem refUnpack_in (s : ByteArray) (W : World) (hs : s.size ≤ 65536) :
    Calls Try.prog 22 #[.string s] W fun e W' => ∃ v, e = .returned (.tuple #[v, .int .i64 (tell 0 s.data.toList).1]) ∧ Strs W' v (tell 0 s.data.toList).2 ∧ Below W.heap.size W W' := by
  obtain ⟨i0, hi, hz0, hz1, hz2⟩ := info_parts info9
  go_enter Try.func22, Try.ntmps22
  go_wp2_with fail
  go_loopw [4, 5] (fun p v wr => ∃ (acc : List (List UInt8)) (i : Nat), v = .int .i64 i ∧ i ≤ s.size ∧ acc.length ≤ 64 ∧ wr.ownsRow W.heap.size 9 1 p acc.length (acc.map str) ∧ Goes s.data.toList acc (s.data.toList.drop i) ∧ Below W.heap.size W wr) (fun _ v _ => s.size - (intOf v).toNat)
  case atStart => exact ⟨[], 0, rfl, Nat.zero_le _, Nat.zero_le _, World.ownsRow_made W #[] 0 (Nat.le_refl _) (Nat.zero_le _) rfl, goes_start _, (Below.refl _ W).alloc (Nat.le_refl _) _⟩
  case round =>
    obtain ⟨acc, i, rfl, hr, ha, ho, hg, hb⟩ := hrel
    obtain ⟨ao, cap, rfl⟩ := own_form ho
    by_cases h0 : i < s.size
    · have hne : s.data.toList.drop i ≠ [] := by intro h; have := congrArg List.length h; simp at this; omega
      have hlen : (s.data.toList.drop i).length = s.size - i := by simp
      by_cases hn : acc.length = 64
      · have hq : ((acc.length : Int) == 64) = true := by simp; omega
        have HT := Lib.hid (goes_err hg (by rw [hn]; exact tell_many _ hne) (by decide))
        clear hg hn hne hlen
        go_wp2_with fail
        go_ret2
        exact ⟨_, ret2_of rfl (val_int (by rw [HT.out])), by rw [HT.out]; exact Strs.nil _, hb⟩
      · have hq : ((acc.length : Int) == 64) = false := by simp; omega
        have hB := hb.size
        by_cases h4 : s.size - i < 4
        · have HT := Lib.hid (goes_err hg (tell_short _ _ hne hn (Or.inl (by rw [hlen]; exact h4))) (by decide))
          clear hg hn hne hlen
          go_wp2_with fail
          go_ret2
          exact ⟨_, ret2_of rfl (val_int (by rw [HT.out])), by rw [HT.out]; exact Strs.nil _, hb⟩
        · have hcall := Lib.hid (refNum_cut s wr i (by omega))
          have hk32 := len_lt ((s.data.toList.drop i).take 4) (by simp; omega)
          by_cases hf : s.size - i - 4 < numL ((s.data.toList.drop i).take 4)
          · have HT := Lib.hid (goes_err hg (tell_short _ _ hne hn (Or.inr (by rw [hlen]; exact hf))) (by decide))
            clear hg hn hne hlen
            generalize numL ((s.data.toList.drop i).take 4) = k at hcall hk32 hf
            go_wp2_with (go_at_call 17; refine hcall.out.mono ?_; rintro e w1 ⟨rfl, rfl⟩)
            go_ret2
            exact ⟨_, ret2_of rfl (val_int (by rw [HT.out])), by rw [HT.out]; exact Strs.nil _, hb⟩
          · have hg2 := goes_step hg hn (by omega) (by omega)
            generalize numL ((s.data.toList.drop i).take 4) = k at hcall hk32 hf hg2
            have HC := Lib.hid (cut_str s i k)
            rw [show (s.data.toList.drop i).drop (4 + k) = s.data.toList.drop (i + (4 + k)) by rw [List.drop_drop]] at hg2
            clear hg hn hne hlen
            go_wp2_with (first | (go_at_call 17; refine hcall.out.mono ?_; rintro e w1 ⟨rfl, rfl⟩) | (at_builtin; refine wpList_append_lies _ rfl _ _ 37 (by rfl) W.heap.size 9 i0 _ 1 16 Try.underlying37 hi hz0 hz1 hz2 rfl (by omega) _ acc.length _ (by rfl) (ho.alloc _) ⟨wr.heap.size, 0, none⟩ 1 1 _ (by rfl) (by rfl) (World.news_of_block (t := 9) (fr := (0, 0)) (heap_alloc_new wr _)) (by simp [Value.oneCell']) (by omega) (by unfold maxLen; omega) (by omega) (by simp; omega) (wr.heap.size + 1) (by simp) ?_; intro g cap w2 hown2 hgrow2 hat2 hlt2))
            go_roundw
            case rel => exact ⟨acc ++ [((s.data.toList.drop i).drop 4).take k], i + (4 + k), by go_num, by omega, by simp; simp at hq; omega, by simpa [HC.out] using hown2, hg2, (hb.alloc hB _).grown hgrow2 (by simp; omega) (fun j hj => (ho.lt j hj).1)⟩
            case measure => simp [intOf]; omega
    · have hd : s.data.toList.drop i = [] := List.drop_of_length_le (by simp; omega)
      rw [hd] at hg
      have HT := Lib.hid (goes_end hg)
      clear hg hd
      go_wp2_with fail
      go_ret2
      exact ⟨_, ret2_of rfl (val_int (by rw [HT.out])), by rw [HT.out]; exact Strs.owned ho, hb⟩

/-- the reference's Unpack: the parts, or an error -/
theorem refUnpack_any (s : ByteArray) (W : World) :
    Calls Try.prog 22 #[.string s] W fun e W' => ∃ v, e = .returned (.tuple #[v, .int .i64 (unpackT s.data.toList).1]) ∧ Strs W' v (unpackT s.data.toList).2 ∧ Below W.heap.size W W' := by
  by_cases h : 65536 < s.size
  · have e : unpackT s.data.toList = (2, []) := by unfold unpackT; rw [if_pos (by rw [← Lib.size_eq]; exact h)]
    rw [e]
    exact (refUnpack_long s W h).mono fun e W' ⟨he, hb⟩ => ⟨_, he, Strs.nil _, hb⟩
  · have e : unpackT s.data.toList = tell 0 s.data.toList := by unfold unpackT; rw [if_neg (by rw [← Lib.size_eq]; exact h)]
    rw [e]
    exact refUnpack_in s W (by omega)
end Go.Proofs.Ytckamablodhecaa
