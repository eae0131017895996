/- The contract of the reference's Below. -/
import Derived.Test.YtknpgijapbkebaaDoorGOk
namespace Go.Proofs.YtknpgijapbkebaaDoor.F
open Go.RowKit Go.WideShapes

theorem list_of {l : List UInt8} {s : ByteArray} (h : (⟨l.toArray⟩ : ByteArray) = s) : l = s.data.toList := by rw [← h]
theorem of_list {l : List UInt8} {s : ByteArray} (h : l = s.data.toList) : (⟨l.toArray⟩ : ByteArray) = s := by rw [h]
theorem below_eq (s : ByteArray) (hs : s.size = 32) : ((⟨(leL (numLE s.data.toList % l25 % l25) 32).toArray⟩ : ByteArray) = s) ↔ numLE s.data.toList < l25 := by
  have hl : s.data.toList.length = 32 := by rw [← Lib.size_eq]; exact hs
  have e := leL_numLE s.data.toList
  rw [hl] at e
  rw [Nat.mod_mod]
  constructor
  · intro h
    have h1 := list_of h
    have h2 : numLE (leL (numLE s.data.toList % l25) 32) = numLE s.data.toList := by rw [h1]
    rw [numLE_leL, Nat.mod_eq_of_lt (Nat.lt_trans (Nat.mod_lt _ l25_pos) (by decide))] at h2
    rw [← h2]
    exact Nat.mod_lt _ l25_pos
  · intro h
    exact of_list (by rw [Nat.mod_eq_of_lt h, e])
theorem toList_beq (a b : ByteArray) : (a.toList == b.toList) = decide (a = b) := by
  rw [Bool.eq_iff_iff, beq_iff_eq, decide_eq_true_eq]
  constructor
  · intro h
    rw [ByteArray.toList_eq, ByteArray.toList_eq] at h
    exact bytes_inj h
  · intro h
    rw [h]

set_option maxRecDepth 100000 in
set_option maxHeartbeats 400000 in
theorem refBelow_any (s : ByteArray) (hs : s.size = 32) (W : World) :
    Calls Tryd.prog 20 #[.string s] W fun e W' => e = .returned (.bool (decide (numLE s.data.toList < l25))) ∧ Below W.heap.size W W' := by
  have HW := Lib.hid (fun w => refWide_any s (by omega) w)
  have HB := Lib.hid (fun w => refBytes_any (numLE s.data.toList % l25) w (modL_K _))
  have HE := Lib.hid (below_eq s hs)
  generalize numLE s.data.toList % l25 = V at HW HB HE
  generalize hX : (⟨(leL (V % l25) 32).toArray⟩ : ByteArray) = X at HB HE
  clear hX
  have HQ : Hid ((X.toList == s.toList) = decide (numLE s.data.toList < l25)) := Lib.hid (by
    rw [toList_beq]
    by_cases h : numLE s.data.toList < l25
    · rw [decide_eq_true h, decide_eq_true (HE.out.2 h)]
    · rw [decide_eq_false h, decide_eq_false (fun e => h (HE.out.1 e))])
  have hB := Below.refl W.heap.size W
  go_enter Tryd.func20, Tryd.ntmps20
  go_wp2_with (first
    | (go_at_call 19; refine (HW.out _).mono ?_; rintro e w1 ⟨rfl, hb⟩; replace hB := below_on hB hb; clear hb)
    | (go_at_call 18; refine (HB.out _).mono ?_; rintro e w2 ⟨rfl, hb⟩; replace hB := below_on hB hb; clear hb))
  go_ret
  exact ⟨ret1_of (by rw [← HQ.out]; rfl), hB⟩
end Go.Proofs.YtknpgijapbkebaaDoor.F
