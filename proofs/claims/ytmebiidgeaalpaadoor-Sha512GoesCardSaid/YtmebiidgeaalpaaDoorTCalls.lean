/- The contracts of the program's own five calls. -/
import Derived.Test.YtmebiidgeaalpaaDoorTWork
import Derived.Laws.ResultCell
namespace Go.Proofs.YtmebiidgeaalpaaDoor.T
open Go.RowKit

section
variable {P : Program} {ops : Array Oper} {rest : List Oper} {a : Act} {w : World} {Q : Exit → Act → World → Prop} {t' : TypeId} {pos : String} {after : Array Edge}
/-- some cells in the middle of a block are read, the block a package-level variable's -/
theorem wpL_loadGlobal {d : Option Tmp} {x : Operand} {ty : TypeId} (g o : Nat) (cs : List Value) (n : Nat) (hT : RowT P ty n) (hn : cs.length = n) (hg : w.rangeAt g o cs)
    (hx : a.eval x = .pointer (some ⟨g, o, none⟩)) (h : wpList P ops Q rest (a.put d (.agg cs.toArray)) w) : wpList P ops Q (⟨d, .load ty x, t', pos, after, none⟩ :: rest) a w := by
  obtain ⟨⟨ds, hu, hd⟩, hi⟩ := hT
  exact wpList_load_mid (op := ⟨d, .load ty x, t', pos, after, none⟩) rfl ty x rfl g o hx cs ds hg hu hd (by rw [hi, hn]) h
end
theorem Tab.words {w : World} (h : Tab w) : w.rangeAt 0 0 (wordsL h0) := fun j v hv => by
  rw [Nat.zero_add]
  match j, hv with
  | 0, hv | 1, hv | 2, hv | 3, hv | 4, hv | 5, hv | 6, hv | 7, hv => exact (h.1 _ (by decide)).trans hv
abbrev noBytes : ByteArray := { data := #[] }

set_option maxHeartbeats 400000 in
theorem new_any (w : World) (hT : Tab w) :
    Calls Tryd.prog 10 #[] w fun e w' => e = .returned (.agg (sumA h0 noBytes 0)) ∧ Below w.heap.size w w' := by
  go_enter Tryd.func10, Tryd.ntmps10
  have hT2 := fun (o : Obj) => hT.below ((Below.refl _ w).alloc (Nat.le_refl _) o)
  have HT := Lib.hid hT2
  clear hT hT2
  go_wp2_with ((with_reducible refine wpL_loadGlobal 0 0 (wordsL h0) 8 row26 rfl (HT.out _).words ?_ ?_); rfl; simp only [wordsL])
  exact bodyPost_ret (results_row Tryd.results10 row29 rfl (Lies.new w _ (sumA h0 noBytes 0)) rfl) rfl ⟨rfl, (Below.refl _ w).alloc (Nat.le_refl _) _⟩

abbrev h8zero : H8 := ⟨0, 0, 0, 0, 0, 0, 0, 0⟩

set_option maxHeartbeats 400000 in
theorem right2_any (H : H8) (buf : ByteArray) (n : Nat) (w : World) (hb : buf.size ≤ 140737488355328) :
    Calls Tryd.prog 20 #[.agg (sumA H buf n)] w fun e w' => e = .returned (.bool (rightB buf.size n)) ∧ Below w.heap.size w w' := by
  unfold sumA
  go_enter Tryd.func20, Tryd.ntmps20
  go_wp2_with (first | (go_at_call 24; refine (workOn_any H buf n _).mono ?_; rintro e w1 ⟨g, rfl, hg1, hl1, hb1⟩) | (go_at_call 29; refine (right_any g H buf n _ hb hl1).mono ?_; rintro e w2 ⟨rfl, hb2⟩))
  go_ret
  exact ⟨rfl, (((Below.refl _ w).alloc (Nat.le_refl _) _).trans (hb1.mono (by simp))).trans (hb2.mono (Nat.le_trans (by simp) hb1.size))⟩

set_option maxHeartbeats 400000 in
theorem end2_no (H : H8) (buf : ByteArray) (n : Nat) (w : World) (hb : buf.size ≤ 140737488355328) (hr : rightB buf.size n = false) :
    Calls Tryd.prog 19 #[.agg (sumA H buf n)] w fun e w' => e = .returned (.tuple #[.string noBytes, .int .i64 1]) ∧ Below w.heap.size w w' := by
  have HR := Lib.hid hr
  clear hr
  unfold sumA
  go_enter Tryd.func19, Tryd.ntmps19
  go_wp2_with (first | (go_at_call 24; refine (workOn_any H buf n _).mono ?_; rintro e w1 ⟨g, rfl, hg1, hl1, hb1⟩) | (go_at_call 29; refine (right_any g H buf n _ hb hl1).mono ?_; rintro e w2 ⟨rfl, hb2⟩; rw [HR.out]))
  go_ret2
  exact ⟨rfl, (((Below.refl _ w).alloc (Nat.le_refl _) _).trans (hb1.mono (by simp))).trans (hb2.mono (Nat.le_trans (by simp) hb1.size))⟩

theorem right_of {b n : Nat} (h : rightB b n = true) : n ≤ 1099511627776 ∧ n % 128 = b ∧ b < 128 := by
  simp only [rightB, Bool.and_eq_true, decide_eq_true_eq] at h
  omega

set_option maxHeartbeats 400000 in
theorem end2_yes (H : H8) (buf : ByteArray) (n : Nat) (w : World) (hr : rightB buf.size n = true) (hT : Tab w) (hok : H.Ok) :
    Calls Tryd.prog 19 #[.agg (sumA H buf n)] w fun e w' => e = .returned (.tuple #[.string (bytesOf (endT H buf.data.toList n)), .int .i64 0]) ∧ Below w.heap.size w w' := by
  obtain ⟨hr1, hr2, hr3⟩ := right_of hr
  have h2 := hT.two
  have HR := Lib.hid hr
  have HR2 := Lib.hid hr2
  clear hr hr2
  have HT := Lib.hid hT
  clear hT
  unfold sumA
  go_enter Tryd.func19, Tryd.ntmps19
  go_wp2_with (first | (go_at_call 24; refine (workOn_any H buf n _).mono ?_; rintro e w1 ⟨g, rfl, hg1, hl1, hb1⟩; replace hb1 := ((Below.refl _ w).alloc (Nat.le_refl _) _).trans (hb1.mono (by simp)); simp at hg1) | (go_at_call 29; refine (right_any g H buf n _ (by omega) hl1).mono ?_; rintro e w2 ⟨rfl, hb2⟩; rw [HR.out]; replace hl1 := hl1.on hb2; replace hb1 := below_on hb1 hb2) | (go_at_call 26; refine (end_any g H buf n _ hr3 (by omega) (by omega) (HT.out.below hb1) hl1 hok).mono ?_; rintro e w3 ⟨rfl, hO3⟩))
  go_ret2
  exact ⟨rfl, hO3.below hb1 hb1.size (by omega)⟩

end Go.Proofs.YtmebiidgeaalpaaDoor.T
