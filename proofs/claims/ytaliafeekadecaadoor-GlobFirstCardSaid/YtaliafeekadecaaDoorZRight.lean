/- The developers' Right, Path, Match, against the document's words. -/
import Derived.Test.YtaliafeekadecaaDoorZOf
namespace Go.Proofs.YtaliafeekadecaaDoor.Z
open Go.RowKit Go.Shelf
open V (Lies)
set_option maxRecDepth 100000

def plainL : List UInt8 := [97, 98, 99, 100, 101, 102, 103, 104, 105, 106, 107, 108, 109, 110, 111, 112, 113, 114, 115, 116, 117, 118, 119, 120, 121, 122, 65, 66, 67, 68, 69, 70, 71, 72, 73, 74, 75, 76, 77, 78, 79, 80, 81, 82, 83, 84, 85, 86, 87, 88, 89, 90, 48, 49, 50, 51, 52, 53, 54, 55, 56, 57, 46, 45, 95]
theorem all_bytes (q : UInt8 → Bool) (h : (List.range 256).all (fun n => q (UInt8.ofNat n)) = true) (c : UInt8) : q c = true := by
  have := List.all_eq_true.1 h c.toNat (List.mem_range.2 c.toNat_lt)
  simpa using this
theorem set_plain (c : UInt8) : decide (0 ≤ Lib.indexByte plainL c) = (byt false c && decide (c ≠ 47)) := by
  have := all_bytes (fun c => decide (0 ≤ Lib.indexByte plainL c) == (byt false c && decide (c ≠ 47))) (by decide +kernel) c
  simpa using this
theorem set_pattern (c : UInt8) : decide (0 ≤ Lib.indexByte (plainL ++ [42, 63]) c) = (byt true c && decide (c ≠ 47)) := by
  have := all_bytes (fun c => decide (0 ≤ Lib.indexByte (plainL ++ [42, 63]) c) == (byt true c && decide (c ≠ 47))) (by decide +kernel) c
  simpa using this
theorem byt_slash (pat : Bool) : byt pat 47 = true := by cases pat <;> decide
/-- the parts' bytes are the text's but for its slashes -/
theorem may_right (t : List UInt8) (pat : Bool) (h : ∀ c, decide (0 ≤ Lib.indexByte t c) = (byt pat c && decide (c ≠ 47))) (s : List UInt8) : mayD t s = rightG pat s := by
  have h2 : ((parts s).all fun p => p.all fun c => decide (0 ≤ Lib.indexByte t c)) = s.all (byt pat) := by
    rw [cutG_bytes, List.all_nil, Bool.true_and]
    induction s with
    | nil => rfl
    | cons c s ih =>
      by_cases hc : c = 47
      · subst hc
        rw [List.filter_cons, if_neg (by simp), ih, List.all_cons, byt_slash, Bool.true_and]
      · rw [List.filter_cons, if_pos (by simp [hc]), List.all_cons, List.all_cons, ih, h, decide_eq_true (show c ≠ 47 from hc), Bool.and_true]
  have h1 : (parts s).all (goodP t) = ((parts s).all okPart && (parts s).all fun p => p.all fun c => decide (0 ≤ Lib.indexByte t c)) := by
    unfold goodP
    induction parts s with
    | nil => rfl
    | cons p l ih =>
      rw [List.all_cons, List.all_cons, List.all_cons, ih]
      cases okPart p <;> cases (p.all fun c => decide (0 ≤ Lib.indexByte t c)) <;> cases l.all okPart <;> simp
  unfold mayD rightG
  rw [h1, h2]
  cases decide (s.length ≤ 200) <;> cases (parts s).all okPart <;> cases s.all (byt pat) <;> rfl
set_option maxHeartbeats 1600000 in
theorem path_any (s : ByteArray) (w : World) (hs : s.size ≤ 1000000) : Calls Tryd.prog 12 #[.string s] w fun e w' => e = .returned (.bool (rightG false s.data.toList)) ∧ Below w.heap.size w w' := by
  have HM := Lib.hid (fun (t : ByteArray) (w : World) => mayBe_any s t w hs)
  have HR := Lib.hid (may_right plainL false set_plain s.data.toList)
  go_enter Tryd.func12, Tryd.ntmps12
  go_wp2_with (go_at_call 29; refine (HM.out _ _).mono ?_; rintro e w1 ⟨rfl, hb⟩)
  go_ret
  exact ⟨by rw [← HR.out]; rfl, hb⟩
set_option maxHeartbeats 1600000 in
theorem right_any (s : ByteArray) (w : World) (hs : s.size ≤ 1000000) : Calls Tryd.prog 11 #[.string s] w fun e w' => e = .returned (.bool (rightG true s.data.toList)) ∧ Below w.heap.size w w' := by
  have HM := Lib.hid (fun (t : ByteArray) (w : World) => mayBe_any s t w hs)
  have HR := Lib.hid (may_right (plainL ++ [42, 63]) true set_pattern s.data.toList)
  go_enter Tryd.func11, Tryd.ntmps11
  go_wp2_with (go_at_call 29; refine (HM.out _ _).mono ?_; rintro e w1 ⟨rfl, hb⟩)
  go_ret
  exact ⟨by rw [← HR.out]; rfl, hb⟩
/-- a path is one of a pattern, and both may be -/
def matchP (m p : List UInt8) : Bool := rightG true m && (rightG false p && matchG m p)
set_option maxHeartbeats 1600000 in
theorem match_any (m p : ByteArray) (w : World) (hm : m.size ≤ 1000000) (hp : p.size ≤ 1000000) : Calls Tryd.prog 13 #[.string m, .string p] w fun e w' => e = .returned (.bool (matchP m.data.toList p.data.toList)) ∧ Below w.heap.size w w' := by
  obtain ⟨b1, h1⟩ : ∃ b, rightG true m.data.toList = b := ⟨_, rfl⟩
  obtain ⟨b2, h2⟩ : ∃ b, rightG false p.data.toList = b := ⟨_, rfl⟩
  obtain ⟨b3, h3⟩ : ∃ b, matchG m.data.toList p.data.toList = b := ⟨_, rfl⟩
  have H1 := Lib.hid (fun (w : World) => right_any m w hm)
  have H2 := Lib.hid (fun (w : World) => path_any p w hp)
  have H3 := Lib.hid (fun (w : World) => isOne_any m p w hm hp)
  have hR : matchP m.data.toList p.data.toList = (b1 && (b2 && b3)) := by unfold matchP; rw [h1, h2, h3]
  rw [h1] at H1
  rw [h2] at H2
  rw [h3] at H3
  rw [hR]
  clear hR h1 h2 h3
  have hb := Below.refl w.heap.size w
  cases b1 with
  | false =>
    go_enter Tryd.func13, Tryd.ntmps13
    go_wp2_with (go_at_call 11; refine (H1.out _).mono ?_; rintro e w1 ⟨rfl, hb1⟩)
    go_ret
    exact ⟨rfl, hb1⟩
  | true =>
    cases b2 with
    | false =>
      go_enter Tryd.func13, Tryd.ntmps13
      go_wp2_with (first
        | (go_at_call 11; refine (H1.out _).mono ?_; rintro e w1 ⟨rfl, hb1⟩)
        | (go_at_call 12; refine (H2.out _).mono ?_; rintro e w2 ⟨rfl, hb2⟩))
      go_ret
      exact ⟨rfl, hb1.trans (hb2.mono hb1.size)⟩
    | true =>
      go_enter Tryd.func13, Tryd.ntmps13
      go_wp2_with (first
        | (go_at_call 11; refine (H1.out _).mono ?_; rintro e w1 ⟨rfl, hb1⟩)
        | (go_at_call 12; refine (H2.out _).mono ?_; rintro e w2 ⟨rfl, hb2⟩)
        | (go_at_call 28; refine (H3.out _).mono ?_; rintro e w3 ⟨rfl, hb3⟩))
      go_ret
      exact ⟨by simp, (hb1.trans (hb2.mono hb1.size)).trans (hb3.mono (Nat.le_trans hb1.size hb2.size))⟩
end Go.Proofs.YtaliafeekadecaaDoor.Z
