/- What is proved: whatever parts and whatever text the statement of packed rows is called with, it answers true; no condition. -/
import Derived.Test.YtckamablodhecaaFrame
import Derived.Test.YtckamablodhecaaFew
import Derived.Test.YtckamablodhecaaRefPack
import Derived.Test.YtckamablodhecaaRefUnpack
import Derived.Test.YtckamablodhecaaAlive
namespace Go.Proofs.Ytckamablodhecaa
open Go.ChangeShapes Go.WideShapes Go.ChangeAt Go.RowKit
open Go.ChangeMaps (open_string shut_string)

theorem few_short (l : List (List UInt8)) : ∀ x ∈ fewL l, x.length ≤ 1000000 := fun x hx => by have := fewL_part hx; omega

set_option maxHeartbeats 1600000 in
theorem packs_walk (v : Value) (l : List (List UInt8)) (s : ByteArray) (W : World) (hl : Strs W v l) (hx : ∀ x ∈ l, x.length ≤ maxLen) (hs : s.size ≤ maxLen) :
    Calls Try.prog 4 #[v, .string s] W fun e W' => e = .returned (.bool true) ∧ Below W.heap.size W W' := by
  unfold maxLen at hs
  have hb := Below.refl W.heap.size W
  have HX := Lib.hid hx
  have HX1 := Lib.hid (few_short l)
  clear hx
  go_enter Try.func4, Try.ntmps4
  go_wp2_with (first | (go_at_call 18; refine (few_any _ _ _ hl HX.out).mono ?_; rintro e w1 ⟨v1, rfl, hs1, hb1⟩; replace hb := below_on hb hb1; clear hb1) | (go_at_call 19; refine (pack_any _ _ _ hs1 HX1.out).mono ?_; rintro e w1 ⟨rfl, hb1⟩; replace hs1 := hs1.below hb1; replace hb := below_on hb hb1; clear hb1) | (go_at_call 20; refine (unpack_any _ _).mono ?_; rintro e w1 ⟨v2, rfl, hs2, hb1⟩; replace hs1 := hs1.below hb1; replace hb := below_on hb hb1; clear hb1) | (go_at_call 21; refine (refPack_any _ _ _ hs1 HX1.out).mono ?_; rintro e w1 ⟨rfl, hb1⟩; replace hs1 := hs1.below hb1; replace hs2 := hs2.below hb1; replace hb := below_on hb hb1; clear hb1) | (go_at_call 22; refine (refUnpack_any _ _).mono ?_; rintro e w1 ⟨v3, rfl, hs3, hb1⟩; replace hs2 := hs2.below hb1; replace hb := below_on hb hb1; clear hb1) | (go_at_call 14; refine (alive_any _).mono ?_; rintro e w1 ⟨rfl, hb1⟩; replace hs2 := hs2.below hb1; replace hs3 := hs3.below hb1; replace hb := below_on hb hb1; clear hb1) | (go_at_call 23; refine (same_any _ _ _ _ _ hs2 hs3).mono ?_; rintro e w1 ⟨rfl, hb1⟩; replace hb := below_on hb hb1; clear hb1))
  go_ret
  exact ⟨ret1_of rfl, hb⟩

/-! ### the row -/
set_option maxRecDepth 100000 in
theorem packs_lifted (os : Os) (started : os.Started) (H : Type) (enc : TypeId × Value → H) :
    ReturnsInHanded {} Try.checked os 4 .any (Rows.octetPacksSpec.pre6 enc Try.prog Try.f4 Rows.octetPacksRow.domain false) (Rows.octetPacksSpec.post enc Try.prog Try.f4 false true false false) := by
  refine returnsInHanded_of_change (C := Try.checked) rowOwn started (by kernel_rfl) Try.func4
    (ChangeSpec.witness6 (enc := enc) (C := Try.checked) false ⟨#[], #[.slice none 0 0, .string ByteArray.empty], []⟩ 8 (by kernel_rfl) (by kernel_rfl) (by kernel_rfl) (by kernel_rfl)) ?_
  intro W base args ds gs before hval0 hW hcnd _
  have hval : ∀ (j : Nat) t v, Try.f4.params[j]? = some t → args[j]? = some v → Value.okWide Try.prog W .any base t v := hval0
  have hW' := hW
  obtain ⟨p, q, hA0, hV, rfl, hfz, hnd⟩ := hW
  have hA : DataW.TrodAll enc Try.prog W 0 (fun _ => true) true Try.f4.params.toList args.toList ds p := hA0
  rw [Try.params4] at hA hval
  obtain ⟨v0, vs0, d0, ds0, p0, q0, hargs, rfl, rfl, h0, r0⟩ := trodAll_cons hA
  obtain ⟨v1, vs1, d1, ds1, p1, q1, rfl, rfl, rfl, h1, r1⟩ := trodAll_cons r0
  obtain ⟨rfl, rfl, rfl⟩ := trodAll_nil r1
  obtain rfl : args = #[v0, v1] := by cases args; simp_all
  obtain ⟨rfl, rfl⟩ := trodVars_none hV
  obtain ⟨a0, len0, cap0, rfl⟩ := okWide_slice Try.underlying37 (hval 0 37 v0 rfl rfl)
  have k0 := h0
  have lt0 : ∀ x ∈ p0, x.block < W.heap.size := by obtain ⟨m, hm⟩ := k0; exact DataW.trod_lt m _ _ _ hm
  obtain ⟨l, hl, hx⟩ := arg_strs h0
  obtain ⟨a1, rfl, rfl, rfl, w1⟩ := open_string Try.underlying9 (hval 1 9 v1 rfl rfl) h1
  clear hA0 hval0
  refine (packs_walk _ l a1 W hl hx w1).mono fun e W' ⟨he, bel⟩ => ?_
  subst he
  exact ⟨_, rfl, _, _, _, [], _, [], hW', trodAll_mk1 (shut_bool Try.underlying4 _), (trodAll_cons_mk (Below.trod rowLaid (by kernel_rfl) (of_decide_eq_true (by kernel_rfl)) k0 bel lt0) (trodAll_cons_mk (shut_string Try.underlying9 w1) trodAll_mk0)), rfl, bel.frame _, fun h => by cases h⟩

theorem packs_over : Rows.octetPacksRow.holds Try.pinned (OpenSpec.ofChange Rows.octetPacksSpec) :=
  OpenClaim.holds_of_wide 4 Try.f4 rfl rfl rfl rfl rfl rfl rfl ⟨rfl, rfl, rfl, rfl, rfl⟩ rfl rfl rfl rfl rfl (by kernel_rfl) Try.func4 (by kernel_rfl)
    (of_decide_eq_true (by kernel_rfl)) (by unfold Func.isWrapper; first | (rw [if_pos (by decide +kernel)]; kernel_rfl) | (rw [if_neg (by decide +kernel)]; exact ⟨rfl, rfl⟩))
    (fun os started H enc _ => packs_lifted os started H enc)

theorem packs_holds : Rows.OctetPacksSaid := packs_over
end Go.Proofs.Ytckamablodhecaa
