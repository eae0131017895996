/- A known path; texts cut short. -/
import Derived.Test.YtaliafeekadecaaDoorZMatchR
import Derived.Test.YtaliafeekadecaaDoorShelfA
import Derived.Test.YtaliafeekadecaaDoorShelfH
import Derived.Test.YtaliafeekadecaaDoorShelfRp
namespace Go.Proofs.YtaliafeekadecaaDoor.Z
open Go.RowKit Go.Shelf
open V (Lies OwnL RowL reg)
set_option maxRecDepth 100000

theorem match_yes : matchP [97, 47, 42, 46, 116, 120, 116] [97, 47, 98, 46, 116, 120, 116] = true := by decide +kernel
theorem match_no : matchP [97, 47, 42, 46, 116, 120, 116] [97, 47, 98, 47, 99, 46, 116, 120, 116] = false := by decide +kernel
set_option maxHeartbeats 1600000 in
theorem alive_any (w : World) : Calls Tryd.prog 14 #[] w fun e w' => e = .returned (.bool true) ∧ Below w.heap.size w w' := by
  have H1 := Lib.hid (fun (w : World) => by have h := match_any ⟨#[97, 47, 42, 46, 116, 120, 116]⟩ ⟨#[97, 47, 98, 46, 116, 120, 116]⟩ w (by decide) (by decide); rw [show matchP (⟨#[97, 47, 42, 46, 116, 120, 116]⟩ : ByteArray).data.toList (⟨#[97, 47, 98, 46, 116, 120, 116]⟩ : ByteArray).data.toList = true from match_yes] at h; exact h)
  have H2 := Lib.hid (fun (w : World) => by have h := match_any ⟨#[97, 47, 42, 46, 116, 120, 116]⟩ ⟨#[97, 47, 98, 47, 99, 46, 116, 120, 116]⟩ w (by decide) (by decide); rw [show matchP (⟨#[97, 47, 42, 46, 116, 120, 116]⟩ : ByteArray).data.toList (⟨#[97, 47, 98, 47, 99, 46, 116, 120, 116]⟩ : ByteArray).data.toList = false from match_no] at h; exact h)
  go_enter Tryd.func14, Tryd.ntmps14
  go_wp2_with (first
    | (go_at_call 13; refine (H1.out _).mono ?_; rintro e w1 ⟨rfl, hb1⟩; clear H1)
    | (go_at_call 13; refine (H2.out _).mono ?_; rintro e w2 ⟨rfl, hb2⟩))
  go_ret
  exact ⟨rfl, hb1.trans (hb2.mono hb1.size)⟩
theorem cut_size (x : ByteArray) (k : Int) (hk : 0 ≤ k) : ((x.extract 0 (min (x.size : Int) k).toNat).size : Int) ≤ k := by
  simp only [ByteArray.size_extract]
  omega
theorem slash_at (s : ByteArray) : decide (0 ≤ Lib.indexByte s.data.toList 47) = true ∨ (decide (0 ≤ Lib.indexByte s.data.toList 47) = false ∧ ∀ c ∈ s.data.toList, c ≠ 47) := by
  rcases first_slash s.data.toList with ⟨h, hno⟩ | ⟨o, h, _⟩
  · exact .inr ⟨by rw [h]; rfl, hno⟩
  · exact .inl (by rw [h]; exact decide_eq_true (by omega))
end Go.Proofs.YtaliafeekadecaaDoor.Z
