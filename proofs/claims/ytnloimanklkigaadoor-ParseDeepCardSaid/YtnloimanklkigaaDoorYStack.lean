/- The stack: how high it is, what stands at its top; whether a value may begin. -/
import Derived.Test.YtnloimanklkigaaDoorYRun
namespace Go.Proofs.YtnloimanklkigaaDoor.V
set_option maxRecDepth 100000
open Go.RowKit Go.Sort Go.Joins

theorem size_any (w : World) (g : Nat) (a : Option Addr) (k c : Nat) (h : w.cell? ⟨g, 3, none⟩ = some (.slice a k c)) :
    Calls Tryd.prog 52 #[.pointer (some ⟨g, 3, none⟩)] w fun e w' => e = .returned (.int .i64 (k : Int)) ∧ w' = w := by
  go_enter Tryd.func52, Tryd.ntmps52
  go_wp2
  go_ret
  exact ⟨rfl, rfl⟩
theorem top_any (w : World) (g sb k c : Nat) (h : w.cell? ⟨g, 3, none⟩ = some (.slice (some ⟨sb, 0, none⟩) (k + 1) c)) (hk2 : k ≤ 100) :
    Calls Tryd.prog 66 #[.pointer (some ⟨g, 3, none⟩)] w fun e w' => e = .returned (.pointer (some ⟨sb, k * 5, none⟩)) ∧ RowKit.Below w.heap.size w w' := by
  go_enter Tryd.func66, Tryd.ntmps66
  go_upto_region 1 with fail
  go_quiet (fail)
  go_wp2
  go_ret
  exact ⟨rfl, below_drawn (RowKit.Below.refl _ _) _⟩
theorem may_deep (w : World) (g : Nat) (s : ByteArray) (p n : Nat) (a : Option Addr) (c : Nat) (hl : Lies w g 77 (rdC s p n (.slice a 12 c))) :
    Calls Tryd.prog 60 #[.pointer (some ⟨g, 0, none⟩)] w fun e w' => e = errP 21 ∧ w' = w := by
  have c3 := rd_c3 hl
  go_enter Tryd.func60, Tryd.ntmps60
  go_wp2_with (go_at_call 52; refine (size_any _ g _ _ _ c3).mono ?_; rintro e w1 ⟨rfl, rfl⟩)
  exact ⟨rfl, rfl, rfl⟩
theorem may_many (w : World) (g : Nat) (s : ByteArray) (p k : Nat) (a : Option Addr) (c : Nat) (hl : Lies w g 77 (rdC s p 2000 (.slice a k c))) (hk : k < 12) :
    Calls Tryd.prog 60 #[.pointer (some ⟨g, 0, none⟩)] w fun e w' => e = errP 22 ∧ w' = w := by
  have c2 := rd_c2 hl
  have c3 := rd_c3 hl
  have e1 : ((k : Int) == 12) = false := by rw [beq_eq_false_iff_ne]; omega
  have c2 : w.cell? ⟨g, 2, none⟩ = some (.int .i64 2000) := c2
  go_enter Tryd.func60, Tryd.ntmps60
  go_wp2_with (go_at_call 52; refine (size_any _ g _ _ _ c3).mono ?_; rintro e w1 ⟨rfl, hw⟩; subst hw)
  exact ⟨rfl, rfl, rfl⟩
theorem may_ok (w : World) (g : Nat) (s : ByteArray) (p n k : Nat) (a : Option Addr) (c : Nat) (hl : Lies w g 77 (rdC s p n (.slice a k c))) (hk : k < 12) (hn : n < 2000) :
    Calls Tryd.prog 60 #[.pointer (some ⟨g, 0, none⟩)] w fun e w' => e = .returned (.tuple #[]) ∧ Lies w' g 77 (rdC s p (n + 1) (.slice a k c)) ∧ w.grownBy w' (some g) := by
  have c2 := rd_c2 hl
  have c3 := rd_c3 hl
  have f2 := hl.frozen 2
  have e1 : ((k : Int) == 12) = false := by rw [beq_eq_false_iff_ne]; omega
  have e2 : ((n : Int) == 2000) = false := by rw [beq_eq_false_iff_ne]; omega
  go_enter Tryd.func60, Tryd.ntmps60
  go_wp2_with (go_at_call 52; refine (size_any _ g _ _ _ c3).mono ?_; rintro e w1 ⟨rfl, hw⟩; subst hw)
  first | go_end0 | refine bodyPost_ret (results_none rfl _ _ _) rfl ?_
  exact ⟨rfl, rd_n hl (n + 1) (by omega), grown_set g (RowKit.Below.refl _ _) 2 _⟩
end Go.Proofs.YtnloimanklkigaaDoor.V
