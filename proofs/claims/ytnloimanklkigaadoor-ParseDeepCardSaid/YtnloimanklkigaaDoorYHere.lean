/- The reader's small steps: the next byte, taken, passed over, marked; digits. -/
import Derived.Test.YtnloimanklkigaaDoorYSt
import Derived.Test.YtnloimanklkigaaDoorVHeld
import Derived.Deep.QuietTactic
import Derived.BigQuiet
namespace Go.Proofs.YtnloimanklkigaaDoor.V
set_option maxRecDepth 100000
open Go.RowKit

abbrev errP (e : Int) : Ending := .panicked [{ v := .iface 26 (.int .i64 e), recovered := false }]
theorem rd_c0 {w : World} {g : Nat} {s : ByteArray} {p n : Nat} {vo : Value} (h : Lies w g 77 (rdC s p n vo)) : w.cell? ⟨g, 0, none⟩ = some (.string s) := by rw [h.cell]; rfl
theorem rd_c1 {w : World} {g : Nat} {s : ByteArray} {p n : Nat} {vo : Value} (h : Lies w g 77 (rdC s p n vo)) : w.cell? ⟨g, 1, none⟩ = some (.int .i64 p) := by rw [h.cell]; rfl
theorem rd_c2 {w : World} {g : Nat} {s : ByteArray} {p n : Nat} {vo : Value} (h : Lies w g 77 (rdC s p n vo)) : w.cell? ⟨g, 2, none⟩ = some (.int .i64 n) := by rw [h.cell]; rfl
theorem rd_c3 {w : World} {g : Nat} {s : ByteArray} {p n : Nat} {vo : Value} (h : Lies w g 77 (rdC s p n vo)) : w.cell? ⟨g, 3, none⟩ = some vo := by rw [h.cell]; rfl
theorem here_short (w : World) (g : Nat) (s : ByteArray) (n : Nat) (vo : Value) (hl : Lies w g 77 (rdC s s.size n vo)) :
    Calls Tryd.prog 61 #[.pointer (some ⟨g, 0, none⟩)] w fun e w' => e = errP 3 ∧ Below w.heap.size w w' := by
  have c0 := rd_c0 hl
  have c1 := rd_c1 hl
  go_enter Tryd.func61, Tryd.ntmps61
  go_upto_region 1 with fail
  go_quiet (fail)
  go_wp2
  exact ⟨rfl, rfl, below_drawn (Below.refl _ _) _⟩
theorem here_ok (w : World) (g : Nat) (s : ByteArray) (p n : Nat) (vo : Value) (hl : Lies w g 77 (rdC s p n vo)) (hp : p < s.size) :
    Calls Tryd.prog 61 #[.pointer (some ⟨g, 0, none⟩)] w fun e w' => e = .returned (.int .u8 (s[p].toNat : Int)) ∧ Below w.heap.size w w' := by
  have c0 := rd_c0 hl
  have c1 := rd_c1 hl
  have hne : ¬ ((p : Int) = (s.size : Int)) := by omega
  go_enter Tryd.func61, Tryd.ntmps61
  go_upto_region 1 with fail
  go_quiet (fail)
  generalize hW : World.drewN _ _ = w1
  have hl1 : Lies w1 g 77 (rdC s p n vo) := by rw [← hW]; exact hl
  have hb1 : Below w.heap.size w w1 := by rw [← hW]; exact below_drawn (Below.refl _ _) _
  have d0 := rd_c0 hl1
  have d1 := rd_c1 hl1
  clear c0 c1
  go_upto_region 3 with fail
  go_quiet (fail)
  go_wp2
  go_ret
  exact ⟨rfl, below_drawn hb1 _⟩
/-- what stands behind -/
def rest (s : ByteArray) (p : Nat) : List UInt8 := s.data.toList.drop p
theorem rest_none (s : ByteArray) : rest s s.size = [] := by
  unfold rest
  rw [List.drop_eq_nil_iff]
  exact Nat.le_of_eq Array.length_toList
theorem rest_cons {s : ByteArray} {p : Nat} (h : p < s.size) : rest s p = s[p] :: rest s (p + 1) := by
  unfold rest
  rw [List.drop_eq_getElem_cons (h := by rw [Array.length_toList]; exact h)]
  congr 1
theorem rest_len {s : ByteArray} {p : Nat} : (rest s p).length = s.size - p := by
  unfold rest
  rw [List.length_drop, Array.length_toList]
  rfl
theorem grown_set {w w1 : World} (g : Nat) (h : Below w.heap.size w w1) (i : Nat) (v : Value) : w.grownBy (w1.setCell ⟨g, i, none⟩ v) (some g) :=
  ⟨h.os, h.tape, h.output, by rw [show (w1.setCell ⟨g, i, none⟩ v).heap.size = w1.heap.size by simp]; exact h.size, fun k hk hne => (heap_setCell_other w1 ⟨g, i, none⟩ k v (by intro e; exact hne (by rw [e]))).trans (h.block k hk)⟩
theorem grown_of {w w1 : World} (g : Nat) (h : Below w.heap.size w w1) : w.grownBy w1 (some g) := ⟨h.os, h.tape, h.output, h.size, fun k hk _ => h.block k hk⟩
theorem grown_two {w w1 w2 : World} {r : Option Nat} (h : w.grownBy w1 r) (k : w1.grownBy w2 r) : w.grownBy w2 r :=
  ⟨k.os.trans h.os, k.tape.trans h.tape, k.output.trans h.output, Nat.le_trans h.size k.size, fun j hj hr => (k.block j (Nat.lt_of_lt_of_le hj h.size) hr).trans (h.block j hj hr)⟩
theorem rd_at {w : World} {g : Nat} {s : ByteArray} {p n : Nat} {vo : Value} (h : Lies w g 77 (rdC s p n vo)) {z : Int} (q : Nat) (hz : z = (q : Int)) : Lies (w.setCell ⟨g, 1, none⟩ (.int .i64 z)) g 77 (rdC s q n vo) := by subst hz; exact h.put 1 _
theorem rd_n {w : World} {g : Nat} {s : ByteArray} {p n : Nat} {vo : Value} (h : Lies w g 77 (rdC s p n vo)) {z : Int} (q : Nat) (hz : z = (q : Int)) : Lies (w.setCell ⟨g, 2, none⟩ (.int .i64 z)) g 77 (rdC s p q vo) := by subst hz; exact h.put 2 _
theorem rd_o {w : World} {g : Nat} {s : ByteArray} {p n : Nat} {vo : Value} (h : Lies w g 77 (rdC s p n vo)) (v : Value) : Lies (w.setCell ⟨g, 3, none⟩ v) g 77 (rdC s p n v) := h.put 3 _
theorem take_short (w : World) (g : Nat) (s : ByteArray) (n : Nat) (vo : Value) (hl : Lies w g 77 (rdC s s.size n vo)) :
    Calls Tryd.prog 67 #[.pointer (some ⟨g, 0, none⟩)] w fun e w' => e = errP 3 ∧ Below w.heap.size w w' := by
  go_enter Tryd.func67, Tryd.ntmps67
  go_wp2_with (go_at_call 61; (with_reducible refine (here_short _ g s n vo hl).mono ?_); rintro e w1 ⟨rfl, hb1⟩)
  exact ⟨rfl, rfl, hb1⟩
theorem take_ok (w : World) (g : Nat) (s : ByteArray) (p n : Nat) (vo : Value) (hl : Lies w g 77 (rdC s p n vo)) (hp : p < s.size) (hs : s.size ≤ 65536) :
    Calls Tryd.prog 67 #[.pointer (some ⟨g, 0, none⟩)] w fun e w' => e = .returned (.int .u8 (s[p].toNat : Int)) ∧ Lies w' g 77 (rdC s (p + 1) n vo) ∧ w.grownBy w' (some g) := by
  have H := here_ok w g s p n vo hl hp
  generalize s[p] = b at H ⊢
  go_enter Tryd.func67, Tryd.ntmps67
  go_upto_region 2 with (go_at_call 61; refine H.mono ?_; rintro e w1 ⟨rfl, hb1⟩)
  have hl1 := hl.on hb1
  have d1 := rd_c1 hl1
  have f1 := hl1.frozen 1
  go_wp2
  go_ret
  exact ⟨rfl, rd_at hl1 (p + 1) (by omega), grown_set g hb1 1 _⟩
theorem isDigit_any (b : UInt8) (w : World) : Calls Tryd.prog 62 #[.int .u8 (b.toNat : Int)] w fun e w' => e = .returned (.bool (isDig b)) ∧ Below w.heap.size w w' := by
  have hd : isDig b = (decide (48 ≤ (b.toNat : Int)) && decide ((b.toNat : Int) ≤ 57)) := by
    unfold isDig
    congr 1 <;> exact decide_eq_decide.2 (by omega)
  rw [hd]
  generalize (b.toNat : Int) = z
  by_cases h1 : 48 ≤ z
  · by_cases h2 : z ≤ 57
    · rw [decide_eq_true h1, decide_eq_true h2]
      go_enter Tryd.func62, Tryd.ntmps62
      go_wp2
      go_ret
      exact ⟨rfl, Below.refl _ _⟩
    · rw [decide_eq_true h1, decide_eq_false h2]
      go_enter Tryd.func62, Tryd.ntmps62
      go_wp2
      go_ret
      exact ⟨rfl, Below.refl _ _⟩
  · rw [decide_eq_false h1]
    go_enter Tryd.func62, Tryd.ntmps62
    go_wp2
    go_ret
    exact ⟨rfl, Below.refl _ _⟩
theorem endOf_map (w : World) : Calls Tryd.prog 69 #[.int .i64 4] w fun e w' => e = .returned (.int .u8 125) ∧ w' = w := by
  go_enter Tryd.func69, Tryd.ntmps69
  go_wp2
  go_ret
  exact ⟨rfl, rfl⟩
theorem endOf_list (w : World) : Calls Tryd.prog 69 #[.int .i64 3] w fun e w' => e = .returned (.int .u8 93) ∧ w' = w := by
  go_enter Tryd.func69, Tryd.ntmps69
  go_wp2
  go_ret
  exact ⟨rfl, rfl⟩
theorem marked_short (w : World) (g : Nat) (s : ByteArray) (n : Nat) (vo : Value) (hl : Lies w g 77 (rdC s s.size n vo)) :
    Calls Tryd.prog 79 #[.pointer (some ⟨g, 0, none⟩)] w fun e w' => e = errP 3 ∧ Below w.heap.size w w' := by
  go_enter Tryd.func79, Tryd.ntmps79
  go_wp2_with (go_at_call 67; (with_reducible refine (take_short _ g s n vo hl).mono ?_); rintro e w1 ⟨rfl, hb1⟩)
  exact ⟨rfl, rfl, hb1⟩
theorem marked_ok (w : World) (g : Nat) (s : ByteArray) (p n : Nat) (vo : Value) (hl : Lies w g 77 (rdC s p n vo)) (hp : p < s.size) (hs : s.size ≤ 65536) (hc : s[p] = 34 ∨ s[p] = 92) :
    Calls Tryd.prog 79 #[.pointer (some ⟨g, 0, none⟩)] w fun e w' => e = .returned (.int .u8 (s[p].toNat : Int)) ∧ Lies w' g 77 (rdC s (p + 1) n vo) ∧ w.grownBy w' (some g) := by
  have H := take_ok w g s p n vo hl hp hs
  rcases hc with hc | hc
  · rw [hc] at H ⊢
    rw [show (((34 : UInt8).toNat : Nat) : Int) = 34 from rfl] at *
    go_enter Tryd.func79, Tryd.ntmps79
    go_wp2_with (go_at_call 67; refine H.mono ?_; rintro e w1 ⟨rfl, hl1, hb1⟩)
    go_ret
    exact ⟨rfl, hl1, hb1⟩
  · rw [hc] at H ⊢
    rw [show (((92 : UInt8).toNat : Nat) : Int) = 92 from rfl] at *
    go_enter Tryd.func79, Tryd.ntmps79
    go_wp2_with (go_at_call 67; refine H.mono ?_; rintro e w1 ⟨rfl, hl1, hb1⟩)
    go_ret
    exact ⟨rfl, hl1, hb1⟩
theorem byte_ne {b c : UInt8} (h : b ≠ c) : ¬ ((b.toNat : Int) = (c.toNat : Int)) := fun e => h (UInt8.toNat_inj.1 (by omega))
theorem marked_odd (w : World) (g : Nat) (s : ByteArray) (p n : Nat) (vo : Value) (hl : Lies w g 77 (rdC s p n vo)) (hp : p < s.size) (hs : s.size ≤ 65536) (hc : s[p] ≠ 34 ∧ s[p] ≠ 92) :
    Calls Tryd.prog 79 #[.pointer (some ⟨g, 0, none⟩)] w fun e w' => e = errP 20 ∧ w.grownBy w' (some g) := by
  have H := take_ok w g s p n vo hl hp hs
  have h1 := byte_ne hc.1
  have h2 := byte_ne hc.2
  rw [show (((34 : UInt8).toNat : Nat) : Int) = 34 from rfl] at h1
  rw [show (((92 : UInt8).toNat : Nat) : Int) = 92 from rfl] at h2
  generalize ((s[p].toNat : Nat) : Int) = z at *
  have h3 : (z != 34) = true := by simpa using h1
  have h4 : (z != 92) = true := by simpa using h2
  clear h1 h2
  go_enter Tryd.func79, Tryd.ntmps79
  go_wp2_with (go_at_call 67; refine H.mono ?_; rintro e w1 ⟨rfl, hl1, hb1⟩)
  exact ⟨rfl, rfl, hb1⟩
theorem skip_no (w : World) (g : Nat) (s : ByteArray) (p n : Nat) (vo : Value) (c : UInt8) (hl : Lies w g 77 (rdC s p n vo)) (hp : p ≤ s.size) (hc : (rest s p).head? ≠ some c) :
    Calls Tryd.prog 76 #[.pointer (some ⟨g, 0, none⟩), .int .u8 (c.toNat : Int)] w fun e w' => e = .returned (.bool false) ∧ Below w.heap.size w w' := by
  have c0 := rd_c0 hl
  have c1 := rd_c1 hl
  by_cases h : p < s.size
  · rw [rest_cons h, List.head?_cons] at hc
    have h1 := byte_ne (fun e => hc (by rw [e]) : s[p] ≠ c)
    have h2 : ((s[p].toNat : Int) == (c.toNat : Int)) = false := by simpa using h1
    generalize (c.toNat : Int) = z at *
    go_enter Tryd.func76, Tryd.ntmps76
    go_upto_region 1 with fail
    go_quiet (fail)
    go_wp2
    go_ret
    exact ⟨rfl, below_drawn (Below.refl _ _) _⟩
  · have h1 : ¬ ((p : Int) < (s.size : Int)) := by omega
    go_enter Tryd.func76, Tryd.ntmps76
    go_upto_region 1 with fail
    go_quiet (fail)
    go_wp2
    go_ret
    exact ⟨rfl, below_drawn (Below.refl _ _) _⟩
theorem skip_yes (w : World) (g : Nat) (s : ByteArray) (p n : Nat) (vo : Value) (c : UInt8) (hl : Lies w g 77 (rdC s p n vo)) (hs : s.size ≤ 65536) (hp : p < s.size) (hc : s[p] = c) :
    Calls Tryd.prog 76 #[.pointer (some ⟨g, 0, none⟩), .int .u8 (c.toNat : Int)] w fun e w' => e = .returned (.bool true) ∧ Lies w' g 77 (rdC s (p + 1) n vo) ∧ w.grownBy w' (some g) := by
  have c0 := rd_c0 hl
  have c1 := rd_c1 hl
  have h2 : ((s[p].toNat : Int) == (c.toNat : Int)) = true := by rw [hc]; simp
  generalize (c.toNat : Int) = z at *
  clear hc
  go_enter Tryd.func76, Tryd.ntmps76
  go_upto_region 1 with fail
  go_quiet (fail)
  generalize hW : World.drewN _ _ = w1
  have hl1 : Lies w1 g 77 (rdC s p n vo) := by rw [← hW]; exact hl
  have hb1 : Below w.heap.size w w1 := by rw [← hW]; exact below_drawn (Below.refl _ _) _
  have d1 := rd_c1 hl1
  have f1 := hl1.frozen 1
  clear c0 c1 hW
  go_wp2
  go_ret
  exact ⟨rfl, rd_at hl1 (p + 1) (by omega), grown_set g hb1 1 _⟩
end Go.Proofs.YtnloimanklkigaaDoor.V
