/- The contracts of the program's squared, ones, power, Inv and even. -/
import Derived.Test.YtlbhlklgliblgaaDoorFMul
import Derived.Test.YtlbhlklgliblgaaDoorFSub
import Derived.Test.YtlbhlklgliblgaaDoorFPow
import Derived.Test.YtlbhlklgliblgaaDoorRegionA
import Derived.Test.YtlbhlklgliblgaaDoorFRoots
namespace Go.Proofs.YtlbhlklgliblgaaDoor.F
open Go.RowKit Go.Sort
attribute [local irreducible] feA

/-- a number is read in the head of a region that draws its order -/
theorem wpQB_fe {w0 : World} {Q : Act → Prop} {a : Act} {rest : List Oper} {t' : TypeId} {pos : String} {after : Array Edge} {d : Option Tmp} {x : Operand} (g n : Nat) (hz : Lies w0 g 24 (feA n)) (hx : a.eval x = .pointer (some ⟨g, 0, none⟩))
    (h : wpQB Tryd.prog w0 Q rest (a.put d (fe n))) : wpQB Tryd.prog w0 Q (⟨d, .load 24 x, t', pos, after, none⟩ :: rest) a :=
  wpQB_load g 24 (feA n) _ Tryd.underlying24 rfl (by rw [feA_size]; exact rowFe.2) hz hx h

set_option maxRecDepth 100000 in
set_option maxHeartbeats 800000 in
theorem squared_any (x t : Nat) (W : World) (hx : x < K256) (ht : t ≤ 1000) (hT : Tab W) :
    Calls Tryd.prog 40 #[fe x, .int .i64 (t : Int)] W fun e w' => e = .returned (fe (sqL x t)) ∧ Below W.heap.size W w' := by
  have hT0 := Lib.hid hT
  clear hT
  go_enter Tryd.func40, Tryd.ntmps40
  have hz := (Lies.new W 24 (feA x)).alloc (.cells fe0A 24)
  have hr : Lies ((W.alloc (.cells (feA x) 24)).alloc (.cells fe0A 24)) (W.heap.size + 1) 24 fe0A := heap_alloc2_new W _ _
  have hB := ((Below.refl W.heap.size W).alloc (Nat.le_refl _) (.cells (feA x) 24)).alloc (by simp) (.cells fe0A 24)
  go_upto_region 1 with fail
  generalize World.alloc (World.alloc W _) _ = w0 at *
  go_wp2_with fail
  go_loopw [6] (fun ix wr => ∃ i : Nat, i ≤ t ∧ ix = .int .i64 (i : Int) ∧ Lies wr W.heap.size 24 (feA (sqL x i)) ∧ Lies wr (W.heap.size + 1) 24 fe0A ∧ Below W.heap.size W wr) (fun ix _ => t - (intOf ix).toNat)
  case atStart => exact ⟨0, Nat.zero_le _, rfl, hz, hr, hB⟩
  case round =>
    clear hz hr hB
    obtain ⟨i, hi, rfl, hz, hr, hB⟩ := hrel
    have hT := hT0.out.on hB
    by_cases hlt : i < t
    · have hv := sqL_lt x i hx
      have HM := Lib.hid (fun w hT => mul_any (sqL x i) (sqL x i) w hv hv hT)
      rw [sqL_step] at HM
      generalize sqL x i = v at *
      obtain ⟨u, hu⟩ : ∃ u, sqL x (i + 1) = u := ⟨_, rfl⟩
      rw [hu] at HM
      have HU := Lib.hid hu
      have hii : (i : Int) < (t : Int) := by omega
      clear hu hv
      go_wp2_with (first
        | ((with_reducible refine wpL_load W.heap.size 24 (feA v) 4 rowFe (feA_size _) hz ?_ ?_); rfl)
        | (go_at_call 17; refine (HM.out _ hT).mono ?_; rintro e w1 ⟨rfl, hb⟩; replace hz := hz.on hb; replace hr := hr.on hb; replace hB := below_on hB hb; clear hb)
        | ((with_reducible refine wpL_store W.heap.size 24 _ (feA u) 4 rowFe (feA_size _) (feA_size _) (feA_one _) hz ?_ ?_ ?_); rfl; rfl))
      go_roundw
      case rel => exact ⟨i + 1, by omega, by go_num, by rw [HU.out]; exact hz.row _, hr.rowFar (by omega) _, below_rowSet hB (Nat.le_refl _) _⟩
      case measure => simp [intOf]; omega
    · obtain rfl : i = t := by omega
      have hii : ¬ (i : Int) < (i : Int) := by omega
      obtain ⟨u, hu⟩ : ∃ u, sqL x i = u := ⟨_, rfl⟩
      rw [hu] at hz
      have HU := Lib.hid hu
      clear hu
      go_wp2_with (first
        | ((with_reducible refine wpL_load W.heap.size 24 (feA u) 4 rowFe (feA_size _) hz ?_ ?_); rfl)
        | ((with_reducible refine wpL_store (W.heap.size + 1) 24 _ (feA u) 4 rowFe rfl (feA_size _) (feA_one _) hr ?_ ?_ ?_); rfl; rfl))
      exact bodyPost_ret (results_row Tryd.results40 rowFe (feA_size _) (hr.row _) rfl) rfl ⟨by rw [HU.out], below_rowSet hB (Nat.le_succ _) _⟩

set_option maxRecDepth 100000 in
set_option maxHeartbeats 800000 in
theorem even_any (r : Nat) (W : World) (hr : r < p25) (hT : Tab W) :
    Calls Tryd.prog 42 #[fe r] W fun e w' => e = .returned (fe (evN r)) ∧ Below W.heap.size W w' := by
  have hT0 := Lib.hid hT
  have hrK := below_K hr
  have HS := Lib.hid (fun w hT => sub_any 0 r w (by decide) hrK hT)
  have HO : ∀ w, Calls Tryd.prog 10 #[.int .u64 0] w fun e w' => e = .returned (fe 0) ∧ Below w.heap.size w w' := fun w => of_any 0 w (by decide)
  obtain ⟨u, hu⟩ : ∃ u, (0 + (p25 - r % p25)) % p25 = u := ⟨_, rfl⟩
  obtain ⟨v, hv⟩ : ∃ v, evN r = v := ⟨_, rfl⟩
  have hcase : (r % 2 = 1 ∧ v = u) ∨ (r % 2 = 0 ∧ v = r) := by
    rw [← hv, ← hu]
    unfold evN
    split
    · exact .inl ⟨by assumption, rfl⟩
    · exact .inr ⟨by omega, rfl⟩
  rw [hu] at HS
  rw [hv]
  clear hu hv hT hrK hr
  go_enter Tryd.func42, Tryd.ntmps42
  have hz := (Lies.new W 24 (feA r)).alloc (.cells fe0A 24)
  have hr : Lies ((W.alloc (.cells (feA r) 24)).alloc (.cells fe0A 24)) (W.heap.size + 1) 24 fe0A := heap_alloc2_new W _ _
  have hB := ((Below.refl W.heap.size W).alloc (Nat.le_refl _) (.cells (feA r) 24)).alloc (by simp) (.cells fe0A 24)
  go_upto_region 1 with fail
  generalize World.alloc (World.alloc W _) _ = w0 at *
  obtain ⟨a, b, c, d, ha, ha2, haK⟩ := word_low r
  have hz' := hz
  rw [ha] at hz'
  have c0 := hz'.cell 0
  clear hz'
  rcases hcase with ⟨h1, rfl⟩ | ⟨h1, rfl⟩
  · have ha1 : (a : Int) % 2 = 1 := by omega
    have cS := fun w (h : Below w0.heap.size w0 w) => HS.out w ((hT0.out.on hB).on h)
    clear HS h1 ha2 ha hT0
    go_upto_region 2 with fail
    refine wp_region_plain 3 (by kernel_rfl) (by kernel_rfl) ?_
    simp only [List.take_succ_cons, List.take_zero, List.drop_succ_cons, List.drop_zero]
    refine wpQB_call 10 #[.int .u64 0] (fe 0) rfl rfl (fun _ => by kernel_rfl) (fun w _ => HO w) ?_
    refine wpQB_fe W.heap.size r hz rfl ?_
    refine wpQB_call 15 #[fe 0, fe r] (fe v) rfl rfl (fun _ => by kernel_rfl) (fun w h => cS w h) ?_
    refine wpQB_nil ?_
    intro w1 hb
    replace hr := hr.on hb
    replace hB := below_on hB hb
    clear hb
    go_wp2_with ((with_reducible refine wpL_store (W.heap.size + 1) 24 _ (feA v) 4 rowFe rfl (feA_size _) (feA_one _) hr ?_ ?_ ?_); rfl; rfl)
    exact bodyPost_ret (results_row Tryd.results42 rowFe (feA_size _) (hr.row _) rfl) rfl ⟨rfl, below_rowSet hB (Nat.le_succ _) _⟩
  · have ha1 : (a : Int) % 2 = 0 := by omega
    clear HS h1 ha2 ha hT0 HO
    go_wp2_with (first
      | ((with_reducible refine wpL_load W.heap.size 24 (feA v) 4 rowFe (feA_size _) hz ?_ ?_); rfl)
      | ((with_reducible refine wpL_store (W.heap.size + 1) 24 _ (feA v) 4 rowFe rfl (feA_size _) (feA_one _) hr ?_ ?_ ?_); rfl; rfl))
    exact bodyPost_ret (results_row Tryd.results42 rowFe (feA_size _) (hr.row _) rfl) rfl ⟨rfl, below_rowSet hB (Nat.le_succ _) _⟩
end Go.Proofs.YtlbhlklgliblgaaDoor.F
