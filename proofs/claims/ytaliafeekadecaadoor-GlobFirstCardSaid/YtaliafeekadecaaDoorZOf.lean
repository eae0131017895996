/- The developers' 'is one of', whole; Right, Path, Match. -/
import Derived.Test.YtaliafeekadecaaDoorZOne
namespace Go.Proofs.YtaliafeekadecaaDoor.Z
open Go.RowKit Go.Shelf
open V (Lies)
set_option maxRecDepth 100000

theorem matchL_zip : ∀ (A B : List (List UInt8)), A.length = B.length → matchL A B = (A.zip B).all fun x => gm x.1 x.2 := by
  intro A
  induction A with
  | nil => intro B h; cases B with
    | nil => rfl
    | cons b B => simp at h
  | cons a A ih => intro B h; cases B with
    | nil => simp at h
    | cons b B =>
      rw [matchL, List.zip_cons_cons, List.all_cons, ih B (by simpa using h)]
theorem matchL_len : ∀ (A B : List (List UInt8)), matchL A B = true → A.length = B.length := by
  intro A
  induction A with
  | nil => intro B h; cases B with
    | nil => rfl
    | cons b B => cases h
  | cons a A ih => intro B h; cases B with
    | nil => cases h
    | cons b B =>
      rw [matchL, Bool.and_eq_true] at h
      simp [ih B h.2]
theorem pairs_all (m p : ByteArray) : ((parts m.data.toList).zip (parts p.data.toList)).all (fun x => gm x.1 x.2) = (pairs m p).all fun x => gm x.1.data.toList x.2.data.toList := by
  unfold pairs
  rw [List.zip_map, List.all_map]
  rfl
theorem pairs_len {m p : ByteArray} {x : ByteArray × ByteArray} (h : x ∈ pairs m p) : x.1.size ≤ m.size ∧ x.2.size ≤ p.size := by
  unfold pairs at h
  obtain ⟨h1, h2⟩ := List.of_mem_zip (a := x.1) (b := x.2) h
  obtain ⟨a, ha, e1⟩ := List.mem_map.1 h1
  obtain ⟨b, hb, e2⟩ := List.mem_map.1 h2
  rw [← e1, ← e2, ← list_len (bytesOf a), ← list_len (bytesOf b), ← list_len m, ← list_len p]
  exact ⟨part_len ha, part_len hb⟩
def slashes (s : ByteArray) : Nat := s.data.toList.count 47
theorem countOne (s : ByteArray) (w : World) : Calls Tryd.prog 16 #[.string s, .string ⟨#[47]⟩] w fun e w' => e = .returned (.int .i64 (slashes s : Int)) ∧ w' = w := Tryd.strings_Count_one s 47 w
theorem enter54 : ∀ args w, (callFunc 54 args).run Tryd.prog w = .ok (.enter 54 args) w := enters_of Tryd.func54 (by kernel_rfl) rfl
attribute [local go_sem] Oper.semAt_some
set_option maxHeartbeats 6400000 in
theorem isOne_any (m p : ByteArray) (w : World) (hm : m.size ≤ 1000000) (hp : p.size ≤ 1000000) : Calls Tryd.prog 28 #[.string m, .string p] w fun e w' => e = .returned (.bool (matchG m.data.toList p.data.toList)) ∧ Below w.heap.size w w' := by
  have lR0 := Lies.new w 4 #[.bool false]
  have hb0 : Below w.heap.size w (w.alloc (.cells #[.bool false] 4)) := (Below.refl _ w).alloc (Nat.le_refl _) _
  have hz0 : (w.alloc (.cells #[.bool false] 4)).heap.size = w.heap.size + 1 := by simp
  have HC := Lib.hid (fun (s : ByteArray) (w : World) => callsIn_wide (n := 3).2 (countOne s w))
  refine (callsIn_wide (n := 4)).1 ?_
  refine callsIn_of_wp_marks Tryd.func28 rfl trivial ?_ rfl
  simp only [Tryd.ntmps28, List.size_toArray, List.length_cons, List.length_nil, Nat.reduceAdd, Nat.reduceSub, Array.replicate_succ, Array.replicate_zero, List.push_toArray, List.append_toArray, List.nil_append, List.cons_append]
  by_cases hlen : (parts m.data.toList).length = (parts p.data.toList).length
  case neg =>
    have hne : ((slashes m : Int) != (slashes p : Int)) = true := by
      rw [bne_iff_ne]
      intro e
      apply hlen
      rw [cutG_len, cutG_len]
      unfold slashes at e
      omega
    have HR := Lib.hid (show matchG m.data.toList p.data.toList = false by
      rw [Bool.eq_false_iff]
      intro h
      exact hlen (matchL_len _ _ h))
    rw [HR.out]
    clear hlen
    gi_wp2_with (refine ⟨trivial, ?_⟩; gi_at_call 16; refine (HC.out _ _).mono ?_; rintro e w1 ⟨rfl, rfl⟩)
    refine ⟨_, res_bool rfl rfl lR0, rfl, hb0⟩
  have heq : ((slashes m : Int) != (slashes p : Int)) = false := by
    rw [bne_eq_false_iff_eq]
    rw [cutG_len, cutG_len] at hlen
    unfold slashes
    omega
  have HM := Lib.hid (fun w => callsIn_wide (n := 3).2 (side_made m p w))
  obtain ⟨R, hR0⟩ : ∃ R, (pairs m p).all (fun x => gm x.1.data.toList x.2.data.toList) = R := ⟨_, rfl⟩
  have hR : matchG m.data.toList p.data.toList = R := by unfold matchG; rw [matchL_zip _ _ hlen, pairs_all, hR0]
  rw [hR]
  have HR := Lib.hid hR0
  have HL := Lib.hid hlen
  clear hR0 hR hlen
  gi_wp2_with (first
    | (refine ⟨trivial, ?_⟩; gi_at_call 16; refine (HC.out _ _).mono ?_; rintro e w1 ⟨rfl, rfl⟩)
    | (refine ⟨trivial, ?_⟩; gi_at_call 41; refine (HM.out _).mono ?_; rintro e w1 ⟨rfl, c0, c1, hz1, hb1⟩))
  rw [hz0] at c0 c1 hz1
  have lR1 := lR0.on hb1
  have hb : Below w.heap.size w w1 := hb0.trans (hb1.mono hb0.size)
  clear hb0 hb1 lR0 HM HC hz0
  generalize w.alloc (.cells #[.bool false] 4) = w0 at *
  refine run_over (gf := 54) (lb := #[.pointer (some ⟨w.heap.size + 1, 0, none⟩), .pointer (some ⟨w.heap.size + 1 + 1, 0, none⟩)]) rfl enter54 (side_hands m p hm hp HL.out w1 (w.heap.size + 1) c0 c1) (Nat.le_refl _) (by omega) (by omega) (fun _ => rfl)
    (fun pre W => (∀ x ∈ pre, gm x.1.data.toList x.2.data.toList = true) ∧ Lies W w.heap.size 4 #[.bool false] ∧ Below w.heap.size w W)
    (fun pre W => (∃ x ∈ pre, gm x.1.data.toList x.2.data.toList = false) ∧ Lies W w.heap.size 4 #[.bool false] ∧ Below w.heap.size w W)
    (fun pre A B hb h => ⟨h.1, h.2.1.below hb (by omega), h.2.2.trans (hb.mono (by omega))⟩)
    (fun pre A B hb h => ⟨h.1, h.2.1.below hb (by omega), h.2.2.trans (hb.mono (by omega))⟩)
    ⟨fun x hx => (by cases hx), lR1, hb⟩
    (fun x => { tmps := #[.string m, .string p, undef, undef, .pointer (some ⟨w.heap.size, 0, none⟩), .string x.1, .string x.2, .string m, .int .i64 (slashes m), .string p, .int .i64 (slashes p), .bool false, .string m, .string p, .func (.func 54) #[] #[.pointer (some ⟨w.heap.size + 1, 0, none⟩), .pointer (some ⟨w.heap.size + 1 + 1, 0, none⟩)], .string x.1, .string x.2, undef, undef, undef, undef], defers := [] }) ?assign ?body ?done ?stop
  case assign =>
    intro l x W K hK
    gi_wp2
    exact hK
  case body =>
    rintro l pre x W ⟨g1, g3, g4⟩ hx hW
    obtain ⟨hx1, hx2⟩ := pairs_len hx
    clear hx
    have r0 := g3.cell 0
    simp only [List.getElem?_toArray, List.getElem?_cons_zero] at r0
    have f0 := g3.frozen 0
    have HO := Lib.hid (fun w => callsIn_wide (n := 1).2 (covers_any x.1 x.2 w (by omega) (by omega)))
    obtain ⟨x1, x2⟩ := x
    simp only at HO hx1 hx2
    obtain ⟨b0, h0⟩ : ∃ b, gm x1.data.toList x2.data.toList = b := ⟨_, rfl⟩
    rw [h0] at HO
    have HG := Lib.hid h0
    have HB := Lib.hid g1
    clear h0 g1
    cases b0 with
    | true =>
      gi_wp2_with (refine ⟨trivial, ?_⟩; gi_at_call 42; refine (CallsIn.inRound l (HO.out _)).mono ?_; rintro e w2 ⟨rfl, hb2⟩)
      refine ⟨Spares.of_below hb2, fun y hy => ?_, g3.on hb2, g4.trans (hb2.mono (by omega))⟩
      rcases List.mem_append.1 hy with hy | hy
      · exact HB.out y hy
      · rw [List.mem_singleton.1 hy]; exact HG.out
    | false =>
      gi_wp2_with (refine ⟨trivial, ?_⟩; gi_at_call 42; refine (CallsIn.inRound l (HO.out _)).mono ?_; rintro e w2 ⟨rfl, hb2⟩; have g5 := g3.on hb2; have p0 := g5.cell 0; have p1 := g5.frozen 0; simp only [List.getElem?_toArray, List.getElem?_cons_zero] at p0)
      refine ⟨(Spares.of_below hb2).trans (Spares.set w2 (by omega) 0 _), ⟨(x1, x2), by simp, HG.out⟩, setR g5 _, ?_⟩
      exact (g4.trans (hb2.mono (by omega))).trans (show Below w.heap.size w2 (w2.setCell ⟨w.heap.size, 0, none⟩ (.bool false)) from ⟨rfl, rfl, rfl, by simp, fun k hk => Below.heap_setCell w2 ⟨w.heap.size, 0, none⟩ _ k (by simp only; omega)⟩)
  case done =>
    rintro D W ⟨g1, g3, g4⟩ hD hK
    have r0 := g3.cell 0
    simp only [List.getElem?_toArray, List.getElem?_cons_zero] at r0
    have f0 := g3.frozen 0
    have HB := Lib.hid g1
    clear g1
    gi_wp2
    have lR9 := setR g3 (.bool true)
    have lR10 := lR9.below (putObj_below (W := W.setCell ⟨w.heap.size, 0, none⟩ (.bool true)) (show w.heap.size + 1 ≤ D from hD) (.deferred none)) (by omega)
    refine ⟨by simp, .inl ⟨_, _, rfl, run_takeDeferred ((Below.heap_setCell W ⟨w.heap.size, 0, none⟩ _ D (by simp only; omega)).trans hK), _, res_bool rfl rfl lR10, ?_, ?_⟩⟩
    · rw [← HR.out, List.all_eq_true.2]
      intro x hx
      exact HB.out x hx
    · exact (g4.trans (show Below w.heap.size W (W.setCell ⟨w.heap.size, 0, none⟩ (.bool true)) from ⟨rfl, rfl, rfl, by simp, fun k hk => Below.heap_setCell W ⟨w.heap.size, 0, none⟩ _ k (by simp only; omega)⟩)).trans (putObj_below (by omega) _)
  case stop =>
    rintro D pre W hpre ⟨⟨x, hx, hg⟩, g3, g4⟩ hD hK
    gi_wp2
    refine ⟨by simp, .inl ⟨_, _, rfl, run_takeDeferred hK, _, res_bool rfl rfl (g3.below (putObj_below (show w.heap.size + 1 ≤ D from hD) _) (by omega)), ?_, g4.trans (putObj_below (by omega) _)⟩⟩
    have : (pairs m p).all (fun x => gm x.1.data.toList x.2.data.toList) = false := Bool.eq_false_iff.2 (fun h => by
      have := List.all_eq_true.1 h x (hpre.subset hx)
      rw [hg] at this
      cases this)
    rw [← HR.out, this]
end Go.Proofs.YtaliafeekadecaaDoor.Z
