/- The developers' 'may be': all parts of a text are right. -/
import Derived.Test.YtaliafeekadecaaDoorZSplit
namespace Go.Proofs.YtaliafeekadecaaDoor.Z
open Go.RowKit Go.Shelf
open V (Lies)
set_option maxRecDepth 100000
attribute [local go_sem] Oper.semAt_some

/-- of these bytes, and none that may not stand as a part -/
def goodP (t : List UInt8) (p : List UInt8) : Bool := okPart p && p.all fun c => decide (0 ≤ Lib.indexByte t c)
def mayD (t s : List UInt8) : Bool := decide (s.length ≤ 200) && (parts s).all (goodP t)
theorem part_len {s p : List UInt8} (h : p ∈ parts s) : p.length ≤ s.length := by
  have : ∀ (s acc : List UInt8), ∀ p ∈ cutG acc s, p.length ≤ acc.length + s.length := by
    intro s
    induction s with
    | nil =>
      intro acc p hp
      rw [cutG, List.mem_singleton] at hp
      rw [hp]
      simp
    | cons c s ih =>
      intro acc p hp
      rw [cutG] at hp
      by_cases hc : c = 47
      · rw [if_pos hc] at hp
        rcases List.mem_cons.1 hp with rfl | hp
        · simp
        · have := ih [] p hp
          simp at this ⊢
          omega
      · rw [if_neg hc] at hp
        have := ih _ p hp
        simp at this ⊢
        omega
  simpa using this s [] p h
theorem res_bool {fn : Func} {p : Tmp} {tmps : Array Value} {w : World} {g : Nat} {v : Value} (hr : fn.results = #[.cell p 4]) (hp : tmps.getD p undef = .pointer (some ⟨g, 0, none⟩)) (hc : Lies w g 4 #[v]) : (results fn tmps).run Tryd.prog w = .ok v w := by
  have hq := hc.cell 0
  simp only [List.getElem?_toArray, List.getElem?_cons_zero] at hq
  have hp' : tmps[p]?.getD undef = .pointer (some ⟨g, 0, none⟩) := by simpa using hp
  simp [results, hr, hp', asAddr, loadVar, go_sem, hq]
theorem putObj_below {B D : Nat} {W : World} (h : B ≤ D) (o : Obj) : Below B W (W.putObj D o) := ⟨rfl, rfl, rfl, by simp, fun k hk => World.putObj_heap_other (by omega)⟩
theorem enter73 : ∀ args w, (callFunc 73 args).run Tryd.prog w = .ok (.enter 73 args) w := enters_of Tryd.func73 (by kernel_rfl) rfl
set_option maxHeartbeats 6400000 in
theorem mayBe_any (s t : ByteArray) (w : World) (hs : s.size ≤ 1000000) : Calls Tryd.prog 29 #[.string s, .string t] w fun e w' => e = .returned (.bool (mayD t.data.toList s.data.toList)) ∧ Below w.heap.size w w' := by
  have hl := list_len s
  have lt0 := (Lies.new w 9 #[.string t]).alloc (.cells #[.bool false] 4)
  have lR0 := Lies.new (w.alloc (.cells #[.string t] 9)) 4 #[.bool false]
  have e1 : (w.alloc (.cells #[.string t] 9)).heap.size = w.heap.size + 1 := by simp
  rw [e1] at lR0
  have hb0 : Below w.heap.size w ((w.alloc (.cells #[.string t] 9)).alloc (.cells #[.bool false] 4)) := ((Below.refl _ w).alloc (Nat.le_refl _) _).alloc (by simp) _
  have hz0 : ((w.alloc (.cells #[.string t] 9)).alloc (.cells #[.bool false] 4)).heap.size = w.heap.size + 2 := by simp
  refine (callsIn_wide (n := 4)).1 ?_
  refine callsIn_of_wp_marks Tryd.func29 rfl trivial ?_ rfl
  simp only [Tryd.ntmps29, List.size_toArray, List.length_cons, List.length_nil, Nat.reduceAdd, Nat.reduceSub, Array.replicate_succ, Array.replicate_zero, List.push_toArray, List.append_toArray, List.nil_append, List.cons_append]
  by_cases hlen : s.size ≤ 200
  case neg =>
    have h1 : (200 : Int) < (s.size : Int) := by omega
    gi_wp2
    refine ⟨_, res_bool rfl rfl lR0, ?_, hb0⟩
    unfold mayD
    rw [hl, decide_eq_false hlen]
    rfl
  have h1 : ¬ (200 : Int) < (s.size : Int) := by omega
  have HM := Lib.hid (fun w => callsIn_wide (n := 3).2 (split_made s w))
  have hR : mayD t.data.toList s.data.toList = (parts s.data.toList).all (goodP t.data.toList) := by unfold mayD; rw [hl, decide_eq_true hlen, Bool.true_and]
  rw [hR]
  clear hR
  obtain ⟨R, hR0⟩ : ∃ R, (parts s.data.toList).all (goodP t.data.toList) = R := ⟨_, rfl⟩
  rw [hR0]
  have HR := Lib.hid hR0
  clear hR0
  gi_wp2_with (refine ⟨trivial, ?_⟩; gi_at_call 43; refine (HM.out _).mono ?_; rintro e w1 ⟨rfl, c0, c1, c2, hz1, hb1⟩)
  rw [hz0] at c0 c1 c2 hz1
  have lt1 := lt0.on hb1
  have lR1 := lR0.on hb1
  have hb : Below w.heap.size w w1 := hb0.trans (hb1.mono hb0.size)
  clear hb0 hb1 lt0 lR0 HM e1 hz0 h1
  generalize (w.alloc (.cells #[.string t] 9)).alloc (.cells #[.bool false] 4) = w0 at *
  refine run_over (gf := 73) (lb := #[.pointer (some ⟨w.heap.size + 2 + 1, 0, none⟩), .pointer (some ⟨w.heap.size + 2, 0, none⟩), .pointer (some ⟨w.heap.size + 2 + 2, 0, none⟩)]) rfl enter73 (split_hands s hs w1 (w.heap.size + 2) c0 c1 c2) (Nat.le_refl _) (by omega) (by omega) (fun _ => rfl)
    (fun pre W => (∀ x ∈ pre, goodP t.data.toList x.data.toList = true) ∧ Lies W w.heap.size 9 #[.string t] ∧ Lies W (w.heap.size + 1) 4 #[.bool false] ∧ Below w.heap.size w W)
    (fun pre W => (∃ x ∈ pre, goodP t.data.toList x.data.toList = false) ∧ Lies W (w.heap.size + 1) 4 #[.bool false] ∧ Below w.heap.size w W)
    (fun pre A B hb h => ⟨h.1, h.2.1.below hb (by omega), h.2.2.1.below hb (by omega), h.2.2.2.trans (hb.mono (by omega))⟩)
    (fun pre A B hb h => ⟨h.1, h.2.1.below hb (by omega), h.2.2.trans (hb.mono (by omega))⟩)
    ⟨fun x hx => (by cases hx), lt1, lR1, hb⟩
    (fun x => { tmps := #[.string s, .string t, undef, .pointer (some ⟨w.heap.size, 0, none⟩), .pointer (some ⟨w.heap.size + 1, 0, none⟩), .string x, .string s, .int .i64 s.size, .bool false, .string s, .func (.func 73) #[] #[.pointer (some ⟨w.heap.size + 2 + 1, 0, none⟩), .pointer (some ⟨w.heap.size + 2, 0, none⟩), .pointer (some ⟨w.heap.size + 2 + 2, 0, none⟩)], .string x, undef, undef, undef, undef, undef, undef, undef, undef, undef, undef, undef, undef, undef, undef, undef, undef], defers := [] }) ?assign ?body ?done ?stop
  case assign =>
    intro l x W K hK
    gi_wp2
    exact hK
  case body =>
    rintro l pre x W ⟨g1, g2, g3, g4⟩ hx hW
    have hxs : x.size ≤ 1000000 := by
      obtain ⟨p, hp, rfl⟩ := List.mem_map.1 hx
      have := part_len hp
      have e : (bytesOf p).size = p.length := by rw [← list_len]; rfl
      omega
    clear hx
    have q0 := g2.cell 0
    simp only [List.getElem?_toArray, List.getElem?_cons_zero] at q0
    have HO := Lib.hid (fun w => callsIn_wide (n := 1).2 (isOf_any x t w hxs))
    have r0 := g3.cell 0
    simp only [List.getElem?_toArray, List.getElem?_cons_zero] at r0
    have f0 := g3.frozen 0
    obtain ⟨b0, h0⟩ : ∃ b, decide (x.data.toList = []) = b := ⟨_, rfl⟩
    obtain ⟨b1, h1⟩ : ∃ b, decide (x.data.toList = [46]) = b := ⟨_, rfl⟩
    obtain ⟨b2, h2⟩ : ∃ b, decide (x.data.toList = [46, 46]) = b := ⟨_, rfl⟩
    obtain ⟨b3, h3⟩ : ∃ b, (x.data.toList.all fun c => decide (0 ≤ Lib.indexByte t.data.toList c)) = b := ⟨_, rfl⟩
    rw [h3] at HO
    have hg : goodP t.data.toList x.data.toList = (!(b0 || b1 || b2) && b3) := by unfold goodP okPart; rw [h0, h1, h2, h3]
    have k0 : x.toList.isEmpty = b0 := by rw [Lib.toList_data, ← h0]; cases x.data.toList <;> simp
    have k1 : (x.toList == [46]) = b1 := by rw [Lib.toList_data, ← h1]; by_cases h : x.data.toList = [46] <;> simp [h]
    have k2 : (x.toList == [46, 46]) = b2 := by rw [Lib.toList_data, ← h2]; by_cases h : x.data.toList = [46, 46] <;> simp [h]
    have HG := Lib.hid hg
    clear h0 h1 h2 h3 hg
    have HB := Lib.hid g1
    clear g1
    have hset : Below w.heap.size W (W.setCell ⟨w.heap.size + 1, 0, none⟩ (.bool false)) := ⟨rfl, rfl, rfl, by simp, fun k hk => Below.heap_setCell W ⟨w.heap.size + 1, 0, none⟩ _ k (by simp only; omega)⟩
    have gR : Lies (W.setCell ⟨w.heap.size + 1, 0, none⟩ (.bool false)) (w.heap.size + 1) 4 #[.bool false] := setR g3 _
    have hsp : Spares (w.heap.size + 2) W (W.setCell ⟨w.heap.size + 1, 0, none⟩ (.bool false)) := Spares.set W (by omega) 0 _
    have bad : goodP t.data.toList x.data.toList = false → ∃ y ∈ pre ++ [x], goodP t.data.toList y.data.toList = false := fun h => ⟨x, by simp, h⟩
    have HBad := Lib.hid bad
    clear bad
    cases b0 with
    | true =>
      gi_wp2_with (refine ⟨trivial, ?_⟩)
      exact ⟨hsp, HBad.out (by rw [HG.out]; rfl), gR, g4.trans hset⟩
    | false =>
      cases b1 with
      | true =>
        gi_wp2_with (refine ⟨trivial, ?_⟩)
        exact ⟨hsp, HBad.out (by rw [HG.out]; rfl), gR, g4.trans hset⟩
      | false =>
        cases b2 with
        | true =>
          gi_wp2_with (refine ⟨trivial, ?_⟩)
          exact ⟨hsp, HBad.out (by rw [HG.out]; rfl), gR, g4.trans hset⟩
        | false =>
          cases b3 with
          | false =>
            gi_wp2_with (refine ⟨trivial, ?_⟩; gi_at_call 44; refine (CallsIn.inRound l (HO.out _)).mono ?_; rintro e w2 ⟨rfl, rfl⟩)
            exact ⟨hsp, HBad.out (by rw [HG.out]; rfl), gR, g4.trans hset⟩
          | true =>
            gi_wp2_with (refine ⟨trivial, ?_⟩; gi_at_call 44; refine (CallsIn.inRound l (HO.out _)).mono ?_; rintro e w2 ⟨rfl, rfl⟩)
            refine ⟨Spares.refl _ _, fun y hy => ?_, g2, g3, g4⟩
            rcases List.mem_append.1 hy with hy | hy
            · exact HB.out y hy
            · rw [List.mem_singleton.1 hy, HG.out]; rfl
  case done =>
    rintro D W ⟨g1, g2, g3, g4⟩ hD hK
    have r0 := g3.cell 0
    simp only [List.getElem?_toArray, List.getElem?_cons_zero] at r0
    have f0 := g3.frozen 0
    have HB := Lib.hid g1
    clear g1
    gi_wp2
    have lR9 := setR g3 (.bool true)
    have lR10 := lR9.below (putObj_below (W := W.setCell ⟨w.heap.size + 1, 0, none⟩ (.bool true)) (show w.heap.size + 2 ≤ D from hD) (.deferred none)) (by omega)
    refine ⟨by simp, .inl ⟨_, _, rfl, run_takeDeferred ((Below.heap_setCell W ⟨w.heap.size + 1, 0, none⟩ _ D (by simp only; omega)).trans hK), _, res_bool rfl rfl lR10, ?_, ?_⟩⟩
    · rw [← HR.out, List.all_eq_true.2]
      intro p hp
      exact HB.out _ (List.mem_map.2 ⟨p, hp, rfl⟩)
    · exact (g4.trans (show Below w.heap.size W (W.setCell ⟨w.heap.size + 1, 0, none⟩ (.bool true)) from ⟨rfl, rfl, rfl, by simp, fun k hk => Below.heap_setCell W ⟨w.heap.size + 1, 0, none⟩ _ k (by simp only; omega)⟩)).trans (putObj_below (by omega) _)
  case stop =>
    rintro D pre W hpre ⟨⟨x, hx, hg⟩, g3, g4⟩ hD hK
    gi_wp2
    refine ⟨by simp, .inl ⟨_, _, rfl, run_takeDeferred hK, _, res_bool rfl rfl (g3.below (putObj_below (show w.heap.size + 2 ≤ D from hD) _) (by omega)), ?_, g4.trans (putObj_below (by omega) _)⟩⟩
    obtain ⟨p, hp, rfl⟩ := List.mem_map.1 (hpre.subset hx)
    have : (parts s.data.toList).all (goodP t.data.toList) = false := Bool.eq_false_iff.2 (fun h => by
      have := List.all_eq_true.1 h p hp
      rw [show goodP t.data.toList p = false from hg] at this
      cases this)
    rw [← HR.out, this]
end Go.Proofs.YtaliafeekadecaaDoor.Z
