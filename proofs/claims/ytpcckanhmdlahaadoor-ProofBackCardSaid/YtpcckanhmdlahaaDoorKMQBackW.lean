/- The walk of the statement of paths and steps of leaves: whatever data and numbers, it answers true. -/
import Derived.Test.YtpcckanhmdlahaaDoorK8
import Derived.Deep.CutRange
import Derived.Deep.CutBlock
namespace Go.Proofs.YtpcckanhmdlahaaDoor.Q
open Go.RowKit Go.Sort Go.Proofs.YtpcckanhmdlahaaDoor.U Go.Proofs.YtpcckanhmdlahaaDoor.R
set_option maxRecDepth 100000

section
variable {a : Act} {d : Option Tmp} {x y : Operand} {t' : TypeId} {pos : String} {after : Array Edge} {gd : Option (Nat × Bool)} {r : TypeId}
theorem run_remI (p q c : Int) (hq : q ≠ 0) (hc : Int.tmod p q = c) (hx : a.eval x = .int .i64 p) (hy : a.eval y = .int .i64 q) (w : World) :
    (execOp a.eval ⟨d, .binOp .rem 3 x y r, t', pos, after, gd⟩).run Tryd.prog w = .ok (.value (.int .i64 c)) w := by
  subst hc
  unfold execOp
  simp only [hx, hy]
  simp [go_sem, hq]
theorem run_addI (p q : Int) (h1 : -9000000000000000000 ≤ p + q) (h2 : p + q ≤ 9000000000000000000) (hx : a.eval x = .int .i64 p) (hy : a.eval y = .int .i64 q) (w : World) :
    (execOp a.eval ⟨d, .binOp .add 3 x y r, t', pos, after, gd⟩).run Tryd.prog w = .ok (.value (.int .i64 (p + q))) w := by
  have h3 : IntKind.i64.wrap (p + q) = p + q := by rw [IntKind.wrap_i64]; omega
  unfold execOp
  simp only [hx, hy]
  simp [go_sem, h3]
theorem run_headS (b off n c k : Nat) (hk : k ≤ c) (hx : a.eval x = .slice (some ⟨b, off, none⟩) n c) (hy : a.eval y = .int .i64 (k : Int)) (w : World) :
    (execOp a.eval ⟨d, .slice 22 x none (some y) none, t', pos, after, gd⟩).run Tryd.prog w = .ok (.value (.slice (some ⟨b, off, none⟩) k c)) w := by
  unfold execOp
  simp only [hx, hy, Option.map_some, Option.map_none]
  simp [Instr.sliceAt, run_underlying Tryd.underlying22, go_sem]
  omega
theorem run_lenR (s : Option Addr) (n c : Nat) (hx : a.eval x = .slice s n c) (w : World) :
    (execOp a.eval ⟨d, .call { callee := .builtin .len, args := #[x], argTypes := #[22] }, t', pos, after, gd⟩).run Tryd.prog w = .ok (.value (.int .i64 (n : Int))) w := by
  have hr : (Builtin.len_ #[22] t' #[.slice s n c]).run Tryd.prog w = .ok (.int .i64 (n : Int)) w := by simp [go_sem]
  simp [execOp, resolve, invoke, builtin, hx, hr, Result.andThen]
theorem run_gtr1 (n : Nat) (hn : 0 < n) (hx : a.eval x = .int .i64 (n : Int)) (w : World) :
    (execOp a.eval ⟨d, .binOp .gtr 3 x (.const (.int .i64 0)) r, t', pos, after, gd⟩).run Tryd.prog w = .ok (.value (.bool true)) w := by
  have h2 : a.eval (.const (.int .i64 0)) = .int .i64 0 := rfl
  unfold execOp
  simp only [hx, h2]
  simp [go_sem]
  omega
theorem run_gtr0 (hx : a.eval x = .int .i64 ((0 : Nat) : Int)) (w : World) :
    (execOp a.eval ⟨d, .binOp .gtr 3 x (.const (.int .i64 0)) r, t', pos, after, gd⟩).run Tryd.prog w = .ok (.value (.bool false)) w := by
  have h2 : a.eval (.const (.int .i64 0)) = .int .i64 0 := rfl
  unfold execOp
  simp only [hx, h2]
  simp [go_sem]
theorem run_gtrZ (n : Nat) (hn : n = 0) (hx : a.eval x = .int .i64 (n : Int)) (w : World) :
    (execOp a.eval ⟨d, .binOp .gtr 3 x (.const (.int .i64 0)) r, t', pos, after, gd⟩).run Tryd.prog w = .ok (.value (.bool false)) w := by
  subst hn
  exact run_gtr0 hx w
theorem run_eqlI1 (q : Nat) (hq : q = 0) (hx : a.eval x = .int .i64 (q : Int)) (w : World) :
    (execOp a.eval ⟨d, .binOp .eql 3 x (.const (.int .i64 0)) r, t', pos, after, gd⟩).run Tryd.prog w = .ok (.value (.bool true)) w := by
  subst hq
  have h2 : a.eval (.const (.int .i64 0)) = .int .i64 0 := rfl
  unfold execOp
  simp only [hx, h2]
  simp [go_sem]
theorem run_eqlI0 (q : Nat) (hq : 0 < q) (hx : a.eval x = .int .i64 (q : Int)) (w : World) :
    (execOp a.eval ⟨d, .binOp .eql 3 x (.const (.int .i64 0)) r, t', pos, after, gd⟩).run Tryd.prog w = .ok (.value (.bool false)) w := by
  have h2 : a.eval (.const (.int .i64 0)) = .int .i64 0 := rfl
  have h3 : ((q : Int) == 0) = false := by simp; omega
  unfold execOp
  simp only [hx, h2]
  simp [go_sem, h3]
end
/-- 'append(x, v...)', where the call owns x: nothing but its block is written -/
theorem wpL_joinG {ops : Array Oper} {rest : List Oper} {a : Act} {w : World} {Q : Exit → Act → World → Prop} {t' : TypeId} {pos : String} {after : Array Edge} {d : Option Tmp} {x y : Tmp}
    (B g0 : Nat) (hown0 : w.ownsRow B 9 1 (.slice (some ⟨g0, 0, none⟩) 0 0) 0 []) (hB : B ≤ w.heap.size)
    (a' : Option Addr) (c' : Nat) (ps : List (List UInt8)) (hv : Strs w (.slice a' ps.length c') ps) (hps : ps.length ≤ 100000)
    (hs : a.eval (.tmp x) = .slice (some ⟨g0, 0, none⟩) 0 0) (hx : a.eval (.tmp y) = .slice a' ps.length c')
    (h : ∀ g2 c2 w', Own w' B (.slice (some ⟨g2, 0, none⟩) ps.length c2) ps → w.grownBy w' (some g0) → Below B w w' → wpList Tryd.prog ops Q rest (a.put d (.slice (some ⟨g2, 0, none⟩) ps.length c2)) w') :
    wpList Tryd.prog ops Q (⟨d, .call { callee := .builtin .append, args := #[.tmp x, .tmp y], argTypes := #[22, 22] }, t', pos, after, none⟩ :: rest) a w := by
  obtain ⟨i0, hi, hz0, hz1, hz2⟩ := info_parts infoStr
  have hv2 := hv
  obtain ⟨a1, c1, hvv, hc, hm, hna, hcl⟩ := hv2
  injection hvv with e1 e2 e3
  subst e1 e3
  by_cases h0 : ps = []
  · subst h0
    have hK0 := h g0 0 w (.inr ⟨g0, 0, rfl, hown0⟩) (World.grownBy.refl w _) (Below.refl _ _)
    have hr : (Builtin.append_ #[22, 22] t' #[.slice (some ⟨g0, 0, none⟩) 0 0, .slice a' 0 c']).run Tryd.prog w = .ok (.slice (some ⟨g0, 0, none⟩) 0 0) w := by
      cases a' with
      | none =>
        have hf : (Builtin.firstCells i0.size 0 (.slice none 0 c')).run Tryd.prog w = .ok #[] w := by simp [Builtin.firstCells]
        simp [Builtin.append_, run_underlying Tryd.underlying22, sizeOf, typeInfo, hi, Builtin.lenOf, hf, storeCells]
      | some b =>
        have hf : (Builtin.firstCells i0.size 0 (.slice (some b) 0 c')).run Tryd.prog w = .ok #[] w := by rw [run_firstCells_some (P := Tryd.prog) w i0.size 0 b 0 c' [] (by simp) (fun j u hj => by cases hj)]
        simp [Builtin.append_, run_underlying Tryd.underlying22, sizeOf, typeInfo, hi, Builtin.lenOf, hf, storeCells]
    have hx0 : a.eval (.tmp y) = .slice a' 0 c' := hx
    refine wpList_plain rfl fun K hK' => ?_
    have hK := hK' _ _ hK0
    generalize Operand.tmp x = X at hs
    generalize Operand.tmp y = Y at hx0
    unfold Oper.wp
    simp only [execOp, resolve, invoke, builtin]
    simp [hs, hx0, hr, Result.andThen]
    exact hK
  · obtain ⟨b, off, rfl, hcell⟩ := hcl h0
    have hpos := List.length_pos_iff.2 h0
    refine wpList_append_own _ rfl _ _ 22 (by rfl) B 9 i0 _ 1 16 Tryd.underlying22 hi hz0 hz1 hz2 rfl (by omega) _ 0 [] hs hown0 ⟨b, off, none⟩ ps.length c' (ps.map str) hx (by simp) (by
      intro j u hj
      rw [List.getElem?_map] at hj
      obtain ⟨z, hzj, rfl⟩ := Option.map_eq_some_iff.1 hj
      rw [Addr.add_mid]
      exact hcell j z hzj) (by intro u hu; obtain ⟨z, _, rfl⟩ := List.mem_map.1 hu; rfl) (by unfold maxLen; omega) (by omega) hB ?_
    intro v' w1 hown1 hgrow1 hnil1
    rw [Nat.zero_add, List.nil_append] at hown1
    have hbel : Below B w w1 := (Below.refl _ _).mono hB |>.grown hgrow1 hB (fun j hj => (hown0.lt j hj).1)
    rcases hown1.2 with ⟨rfl, e⟩ | ⟨g, cap, cur, rfl, _⟩
    · omega
    · exact h g cap w1 (.inr ⟨g, cap, rfl, hown1⟩) hgrow1 hbel
set_option maxHeartbeats 12800000 in
theorem backQ_walk (ok : ProofOk) (v : Value) (data : List (List UInt8)) (i m : Int) (W : World) (hi : (Lit.int .i64 i).wf = true) (hm : (Lit.int .i64 m).wf = true) (hs : Strs W v data) (hx : ∀ x ∈ data, x.length ≤ maxLen) (hT : Tab W) (hZ : Tz W) :
    Calls Tryd.prog 6 #[v, .int .i64 i, .int .i64 m] W fun e w' => e = .returned (.bool true) ∧ Below W.heap.size W w' := by
  obtain ⟨hi1, hi2⟩ := wf_range hi
  obtain ⟨hm1, hm2⟩ := wf_range hm
  have HSu := Lib.hid (sums_any data v W hs hx hT)
  have h50 := sumsL_length data data.length
  have h32 := sumsL_32 data data.length
  have HOk := Lib.hid ok
  have HT := Lib.hid hT
  have HZ := Lib.hid hZ
  obtain ⟨ao, c0, hv, _⟩ := id hs
  subst hv
  generalize sumsL data data.length = L at *
  have HAl := Lib.hid (fun w (hb : Below W.heap.size W w) => aliveQ_any HOk.out w (HT.out.below hb))
  have H32 := Lib.hid h32
  clear hx hT hZ hi hm hs ok h32
  rcases Nat.eq_zero_or_pos L.length with h0 | h0
  · have hn0 : ((L.length : Int) == 0) = true := by rw [h0]; rfl
    go_enter Tryd.func6, Tryd.ntmps6
    go_wp2_with (first
      | (go_at_call 24; refine HSu.out.mono ?_; rintro e w1 ⟨a1, c1, rfl, ho1, hB⟩)
      | (go_at_call 13; refine (HAl.out _ hB).mono ?_; rintro e w4 ⟨rfl, hb4⟩; replace hB := below_on hB hb4))
    go_ret
    exact ⟨rfl, hB⟩
  · have hn0 : ((L.length : Int) == 0) = false := by simp; intro h; subst h; exact absurd h0 (by simp)
    obtain ⟨r, k, hr, hr1, hr2, hk, hkn⟩ := mod_any i L.length h0
    obtain ⟨r2, q, g, g1, g2, hq, hqn⟩ := mod_any m (L.length + 1) (by omega)
    obtain ⟨x, hxk⟩ : ∃ x, L[k]? = some x := ⟨L[k], List.getElem?_eq_getElem hkn⟩
    have hx32 := H32.out x (List.mem_of_getElem? hxk)
    obtain ⟨PA, p1, p2, hP32, hPl, hH1, hH2, hH3⟩ := back_path H32.out h50 hxk
    obtain ⟨SA, s1, s2, hS32, hSl, hF1, hF2, hF3⟩ := back_step (q := q) H32.out h50 (by omega)
    have hR32 := rt_32 H32.out
    have hO32 := rt_32 (l := L.take q) (fun x h => H32.out x (List.mem_of_mem_take h))
    have HRt := Lib.hid (fun w (hs : Strs w (.slice (some ⟨0, 0, none⟩) 0 0) L) => hs)
    clear HRt
    have HRt := Lib.hid (fun w v' (hs : Strs w v' L) => refRoot_small L.length L w v' (Nat.le_refl _) (by omega) H32.out hs)
    have HRo := Lib.hid (fun w v' (hs : Strs w v' (L.take q)) => refRoot_small (L.take q).length (L.take q) w v' (Nat.le_refl _) (by rw [List.length_take]; omega) (fun x h => H32.out x (List.mem_of_mem_take h)) hs)
    generalize rt L = R at *
    generalize rt (L.take q) = O at *
    have HPath : Hid (∀ w v', Below W.heap.size W w → Strs w v' L → Calls Tryd.prog 10 #[v', .int .i64 (k : Int)] w fun e w' => ∃ a c, e = .returned (.tuple #[.slice a PA.length c, .int .i64 0]) ∧ Strs w' (.slice a PA.length c) PA ∧ Below w.heap.size w w') := Lib.hid (fun w v' hb hs => by
      have h := HOk.out.path w v' L (k : Int) (by omega) (by omega) hs (by omega) (fun y hy => by rw [H32.out y hy]; decide) (HT.out.below hb)
      rw [p1, p2] at h
      exact h)
    have HStep : Hid (∀ w v', Below W.heap.size W w → Strs w v' L → Calls Tryd.prog 11 #[v', .int .i64 (q : Int)] w fun e w' => ∃ a c, e = .returned (.tuple #[.slice a SA.length c, .int .i64 0]) ∧ Strs w' (.slice a SA.length c) SA ∧ Below w.heap.size w w') := Lib.hid (fun w v' hb hs => by
      have h := HOk.out.step w v' L (q : Int) (by omega) (by omega) hs (by omega) (fun y hy => by rw [H32.out y hy]; decide) (HT.out.below hb) (HZ.out.below hb)
      rw [s1, s2] at h
      exact h)
    have HHo := Lib.hid (fun (ps : List (List UInt8)) (h : ps.length ≤ 51) (hp : ∀ y ∈ ps, y.length = 32) w v' (hb : Below W.heap.size W w) (hs : Strs w v' ps) => HOk.out.holds w v' x R (k : Int) (L.length : Int) ps (by omega) (by omega) (by omega) (by omega) (by omega) (by omega) hs (by omega) (fun y hy => by rw [hp y hy]; decide) (HT.out.below hb))
    have HFo := Lib.hid (fun (ps : List (List UInt8)) (h : ps.length ≤ 51) (hp : ∀ y ∈ ps, y.length = 32) w v' (hb : Below W.heap.size W w) (hs : Strs w v' ps) => HOk.out.follows w v' O R (q : Int) (L.length : Int) ps (by omega) (by omega) (by omega) (by omega) (by omega) (by omega) hs (by omega) (fun y hy => by rw [hp y hy]; decide) (HT.out.below hb) (HZ.out.below hb))
    have hPR : ∀ y ∈ PA ++ [R], y.length = 32 := fun y hy => by rcases List.mem_append.1 hy with h | h; exact hP32 y h; rw [List.mem_singleton.1 h]; exact hR32
    have hSR : ∀ y ∈ SA ++ [R], y.length = 32 := fun y hy => by rcases List.mem_append.1 hy with h | h; exact hS32 y h; rw [List.mem_singleton.1 h]; exact hR32
    have HH1 : Hid (∀ w v', Below W.heap.size W w → Strs w v' PA → Calls Tryd.prog 17 #[.string (bytesOf x), .int .i64 (k : Int), .int .i64 (L.length : Int), v', .string (bytesOf R)] w fun e w' => e = .returned (.int .i64 0) ∧ Below w.heap.size w w') := Lib.hid (fun w v' hb hs => by have h := HHo.out PA (by omega) hP32 w v' hb hs; rw [hH1] at h; exact h)
    have HH2 : Hid (PA ≠ [] → ∀ w v', Below W.heap.size W w → Strs w v' (PA.drop 1) → Calls Tryd.prog 17 #[.string (bytesOf x), .int .i64 (k : Int), .int .i64 (L.length : Int), v', .string (bytesOf R)] w fun e w' => e = .returned (.int .i64 13) ∧ Below w.heap.size w w') := Lib.hid (fun hne w v' hb hs => by have h := HHo.out (PA.drop 1) (by rw [List.length_drop]; omega) (fun y hy => hP32 y (List.mem_of_mem_drop hy)) w v' hb hs; rw [hH2 hne] at h; exact h)
    have HH3 : Hid (∀ w v', Below W.heap.size W w → Strs w v' (PA ++ [R]) → Calls Tryd.prog 17 #[.string (bytesOf x), .int .i64 (k : Int), .int .i64 (L.length : Int), v', .string (bytesOf R)] w fun e w' => e = .returned (.int .i64 13) ∧ Below w.heap.size w w') := Lib.hid (fun w v' hb hs => by have h := HHo.out (PA ++ [R]) (by simp; omega) hPR w v' hb hs; rw [hH3] at h; exact h)
    have HF1 : Hid (∀ w v', Below W.heap.size W w → Strs w v' SA → Calls Tryd.prog 20 #[.int .i64 (q : Int), .int .i64 (L.length : Int), .string (bytesOf O), .string (bytesOf R), v'] w fun e w' => e = .returned (.int .i64 0) ∧ Below w.heap.size w w') := Lib.hid (fun w v' hb hs => by have h := HFo.out SA (by omega) hS32 w v' hb hs; rw [hF1] at h; exact h)
    have HF2 : Hid (SA ≠ [] → ∀ w v', Below W.heap.size W w → Strs w v' (SA.drop 1) → Calls Tryd.prog 20 #[.int .i64 (q : Int), .int .i64 (L.length : Int), .string (bytesOf O), .string (bytesOf R), v'] w fun e w' => e = .returned (.int .i64 13) ∧ Below w.heap.size w w') := Lib.hid (fun hne w v' hb hs => by have h := HFo.out (SA.drop 1) (by rw [List.length_drop]; omega) (fun y hy => hS32 y (List.mem_of_mem_drop hy)) w v' hb hs; rw [hF2 hne] at h; exact h)
    have HF3 : Hid (0 < q → ∀ w v', Below W.heap.size W w → Strs w v' (SA ++ [R]) → Calls Tryd.prog 20 #[.int .i64 (q : Int), .int .i64 (L.length : Int), .string (bytesOf O), .string (bytesOf R), v'] w fun e w' => e = .returned (.int .i64 13) ∧ Below w.heap.size w w') := Lib.hid (fun hq w v' hb hs => by have h := HFo.out (SA ++ [R]) (by simp; omega) hSR w v' hb hs; rw [hF3 hq] at h; exact h)
    have HXK := Lib.hid hxk
    have hN1 : ((L.length : Int)) ≠ 0 := by omega
    have hN2 : ((L.length + 1 : Nat) : Int) ≠ 0 := by omega
    have hq' : Int.tmod (r2 + (L.length : Int) + 1) ((L.length + 1 : Nat) : Int) = (q : Int) := by rw [← hq, show r2 + (L.length : Int) + 1 = r2 + ((L.length + 1 : Nat) : Int) by omega]
    clear hH1 hH2 hH3 hF1 hF2 hF3 p1 p2 s1 s2 hP32 hS32 hPR hSR HHo HFo hq hxk
    go_enter Tryd.func6, Tryd.ntmps6
    go_upto_region 5 with (go_at_call 24; refine HSu.out.mono ?_; rintro e w1 ⟨a1, c1, rfl, ho1, hB⟩)
    have hs1 := ho1.strs
    obtain ⟨a', c', hv, hc1, hcm, -, hcl⟩ := id hs1
    injection hv with e1 e2 e3
    subst e1 e3
    obtain ⟨b, off, rfl, hcell⟩ := hcl (by intro h; subst h; exact absurd h0 (by simp))
    have hcx1 : w1.cell? ⟨b, off + k, none⟩ = some (.string (bytesOf x)) := hcell k x HXK.out
    unfold maxLen at hcm
    have hqc : q ≤ c1 := by omega
    have hsz1 := hB.size
    clear hcl hcell ho1 HSu e2
    refine wp_held_any (S := fun w' => Below w1.heap.size w1 w') 19 rfl (by kernel_rfl) ?_
    have hd : Below w1.heap.size w1 { w1 with drawn := w1.drawn + 1 } := (Below.refl _ _).drew
    generalize ({ w1 with drawn := w1.drawn + 1 } : World) = wd at *
    refine held_put 0 23 (.int .i64 (i)) rfl rfl (by kernel_rfl) (by kernel_rfl) (by kernel_rfl) (by kernel_rfl) (fun w hS => rfl) hd ?_
    simp only [List.setIfInBounds_toArray, List.set_cons_succ, List.set_cons_zero]
    refine held_put 1 24 (.int .i64 ((L.length : Nat) : Int)) rfl rfl (by kernel_rfl) (by kernel_rfl) (by kernel_rfl) (by kernel_rfl) (fun w hS => rfl) hd ?_
    simp only [List.setIfInBounds_toArray, List.set_cons_succ, List.set_cons_zero]
    refine held_put 2 25 (.int .i64 (r)) rfl rfl (by kernel_rfl) (by kernel_rfl) (by kernel_rfl) (by kernel_rfl) (fun w hS => run_remI i _ r hN1 hr rfl rfl w) hd ?_
    simp only [List.setIfInBounds_toArray, List.set_cons_succ, List.set_cons_zero]
    refine held_put 3 26 (.int .i64 ((L.length : Nat) : Int)) rfl rfl (by kernel_rfl) (by kernel_rfl) (by kernel_rfl) (by kernel_rfl) (fun w hS => rfl) hd ?_
    simp only [List.setIfInBounds_toArray, List.set_cons_succ, List.set_cons_zero]
    refine held_put 4 27 (.int .i64 (r + (L.length : Int))) rfl rfl (by kernel_rfl) (by kernel_rfl) (by kernel_rfl) (by kernel_rfl) (fun w hS => run_addI r _ (by omega) (by omega) rfl rfl w) hd ?_
    simp only [List.setIfInBounds_toArray, List.set_cons_succ, List.set_cons_zero]
    refine held_put 5 28 (.int .i64 ((L.length : Nat) : Int)) rfl rfl (by kernel_rfl) (by kernel_rfl) (by kernel_rfl) (by kernel_rfl) (fun w hS => rfl) hd ?_
    simp only [List.setIfInBounds_toArray, List.set_cons_succ, List.set_cons_zero]
    refine held_put 6 29 (.int .i64 ((k : Nat) : Int)) rfl rfl (by kernel_rfl) (by kernel_rfl) (by kernel_rfl) (by kernel_rfl) (fun w hS => run_remI _ _ _ hN1 hk rfl rfl w) hd ?_
    simp only [List.setIfInBounds_toArray, List.set_cons_succ, List.set_cons_zero]
    refine held_put 7 30 (.int .i64 (m)) rfl rfl (by kernel_rfl) (by kernel_rfl) (by kernel_rfl) (by kernel_rfl) (fun w hS => rfl) hd ?_
    simp only [List.setIfInBounds_toArray, List.set_cons_succ, List.set_cons_zero]
    refine held_put 8 31 (.int .i64 ((L.length : Nat) : Int)) rfl rfl (by kernel_rfl) (by kernel_rfl) (by kernel_rfl) (by kernel_rfl) (fun w hS => rfl) hd ?_
    simp only [List.setIfInBounds_toArray, List.set_cons_succ, List.set_cons_zero]
    refine held_put 9 32 (.int .i64 ((L.length + 1 : Nat) : Int)) rfl rfl (by kernel_rfl) (by kernel_rfl) (by kernel_rfl) (by kernel_rfl) (fun w hS => run_addN L.length 1 (by omega) rfl w) hd ?_
    simp only [List.setIfInBounds_toArray, List.set_cons_succ, List.set_cons_zero]
    refine held_put 10 33 (.int .i64 (r2)) rfl rfl (by kernel_rfl) (by kernel_rfl) (by kernel_rfl) (by kernel_rfl) (fun w hS => run_remI m _ r2 hN2 g rfl rfl w) hd ?_
    simp only [List.setIfInBounds_toArray, List.set_cons_succ, List.set_cons_zero]
    refine held_put 11 34 (.int .i64 ((L.length : Nat) : Int)) rfl rfl (by kernel_rfl) (by kernel_rfl) (by kernel_rfl) (by kernel_rfl) (fun w hS => rfl) hd ?_
    simp only [List.setIfInBounds_toArray, List.set_cons_succ, List.set_cons_zero]
    refine held_put 12 35 (.int .i64 (r2 + (L.length : Int))) rfl rfl (by kernel_rfl) (by kernel_rfl) (by kernel_rfl) (by kernel_rfl) (fun w hS => run_addI r2 _ (by omega) (by omega) rfl rfl w) hd ?_
    simp only [List.setIfInBounds_toArray, List.set_cons_succ, List.set_cons_zero]
    refine held_put 13 36 (.int .i64 (r2 + (L.length : Int) + 1)) rfl rfl (by kernel_rfl) (by kernel_rfl) (by kernel_rfl) (by kernel_rfl) (fun w hS => run_addI _ 1 (by omega) (by omega) rfl rfl w) hd ?_
    simp only [List.setIfInBounds_toArray, List.set_cons_succ, List.set_cons_zero]
    refine held_put 14 37 (.int .i64 ((L.length : Nat) : Int)) rfl rfl (by kernel_rfl) (by kernel_rfl) (by kernel_rfl) (by kernel_rfl) (fun w hS => rfl) hd ?_
    simp only [List.setIfInBounds_toArray, List.set_cons_succ, List.set_cons_zero]
    refine held_put 15 38 (.int .i64 ((L.length + 1 : Nat) : Int)) rfl rfl (by kernel_rfl) (by kernel_rfl) (by kernel_rfl) (by kernel_rfl) (fun w hS => run_addN L.length 1 (by omega) rfl w) hd ?_
    simp only [List.setIfInBounds_toArray, List.set_cons_succ, List.set_cons_zero]
    refine held_put 16 39 (.int .i64 ((q : Nat) : Int)) rfl rfl (by kernel_rfl) (by kernel_rfl) (by kernel_rfl) (by kernel_rfl) (fun w hS => run_remI _ _ _ hN2 hq' rfl rfl w) hd ?_
    simp only [List.setIfInBounds_toArray, List.set_cons_succ, List.set_cons_zero]
    refine held_put 17 1 (.int .i64 ((k : Nat) : Int)) rfl rfl (by kernel_rfl) (by kernel_rfl) (by kernel_rfl) (by kernel_rfl) (fun w hS => rfl) hd ?_
    simp only [List.setIfInBounds_toArray, List.set_cons_succ, List.set_cons_zero]
    refine held_put 18 2 (.int .i64 ((q : Nat) : Int)) rfl rfl (by kernel_rfl) (by kernel_rfl) (by kernel_rfl) (by kernel_rfl) (fun w hS => rfl) hd ?_
    simp only [List.setIfInBounds_toArray, List.set_cons_succ, List.set_cons_zero]
    refine held_done (by kernel_rfl) ?_
    simp only [Exit.then]
    have hBd := hB.trans (hd.mono hsz1)
    have hs2 := hs1.below hd
    have hcx2 := (hd.cell (p := ⟨b, off + k, none⟩) (World.block_lt_of_cell? w1 _ hcx1)).trans hcx1
    clear hr hr1 hr2 hk g g1 g2 hq' hN1 hN2 hs1 hcx1 hd hB hsz1
    go_upto_region 6 with fail
    have hszd := hBd.size
    refine wp_held_any (S := fun w' => Below wd.heap.size wd w') 8 rfl (by kernel_rfl) ?_
    have hd : Below wd.heap.size wd { wd with drawn := wd.drawn + 1 } := (Below.refl _ _).drew
    generalize ({ wd with drawn := wd.drawn + 1 } : World) = we at *
    refine held_put 0 40 (.slice (some ⟨b, off, none⟩) L.length c1) rfl rfl (by kernel_rfl) (by kernel_rfl) (by kernel_rfl) (by kernel_rfl) (fun w hS => rfl) hd ?_
    simp only [List.setIfInBounds_toArray, List.set_cons_succ, List.set_cons_zero]
    refine held_put 2 42 (.slice (some ⟨b, off, none⟩) L.length c1) rfl rfl (by kernel_rfl) (by kernel_rfl) (by kernel_rfl) (by kernel_rfl) (fun w hS => rfl) hd ?_
    simp only [List.setIfInBounds_toArray, List.set_cons_succ, List.set_cons_zero]
    refine held_put 3 43 (.int .i64 ((q : Nat) : Int)) rfl rfl (by kernel_rfl) (by kernel_rfl) (by kernel_rfl) (by kernel_rfl) (fun w hS => rfl) hd ?_
    simp only [List.setIfInBounds_toArray, List.set_cons_succ, List.set_cons_zero]
    refine held_put 4 44 (.slice (some ⟨b, off, none⟩) q c1) rfl rfl (by kernel_rfl) (by kernel_rfl) (by kernel_rfl) (by kernel_rfl) (fun w hS => run_headS b off _ c1 q hqc rfl rfl w) hd ?_
    simp only [List.setIfInBounds_toArray, List.set_cons_succ, List.set_cons_zero]
    refine held_one 1 (by kernel_rfl) (wpOp_call 41 rfl rfl (by kernel_rfl) (by kernel_rfl) ((HRt.out we _ (hs2.below hd)).mono ?_))
    rintro e w3 ⟨rfl, hbn⟩
    have hd3 := hd.trans (hbn.mono hd.size)
    refine ⟨_, rfl, hd3, ?_⟩
    simp only [List.setIfInBounds_toArray, List.set_cons_succ, List.set_cons_zero]
    refine held_one 5 (by kernel_rfl) (wpOp_call 45 rfl rfl (by kernel_rfl) (by kernel_rfl) ((HRo.out w3 _ ((strs_head hs2 (j := q) (by omega)).below hd3)).mono ?_))
    rintro e w4 ⟨rfl, hbn⟩
    have hd4 := hd3.trans (hbn.mono hd3.size)
    refine ⟨_, rfl, hd4, ?_⟩
    simp only [List.setIfInBounds_toArray, List.set_cons_succ, List.set_cons_zero]
    refine held_put 6 9 (.string (bytesOf R)) rfl rfl (by kernel_rfl) (by kernel_rfl) (by kernel_rfl) (by kernel_rfl) (fun w hS => rfl) hd4 ?_
    simp only [List.setIfInBounds_toArray, List.set_cons_succ, List.set_cons_zero]
    refine held_put 7 10 (.string (bytesOf O)) rfl rfl (by kernel_rfl) (by kernel_rfl) (by kernel_rfl) (by kernel_rfl) (fun w hS => rfl) hd4 ?_
    simp only [List.setIfInBounds_toArray, List.set_cons_succ, List.set_cons_zero]
    refine held_done (by kernel_rfl) ?_
    simp only [Exit.then]
    have hB4 := hBd.trans (hd4.mono hszd)
    have hs4 := hs2.below hd4
    have hcx4 := (hd4.cell (p := ⟨b, off + k, none⟩) (World.block_lt_of_cell? wd _ hcx2)).trans hcx2
    clear hd hd3 hd4 hcx2 hs2 hBd hszd HRt HRo
    go_upto_region 9 with (first
      | (go_at_call 10; refine (HPath.out _ _ hB4 hs4).mono ?_; rintro e w5 ⟨a2, c2, rfl, hsP, hb5⟩; have hB5 := below_on hB4 hb5; have hs5 := hs4.below hb5)
      | (go_at_call 11; refine (HStep.out _ _ hB5 hs5).mono ?_; rintro e w6 ⟨a3, c3, rfl, hsS, hb6⟩; have hB6 := below_on hB5 hb6; replace hsP := hsP.below hb6))
    have hcx6 := ((hb5.trans (hb6.mono hb5.size)).cell (p := ⟨b, off + k, none⟩) (World.block_lt_of_cell? w4 _ hcx4)).trans hcx4
    have hs6 := hs5.below hb6
    clear hcx4 hs4 hs5 hb5 hb6 hB4 hB5 HPath HStep
    go_upto_region 11 with (first
      | (go_at_call 17; refine (HH1.out _ _ hB6 hsP).mono ?_; rintro e w7 ⟨rfl, hb7⟩; have hB7 := below_on hB6 hb7)
      | (go_at_call 20; refine (HF1.out _ _ hB7 (hsS.below hb7)).mono ?_; rintro e w8 ⟨rfl, hb8⟩; have hB8 := below_on hB7 hb8)
      | (go_at_call 13; refine (HAl.out _ hB8).mono ?_; rintro e w9 ⟨rfl, hb9⟩; have hB9 := below_on hB8 hb9))
    have hb69 := (hb7.trans (hb8.mono hb7.size)).trans (hb9.mono (Nat.le_trans hb7.size hb8.size))
    have hcx9 := (hb69.cell (p := ⟨b, off + k, none⟩) (World.block_lt_of_cell? w6 _ hcx6)).trans hcx6
    replace hsP := hsP.below hb69
    replace hsS := hsS.below hb69
    have hs9 := hs6.below hb69
    clear hcx6 hb7 hb8 hb9 hb69 hB6 hB7 hB8 HH1 HF1 HAl hs6
    have hsz9 := hB9.size
    go_cut [119] from 89 to 119 (fun s wx => s = .bool false ∧ Below w9.heap.size w9 wx)
    case first =>
      have lbx := World.block_lt_of_cell? w9 _ hcx9
      by_cases hp : PA = []
      · by_cases hq0 : SA = []
        · have hp0 : PA.length = 0 := by rw [hp]; rfl
          have hq00 : SA.length = 0 := by rw [hq0]; rfl
          refine wp_held_any (S := fun w' => Below w9.heap.size w9 w') 31 rfl (by kernel_rfl) ?_
          have hd : Below w9.heap.size w9 { w9 with drawn := w9.drawn + 1 } := (Below.refl _ _).drew
          generalize ({ w9 with drawn := w9.drawn + 1 } : World) = wd at *
          refine held_put 0 89 (.slice a2 PA.length c2) rfl rfl (by kernel_rfl) (by kernel_rfl) (by kernel_rfl) (by kernel_rfl) (fun w hS => rfl) hd ?_
          simp only [List.setIfInBounds_toArray, List.set_cons_succ, List.set_cons_zero]
          refine held_put 1 90 (.int .i64 ((PA.length : Nat) : Int)) rfl rfl (by kernel_rfl) (by kernel_rfl) (by kernel_rfl) (by kernel_rfl) (fun w hS => run_lenR _ _ _ rfl w) hd ?_
          simp only [List.setIfInBounds_toArray, List.set_cons_succ, List.set_cons_zero]
          refine held_put 2 91 (.bool false) rfl rfl (by kernel_rfl) (by kernel_rfl) (by kernel_rfl) (by kernel_rfl) (fun w hS => run_gtrZ _ hp0 rfl w) hd ?_
          simp only [List.setIfInBounds_toArray, List.set_cons_succ, List.set_cons_zero]
          refine held_put 3 92 (.bool false) rfl rfl (by kernel_rfl) (by kernel_rfl) (by kernel_rfl) (by kernel_rfl) (fun w hS => rfl) hd ?_
          simp only [List.setIfInBounds_toArray, List.set_cons_succ, List.set_cons_zero]
          refine held_skip 4 93 rfl rfl (by kernel_rfl) (by kernel_rfl) (by kernel_rfl) (by kernel_rfl) hd ?_
          simp only [List.setIfInBounds_toArray, List.set_cons_succ, List.set_cons_zero]
          refine held_skip 5 94 rfl rfl (by kernel_rfl) (by kernel_rfl) (by kernel_rfl) (by kernel_rfl) hd ?_
          simp only [List.setIfInBounds_toArray, List.set_cons_succ, List.set_cons_zero]
          refine held_skip 6 95 rfl rfl (by kernel_rfl) (by kernel_rfl) (by kernel_rfl) (by kernel_rfl) hd ?_
          simp only [List.setIfInBounds_toArray, List.set_cons_succ, List.set_cons_zero]
          refine held_skip 7 96 rfl rfl (by kernel_rfl) (by kernel_rfl) (by kernel_rfl) (by kernel_rfl) hd ?_
          simp only [List.setIfInBounds_toArray, List.set_cons_succ, List.set_cons_zero]
          refine held_skip 8 97 rfl rfl (by kernel_rfl) (by kernel_rfl) (by kernel_rfl) (by kernel_rfl) hd ?_
          simp only [List.setIfInBounds_toArray, List.set_cons_succ, List.set_cons_zero]
          refine held_skip 9 98 rfl rfl (by kernel_rfl) (by kernel_rfl) (by kernel_rfl) (by kernel_rfl) hd ?_
          simp only [List.setIfInBounds_toArray, List.set_cons_succ, List.set_cons_zero]
          refine held_skip 10 99 rfl rfl (by kernel_rfl) (by kernel_rfl) (by kernel_rfl) (by kernel_rfl) hd ?_
          simp only [List.setIfInBounds_toArray, List.set_cons_succ, List.set_cons_zero]
          refine held_skip 11 100 rfl rfl (by kernel_rfl) (by kernel_rfl) (by kernel_rfl) (by kernel_rfl) hd ?_
          simp only [List.setIfInBounds_toArray, List.set_cons_succ, List.set_cons_zero]
          refine held_skip 12 101 rfl rfl (by kernel_rfl) (by kernel_rfl) (by kernel_rfl) (by kernel_rfl) hd ?_
          simp only [List.setIfInBounds_toArray, List.set_cons_succ, List.set_cons_zero]
          refine held_skip 13 102 rfl rfl (by kernel_rfl) (by kernel_rfl) (by kernel_rfl) (by kernel_rfl) hd ?_
          simp only [List.setIfInBounds_toArray, List.set_cons_succ, List.set_cons_zero]
          refine held_skip 14 103 rfl rfl (by kernel_rfl) (by kernel_rfl) (by kernel_rfl) (by kernel_rfl) hd ?_
          simp only [List.setIfInBounds_toArray, List.set_cons_succ, List.set_cons_zero]
          refine held_put 15 104 (.bool false) rfl rfl (by kernel_rfl) (by kernel_rfl) (by kernel_rfl) (by kernel_rfl) (fun w hS => by kernel_rfl) hd ?_
          simp only [List.setIfInBounds_toArray, List.set_cons_succ, List.set_cons_zero]
          refine held_put 16 105 (.bool false) rfl rfl (by kernel_rfl) (by kernel_rfl) (by kernel_rfl) (by kernel_rfl) (fun w hS => rfl) hd ?_
          simp only [List.setIfInBounds_toArray, List.set_cons_succ, List.set_cons_zero]
          refine held_put 17 106 (.slice a3 SA.length c3) rfl rfl (by kernel_rfl) (by kernel_rfl) (by kernel_rfl) (by kernel_rfl) (fun w hS => rfl) hd ?_
          simp only [List.setIfInBounds_toArray, List.set_cons_succ, List.set_cons_zero]
          refine held_put 18 107 (.int .i64 ((SA.length : Nat) : Int)) rfl rfl (by kernel_rfl) (by kernel_rfl) (by kernel_rfl) (by kernel_rfl) (fun w hS => run_lenR _ _ _ rfl w) hd ?_
          simp only [List.setIfInBounds_toArray, List.set_cons_succ, List.set_cons_zero]
          refine held_put 19 108 (.bool false) rfl rfl (by kernel_rfl) (by kernel_rfl) (by kernel_rfl) (by kernel_rfl) (fun w hS => run_gtrZ _ hq00 rfl w) hd ?_
          simp only [List.setIfInBounds_toArray, List.set_cons_succ, List.set_cons_zero]
          refine held_put 20 109 (.bool false) rfl rfl (by kernel_rfl) (by kernel_rfl) (by kernel_rfl) (by kernel_rfl) (fun w hS => rfl) hd ?_
          simp only [List.setIfInBounds_toArray, List.set_cons_succ, List.set_cons_zero]
          refine held_skip 21 110 rfl rfl (by kernel_rfl) (by kernel_rfl) (by kernel_rfl) (by kernel_rfl) hd ?_
          simp only [List.setIfInBounds_toArray, List.set_cons_succ, List.set_cons_zero]
          refine held_skip 22 111 rfl rfl (by kernel_rfl) (by kernel_rfl) (by kernel_rfl) (by kernel_rfl) hd ?_
          simp only [List.setIfInBounds_toArray, List.set_cons_succ, List.set_cons_zero]
          refine held_skip 23 112 rfl rfl (by kernel_rfl) (by kernel_rfl) (by kernel_rfl) (by kernel_rfl) hd ?_
          simp only [List.setIfInBounds_toArray, List.set_cons_succ, List.set_cons_zero]
          refine held_skip 24 113 rfl rfl (by kernel_rfl) (by kernel_rfl) (by kernel_rfl) (by kernel_rfl) hd ?_
          simp only [List.setIfInBounds_toArray, List.set_cons_succ, List.set_cons_zero]
          refine held_skip 25 114 rfl rfl (by kernel_rfl) (by kernel_rfl) (by kernel_rfl) (by kernel_rfl) hd ?_
          simp only [List.setIfInBounds_toArray, List.set_cons_succ, List.set_cons_zero]
          refine held_skip 26 115 rfl rfl (by kernel_rfl) (by kernel_rfl) (by kernel_rfl) (by kernel_rfl) hd ?_
          simp only [List.setIfInBounds_toArray, List.set_cons_succ, List.set_cons_zero]
          refine held_skip 27 116 rfl rfl (by kernel_rfl) (by kernel_rfl) (by kernel_rfl) (by kernel_rfl) hd ?_
          simp only [List.setIfInBounds_toArray, List.set_cons_succ, List.set_cons_zero]
          refine held_skip 28 117 rfl rfl (by kernel_rfl) (by kernel_rfl) (by kernel_rfl) (by kernel_rfl) hd ?_
          simp only [List.setIfInBounds_toArray, List.set_cons_succ, List.set_cons_zero]
          refine held_put 29 118 (.bool false) rfl rfl (by kernel_rfl) (by kernel_rfl) (by kernel_rfl) (by kernel_rfl) (fun w hS => by kernel_rfl) hd ?_
          simp only [List.setIfInBounds_toArray, List.set_cons_succ, List.set_cons_zero]
          refine held_put 30 119 (.bool false) rfl rfl (by kernel_rfl) (by kernel_rfl) (by kernel_rfl) (by kernel_rfl) (fun w hS => by kernel_rfl) hd ?_
          simp only [List.setIfInBounds_toArray, List.set_cons_succ, List.set_cons_zero]
          refine held_done (by kernel_rfl) ?_
          simp only [Exit.then]
          clear hp hq0 hp0 hq00
          go_wp2_with fail
          go_meet
          exact ⟨rfl, hd⟩
        · have hp0 : PA.length = 0 := by rw [hp]; rfl
          obtain ⟨aS, cS, hvS, hS1, -, -, hSl2⟩ := id hsS
          injection hvS with e1 e2 e3
          subst e1 e3
          obtain ⟨sb, so, rfl, -⟩ := hSl2 hq0
          have hSp := List.length_pos_iff.2 hq0
          have hSr := strs_rest hsS (i := 1) (by omega)
          obtain ⟨sr, hsr⟩ : ∃ sr, (if c3 = 1 then some ⟨sb, so, none⟩ else some ⟨sb, so + 1, none⟩ : Option Addr) = sr := ⟨_, rfl⟩
          rw [hsr] at hSr
          refine wp_held_any (S := fun w' => Below w9.heap.size w9 w') 31 rfl (by kernel_rfl) ?_
          have hd : Below w9.heap.size w9 { w9 with drawn := w9.drawn + 1 } := (Below.refl _ _).drew
          generalize ({ w9 with drawn := w9.drawn + 1 } : World) = wd at *
          refine held_put 0 89 (.slice a2 PA.length c2) rfl rfl (by kernel_rfl) (by kernel_rfl) (by kernel_rfl) (by kernel_rfl) (fun w hS => rfl) hd ?_
          simp only [List.setIfInBounds_toArray, List.set_cons_succ, List.set_cons_zero]
          refine held_put 1 90 (.int .i64 ((PA.length : Nat) : Int)) rfl rfl (by kernel_rfl) (by kernel_rfl) (by kernel_rfl) (by kernel_rfl) (fun w hS => run_lenR _ _ _ rfl w) hd ?_
          simp only [List.setIfInBounds_toArray, List.set_cons_succ, List.set_cons_zero]
          refine held_put 2 91 (.bool false) rfl rfl (by kernel_rfl) (by kernel_rfl) (by kernel_rfl) (by kernel_rfl) (fun w hS => run_gtrZ _ hp0 rfl w) hd ?_
          simp only [List.setIfInBounds_toArray, List.set_cons_succ, List.set_cons_zero]
          refine held_put 3 92 (.bool false) rfl rfl (by kernel_rfl) (by kernel_rfl) (by kernel_rfl) (by kernel_rfl) (fun w hS => rfl) hd ?_
          simp only [List.setIfInBounds_toArray, List.set_cons_succ, List.set_cons_zero]
          refine held_skip 4 93 rfl rfl (by kernel_rfl) (by kernel_rfl) (by kernel_rfl) (by kernel_rfl) hd ?_
          simp only [List.setIfInBounds_toArray, List.set_cons_succ, List.set_cons_zero]
          refine held_skip 5 94 rfl rfl (by kernel_rfl) (by kernel_rfl) (by kernel_rfl) (by kernel_rfl) hd ?_
          simp only [List.setIfInBounds_toArray, List.set_cons_succ, List.set_cons_zero]
          refine held_skip 6 95 rfl rfl (by kernel_rfl) (by kernel_rfl) (by kernel_rfl) (by kernel_rfl) hd ?_
          simp only [List.setIfInBounds_toArray, List.set_cons_succ, List.set_cons_zero]
          refine held_skip 7 96 rfl rfl (by kernel_rfl) (by kernel_rfl) (by kernel_rfl) (by kernel_rfl) hd ?_
          simp only [List.setIfInBounds_toArray, List.set_cons_succ, List.set_cons_zero]
          refine held_skip 8 97 rfl rfl (by kernel_rfl) (by kernel_rfl) (by kernel_rfl) (by kernel_rfl) hd ?_
          simp only [List.setIfInBounds_toArray, List.set_cons_succ, List.set_cons_zero]
          refine held_skip 9 98 rfl rfl (by kernel_rfl) (by kernel_rfl) (by kernel_rfl) (by kernel_rfl) hd ?_
          simp only [List.setIfInBounds_toArray, List.set_cons_succ, List.set_cons_zero]
          refine held_skip 10 99 rfl rfl (by kernel_rfl) (by kernel_rfl) (by kernel_rfl) (by kernel_rfl) hd ?_
          simp only [List.setIfInBounds_toArray, List.set_cons_succ, List.set_cons_zero]
          refine held_skip 11 100 rfl rfl (by kernel_rfl) (by kernel_rfl) (by kernel_rfl) (by kernel_rfl) hd ?_
          simp only [List.setIfInBounds_toArray, List.set_cons_succ, List.set_cons_zero]
          refine held_skip 12 101 rfl rfl (by kernel_rfl) (by kernel_rfl) (by kernel_rfl) (by kernel_rfl) hd ?_
          simp only [List.setIfInBounds_toArray, List.set_cons_succ, List.set_cons_zero]
          refine held_skip 13 102 rfl rfl (by kernel_rfl) (by kernel_rfl) (by kernel_rfl) (by kernel_rfl) hd ?_
          simp only [List.setIfInBounds_toArray, List.set_cons_succ, List.set_cons_zero]
          refine held_skip 14 103 rfl rfl (by kernel_rfl) (by kernel_rfl) (by kernel_rfl) (by kernel_rfl) hd ?_
          simp only [List.setIfInBounds_toArray, List.set_cons_succ, List.set_cons_zero]
          refine held_put 15 104 (.bool false) rfl rfl (by kernel_rfl) (by kernel_rfl) (by kernel_rfl) (by kernel_rfl) (fun w hS => by kernel_rfl) hd ?_
          simp only [List.setIfInBounds_toArray, List.set_cons_succ, List.set_cons_zero]
          refine held_put 16 105 (.bool false) rfl rfl (by kernel_rfl) (by kernel_rfl) (by kernel_rfl) (by kernel_rfl) (fun w hS => rfl) hd ?_
          simp only [List.setIfInBounds_toArray, List.set_cons_succ, List.set_cons_zero]
          refine held_put 17 106 (.slice (some ⟨sb, so, none⟩) SA.length c3) rfl rfl (by kernel_rfl) (by kernel_rfl) (by kernel_rfl) (by kernel_rfl) (fun w hS => rfl) hd ?_
          simp only [List.setIfInBounds_toArray, List.set_cons_succ, List.set_cons_zero]
          refine held_put 18 107 (.int .i64 ((SA.length : Nat) : Int)) rfl rfl (by kernel_rfl) (by kernel_rfl) (by kernel_rfl) (by kernel_rfl) (fun w hS => run_lenR _ _ _ rfl w) hd ?_
          simp only [List.setIfInBounds_toArray, List.set_cons_succ, List.set_cons_zero]
          refine held_put 19 108 (.bool true) rfl rfl (by kernel_rfl) (by kernel_rfl) (by kernel_rfl) (by kernel_rfl) (fun w hS => run_gtr1 _ hSp rfl w) hd ?_
          simp only [List.setIfInBounds_toArray, List.set_cons_succ, List.set_cons_zero]
          refine held_put 20 109 (.bool true) rfl rfl (by kernel_rfl) (by kernel_rfl) (by kernel_rfl) (by kernel_rfl) (fun w hS => rfl) hd ?_
          simp only [List.setIfInBounds_toArray, List.set_cons_succ, List.set_cons_zero]
          refine held_put 21 110 (.int .i64 ((q : Nat) : Int)) rfl rfl (by kernel_rfl) (by kernel_rfl) (by kernel_rfl) (by kernel_rfl) (fun w hS => rfl) hd ?_
          simp only [List.setIfInBounds_toArray, List.set_cons_succ, List.set_cons_zero]
          refine held_put 22 111 (.int .i64 ((L.length : Nat) : Int)) rfl rfl (by kernel_rfl) (by kernel_rfl) (by kernel_rfl) (by kernel_rfl) (fun w hS => rfl) hd ?_
          simp only [List.setIfInBounds_toArray, List.set_cons_succ, List.set_cons_zero]
          refine held_put 23 112 (.string (bytesOf O)) rfl rfl (by kernel_rfl) (by kernel_rfl) (by kernel_rfl) (by kernel_rfl) (fun w hS => rfl) hd ?_
          simp only [List.setIfInBounds_toArray, List.set_cons_succ, List.set_cons_zero]
          refine held_put 24 113 (.string (bytesOf R)) rfl rfl (by kernel_rfl) (by kernel_rfl) (by kernel_rfl) (by kernel_rfl) (fun w hS => rfl) hd ?_
          simp only [List.setIfInBounds_toArray, List.set_cons_succ, List.set_cons_zero]
          refine held_put 25 114 (.slice (some ⟨sb, so, none⟩) SA.length c3) rfl rfl (by kernel_rfl) (by kernel_rfl) (by kernel_rfl) (by kernel_rfl) (fun w hS => rfl) hd ?_
          simp only [List.setIfInBounds_toArray, List.set_cons_succ, List.set_cons_zero]
          refine held_put 26 115 (.slice sr (SA.length - 1) (c3 - 1)) rfl rfl (by kernel_rfl) (by kernel_rfl) (by kernel_rfl) (by kernel_rfl) (fun w hS => by rw [← hsr]; exact run_rest sb so _ c3 hSp hS1 rfl w) hd ?_
          simp only [List.setIfInBounds_toArray, List.set_cons_succ, List.set_cons_zero]
          refine held_one 27 (by kernel_rfl) (wpOp_call 116 rfl rfl (by kernel_rfl) (by kernel_rfl) ((HF2.out hq0 wd _ (hB9.trans (hd.mono hsz9)) (hSr.below hd)).mono ?_))
          rintro e wf ⟨rfl, hbn⟩
          have hdf := hd.trans (hbn.mono hd.size)
          refine ⟨_, rfl, hdf, ?_⟩
          simp only [List.setIfInBounds_toArray, List.set_cons_succ, List.set_cons_zero]
          refine held_put 28 117 (.bool false) rfl rfl (by kernel_rfl) (by kernel_rfl) (by kernel_rfl) (by kernel_rfl) (fun w hS => by kernel_rfl) hdf ?_
          simp only [List.setIfInBounds_toArray, List.set_cons_succ, List.set_cons_zero]
          refine held_put 29 118 (.bool false) rfl rfl (by kernel_rfl) (by kernel_rfl) (by kernel_rfl) (by kernel_rfl) (fun w hS => by kernel_rfl) hdf ?_
          simp only [List.setIfInBounds_toArray, List.set_cons_succ, List.set_cons_zero]
          refine held_put 30 119 (.bool false) rfl rfl (by kernel_rfl) (by kernel_rfl) (by kernel_rfl) (by kernel_rfl) (fun w hS => by kernel_rfl) hdf ?_
          simp only [List.setIfInBounds_toArray, List.set_cons_succ, List.set_cons_zero]
          refine held_done (by kernel_rfl) ?_
          simp only [Exit.then]
          clear hp hq0 hp0 hSp hsr
          go_wp2_with fail
          go_meet
          exact ⟨rfl, hdf⟩
      · by_cases hq0 : SA = []
        · obtain ⟨aP, cP, hvP, hP1, -, -, hPl2⟩ := id hsP
          injection hvP with e1 e2 e3
          subst e1 e3
          obtain ⟨pb, po, rfl, -⟩ := hPl2 hp
          have hPp := List.length_pos_iff.2 hp
          have hPr := strs_rest hsP (i := 1) (by omega)
          obtain ⟨pr, hpr⟩ : ∃ pr, (if c2 = 1 then some ⟨pb, po, none⟩ else some ⟨pb, po + 1, none⟩ : Option Addr) = pr := ⟨_, rfl⟩
          rw [hpr] at hPr
          have hq00 : SA.length = 0 := by rw [hq0]; rfl
          refine wp_held_any (S := fun w' => Below w9.heap.size w9 w') 31 rfl (by kernel_rfl) ?_
          have hd : Below w9.heap.size w9 { w9 with drawn := w9.drawn + 1 } := (Below.refl _ _).drew
          generalize ({ w9 with drawn := w9.drawn + 1 } : World) = wd at *
          refine held_put 0 89 (.slice (some ⟨pb, po, none⟩) PA.length c2) rfl rfl (by kernel_rfl) (by kernel_rfl) (by kernel_rfl) (by kernel_rfl) (fun w hS => rfl) hd ?_
          simp only [List.setIfInBounds_toArray, List.set_cons_succ, List.set_cons_zero]
          refine held_put 1 90 (.int .i64 ((PA.length : Nat) : Int)) rfl rfl (by kernel_rfl) (by kernel_rfl) (by kernel_rfl) (by kernel_rfl) (fun w hS => run_lenR _ _ _ rfl w) hd ?_
          simp only [List.setIfInBounds_toArray, List.set_cons_succ, List.set_cons_zero]
          refine held_put 2 91 (.bool true) rfl rfl (by kernel_rfl) (by kernel_rfl) (by kernel_rfl) (by kernel_rfl) (fun w hS => run_gtr1 _ hPp rfl w) hd ?_
          simp only [List.setIfInBounds_toArray, List.set_cons_succ, List.set_cons_zero]
          refine held_put 3 92 (.bool true) rfl rfl (by kernel_rfl) (by kernel_rfl) (by kernel_rfl) (by kernel_rfl) (fun w hS => rfl) hd ?_
          simp only [List.setIfInBounds_toArray, List.set_cons_succ, List.set_cons_zero]
          refine held_put 4 93 (.slice (some ⟨b, off, none⟩) L.length c1) rfl rfl (by kernel_rfl) (by kernel_rfl) (by kernel_rfl) (by kernel_rfl) (fun w hS => rfl) hd ?_
          simp only [List.setIfInBounds_toArray, List.set_cons_succ, List.set_cons_zero]
          refine held_put 5 94 (.int .i64 ((k : Nat) : Int)) rfl rfl (by kernel_rfl) (by kernel_rfl) (by kernel_rfl) (by kernel_rfl) (fun w hS => rfl) hd ?_
          simp only [List.setIfInBounds_toArray, List.set_cons_succ, List.set_cons_zero]
          refine held_put 6 95 (.pointer (some ⟨b, off + k, none⟩)) rfl rfl (by kernel_rfl) (by kernel_rfl) (by kernel_rfl) (by kernel_rfl) (fun w hS => run_idxS b off _ c1 k hkn rfl rfl w) hd ?_
          simp only [List.setIfInBounds_toArray, List.set_cons_succ, List.set_cons_zero]
          refine held_put 7 96 (.string (bytesOf x)) rfl rfl (by kernel_rfl) (by kernel_rfl) (by kernel_rfl) (by kernel_rfl) (fun w hS => run_ldT _ _ w ((hS.cell (p := ⟨b, off + k, none⟩) lbx).trans hcx9) rfl) hd ?_
          simp only [List.setIfInBounds_toArray, List.set_cons_succ, List.set_cons_zero]
          refine held_put 8 97 (.int .i64 ((k : Nat) : Int)) rfl rfl (by kernel_rfl) (by kernel_rfl) (by kernel_rfl) (by kernel_rfl) (fun w hS => rfl) hd ?_
          simp only [List.setIfInBounds_toArray, List.set_cons_succ, List.set_cons_zero]
          refine held_put 9 98 (.int .i64 ((L.length : Nat) : Int)) rfl rfl (by kernel_rfl) (by kernel_rfl) (by kernel_rfl) (by kernel_rfl) (fun w hS => rfl) hd ?_
          simp only [List.setIfInBounds_toArray, List.set_cons_succ, List.set_cons_zero]
          refine held_put 10 99 (.slice (some ⟨pb, po, none⟩) PA.length c2) rfl rfl (by kernel_rfl) (by kernel_rfl) (by kernel_rfl) (by kernel_rfl) (fun w hS => rfl) hd ?_
          simp only [List.setIfInBounds_toArray, List.set_cons_succ, List.set_cons_zero]
          refine held_put 11 100 (.slice pr (PA.length - 1) (c2 - 1)) rfl rfl (by kernel_rfl) (by kernel_rfl) (by kernel_rfl) (by kernel_rfl) (fun w hS => by rw [← hpr]; exact run_rest pb po _ c2 hPp hP1 rfl w) hd ?_
          simp only [List.setIfInBounds_toArray, List.set_cons_succ, List.set_cons_zero]
          refine held_put 12 101 (.string (bytesOf R)) rfl rfl (by kernel_rfl) (by kernel_rfl) (by kernel_rfl) (by kernel_rfl) (fun w hS => rfl) hd ?_
          simp only [List.setIfInBounds_toArray, List.set_cons_succ, List.set_cons_zero]
          refine held_one 13 (by kernel_rfl) (wpOp_call 102 rfl rfl (by kernel_rfl) (by kernel_rfl) ((HH2.out hp wd _ (hB9.trans (hd.mono hsz9)) (hPr.below hd)).mono ?_))
          rintro e wh ⟨rfl, hbn⟩
          have hdh := hd.trans (hbn.mono hd.size)
          refine ⟨_, rfl, hdh, ?_⟩
          simp only [List.setIfInBounds_toArray, List.set_cons_succ, List.set_cons_zero]
          refine held_put 14 103 (.bool false) rfl rfl (by kernel_rfl) (by kernel_rfl) (by kernel_rfl) (by kernel_rfl) (fun w hS => by kernel_rfl) hdh ?_
          simp only [List.setIfInBounds_toArray, List.set_cons_succ, List.set_cons_zero]
          refine held_put 15 104 (.bool false) rfl rfl (by kernel_rfl) (by kernel_rfl) (by kernel_rfl) (by kernel_rfl) (fun w hS => by kernel_rfl) hdh ?_
          simp only [List.setIfInBounds_toArray, List.set_cons_succ, List.set_cons_zero]
          refine held_put 16 105 (.bool false) rfl rfl (by kernel_rfl) (by kernel_rfl) (by kernel_rfl) (by kernel_rfl) (fun w hS => rfl) hdh ?_
          simp only [List.setIfInBounds_toArray, List.set_cons_succ, List.set_cons_zero]
          refine held_put 17 106 (.slice a3 SA.length c3) rfl rfl (by kernel_rfl) (by kernel_rfl) (by kernel_rfl) (by kernel_rfl) (fun w hS => rfl) hdh ?_
          simp only [List.setIfInBounds_toArray, List.set_cons_succ, List.set_cons_zero]
          refine held_put 18 107 (.int .i64 ((SA.length : Nat) : Int)) rfl rfl (by kernel_rfl) (by kernel_rfl) (by kernel_rfl) (by kernel_rfl) (fun w hS => run_lenR _ _ _ rfl w) hdh ?_
          simp only [List.setIfInBounds_toArray, List.set_cons_succ, List.set_cons_zero]
          refine held_put 19 108 (.bool false) rfl rfl (by kernel_rfl) (by kernel_rfl) (by kernel_rfl) (by kernel_rfl) (fun w hS => run_gtrZ _ hq00 rfl w) hdh ?_
          simp only [List.setIfInBounds_toArray, List.set_cons_succ, List.set_cons_zero]
          refine held_put 20 109 (.bool false) rfl rfl (by kernel_rfl) (by kernel_rfl) (by kernel_rfl) (by kernel_rfl) (fun w hS => rfl) hdh ?_
          simp only [List.setIfInBounds_toArray, List.set_cons_succ, List.set_cons_zero]
          refine held_skip 21 110 rfl rfl (by kernel_rfl) (by kernel_rfl) (by kernel_rfl) (by kernel_rfl) hdh ?_
          simp only [List.setIfInBounds_toArray, List.set_cons_succ, List.set_cons_zero]
          refine held_skip 22 111 rfl rfl (by kernel_rfl) (by kernel_rfl) (by kernel_rfl) (by kernel_rfl) hdh ?_
          simp only [List.setIfInBounds_toArray, List.set_cons_succ, List.set_cons_zero]
          refine held_skip 23 112 rfl rfl (by kernel_rfl) (by kernel_rfl) (by kernel_rfl) (by kernel_rfl) hdh ?_
          simp only [List.setIfInBounds_toArray, List.set_cons_succ, List.set_cons_zero]
          refine held_skip 24 113 rfl rfl (by kernel_rfl) (by kernel_rfl) (by kernel_rfl) (by kernel_rfl) hdh ?_
          simp only [List.setIfInBounds_toArray, List.set_cons_succ, List.set_cons_zero]
          refine held_skip 25 114 rfl rfl (by kernel_rfl) (by kernel_rfl) (by kernel_rfl) (by kernel_rfl) hdh ?_
          simp only [List.setIfInBounds_toArray, List.set_cons_succ, List.set_cons_zero]
          refine held_skip 26 115 rfl rfl (by kernel_rfl) (by kernel_rfl) (by kernel_rfl) (by kernel_rfl) hdh ?_
          simp only [List.setIfInBounds_toArray, List.set_cons_succ, List.set_cons_zero]
          refine held_skip 27 116 rfl rfl (by kernel_rfl) (by kernel_rfl) (by kernel_rfl) (by kernel_rfl) hdh ?_
          simp only [List.setIfInBounds_toArray, List.set_cons_succ, List.set_cons_zero]
          refine held_skip 28 117 rfl rfl (by kernel_rfl) (by kernel_rfl) (by kernel_rfl) (by kernel_rfl) hdh ?_
          simp only [List.setIfInBounds_toArray, List.set_cons_succ, List.set_cons_zero]
          refine held_put 29 118 (.bool false) rfl rfl (by kernel_rfl) (by kernel_rfl) (by kernel_rfl) (by kernel_rfl) (fun w hS => by kernel_rfl) hdh ?_
          simp only [List.setIfInBounds_toArray, List.set_cons_succ, List.set_cons_zero]
          refine held_put 30 119 (.bool false) rfl rfl (by kernel_rfl) (by kernel_rfl) (by kernel_rfl) (by kernel_rfl) (fun w hS => by kernel_rfl) hdh ?_
          simp only [List.setIfInBounds_toArray, List.set_cons_succ, List.set_cons_zero]
          refine held_done (by kernel_rfl) ?_
          simp only [Exit.then]
          clear hp hq0 hPp hpr hq00
          go_wp2_with fail
          go_meet
          exact ⟨rfl, hdh⟩
        · obtain ⟨aP, cP, hvP, hP1, -, -, hPl2⟩ := id hsP
          injection hvP with e1 e2 e3
          subst e1 e3
          obtain ⟨pb, po, rfl, -⟩ := hPl2 hp
          have hPp := List.length_pos_iff.2 hp
          have hPr := strs_rest hsP (i := 1) (by omega)
          obtain ⟨pr, hpr⟩ : ∃ pr, (if c2 = 1 then some ⟨pb, po, none⟩ else some ⟨pb, po + 1, none⟩ : Option Addr) = pr := ⟨_, rfl⟩
          rw [hpr] at hPr
          obtain ⟨aS, cS, hvS, hS1, -, -, hSl2⟩ := id hsS
          injection hvS with e1 e2 e3
          subst e1 e3
          obtain ⟨sb, so, rfl, -⟩ := hSl2 hq0
          have hSp := List.length_pos_iff.2 hq0
          have hSr := strs_rest hsS (i := 1) (by omega)
          obtain ⟨sr, hsr⟩ : ∃ sr, (if c3 = 1 then some ⟨sb, so, none⟩ else some ⟨sb, so + 1, none⟩ : Option Addr) = sr := ⟨_, rfl⟩
          rw [hsr] at hSr
          refine wp_held_any (S := fun w' => Below w9.heap.size w9 w') 31 rfl (by kernel_rfl) ?_
          have hd : Below w9.heap.size w9 { w9 with drawn := w9.drawn + 1 } := (Below.refl _ _).drew
          generalize ({ w9 with drawn := w9.drawn + 1 } : World) = wd at *
          refine held_put 0 89 (.slice (some ⟨pb, po, none⟩) PA.length c2) rfl rfl (by kernel_rfl) (by kernel_rfl) (by kernel_rfl) (by kernel_rfl) (fun w hS => rfl) hd ?_
          simp only [List.setIfInBounds_toArray, List.set_cons_succ, List.set_cons_zero]
          refine held_put 1 90 (.int .i64 ((PA.length : Nat) : Int)) rfl rfl (by kernel_rfl) (by kernel_rfl) (by kernel_rfl) (by kernel_rfl) (fun w hS => run_lenR _ _ _ rfl w) hd ?_
          simp only [List.setIfInBounds_toArray, List.set_cons_succ, List.set_cons_zero]
          refine held_put 2 91 (.bool true) rfl rfl (by kernel_rfl) (by kernel_rfl) (by kernel_rfl) (by kernel_rfl) (fun w hS => run_gtr1 _ hPp rfl w) hd ?_
          simp only [List.setIfInBounds_toArray, List.set_cons_succ, List.set_cons_zero]
          refine held_put 3 92 (.bool true) rfl rfl (by kernel_rfl) (by kernel_rfl) (by kernel_rfl) (by kernel_rfl) (fun w hS => rfl) hd ?_
          simp only [List.setIfInBounds_toArray, List.set_cons_succ, List.set_cons_zero]
          refine held_put 4 93 (.slice (some ⟨b, off, none⟩) L.length c1) rfl rfl (by kernel_rfl) (by kernel_rfl) (by kernel_rfl) (by kernel_rfl) (fun w hS => rfl) hd ?_
          simp only [List.setIfInBounds_toArray, List.set_cons_succ, List.set_cons_zero]
          refine held_put 5 94 (.int .i64 ((k : Nat) : Int)) rfl rfl (by kernel_rfl) (by kernel_rfl) (by kernel_rfl) (by kernel_rfl) (fun w hS => rfl) hd ?_
          simp only [List.setIfInBounds_toArray, List.set_cons_succ, List.set_cons_zero]
          refine held_put 6 95 (.pointer (some ⟨b, off + k, none⟩)) rfl rfl (by kernel_rfl) (by kernel_rfl) (by kernel_rfl) (by kernel_rfl) (fun w hS => run_idxS b off _ c1 k hkn rfl rfl w) hd ?_
          simp only [List.setIfInBounds_toArray, List.set_cons_succ, List.set_cons_zero]
          refine held_put 7 96 (.string (bytesOf x)) rfl rfl (by kernel_rfl) (by kernel_rfl) (by kernel_rfl) (by kernel_rfl) (fun w hS => run_ldT _ _ w ((hS.cell (p := ⟨b, off + k, none⟩) lbx).trans hcx9) rfl) hd ?_
          simp only [List.setIfInBounds_toArray, List.set_cons_succ, List.set_cons_zero]
          refine held_put 8 97 (.int .i64 ((k : Nat) : Int)) rfl rfl (by kernel_rfl) (by kernel_rfl) (by kernel_rfl) (by kernel_rfl) (fun w hS => rfl) hd ?_
          simp only [List.setIfInBounds_toArray, List.set_cons_succ, List.set_cons_zero]
          refine held_put 9 98 (.int .i64 ((L.length : Nat) : Int)) rfl rfl (by kernel_rfl) (by kernel_rfl) (by kernel_rfl) (by kernel_rfl) (fun w hS => rfl) hd ?_
          simp only [List.setIfInBounds_toArray, List.set_cons_succ, List.set_cons_zero]
          refine held_put 10 99 (.slice (some ⟨pb, po, none⟩) PA.length c2) rfl rfl (by kernel_rfl) (by kernel_rfl) (by kernel_rfl) (by kernel_rfl) (fun w hS => rfl) hd ?_
          simp only [List.setIfInBounds_toArray, List.set_cons_succ, List.set_cons_zero]
          refine held_put 11 100 (.slice pr (PA.length - 1) (c2 - 1)) rfl rfl (by kernel_rfl) (by kernel_rfl) (by kernel_rfl) (by kernel_rfl) (fun w hS => by rw [← hpr]; exact run_rest pb po _ c2 hPp hP1 rfl w) hd ?_
          simp only [List.setIfInBounds_toArray, List.set_cons_succ, List.set_cons_zero]
          refine held_put 12 101 (.string (bytesOf R)) rfl rfl (by kernel_rfl) (by kernel_rfl) (by kernel_rfl) (by kernel_rfl) (fun w hS => rfl) hd ?_
          simp only [List.setIfInBounds_toArray, List.set_cons_succ, List.set_cons_zero]
          refine held_one 13 (by kernel_rfl) (wpOp_call 102 rfl rfl (by kernel_rfl) (by kernel_rfl) ((HH2.out hp wd _ (hB9.trans (hd.mono hsz9)) (hPr.below hd)).mono ?_))
          rintro e wh ⟨rfl, hbn⟩
          have hdh := hd.trans (hbn.mono hd.size)
          refine ⟨_, rfl, hdh, ?_⟩
          simp only [List.setIfInBounds_toArray, List.set_cons_succ, List.set_cons_zero]
          refine held_put 14 103 (.bool false) rfl rfl (by kernel_rfl) (by kernel_rfl) (by kernel_rfl) (by kernel_rfl) (fun w hS => by kernel_rfl) hdh ?_
          simp only [List.setIfInBounds_toArray, List.set_cons_succ, List.set_cons_zero]
          refine held_put 15 104 (.bool false) rfl rfl (by kernel_rfl) (by kernel_rfl) (by kernel_rfl) (by kernel_rfl) (fun w hS => by kernel_rfl) hdh ?_
          simp only [List.setIfInBounds_toArray, List.set_cons_succ, List.set_cons_zero]
          refine held_put 16 105 (.bool false) rfl rfl (by kernel_rfl) (by kernel_rfl) (by kernel_rfl) (by kernel_rfl) (fun w hS => rfl) hdh ?_
          simp only [List.setIfInBounds_toArray, List.set_cons_succ, List.set_cons_zero]
          refine held_put 17 106 (.slice (some ⟨sb, so, none⟩) SA.length c3) rfl rfl (by kernel_rfl) (by kernel_rfl) (by kernel_rfl) (by kernel_rfl) (fun w hS => rfl) hdh ?_
          simp only [List.setIfInBounds_toArray, List.set_cons_succ, List.set_cons_zero]
          refine held_put 18 107 (.int .i64 ((SA.length : Nat) : Int)) rfl rfl (by kernel_rfl) (by kernel_rfl) (by kernel_rfl) (by kernel_rfl) (fun w hS => run_lenR _ _ _ rfl w) hdh ?_
          simp only [List.setIfInBounds_toArray, List.set_cons_succ, List.set_cons_zero]
          refine held_put 19 108 (.bool true) rfl rfl (by kernel_rfl) (by kernel_rfl) (by kernel_rfl) (by kernel_rfl) (fun w hS => run_gtr1 _ hSp rfl w) hdh ?_
          simp only [List.setIfInBounds_toArray, List.set_cons_succ, List.set_cons_zero]
          refine held_put 20 109 (.bool true) rfl rfl (by kernel_rfl) (by kernel_rfl) (by kernel_rfl) (by kernel_rfl) (fun w hS => rfl) hdh ?_
          simp only [List.setIfInBounds_toArray, List.set_cons_succ, List.set_cons_zero]
          refine held_put 21 110 (.int .i64 ((q : Nat) : Int)) rfl rfl (by kernel_rfl) (by kernel_rfl) (by kernel_rfl) (by kernel_rfl) (fun w hS => rfl) hdh ?_
          simp only [List.setIfInBounds_toArray, List.set_cons_succ, List.set_cons_zero]
          refine held_put 22 111 (.int .i64 ((L.length : Nat) : Int)) rfl rfl (by kernel_rfl) (by kernel_rfl) (by kernel_rfl) (by kernel_rfl) (fun w hS => rfl) hdh ?_
          simp only [List.setIfInBounds_toArray, List.set_cons_succ, List.set_cons_zero]
          refine held_put 23 112 (.string (bytesOf O)) rfl rfl (by kernel_rfl) (by kernel_rfl) (by kernel_rfl) (by kernel_rfl) (fun w hS => rfl) hdh ?_
          simp only [List.setIfInBounds_toArray, List.set_cons_succ, List.set_cons_zero]
          refine held_put 24 113 (.string (bytesOf R)) rfl rfl (by kernel_rfl) (by kernel_rfl) (by kernel_rfl) (by kernel_rfl) (fun w hS => rfl) hdh ?_
          simp only [List.setIfInBounds_toArray, List.set_cons_succ, List.set_cons_zero]
          refine held_put 25 114 (.slice (some ⟨sb, so, none⟩) SA.length c3) rfl rfl (by kernel_rfl) (by kernel_rfl) (by kernel_rfl) (by kernel_rfl) (fun w hS => rfl) hdh ?_
          simp only [List.setIfInBounds_toArray, List.set_cons_succ, List.set_cons_zero]
          refine held_put 26 115 (.slice sr (SA.length - 1) (c3 - 1)) rfl rfl (by kernel_rfl) (by kernel_rfl) (by kernel_rfl) (by kernel_rfl) (fun w hS => by rw [← hsr]; exact run_rest sb so _ c3 hSp hS1 rfl w) hdh ?_
          simp only [List.setIfInBounds_toArray, List.set_cons_succ, List.set_cons_zero]
          refine held_one 27 (by kernel_rfl) (wpOp_call 116 rfl rfl (by kernel_rfl) (by kernel_rfl) ((HF2.out hq0 wh _ (hB9.trans (hdh.mono hsz9)) (hSr.below hdh)).mono ?_))
          rintro e wf ⟨rfl, hbn⟩
          have hdf := hdh.trans (hbn.mono hdh.size)
          refine ⟨_, rfl, hdf, ?_⟩
          simp only [List.setIfInBounds_toArray, List.set_cons_succ, List.set_cons_zero]
          refine held_put 28 117 (.bool false) rfl rfl (by kernel_rfl) (by kernel_rfl) (by kernel_rfl) (by kernel_rfl) (fun w hS => by kernel_rfl) hdf ?_
          simp only [List.setIfInBounds_toArray, List.set_cons_succ, List.set_cons_zero]
          refine held_put 29 118 (.bool false) rfl rfl (by kernel_rfl) (by kernel_rfl) (by kernel_rfl) (by kernel_rfl) (fun w hS => by kernel_rfl) hdf ?_
          simp only [List.setIfInBounds_toArray, List.set_cons_succ, List.set_cons_zero]
          refine held_put 30 119 (.bool false) rfl rfl (by kernel_rfl) (by kernel_rfl) (by kernel_rfl) (by kernel_rfl) (fun w hS => by kernel_rfl) hdf ?_
          simp only [List.setIfInBounds_toArray, List.set_cons_succ, List.set_cons_zero]
          refine held_done (by kernel_rfl) ?_
          simp only [Exit.then]
          clear hp hq0 hPp hpr hSp hsr
          go_wp2_with fail
          go_meet
          exact ⟨rfl, hdf⟩
    case rest =>
      obtain ⟨rfl, hBc0⟩ := hcut
      have lbx := World.block_lt_of_cell? w9 _ hcx9
      have hcxc := (hBc0.cell (p := ⟨b, off + k, none⟩) lbx).trans hcx9
      have hBc := hB9.trans (hBc0.mono hsz9)
      have HSP := hsP.below hBc0
      have HSS := hsS.below hBc0
      have hszc := hBc.size
      have lbc := World.block_lt_of_cell? wc _ hcxc
      clear lbx hcx9 hB9 hsz9 hBc0 hsP hsS hs9 HH2 HF2
      go_upto_region 13 with fail
      by_cases hz : q = 0
      · refine wp_held_any (S := fun w' => Below wc.heap.size wc w') 34 rfl (by kernel_rfl) ?_
        have hd : Below wc.heap.size wc { wc with drawn := wc.drawn + 1 } := (Below.refl _ _).drew
        generalize ({ wc with drawn := wc.drawn + 1 } : World) = wd at *
        refine held_put 0 120 (.slice (some ⟨b, off, none⟩) L.length c1) rfl rfl (by kernel_rfl) (by kernel_rfl) (by kernel_rfl) (by kernel_rfl) (fun w hS => rfl) hd ?_
        simp only [List.setIfInBounds_toArray, List.set_cons_succ, List.set_cons_zero]
        refine held_put 1 121 (.int .i64 ((k : Nat) : Int)) rfl rfl (by kernel_rfl) (by kernel_rfl) (by kernel_rfl) (by kernel_rfl) (fun w hS => rfl) hd ?_
        simp only [List.setIfInBounds_toArray, List.set_cons_succ, List.set_cons_zero]
        refine held_put 2 122 (.pointer (some ⟨b, off + k, none⟩)) rfl rfl (by kernel_rfl) (by kernel_rfl) (by kernel_rfl) (by kernel_rfl) (fun w hS => run_idxS b off _ c1 k hkn rfl rfl w) hd ?_
        simp only [List.setIfInBounds_toArray, List.set_cons_succ, List.set_cons_zero]
        refine held_put 3 123 (.string (bytesOf x)) rfl rfl (by kernel_rfl) (by kernel_rfl) (by kernel_rfl) (by kernel_rfl) (fun w hS => run_ldT _ _ w ((hS.cell (p := ⟨b, off + k, none⟩) lbc).trans hcxc) rfl) hd ?_
        simp only [List.setIfInBounds_toArray, List.set_cons_succ, List.set_cons_zero]
        refine held_put 4 124 (.int .i64 ((k : Nat) : Int)) rfl rfl (by kernel_rfl) (by kernel_rfl) (by kernel_rfl) (by kernel_rfl) (fun w hS => rfl) hd ?_
        simp only [List.setIfInBounds_toArray, List.set_cons_succ, List.set_cons_zero]
        refine held_put 5 125 (.int .i64 ((L.length : Nat) : Int)) rfl rfl (by kernel_rfl) (by kernel_rfl) (by kernel_rfl) (by kernel_rfl) (fun w hS => rfl) hd ?_
        simp only [List.setIfInBounds_toArray, List.set_cons_succ, List.set_cons_zero]
        refine held_put 7 127 (.slice a2 PA.length c2) rfl rfl (by kernel_rfl) (by kernel_rfl) (by kernel_rfl) (by kernel_rfl) (fun w hS => rfl) hd ?_
        simp only [List.setIfInBounds_toArray, List.set_cons_succ, List.set_cons_zero]
        refine held_put 9 129 (.string (bytesOf R)) rfl rfl (by kernel_rfl) (by kernel_rfl) (by kernel_rfl) (by kernel_rfl) (fun w hS => rfl) hd ?_
        simp only [List.setIfInBounds_toArray, List.set_cons_succ, List.set_cons_zero]
        refine held_put 12 132 (.string (bytesOf R)) rfl rfl (by kernel_rfl) (by kernel_rfl) (by kernel_rfl) (by kernel_rfl) (fun w hS => rfl) hd ?_
        simp only [List.setIfInBounds_toArray, List.set_cons_succ, List.set_cons_zero]
        have ho1 : (wd.alloc (.cells #[] 9)).ownsRow wc.heap.size 9 1 (.slice (some ⟨wd.heap.size, 0, none⟩) 0 0) 0 [] := World.ownsRow_made wd #[] 0 hd.size (Nat.zero_le _) rfl
        have hb1 : Below wc.heap.size wc (wd.alloc (.cells #[] 9)) := hd.alloc hd.size _
        have hl2 : Lies (wd.alloc (.cells #[.string (bytesOf R)] 9)) wd.heap.size 9 #[.string (bytesOf R)] := Lies.new wd _ _
        have hb2 : Below wc.heap.size wc (wd.alloc (.cells #[.string (bytesOf R)] 9)) := hd.alloc hd.size _
        refine held_two 6 10 (by kernel_rfl) (wpOp_put 126 (w' := (wd.alloc (.cells #[] 9))) (v := .slice (some ⟨wd.heap.size, 0, none⟩) 0 0) rfl rfl (by kernel_rfl) (by kernel_rfl) ⟨hb1, ?_⟩) (wpOp_put 130 (w' := (wd.alloc (.cells #[.string (bytesOf R)] 9))) (v := .slice (some ⟨wd.heap.size, 0, none⟩) 1 1) rfl rfl (by kernel_rfl) (by kernel_rfl) ⟨hb2, ?_⟩)
        · simp only [List.setIfInBounds_toArray, List.set_cons_succ, List.set_cons_zero]
          generalize (wd.alloc (.cells #[] 9)) = x1 at *
          have hl4 : Lies (x1.alloc (.cells #[.string (bytesOf R)] 9)) x1.heap.size 9 #[.string (bytesOf R)] := Lies.new x1 _ _
          have hb4 : Below wc.heap.size wc (x1.alloc (.cells #[.string (bytesOf R)] 9)) := hb1.alloc hb1.size _
          have ho4 := ho1.alloc (.cells #[.string (bytesOf R)] 9)
          have hne4 : x1.heap.size ≠ wd.heap.size := Nat.ne_of_gt (ho1.lt _ rfl).2
          refine held_two 8 10 (by kernel_rfl) (wpOp_lawD 128 rfl rfl (by kernel_rfl) (wpL_joinG wc.heap.size (wd.heap.size) ho1 hb1.size a2 c2 PA (HSP.below hb1) (by omega) rfl rfl ?_)) (wpOp_put 130 (w' := (x1.alloc (.cells #[.string (bytesOf R)] 9))) (v := .slice (some ⟨x1.heap.size, 0, none⟩) 1 1) rfl rfl (by kernel_rfl) (by kernel_rfl) ⟨hb4, ?_⟩)
          · intro g3 c3 x3 ho3 hgr3 hbn3
            have hb3 := hb1.trans hbn3
            refine And.intro hb3 ?_
            simp only [Act.put, List.setIfInBounds_toArray, List.set_cons_succ, List.set_cons_zero]
            have hl5 : Lies (x3.alloc (.cells #[.string (bytesOf R)] 9)) x3.heap.size 9 #[.string (bytesOf R)] := Lies.new x3 _ _
            have hb5 : Below wc.heap.size wc (x3.alloc (.cells #[.string (bytesOf R)] 9)) := hb3.alloc hb3.size _
            have ho5 := ho3.on ((Below.refl _ _).alloc (Nat.le_refl _) (.cells #[.string (bytesOf R)] 9))
            refine held_one 10 (by kernel_rfl) (wpOp_put 130 (w' := (x3.alloc (.cells #[.string (bytesOf R)] 9))) (v := .slice (some ⟨x3.heap.size, 0, none⟩) 1 1) rfl rfl (by kernel_rfl) (by kernel_rfl) ⟨hb5, ?_⟩)
            simp only [List.setIfInBounds_toArray, List.set_cons_succ, List.set_cons_zero]
            generalize (x3.alloc (.cells #[.string (bytesOf R)] 9)) = x5 at *
            refine held_one 11 (by kernel_rfl) (wpOp_lawD 131 rfl rfl (by kernel_rfl) (wpL_appendS wc.heap.size _ PA PA.length R (x3.heap.size) rfl ho5 hl5 (by omega) hb5.size rfl rfl ?_))
            intro g6 c6 x6 ho6 hbn6 hk6
            have hb6 := hb5.trans hbn6
            have hs6 := ho6.strs
            refine And.intro hb6 ?_
            simp only [Act.put, List.setIfInBounds_toArray, List.set_cons_succ, List.set_cons_zero]
            refine held_one 13 (by kernel_rfl) (wpOp_call 133 rfl rfl (by kernel_rfl) (by kernel_rfl) ((HH3.out x6 _ (hBc.trans (hb6.mono hBc.size)) hs6).mono ?_))
            rintro e y7 ⟨rfl, hbn⟩
            have hbh7 := hb6.trans (hbn.mono hb6.size)
            refine ⟨_, rfl, hbh7, ?_⟩
            simp only [List.setIfInBounds_toArray, List.set_cons_succ, List.set_cons_zero]
            refine held_put 14 134 (.bool true) rfl rfl (by kernel_rfl) (by kernel_rfl) (by kernel_rfl) (by kernel_rfl) (fun w hS => by kernel_rfl) hbh7 ?_
            simp only [List.setIfInBounds_toArray, List.set_cons_succ, List.set_cons_zero]
            refine held_put 15 135 (.bool true) rfl rfl (by kernel_rfl) (by kernel_rfl) (by kernel_rfl) (by kernel_rfl) (fun w hS => rfl) hbh7 ?_
            simp only [List.setIfInBounds_toArray, List.set_cons_succ, List.set_cons_zero]
            refine held_put 16 136 (.int .i64 ((q : Nat) : Int)) rfl rfl (by kernel_rfl) (by kernel_rfl) (by kernel_rfl) (by kernel_rfl) (fun w hS => rfl) hbh7 ?_
            simp only [List.setIfInBounds_toArray, List.set_cons_succ, List.set_cons_zero]
            refine held_put 17 137 (.bool true) rfl rfl (by kernel_rfl) (by kernel_rfl) (by kernel_rfl) (by kernel_rfl) (fun w hS => run_eqlI1 q hz rfl w) hbh7 ?_
            simp only [List.setIfInBounds_toArray, List.set_cons_succ, List.set_cons_zero]
            refine held_put 18 138 (.bool true) rfl rfl (by kernel_rfl) (by kernel_rfl) (by kernel_rfl) (by kernel_rfl) (fun w hS => rfl) hbh7 ?_
            simp only [List.setIfInBounds_toArray, List.set_cons_succ, List.set_cons_zero]
            refine held_skip 19 139 rfl rfl (by kernel_rfl) (by kernel_rfl) (by kernel_rfl) (by kernel_rfl) hbh7 ?_
            simp only [List.setIfInBounds_toArray, List.set_cons_succ, List.set_cons_zero]
            refine held_skip 20 140 rfl rfl (by kernel_rfl) (by kernel_rfl) (by kernel_rfl) (by kernel_rfl) hbh7 ?_
            simp only [List.setIfInBounds_toArray, List.set_cons_succ, List.set_cons_zero]
            refine held_skip 21 141 rfl rfl (by kernel_rfl) (by kernel_rfl) (by kernel_rfl) (by kernel_rfl) hbh7 ?_
            simp only [List.setIfInBounds_toArray, List.set_cons_succ, List.set_cons_zero]
            refine held_skip 22 142 rfl rfl (by kernel_rfl) (by kernel_rfl) (by kernel_rfl) (by kernel_rfl) hbh7 ?_
            simp only [List.setIfInBounds_toArray, List.set_cons_succ, List.set_cons_zero]
            refine held_skip 23 143 rfl rfl (by kernel_rfl) (by kernel_rfl) (by kernel_rfl) (by kernel_rfl) hbh7 ?_
            simp only [List.setIfInBounds_toArray, List.set_cons_succ, List.set_cons_zero]
            refine held_skip 24 144 rfl rfl (by kernel_rfl) (by kernel_rfl) (by kernel_rfl) (by kernel_rfl) hbh7 ?_
            simp only [List.setIfInBounds_toArray, List.set_cons_succ, List.set_cons_zero]
            refine held_skip 25 145 rfl rfl (by kernel_rfl) (by kernel_rfl) (by kernel_rfl) (by kernel_rfl) hbh7 ?_
            simp only [List.setIfInBounds_toArray, List.set_cons_succ, List.set_cons_zero]
            refine held_skip 26 146 rfl rfl (by kernel_rfl) (by kernel_rfl) (by kernel_rfl) (by kernel_rfl) hbh7 ?_
            simp only [List.setIfInBounds_toArray, List.set_cons_succ, List.set_cons_zero]
            refine held_skip 27 147 rfl rfl (by kernel_rfl) (by kernel_rfl) (by kernel_rfl) (by kernel_rfl) hbh7 ?_
            simp only [List.setIfInBounds_toArray, List.set_cons_succ, List.set_cons_zero]
            refine held_skip 28 148 rfl rfl (by kernel_rfl) (by kernel_rfl) (by kernel_rfl) (by kernel_rfl) hbh7 ?_
            simp only [List.setIfInBounds_toArray, List.set_cons_succ, List.set_cons_zero]
            refine held_skip 29 149 rfl rfl (by kernel_rfl) (by kernel_rfl) (by kernel_rfl) (by kernel_rfl) hbh7 ?_
            simp only [List.setIfInBounds_toArray, List.set_cons_succ, List.set_cons_zero]
            refine held_skip 30 150 rfl rfl (by kernel_rfl) (by kernel_rfl) (by kernel_rfl) (by kernel_rfl) hbh7 ?_
            simp only [List.setIfInBounds_toArray, List.set_cons_succ, List.set_cons_zero]
            refine held_put 31 151 (.bool true) rfl rfl (by kernel_rfl) (by kernel_rfl) (by kernel_rfl) (by kernel_rfl) (fun w hS => by kernel_rfl) hbh7 ?_
            simp only [List.setIfInBounds_toArray, List.set_cons_succ, List.set_cons_zero]
            refine held_put 32 152 (.bool true) rfl rfl (by kernel_rfl) (by kernel_rfl) (by kernel_rfl) (by kernel_rfl) (fun w hS => by kernel_rfl) hbh7 ?_
            simp only [List.setIfInBounds_toArray, List.set_cons_succ, List.set_cons_zero]
            refine held_put 33 6 (.bool true) rfl rfl (by kernel_rfl) (by kernel_rfl) (by kernel_rfl) (by kernel_rfl) (fun w hS => rfl) hbh7 ?_
            simp only [List.setIfInBounds_toArray, List.set_cons_succ, List.set_cons_zero]
            refine held_done (by kernel_rfl) ?_
            simp only [Exit.then]
            go_wp2
            go_ret
            exact ⟨rfl, hBc.trans (hbh7.mono hBc.size)⟩
          · simp only [List.setIfInBounds_toArray, List.set_cons_succ, List.set_cons_zero]
            generalize (x1.alloc (.cells #[.string (bytesOf R)] 9)) = x4 at *
            refine held_one 8 (by kernel_rfl) (wpOp_lawD 128 rfl rfl (by kernel_rfl) (wpL_joinG wc.heap.size (wd.heap.size) ho4 hb4.size a2 c2 PA (HSP.below hb4) (by omega) rfl rfl ?_))
            intro g8 c8 x8 ho8 hgr8 hbn8
            have hb8 := hb4.trans hbn8
            have hl8 := hl4.only hgr8 (fun e => hne4 (Option.some.inj e))
            refine And.intro hb8 ?_
            simp only [Act.put, List.setIfInBounds_toArray, List.set_cons_succ, List.set_cons_zero]
            refine held_one 11 (by kernel_rfl) (wpOp_lawD 131 rfl rfl (by kernel_rfl) (wpL_appendS wc.heap.size _ PA PA.length R (x1.heap.size) rfl ho8 hl8 (by omega) hb8.size rfl rfl ?_))
            intro g9 c9 x9 ho9 hbn9 hk9
            have hb9 := hb8.trans hbn9
            have hs9 := ho9.strs
            refine And.intro hb9 ?_
            simp only [Act.put, List.setIfInBounds_toArray, List.set_cons_succ, List.set_cons_zero]
            refine held_one 13 (by kernel_rfl) (wpOp_call 133 rfl rfl (by kernel_rfl) (by kernel_rfl) ((HH3.out x9 _ (hBc.trans (hb9.mono hBc.size)) hs9).mono ?_))
            rintro e y10 ⟨rfl, hbn⟩
            have hbh10 := hb9.trans (hbn.mono hb9.size)
            refine ⟨_, rfl, hbh10, ?_⟩
            simp only [List.setIfInBounds_toArray, List.set_cons_succ, List.set_cons_zero]
            refine held_put 14 134 (.bool true) rfl rfl (by kernel_rfl) (by kernel_rfl) (by kernel_rfl) (by kernel_rfl) (fun w hS => by kernel_rfl) hbh10 ?_
            simp only [List.setIfInBounds_toArray, List.set_cons_succ, List.set_cons_zero]
            refine held_put 15 135 (.bool true) rfl rfl (by kernel_rfl) (by kernel_rfl) (by kernel_rfl) (by kernel_rfl) (fun w hS => rfl) hbh10 ?_
            simp only [List.setIfInBounds_toArray, List.set_cons_succ, List.set_cons_zero]
            refine held_put 16 136 (.int .i64 ((q : Nat) : Int)) rfl rfl (by kernel_rfl) (by kernel_rfl) (by kernel_rfl) (by kernel_rfl) (fun w hS => rfl) hbh10 ?_
            simp only [List.setIfInBounds_toArray, List.set_cons_succ, List.set_cons_zero]
            refine held_put 17 137 (.bool true) rfl rfl (by kernel_rfl) (by kernel_rfl) (by kernel_rfl) (by kernel_rfl) (fun w hS => run_eqlI1 q hz rfl w) hbh10 ?_
            simp only [List.setIfInBounds_toArray, List.set_cons_succ, List.set_cons_zero]
            refine held_put 18 138 (.bool true) rfl rfl (by kernel_rfl) (by kernel_rfl) (by kernel_rfl) (by kernel_rfl) (fun w hS => rfl) hbh10 ?_
            simp only [List.setIfInBounds_toArray, List.set_cons_succ, List.set_cons_zero]
            refine held_skip 19 139 rfl rfl (by kernel_rfl) (by kernel_rfl) (by kernel_rfl) (by kernel_rfl) hbh10 ?_
            simp only [List.setIfInBounds_toArray, List.set_cons_succ, List.set_cons_zero]
            refine held_skip 20 140 rfl rfl (by kernel_rfl) (by kernel_rfl) (by kernel_rfl) (by kernel_rfl) hbh10 ?_
            simp only [List.setIfInBounds_toArray, List.set_cons_succ, List.set_cons_zero]
            refine held_skip 21 141 rfl rfl (by kernel_rfl) (by kernel_rfl) (by kernel_rfl) (by kernel_rfl) hbh10 ?_
            simp only [List.setIfInBounds_toArray, List.set_cons_succ, List.set_cons_zero]
            refine held_skip 22 142 rfl rfl (by kernel_rfl) (by kernel_rfl) (by kernel_rfl) (by kernel_rfl) hbh10 ?_
            simp only [List.setIfInBounds_toArray, List.set_cons_succ, List.set_cons_zero]
            refine held_skip 23 143 rfl rfl (by kernel_rfl) (by kernel_rfl) (by kernel_rfl) (by kernel_rfl) hbh10 ?_
            simp only [List.setIfInBounds_toArray, List.set_cons_succ, List.set_cons_zero]
            refine held_skip 24 144 rfl rfl (by kernel_rfl) (by kernel_rfl) (by kernel_rfl) (by kernel_rfl) hbh10 ?_
            simp only [List.setIfInBounds_toArray, List.set_cons_succ, List.set_cons_zero]
            refine held_skip 25 145 rfl rfl (by kernel_rfl) (by kernel_rfl) (by kernel_rfl) (by kernel_rfl) hbh10 ?_
            simp only [List.setIfInBounds_toArray, List.set_cons_succ, List.set_cons_zero]
            refine held_skip 26 146 rfl rfl (by kernel_rfl) (by kernel_rfl) (by kernel_rfl) (by kernel_rfl) hbh10 ?_
            simp only [List.setIfInBounds_toArray, List.set_cons_succ, List.set_cons_zero]
            refine held_skip 27 147 rfl rfl (by kernel_rfl) (by kernel_rfl) (by kernel_rfl) (by kernel_rfl) hbh10 ?_
            simp only [List.setIfInBounds_toArray, List.set_cons_succ, List.set_cons_zero]
            refine held_skip 28 148 rfl rfl (by kernel_rfl) (by kernel_rfl) (by kernel_rfl) (by kernel_rfl) hbh10 ?_
            simp only [List.setIfInBounds_toArray, List.set_cons_succ, List.set_cons_zero]
            refine held_skip 29 149 rfl rfl (by kernel_rfl) (by kernel_rfl) (by kernel_rfl) (by kernel_rfl) hbh10 ?_
            simp only [List.setIfInBounds_toArray, List.set_cons_succ, List.set_cons_zero]
            refine held_skip 30 150 rfl rfl (by kernel_rfl) (by kernel_rfl) (by kernel_rfl) (by kernel_rfl) hbh10 ?_
            simp only [List.setIfInBounds_toArray, List.set_cons_succ, List.set_cons_zero]
            refine held_put 31 151 (.bool true) rfl rfl (by kernel_rfl) (by kernel_rfl) (by kernel_rfl) (by kernel_rfl) (fun w hS => by kernel_rfl) hbh10 ?_
            simp only [List.setIfInBounds_toArray, List.set_cons_succ, List.set_cons_zero]
            refine held_put 32 152 (.bool true) rfl rfl (by kernel_rfl) (by kernel_rfl) (by kernel_rfl) (by kernel_rfl) (fun w hS => by kernel_rfl) hbh10 ?_
            simp only [List.setIfInBounds_toArray, List.set_cons_succ, List.set_cons_zero]
            refine held_put 33 6 (.bool true) rfl rfl (by kernel_rfl) (by kernel_rfl) (by kernel_rfl) (by kernel_rfl) (fun w hS => rfl) hbh10 ?_
            simp only [List.setIfInBounds_toArray, List.set_cons_succ, List.set_cons_zero]
            refine held_done (by kernel_rfl) ?_
            simp only [Exit.then]
            go_wp2
            go_ret
            exact ⟨rfl, hBc.trans (hbh10.mono hBc.size)⟩
        · simp only [List.setIfInBounds_toArray, List.set_cons_succ, List.set_cons_zero]
          generalize (wd.alloc (.cells #[.string (bytesOf R)] 9)) = x2 at *
          have ho11 : (x2.alloc (.cells #[] 9)).ownsRow wc.heap.size 9 1 (.slice (some ⟨x2.heap.size, 0, none⟩) 0 0) 0 [] := World.ownsRow_made x2 #[] 0 hb2.size (Nat.zero_le _) rfl
          have hb11 : Below wc.heap.size wc (x2.alloc (.cells #[] 9)) := hb2.alloc hb2.size _
          have hl11 : Lies (x2.alloc (.cells #[] 9)) wd.heap.size 9 #[.string (bytesOf R)] := hl2.alloc _
          have hne11 : wd.heap.size ≠ x2.heap.size := Nat.ne_of_lt hl2.lt
          refine held_one 6 (by kernel_rfl) (wpOp_put 126 (w' := (x2.alloc (.cells #[] 9))) (v := .slice (some ⟨x2.heap.size, 0, none⟩) 0 0) rfl rfl (by kernel_rfl) (by kernel_rfl) ⟨hb11, ?_⟩)
          simp only [List.setIfInBounds_toArray, List.set_cons_succ, List.set_cons_zero]
          generalize (x2.alloc (.cells #[] 9)) = x11 at *
          refine held_one 8 (by kernel_rfl) (wpOp_lawD 128 rfl rfl (by kernel_rfl) (wpL_joinG wc.heap.size (x2.heap.size) ho11 hb11.size a2 c2 PA (HSP.below hb11) (by omega) rfl rfl ?_))
          intro g12 c12 x12 ho12 hgr12 hbn12
          have hb12 := hb11.trans hbn12
          have hl12 := hl11.only hgr12 (fun e => hne11 (Option.some.inj e))
          refine And.intro hb12 ?_
          simp only [Act.put, List.setIfInBounds_toArray, List.set_cons_succ, List.set_cons_zero]
          refine held_one 11 (by kernel_rfl) (wpOp_lawD 131 rfl rfl (by kernel_rfl) (wpL_appendS wc.heap.size _ PA PA.length R (wd.heap.size) rfl ho12 hl12 (by omega) hb12.size rfl rfl ?_))
          intro g13 c13 x13 ho13 hbn13 hk13
          have hb13 := hb12.trans hbn13
          have hs13 := ho13.strs
          refine And.intro hb13 ?_
          simp only [Act.put, List.setIfInBounds_toArray, List.set_cons_succ, List.set_cons_zero]
          refine held_one 13 (by kernel_rfl) (wpOp_call 133 rfl rfl (by kernel_rfl) (by kernel_rfl) ((HH3.out x13 _ (hBc.trans (hb13.mono hBc.size)) hs13).mono ?_))
          rintro e y14 ⟨rfl, hbn⟩
          have hbh14 := hb13.trans (hbn.mono hb13.size)
          refine ⟨_, rfl, hbh14, ?_⟩
          simp only [List.setIfInBounds_toArray, List.set_cons_succ, List.set_cons_zero]
          refine held_put 14 134 (.bool true) rfl rfl (by kernel_rfl) (by kernel_rfl) (by kernel_rfl) (by kernel_rfl) (fun w hS => by kernel_rfl) hbh14 ?_
          simp only [List.setIfInBounds_toArray, List.set_cons_succ, List.set_cons_zero]
          refine held_put 15 135 (.bool true) rfl rfl (by kernel_rfl) (by kernel_rfl) (by kernel_rfl) (by kernel_rfl) (fun w hS => rfl) hbh14 ?_
          simp only [List.setIfInBounds_toArray, List.set_cons_succ, List.set_cons_zero]
          refine held_put 16 136 (.int .i64 ((q : Nat) : Int)) rfl rfl (by kernel_rfl) (by kernel_rfl) (by kernel_rfl) (by kernel_rfl) (fun w hS => rfl) hbh14 ?_
          simp only [List.setIfInBounds_toArray, List.set_cons_succ, List.set_cons_zero]
          refine held_put 17 137 (.bool true) rfl rfl (by kernel_rfl) (by kernel_rfl) (by kernel_rfl) (by kernel_rfl) (fun w hS => run_eqlI1 q hz rfl w) hbh14 ?_
          simp only [List.setIfInBounds_toArray, List.set_cons_succ, List.set_cons_zero]
          refine held_put 18 138 (.bool true) rfl rfl (by kernel_rfl) (by kernel_rfl) (by kernel_rfl) (by kernel_rfl) (fun w hS => rfl) hbh14 ?_
          simp only [List.setIfInBounds_toArray, List.set_cons_succ, List.set_cons_zero]
          refine held_skip 19 139 rfl rfl (by kernel_rfl) (by kernel_rfl) (by kernel_rfl) (by kernel_rfl) hbh14 ?_
          simp only [List.setIfInBounds_toArray, List.set_cons_succ, List.set_cons_zero]
          refine held_skip 20 140 rfl rfl (by kernel_rfl) (by kernel_rfl) (by kernel_rfl) (by kernel_rfl) hbh14 ?_
          simp only [List.setIfInBounds_toArray, List.set_cons_succ, List.set_cons_zero]
          refine held_skip 21 141 rfl rfl (by kernel_rfl) (by kernel_rfl) (by kernel_rfl) (by kernel_rfl) hbh14 ?_
          simp only [List.setIfInBounds_toArray, List.set_cons_succ, List.set_cons_zero]
          refine held_skip 22 142 rfl rfl (by kernel_rfl) (by kernel_rfl) (by kernel_rfl) (by kernel_rfl) hbh14 ?_
          simp only [List.setIfInBounds_toArray, List.set_cons_succ, List.set_cons_zero]
          refine held_skip 23 143 rfl rfl (by kernel_rfl) (by kernel_rfl) (by kernel_rfl) (by kernel_rfl) hbh14 ?_
          simp only [List.setIfInBounds_toArray, List.set_cons_succ, List.set_cons_zero]
          refine held_skip 24 144 rfl rfl (by kernel_rfl) (by kernel_rfl) (by kernel_rfl) (by kernel_rfl) hbh14 ?_
          simp only [List.setIfInBounds_toArray, List.set_cons_succ, List.set_cons_zero]
          refine held_skip 25 145 rfl rfl (by kernel_rfl) (by kernel_rfl) (by kernel_rfl) (by kernel_rfl) hbh14 ?_
          simp only [List.setIfInBounds_toArray, List.set_cons_succ, List.set_cons_zero]
          refine held_skip 26 146 rfl rfl (by kernel_rfl) (by kernel_rfl) (by kernel_rfl) (by kernel_rfl) hbh14 ?_
          simp only [List.setIfInBounds_toArray, List.set_cons_succ, List.set_cons_zero]
          refine held_skip 27 147 rfl rfl (by kernel_rfl) (by kernel_rfl) (by kernel_rfl) (by kernel_rfl) hbh14 ?_
          simp only [List.setIfInBounds_toArray, List.set_cons_succ, List.set_cons_zero]
          refine held_skip 28 148 rfl rfl (by kernel_rfl) (by kernel_rfl) (by kernel_rfl) (by kernel_rfl) hbh14 ?_
          simp only [List.setIfInBounds_toArray, List.set_cons_succ, List.set_cons_zero]
          refine held_skip 29 149 rfl rfl (by kernel_rfl) (by kernel_rfl) (by kernel_rfl) (by kernel_rfl) hbh14 ?_
          simp only [List.setIfInBounds_toArray, List.set_cons_succ, List.set_cons_zero]
          refine held_skip 30 150 rfl rfl (by kernel_rfl) (by kernel_rfl) (by kernel_rfl) (by kernel_rfl) hbh14 ?_
          simp only [List.setIfInBounds_toArray, List.set_cons_succ, List.set_cons_zero]
          refine held_put 31 151 (.bool true) rfl rfl (by kernel_rfl) (by kernel_rfl) (by kernel_rfl) (by kernel_rfl) (fun w hS => by kernel_rfl) hbh14 ?_
          simp only [List.setIfInBounds_toArray, List.set_cons_succ, List.set_cons_zero]
          refine held_put 32 152 (.bool true) rfl rfl (by kernel_rfl) (by kernel_rfl) (by kernel_rfl) (by kernel_rfl) (fun w hS => by kernel_rfl) hbh14 ?_
          simp only [List.setIfInBounds_toArray, List.set_cons_succ, List.set_cons_zero]
          refine held_put 33 6 (.bool true) rfl rfl (by kernel_rfl) (by kernel_rfl) (by kernel_rfl) (by kernel_rfl) (fun w hS => rfl) hbh14 ?_
          simp only [List.setIfInBounds_toArray, List.set_cons_succ, List.set_cons_zero]
          refine held_done (by kernel_rfl) ?_
          simp only [Exit.then]
          go_wp2
          go_ret
          exact ⟨rfl, hBc.trans (hbh14.mono hBc.size)⟩
      · have hzp : 0 < q := by omega
        refine wp_held_any (S := fun w' => Below wc.heap.size wc w') 34 rfl (by kernel_rfl) ?_
        have hd : Below wc.heap.size wc { wc with drawn := wc.drawn + 1 } := (Below.refl _ _).drew
        generalize ({ wc with drawn := wc.drawn + 1 } : World) = wd at *
        refine held_put 0 120 (.slice (some ⟨b, off, none⟩) L.length c1) rfl rfl (by kernel_rfl) (by kernel_rfl) (by kernel_rfl) (by kernel_rfl) (fun w hS => rfl) hd ?_
        simp only [List.setIfInBounds_toArray, List.set_cons_succ, List.set_cons_zero]
        refine held_put 1 121 (.int .i64 ((k : Nat) : Int)) rfl rfl (by kernel_rfl) (by kernel_rfl) (by kernel_rfl) (by kernel_rfl) (fun w hS => rfl) hd ?_
        simp only [List.setIfInBounds_toArray, List.set_cons_succ, List.set_cons_zero]
        refine held_put 2 122 (.pointer (some ⟨b, off + k, none⟩)) rfl rfl (by kernel_rfl) (by kernel_rfl) (by kernel_rfl) (by kernel_rfl) (fun w hS => run_idxS b off _ c1 k hkn rfl rfl w) hd ?_
        simp only [List.setIfInBounds_toArray, List.set_cons_succ, List.set_cons_zero]
        refine held_put 3 123 (.string (bytesOf x)) rfl rfl (by kernel_rfl) (by kernel_rfl) (by kernel_rfl) (by kernel_rfl) (fun w hS => run_ldT _ _ w ((hS.cell (p := ⟨b, off + k, none⟩) lbc).trans hcxc) rfl) hd ?_
        simp only [List.setIfInBounds_toArray, List.set_cons_succ, List.set_cons_zero]
        refine held_put 4 124 (.int .i64 ((k : Nat) : Int)) rfl rfl (by kernel_rfl) (by kernel_rfl) (by kernel_rfl) (by kernel_rfl) (fun w hS => rfl) hd ?_
        simp only [List.setIfInBounds_toArray, List.set_cons_succ, List.set_cons_zero]
        refine held_put 5 125 (.int .i64 ((L.length : Nat) : Int)) rfl rfl (by kernel_rfl) (by kernel_rfl) (by kernel_rfl) (by kernel_rfl) (fun w hS => rfl) hd ?_
        simp only [List.setIfInBounds_toArray, List.set_cons_succ, List.set_cons_zero]
        refine held_put 7 127 (.slice a2 PA.length c2) rfl rfl (by kernel_rfl) (by kernel_rfl) (by kernel_rfl) (by kernel_rfl) (fun w hS => rfl) hd ?_
        simp only [List.setIfInBounds_toArray, List.set_cons_succ, List.set_cons_zero]
        refine held_put 9 129 (.string (bytesOf R)) rfl rfl (by kernel_rfl) (by kernel_rfl) (by kernel_rfl) (by kernel_rfl) (fun w hS => rfl) hd ?_
        simp only [List.setIfInBounds_toArray, List.set_cons_succ, List.set_cons_zero]
        refine held_put 12 132 (.string (bytesOf R)) rfl rfl (by kernel_rfl) (by kernel_rfl) (by kernel_rfl) (by kernel_rfl) (fun w hS => rfl) hd ?_
        simp only [List.setIfInBounds_toArray, List.set_cons_succ, List.set_cons_zero]
        have ho15 : (wd.alloc (.cells #[] 9)).ownsRow wc.heap.size 9 1 (.slice (some ⟨wd.heap.size, 0, none⟩) 0 0) 0 [] := World.ownsRow_made wd #[] 0 hd.size (Nat.zero_le _) rfl
        have hb15 : Below wc.heap.size wc (wd.alloc (.cells #[] 9)) := hd.alloc hd.size _
        have hl16 : Lies (wd.alloc (.cells #[.string (bytesOf R)] 9)) wd.heap.size 9 #[.string (bytesOf R)] := Lies.new wd _ _
        have hb16 : Below wc.heap.size wc (wd.alloc (.cells #[.string (bytesOf R)] 9)) := hd.alloc hd.size _
        refine held_two 6 10 (by kernel_rfl) (wpOp_put 126 (w' := (wd.alloc (.cells #[] 9))) (v := .slice (some ⟨wd.heap.size, 0, none⟩) 0 0) rfl rfl (by kernel_rfl) (by kernel_rfl) ⟨hb15, ?_⟩) (wpOp_put 130 (w' := (wd.alloc (.cells #[.string (bytesOf R)] 9))) (v := .slice (some ⟨wd.heap.size, 0, none⟩) 1 1) rfl rfl (by kernel_rfl) (by kernel_rfl) ⟨hb16, ?_⟩)
        · simp only [List.setIfInBounds_toArray, List.set_cons_succ, List.set_cons_zero]
          generalize (wd.alloc (.cells #[] 9)) = x15 at *
          have hl18 : Lies (x15.alloc (.cells #[.string (bytesOf R)] 9)) x15.heap.size 9 #[.string (bytesOf R)] := Lies.new x15 _ _
          have hb18 : Below wc.heap.size wc (x15.alloc (.cells #[.string (bytesOf R)] 9)) := hb15.alloc hb15.size _
          have ho18 := ho15.alloc (.cells #[.string (bytesOf R)] 9)
          have hne18 : x15.heap.size ≠ wd.heap.size := Nat.ne_of_gt (ho15.lt _ rfl).2
          refine held_two 8 10 (by kernel_rfl) (wpOp_lawD 128 rfl rfl (by kernel_rfl) (wpL_joinG wc.heap.size (wd.heap.size) ho15 hb15.size a2 c2 PA (HSP.below hb15) (by omega) rfl rfl ?_)) (wpOp_put 130 (w' := (x15.alloc (.cells #[.string (bytesOf R)] 9))) (v := .slice (some ⟨x15.heap.size, 0, none⟩) 1 1) rfl rfl (by kernel_rfl) (by kernel_rfl) ⟨hb18, ?_⟩)
          · intro g17 c17 x17 ho17 hgr17 hbn17
            have hb17 := hb15.trans hbn17
            refine And.intro hb17 ?_
            simp only [Act.put, List.setIfInBounds_toArray, List.set_cons_succ, List.set_cons_zero]
            have hl19 : Lies (x17.alloc (.cells #[.string (bytesOf R)] 9)) x17.heap.size 9 #[.string (bytesOf R)] := Lies.new x17 _ _
            have hb19 : Below wc.heap.size wc (x17.alloc (.cells #[.string (bytesOf R)] 9)) := hb17.alloc hb17.size _
            have ho19 := ho17.on ((Below.refl _ _).alloc (Nat.le_refl _) (.cells #[.string (bytesOf R)] 9))
            refine held_one 10 (by kernel_rfl) (wpOp_put 130 (w' := (x17.alloc (.cells #[.string (bytesOf R)] 9))) (v := .slice (some ⟨x17.heap.size, 0, none⟩) 1 1) rfl rfl (by kernel_rfl) (by kernel_rfl) ⟨hb19, ?_⟩)
            simp only [List.setIfInBounds_toArray, List.set_cons_succ, List.set_cons_zero]
            generalize (x17.alloc (.cells #[.string (bytesOf R)] 9)) = x19 at *
            refine held_one 11 (by kernel_rfl) (wpOp_lawD 131 rfl rfl (by kernel_rfl) (wpL_appendS wc.heap.size _ PA PA.length R (x17.heap.size) rfl ho19 hl19 (by omega) hb19.size rfl rfl ?_))
            intro g20 c20 x20 ho20 hbn20 hk20
            have hb20 := hb19.trans hbn20
            have hs20 := ho20.strs
            refine And.intro hb20 ?_
            simp only [Act.put, List.setIfInBounds_toArray, List.set_cons_succ, List.set_cons_zero]
            refine held_one 13 (by kernel_rfl) (wpOp_call 133 rfl rfl (by kernel_rfl) (by kernel_rfl) ((HH3.out x20 _ (hBc.trans (hb20.mono hBc.size)) hs20).mono ?_))
            rintro e y21 ⟨rfl, hbn⟩
            have hbh21 := hb20.trans (hbn.mono hb20.size)
            refine ⟨_, rfl, hbh21, ?_⟩
            simp only [List.setIfInBounds_toArray, List.set_cons_succ, List.set_cons_zero]
            refine held_put 14 134 (.bool true) rfl rfl (by kernel_rfl) (by kernel_rfl) (by kernel_rfl) (by kernel_rfl) (fun w hS => by kernel_rfl) hbh21 ?_
            simp only [List.setIfInBounds_toArray, List.set_cons_succ, List.set_cons_zero]
            refine held_put 15 135 (.bool true) rfl rfl (by kernel_rfl) (by kernel_rfl) (by kernel_rfl) (by kernel_rfl) (fun w hS => rfl) hbh21 ?_
            simp only [List.setIfInBounds_toArray, List.set_cons_succ, List.set_cons_zero]
            refine held_put 16 136 (.int .i64 ((q : Nat) : Int)) rfl rfl (by kernel_rfl) (by kernel_rfl) (by kernel_rfl) (by kernel_rfl) (fun w hS => rfl) hbh21 ?_
            simp only [List.setIfInBounds_toArray, List.set_cons_succ, List.set_cons_zero]
            refine held_put 17 137 (.bool false) rfl rfl (by kernel_rfl) (by kernel_rfl) (by kernel_rfl) (by kernel_rfl) (fun w hS => run_eqlI0 q hzp rfl w) hbh21 ?_
            simp only [List.setIfInBounds_toArray, List.set_cons_succ, List.set_cons_zero]
            refine held_put 18 138 (.bool false) rfl rfl (by kernel_rfl) (by kernel_rfl) (by kernel_rfl) (by kernel_rfl) (fun w hS => rfl) hbh21 ?_
            simp only [List.setIfInBounds_toArray, List.set_cons_succ, List.set_cons_zero]
            refine held_put 19 139 (.int .i64 ((q : Nat) : Int)) rfl rfl (by kernel_rfl) (by kernel_rfl) (by kernel_rfl) (by kernel_rfl) (fun w hS => rfl) hbh21 ?_
            simp only [List.setIfInBounds_toArray, List.set_cons_succ, List.set_cons_zero]
            refine held_put 20 140 (.int .i64 ((L.length : Nat) : Int)) rfl rfl (by kernel_rfl) (by kernel_rfl) (by kernel_rfl) (by kernel_rfl) (fun w hS => rfl) hbh21 ?_
            simp only [List.setIfInBounds_toArray, List.set_cons_succ, List.set_cons_zero]
            refine held_put 21 141 (.string (bytesOf O)) rfl rfl (by kernel_rfl) (by kernel_rfl) (by kernel_rfl) (by kernel_rfl) (fun w hS => rfl) hbh21 ?_
            simp only [List.setIfInBounds_toArray, List.set_cons_succ, List.set_cons_zero]
            refine held_put 22 142 (.string (bytesOf R)) rfl rfl (by kernel_rfl) (by kernel_rfl) (by kernel_rfl) (by kernel_rfl) (fun w hS => rfl) hbh21 ?_
            simp only [List.setIfInBounds_toArray, List.set_cons_succ, List.set_cons_zero]
            refine held_put 24 144 (.slice a3 SA.length c3) rfl rfl (by kernel_rfl) (by kernel_rfl) (by kernel_rfl) (by kernel_rfl) (fun w hS => rfl) hbh21 ?_
            simp only [List.setIfInBounds_toArray, List.set_cons_succ, List.set_cons_zero]
            refine held_put 26 146 (.string (bytesOf R)) rfl rfl (by kernel_rfl) (by kernel_rfl) (by kernel_rfl) (by kernel_rfl) (fun w hS => rfl) hbh21 ?_
            simp only [List.setIfInBounds_toArray, List.set_cons_succ, List.set_cons_zero]
            have ho22 : (y21.alloc (.cells #[] 9)).ownsRow wc.heap.size 9 1 (.slice (some ⟨y21.heap.size, 0, none⟩) 0 0) 0 [] := World.ownsRow_made y21 #[] 0 hbh21.size (Nat.zero_le _) rfl
            have hb22 : Below wc.heap.size wc (y21.alloc (.cells #[] 9)) := hbh21.alloc hbh21.size _
            have hl23 : Lies (y21.alloc (.cells #[.string (bytesOf R)] 9)) y21.heap.size 9 #[.string (bytesOf R)] := Lies.new y21 _ _
            have hb23 : Below wc.heap.size wc (y21.alloc (.cells #[.string (bytesOf R)] 9)) := hbh21.alloc hbh21.size _
            refine held_two 23 27 (by kernel_rfl) (wpOp_put 143 (w' := (y21.alloc (.cells #[] 9))) (v := .slice (some ⟨y21.heap.size, 0, none⟩) 0 0) rfl rfl (by kernel_rfl) (by kernel_rfl) ⟨hb22, ?_⟩) (wpOp_put 147 (w' := (y21.alloc (.cells #[.string (bytesOf R)] 9))) (v := .slice (some ⟨y21.heap.size, 0, none⟩) 1 1) rfl rfl (by kernel_rfl) (by kernel_rfl) ⟨hb23, ?_⟩)
            · simp only [List.setIfInBounds_toArray, List.set_cons_succ, List.set_cons_zero]
              generalize (y21.alloc (.cells #[] 9)) = x22 at *
              have hl25 : Lies (x22.alloc (.cells #[.string (bytesOf R)] 9)) x22.heap.size 9 #[.string (bytesOf R)] := Lies.new x22 _ _
              have hb25 : Below wc.heap.size wc (x22.alloc (.cells #[.string (bytesOf R)] 9)) := hb22.alloc hb22.size _
              have ho25 := ho22.alloc (.cells #[.string (bytesOf R)] 9)
              have hne25 : x22.heap.size ≠ y21.heap.size := Nat.ne_of_gt (ho22.lt _ rfl).2
              refine held_two 25 27 (by kernel_rfl) (wpOp_lawD 145 rfl rfl (by kernel_rfl) (wpL_joinG wc.heap.size (y21.heap.size) ho22 hb22.size a3 c3 SA (HSS.below hb22) (by omega) rfl rfl ?_)) (wpOp_put 147 (w' := (x22.alloc (.cells #[.string (bytesOf R)] 9))) (v := .slice (some ⟨x22.heap.size, 0, none⟩) 1 1) rfl rfl (by kernel_rfl) (by kernel_rfl) ⟨hb25, ?_⟩)
              · intro g24 c24 x24 ho24 hgr24 hbn24
                have hb24 := hb22.trans hbn24
                refine And.intro hb24 ?_
                simp only [Act.put, List.setIfInBounds_toArray, List.set_cons_succ, List.set_cons_zero]
                have hl26 : Lies (x24.alloc (.cells #[.string (bytesOf R)] 9)) x24.heap.size 9 #[.string (bytesOf R)] := Lies.new x24 _ _
                have hb26 : Below wc.heap.size wc (x24.alloc (.cells #[.string (bytesOf R)] 9)) := hb24.alloc hb24.size _
                have ho26 := ho24.on ((Below.refl _ _).alloc (Nat.le_refl _) (.cells #[.string (bytesOf R)] 9))
                refine held_one 27 (by kernel_rfl) (wpOp_put 147 (w' := (x24.alloc (.cells #[.string (bytesOf R)] 9))) (v := .slice (some ⟨x24.heap.size, 0, none⟩) 1 1) rfl rfl (by kernel_rfl) (by kernel_rfl) ⟨hb26, ?_⟩)
                simp only [List.setIfInBounds_toArray, List.set_cons_succ, List.set_cons_zero]
                generalize (x24.alloc (.cells #[.string (bytesOf R)] 9)) = x26 at *
                refine held_one 28 (by kernel_rfl) (wpOp_lawD 148 rfl rfl (by kernel_rfl) (wpL_appendS wc.heap.size _ SA SA.length R (x24.heap.size) rfl ho26 hl26 (by omega) hb26.size rfl rfl ?_))
                intro g27 c27 x27 ho27 hbn27 hk27
                have hb27 := hb26.trans hbn27
                have hs27 := ho27.strs
                refine And.intro hb27 ?_
                simp only [Act.put, List.setIfInBounds_toArray, List.set_cons_succ, List.set_cons_zero]
                refine held_one 29 (by kernel_rfl) (wpOp_call 149 rfl rfl (by kernel_rfl) (by kernel_rfl) ((HF3.out hzp x27 _ (hBc.trans (hb27.mono hBc.size)) hs27).mono ?_))
                rintro e y28 ⟨rfl, hbn⟩
                have hbf28 := hb27.trans (hbn.mono hb27.size)
                refine ⟨_, rfl, hbf28, ?_⟩
                simp only [List.setIfInBounds_toArray, List.set_cons_succ, List.set_cons_zero]
                refine held_put 30 150 (.bool true) rfl rfl (by kernel_rfl) (by kernel_rfl) (by kernel_rfl) (by kernel_rfl) (fun w hS => by kernel_rfl) hbf28 ?_
                simp only [List.setIfInBounds_toArray, List.set_cons_succ, List.set_cons_zero]
                refine held_put 31 151 (.bool true) rfl rfl (by kernel_rfl) (by kernel_rfl) (by kernel_rfl) (by kernel_rfl) (fun w hS => by kernel_rfl) hbf28 ?_
                simp only [List.setIfInBounds_toArray, List.set_cons_succ, List.set_cons_zero]
                refine held_put 32 152 (.bool true) rfl rfl (by kernel_rfl) (by kernel_rfl) (by kernel_rfl) (by kernel_rfl) (fun w hS => by kernel_rfl) hbf28 ?_
                simp only [List.setIfInBounds_toArray, List.set_cons_succ, List.set_cons_zero]
                refine held_put 33 6 (.bool true) rfl rfl (by kernel_rfl) (by kernel_rfl) (by kernel_rfl) (by kernel_rfl) (fun w hS => rfl) hbf28 ?_
                simp only [List.setIfInBounds_toArray, List.set_cons_succ, List.set_cons_zero]
                refine held_done (by kernel_rfl) ?_
                simp only [Exit.then]
                go_wp2
                go_ret
                exact ⟨rfl, hBc.trans (hbf28.mono hBc.size)⟩
              · simp only [List.setIfInBounds_toArray, List.set_cons_succ, List.set_cons_zero]
                generalize (x22.alloc (.cells #[.string (bytesOf R)] 9)) = x25 at *
                refine held_one 25 (by kernel_rfl) (wpOp_lawD 145 rfl rfl (by kernel_rfl) (wpL_joinG wc.heap.size (y21.heap.size) ho25 hb25.size a3 c3 SA (HSS.below hb25) (by omega) rfl rfl ?_))
                intro g29 c29 x29 ho29 hgr29 hbn29
                have hb29 := hb25.trans hbn29
                have hl29 := hl25.only hgr29 (fun e => hne25 (Option.some.inj e))
                refine And.intro hb29 ?_
                simp only [Act.put, List.setIfInBounds_toArray, List.set_cons_succ, List.set_cons_zero]
                refine held_one 28 (by kernel_rfl) (wpOp_lawD 148 rfl rfl (by kernel_rfl) (wpL_appendS wc.heap.size _ SA SA.length R (x22.heap.size) rfl ho29 hl29 (by omega) hb29.size rfl rfl ?_))
                intro g30 c30 x30 ho30 hbn30 hk30
                have hb30 := hb29.trans hbn30
                have hs30 := ho30.strs
                refine And.intro hb30 ?_
                simp only [Act.put, List.setIfInBounds_toArray, List.set_cons_succ, List.set_cons_zero]
                refine held_one 29 (by kernel_rfl) (wpOp_call 149 rfl rfl (by kernel_rfl) (by kernel_rfl) ((HF3.out hzp x30 _ (hBc.trans (hb30.mono hBc.size)) hs30).mono ?_))
                rintro e y31 ⟨rfl, hbn⟩
                have hbf31 := hb30.trans (hbn.mono hb30.size)
                refine ⟨_, rfl, hbf31, ?_⟩
                simp only [List.setIfInBounds_toArray, List.set_cons_succ, List.set_cons_zero]
                refine held_put 30 150 (.bool true) rfl rfl (by kernel_rfl) (by kernel_rfl) (by kernel_rfl) (by kernel_rfl) (fun w hS => by kernel_rfl) hbf31 ?_
                simp only [List.setIfInBounds_toArray, List.set_cons_succ, List.set_cons_zero]
                refine held_put 31 151 (.bool true) rfl rfl (by kernel_rfl) (by kernel_rfl) (by kernel_rfl) (by kernel_rfl) (fun w hS => by kernel_rfl) hbf31 ?_
                simp only [List.setIfInBounds_toArray, List.set_cons_succ, List.set_cons_zero]
                refine held_put 32 152 (.bool true) rfl rfl (by kernel_rfl) (by kernel_rfl) (by kernel_rfl) (by kernel_rfl) (fun w hS => by kernel_rfl) hbf31 ?_
                simp only [List.setIfInBounds_toArray, List.set_cons_succ, List.set_cons_zero]
                refine held_put 33 6 (.bool true) rfl rfl (by kernel_rfl) (by kernel_rfl) (by kernel_rfl) (by kernel_rfl) (fun w hS => rfl) hbf31 ?_
                simp only [List.setIfInBounds_toArray, List.set_cons_succ, List.set_cons_zero]
                refine held_done (by kernel_rfl) ?_
                simp only [Exit.then]
                go_wp2
                go_ret
                exact ⟨rfl, hBc.trans (hbf31.mono hBc.size)⟩
            · simp only [List.setIfInBounds_toArray, List.set_cons_succ, List.set_cons_zero]
              generalize (y21.alloc (.cells #[.string (bytesOf R)] 9)) = x23 at *
              have ho32 : (x23.alloc (.cells #[] 9)).ownsRow wc.heap.size 9 1 (.slice (some ⟨x23.heap.size, 0, none⟩) 0 0) 0 [] := World.ownsRow_made x23 #[] 0 hb23.size (Nat.zero_le _) rfl
              have hb32 : Below wc.heap.size wc (x23.alloc (.cells #[] 9)) := hb23.alloc hb23.size _
              have hl32 : Lies (x23.alloc (.cells #[] 9)) y21.heap.size 9 #[.string (bytesOf R)] := hl23.alloc _
              have hne32 : y21.heap.size ≠ x23.heap.size := Nat.ne_of_lt hl23.lt
              refine held_one 23 (by kernel_rfl) (wpOp_put 143 (w' := (x23.alloc (.cells #[] 9))) (v := .slice (some ⟨x23.heap.size, 0, none⟩) 0 0) rfl rfl (by kernel_rfl) (by kernel_rfl) ⟨hb32, ?_⟩)
              simp only [List.setIfInBounds_toArray, List.set_cons_succ, List.set_cons_zero]
              generalize (x23.alloc (.cells #[] 9)) = x32 at *
              refine held_one 25 (by kernel_rfl) (wpOp_lawD 145 rfl rfl (by kernel_rfl) (wpL_joinG wc.heap.size (x23.heap.size) ho32 hb32.size a3 c3 SA (HSS.below hb32) (by omega) rfl rfl ?_))
              intro g33 c33 x33 ho33 hgr33 hbn33
              have hb33 := hb32.trans hbn33
              have hl33 := hl32.only hgr33 (fun e => hne32 (Option.some.inj e))
              refine And.intro hb33 ?_
              simp only [Act.put, List.setIfInBounds_toArray, List.set_cons_succ, List.set_cons_zero]
              refine held_one 28 (by kernel_rfl) (wpOp_lawD 148 rfl rfl (by kernel_rfl) (wpL_appendS wc.heap.size _ SA SA.length R (y21.heap.size) rfl ho33 hl33 (by omega) hb33.size rfl rfl ?_))
              intro g34 c34 x34 ho34 hbn34 hk34
              have hb34 := hb33.trans hbn34
              have hs34 := ho34.strs
              refine And.intro hb34 ?_
              simp only [Act.put, List.setIfInBounds_toArray, List.set_cons_succ, List.set_cons_zero]
              refine held_one 29 (by kernel_rfl) (wpOp_call 149 rfl rfl (by kernel_rfl) (by kernel_rfl) ((HF3.out hzp x34 _ (hBc.trans (hb34.mono hBc.size)) hs34).mono ?_))
              rintro e y35 ⟨rfl, hbn⟩
              have hbf35 := hb34.trans (hbn.mono hb34.size)
              refine ⟨_, rfl, hbf35, ?_⟩
              simp only [List.setIfInBounds_toArray, List.set_cons_succ, List.set_cons_zero]
              refine held_put 30 150 (.bool true) rfl rfl (by kernel_rfl) (by kernel_rfl) (by kernel_rfl) (by kernel_rfl) (fun w hS => by kernel_rfl) hbf35 ?_
              simp only [List.setIfInBounds_toArray, List.set_cons_succ, List.set_cons_zero]
              refine held_put 31 151 (.bool true) rfl rfl (by kernel_rfl) (by kernel_rfl) (by kernel_rfl) (by kernel_rfl) (fun w hS => by kernel_rfl) hbf35 ?_
              simp only [List.setIfInBounds_toArray, List.set_cons_succ, List.set_cons_zero]
              refine held_put 32 152 (.bool true) rfl rfl (by kernel_rfl) (by kernel_rfl) (by kernel_rfl) (by kernel_rfl) (fun w hS => by kernel_rfl) hbf35 ?_
              simp only [List.setIfInBounds_toArray, List.set_cons_succ, List.set_cons_zero]
              refine held_put 33 6 (.bool true) rfl rfl (by kernel_rfl) (by kernel_rfl) (by kernel_rfl) (by kernel_rfl) (fun w hS => rfl) hbf35 ?_
              simp only [List.setIfInBounds_toArray, List.set_cons_succ, List.set_cons_zero]
              refine held_done (by kernel_rfl) ?_
              simp only [Exit.then]
              go_wp2
              go_ret
              exact ⟨rfl, hBc.trans (hbf35.mono hBc.size)⟩
          · simp only [List.setIfInBounds_toArray, List.set_cons_succ, List.set_cons_zero]
            generalize (x15.alloc (.cells #[.string (bytesOf R)] 9)) = x18 at *
            refine held_one 8 (by kernel_rfl) (wpOp_lawD 128 rfl rfl (by kernel_rfl) (wpL_joinG wc.heap.size (wd.heap.size) ho18 hb18.size a2 c2 PA (HSP.below hb18) (by omega) rfl rfl ?_))
            intro g36 c36 x36 ho36 hgr36 hbn36
            have hb36 := hb18.trans hbn36
            have hl36 := hl18.only hgr36 (fun e => hne18 (Option.some.inj e))
            refine And.intro hb36 ?_
            simp only [Act.put, List.setIfInBounds_toArray, List.set_cons_succ, List.set_cons_zero]
            refine held_one 11 (by kernel_rfl) (wpOp_lawD 131 rfl rfl (by kernel_rfl) (wpL_appendS wc.heap.size _ PA PA.length R (x15.heap.size) rfl ho36 hl36 (by omega) hb36.size rfl rfl ?_))
            intro g37 c37 x37 ho37 hbn37 hk37
            have hb37 := hb36.trans hbn37
            have hs37 := ho37.strs
            refine And.intro hb37 ?_
            simp only [Act.put, List.setIfInBounds_toArray, List.set_cons_succ, List.set_cons_zero]
            refine held_one 13 (by kernel_rfl) (wpOp_call 133 rfl rfl (by kernel_rfl) (by kernel_rfl) ((HH3.out x37 _ (hBc.trans (hb37.mono hBc.size)) hs37).mono ?_))
            rintro e y38 ⟨rfl, hbn⟩
            have hbh38 := hb37.trans (hbn.mono hb37.size)
            refine ⟨_, rfl, hbh38, ?_⟩
            simp only [List.setIfInBounds_toArray, List.set_cons_succ, List.set_cons_zero]
            refine held_put 14 134 (.bool true) rfl rfl (by kernel_rfl) (by kernel_rfl) (by kernel_rfl) (by kernel_rfl) (fun w hS => by kernel_rfl) hbh38 ?_
            simp only [List.setIfInBounds_toArray, List.set_cons_succ, List.set_cons_zero]
            refine held_put 15 135 (.bool true) rfl rfl (by kernel_rfl) (by kernel_rfl) (by kernel_rfl) (by kernel_rfl) (fun w hS => rfl) hbh38 ?_
            simp only [List.setIfInBounds_toArray, List.set_cons_succ, List.set_cons_zero]
            refine held_put 16 136 (.int .i64 ((q : Nat) : Int)) rfl rfl (by kernel_rfl) (by kernel_rfl) (by kernel_rfl) (by kernel_rfl) (fun w hS => rfl) hbh38 ?_
            simp only [List.setIfInBounds_toArray, List.set_cons_succ, List.set_cons_zero]
            refine held_put 17 137 (.bool false) rfl rfl (by kernel_rfl) (by kernel_rfl) (by kernel_rfl) (by kernel_rfl) (fun w hS => run_eqlI0 q hzp rfl w) hbh38 ?_
            simp only [List.setIfInBounds_toArray, List.set_cons_succ, List.set_cons_zero]
            refine held_put 18 138 (.bool false) rfl rfl (by kernel_rfl) (by kernel_rfl) (by kernel_rfl) (by kernel_rfl) (fun w hS => rfl) hbh38 ?_
            simp only [List.setIfInBounds_toArray, List.set_cons_succ, List.set_cons_zero]
            refine held_put 19 139 (.int .i64 ((q : Nat) : Int)) rfl rfl (by kernel_rfl) (by kernel_rfl) (by kernel_rfl) (by kernel_rfl) (fun w hS => rfl) hbh38 ?_
            simp only [List.setIfInBounds_toArray, List.set_cons_succ, List.set_cons_zero]
            refine held_put 20 140 (.int .i64 ((L.length : Nat) : Int)) rfl rfl (by kernel_rfl) (by kernel_rfl) (by kernel_rfl) (by kernel_rfl) (fun w hS => rfl) hbh38 ?_
            simp only [List.setIfInBounds_toArray, List.set_cons_succ, List.set_cons_zero]
            refine held_put 21 141 (.string (bytesOf O)) rfl rfl (by kernel_rfl) (by kernel_rfl) (by kernel_rfl) (by kernel_rfl) (fun w hS => rfl) hbh38 ?_
            simp only [List.setIfInBounds_toArray, List.set_cons_succ, List.set_cons_zero]
            refine held_put 22 142 (.string (bytesOf R)) rfl rfl (by kernel_rfl) (by kernel_rfl) (by kernel_rfl) (by kernel_rfl) (fun w hS => rfl) hbh38 ?_
            simp only [List.setIfInBounds_toArray, List.set_cons_succ, List.set_cons_zero]
            refine held_put 24 144 (.slice a3 SA.length c3) rfl rfl (by kernel_rfl) (by kernel_rfl) (by kernel_rfl) (by kernel_rfl) (fun w hS => rfl) hbh38 ?_
            simp only [List.setIfInBounds_toArray, List.set_cons_succ, List.set_cons_zero]
            refine held_put 26 146 (.string (bytesOf R)) rfl rfl (by kernel_rfl) (by kernel_rfl) (by kernel_rfl) (by kernel_rfl) (fun w hS => rfl) hbh38 ?_
            simp only [List.setIfInBounds_toArray, List.set_cons_succ, List.set_cons_zero]
            have ho39 : (y38.alloc (.cells #[] 9)).ownsRow wc.heap.size 9 1 (.slice (some ⟨y38.heap.size, 0, none⟩) 0 0) 0 [] := World.ownsRow_made y38 #[] 0 hbh38.size (Nat.zero_le _) rfl
            have hb39 : Below wc.heap.size wc (y38.alloc (.cells #[] 9)) := hbh38.alloc hbh38.size _
            have hl40 : Lies (y38.alloc (.cells #[.string (bytesOf R)] 9)) y38.heap.size 9 #[.string (bytesOf R)] := Lies.new y38 _ _
            have hb40 : Below wc.heap.size wc (y38.alloc (.cells #[.string (bytesOf R)] 9)) := hbh38.alloc hbh38.size _
            refine held_two 23 27 (by kernel_rfl) (wpOp_put 143 (w' := (y38.alloc (.cells #[] 9))) (v := .slice (some ⟨y38.heap.size, 0, none⟩) 0 0) rfl rfl (by kernel_rfl) (by kernel_rfl) ⟨hb39, ?_⟩) (wpOp_put 147 (w' := (y38.alloc (.cells #[.string (bytesOf R)] 9))) (v := .slice (some ⟨y38.heap.size, 0, none⟩) 1 1) rfl rfl (by kernel_rfl) (by kernel_rfl) ⟨hb40, ?_⟩)
            · simp only [List.setIfInBounds_toArray, List.set_cons_succ, List.set_cons_zero]
              generalize (y38.alloc (.cells #[] 9)) = x39 at *
              have hl42 : Lies (x39.alloc (.cells #[.string (bytesOf R)] 9)) x39.heap.size 9 #[.string (bytesOf R)] := Lies.new x39 _ _
              have hb42 : Below wc.heap.size wc (x39.alloc (.cells #[.string (bytesOf R)] 9)) := hb39.alloc hb39.size _
              have ho42 := ho39.alloc (.cells #[.string (bytesOf R)] 9)
              have hne42 : x39.heap.size ≠ y38.heap.size := Nat.ne_of_gt (ho39.lt _ rfl).2
              refine held_two 25 27 (by kernel_rfl) (wpOp_lawD 145 rfl rfl (by kernel_rfl) (wpL_joinG wc.heap.size (y38.heap.size) ho39 hb39.size a3 c3 SA (HSS.below hb39) (by omega) rfl rfl ?_)) (wpOp_put 147 (w' := (x39.alloc (.cells #[.string (bytesOf R)] 9))) (v := .slice (some ⟨x39.heap.size, 0, none⟩) 1 1) rfl rfl (by kernel_rfl) (by kernel_rfl) ⟨hb42, ?_⟩)
              · intro g41 c41 x41 ho41 hgr41 hbn41
                have hb41 := hb39.trans hbn41
                refine And.intro hb41 ?_
                simp only [Act.put, List.setIfInBounds_toArray, List.set_cons_succ, List.set_cons_zero]
                have hl43 : Lies (x41.alloc (.cells #[.string (bytesOf R)] 9)) x41.heap.size 9 #[.string (bytesOf R)] := Lies.new x41 _ _
                have hb43 : Below wc.heap.size wc (x41.alloc (.cells #[.string (bytesOf R)] 9)) := hb41.alloc hb41.size _
                have ho43 := ho41.on ((Below.refl _ _).alloc (Nat.le_refl _) (.cells #[.string (bytesOf R)] 9))
                refine held_one 27 (by kernel_rfl) (wpOp_put 147 (w' := (x41.alloc (.cells #[.string (bytesOf R)] 9))) (v := .slice (some ⟨x41.heap.size, 0, none⟩) 1 1) rfl rfl (by kernel_rfl) (by kernel_rfl) ⟨hb43, ?_⟩)
                simp only [List.setIfInBounds_toArray, List.set_cons_succ, List.set_cons_zero]
                generalize (x41.alloc (.cells #[.string (bytesOf R)] 9)) = x43 at *
                refine held_one 28 (by kernel_rfl) (wpOp_lawD 148 rfl rfl (by kernel_rfl) (wpL_appendS wc.heap.size _ SA SA.length R (x41.heap.size) rfl ho43 hl43 (by omega) hb43.size rfl rfl ?_))
                intro g44 c44 x44 ho44 hbn44 hk44
                have hb44 := hb43.trans hbn44
                have hs44 := ho44.strs
                refine And.intro hb44 ?_
                simp only [Act.put, List.setIfInBounds_toArray, List.set_cons_succ, List.set_cons_zero]
                refine held_one 29 (by kernel_rfl) (wpOp_call 149 rfl rfl (by kernel_rfl) (by kernel_rfl) ((HF3.out hzp x44 _ (hBc.trans (hb44.mono hBc.size)) hs44).mono ?_))
                rintro e y45 ⟨rfl, hbn⟩
                have hbf45 := hb44.trans (hbn.mono hb44.size)
                refine ⟨_, rfl, hbf45, ?_⟩
                simp only [List.setIfInBounds_toArray, List.set_cons_succ, List.set_cons_zero]
                refine held_put 30 150 (.bool true) rfl rfl (by kernel_rfl) (by kernel_rfl) (by kernel_rfl) (by kernel_rfl) (fun w hS => by kernel_rfl) hbf45 ?_
                simp only [List.setIfInBounds_toArray, List.set_cons_succ, List.set_cons_zero]
                refine held_put 31 151 (.bool true) rfl rfl (by kernel_rfl) (by kernel_rfl) (by kernel_rfl) (by kernel_rfl) (fun w hS => by kernel_rfl) hbf45 ?_
                simp only [List.setIfInBounds_toArray, List.set_cons_succ, List.set_cons_zero]
                refine held_put 32 152 (.bool true) rfl rfl (by kernel_rfl) (by kernel_rfl) (by kernel_rfl) (by kernel_rfl) (fun w hS => by kernel_rfl) hbf45 ?_
                simp only [List.setIfInBounds_toArray, List.set_cons_succ, List.set_cons_zero]
                refine held_put 33 6 (.bool true) rfl rfl (by kernel_rfl) (by kernel_rfl) (by kernel_rfl) (by kernel_rfl) (fun w hS => rfl) hbf45 ?_
                simp only [List.setIfInBounds_toArray, List.set_cons_succ, List.set_cons_zero]
                refine held_done (by kernel_rfl) ?_
                simp only [Exit.then]
                go_wp2
                go_ret
                exact ⟨rfl, hBc.trans (hbf45.mono hBc.size)⟩
              · simp only [List.setIfInBounds_toArray, List.set_cons_succ, List.set_cons_zero]
                generalize (x39.alloc (.cells #[.string (bytesOf R)] 9)) = x42 at *
                refine held_one 25 (by kernel_rfl) (wpOp_lawD 145 rfl rfl (by kernel_rfl) (wpL_joinG wc.heap.size (y38.heap.size) ho42 hb42.size a3 c3 SA (HSS.below hb42) (by omega) rfl rfl ?_))
                intro g46 c46 x46 ho46 hgr46 hbn46
                have hb46 := hb42.trans hbn46
                have hl46 := hl42.only hgr46 (fun e => hne42 (Option.some.inj e))
                refine And.intro hb46 ?_
                simp only [Act.put, List.setIfInBounds_toArray, List.set_cons_succ, List.set_cons_zero]
                refine held_one 28 (by kernel_rfl) (wpOp_lawD 148 rfl rfl (by kernel_rfl) (wpL_appendS wc.heap.size _ SA SA.length R (x39.heap.size) rfl ho46 hl46 (by omega) hb46.size rfl rfl ?_))
                intro g47 c47 x47 ho47 hbn47 hk47
                have hb47 := hb46.trans hbn47
                have hs47 := ho47.strs
                refine And.intro hb47 ?_
                simp only [Act.put, List.setIfInBounds_toArray, List.set_cons_succ, List.set_cons_zero]
                refine held_one 29 (by kernel_rfl) (wpOp_call 149 rfl rfl (by kernel_rfl) (by kernel_rfl) ((HF3.out hzp x47 _ (hBc.trans (hb47.mono hBc.size)) hs47).mono ?_))
                rintro e y48 ⟨rfl, hbn⟩
                have hbf48 := hb47.trans (hbn.mono hb47.size)
                refine ⟨_, rfl, hbf48, ?_⟩
                simp only [List.setIfInBounds_toArray, List.set_cons_succ, List.set_cons_zero]
                refine held_put 30 150 (.bool true) rfl rfl (by kernel_rfl) (by kernel_rfl) (by kernel_rfl) (by kernel_rfl) (fun w hS => by kernel_rfl) hbf48 ?_
                simp only [List.setIfInBounds_toArray, List.set_cons_succ, List.set_cons_zero]
                refine held_put 31 151 (.bool true) rfl rfl (by kernel_rfl) (by kernel_rfl) (by kernel_rfl) (by kernel_rfl) (fun w hS => by kernel_rfl) hbf48 ?_
                simp only [List.setIfInBounds_toArray, List.set_cons_succ, List.set_cons_zero]
                refine held_put 32 152 (.bool true) rfl rfl (by kernel_rfl) (by kernel_rfl) (by kernel_rfl) (by kernel_rfl) (fun w hS => by kernel_rfl) hbf48 ?_
                simp only [List.setIfInBounds_toArray, List.set_cons_succ, List.set_cons_zero]
                refine held_put 33 6 (.bool true) rfl rfl (by kernel_rfl) (by kernel_rfl) (by kernel_rfl) (by kernel_rfl) (fun w hS => rfl) hbf48 ?_
                simp only [List.setIfInBounds_toArray, List.set_cons_succ, List.set_cons_zero]
                refine held_done (by kernel_rfl) ?_
                simp only [Exit.then]
                go_wp2
                go_ret
                exact ⟨rfl, hBc.trans (hbf48.mono hBc.size)⟩
            · simp only [List.setIfInBounds_toArray, List.set_cons_succ, List.set_cons_zero]
              generalize (y38.alloc (.cells #[.string (bytesOf R)] 9)) = x40 at *
              have ho49 : (x40.alloc (.cells #[] 9)).ownsRow wc.heap.size 9 1 (.slice (some ⟨x40.heap.size, 0, none⟩) 0 0) 0 [] := World.ownsRow_made x40 #[] 0 hb40.size (Nat.zero_le _) rfl
              have hb49 : Below wc.heap.size wc (x40.alloc (.cells #[] 9)) := hb40.alloc hb40.size _
              have hl49 : Lies (x40.alloc (.cells #[] 9)) y38.heap.size 9 #[.string (bytesOf R)] := hl40.alloc _
              have hne49 : y38.heap.size ≠ x40.heap.size := Nat.ne_of_lt hl40.lt
              refine held_one 23 (by kernel_rfl) (wpOp_put 143 (w' := (x40.alloc (.cells #[] 9))) (v := .slice (some ⟨x40.heap.size, 0, none⟩) 0 0) rfl rfl (by kernel_rfl) (by kernel_rfl) ⟨hb49, ?_⟩)
              simp only [List.setIfInBounds_toArray, List.set_cons_succ, List.set_cons_zero]
              generalize (x40.alloc (.cells #[] 9)) = x49 at *
              refine held_one 25 (by kernel_rfl) (wpOp_lawD 145 rfl rfl (by kernel_rfl) (wpL_joinG wc.heap.size (x40.heap.size) ho49 hb49.size a3 c3 SA (HSS.below hb49) (by omega) rfl rfl ?_))
              intro g50 c50 x50 ho50 hgr50 hbn50
              have hb50 := hb49.trans hbn50
              have hl50 := hl49.only hgr50 (fun e => hne49 (Option.some.inj e))
              refine And.intro hb50 ?_
              simp only [Act.put, List.setIfInBounds_toArray, List.set_cons_succ, List.set_cons_zero]
              refine held_one 28 (by kernel_rfl) (wpOp_lawD 148 rfl rfl (by kernel_rfl) (wpL_appendS wc.heap.size _ SA SA.length R (y38.heap.size) rfl ho50 hl50 (by omega) hb50.size rfl rfl ?_))
              intro g51 c51 x51 ho51 hbn51 hk51
              have hb51 := hb50.trans hbn51
              have hs51 := ho51.strs
              refine And.intro hb51 ?_
              simp only [Act.put, List.setIfInBounds_toArray, List.set_cons_succ, List.set_cons_zero]
              refine held_one 29 (by kernel_rfl) (wpOp_call 149 rfl rfl (by kernel_rfl) (by kernel_rfl) ((HF3.out hzp x51 _ (hBc.trans (hb51.mono hBc.size)) hs51).mono ?_))
              rintro e y52 ⟨rfl, hbn⟩
              have hbf52 := hb51.trans (hbn.mono hb51.size)
              refine ⟨_, rfl, hbf52, ?_⟩
              simp only [List.setIfInBounds_toArray, List.set_cons_succ, List.set_cons_zero]
              refine held_put 30 150 (.bool true) rfl rfl (by kernel_rfl) (by kernel_rfl) (by kernel_rfl) (by kernel_rfl) (fun w hS => by kernel_rfl) hbf52 ?_
              simp only [List.setIfInBounds_toArray, List.set_cons_succ, List.set_cons_zero]
              refine held_put 31 151 (.bool true) rfl rfl (by kernel_rfl) (by kernel_rfl) (by kernel_rfl) (by kernel_rfl) (fun w hS => by kernel_rfl) hbf52 ?_
              simp only [List.setIfInBounds_toArray, List.set_cons_succ, List.set_cons_zero]
              refine held_put 32 152 (.bool true) rfl rfl (by kernel_rfl) (by kernel_rfl) (by kernel_rfl) (by kernel_rfl) (fun w hS => by kernel_rfl) hbf52 ?_
              simp only [List.setIfInBounds_toArray, List.set_cons_succ, List.set_cons_zero]
              refine held_put 33 6 (.bool true) rfl rfl (by kernel_rfl) (by kernel_rfl) (by kernel_rfl) (by kernel_rfl) (fun w hS => rfl) hbf52 ?_
              simp only [List.setIfInBounds_toArray, List.set_cons_succ, List.set_cons_zero]
              refine held_done (by kernel_rfl) ?_
              simp only [Exit.then]
              go_wp2
              go_ret
              exact ⟨rfl, hBc.trans (hbf52.mono hBc.size)⟩
        · simp only [List.setIfInBounds_toArray, List.set_cons_succ, List.set_cons_zero]
          generalize (wd.alloc (.cells #[.string (bytesOf R)] 9)) = x16 at *
          have ho53 : (x16.alloc (.cells #[] 9)).ownsRow wc.heap.size 9 1 (.slice (some ⟨x16.heap.size, 0, none⟩) 0 0) 0 [] := World.ownsRow_made x16 #[] 0 hb16.size (Nat.zero_le _) rfl
          have hb53 : Below wc.heap.size wc (x16.alloc (.cells #[] 9)) := hb16.alloc hb16.size _
          have hl53 : Lies (x16.alloc (.cells #[] 9)) wd.heap.size 9 #[.string (bytesOf R)] := hl16.alloc _
          have hne53 : wd.heap.size ≠ x16.heap.size := Nat.ne_of_lt hl16.lt
          refine held_one 6 (by kernel_rfl) (wpOp_put 126 (w' := (x16.alloc (.cells #[] 9))) (v := .slice (some ⟨x16.heap.size, 0, none⟩) 0 0) rfl rfl (by kernel_rfl) (by kernel_rfl) ⟨hb53, ?_⟩)
          simp only [List.setIfInBounds_toArray, List.set_cons_succ, List.set_cons_zero]
          generalize (x16.alloc (.cells #[] 9)) = x53 at *
          refine held_one 8 (by kernel_rfl) (wpOp_lawD 128 rfl rfl (by kernel_rfl) (wpL_joinG wc.heap.size (x16.heap.size) ho53 hb53.size a2 c2 PA (HSP.below hb53) (by omega) rfl rfl ?_))
          intro g54 c54 x54 ho54 hgr54 hbn54
          have hb54 := hb53.trans hbn54
          have hl54 := hl53.only hgr54 (fun e => hne53 (Option.some.inj e))
          refine And.intro hb54 ?_
          simp only [Act.put, List.setIfInBounds_toArray, List.set_cons_succ, List.set_cons_zero]
          refine held_one 11 (by kernel_rfl) (wpOp_lawD 131 rfl rfl (by kernel_rfl) (wpL_appendS wc.heap.size _ PA PA.length R (wd.heap.size) rfl ho54 hl54 (by omega) hb54.size rfl rfl ?_))
          intro g55 c55 x55 ho55 hbn55 hk55
          have hb55 := hb54.trans hbn55
          have hs55 := ho55.strs
          refine And.intro hb55 ?_
          simp only [Act.put, List.setIfInBounds_toArray, List.set_cons_succ, List.set_cons_zero]
          refine held_one 13 (by kernel_rfl) (wpOp_call 133 rfl rfl (by kernel_rfl) (by kernel_rfl) ((HH3.out x55 _ (hBc.trans (hb55.mono hBc.size)) hs55).mono ?_))
          rintro e y56 ⟨rfl, hbn⟩
          have hbh56 := hb55.trans (hbn.mono hb55.size)
          refine ⟨_, rfl, hbh56, ?_⟩
          simp only [List.setIfInBounds_toArray, List.set_cons_succ, List.set_cons_zero]
          refine held_put 14 134 (.bool true) rfl rfl (by kernel_rfl) (by kernel_rfl) (by kernel_rfl) (by kernel_rfl) (fun w hS => by kernel_rfl) hbh56 ?_
          simp only [List.setIfInBounds_toArray, List.set_cons_succ, List.set_cons_zero]
          refine held_put 15 135 (.bool true) rfl rfl (by kernel_rfl) (by kernel_rfl) (by kernel_rfl) (by kernel_rfl) (fun w hS => rfl) hbh56 ?_
          simp only [List.setIfInBounds_toArray, List.set_cons_succ, List.set_cons_zero]
          refine held_put 16 136 (.int .i64 ((q : Nat) : Int)) rfl rfl (by kernel_rfl) (by kernel_rfl) (by kernel_rfl) (by kernel_rfl) (fun w hS => rfl) hbh56 ?_
          simp only [List.setIfInBounds_toArray, List.set_cons_succ, List.set_cons_zero]
          refine held_put 17 137 (.bool false) rfl rfl (by kernel_rfl) (by kernel_rfl) (by kernel_rfl) (by kernel_rfl) (fun w hS => run_eqlI0 q hzp rfl w) hbh56 ?_
          simp only [List.setIfInBounds_toArray, List.set_cons_succ, List.set_cons_zero]
          refine held_put 18 138 (.bool false) rfl rfl (by kernel_rfl) (by kernel_rfl) (by kernel_rfl) (by kernel_rfl) (fun w hS => rfl) hbh56 ?_
          simp only [List.setIfInBounds_toArray, List.set_cons_succ, List.set_cons_zero]
          refine held_put 19 139 (.int .i64 ((q : Nat) : Int)) rfl rfl (by kernel_rfl) (by kernel_rfl) (by kernel_rfl) (by kernel_rfl) (fun w hS => rfl) hbh56 ?_
          simp only [List.setIfInBounds_toArray, List.set_cons_succ, List.set_cons_zero]
          refine held_put 20 140 (.int .i64 ((L.length : Nat) : Int)) rfl rfl (by kernel_rfl) (by kernel_rfl) (by kernel_rfl) (by kernel_rfl) (fun w hS => rfl) hbh56 ?_
          simp only [List.setIfInBounds_toArray, List.set_cons_succ, List.set_cons_zero]
          refine held_put 21 141 (.string (bytesOf O)) rfl rfl (by kernel_rfl) (by kernel_rfl) (by kernel_rfl) (by kernel_rfl) (fun w hS => rfl) hbh56 ?_
          simp only [List.setIfInBounds_toArray, List.set_cons_succ, List.set_cons_zero]
          refine held_put 22 142 (.string (bytesOf R)) rfl rfl (by kernel_rfl) (by kernel_rfl) (by kernel_rfl) (by kernel_rfl) (fun w hS => rfl) hbh56 ?_
          simp only [List.setIfInBounds_toArray, List.set_cons_succ, List.set_cons_zero]
          refine held_put 24 144 (.slice a3 SA.length c3) rfl rfl (by kernel_rfl) (by kernel_rfl) (by kernel_rfl) (by kernel_rfl) (fun w hS => rfl) hbh56 ?_
          simp only [List.setIfInBounds_toArray, List.set_cons_succ, List.set_cons_zero]
          refine held_put 26 146 (.string (bytesOf R)) rfl rfl (by kernel_rfl) (by kernel_rfl) (by kernel_rfl) (by kernel_rfl) (fun w hS => rfl) hbh56 ?_
          simp only [List.setIfInBounds_toArray, List.set_cons_succ, List.set_cons_zero]
          have ho57 : (y56.alloc (.cells #[] 9)).ownsRow wc.heap.size 9 1 (.slice (some ⟨y56.heap.size, 0, none⟩) 0 0) 0 [] := World.ownsRow_made y56 #[] 0 hbh56.size (Nat.zero_le _) rfl
          have hb57 : Below wc.heap.size wc (y56.alloc (.cells #[] 9)) := hbh56.alloc hbh56.size _
          have hl58 : Lies (y56.alloc (.cells #[.string (bytesOf R)] 9)) y56.heap.size 9 #[.string (bytesOf R)] := Lies.new y56 _ _
          have hb58 : Below wc.heap.size wc (y56.alloc (.cells #[.string (bytesOf R)] 9)) := hbh56.alloc hbh56.size _
          refine held_two 23 27 (by kernel_rfl) (wpOp_put 143 (w' := (y56.alloc (.cells #[] 9))) (v := .slice (some ⟨y56.heap.size, 0, none⟩) 0 0) rfl rfl (by kernel_rfl) (by kernel_rfl) ⟨hb57, ?_⟩) (wpOp_put 147 (w' := (y56.alloc (.cells #[.string (bytesOf R)] 9))) (v := .slice (some ⟨y56.heap.size, 0, none⟩) 1 1) rfl rfl (by kernel_rfl) (by kernel_rfl) ⟨hb58, ?_⟩)
          · simp only [List.setIfInBounds_toArray, List.set_cons_succ, List.set_cons_zero]
            generalize (y56.alloc (.cells #[] 9)) = x57 at *
            have hl60 : Lies (x57.alloc (.cells #[.string (bytesOf R)] 9)) x57.heap.size 9 #[.string (bytesOf R)] := Lies.new x57 _ _
            have hb60 : Below wc.heap.size wc (x57.alloc (.cells #[.string (bytesOf R)] 9)) := hb57.alloc hb57.size _
            have ho60 := ho57.alloc (.cells #[.string (bytesOf R)] 9)
            have hne60 : x57.heap.size ≠ y56.heap.size := Nat.ne_of_gt (ho57.lt _ rfl).2
            refine held_two 25 27 (by kernel_rfl) (wpOp_lawD 145 rfl rfl (by kernel_rfl) (wpL_joinG wc.heap.size (y56.heap.size) ho57 hb57.size a3 c3 SA (HSS.below hb57) (by omega) rfl rfl ?_)) (wpOp_put 147 (w' := (x57.alloc (.cells #[.string (bytesOf R)] 9))) (v := .slice (some ⟨x57.heap.size, 0, none⟩) 1 1) rfl rfl (by kernel_rfl) (by kernel_rfl) ⟨hb60, ?_⟩)
            · intro g59 c59 x59 ho59 hgr59 hbn59
              have hb59 := hb57.trans hbn59
              refine And.intro hb59 ?_
              simp only [Act.put, List.setIfInBounds_toArray, List.set_cons_succ, List.set_cons_zero]
              have hl61 : Lies (x59.alloc (.cells #[.string (bytesOf R)] 9)) x59.heap.size 9 #[.string (bytesOf R)] := Lies.new x59 _ _
              have hb61 : Below wc.heap.size wc (x59.alloc (.cells #[.string (bytesOf R)] 9)) := hb59.alloc hb59.size _
              have ho61 := ho59.on ((Below.refl _ _).alloc (Nat.le_refl _) (.cells #[.string (bytesOf R)] 9))
              refine held_one 27 (by kernel_rfl) (wpOp_put 147 (w' := (x59.alloc (.cells #[.string (bytesOf R)] 9))) (v := .slice (some ⟨x59.heap.size, 0, none⟩) 1 1) rfl rfl (by kernel_rfl) (by kernel_rfl) ⟨hb61, ?_⟩)
              simp only [List.setIfInBounds_toArray, List.set_cons_succ, List.set_cons_zero]
              generalize (x59.alloc (.cells #[.string (bytesOf R)] 9)) = x61 at *
              refine held_one 28 (by kernel_rfl) (wpOp_lawD 148 rfl rfl (by kernel_rfl) (wpL_appendS wc.heap.size _ SA SA.length R (x59.heap.size) rfl ho61 hl61 (by omega) hb61.size rfl rfl ?_))
              intro g62 c62 x62 ho62 hbn62 hk62
              have hb62 := hb61.trans hbn62
              have hs62 := ho62.strs
              refine And.intro hb62 ?_
              simp only [Act.put, List.setIfInBounds_toArray, List.set_cons_succ, List.set_cons_zero]
              refine held_one 29 (by kernel_rfl) (wpOp_call 149 rfl rfl (by kernel_rfl) (by kernel_rfl) ((HF3.out hzp x62 _ (hBc.trans (hb62.mono hBc.size)) hs62).mono ?_))
              rintro e y63 ⟨rfl, hbn⟩
              have hbf63 := hb62.trans (hbn.mono hb62.size)
              refine ⟨_, rfl, hbf63, ?_⟩
              simp only [List.setIfInBounds_toArray, List.set_cons_succ, List.set_cons_zero]
              refine held_put 30 150 (.bool true) rfl rfl (by kernel_rfl) (by kernel_rfl) (by kernel_rfl) (by kernel_rfl) (fun w hS => by kernel_rfl) hbf63 ?_
              simp only [List.setIfInBounds_toArray, List.set_cons_succ, List.set_cons_zero]
              refine held_put 31 151 (.bool true) rfl rfl (by kernel_rfl) (by kernel_rfl) (by kernel_rfl) (by kernel_rfl) (fun w hS => by kernel_rfl) hbf63 ?_
              simp only [List.setIfInBounds_toArray, List.set_cons_succ, List.set_cons_zero]
              refine held_put 32 152 (.bool true) rfl rfl (by kernel_rfl) (by kernel_rfl) (by kernel_rfl) (by kernel_rfl) (fun w hS => by kernel_rfl) hbf63 ?_
              simp only [List.setIfInBounds_toArray, List.set_cons_succ, List.set_cons_zero]
              refine held_put 33 6 (.bool true) rfl rfl (by kernel_rfl) (by kernel_rfl) (by kernel_rfl) (by kernel_rfl) (fun w hS => rfl) hbf63 ?_
              simp only [List.setIfInBounds_toArray, List.set_cons_succ, List.set_cons_zero]
              refine held_done (by kernel_rfl) ?_
              simp only [Exit.then]
              go_wp2
              go_ret
              exact ⟨rfl, hBc.trans (hbf63.mono hBc.size)⟩
            · simp only [List.setIfInBounds_toArray, List.set_cons_succ, List.set_cons_zero]
              generalize (x57.alloc (.cells #[.string (bytesOf R)] 9)) = x60 at *
              refine held_one 25 (by kernel_rfl) (wpOp_lawD 145 rfl rfl (by kernel_rfl) (wpL_joinG wc.heap.size (y56.heap.size) ho60 hb60.size a3 c3 SA (HSS.below hb60) (by omega) rfl rfl ?_))
              intro g64 c64 x64 ho64 hgr64 hbn64
              have hb64 := hb60.trans hbn64
              have hl64 := hl60.only hgr64 (fun e => hne60 (Option.some.inj e))
              refine And.intro hb64 ?_
              simp only [Act.put, List.setIfInBounds_toArray, List.set_cons_succ, List.set_cons_zero]
              refine held_one 28 (by kernel_rfl) (wpOp_lawD 148 rfl rfl (by kernel_rfl) (wpL_appendS wc.heap.size _ SA SA.length R (x57.heap.size) rfl ho64 hl64 (by omega) hb64.size rfl rfl ?_))
              intro g65 c65 x65 ho65 hbn65 hk65
              have hb65 := hb64.trans hbn65
              have hs65 := ho65.strs
              refine And.intro hb65 ?_
              simp only [Act.put, List.setIfInBounds_toArray, List.set_cons_succ, List.set_cons_zero]
              refine held_one 29 (by kernel_rfl) (wpOp_call 149 rfl rfl (by kernel_rfl) (by kernel_rfl) ((HF3.out hzp x65 _ (hBc.trans (hb65.mono hBc.size)) hs65).mono ?_))
              rintro e y66 ⟨rfl, hbn⟩
              have hbf66 := hb65.trans (hbn.mono hb65.size)
              refine ⟨_, rfl, hbf66, ?_⟩
              simp only [List.setIfInBounds_toArray, List.set_cons_succ, List.set_cons_zero]
              refine held_put 30 150 (.bool true) rfl rfl (by kernel_rfl) (by kernel_rfl) (by kernel_rfl) (by kernel_rfl) (fun w hS => by kernel_rfl) hbf66 ?_
              simp only [List.setIfInBounds_toArray, List.set_cons_succ, List.set_cons_zero]
              refine held_put 31 151 (.bool true) rfl rfl (by kernel_rfl) (by kernel_rfl) (by kernel_rfl) (by kernel_rfl) (fun w hS => by kernel_rfl) hbf66 ?_
              simp only [List.setIfInBounds_toArray, List.set_cons_succ, List.set_cons_zero]
              refine held_put 32 152 (.bool true) rfl rfl (by kernel_rfl) (by kernel_rfl) (by kernel_rfl) (by kernel_rfl) (fun w hS => by kernel_rfl) hbf66 ?_
              simp only [List.setIfInBounds_toArray, List.set_cons_succ, List.set_cons_zero]
              refine held_put 33 6 (.bool true) rfl rfl (by kernel_rfl) (by kernel_rfl) (by kernel_rfl) (by kernel_rfl) (fun w hS => rfl) hbf66 ?_
              simp only [List.setIfInBounds_toArray, List.set_cons_succ, List.set_cons_zero]
              refine held_done (by kernel_rfl) ?_
              simp only [Exit.then]
              go_wp2
              go_ret
              exact ⟨rfl, hBc.trans (hbf66.mono hBc.size)⟩
          · simp only [List.setIfInBounds_toArray, List.set_cons_succ, List.set_cons_zero]
            generalize (y56.alloc (.cells #[.string (bytesOf R)] 9)) = x58 at *
            have ho67 : (x58.alloc (.cells #[] 9)).ownsRow wc.heap.size 9 1 (.slice (some ⟨x58.heap.size, 0, none⟩) 0 0) 0 [] := World.ownsRow_made x58 #[] 0 hb58.size (Nat.zero_le _) rfl
            have hb67 : Below wc.heap.size wc (x58.alloc (.cells #[] 9)) := hb58.alloc hb58.size _
            have hl67 : Lies (x58.alloc (.cells #[] 9)) y56.heap.size 9 #[.string (bytesOf R)] := hl58.alloc _
            have hne67 : y56.heap.size ≠ x58.heap.size := Nat.ne_of_lt hl58.lt
            refine held_one 23 (by kernel_rfl) (wpOp_put 143 (w' := (x58.alloc (.cells #[] 9))) (v := .slice (some ⟨x58.heap.size, 0, none⟩) 0 0) rfl rfl (by kernel_rfl) (by kernel_rfl) ⟨hb67, ?_⟩)
            simp only [List.setIfInBounds_toArray, List.set_cons_succ, List.set_cons_zero]
            generalize (x58.alloc (.cells #[] 9)) = x67 at *
            refine held_one 25 (by kernel_rfl) (wpOp_lawD 145 rfl rfl (by kernel_rfl) (wpL_joinG wc.heap.size (x58.heap.size) ho67 hb67.size a3 c3 SA (HSS.below hb67) (by omega) rfl rfl ?_))
            intro g68 c68 x68 ho68 hgr68 hbn68
            have hb68 := hb67.trans hbn68
            have hl68 := hl67.only hgr68 (fun e => hne67 (Option.some.inj e))
            refine And.intro hb68 ?_
            simp only [Act.put, List.setIfInBounds_toArray, List.set_cons_succ, List.set_cons_zero]
            refine held_one 28 (by kernel_rfl) (wpOp_lawD 148 rfl rfl (by kernel_rfl) (wpL_appendS wc.heap.size _ SA SA.length R (y56.heap.size) rfl ho68 hl68 (by omega) hb68.size rfl rfl ?_))
            intro g69 c69 x69 ho69 hbn69 hk69
            have hb69 := hb68.trans hbn69
            have hs69 := ho69.strs
            refine And.intro hb69 ?_
            simp only [Act.put, List.setIfInBounds_toArray, List.set_cons_succ, List.set_cons_zero]
            refine held_one 29 (by kernel_rfl) (wpOp_call 149 rfl rfl (by kernel_rfl) (by kernel_rfl) ((HF3.out hzp x69 _ (hBc.trans (hb69.mono hBc.size)) hs69).mono ?_))
            rintro e y70 ⟨rfl, hbn⟩
            have hbf70 := hb69.trans (hbn.mono hb69.size)
            refine ⟨_, rfl, hbf70, ?_⟩
            simp only [List.setIfInBounds_toArray, List.set_cons_succ, List.set_cons_zero]
            refine held_put 30 150 (.bool true) rfl rfl (by kernel_rfl) (by kernel_rfl) (by kernel_rfl) (by kernel_rfl) (fun w hS => by kernel_rfl) hbf70 ?_
            simp only [List.setIfInBounds_toArray, List.set_cons_succ, List.set_cons_zero]
            refine held_put 31 151 (.bool true) rfl rfl (by kernel_rfl) (by kernel_rfl) (by kernel_rfl) (by kernel_rfl) (fun w hS => by kernel_rfl) hbf70 ?_
            simp only [List.setIfInBounds_toArray, List.set_cons_succ, List.set_cons_zero]
            refine held_put 32 152 (.bool true) rfl rfl (by kernel_rfl) (by kernel_rfl) (by kernel_rfl) (by kernel_rfl) (fun w hS => by kernel_rfl) hbf70 ?_
            simp only [List.setIfInBounds_toArray, List.set_cons_succ, List.set_cons_zero]
            refine held_put 33 6 (.bool true) rfl rfl (by kernel_rfl) (by kernel_rfl) (by kernel_rfl) (by kernel_rfl) (fun w hS => rfl) hbf70 ?_
            simp only [List.setIfInBounds_toArray, List.set_cons_succ, List.set_cons_zero]
            refine held_done (by kernel_rfl) ?_
            simp only [Exit.then]
            go_wp2
            go_ret
            exact ⟨rfl, hBc.trans (hbf70.mono hBc.size)⟩
end Go.Proofs.YtpcckanhmdlahaaDoor.Q
