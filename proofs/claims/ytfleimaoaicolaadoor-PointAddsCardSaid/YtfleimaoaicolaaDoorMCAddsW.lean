/- What is proved: whatever two numbers and way of being told the statement of sums is called with, it answers true, if the points' functions keep their contracts. -/
import Derived.Test.YtfleimaoaicolaaDoorLot12
import Derived.Test.YtfleimaoaicolaaDoorMCRight
import Derived.Test.YtfleimaoaicolaaDoorMCAfEq
namespace Go.Proofs.YtfleimaoaicolaaDoor.C
open Go.RowKit Go.Sort Go.Proofs.YtfleimaoaicolaaDoor.F
set_option maxRecDepth 100000
abbrev z8A : Array Value := #[.int .u64 0, .int .u64 0, .int .u64 0, .int .u64 0, .int .u64 0, .int .u64 0, .int .u64 0, .int .u64 0]
theorem alloc_af {o : Oper} (h : o.op = .alloc 31) (a : Act) (w : World) : (execOp a.eval o).run Tryd.prog w = .ok (.value (.pointer (some ⟨w.heap.size, 0, none⟩))) (w.alloc (.cells z8A 31)) := by
  unfold execOp
  rw [h]
  kernel_rfl
theorem neg_x (P : Pt) : P.neg.x.val = (0 + (p25 - P.x.val % p25)) % p25 := by
  rw [← val_mod, Nat.zero_add, z_neg, z_back]
  rfl
theorem eq_val (P Q : Pt) : (decide (P.x.val = Q.x.val) && decide (P.y.val = Q.y.val)) = ptEq P Q := by
  unfold ptEq
  congr 1 <;> (congr 1; exact propext (Fin.ext_iff).symm)
theorem str_eq_exec {o : Oper} {a : Act} {p q : Operand} {r : TypeId} (ho : o.op = .binOp .eql 9 p q r) (s : ByteArray) (hp : a.eval p = .string s) (hq : a.eval q = .string s) (w : World) : (execOp a.eval o).run Tryd.prog w = .ok (.value (.bool true)) w := by
  unfold execOp
  simp only [ho, hp, hq]
  simp [go_sem]
theorem bool_eq_exec {o : Oper} {a : Act} {p q : Operand} {r : TypeId} (ho : o.op = .binOp .eql 4 p q r) (b : Bool) (hp : a.eval p = .bool b) (hq : a.eval q = .bool b) (w : World) : (execOp a.eval o).run Tryd.prog w = .ok (.value (.bool true)) w := by
  unfold execOp
  simp only [ho, hp, hq]
  simp [go_sem]
theorem zero_fe : (.agg #[.int .u64 0, .int .u64 0, .int .u64 0, .int .u64 0] : Value) = fe 0 := fe_small 0 (by decide)
section
variable {w0 : World} {ops : Array Oper} {Q : Act → Prop} {a : Act} {rest : List Oper} {t' : TypeId} {pos : String} {after : Array Edge} {gd : Option (Nat × Bool)} {d : Option Tmp} {x : Operand}
theorem wpQg_af (g u v : Nat) (hz : Lies w0 g 31 (afA u v)) (hx : a.eval x = .pointer (some ⟨g, 0, none⟩)) (hw : Region.wanted ⟨d, .load 31 x, t', pos, after, gd⟩ (yielded ops a.tmps) = true)
    (h : wpQuiet Tryd.prog ops (Gr w0) Q rest (a.put d (af u v))) : wpQuiet Tryd.prog ops (Gr w0) Q (⟨d, .load 31 x, t', pos, after, gd⟩ :: rest) a :=
  wpQg_load g 31 (afA u v) _ Tryd.underlying31 rfl (by rw [afA_size]; exact rowAf.2) hz hx hw h
theorem wpQB_af (g u v : Nat) (hz : Lies w0 g 31 (afA u v)) (hx : a.eval x = .pointer (some ⟨g, 0, none⟩))
    (h : wpQB Tryd.prog w0 Q rest (a.put d (af u v))) : wpQB Tryd.prog w0 Q (⟨d, .load 31 x, t', pos, after, none⟩ :: rest) a :=
  wpQB_load g 31 (afA u v) _ Tryd.underlying31 rfl (by rw [afA_size]; exact rowAf.2) hz hx h
end
attribute [local irreducible] feA ptA afA wpQuiet

set_option maxHeartbeats 3200000 in
theorem adds_walk (A : Pts PtTab) (n m zz : Nat) (hn : n < K256) (hm : m < K256) (hz : zz < 18446744073709551616) (W : World) (hT : PtTab W) :
    Calls Tryd.prog 4 #[fe n, fe m, w64 zz] W fun e w' => e = .returned (.bool true) ∧ Below W.heap.size W w' := by
  have hT0 := Lib.hid hT
  have kp : Pn (A.s n zz) (Bp.smul n) := A.some_pn hn hz
  have kq : Pn (A.s m (zz / 128)) (Bp.smul m) := A.some_pn hm (by omega)
  have C1 := Lib.hid (fun w hT => A.some (n := n) (k := zz) w hn hz hT)
  have C2 := Lib.hid (fun w hT => A.some (n := m) (k := zz / 128) w hm (by omega) hT)
  rw [show w64 (zz / 128) = .int .u64 ((zz : Int) / 128) from w64_div zz 128] at C2
  generalize A.s n zz = p at *
  generalize A.s m (zz / 128) = q at *
  generalize Bp.smul n = P at *
  generalize Bp.smul m = Q at *
  have kr := A.add_pn kp kq
  have Dr := Lib.hid (fun w hT => A.add w kp kq hT)
  generalize A.f p q = r at *
  have HRi := Lib.hid (fun w hT => A.right w kr hT)
  have AL := Lib.hid (fun w hT => A.alive w hT)
  have kt := A.neg_pn kp
  have Dt := Lib.hid (fun w hT => A.neg w kp hT)
  generalize A.g p = t at *
  have HAp := Lib.hid (fun w => refAffine_any p w kp.lt.X kp.lt.Y kp.lt.Z)
  rw [kp.affine.1, kp.affine.2] at HAp
  have HAq := Lib.hid (fun w => refAffine_any q w kq.lt.X kq.lt.Y kq.lt.Z)
  rw [kq.affine.1, kq.affine.2] at HAq
  have HAr := Lib.hid (fun w => refAffine_any r w kr.lt.X kr.lt.Y kr.lt.Z)
  rw [kr.affine.1, kr.affine.2] at HAr
  have HAt := Lib.hid (fun w => refAffine_any t w kt.lt.X kt.lt.Y kt.lt.Z)
  rw [kt.affine.1, kt.affine.2, show P.neg.y.val = P.y.val from rfl] at HAt
  have HS := Lib.hid (fun w => refSum_any P Q w)
  have HBy := Lib.hid (fun w hT => A.bytes w kp hT)
  have HTx := Lib.hid (fun w => refText_any P w)
  have E1 := Lib.hid (fun w hT => A.same w kp kq hT)
  have E2 := Lib.hid (fun w hT => A.same w kp kp hT)
  rw [ptEq_self] at E2
  rw [← eq_val] at E1
  have kRx := below_K (P.add Q).x.isLt
  have kRy := below_K (P.add Q).y.isLt
  have kPx := below_K P.x.isLt
  have kPy := below_K P.y.isLt
  have kQx := below_K Q.x.isLt
  have kQy := below_K Q.y.isLt
  have HSub := Lib.hid (fun w hT => field_ok.sub 0 P.x.val w (by decide) kPx hT)
  rw [← neg_x] at HSub
  have kNx := below_K P.neg.x.isLt
  generalize (P.add Q).x.val = Rx at *
  generalize (P.add Q).y.val = Ry at *
  generalize P.neg.x.val = Nx at *
  generalize textN P = tx at *
  generalize P.x.val = Px at *
  generalize P.y.val = Py at *
  generalize Q.x.val = Qx at *
  generalize Q.y.val = Qy at *
  obtain ⟨bb, hbb⟩ : ∃ bb, (decide (Px = Qx) && decide (Py = Qy)) = bb := ⟨_, rfl⟩
  rw [hbb] at E1
  have HBB := Lib.hid hbb
  have HZ : Hid ((.agg #[.int .u64 0, .int .u64 0, .int .u64 0, .int .u64 0] : Value) = fe 0) := Lib.hid zero_fe
  clear kp kq kr kt hn hm hz hbb A
  go_enter Tryd.func4, Tryd.ntmps4
  have h1 := (Lies.new W 27 (feA n)).alloc (.cells (feA m) 27)
  have h2 : Lies ((W.alloc (.cells (feA n) 27)).alloc (.cells (feA m) 27)) (W.heap.size + 1) 27 (feA m) := heap_alloc2_new W _ _
  have hB := ((Below.refl W.heap.size W).alloc (Nat.le_refl _) (.cells (feA n) 27)).alloc (by simp) (.cells (feA m) 27)
  clear hT
  go_upto_region 1 with fail
  generalize World.alloc (World.alloc W _) _ = w0 at *
  have hT := hT0.out.on hB
  go_upto_region 2 with (first
    | ((with_reducible refine wpL_load (W.heap.size) 27 (feA n) 4 rowSc (feA_size _) h1 ?_ ?_); rfl)
    | (go_at_call 22; (with_reducible refine (C1.out _ hT).mono ?_); rintro e uw1 ⟨rfl, hb⟩; replace h1 := h1.on hb; replace h2 := h2.on hb; replace hB := below_on hB hb; clear hb)
    | ((with_reducible refine wpL_store uw1.heap.size 26 _ (ptA p) 16 rowPt ?_ (ptA_size _) (ptA_one _) (Lies.new uw1 _ _) ?_ ?_ ?_); rfl; rfl; rfl))
  have hp := newly_lies uw1 26 z16A (ptA p)
  have hnw := newly uw1 (.cells z16A 26) (ptA p)
  replace h1 := h1.on hnw
  replace h2 := h2.on hnw
  replace hB := below_on hB hnw
  clear hnw hT
  generalize World.setRow _ _ _ = w1 at *
  generalize uw1.heap.size = gp at *
  clear h1
  have hT := hT0.out.on hB
  go_upto_region 3 with (first
    | ((with_reducible refine wpL_load (W.heap.size + 1) 27 (feA m) 4 rowSc (feA_size _) h2 ?_ ?_); rfl)
    | (go_at_call 22; (with_reducible refine (C2.out _ hT).mono ?_); rintro e uw2 ⟨rfl, hb⟩; replace h2 := h2.on hb; replace hp := hp.on hb; replace hB := below_on hB hb; clear hb)
    | ((with_reducible refine wpL_store uw2.heap.size 26 _ (ptA q) 16 rowPt ?_ (ptA_size _) (ptA_one _) (Lies.new uw2 _ _) ?_ ?_ ?_); rfl; rfl; rfl))
  have hq := newly_lies uw2 26 z16A (ptA q)
  have hnw := newly uw2 (.cells z16A 26) (ptA q)
  replace h2 := h2.on hnw
  replace hp := hp.on hnw
  replace hB := below_on hB hnw
  clear hnw hT
  generalize World.setRow _ _ _ = w2 at *
  generalize uw2.heap.size = gq at *
  clear h2
  have hT := hT0.out.on hB
  go_upto_region 4 with (first
    | ((with_reducible refine wpL_load (gp) 26 (ptA p) 16 rowPt (ptA_size _) hp ?_ ?_); rfl)
    | ((with_reducible refine wpL_load (gq) 26 (ptA q) 16 rowPt (ptA_size _) hq ?_ ?_); rfl)
    | (go_at_call 18; (with_reducible refine (Dr.out _ hT).mono ?_); rintro e uw3 ⟨rfl, hb⟩; replace hp := hp.on hb; replace hq := hq.on hb; replace hB := below_on hB hb; clear hb)
    | ((with_reducible refine wpL_store uw3.heap.size 26 _ (ptA r) 16 rowPt ?_ (ptA_size _) (ptA_one _) (Lies.new uw3 _ _) ?_ ?_ ?_); rfl; rfl; rfl))
  have hr := newly_lies uw3 26 z16A (ptA r)
  have hnw := newly uw3 (.cells z16A 26) (ptA r)
  replace hp := hp.on hnw
  replace hq := hq.on hnw
  replace hB := below_on hB hnw
  clear hnw hT
  generalize World.setRow _ _ _ = w3 at *
  generalize uw3.heap.size = gr at *
  have hT := hT0.out.on hB
  go_upto_region 6 with (first
    | ((with_reducible refine wpL_load_g (gr) 26 (ptA r) 16 rowPt (ptA_size _) hr ?_ ?_ ?_); rfl; rfl)
    | (go_at_call 12; (with_reducible refine (HRi.out _ hT).mono ?_); rintro e uw4 ⟨rfl, hb⟩; replace hp := hp.on hb; replace hq := hq.on hb; replace hr := hr.on hb; replace hB := below_on hB hb; replace hT := hT.on hb; clear hb)
    | (go_at_call 16; (with_reducible refine (AL.out _ hT).mono ?_); rintro e uw5 ⟨rfl, hb⟩; replace hp := hp.on hb; replace hq := hq.on hb; replace hr := hr.on hb; replace hB := below_on hB hb; replace hT := hT.on hb; clear hb))
  clear hT
  generalize hwr : uw5 = wr at *
  clear hwr
  refine wp_region_rel2 6 122 [sayFix (pt p), sayFix (af Px Py), sayFix (pt q), sayFix (af Qx Qy), sayVar wr.heap.size 31 z8A, sayVar wr.heap.size 31 z8A] rfl rfl (by kernel_rfl) (by kernel_rfl) (fun r hr => by
      simp only [List.mem_cons, List.not_mem_nil, or_false] at hr
      rcases hr with rfl | rfl | rfl | rfl | rfl | rfl <;> first | exact sayFix_mono _ | exact sayVar_mono _ _ _)
    4 5 _ _ 13 14 _ _ (by decide) (by decide) (by decide) rfl rfl rfl rfl (fun a w => ⟨_, alloc_af rfl a w⟩) (fun a w => ⟨_, alloc_af rfl a w⟩) rfl rfl sayVar_lt sayVar_lt ?_
  simp only [List.take_succ_cons, List.take_zero, List.drop_succ_cons, List.drop_zero, List.zip_cons_cons, List.zip_nil_right]
  refine wpRel_step (fun w hb hG => does_run (pt p) (run_load_row rowPt (ptA_size _) (gp) hp hb rfl) rfl) (fun v0 => ?_)
  simp only [Act.put, List.setIfInBounds_toArray, List.set_cons_succ, List.set_cons_zero, Option.getD_some]
  refine wpRel_step (fun w hb hG => ?_) (fun v1 => ?_)
  · obtain rfl := laid_at 0 hG rfl (by decide)
    refine does_call 14 #[pt p] (by kernel_rfl) ((HAp.out w).mono ?_)
    rintro e w2 ⟨rfl, hb2⟩
    exact ⟨_, rfl, hb2, rfl⟩
  simp only [Act.put, List.setIfInBounds_toArray, List.set_cons_succ, List.set_cons_zero, Option.getD_some]
  refine wpRel_step (fun w hb hG => does_run (pt q) (run_load_row rowPt (ptA_size _) (gq) hq hb rfl) rfl) (fun v2 => ?_)
  simp only [Act.put, List.setIfInBounds_toArray, List.set_cons_succ, List.set_cons_zero, Option.getD_some]
  refine wpRel_step (fun w hb hG => ?_) (fun v3 => ?_)
  · obtain rfl := laid_at 0 hG rfl (by decide)
    refine does_call 14 #[pt q] (by kernel_rfl) ((HAq.out w).mono ?_)
    rintro e w2 ⟨rfl, hb2⟩
    exact ⟨_, rfl, hb2, rfl⟩
  simp only [Act.put, List.setIfInBounds_toArray, List.set_cons_succ, List.set_cons_zero, Option.getD_some]
  refine wpRel_step (fun w hb hG => does_new hb (alloc_af rfl _ _)) (fun v4 => ?_)
  simp only [Act.put, List.setIfInBounds_toArray, List.set_cons_succ, List.set_cons_zero, Option.getD_some]
  refine wpRel_step (fun w hb hG => does_new hb (alloc_af rfl _ _)) (fun v5 => ?_)
  simp only [Act.put, List.setIfInBounds_toArray, List.set_cons_succ, List.set_cons_zero, Option.getD_some]
  refine wpRel_nil (fun w hb hG hap => ?_)
  obtain rfl := hG _ (List.mem_of_getElem? (i := 2) rfl)
  obtain rfl := hG _ (List.mem_of_getElem? (i := 4) rfl)
  obtain ⟨ga, rfl, hla, ha⟩ := hG _ (List.mem_of_getElem? (i := 1) rfl)
  obtain ⟨gb, rfl, hlb, hbq⟩ := hG _ (List.mem_of_getElem? (i := 0) rfl)
  have hne : ga ≠ gb := fun e => hap (by subst e; rfl)
  clear hG hap
  have hwb := hB.size
  have ltp := hp.lt
  have ltq := hq.lt
  have ltr := hr.lt
  replace hp := hp.on hb
  replace hq := hq.on hb
  replace hr := hr.on hb
  replace hB := below_on hB hb
  clear hb
  go_upto_region 7 with (first | ((with_reducible refine wpL_store (ga) 31 _ (afA Px Py) 8 rowAf rfl (afA_size _ _) (afA_one _ _) ha ?_ ?_ ?_); rfl; rfl) | ((with_reducible refine wpL_store (gb) 31 _ (afA Qx Qy) 8 rowAf rfl (afA_size _ _) (afA_one _ _) (hbq.rowFar (Ne.symm hne) _) ?_ ?_ ?_); rfl; rfl))
  replace hbq := (hbq.rowFar (Ne.symm hne) (afA Px Py)).row (afA Qx Qy)
  replace ha := (ha.row (afA Px Py)).rowFar hne (afA Qx Qy)
  replace hp := (hp.rowFar (show gp ≠ ga by omega) (afA Px Py)).rowFar (show gp ≠ gb by omega) (afA Qx Qy)
  replace hq := (hq.rowFar (show gq ≠ ga by omega) (afA Px Py)).rowFar (show gq ≠ gb by omega) (afA Qx Qy)
  replace hr := (hr.rowFar (show gr ≠ ga by omega) (afA Px Py)).rowFar (show gr ≠ gb by omega) (afA Qx Qy)
  replace hB := below_rowSet (below_rowSet hB (show W.heap.size ≤ ga by omega) (afA Px Py)) (show W.heap.size ≤ gb by omega) (afA Qx Qy)
  clear hwb ltp ltq ltr hla hlb hne
  generalize World.setRow (World.setRow _ _ _) _ _ = w7 at *
  refine wp_region_all (by kernel_rfl) (by kernel_rfl) ?_
  refine wpQB_pt gr r hr rfl ?_
  simp only [Act.put, List.setIfInBounds_toArray, List.set_cons_succ, List.set_cons_zero]
  refine wpQB_call 14 #[pt r] (af Rx Ry) rfl rfl (fun _ => by kernel_rfl) (fun w _ => HAr.out w) ?_
  simp only [Act.put, List.setIfInBounds_toArray, List.set_cons_succ, List.set_cons_zero]
  refine wpQB_af ga Px Py ha rfl ?_
  simp only [Act.put, List.setIfInBounds_toArray, List.set_cons_succ, List.set_cons_zero]
  refine wpQB_af gb Qx Qy hbq rfl ?_
  simp only [Act.put, List.setIfInBounds_toArray, List.set_cons_succ, List.set_cons_zero]
  refine wpQB_call 23 #[af Px Py, af Qx Qy] (af Rx Ry) rfl rfl (fun _ => by kernel_rfl) (fun w _ => HS.out w) ?_
  simp only [Act.put, List.setIfInBounds_toArray, List.set_cons_succ, List.set_cons_zero]
  refine wpQB_run (.bool false) rfl (fun w _ => neq_af_exec rfl Rx Ry kRx kRy rfl rfl w) ?_
  simp only [Act.put, List.setIfInBounds_toArray, List.set_cons_succ, List.set_cons_zero]
  refine wpQB_nil ?_
  intro w8 hb
  replace hp := hp.on hb
  replace hq := hq.on hb
  replace ha := ha.on hb
  replace hbq := hbq.on hb
  replace hB := below_on hB hb
  clear hb hr
  have hT := hT0.out.on hB
  go_upto_region 10 with (first
    | ((with_reducible refine wpL_load (gp) 26 (ptA p) 16 rowPt (ptA_size _) hp ?_ ?_); rfl)
    | (go_at_call 19; (with_reducible refine (Dt.out _ hT).mono ?_); rintro e w9 ⟨rfl, hb⟩; replace hp := hp.on hb; replace hq := hq.on hb; replace ha := ha.on hb; replace hbq := hbq.on hb; replace hB := below_on hB hb; clear hb)
    | ((with_reducible refine wpL_store w9.heap.size 26 _ (ptA t) 16 rowPt ?_ (ptA_size _) (ptA_one _) (Lies.new w9 _ _) ?_ ?_ ?_); rfl; rfl; rfl))
  have ht := newly_lies w9 26 z16A (ptA t)
  have hnw := newly w9 (.cells z16A 26) (ptA t)
  replace hp := hp.on hnw
  replace hq := hq.on hnw
  replace ha := ha.on hnw
  replace hbq := hbq.on hnw
  replace hB := below_on hB hnw
  clear hnw hT
  generalize World.setRow _ _ _ = w10 at *
  generalize w9.heap.size = gt at *
  have hT := hT0.out.on hB
  go_upto_region 11 with (first
    | ((with_reducible refine wpL_load (gp) 26 (ptA p) 16 rowPt (ptA_size _) hp ?_ ?_); rfl)
    | (go_at_call 21; (with_reducible refine (HBy.out _ hT).mono ?_); rintro e w11 ⟨rfl, hb⟩; replace hp := hp.on hb; replace hq := hq.on hb; replace ha := ha.on hb; replace hbq := hbq.on hb; replace ht := ht.on hb; replace hB := below_on hB hb; clear hb))
  clear hT
  go_upto_region 12 with (first
    | ((with_reducible refine wpL_load (gt) 26 (ptA t) 16 rowPt (ptA_size _) ht ?_ ?_); rfl)
    | (go_at_call 14; (with_reducible refine (HAt.out _).mono ?_); rintro e w12 ⟨rfl, hb⟩; replace hp := hp.on hb; replace hq := hq.on hb; replace ha := ha.on hb; replace hbq := hbq.on hb; replace hB := below_on hB hb; clear hb)
    | ((with_reducible refine wpL_store w12.heap.size 31 _ (afA Nx Py) 8 rowAf ?_ (afA_size _ _) (afA_one _ _) (Lies.new w12 _ _) ?_ ?_ ?_); rfl; rfl; rfl))
  have hc := newly_lies w12 31 z8A (afA Nx Py)
  have hnw := newly w12 (.cells z8A 31) (afA Nx Py)
  replace hp := hp.on hnw
  replace hq := hq.on hnw
  replace ha := ha.on hnw
  replace hbq := hbq.on hnw
  replace hB := below_on hB hnw
  clear hnw ht
  generalize World.setRow _ _ _ = w13 at *
  generalize w12.heap.size = gc at *
  have hT := hT0.out.on hB
  have aX := af_X ha
  have aY := af_Y ha
  have cX := af_X hc
  have cY := af_Y hc
  refine wp_region_all_g (by kernel_rfl) (by kernel_rfl) ?_
  refine wpQg_run (.int .i64 0) rfl (fun _ _ => rfl) (qA ?_ (by simp only [Act.put, List.setIfInBounds_toArray, List.set_cons_succ, List.set_cons_zero]; rfl))
  refine wpQg_run (.bool true) rfl (fun _ _ => by kernel_rfl) (qA ?_ (by simp only [Act.put, List.setIfInBounds_toArray, List.set_cons_succ, List.set_cons_zero]; rfl))
  refine wpQg_run (.bool true) rfl (fun _ _ => rfl) (qA ?_ (by simp only [Act.put, List.setIfInBounds_toArray, List.set_cons_succ, List.set_cons_zero]; rfl))
  refine wpQg_run (.int .i64 0) rfl (fun _ _ => rfl) (qA ?_ (by simp only [Act.put, List.setIfInBounds_toArray, List.set_cons_succ, List.set_cons_zero]; rfl))
  refine wpQg_run (.bool true) rfl (fun _ _ => by kernel_rfl) (qA ?_ (by simp only [Act.put, List.setIfInBounds_toArray, List.set_cons_succ, List.set_cons_zero]; rfl))
  refine wpQg_run (.bool true) rfl (fun _ _ => by kernel_rfl) (qA ?_ (by simp only [Act.put, List.setIfInBounds_toArray, List.set_cons_succ, List.set_cons_zero]; rfl))
  refine wpQg_run (.bool true) rfl (fun _ _ => rfl) (qA ?_ (by simp only [Act.put, List.setIfInBounds_toArray, List.set_cons_succ, List.set_cons_zero]; rfl))
  refine wpQg_run (.pointer (some ⟨gc, 4, none⟩)) rfl (fun _ _ => by kernel_rfl) (qA ?_ (by simp only [Act.put, List.setIfInBounds_toArray, List.set_cons_succ, List.set_cons_zero]; rfl))
  refine wpQg_midP gc 4 Py cY rfl rfl (qA ?_ (by simp only [Act.put, List.setIfInBounds_toArray, List.set_cons_succ, List.set_cons_zero]; rfl))
  refine wpQg_run (.pointer (some ⟨ga, 4, none⟩)) rfl (fun _ _ => by kernel_rfl) (qA ?_ (by simp only [Act.put, List.setIfInBounds_toArray, List.set_cons_succ, List.set_cons_zero]; rfl))
  refine wpQg_midP ga 4 Py aY rfl rfl (qA ?_ (by simp only [Act.put, List.setIfInBounds_toArray, List.set_cons_succ, List.set_cons_zero]; rfl))
  refine wpQg_run (.bool true) rfl (fun w _ => (eql_exec rfl Py Py kPy kPy rfl rfl w).trans (by rw [decide_eq_true rfl])) (qA ?_ (by simp only [Act.put, List.setIfInBounds_toArray, List.set_cons_succ, List.set_cons_zero]; rfl))
  refine wpQg_run (.bool true) rfl (fun _ _ => by kernel_rfl) (qA ?_ (by simp only [Act.put, List.setIfInBounds_toArray, List.set_cons_succ, List.set_cons_zero]; rfl))
  refine wpQg_run (.bool true) rfl (fun _ _ => rfl) (qA ?_ (by simp only [Act.put, List.setIfInBounds_toArray, List.set_cons_succ, List.set_cons_zero]; rfl))
  refine wpQg_run (.pointer (some ⟨gc, 0, none⟩)) rfl (fun _ _ => by kernel_rfl) (qA ?_ (by simp only [Act.put, List.setIfInBounds_toArray, List.set_cons_succ, List.set_cons_zero]; rfl))
  refine wpQg_midP gc 0 Nx cX rfl rfl (qA ?_ (by simp only [Act.put, List.setIfInBounds_toArray, List.set_cons_succ, List.set_cons_zero]; rfl))
  refine wpQg_run (fe 0) rfl (fun _ _ => by rw [← HZ.out]; kernel_rfl) (qA ?_ (by simp only [Act.put, List.setIfInBounds_toArray, List.set_cons_succ, List.set_cons_zero]; rfl))
  refine wpQg_run (.pointer (some ⟨ga, 0, none⟩)) rfl (fun _ _ => by kernel_rfl) (qA ?_ (by simp only [Act.put, List.setIfInBounds_toArray, List.set_cons_succ, List.set_cons_zero]; rfl))
  refine wpQg_midP ga 0 Px aX rfl rfl (qA ?_ (by simp only [Act.put, List.setIfInBounds_toArray, List.set_cons_succ, List.set_cons_zero]; rfl))
  refine wpQg_call 24 #[fe 0, fe Px] (fe Nx) rfl rfl (fun _ => by kernel_rfl) (fun w hb => HSub.out w (hT.on hb).f) (qA ?_ (by simp only [Act.put, List.setIfInBounds_toArray, List.set_cons_succ, List.set_cons_zero]; rfl))
  refine wpQg_run (.bool true) rfl (fun w _ => (eql_exec rfl Nx Nx kNx kNx rfl rfl w).trans (by rw [decide_eq_true rfl])) (qA ?_ (by simp only [Act.put, List.setIfInBounds_toArray, List.set_cons_succ, List.set_cons_zero]; rfl))
  refine wpQg_run (.bool true) rfl (fun _ _ => by kernel_rfl) (qA ?_ (by simp only [Act.put, List.setIfInBounds_toArray, List.set_cons_succ, List.set_cons_zero]; rfl))
  refine wpQg_run (.bool true) rfl (fun _ _ => rfl) (qA ?_ (by simp only [Act.put, List.setIfInBounds_toArray, List.set_cons_succ, List.set_cons_zero]; rfl))
  refine wpQg_run (.string tx) rfl (fun _ _ => rfl) (qA ?_ (by simp only [Act.put, List.setIfInBounds_toArray, List.set_cons_succ, List.set_cons_zero]; rfl))
  refine wpQg_af ga Px Py ha rfl rfl (qA ?_ (by simp only [Act.put, List.setIfInBounds_toArray, List.set_cons_succ, List.set_cons_zero]; rfl))
  refine wpQg_call 25 #[af Px Py] (.string tx) rfl rfl (fun _ => by kernel_rfl) (fun w _ => HTx.out w) (qA ?_ (by simp only [Act.put, List.setIfInBounds_toArray, List.set_cons_succ, List.set_cons_zero]; rfl))
  refine wpQg_run (.bool true) rfl (fun w _ => str_eq_exec rfl tx rfl rfl w) (qA ?_ (by simp only [Act.put, List.setIfInBounds_toArray, List.set_cons_succ, List.set_cons_zero]; rfl))
  refine wpQg_run (.bool true) rfl (fun _ _ => by kernel_rfl) (qA ?_ (by simp only [Act.put, List.setIfInBounds_toArray, List.set_cons_succ, List.set_cons_zero]; rfl))
  refine wpQg_run (.bool true) rfl (fun _ _ => rfl) (qA ?_ (by simp only [Act.put, List.setIfInBounds_toArray, List.set_cons_succ, List.set_cons_zero]; rfl))
  refine wpQg_pt gp p hp rfl rfl (qA ?_ (by simp only [Act.put, List.setIfInBounds_toArray, List.set_cons_succ, List.set_cons_zero]; rfl))
  refine wpQg_pt gq q hq rfl rfl (qA ?_ (by simp only [Act.put, List.setIfInBounds_toArray, List.set_cons_succ, List.set_cons_zero]; rfl))
  refine wpQg_call 17 #[pt p, pt q] (.bool bb) rfl rfl (fun _ => by kernel_rfl) (fun w hb => E1.out w (hT.on hb)) (qA ?_ (by simp only [Act.put, List.setIfInBounds_toArray, List.set_cons_succ, List.set_cons_zero]; rfl))
  refine wpQg_af ga Px Py ha rfl rfl (qA ?_ (by simp only [Act.put, List.setIfInBounds_toArray, List.set_cons_succ, List.set_cons_zero]; rfl))
  refine wpQg_af gb Qx Qy hbq rfl rfl (qA ?_ (by simp only [Act.put, List.setIfInBounds_toArray, List.set_cons_succ, List.set_cons_zero]; rfl))
  refine wpQg_run (.bool bb) rfl (fun w _ => (eql_af_exec rfl Px Py Qx Qy kPx kPy kQx kQy rfl rfl w).trans (by rw [HBB.out])) (qA ?_ (by simp only [Act.put, List.setIfInBounds_toArray, List.set_cons_succ, List.set_cons_zero]; rfl))
  refine wpQg_run (.bool true) rfl (fun w _ => bool_eq_exec rfl bb rfl rfl w) (qA ?_ (by simp only [Act.put, List.setIfInBounds_toArray, List.set_cons_succ, List.set_cons_zero]; rfl))
  refine wpQg_run (.bool true) rfl (fun _ _ => by kernel_rfl) (qA ?_ (by simp only [Act.put, List.setIfInBounds_toArray, List.set_cons_succ, List.set_cons_zero]; rfl))
  refine wpQg_run (.bool true) rfl (fun _ _ => rfl) (qA ?_ (by simp only [Act.put, List.setIfInBounds_toArray, List.set_cons_succ, List.set_cons_zero]; rfl))
  refine wpQg_pt gp p hp rfl rfl (qA ?_ (by simp only [Act.put, List.setIfInBounds_toArray, List.set_cons_succ, List.set_cons_zero]; rfl))
  refine wpQg_pt gp p hp rfl rfl (qA ?_ (by simp only [Act.put, List.setIfInBounds_toArray, List.set_cons_succ, List.set_cons_zero]; rfl))
  refine wpQg_call 17 #[pt p, pt p] (.bool true) rfl rfl (fun _ => by kernel_rfl) (fun w hb => E2.out w (hT.on hb)) (qA ?_ (by simp only [Act.put, List.setIfInBounds_toArray, List.set_cons_succ, List.set_cons_zero]; rfl))
  refine wpQg_run (.bool true) rfl (fun _ _ => by kernel_rfl) (qA ?_ (by simp only [Act.put, List.setIfInBounds_toArray, List.set_cons_succ, List.set_cons_zero]; rfl))
  refine wpQg_run (.bool true) rfl (fun _ _ => rfl) (qA ?_ (by simp only [Act.put, List.setIfInBounds_toArray, List.set_cons_succ, List.set_cons_zero]; rfl))
  refine wpQuiet_nil ?_
  intro wz hb
  replace hB := below_on hB hb
  go_wp2_with fail
  go_ret
  exact ⟨rfl, hB⟩
end Go.Proofs.YtfleimaoaicolaaDoor.C
