/- Texts that stand on one another, put together: ELaw, JSign, JAlive, JFew, QLevel, QUnlike, JRead, RefNum, RefPack, JRef. -/
import Derived.Test.YtdjglghecekeoaaGreatDoorK10
import Derived.BigQuiet
import Derived.Deep.AppendLies
import Derived.Deep.DrawnRows
import Derived.Deep.LoopGhost
import Derived.Deep.QuietTactic
import Derived.Deep.RegionLaw
import Derived.Laws.ShiftsVarLaws
import Derived.StillTailTactics
/- The statements' own calls: short, first, alive; what is signed is verified, and not with another number. -/
namespace Go.Proofs.YtdjglghecekeoaaGreatDoor.E
open Go.RowKit Go.Sort Go.Proofs.YtdjglghecekeoaaGreatDoor.F Go.Proofs.YtdjglghecekeoaaGreatDoor.C
set_option maxRecDepth 100000

/-! ### short, first, alive -/
/-! ### what is signed is verified -/
theorem key_text {P : Pt} (h : P.On) : keyB (textN P) = true ∧ keyQ (textN P) = P := by
  have hp := text_parts P
  have e1 : keyY (textN P) = P.y.val := hp.1
  have e2 : keyO (textN P) = decide (P.x.val % 2 = 1) := hp.2
  have hb : keyB (textN P) = true := by unfold keyB; rw [e1, e2]; exact parseB_on h
  refine ⟨hb, ?_⟩
  have h1 := key_pn hb
  rw [e1, e2] at h1
  exact h1.same (parseT_pn h)
section
variable (s m : ByteArray)
theorem seedT_size : (seedT s m).size = 64 := by
  unfold seedT signT
  rw [ByteArray.size_append, text_size]
  simp [ByteArray.size, leL_length]
theorem seedT_list : (seedT s m).data.toList = (signT s.data.toList m.data.toList).data.toList ++ leL (signS s.data.toList m.data.toList) 32 := by
  unfold seedT
  rw [T.list_append]
theorem seedT_take : (seedT s m).data.toList.take 32 = (signT s.data.toList m.data.toList).data.toList := by
  have h : (signT s.data.toList m.data.toList).data.toList.length = 32 := by rw [← Lib.size_eq]; exact text_size _
  rw [seedT_list, ← h, List.take_left']
  rfl
theorem seedT_drop : (seedT s m).data.toList.drop 32 = leL (signS s.data.toList m.data.toList) 32 := by
  have h : (signT s.data.toList m.data.toList).data.toList.length = 32 := by rw [← Lib.size_eq]; exact text_size _
  rw [seedT_list, List.drop_left' h]
theorem signS_lt (a b : List UInt8) : signS a b < l25 := Nat.mod_lt _ (by decide)
theorem sigN_own : sigN (seedT s m) = signS s.data.toList m.data.toList := by
  unfold sigN
  rw [seedT_drop, numLE_leL, Nat.mod_eq_of_lt (Nat.lt_trans (signS_lt _ _) (by decide))]
theorem text_back (x : ByteArray) (l : List UInt8) (h : x.data.toList = l) : x = ⟨l.toArray⟩ := by rw [← h, Lib.mk_data]
theorem key_on : (keyP s.data.toList).On := Pt.smul_on Bp_on _
theorem keyT_is : keyB (keyT s.data.toList) = true := (key_text (key_on s)).1
theorem own_point : (Bp.smul (signS s.data.toList m.data.toList)).add ((keyP s.data.toList).smul (signK s.data.toList m.data.toList)).neg = Bp.smul (signR s.data.toList m.data.toList) := by
  unfold signS keyP
  exact sign_point _ _ _
theorem sigK_of (x : ByteArray) (h : x.data.toList.take 32 = (signT s.data.toList m.data.toList).data.toList) : sigK (keyT s.data.toList) m x = signK s.data.toList m.data.toList := by
  unfold sigK signK
  rw [h]
theorem first_of (x : ByteArray) (h : x.data.toList.take 32 = (signT s.data.toList m.data.toList).data.toList) : x.extract 0 32 = signT s.data.toList m.data.toList := by
  rw [text_back (x.extract 0 32) _ (T.head_list x 32), h, Lib.mk_data]
theorem sigR_of (x : ByteArray) (h : x.data.toList.take 32 = (signT s.data.toList m.data.toList).data.toList) :
    sigR (keyT s.data.toList) m x = textN ((Bp.smul (sigN x)).add ((keyP s.data.toList).smul (signK s.data.toList m.data.toList)).neg) := by
  unfold sigR
  rw [sigK_of s m x h]
  unfold keyT
  rw [(key_text (key_on s)).2]
theorem verify_own : verifyE (keyT s.data.toList) m (seedT s m) = 0 := by
  unfold verifyE
  rw [if_pos ⟨text_size _, seedT_size s m⟩, if_pos (keyT_is s), sigN_own, if_pos (signS_lt _ _), if_pos]
  rw [sigR_of s m _ (seedT_take s m), sigN_own, own_point, first_of s m _ (seedT_take s m)]
  rfl
end
end Go.Proofs.YtdjglghecekeoaaGreatDoor.E

/- The contracts of the developers' calls that sign a head, check one, and write one. -/
namespace Go.Proofs.YtdjglghecekeoaaGreatDoor.J
open Go.RowKit Go.Sort Go.Proofs.YtdjglghecekeoaaGreatDoor.U Go.Proofs.YtdjglghecekeoaaGreatDoor.R Go.Proofs.YtdjglghecekeoaaGreatDoor.Q
set_option maxRecDepth 100000

/-- the signature of what is signed of a head -/
def sigL (key : ByteArray) (s : Int) (r : List UInt8) (t : Int) : List UInt8 := (E.seedT key (bytesOf (signedT s r t))).data.toList
theorem sig_bytes (key : ByteArray) (s : Int) (r : List UInt8) (t : Int) : E.seedT key (bytesOf (signedT s r t)) = bytesOf (sigL key s r t) := (Lib.mk_data _).symm
theorem sig_length (key : ByteArray) (s : Int) (r : List UInt8) (t : Int) : (sigL key s r t).length = 64 := by
  have h := E.seedT_size key (bytesOf (signedT s r t))
  rw [Lib.size_eq] at h
  exact h
theorem signed_small {s t : Int} {r : List UInt8} (h : mayH s r t = true) : (bytesOf (signedT s r t)).size ≤ 1000 := by
  have h5 := (mayH_of h).2.2.2.2
  rw [bytes_size, signed_length]
  omega
/-- Sign's answer -/
def signV (key : ByteArray) (s : Int) (r : List UInt8) (t : Int) : Value := if mayH s r t = true ∧ key.size = 32 then .tuple #[.agg (headA s r t (sigL key s r t)), .int .i64 0] else .tuple #[.agg head0, .int .i64 1]
/-- Check's answer -/
def checkE (key : ByteArray) (s : Int) (r : List UInt8) (t : Int) (g : List UInt8) : Int := if rightH s r t g = true then E.verifyE key (bytesOf (signedT s r t)) (bytesOf g) else 1
/-- Print's answer -/
def printV (s : Int) (r : List UInt8) (t : Int) (g : List UInt8) : Value := if rightH s r t g = true then .tuple #[.string (bytesOf (textT s r t g)), .int .i64 0] else .tuple #[.string { data := #[] }, .int .i64 1]

/-! ### Sign -/
theorem two_lies (W : World) (T : TypeId) (cs cs' : Array Value) : Lies ((W.alloc (.cells cs T)).alloc (.cells cs' T)) (W.heap.size + 1) T cs' := by
  have h := Lies.new (W.alloc (.cells cs T)) T cs'
  simp at h
  exact h
set_option maxHeartbeats 1600000 in
theorem signH_any (A : C.Pts E.EdTab) (key : ByteArray) (s : Int) (r : List UInt8) (t : Int) (hk : key.size ≤ 1000) (W : World) (hT : E.EdTab W) :
    Calls Tryz.prog 17 #[.string key, .int .i64 s, .string (bytesOf r), .int .i64 t] W fun e w' => e = .returned (signV key s r t) ∧ Below W.heap.size W w' := by
  have HM := Lib.hid (fun w => mayH_any s r t [] w)
  have hR : Lies ((W.alloc (.cells head0 23)).alloc (.cells (headA s r t []) 23)) W.heap.size 23 head0 := (Lies.new W _ _).alloc _
  have hH : Lies ((W.alloc (.cells head0 23)).alloc (.cells (headA s r t []) 23)) (W.heap.size + 1) 23 (headA s r t []) := two_lies W _ _ _
  have hB := ((Below.refl W.heap.size W).alloc (Nat.le_refl _) (.cells head0 23)).alloc (by simp) (.cells (headA s r t []) 23)
  unfold signV
  cases hm : mayH s r t with
  | false =>
    rw [if_neg (fun h => by cases h.1)]
    rw [hm] at HM
    clear hm
    go_enter Tryz.func17, Tryz.ntmps17
    go_upto_region 2 with fail
    generalize hw0 : World.alloc (World.alloc _ _) _ = w0
    replace hH : Lies w0 (W.heap.size + 1) 23 (headA s r t []) := by rw [← hw0]; exact hH
    replace hR : Lies w0 W.heap.size 23 head0 := by rw [← hw0]; exact hR
    replace hB : Below W.heap.size W w0 := by rw [← hw0]; exact hB
    clear hw0
    go_wp2_with (first
      | ((with_reducible refine wpL_load (W.heap.size + 1) 23 (headA s r t []) 4 rowHead rfl hH ?_ ?_); rfl)
      | (go_at_call 32; (with_reducible refine (HM.out _).mono ?_); rintro e w1 ⟨rfl, hb1⟩; replace hB := below_on hB hb1; replace hR := hR.on hb1; replace hH := hH.on hb1; clear hb1)
      | ((with_reducible refine wpL_store W.heap.size 23 head0 head0 4 rowHead rfl rfl (headA_one _ _ _ _) hR ?_ ?_ ?_); rfl; rfl))
    exact bodyPost_ret (results_row_tmp Tryz.results17 rowHead rfl (hR.row _) rfl rfl) rfl ⟨rfl, below_rowSet hB (Nat.le_refl _) _⟩
  | true =>
    have hs := signed_small hm
    rw [hm] at HM
    have HS := Lib.hid (fun w => signedOf_any s r t [] w hm)
    have HE := Lib.hid (fun w (hb : Below W.heap.size W w) => E.signs_any A key (bytesOf (signedT s r t)) hk hs w (hT.on hb))
    rw [sig_bytes] at HE
    clear hm hs hT
    generalize sigL key s r t = g at *
    generalize signedT s r t = M at *
    by_cases h32 : key.size = 32
    · rw [if_pos ⟨rfl, h32⟩]
      rw [if_pos h32] at HE
      clear h32 hk
      go_enter Tryz.func17, Tryz.ntmps17
      go_upto_region 2 with fail
      generalize hw0 : World.alloc (World.alloc _ _) _ = w0
      replace hH : Lies w0 (W.heap.size + 1) 23 (headA s r t []) := by rw [← hw0]; exact hH
      replace hR : Lies w0 W.heap.size 23 head0 := by rw [← hw0]; exact hR
      replace hB : Below W.heap.size W w0 := by rw [← hw0]; exact hB
      clear hw0
      go_upto_region 7 with (first
        | ((with_reducible refine wpL_load (W.heap.size + 1) 23 (headA s r t []) 4 rowHead rfl hH ?_ ?_); rfl)
        | (go_at_call 32; (with_reducible refine (HM.out _).mono ?_); rintro e w1 ⟨rfl, hb1⟩; replace hB := below_on hB hb1; replace hR := hR.on hb1; replace hH := hH.on hb1; clear hb1)
        | (go_at_call 36; (with_reducible refine (HS.out _).mono ?_); rintro e w2 ⟨rfl, hb1⟩; replace hB := below_on hB hb1; replace hR := hR.on hb1; replace hH := hH.on hb1; clear hb1)
        | (go_at_call 18; (with_reducible refine (HE.out _ hB).mono ?_); rintro e w3 ⟨rfl, hb1⟩; replace hB := below_on hB hb1; replace hR := hR.on hb1; replace hH := hH.on hb1; clear hb1))
      have c3 := hH.cell 3
      have f3 := hH.frozen 3
      have hc3 : w3.cell? ⟨W.heap.size + 1, 3, none⟩ = some (.string (bytesOf [])) := c3
      go_upto_region 8 with fail
      replace hB := hB.setCell (p := ⟨W.heap.size + 1, 3, none⟩) (Nat.le_succ _) (.string (bytesOf g))
      replace hR := hR.far (p := ⟨W.heap.size + 1, 3, none⟩) (by simp) (.string (bytesOf g))
      have hG : Lies (w3.setCell ⟨W.heap.size + 1, 3, none⟩ (.string (bytesOf g))) (W.heap.size + 1) 23 (headA s r t g) := hH.put 3 _
      clear hH c3 f3 hc3
      generalize World.setCell _ _ _ = w4 at *
      go_wp2_with (first
        | ((with_reducible refine wpL_load (W.heap.size + 1) 23 (headA s r t g) 4 rowHead rfl hG ?_ ?_); rfl)
        | ((with_reducible refine wpL_store W.heap.size 23 head0 (headA s r t g) 4 rowHead rfl rfl (headA_one _ _ _ _) hR ?_ ?_ ?_); rfl; rfl))
      exact bodyPost_ret (results_row_tmp Tryz.results17 rowHead rfl (hR.row _) rfl rfl) rfl ⟨rfl, below_rowSet hB (Nat.le_refl _) _⟩
    · rw [if_neg (fun h => h32 h.2)]
      rw [if_neg h32] at HE
      clear h32 hk
      go_enter Tryz.func17, Tryz.ntmps17
      go_upto_region 2 with fail
      generalize hw0 : World.alloc (World.alloc _ _) _ = w0
      replace hH : Lies w0 (W.heap.size + 1) 23 (headA s r t []) := by rw [← hw0]; exact hH
      replace hR : Lies w0 W.heap.size 23 head0 := by rw [← hw0]; exact hR
      replace hB : Below W.heap.size W w0 := by rw [← hw0]; exact hB
      clear hw0
      go_wp2_with (first
        | ((with_reducible refine wpL_load (W.heap.size + 1) 23 (headA s r t []) 4 rowHead rfl hH ?_ ?_); rfl)
        | (go_at_call 32; (with_reducible refine (HM.out _).mono ?_); rintro e w1 ⟨rfl, hb1⟩; replace hB := below_on hB hb1; replace hR := hR.on hb1; replace hH := hH.on hb1; clear hb1)
        | (go_at_call 36; (with_reducible refine (HS.out _).mono ?_); rintro e w2 ⟨rfl, hb1⟩; replace hB := below_on hB hb1; replace hR := hR.on hb1; replace hH := hH.on hb1; clear hb1)
        | (go_at_call 18; (with_reducible refine (HE.out _ hB).mono ?_); rintro e w3 ⟨rfl, hb1⟩; replace hB := below_on hB hb1; replace hR := hR.on hb1; replace hH := hH.on hb1; clear hb1)
        | ((with_reducible refine wpL_store W.heap.size 23 head0 head0 4 rowHead rfl rfl (headA_one _ _ _ _) hR ?_ ?_ ?_); rfl; rfl))
      exact bodyPost_ret (results_row_tmp Tryz.results17 rowHead rfl (hR.row _) rfl rfl) rfl ⟨rfl, below_rowSet hB (Nat.le_refl _) _⟩

/-! ### Print -/
set_option maxHeartbeats 1600000 in
theorem printH_any (s : Int) (r : List UInt8) (t : Int) (g : List UInt8) (w : World) :
    Calls Tryz.prog 10 #[.agg (headA s r t g)] w fun e w' => e = .returned (printV s r t g) ∧ Below w.heap.size w w' := by
  have HM := Lib.hid (fun w => rightH_any s r t g w)
  have hB := (Below.refl w.heap.size w).alloc (Nat.le_refl _) (.cells (headA s r t g) 23)
  have hl : Lies (w.alloc (.cells (headA s r t g) 23)) w.heap.size 23 (headA s r t g) := Lies.new w _ _
  unfold printV
  cases hm : rightH s r t g with
  | false =>
    rw [if_neg (by simp)]
    rw [hm] at HM
    clear hm
    unfold headA at hB hl ⊢
    go_enter Tryz.func10, Tryz.ntmps10
    go_upto_region 1 with fail
    generalize hw0 : World.alloc w _ = w0 at *
    have hl0 : Lies w0 w.heap.size 23 (headA s r t g) := hl
    clear hl hw0
    go_wp2_with (first
      | ((with_reducible refine wpL_load w.heap.size 23 (headA s r t g) 4 rowHead rfl hl0 ?_ ?_); rfl)
      | (go_at_call 12; (with_reducible refine (HM.out _).mono ?_); rintro e w1 ⟨rfl, hb1⟩; replace hB := below_on hB hb1))
    go_ret2
    exact ⟨rfl, hB⟩
  | true =>
    have HX := Lib.hid (fun w => textOf_any s r t g w hm)
    rw [if_pos rfl]
    rw [hm] at HM
    clear hm
    generalize textT s r t g = X at *
    unfold headA at hB hl ⊢
    go_enter Tryz.func10, Tryz.ntmps10
    go_upto_region 1 with fail
    generalize hw0 : World.alloc w _ = w0 at *
    have hl0 : Lies w0 w.heap.size 23 (headA s r t g) := hl
    clear hl hw0
    go_wp2_with (first
      | ((with_reducible refine wpL_load w.heap.size 23 (headA s r t g) 4 rowHead rfl hl0 ?_ ?_); rfl)
      | (go_at_call 12; (with_reducible refine (HM.out _).mono ?_); rintro e w1 ⟨rfl, hb1⟩; replace hB := below_on hB hb1; replace hl0 := hl0.on hb1; clear hb1)
      | (go_at_call 30; (with_reducible refine (HX.out _).mono ?_); rintro e w2 ⟨rfl, hb2⟩; replace hB := below_on hB hb2; clear hb2))
    go_ret2
    exact ⟨rfl, hB⟩

/-! ### Check -/
set_option maxHeartbeats 1600000 in
theorem checkH_any (A : C.Pts E.EdTab) (key : ByteArray) (s : Int) (r : List UInt8) (t : Int) (g : List UInt8) (w : World) (hT : E.EdTab2 w) :
    Calls Tryz.prog 21 #[.string key, .agg (headA s r t g)] w fun e w' => e = .returned (.int .i64 (checkE key s r t g)) ∧ Below w.heap.size w w' := by
  have HM := Lib.hid (fun w => rightH_any s r t g w)
  have hB := (Below.refl w.heap.size w).alloc (Nat.le_refl _) (.cells (headA s r t g) 23)
  have hl : Lies (w.alloc (.cells (headA s r t g) 23)) w.heap.size 23 (headA s r t g) := Lies.new w _ _
  unfold checkE
  cases hm : rightH s r t g with
  | false =>
    rw [if_neg (by simp)]
    rw [hm] at HM
    clear hm
    unfold headA at hB hl ⊢
    go_enter Tryz.func21, Tryz.ntmps21
    go_upto_region 1 with fail
    generalize hw0 : World.alloc w _ = w0 at *
    have hl0 : Lies w0 w.heap.size 23 (headA s r t g) := hl
    clear hl hw0
    go_wp2_with (first
      | ((with_reducible refine wpL_load w.heap.size 23 (headA s r t g) 4 rowHead rfl hl0 ?_ ?_); rfl)
      | (go_at_call 12; (with_reducible refine (HM.out _).mono ?_); rintro e w1 ⟨rfl, hb1⟩; replace hB := below_on hB hb1))
    go_ret
    exact ⟨rfl, hB⟩
  | true =>
    have hs := signed_small (rightH_of hm).1
    have HS := Lib.hid (fun w => signedOf_any s r t g w (rightH_of hm).1)
    have HV := Lib.hid (fun w0 (hb : Below w.heap.size w w0) => E.verify_any A key (bytesOf (signedT s r t)) (bytesOf g) hs w0 (hT.on hb))
    rw [if_pos rfl]
    rw [hm] at HM
    generalize E.verifyE key (bytesOf (signedT s r t)) (bytesOf g) = V at *
    clear hm hs hT
    generalize signedT s r t = M at *
    unfold headA at hB hl ⊢
    go_enter Tryz.func21, Tryz.ntmps21
    go_upto_region 1 with fail
    generalize hw0 : World.alloc w _ = w0 at *
    have hl0 : Lies w0 w.heap.size 23 (headA s r t g) := hl
    clear hl hw0
    go_upto_region 3 with (first
      | ((with_reducible refine wpL_load w.heap.size 23 (headA s r t g) 4 rowHead rfl hl0 ?_ ?_); rfl)
      | (go_at_call 12; (with_reducible refine (HM.out _).mono ?_); rintro e w1 ⟨rfl, hb1⟩; replace hB := below_on hB hb1; replace hl0 := hl0.on hb1; clear hb1))
    have hl := hl0
    clear hl0
    refine wp_region_rel 6 _ [sayFix (.string key), sayFix (.agg (headA s r t g)), sayFix (.string (bytesOf M)), sayFix (.pointer (some ⟨w.heap.size, 3, none⟩)), sayFix (.string (bytesOf g)), sayFix (.int .i64 V)] rfl rfl (by kernel_rfl) (by kernel_rfl) (fun r hr => by
      simp only [List.mem_cons, List.not_mem_nil, or_false] at hr
      rcases hr with rfl | rfl | rfl | rfl | rfl | rfl <;> first | exact sayFix_mono _ | exact sayStrs_mono _) ?_
    simp only [List.take_succ_cons, List.take_zero, List.drop_succ_cons, List.drop_zero, List.zip_cons_cons, List.zip_nil_right]
    refine wpRel_step (fun wr hb1 hG => ?_) (fun v0 => ?_)
    · exact does_run (.string key) rfl rfl
    simp only [Act.put, List.setIfInBounds_toArray, List.set_cons_succ, List.set_cons_zero, Option.getD_some]
    refine wpRel_step (fun wr hb1 hG => ?_) (fun v1 => ?_)
    · exact does_run (.agg (headA s r t g)) (run_ldH w.heap.size _ s t r g (hl.on hb1) rfl) rfl
    simp only [Act.put, List.setIfInBounds_toArray, List.set_cons_succ, List.set_cons_zero, Option.getD_some]
    refine wpRel_step (fun wr hb1 hG => ?_) (fun v2 => ?_)
    · obtain rfl := laid_at 0 hG rfl (by decide)
      refine does_call 36 #[.agg (headA s r t g)] (by kernel_rfl) ((HS.out wr).mono ?_)
      rintro e w' ⟨rfl, h6⟩
      exact ⟨_, rfl, h6, rfl⟩
    simp only [Act.put, List.setIfInBounds_toArray, List.set_cons_succ, List.set_cons_zero, Option.getD_some]
    refine wpRel_step (fun wr hb1 hG => ?_) (fun v3 => ?_)
    · exact does_run (.pointer (some ⟨w.heap.size, 3, none⟩)) (run_fld3 w.heap.size rfl wr) rfl
    simp only [Act.put, List.setIfInBounds_toArray, List.set_cons_succ, List.set_cons_zero, Option.getD_some]
    refine wpRel_step (fun wr hb1 hG => ?_) (fun v4 => ?_)
    · obtain rfl := laid_at 0 hG rfl (by decide)
      exact does_run (.string (bytesOf g)) (run_ldT ⟨w.heap.size, 3, none⟩ _ wr (hd_g (hl.on hb1)) rfl) rfl
    simp only [Act.put, List.setIfInBounds_toArray, List.set_cons_succ, List.set_cons_zero, Option.getD_some]
    refine wpRel_step (fun wr hb1 hG => ?_) (fun v5 => ?_)
    · obtain rfl := laid_at 4 hG rfl (by decide)
      obtain rfl := laid_at 2 hG rfl (by decide)
      obtain rfl := laid_at 0 hG rfl (by decide)
      refine does_call 22 #[.string key, .string (bytesOf M), .string (bytesOf g)] (by kernel_rfl) ((HV.out wr (below_on hB hb1)).mono ?_)
      rintro e w' ⟨rfl, h6⟩
      exact ⟨_, rfl, h6, rfl⟩
    simp only [Act.put, List.setIfInBounds_toArray, List.set_cons_succ, List.set_cons_zero, Option.getD_some]
    refine wpRel_nil (fun w5 hb hG => ?_)
    obtain rfl := hG _ (List.mem_of_getElem? (i := 0) rfl)
    clear hG
    replace hB := below_on hB hb
    clear hb hl HS HV HM
    go_wp2_with fail
    go_ret
    exact ⟨rfl, hB⟩
end Go.Proofs.YtdjglghecekeoaaGreatDoor.J

/- The contracts of the statements' own small calls: a seed, and that a head which is signed may be. -/
namespace Go.Proofs.YtdjglghecekeoaaGreatDoor.J
open Go.RowKit Go.Sort Go.Proofs.YtdjglghecekeoaaGreatDoor.U Go.Proofs.YtdjglghecekeoaaGreatDoor.R Go.Proofs.YtdjglghecekeoaaGreatDoor.Q
set_option maxRecDepth 100000

def seedB : ByteArray := ⟨#[48, 49, 50, 51, 52, 53, 54, 55, 56, 57, 97, 98, 99, 100, 101, 102, 48, 49, 50, 51, 52, 53, 54, 55, 56, 57, 97, 98, 99, 100, 101, 102]⟩
theorem seed_any (w : World) : Calls Tryz.prog 33 #[] w fun e w' => e = .returned (.string seedB) ∧ w = w' := by
  go_enter Tryz.func33, Tryz.ntmps33
  go_wp2
  go_ret
  exact ⟨rfl, rfl⟩
/-- what the program's variables hold while heads are signed -/
structure HTab (w : World) : Prop where
  u : Tab w
  e : E.EdTab w
theorem HTab.on {w w' : World} (h : HTab w) (hb : Below w.heap.size w w') : HTab w' := ⟨h.u.below hb, h.e.on hb⟩
set_option maxHeartbeats 1600000 in
theorem aliveH_any (A : C.Pts E.EdTab) (W : World) (hT : HTab W) : Calls Tryz.prog 14 #[] W fun e w' => e = .returned (.bool true) ∧ Below W.heap.size W w' := by
  have hm : mayH 0 (lf []) 5 = true := mayH_yes (by decide) (by decide) (by decide) (by decide) (lf_length _)
  have HS := Lib.hid (fun w (hb : Below W.heap.size W w) => signH_any A seedB 0 (lf []) 5 (by decide) w (hT.on hb).e)
  unfold signV at HS
  rw [if_pos ⟨hm, by decide⟩] at HS
  have hr : rightH 0 (lf []) 5 (sigL seedB 0 (lf []) 5) = true := rightH_yes hm (sig_length _ _ _ _)
  have HR := Lib.hid (fun w => rightH_any 0 (lf []) 5 (sigL seedB 0 (lf []) 5) w)
  rw [hr] at HR
  have HL := Lib.hid (fun w (hb : Below W.heap.size W w) => leaf_any [] w (by decide) (hT.on hb).u)
  have HD := Lib.hid (fun w => seed_any w)
  clear hm hr hT
  generalize sigL seedB 0 (lf []) 5 = g at *
  generalize lf [] = r at *
  generalize seedB = k at *
  have hB := Below.refl W.heap.size W
  go_enter Tryz.func14, Tryz.ntmps14
  go_upto_region 2 with (first
    | (go_at_call 33; (with_reducible refine (HD.out _).mono ?_); rintro e w1 ⟨rfl, rfl⟩)
    | (go_at_call 25; refine (HL.out _ hB).mono ?_; rintro e w2 ⟨rfl, hb⟩; replace hB := below_on hB hb; clear hb)
    | (go_at_call 17; (with_reducible refine (HS.out _ hB).mono ?_); rintro e w3 ⟨rfl, hb⟩; replace hB := below_on hB hb; clear hb)
    | ((with_reducible refine wpL_store w3.heap.size 23 _ (headA 0 r 5 g) 4 rowHead ?_ rfl (headA_one _ _ _ _) (Lies.new w3 _ _) ?_ ?_ ?_); rfl; rfl; rfl))
  generalize hw4 : World.setRow _ _ _ = w4
  have hl : Lies w4 w3.heap.size 23 (headA 0 r 5 g) := by rw [← hw4]; exact newH_lies w3 _ _ _
  replace hB : Below W.heap.size W w4 := by rw [← hw4]; exact below_on hB (newH w3 _ _)
  clear hw4
  generalize w3.heap.size = b at *
  clear HD HL HS
  go_wp2_with (first
    | ((with_reducible refine wpL_load_gH b 23 (headA 0 r 5 g) 4 rowHead rfl hl ?_ ?_ ?_); rfl; rfl)
    | (go_at_call 12; (with_reducible refine (HR.out _).mono ?_); rintro e w5 ⟨rfl, hb⟩; have ht := hd_t (hl.on hb); replace hB := below_on hB hb; clear hb))
  go_ret
  exact ⟨rfl, hB⟩
end Go.Proofs.YtdjglghecekeoaaGreatDoor.J

/- The contract of the statements' own call that takes a head's root and signature short. -/
namespace Go.Proofs.YtdjglghecekeoaaGreatDoor.J
open Go.RowKit Go.Sort Go.Proofs.YtdjglghecekeoaaGreatDoor.U Go.Proofs.YtdjglghecekeoaaGreatDoor.R Go.Proofs.YtdjglghecekeoaaGreatDoor.Q
set_option maxRecDepth 100000

theorem box_two (W : World) (T : TypeId) (cs cs' : Array Value) : Lies ((W.alloc (.cells cs T)).alloc (.cells cs' T)) (W.heap.size + 1) T cs' := by
  have h := Lies.new (W.alloc (.cells cs T)) T cs'
  simp at h
  exact h
set_option maxHeartbeats 1600000 in
theorem fewH_any (s : Int) (r : List UInt8) (t : Int) (g : List UInt8) (W : World) (hr : r.length ≤ maxLen) (hg : g.length ≤ maxLen) :
    Calls Tryz.prog 9 #[.agg (headA s r t g)] W fun e w' => e = .returned (.agg (headA s (r.take 40) t (g.take 70))) ∧ Below W.heap.size W w' := by
  unfold maxLen at hr hg
  have hz := bytes_int r
  have hy := bytes_int g
  have hB := ((Below.refl W.heap.size W).alloc (Nat.le_refl _) (.cells (headA s r t g) 23)).alloc (by simp) (.cells head0 23)
  have hH : Lies ((W.alloc (.cells (headA s r t g) 23)).alloc (.cells head0 23)) W.heap.size 23 (headA s r t g) := (Lies.new W _ _).alloc _
  have hR : Lies ((W.alloc (.cells (headA s r t g) 23)).alloc (.cells head0 23)) (W.heap.size + 1) 23 head0 := box_two W _ _ _
  have C1 : Hid ((bytesOf r).extract 0 (min (r.length : Int) 40).toNat = bytesOf (r.take 40)) := Lib.hid (cut_bytes r 40 40 rfl)
  have C2 : Hid ((bytesOf g).extract 0 (min (g.length : Int) 70).toNat = bytesOf (g.take 70)) := Lib.hid (cut_bytes g 70 70 rfl)
  go_enter Tryz.func9, Tryz.ntmps9
  go_upto_region 1 with fail
  generalize hw0 : World.alloc (World.alloc _ _) _ = w0
  replace hH : Lies w0 W.heap.size 23 (headA s r t g) := by rw [← hw0]; exact hH
  replace hR : Lies w0 (W.heap.size + 1) 23 head0 := by rw [← hw0]; exact hR
  replace hB : Below W.heap.size W w0 := by rw [← hw0]; exact hB
  clear hw0
  have k1 := hd_r hH
  have k3 := hd_g hH
  have f1 := hH.frozen 1
  have f3 := hH.frozen 3
  go_region
  simp only [Exit.then]
  rw [C1.out, C2.out]
  clear C1 C2 k1 k3 f1 f3
  replace hB : Below W.heap.size W _ := ((hB.setCell (p := ⟨W.heap.size, 1, none⟩) (Nat.le_refl _) (.string (bytesOf (r.take 40)))).setCell (p := ⟨W.heap.size, 3, none⟩) (Nat.le_refl _) (.string (bytesOf (g.take 70)))).drew
  replace hR : Lies _ (W.heap.size + 1) 23 head0 := ((hR.far (p := ⟨W.heap.size, 1, none⟩) (by simp) (.string (bytesOf (r.take 40)))).far (p := ⟨W.heap.size, 3, none⟩) (by simp) (.string (bytesOf (g.take 70)))).drew
  replace hH : Lies _ W.heap.size 23 (headA s (r.take 40) t (g.take 70)) := ((hH.put 1 (.string (bytesOf (r.take 40)))).put 3 (.string (bytesOf (g.take 70)))).drew
  generalize World.drew _ = w1 at *
  go_wp2_with (first
    | ((with_reducible refine wpL_load W.heap.size 23 (headA s (r.take 40) t (g.take 70)) 4 rowHead rfl hH ?_ ?_); rfl)
    | ((with_reducible refine wpL_store (W.heap.size + 1) 23 head0 (headA s (r.take 40) t (g.take 70)) 4 rowHead rfl rfl (headA_one _ _ _ _) hR ?_ ?_ ?_); rfl; rfl))
  exact bodyPost_ret (results_row Tryz.results9 rowHead rfl (hR.row _) rfl) rfl ⟨rfl, below_rowSet hB (Nat.le_succ _) _⟩
end Go.Proofs.YtdjglghecekeoaaGreatDoor.J

/- The level of the last whole part: the contract of the library's count of low zeros, up to 4096, and of the developers' call. -/
namespace Go.Proofs.YtdjglghecekeoaaGreatDoor.Q
open Go.RowKit Go.Sort Go.Proofs.YtdjglghecekeoaaGreatDoor.U Go.Proofs.YtdjglghecekeoaaGreatDoor.R
set_option maxRecDepth 100000

/-- what the library's table holds: at which place each remainder of its constant stands -/
def tzL : List Nat := (List.range 64).map fun i => ((List.range 64).find? fun t => 285870213051353865 * 2 ^ t % 18446744073709551616 / 288230376151711744 == i).getD 0
def Tz (w : World) : Prop := ∀ i, i < 64 → w.cell? ⟨11, i, none⟩ = some (.int .u8 ((tzL.getD i 0 : Nat) : Int))
theorem Tz.lt {w : World} (h : Tz w) : 11 < w.heap.size := World.block_lt_of_cell? w _ (h 0 (by decide))
theorem Tz.below {w w' : World} (h : Tz w) (hb : Below w.heap.size w w') : Tz w' := fun i hi => (hb.cell (p := ⟨11, i, none⟩) h.lt).trans (h i hi)
def tzNeg (m : Nat) : Nat := 18446744073709551616 - m
theorem tzNeg_add {m : Nat} (h : m ≤ 4096) : tzNeg m + m = 18446744073709551616 := by unfold tzNeg; omega
theorem wrapN (m : Nat) (h1 : 1 ≤ m) (h2 : m ≤ 4096) : IntKind.u64.wrap (-(m : Int)) = (tzNeg m : Int) := by
  have := tzNeg_add h2
  generalize tzNeg m = q at *
  rw [IntKind.wrap_u64]
  omega
section
variable {a : Act} {d : Option Tmp} {x y : Operand} {t' : TypeId} {pos : String} {after : Array Edge} {gd : Option (Nat × Bool)} {r : TypeId}
end
end Go.Proofs.YtdjglghecekeoaaGreatDoor.Q

/- The first two unlike texts from the topmost one down: the contract of the developers' call. -/
namespace Go.Proofs.YtdjglghecekeoaaGreatDoor.Q
open Go.RowKit Go.Sort Go.Proofs.YtdjglghecekeoaaGreatDoor.U Go.Proofs.YtdjglghecekeoaaGreatDoor.R
set_option maxRecDepth 100000

theorem text_beq (s t : List UInt8) : ((bytesOf s).toList == (bytesOf t).toList) = decide (s = t) := by
  rw [ByteArray.toList_eq, ByteArray.toList_eq, bytesOf_toList, bytesOf_toList]
  by_cases h : s = t
  · subst h; simp
  · rw [decide_eq_false h, beq_eq_false_iff_ne]; exact h
section
variable {a : Act} {d : Option Tmp} {x y : Operand} {t' : TypeId} {pos : String} {after : Array Edge} {gd : Option (Nat × Bool)} {r : TypeId}
theorem run_eqlS (s t : List UInt8) (hx : a.eval x = .string (bytesOf s)) (hy : a.eval y = .string (bytesOf t)) (w : World) :
    (execOp a.eval ⟨d, .binOp .eql 9 x y r, t', pos, after, gd⟩).run Tryz.prog w = .ok (.value (.bool (decide (s = t)))) w := by
  unfold execOp
  simp only [hx, hy]
  simp [go_sem, text_beq]
end
end Go.Proofs.YtdjglghecekeoaaGreatDoor.Q

/- The contract of the developers' call that takes the parts of a text for those of a head. -/
namespace Go.Proofs.YtdjglghecekeoaaGreatDoor.J
open Go.RowKit Go.Sort Go.Proofs.YtdjglghecekeoaaGreatDoor.U Go.Proofs.YtdjglghecekeoaaGreatDoor.R Go.Proofs.YtdjglghecekeoaaGreatDoor.Q
set_option maxRecDepth 100000

theorem unpackB_any (x : List UInt8) (w : World) : Calls Tryz.prog 28 #[.string (bytesOf x)] w fun e w' => ∃ v, e = .returned (.tuple #[v, .int .i64 (unpackT x).1]) ∧ Strs w' v (unpackT x).2 ∧ Below w.heap.size w w' := unpack_any (bytesOf x) w
/-- what Number hands back -/
def numV (x : List UInt8) : Nat := if x.length ≤ 8 then numL x else 0
def numE (x : List UInt8) : Int := if x.length ≤ 8 then 0 else 1
theorem numberB_any (x : List UInt8) (w : World) : Calls Tryz.prog 29 #[.string (bytesOf x)] w fun e w' => e = .returned (.tuple #[.int .u64 (numV x), .int .i64 (numE x)]) ∧ w = w' := by
  unfold numV numE
  by_cases h : x.length ≤ 8
  · rw [if_pos h, if_pos h]
    exact num_any (bytesOf x) w (by rw [bytes_size]; exact h)
  · rw [if_neg h, if_neg h]
    exact num_long (bytesOf x) w (by rw [bytes_size]; omega)
theorem strs_two {w : World} {v : Value} {p q : List UInt8} (h : Strs w v [p, q]) : ∃ b off c, v = .slice (some ⟨b, off, none⟩) 2 c ∧ 2 ≤ c ∧ c ≤ maxLen ∧ w.cell? ⟨b, off, none⟩ = some (.string (bytesOf p)) ∧ w.cell? ⟨b, off + 1, none⟩ = some (.string (bytesOf q)) := by
  obtain ⟨a, c, rfl, hc, hm, _, hl⟩ := h
  obtain ⟨b, off, rfl, hcell⟩ := hl (by simp)
  exact ⟨b, off, c, rfl, hc, hm, hcell 0 p rfl, hcell 1 q rfl⟩
theorem strs_four {w : World} {v : Value} {p q r s : List UInt8} (h : Strs w v [p, q, r, s]) : ∃ b off c, v = .slice (some ⟨b, off, none⟩) 4 c ∧ 4 ≤ c ∧ c ≤ maxLen ∧ w.cell? ⟨b, off, none⟩ = some (.string (bytesOf p)) ∧ w.cell? ⟨b, off + 1, none⟩ = some (.string (bytesOf q)) ∧ w.cell? ⟨b, off + 2, none⟩ = some (.string (bytesOf r)) ∧ w.cell? ⟨b, off + 3, none⟩ = some (.string (bytesOf s)) := by
  obtain ⟨a, c, rfl, hc, hm, _, hl⟩ := h
  obtain ⟨b, off, rfl, hcell⟩ := hl (by simp)
  exact ⟨b, off, c, rfl, hc, hm, hcell 0 p rfl, hcell 1 q rfl, hcell 2 r rfl, hcell 3 s rfl⟩
/-- what is read of a text: that of a head, if it is a head's -/
def ReadB (x : List UInt8) (s : Int) (r : List UInt8) (t : Int) (g : List UInt8) (b : Bool) : Prop := ∀ s' r' t' g', IsHead x s' r' t' g' → b = true ∧ s' = s ∧ r' = r ∧ t' = t ∧ g' = g
theorem read_not2 {x : List UInt8} {E : Int} {O : List (List UInt8)} (h : unpackT x = (E, O)) (h2 : O.length ≠ 2) : ReadB x 0 [] 0 [] false := by
  intro s r t g hx
  have h1 := (head_unpack hx).1
  rw [h] at h1
  injection h1 with _ h1
  rw [h1] at h2
  exact absurd rfl h2
theorem read_not4 {x p q : List UInt8} {E F : Int} {I : List (List UInt8)} (h : unpackT x = (E, [p, q])) (hp : unpackT p = (F, I)) (h4 : I.length ≠ 4) : ReadB x 0 [] 0 [] false := by
  intro s r t g hx
  obtain ⟨h1, h2, _⟩ := head_unpack hx
  rw [h] at h1
  simp only [Prod.mk.injEq, List.cons.injEq, and_true] at h1
  rw [← h1.2.1, hp] at h2
  injection h2 with _ h2
  rw [h2] at h4
  exact absurd rfl h4
theorem read_is {x p q i0 i1 i2 i3 : List UInt8} {E F : Int} (h : unpackT x = (E, [p, q])) (hp : unpackT p = (F, [i0, i1, i2, i3])) : ReadB x (IntKind.i64.wrap (numV i1 : Int)) i3 (IntKind.i64.wrap (numV i2 : Int)) q true := by
  intro s r t g hx
  obtain ⟨h1, h2, h3, h4⟩ := head_unpack hx
  obtain ⟨hr, _⟩ := hx
  obtain ⟨a1, a2, a3, a4, a5⟩ := mayH_of (rightH_of hr).1
  rw [h] at h1
  simp only [Prod.mk.injEq, List.cons.injEq, and_true] at h1
  rw [← h1.2.1, hp] at h2
  unfold partsS at h2
  simp only [Prod.mk.injEq, List.cons.injEq, and_true] at h2
  obtain ⟨_, _, e1, e2, e3⟩ := h2
  have n1 : numV i1 = numL i1 := by unfold numV; rw [if_pos (by rw [e1, bigL_length]; exact Nat.le_refl _)]
  have n2 : numV i2 = numL i2 := by unfold numV; rw [if_pos (by rw [e2, bigL_length]; exact Nat.le_refl _)]
  rw [← e1] at h3
  rw [← e2] at h4
  refine ⟨rfl, ?_, e3.symm, ?_, h1.2.2.symm⟩
  · rw [n1, h3, IntKind.wrap_i64]; omega
  · rw [n2, h4, IntKind.wrap_i64]; omega
section
variable {a : Act} {d : Option Tmp} {x y : Operand} {t' : TypeId} {pos : String} {after : Array Edge} {gd : Option (Nat × Bool)}
theorem run_convI (n : Int) (hx : a.eval x = .int .u64 n) (w : World) :
    (execOp a.eval ⟨d, .convert 54 3 x, t', pos, after, gd⟩).run Tryz.prog w = .ok (.value (.int .i64 (IntKind.i64.wrap n))) w := by
  unfold execOp
  simp only [hx]
  simp [convert, go_sem]
end

set_option maxHeartbeats 1600000 in
theorem read_any (x : List UInt8) (W : World) :
    Calls Tryz.prog 31 #[.string (bytesOf x)] W fun e w' => ∃ s r t g b, e = .returned (.tuple #[.agg (headA s r t g), .bool b]) ∧ Below W.heap.size W w' ∧ ReadB x s r t g b := by
  have HU := Lib.hid (fun w => unpackB_any x w)
  obtain ⟨E, O, hO⟩ : ∃ E O, unpackT x = (E, O) := ⟨_, _, rfl⟩
  rw [hO] at HU
  have hR : Lies (W.alloc (.cells head0 23)) W.heap.size 23 head0 := Lies.new W _ _
  have hB := (Below.refl W.heap.size W).alloc (Nat.le_refl _) (.cells head0 23)
  by_cases c2 : O.length = 2
  case neg =>
    have hi : ((O.length : Int) != 2) = true := by simp; omega
    have HX := Lib.hid (read_not2 hO c2)
    clear c2 hO
    go_enter Tryz.func31, Tryz.ntmps31
    go_upto_region 1 with fail
    generalize hgw : World.alloc _ _ = w0
    replace hR : Lies w0 W.heap.size 23 (head0) := by rw [← hgw]; exact hR
    replace hB : Below W.heap.size W w0 := by rw [← hgw]; exact hB
    clear hgw
    go_wp2_with (first
      | (go_at_call 28; (with_reducible refine (HU.out _).mono ?_); rintro e w1 ⟨v, rfl, hs, hb⟩; obtain ⟨a1, c1, rfl, hk⟩ := hs; clear hk; replace hR := hR.on hb; replace hB := below_on hB hb; clear hb)
      | ((with_reducible refine wpL_store W.heap.size 23 (head0) (head0) 4 rowHead rfl rfl (headA_one _ _ _ _) hR ?_ ?_ ?_); rfl; rfl))
    exact bodyPost_ret (results_row_tmp Tryz.results31 rowHead rfl (hR.row _) rfl rfl) rfl ⟨_, _, _, _, _, rfl, below_rowSet hB (Nat.le_refl _) _, HX.out⟩
  obtain ⟨p, q, rfl⟩ : ∃ p q, O = [p, q] := by
    match O, c2 with
    | [p, q], _ => exact ⟨p, q, rfl⟩
  clear c2
  have HV := Lib.hid (fun w => unpackB_any p w)
  obtain ⟨F, J, hJ⟩ : ∃ F J, unpackT p = (F, J) := ⟨_, _, rfl⟩
  rw [hJ] at HV
  by_cases c4 : J.length = 4
  case neg =>
    have hi : ((J.length : Int) != 4) = true := by simp; omega
    have HX := Lib.hid (read_not4 hO hJ c4)
    clear c4 hO hJ
    go_enter Tryz.func31, Tryz.ntmps31
    go_upto_region 1 with fail
    generalize hgw : World.alloc _ _ = w0
    replace hR : Lies w0 W.heap.size 23 (head0) := by rw [← hgw]; exact hR
    replace hB : Below W.heap.size W w0 := by rw [← hgw]; exact hB
    clear hgw
    go_wp2_with (first
      | (go_at_call 28; (with_reducible refine (HU.out _).mono ?_); rintro e w1 ⟨v, rfl, hs, hb⟩; obtain ⟨b1, o1, c1, rfl, hc1, hm1, k0, k1⟩ := strs_two hs; clear hs; replace hR := hR.on hb; replace hB := below_on hB hb; clear hb)
      | (go_at_call 28; (with_reducible refine (HV.out _).mono ?_); rintro e w2 ⟨v, rfl, hs, hb⟩; obtain ⟨a2, c2, rfl, hk⟩ := hs; clear hk; replace hR := hR.on hb; replace hB := below_on hB hb; clear hb)
      | ((with_reducible refine wpL_store W.heap.size 23 (head0) (head0) 4 rowHead rfl rfl (headA_one _ _ _ _) hR ?_ ?_ ?_); rfl; rfl))
    exact bodyPost_ret (results_row_tmp Tryz.results31 rowHead rfl (hR.row _) rfl rfl) rfl ⟨_, _, _, _, _, rfl, below_rowSet hB (Nat.le_refl _) _, HX.out⟩
  obtain ⟨i0, i1, i2, i3, rfl⟩ : ∃ i0 i1 i2 i3, J = [i0, i1, i2, i3] := by
    match J, c4 with
    | [i0, i1, i2, i3], _ => exact ⟨i0, i1, i2, i3, rfl⟩
  have HX := Lib.hid (read_is hO hJ)
  have HN1 := Lib.hid (fun w => numberB_any i1 w)
  have HN2 := Lib.hid (fun w => numberB_any i2 w)
  clear c4 hO hJ
  generalize numV i1 = n at *
  generalize numV i2 = m at *
  go_enter Tryz.func31, Tryz.ntmps31
  go_upto_region 1 with fail
  generalize hgw : World.alloc _ _ = w0
  replace hR : Lies w0 W.heap.size 23 (head0) := by rw [← hgw]; exact hR
  replace hB : Below W.heap.size W w0 := by rw [← hgw]; exact hB
  clear hgw
  go_upto_region 9 with (first
    | (go_at_call 28; (with_reducible refine (HU.out _).mono ?_); rintro e w1 ⟨v, rfl, hs, hb⟩; obtain ⟨b1, o1, c1, rfl, hc1, hm1, k0, k1⟩ := strs_two hs; clear hs; replace hR := hR.on hb; replace hB := below_on hB hb; clear hb)
    | (go_at_call 28; (with_reducible refine (HV.out _).mono ?_); rintro e w2 ⟨v, rfl, hs, hb⟩; obtain ⟨b2, o2, c2, rfl, hc2, hm2, j0, j1, j2, j3⟩ := strs_four hs; clear hs; replace k1 := (hb.cell (p := ⟨b1, o1 + 1, none⟩) (World.block_lt_of_cell? _ _ k1)).trans k1; replace hR := hR.on hb; replace hB := below_on hB hb; clear hb)
    | (go_at_call 29; (with_reducible refine (HN1.out _).mono ?_); rintro e w3 ⟨rfl, rfl⟩)
    | (go_at_call 29; (with_reducible refine (HN2.out _).mono ?_); rintro e w4 ⟨rfl, rfl⟩))
  refine wp_region_rel 11 _ [sayFix (.int .u64 ((n : Nat) : Int)), sayFix (.int .i64 (IntKind.i64.wrap ((n : Nat) : Int))), sayFix (.slice (some ⟨b2, o2, none⟩) 4 c2), sayFix (.pointer (some ⟨b2, o2 + 3, none⟩)), sayFix (.string (bytesOf i3)), sayFix (.int .u64 ((m : Nat) : Int)), sayFix (.int .i64 (IntKind.i64.wrap ((m : Nat) : Int))), sayFix (.slice (some ⟨b1, o1, none⟩) 2 c1), sayFix (.pointer (some ⟨b1, o1 + 1, none⟩)), sayFix (.string (bytesOf q)), sayFix (.agg (headA (IntKind.i64.wrap ((n : Nat) : Int)) i3 (IntKind.i64.wrap ((m : Nat) : Int)) q))] rfl rfl (by kernel_rfl) (by kernel_rfl) (fun r hr => by
    simp only [List.mem_cons, List.not_mem_nil, or_false] at hr
    rcases hr with rfl | rfl | rfl | rfl | rfl | rfl | rfl | rfl | rfl | rfl | rfl <;> first | exact sayFix_mono _) ?_
  simp only [List.take_succ_cons, List.take_zero, List.drop_succ_cons, List.drop_zero, List.zip_cons_cons, List.zip_nil_right]
  refine wpRel_step (fun wr hb1 hG => ?_) (fun v0 => ?_)
  · exact does_run (.int .u64 ((n : Nat) : Int)) (rfl) rfl
  simp only [Act.put, List.setIfInBounds_toArray, List.set_cons_succ, List.set_cons_zero, Option.getD_some]
  refine wpRel_step (fun wr hb1 hG => ?_) (fun v1 => ?_)
  · obtain rfl := laid_at 0 hG rfl (by decide)
    exact does_run (.int .i64 (IntKind.i64.wrap ((n : Nat) : Int))) (run_convI _ rfl wr) rfl
  simp only [Act.put, List.setIfInBounds_toArray, List.set_cons_succ, List.set_cons_zero, Option.getD_some]
  refine wpRel_step (fun wr hb1 hG => ?_) (fun v2 => ?_)
  · exact does_run (.slice (some ⟨b2, o2, none⟩) 4 c2) (rfl) rfl
  simp only [Act.put, List.setIfInBounds_toArray, List.set_cons_succ, List.set_cons_zero, Option.getD_some]
  refine wpRel_step (fun wr hb1 hG => ?_) (fun v3 => ?_)
  · obtain rfl := laid_at 0 hG rfl (by decide)
    exact does_run (.pointer (some ⟨b2, o2 + 3, none⟩)) (run_idxS b2 o2 4 c2 3 (by decide) rfl rfl wr) rfl
  simp only [Act.put, List.setIfInBounds_toArray, List.set_cons_succ, List.set_cons_zero, Option.getD_some]
  refine wpRel_step (fun wr hb1 hG => ?_) (fun v4 => ?_)
  · obtain rfl := laid_at 0 hG rfl (by decide)
    exact does_run (.string (bytesOf i3)) (run_ldT _ _ wr ((hb1.cell (p := ⟨b2, o2 + 3, none⟩) (World.block_lt_of_cell? _ _ j3)).trans j3) rfl) rfl
  simp only [Act.put, List.setIfInBounds_toArray, List.set_cons_succ, List.set_cons_zero, Option.getD_some]
  refine wpRel_step (fun wr hb1 hG => ?_) (fun v5 => ?_)
  · exact does_run (.int .u64 ((m : Nat) : Int)) (rfl) rfl
  simp only [Act.put, List.setIfInBounds_toArray, List.set_cons_succ, List.set_cons_zero, Option.getD_some]
  refine wpRel_step (fun wr hb1 hG => ?_) (fun v6 => ?_)
  · obtain rfl := laid_at 0 hG rfl (by decide)
    exact does_run (.int .i64 (IntKind.i64.wrap ((m : Nat) : Int))) (run_convI _ rfl wr) rfl
  simp only [Act.put, List.setIfInBounds_toArray, List.set_cons_succ, List.set_cons_zero, Option.getD_some]
  refine wpRel_step (fun wr hb1 hG => ?_) (fun v7 => ?_)
  · exact does_run (.slice (some ⟨b1, o1, none⟩) 2 c1) (rfl) rfl
  simp only [Act.put, List.setIfInBounds_toArray, List.set_cons_succ, List.set_cons_zero, Option.getD_some]
  refine wpRel_step (fun wr hb1 hG => ?_) (fun v8 => ?_)
  · obtain rfl := laid_at 0 hG rfl (by decide)
    exact does_run (.pointer (some ⟨b1, o1 + 1, none⟩)) (run_idxS b1 o1 2 c1 1 (by decide) rfl rfl wr) rfl
  simp only [Act.put, List.setIfInBounds_toArray, List.set_cons_succ, List.set_cons_zero, Option.getD_some]
  refine wpRel_step (fun wr hb1 hG => ?_) (fun v9 => ?_)
  · obtain rfl := laid_at 0 hG rfl (by decide)
    exact does_run (.string (bytesOf q)) (run_ldT _ _ wr ((hb1.cell (p := ⟨b1, o1 + 1, none⟩) (World.block_lt_of_cell? _ _ k1)).trans k1) rfl) rfl
  simp only [Act.put, List.setIfInBounds_toArray, List.set_cons_succ, List.set_cons_zero, Option.getD_some]
  refine wpRel_step (fun wr hb1 hG => ?_) (fun v10 => ?_)
  · obtain rfl := laid_at 8 hG rfl (by decide)
    obtain rfl := laid_at 5 hG rfl (by decide)
    obtain rfl := laid_at 3 hG rfl (by decide)
    obtain rfl := laid_at 0 hG rfl (by decide)
    exact does_run (.agg (headA (IntKind.i64.wrap ((n : Nat) : Int)) i3 (IntKind.i64.wrap ((m : Nat) : Int)) q)) (by kernel_rfl) rfl
  simp only [Act.put, List.setIfInBounds_toArray, List.set_cons_succ, List.set_cons_zero, Option.getD_some]
  refine wpRel_nil (fun w5 hb hG => ?_)
  obtain rfl := hG _ (List.mem_of_getElem? (i := 0) rfl)
  clear hG
  replace hR := hR.on hb
  replace hB := below_on hB hb
  clear hb HU HV HN1 HN2 k0 k1 j0 j1 j2 j3
  generalize IntKind.i64.wrap ((n : Nat) : Int) = S at *
  generalize IntKind.i64.wrap ((m : Nat) : Int) = T at *
  go_wp2_with (first
    | ((with_reducible refine wpL_store W.heap.size 23 (head0) (headA S i3 T q) 4 rowHead rfl rfl (headA_one _ _ _ _) hR ?_ ?_ ?_); rfl; rfl))
  exact bodyPost_ret (results_row_tmp Tryz.results31 rowHead rfl (hR.row _) rfl rfl) rfl ⟨_, _, _, _, _, rfl, below_rowSet hB (Nat.le_refl _) _, HX.out⟩
end Go.Proofs.YtdjglghecekeoaaGreatDoor.J

/- The contracts of the reference's Number, Fits and Big. -/
namespace Go.Proofs.YtdjglghecekeoaaGreatDoor
open Go.RowKit
set_option maxRecDepth 100000

theorem refNum_step (a : Nat) (b : UInt8) (ha : a < 256 ^ 7) : IntKind.u64.wrap (IntKind.u64.wrap (256 * (a : Int)) + IntKind.u64.wrap (b.toNat : Int)) = ((256 * a + b.toNat : Nat) : Int) := by
  have hb := u8_lt b
  rw [IntKind.wrap_u64, IntKind.wrap_u64, IntKind.wrap_u64]
  omega

theorem take_lt (s : ByteArray) (k : Nat) (hs : s.size ≤ 8) (hlt : k < s.size) : numL (s.data.toList.take k) < 256 ^ 7 := by
  have h1 := numL_lt (s.data.toList.take k)
  rw [List.length_take] at h1
  have h2 : min k s.data.toList.length ≤ 7 := by omega
  have h3 : 256 ^ min k s.data.toList.length ≤ 256 ^ 7 := Nat.pow_le_pow_right (by decide) h2
  omega

set_option maxHeartbeats 400000 in
theorem refNum_any (s : ByteArray) (w : World) (hs : s.size ≤ 8) :
    Calls Tryz.prog 35 #[.string s] w fun e w' => e = .returned (.int .u64 (numL s.data.toList)) ∧ w = w' := by
  go_enter Tryz.func35, Tryz.ntmps35
  go_wp2
  go_loop [3, 4] (fun n i => ∃ k : Nat, k ≤ s.size ∧ i = .int .i64 k ∧ n = .int .u64 (numL (s.data.toList.take k))) (fun _ i => s.size - (intOf i).toNat)
  case atStart => exact ⟨0, Nat.zero_le _, rfl, rfl⟩
  case round =>
    obtain ⟨k, hk, rfl, rfl⟩ := hrel
    by_cases hlt : k < s.size
    · have HS := Lib.hid ((refNum_step _ s[k] (take_lt s k hs hlt)).trans (by rw [← numL_snoc, ← take_snoc s k hlt]))
      go_wp2
      go_round
      case rel => exact ⟨k + 1, by omega, by go_num, val_int HS.out⟩
      case measure => simp [intOf]; omega
    · have HS := Lib.hid (show numL (s.data.toList.take k) = numL s.data.toList by rw [List.take_of_length_le (by simp; omega)])
      go_wp2
      go_ret
      exact ⟨ret1_of (val_int (by rw [HS.out])), rfl⟩

set_option maxHeartbeats 400000 in
theorem refBig_any (n w : Nat) (W : World) (hn : n < 2 ^ 64) (hw : w ≤ 8) :
    Calls Tryz.prog 39 #[.int .u64 n, .int .i64 w] W fun e W' => e = .returned (.string ⟨(bigL n w).toArray⟩) ∧ Below W.heap.size W W' := by
  go_enter Tryz.func39, Tryz.ntmps39
  go_wp2
  go_loopw [0, 5, 6] (fun x o i wr => ∃ k : Nat, k ≤ w ∧ i = .int .i64 k ∧ x = .int .u64 (left n k) ∧ o = .string ⟨(bigL n k).toArray⟩ ∧ Below W.heap.size W wr) (fun _ _ i _ => w - (intOf i).toNat)
  case atStart => exact ⟨0, Nat.zero_le _, rfl, by rw [left_zero], rfl, Below.refl _ _⟩
  case round =>
    obtain ⟨k, hk, rfl, rfl, rfl, hb⟩ := hrel
    have hl := left_le n k
    by_cases hlt : k < w
    · have HS := Lib.hid (left_succ n k)
      have HB := Lib.hid (bigL_left n k)
      have hcv := str_one wr ((left n k : Int) % 256) (by omega) (by omega)
      have hbl : (bigL n k).length ≤ 8 := by rw [bigL_length]; omega
      go_wp2
      go_roundw
      case rel => exact ⟨k + 1, by omega, by go_num, val_int (by rw [HS.out]; omega), by rw [cat_two, HB.out]; simp, hb.alloc hb.size _⟩
      case measure => simp [intOf]; omega
    · obtain rfl : k = w := by omega
      go_wp2
      go_ret
      exact ⟨rfl, hb⟩
end Go.Proofs.YtdjglghecekeoaaGreatDoor

/- The contract of the reference's Pack. -/
namespace Go.Proofs.YtdjglghecekeoaaGreatDoor
open Go.RowKit

theorem refPack_many (w : World) (v : Value) (l : List (List UInt8)) (hl : Strs w v l) (h : 64 < l.length) :
    Calls Tryz.prog 34 #[v] w fun e w' => e = .returned (.tuple #[.string ByteArray.empty, .int .i64 22]) ∧ Below w.heap.size w w' := by
  obtain ⟨a, c, rfl, hc, hm, hn, hl⟩ := hl
  unfold maxLen at hm
  go_enter Tryz.func34, Tryz.ntmps34
  go_wp2
  go_ret2
  exact ⟨rfl, Below.refl _ _⟩

set_option maxRecDepth 100000 in
set_option maxHeartbeats 1600000 in
theorem refPack_in (w : World) (v : Value) (l : List (List UInt8)) (hl : Strs w v l) (h : l.length ≤ 64) (hx : ∀ x ∈ l, x.length ≤ 1000000) :
    Calls Tryz.prog 34 #[v] w fun e w' => e = .returned (.tuple #[.string (packS l), .int .i64 (packE l)]) ∧ Below w.heap.size w w' := by
  obtain ⟨a, c, rfl, hc, hm, hn, hl⟩ := hl
  unfold maxLen at hm
  go_enter Tryz.func34, Tryz.ntmps34
  go_wp2
  go_loopw [4, 12] (fun o i wr => ∃ k : Nat, k ≤ l.length ∧ i = .int .i64 k ∧ o = .string ⟨(packL (l.take k)).toArray⟩ ∧ (packL (l.take k)).length ≤ 65536 ∧ Below w.heap.size w wr) (fun _ i _ => l.length - (intOf i).toNat)
  case atStart => exact ⟨0, Nat.zero_le _, rfl, rfl, by simp [packL], Below.refl _ _⟩
  case round =>
    obtain ⟨k, hk, rfl, rfl, ho, hb⟩ := hrel
    have hB := hb.size
    by_cases hlt : k < l.length
    · obtain ⟨b, off, rfl, hcell⟩ := hl (by intro h; subst h; simp at hlt)
      obtain ⟨x, hxk⟩ : ∃ x, l[k]? = some x := ⟨l[k], List.getElem?_eq_getElem hlt⟩
      have g1 := hcell k x hxk
      have hc1 : wr.cell? ⟨b, off + k, none⟩ = some (.string ⟨x.toArray⟩) := (hb.cell (p := ⟨b, off + k, none⟩) (World.block_lt_of_cell? w _ g1)).trans g1
      have hxl := hx x (List.mem_of_getElem? hxk)
      have HT := Lib.hid (take_frames hxk)
      have HL := Lib.hid (show (packL (l.take (k + 1))).length = (packL (l.take k)).length + 4 + x.length by rw [HT.out, List.length_append, List.length_append, bigL_length])
      have hm1 := take_packed l (k + 1)
      clear hxk hcell g1 hl hx
      by_cases hlong : 65536 < (packL (l.take k)).length + 4 + x.length
      · have h2 : packE l = 2 := packE_long h (by
          cases hf : fitR 65536 l
          · rfl
          · have h3 := (fitR_iff l 65536 (by omega)).1 hf
            have h4 := HL.out
            omega)
        have HS := Lib.hid (packS_no (l := l) (by rw [h2]; decide))
        have HE := Lib.hid h2
        clear h2 hm1
        by_cases hx1 : 65536 < x.length
        all_goals
          go_wp2
          go_ret2
          exact ⟨ret2_of (by rw [HS.out]; rfl) (by rw [HE.out]; rfl), hb⟩
      · have hx1 : ¬ 65536 < x.length := by omega
        have hbl : (bigL x.length 4).length ≤ 4 := by rw [bigL_length]; omega
        clear hm1
        go_wp2_with (go_at_call 39; refine (refBig_any _ _ _ (by omega) (by decide)).mono ?_; rintro e w1 ⟨rfl, hb1⟩; replace hb := below_on hb hb1; clear hb1)
        go_roundw
        case rel => exact ⟨k + 1, by omega, by go_num, by rw [cat_two, cat_two, HT.out]; simp, by have := HL.out; omega, hb⟩
        case measure => simp [intOf]; omega
    · have HT := Lib.hid (show l.take k = l from List.take_of_length_le (by omega))
      rw [HT.out] at ho
      have h0 := packE_ok h ho
      have HS := Lib.hid (packS_ok h0)
      have HE := Lib.hid h0
      clear h0 ho
      go_wp2
      go_ret2
      exact ⟨ret2_of (by rw [HS.out, HT.out]; rfl) (by rw [HE.out]; rfl), hb⟩

/-- the reference's Pack: the text, or an error -/
theorem refPack_any (w : World) (v : Value) (l : List (List UInt8)) (hl : Strs w v l) (hx : ∀ x ∈ l, x.length ≤ 1000000) :
    Calls Tryz.prog 34 #[v] w fun e w' => e = .returned (.tuple #[.string (packS l), .int .i64 (packE l)]) ∧ Below w.heap.size w w' := by
  by_cases h : 64 < l.length
  · rw [packS_no (by rw [packE_many h]; decide), packE_many h]
    exact refPack_many w v l hl h
  · exact refPack_in w v l hl (by omega) hx
end Go.Proofs.YtdjglghecekeoaaGreatDoor

/- The contracts of the reference's calls that put together what is signed of a head, and its text. -/
namespace Go.Proofs.YtdjglghecekeoaaGreatDoor.J
open Go.RowKit Go.Sort Go.Proofs.YtdjglghecekeoaaGreatDoor.U Go.Proofs.YtdjglghecekeoaaGreatDoor.R Go.Proofs.YtdjglghecekeoaaGreatDoor.Q
set_option maxRecDepth 100000

theorem refBigW_any (n : Nat) (w : World) (hn : n ≤ 1099511627776) :
    Calls Tryz.prog 39 #[.int .u64 (IntKind.u64.wrap ((n : Nat) : Int)), .int .i64 8] w fun e w' => e = .returned (.string (bytesOf (bigL n 8))) ∧ Below w.heap.size w w' := by
  rw [wrap_big n hn]
  exact refBig_any n 8 w (by omega) (by decide)
theorem run_convU {a : Act} {d : Option Tmp} {x : Operand} {t' : TypeId} {pos : String} {after : Array Edge} {gd : Option (Nat × Bool)} (n : Int) (hx : a.eval x = .int .i64 n) (w : World) :
    (execOp a.eval ⟨d, .convert 3 54 x, t', pos, after, gd⟩).run Tryz.prog w = .ok (.value (.int .u64 (IntKind.u64.wrap n))) w := by
  unfold execOp
  simp only [hx]
  simp [convert, go_sem]

set_option maxHeartbeats 1600000 in
theorem refSigned_any (s : Int) (r : List UInt8) (t : Int) (g : List UInt8) (w : World) (h : mayH s r t = true) :
    Calls Tryz.prog 19 #[.agg (headA s r t g)] w fun e w' => e = .returned (.string (bytesOf (signedT s r t))) ∧ Below w.heap.size w w' := by
  obtain ⟨h1, h2, h3, h4, h5⟩ := mayH_of h
  obtain ⟨n, rfl⟩ : ∃ n : Nat, s = (n : Int) := ⟨s.toNat, (Int.toNat_of_nonneg h1).symm⟩
  obtain ⟨m, rfl⟩ : ∃ m : Nat, t = (m : Int) := ⟨t.toNat, (Int.toNat_of_nonneg h3).symm⟩
  have hB := (Below.refl w.heap.size w).alloc (Nat.le_refl _) (.cells (headA (n : Int) r (m : Int) g) 23)
  have hl : Lies (w.alloc (.cells (headA (n : Int) r (m : Int) g) 23)) w.heap.size 23 (headA (n : Int) r (m : Int) g) := Lies.new w _ _
  have HN1 := Lib.hid (fun w => refBigW_any n w (by omega))
  have HN2 := Lib.hid (fun w => refBigW_any m w (by omega))
  have HP := Lib.hid (fun w v (hs : Strs w v (partsS (n : Int) r (m : Int))) => refPack_any w v (partsS (n : Int) r (m : Int)) hs (parts_short (by omega)))
  rw [signed_packS (by omega), parts_pack (by omega)] at HP
  clear h h1 h2 h3 h4 h5
  unfold headA at hB hl ⊢
  go_enter Tryz.func19, Tryz.ntmps19
  go_upto_region 1 with fail
  generalize World.alloc w _ = w0 at *
  refine wp_region_rel_late 14 15 15 _ [sayFix (.pointer (some ⟨w.heap.size, 0, none⟩)), sayFix (.int .i64 ((n : Nat) : Int)), sayFix (.int .u64 (IntKind.u64.wrap ((n : Nat) : Int))), sayFix (.string (bytesOf (bigL n 8))), sayFix (.pointer (some ⟨w.heap.size, 2, none⟩)), sayFix (.int .i64 ((m : Nat) : Int)), sayFix (.int .u64 (IntKind.u64.wrap ((m : Nat) : Int))), sayFix (.string (bytesOf (bigL m 8))), sayFix (.pointer (some ⟨w.heap.size, 1, none⟩)), sayFix (.string (bytesOf r)), sayStrs (partsS (n : Int) r (m : Int)), sayFix (.tuple #[.string (bytesOf (signedT (n : Int) r (m : Int))), .int .i64 0]), sayFix (.tuple #[.string (bytesOf (signedT (n : Int) r (m : Int))), .int .i64 0]), sayFix (.string (bytesOf (signedT (n : Int) r (m : Int)))), sayFix (.int .i64 0)] rfl rfl (by kernel_rfl) (by kernel_rfl) (by kernel_rfl) (fun r hr => by
    simp only [List.mem_cons, List.not_mem_nil, or_false] at hr
    rcases hr with rfl | rfl | rfl | rfl | rfl | rfl | rfl | rfl | rfl | rfl | rfl | rfl | rfl | rfl | rfl <;> first | exact sayFix_mono _ | exact sayStrs_mono _) ?_
  simp only [addEdge, List.take_succ_cons, List.take_zero, List.drop_succ_cons, List.drop_zero, List.zip_cons_cons, List.zip_nil_right]
  refine wpRel_step (fun wr hb1 hG => ?_) (fun v0 => ?_)
  · exact does_run (.pointer (some ⟨w.heap.size, 0, none⟩)) (run_fld0 w.heap.size rfl wr) rfl
  simp only [Act.put, List.setIfInBounds_toArray, List.set_cons_succ, List.set_cons_zero, Option.getD_some]
  refine wpRel_step (fun wr hb1 hG => ?_) (fun v1 => ?_)
  · obtain rfl := laid_at 0 hG rfl (by decide)
    exact does_run (.int .i64 ((n : Nat) : Int)) (run_ldI ⟨w.heap.size, 0, none⟩ _ wr (hd_s (hl.on hb1)) rfl) rfl
  simp only [Act.put, List.setIfInBounds_toArray, List.set_cons_succ, List.set_cons_zero, Option.getD_some]
  refine wpRel_step (fun wr hb1 hG => ?_) (fun v2 => ?_)
  · obtain rfl := laid_at 0 hG rfl (by decide)
    exact does_run (.int .u64 (IntKind.u64.wrap ((n : Nat) : Int))) (run_convU _ rfl wr) rfl
  simp only [Act.put, List.setIfInBounds_toArray, List.set_cons_succ, List.set_cons_zero, Option.getD_some]
  refine wpRel_step (fun wr hb1 hG => ?_) (fun v3 => ?_)
  · obtain rfl := laid_at 0 hG rfl (by decide)
    refine does_call 39 #[(.int .u64 (IntKind.u64.wrap ((n : Nat) : Int))), .int .i64 8] (by kernel_rfl) ((HN1.out wr).mono ?_)
    rintro e w' ⟨rfl, h6⟩
    exact ⟨_, rfl, h6, rfl⟩
  simp only [Act.put, List.setIfInBounds_toArray, List.set_cons_succ, List.set_cons_zero, Option.getD_some]
  refine wpRel_step (fun wr hb1 hG => ?_) (fun v4 => ?_)
  · exact does_run (.pointer (some ⟨w.heap.size, 2, none⟩)) (run_fld2 w.heap.size rfl wr) rfl
  simp only [Act.put, List.setIfInBounds_toArray, List.set_cons_succ, List.set_cons_zero, Option.getD_some]
  refine wpRel_step (fun wr hb1 hG => ?_) (fun v5 => ?_)
  · obtain rfl := laid_at 0 hG rfl (by decide)
    exact does_run (.int .i64 ((m : Nat) : Int)) (run_ldI ⟨w.heap.size, 2, none⟩ _ wr (hd_t (hl.on hb1)) rfl) rfl
  simp only [Act.put, List.setIfInBounds_toArray, List.set_cons_succ, List.set_cons_zero, Option.getD_some]
  refine wpRel_step (fun wr hb1 hG => ?_) (fun v6 => ?_)
  · obtain rfl := laid_at 0 hG rfl (by decide)
    exact does_run (.int .u64 (IntKind.u64.wrap ((m : Nat) : Int))) (run_convU _ rfl wr) rfl
  simp only [Act.put, List.setIfInBounds_toArray, List.set_cons_succ, List.set_cons_zero, Option.getD_some]
  refine wpRel_step (fun wr hb1 hG => ?_) (fun v7 => ?_)
  · obtain rfl := laid_at 0 hG rfl (by decide)
    refine does_call 39 #[(.int .u64 (IntKind.u64.wrap ((m : Nat) : Int))), .int .i64 8] (by kernel_rfl) ((HN2.out wr).mono ?_)
    rintro e w' ⟨rfl, h6⟩
    exact ⟨_, rfl, h6, rfl⟩
  simp only [Act.put, List.setIfInBounds_toArray, List.set_cons_succ, List.set_cons_zero, Option.getD_some]
  refine wpRel_step (fun wr hb1 hG => ?_) (fun v8 => ?_)
  · exact does_run (.pointer (some ⟨w.heap.size, 1, none⟩)) (run_fld1 w.heap.size rfl wr) rfl
  simp only [Act.put, List.setIfInBounds_toArray, List.set_cons_succ, List.set_cons_zero, Option.getD_some]
  refine wpRel_step (fun wr hb1 hG => ?_) (fun v9 => ?_)
  · obtain rfl := laid_at 0 hG rfl (by decide)
    exact does_run (.string (bytesOf r)) (run_ldT ⟨w.heap.size, 1, none⟩ _ wr (hd_r (hl.on hb1)) rfl) rfl
  simp only [Act.put, List.setIfInBounds_toArray, List.set_cons_succ, List.set_cons_zero, Option.getD_some]
  refine wpRel_step (fun wr hb1 hG => ?_) (fun v10 => ?_)
  · obtain rfl := laid_at 6 hG rfl (by decide)
    obtain rfl := laid_at 2 hG rfl (by decide)
    obtain rfl := laid_at 0 hG rfl (by decide)
    exact does_made (.slice (some ⟨wr.heap.size, 0, none⟩) 4 4) (w' := wr.alloc (.cells #[.string (bytesOf markL), .string (bytesOf (bigL n 8)), .string (bytesOf (bigL m 8)), .string (bytesOf r)] 9)) (by kernel_rfl) ((Below.refl wr.heap.size wr).alloc (Nat.le_refl _) _) (strs_new wr [markL, bigL n 8, bigL m 8, r] (show 4 ≤ 1000 by decide))
  simp only [Act.put, List.setIfInBounds_toArray, List.set_cons_succ, List.set_cons_zero, Option.getD_some]
  refine wpRel_step (fun wr hb1 hG => ?_) (fun v11 => ?_)
  · obtain hs := laid_at 0 hG rfl (by decide)
    refine does_call 34 #[v10] (by kernel_rfl) ((HP.out wr _ hs).mono ?_)
    rintro e w' ⟨rfl, h6⟩
    exact ⟨_, rfl, h6, rfl⟩
  simp only [Act.put, List.setIfInBounds_toArray, List.set_cons_succ, List.set_cons_zero, Option.getD_some]
  refine wpRel_step (fun wr hb1 hG => ?_) (fun v12 => ?_)
  · obtain rfl := laid_at 0 hG rfl (by decide)
    exact does_run (.tuple #[.string (bytesOf (signedT (n : Int) r (m : Int))), .int .i64 0]) rfl rfl
  simp only [Act.put, List.setIfInBounds_toArray, List.set_cons_succ, List.set_cons_zero, Option.getD_some]
  refine wpRel_step (fun wr hb1 hG => ?_) (fun v13 => ?_)
  · obtain rfl := laid_at 0 hG rfl (by decide)
    exact does_run (.string (bytesOf (signedT (n : Int) r (m : Int)))) (by kernel_rfl) rfl
  simp only [Act.put, List.setIfInBounds_toArray, List.set_cons_succ, List.set_cons_zero, Option.getD_some]
  refine wpRel_step (fun wr hb1 hG => ?_) (fun v14 => ?_)
  · obtain rfl := laid_at 1 hG rfl (by decide)
    exact does_run (.int .i64 0) (by kernel_rfl) rfl
  simp only [Act.put, List.setIfInBounds_toArray, List.set_cons_succ, List.set_cons_zero, Option.getD_some]
  refine wpRel_nil (fun w5 hb hG => ?_)
  obtain rfl := hG _ (List.mem_of_getElem? (i := 0) rfl)
  obtain rfl := hG _ (List.mem_of_getElem? (i := 1) rfl)
  clear hG
  replace hB := below_on hB hb
  clear hb hl HN1 HN2 HP
  go_wp2_with fail
  go_ret
  exact ⟨rfl, hB⟩

set_option maxHeartbeats 1600000 in
theorem refText_any (s : Int) (r : List UInt8) (t : Int) (g : List UInt8) (w : World) (h : rightH s r t g = true) :
    Calls Tryz.prog 15 #[.agg (headA s r t g)] w fun e w' => e = .returned (.string (bytesOf (textT s r t g))) ∧ Below w.heap.size w w' := by
  obtain ⟨h1, h2⟩ := rightH_of h
  have h5 := (mayH_of h1).2.2.2.2
  have hB := (Below.refl w.heap.size w).alloc (Nat.le_refl _) (.cells (headA s r t g) 23)
  have hl : Lies (w.alloc (.cells (headA s r t g) 23)) w.heap.size 23 (headA s r t g) := Lies.new w _ _
  have HS := Lib.hid (fun w => refSigned_any s r t g w h1)
  have HP := Lib.hid (fun w v (hs : Strs w v [signedT s r t, g]) => refPack_any w v [signedT s r t, g] hs (text_short (by omega) (by omega)))
  rw [text_packS (by omega) (by omega), text_pack (by omega) (by omega)] at HP
  clear h h1 h2 h5
  have hl0 := hl
  unfold headA at hB hl0 ⊢
  clear hl0
  go_enter Tryz.func15, Tryz.ntmps15
  go_upto_region 1 with fail
  have hl2 : Lies (World.alloc w (.cells #[.int .i64 s, .string (bytesOf r), .int .i64 t, .string (bytesOf g)] 23)) w.heap.size 23 (headA s r t g) := hl
  clear hl
  generalize World.alloc w _ = w0 at *
  have hl := hl2
  clear hl2
  refine wp_region_rel_late 8 9 9 _ [sayFix (.agg (headA s r t g)), sayFix (.string (bytesOf (signedT s r t))), sayFix (.pointer (some ⟨w.heap.size, 3, none⟩)), sayFix (.string (bytesOf g)), sayStrs [signedT s r t, g], sayFix (.tuple #[.string (bytesOf (textT s r t g)), .int .i64 0]), sayFix (.tuple #[.string (bytesOf (textT s r t g)), .int .i64 0]), sayFix (.string (bytesOf (textT s r t g))), sayFix (.int .i64 0)] rfl rfl (by kernel_rfl) (by kernel_rfl) (by kernel_rfl) (fun r hr => by
    simp only [List.mem_cons, List.not_mem_nil, or_false] at hr
    rcases hr with rfl | rfl | rfl | rfl | rfl | rfl | rfl | rfl | rfl <;> first | exact sayFix_mono _ | exact sayStrs_mono _) ?_
  simp only [addEdge, List.take_succ_cons, List.take_zero, List.drop_succ_cons, List.drop_zero, List.zip_cons_cons, List.zip_nil_right]
  refine wpRel_step (fun wr hb1 hG => ?_) (fun v0 => ?_)
  · exact does_run (.agg (headA s r t g)) (run_ldH w.heap.size _ s t r g (hl.on hb1) rfl) rfl
  simp only [Act.put, List.setIfInBounds_toArray, List.set_cons_succ, List.set_cons_zero, Option.getD_some]
  refine wpRel_step (fun wr hb1 hG => ?_) (fun v1 => ?_)
  · obtain rfl := laid_at 0 hG rfl (by decide)
    refine does_call 19 #[.agg (headA s r t g)] (by kernel_rfl) ((HS.out wr).mono ?_)
    rintro e w' ⟨rfl, h6⟩
    exact ⟨_, rfl, h6, rfl⟩
  simp only [Act.put, List.setIfInBounds_toArray, List.set_cons_succ, List.set_cons_zero, Option.getD_some]
  refine wpRel_step (fun wr hb1 hG => ?_) (fun v2 => ?_)
  · exact does_run (.pointer (some ⟨w.heap.size, 3, none⟩)) (run_fld3 w.heap.size rfl wr) rfl
  simp only [Act.put, List.setIfInBounds_toArray, List.set_cons_succ, List.set_cons_zero, Option.getD_some]
  refine wpRel_step (fun wr hb1 hG => ?_) (fun v3 => ?_)
  · obtain rfl := laid_at 0 hG rfl (by decide)
    exact does_run (.string (bytesOf g)) (run_ldT ⟨w.heap.size, 3, none⟩ _ wr (hd_g (hl.on hb1)) rfl) rfl
  simp only [Act.put, List.setIfInBounds_toArray, List.set_cons_succ, List.set_cons_zero, Option.getD_some]
  refine wpRel_step (fun wr hb1 hG => ?_) (fun v4 => ?_)
  · obtain rfl := laid_at 2 hG rfl (by decide)
    obtain rfl := laid_at 0 hG rfl (by decide)
    exact does_made (.slice (some ⟨wr.heap.size, 0, none⟩) 2 2) (w' := wr.alloc (.cells #[.string (bytesOf (signedT s r t)), .string (bytesOf g)] 9)) (by kernel_rfl) ((Below.refl wr.heap.size wr).alloc (Nat.le_refl _) _) (strs_new wr [signedT s r t, g] (show 2 ≤ 1000 by decide))
  simp only [Act.put, List.setIfInBounds_toArray, List.set_cons_succ, List.set_cons_zero, Option.getD_some]
  refine wpRel_step (fun wr hb1 hG => ?_) (fun v5 => ?_)
  · obtain hs := laid_at 0 hG rfl (by decide)
    refine does_call 34 #[v4] (by kernel_rfl) ((HP.out wr _ hs).mono ?_)
    rintro e w' ⟨rfl, h6⟩
    exact ⟨_, rfl, h6, rfl⟩
  simp only [Act.put, List.setIfInBounds_toArray, List.set_cons_succ, List.set_cons_zero, Option.getD_some]
  refine wpRel_step (fun wr hb1 hG => ?_) (fun v6 => ?_)
  · obtain rfl := laid_at 0 hG rfl (by decide)
    exact does_run (.tuple #[.string (bytesOf (textT s r t g)), .int .i64 0]) rfl rfl
  simp only [Act.put, List.setIfInBounds_toArray, List.set_cons_succ, List.set_cons_zero, Option.getD_some]
  refine wpRel_step (fun wr hb1 hG => ?_) (fun v7 => ?_)
  · obtain rfl := laid_at 0 hG rfl (by decide)
    exact does_run (.string (bytesOf (textT s r t g))) (by kernel_rfl) rfl
  simp only [Act.put, List.setIfInBounds_toArray, List.set_cons_succ, List.set_cons_zero, Option.getD_some]
  refine wpRel_step (fun wr hb1 hG => ?_) (fun v8 => ?_)
  · obtain rfl := laid_at 1 hG rfl (by decide)
    exact does_run (.int .i64 0) (by kernel_rfl) rfl
  simp only [Act.put, List.setIfInBounds_toArray, List.set_cons_succ, List.set_cons_zero, Option.getD_some]
  refine wpRel_nil (fun w5 hb hG => ?_)
  obtain rfl := hG _ (List.mem_of_getElem? (i := 0) rfl)
  obtain rfl := hG _ (List.mem_of_getElem? (i := 1) rfl)
  clear hG
  replace hB := below_on hB hb
  clear hb hl HS HP
  go_wp2_with fail
  go_ret
  exact ⟨rfl, hB⟩
end Go.Proofs.YtdjglghecekeoaaGreatDoor.J

