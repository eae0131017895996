/- The contracts of the program's left, Least and Add: what a number of any number of words leaves, divided by L. -/
import Derived.Test.YtknpgijapbkebaaDoorGNext
import Derived.Test.YtknpgijapbkebaaDoorGNum
namespace Go.Proofs.YtknpgijapbkebaaDoor.F
set_option maxRecDepth 100000
open Go.RowKit Go.Sort
attribute [local irreducible] feA

/-- words lie there -/
def Wrd (w : World) (g o : Nat) (l : List Nat) : Prop := ∀ i, i < l.length → w.cell? ⟨g, o + i, none⟩ = some (w64 (l.getD i 0))
theorem Wrd.on {w w' : World} {g o : Nat} {l : List Nat} (h : Wrd w g o l) (hb : Below w.heap.size w w') : Wrd w' g o l := fun i hi => by
  have h1 := h i hi
  exact (hb.cell (p := ⟨g, o + i, none⟩) (World.block_lt_of_cell? w _ h1)).trans h1
theorem lies_wrd {w : World} {g t : Nat} {l : List Nat} (h : Lies w g t (l.map w64).toArray) : Wrd w g 0 l := fun i hi => by
  rw [Nat.zero_add, h.cell i]
  exact listA_at l i hi
/-- one word more -/
theorem long_step (l : List Nat) (j : Nat) (h : j < l.length) : (valK (l.drop (j + 1)) % l25 * 18446744073709551616 + l.getD j 0) % l25 = valK (l.drop j) % l25 := by
  rw [List.drop_eq_getElem_cons h, valK, List.getD_eq_getElem?_getD, List.getElem?_eq_getElem h, Option.getD_some, Nat.add_mod, Nat.mod_mul_mod, ← Nat.add_mod, Nat.mul_comm, Nat.add_comm]

set_option maxRecDepth 100000 in
set_option maxHeartbeats 1600000 in
theorem long_any (l : List Nat) (g o cap : Nat) (W : World) (hl : l.length ≤ 100) (hw : Wd l) (hd : Wrd W g o l) (hT : Tab W) :
    Calls Tryd.prog 21 #[.slice (some ⟨g, o, none⟩) l.length cap] W fun e w' => e = .returned (fe (valK l % l25)) ∧ Below W.heap.size W w' := by
  have hT0 := Lib.hid hT
  have HD := Lib.hid hd
  clear hT hd
  obtain ⟨n, hn⟩ : ∃ n, l.length = n := ⟨_, rfl⟩
  rw [hn] at hl ⊢
  have HN := Lib.hid hn
  clear hn
  go_enter Tryd.func21, Tryd.ntmps21
  have hr := Lies.new W 24 fe0A
  have hB := (Below.refl W.heap.size W).alloc (Nat.le_refl _) (.cells fe0A 24)
  go_upto_region 1 with fail
  generalize World.alloc W _ = w0 at *
  have hz : Lies (w0.alloc (.cells fe0A 24)) w0.heap.size 24 (feA 0) := by
    rw [show feA 0 = fe0A by unfold feA; rfl]
    exact Lies.new w0 _ _
  have hlt := hr.lt
  replace hr := hr.alloc (.cells fe0A 24)
  have hsz := hB.size
  replace hB := hB.alloc hsz (.cells fe0A 24)
  go_upto_region 2 with fail
  generalize World.alloc w0 _ = w1 at *
  generalize w0.heap.size = gz at *
  go_wp2_with fail
  go_loopw [7] (fun ix wr => ∃ (i X : Nat), i ≤ n ∧ ix = .int .i64 i ∧ X < l25 ∧ Hid (X = valK (l.drop (n - i)) % l25) ∧ Lies wr gz 24 (feA X) ∧ Lies wr W.heap.size 24 fe0A ∧ Below W.heap.size W wr) (fun ix _ => n - (intOf ix).toNat)
  case atStart => exact ⟨0, 0, by omega, rfl, l25_pos, Lib.hid (by rw [Nat.sub_zero, List.drop_of_length_le (by rw [HN.out]; exact Nat.le_refl _)]; rfl), hz, hr, hB⟩
  case round =>
    clear hz hr hB
    obtain ⟨i, X, hi, rfl, hX, HV, hz, hr, hB⟩ := hrel
    by_cases hlt : i < n
    · obtain ⟨j, hj⟩ : ∃ j, n - (i + 1) = j := ⟨_, rfl⟩
      have hjl : j < l.length := by rw [HN.out]; omega
      have hc := cell_regrown ((HD.out.on hB) j hjl)
      have bx := hw.at j
      have HS := Lib.hid (long_step l j hjl)
      rw [show j + 1 = n - i by omega, ← HV.out] at HS
      have hX2 : valK (l.drop j) % l25 < l25 := Nat.mod_lt _ l25_pos
      generalize l.getD j 0 = x at *
      have hT := hT0.out.on hB
      have HM := next_any X x
      obtain ⟨X2, hX2'⟩ : ∃ X2, valK (l.drop j) % l25 = X2 := ⟨_, rfl⟩
      rw [hX2'] at HS hX2
      have HX2 := Lib.hid hX2'
      clear hX2'
      have cM := reg (W := wr) (fun w hb => HS.out ▸ next_any X x w hX bx (hT.on hb))
      obtain ⟨x0, x1, x2, x3, hx4⟩ := fe_four X
      have e1 : fe X = .agg #[w64 x0, w64 x1, w64 x2, w64 x3] := by rw [fe, hx4]
      rw [e1] at cM
      have hz4 := hz
      rw [hx4] at hz4
      obtain ⟨s0, s1, s2, s3⟩ := hz4.four
      have k0 := cell_regrown s0
      have k1 := cell_regrown s1
      have k2 := cell_regrown s2
      have k3 := cell_regrown s3
      have hji : (n : Int) - 1 - (i : Int) = (j : Int) := by omega
      have hjn : (j : Int) < (n : Int) := by rw [HN.out] at hjl; omega
      clear s0 s1 s2 s3 hz4 e1 hx4 hjl HM
      go_upto_region 5 with fail
      refine wp_region_below_tail 10 (by kernel_rfl) (by kernel_rfl) ?_
      simp only [List.take_succ_cons, List.take_zero, List.drop_succ_cons, List.drop_zero]
      repeat (go_big_quiet_step (with_reducible exact cM _ _))
      refine wpQuiet_nil ?_
      intro w3 hw3
      have hb : Below wr.heap.size wr w3 := by obtain ⟨⟨dq, osq⟩, rfl⟩ := hw3; exact below_regrown wr dq osq
      clear hw3 hc cM k0 k1 k2 k3
      replace hz := hz.on hb
      replace hr := hr.on hb
      replace hB := below_on hB hb
      clear hb
      go_wp2_with ((with_reducible refine wpL_store gz 24 _ (feA X2) 4 rowFe (feA_size _) (feA_size _) (feA_one _) hz ?_ ?_ ?_); rfl; rfl)
      go_roundw
      case rel => exact ⟨i + 1, X2, by omega, by go_num, hX2, Lib.hid (by rw [hj]; exact HX2.out.symm), hz.row _, hr.rowFar (by omega) _, below_rowSet hB (by omega) _⟩
      case measure => simp [intOf]; omega
    · obtain rfl : i = n := by omega
      have HE : Hid (valK l % l25 = X) := Lib.hid (by rw [HV.out, Nat.sub_self, List.drop_zero])
      clear HV
      go_wp2_with (first
        | ((with_reducible refine wpL_load gz 24 (feA X) 4 rowFe (feA_size _) hz ?_ ?_); rfl)
        | ((with_reducible refine wpL_store W.heap.size 24 _ (feA X) 4 rowFe rfl (feA_size _) (feA_one _) hr ?_ ?_ ?_); rfl; rfl))
      exact bodyPost_ret (results_row Tryd.results21 rowFe (feA_size _) (hr.row _) rfl) rfl ⟨by rw [HE.out], below_rowSet hB (by omega) _⟩

set_option maxRecDepth 100000 in
set_option maxHeartbeats 800000 in
theorem sLeast_any (n : Nat) (W : World) (hn : n < K256) (hT : Tab W) :
    Calls Tryd.prog 9 #[fe n] W fun e w' => e = .returned (fe (n % l25)) ∧ Below W.heap.size W w' := by
  have HL := Lib.hid (fun (w : World) g (hd : Wrd w g 0 (wordsL n)) (hT : Tab w) => long_any (wordsL n) g 0 4 w (show 4 ≤ 100 by decide) (wordsL_wd n) hd hT)
  rw [wordsL_val hn, show (wordsL n).length = 4 from rfl] at HL
  have hA := Lib.hid (feA_wordsL n)
  generalize wordsL n = l at *
  generalize n % l25 = V at *
  go_enter Tryd.func9, Tryd.ntmps9
  have hz := (Lies.new W 24 (feA n)).alloc (.cells fe0A 24)
  have hr : Lies ((W.alloc (.cells (feA n) 24)).alloc (.cells fe0A 24)) (W.heap.size + 1) 24 fe0A := heap_alloc2_new W _ _
  have hB := ((Below.refl W.heap.size W).alloc (Nat.le_refl _) (.cells (feA n) 24)).alloc (by simp) (.cells fe0A 24)
  go_upto_region 1 with fail
  generalize World.alloc (World.alloc W _) _ = w0 at *
  replace hT := hT.on hB
  rw [hA.out] at hz
  have hd := lies_wrd hz
  clear hA
  go_wp2_with (first
    | (go_at_call 21; refine (HL.out _ _ hd hT).mono ?_; rintro e w1 ⟨rfl, hb⟩; replace hr := hr.on hb; replace hB := below_on hB hb; clear hb)
    | ((with_reducible refine wpL_store (W.heap.size + 1) 24 _ (feA V) 4 rowFe rfl (feA_size _) (feA_one _) hr ?_ ?_ ?_); rfl; rfl))
  exact bodyPost_ret (results_row Tryd.results9 rowFe (feA_size _) (hr.row _) rfl) rfl ⟨rfl, below_rowSet hB (by omega) _⟩

set_option maxRecDepth 100000 in
set_option maxHeartbeats 1600000 in
theorem sAdd_any (m n : Nat) (W : World) (hm : m < K256) (hn : n < K256) (hT : Tab W) :
    Calls Tryd.prog 11 #[fe m, fe n] W fun e w' => e = .returned (fe ((m + n) % l25)) ∧ Below W.heap.size W w' := by
  have hT0 := Lib.hid hT
  have HP := Lib.hid (fun w => plus_words m n w hm hn)
  obtain ⟨s, hs⟩ : ∃ s, (m + n) % K256 = s := ⟨_, rfl⟩
  obtain ⟨c, hc⟩ : ∃ c, (m + n) / K256 = c := ⟨_, rfl⟩
  have hsK : s < K256 := by rw [← hs]; exact Nat.mod_lt _ (by decide)
  have hcK : c < 18446744073709551616 := by
    rw [← hc]
    unfold K256 at *
    omega
  have hwd : Wd (wordsL s ++ [c]) := (wordsL_wd s).snoc hcK
  have hval : valK (wordsL s ++ [c]) = m + n := by
    rw [valK_snoc, wordsL_val hsK, show (wordsL s).length = 4 from rfl, show (18446744073709551616 : Nat) ^ 4 = K256 by decide, ← hs, ← hc]
    exact Nat.mod_add_div _ _
  have HL := Lib.hid (fun (w : World) g (hd : Wrd w g 0 (wordsL s ++ [c])) (hT : Tab w) => long_any (wordsL s ++ [c]) g 0 5 w (show 5 ≤ 100 by decide) hwd hd hT)
  rw [hval, show (wordsL s ++ [c]).length = 5 from rfl] at HL
  rw [hs, hc] at HP
  generalize (m + n) % l25 = V at *
  have hA : Hid (feA s = #[w64 (wordN s 0), w64 (wordN s 1), w64 (wordN s 2), w64 (wordN s 3)]) := Lib.hid (feA_words s)
  have hwl : wordsL s ++ [c] = [wordN s 0, wordN s 1, wordN s 2, wordN s 3, c] := rfl
  rw [hwl] at HL
  clear hwl hval hwd hsK hs hc hm hn hT
  generalize wordN s 0 = s0 at *
  generalize wordN s 1 = s1 at *
  generalize wordN s 2 = s2 at *
  generalize wordN s 3 = s3 at *
  go_enter Tryd.func11, Tryd.ntmps11
  have hx := ((Lies.new W 24 (feA m)).alloc (.cells (feA n) 24)).alloc (.cells fe0A 24)
  have hy : Lies ((W.alloc (.cells (feA m) 24)).alloc (.cells (feA n) 24)) (W.heap.size + 1) 24 (feA n) := heap_alloc2_new W _ _
  replace hy := hy.alloc (.cells fe0A 24)
  have hr := lies3 W (.cells (feA m) 24) (.cells (feA n) 24) 24 fe0A
  have hB := (((Below.refl W.heap.size W).alloc (Nat.le_refl _) (.cells (feA m) 24)).alloc (by simp) (.cells (feA n) 24)).alloc (by simp; omega) (.cells fe0A 24)
  go_upto_region 1 with fail
  generalize World.alloc (World.alloc (World.alloc W _) _) _ = w0 at *
  go_upto_region 2 with (first
    | ((with_reducible refine wpL_load W.heap.size 24 (feA m) 4 rowFe (feA_size _) hx ?_ ?_); rfl)
    | ((with_reducible refine wpL_load (W.heap.size + 1) 24 (feA n) 4 rowFe (feA_size _) hy ?_ ?_); rfl)
    | (go_at_call 24; refine (HP.out _).mono ?_; rintro e w1 ⟨rfl, hb⟩; replace hr := hr.on hb; replace hB := below_on hB hb; clear hb)
    | ((with_reducible refine wpL_store w1.heap.size 24 _ (feA s) 4 rowFe ?_ (feA_size _) (feA_one _) (Lies.new w1 _ _) ?_ ?_ ?_); rfl; rfl; rfl))
  have hz := newly_lies w1 24 fe0A (feA s)
  have hnw := newly w1 (.cells fe0A 24) (feA s)
  replace hr := hr.on hnw
  replace hB := below_on hB hnw
  clear hnw
  generalize World.setRow _ _ _ = w2 at *
  generalize w1.heap.size = gz at *
  rw [hA.out] at hz
  obtain ⟨c0, c1, c2, c3⟩ := hz.four
  clear HP hx hy hz hA
  have hbn := (Below.refl w2.heap.size w2).alloc (Nat.le_refl _) (.cells #[w64 s0, w64 s1, w64 s2, w64 s3, w64 c] 22)
  have hT := (hT0.out.on hB).on hbn
  have hd : Wrd (w2.alloc (.cells #[w64 s0, w64 s1, w64 s2, w64 s3, w64 c] 22)) w2.heap.size 0 [s0, s1, s2, s3, c] := lies_wrd (Lies.new w2 22 #[w64 s0, w64 s1, w64 s2, w64 s3, w64 c])
  have hr' := hr.on hbn
  have hB' := below_on hB hbn
  clear hr hB hbn
  go_wp2_with (first
    | (go_at_call 21; refine (HL.out _ _ hd hT).mono ?_; rintro e w5 ⟨rfl, hb⟩; replace hr' := hr'.on hb; replace hB' := below_on hB' hb; clear hb)
    | ((with_reducible refine wpL_store (W.heap.size + 1 + 1) 24 _ (feA V) 4 rowFe rfl (feA_size _) (feA_one _) hr' ?_ ?_ ?_); rfl; rfl))
  exact bodyPost_ret (results_row Tryd.results11 rowFe (feA_size _) (hr'.row _) rfl) rfl ⟨rfl, below_rowSet hB' (by omega) _⟩
end Go.Proofs.YtknpgijapbkebaaDoor.F
