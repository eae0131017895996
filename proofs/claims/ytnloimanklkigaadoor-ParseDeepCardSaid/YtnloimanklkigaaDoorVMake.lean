/- The developers' Number, Text, List and Get. -/
import Derived.Test.YtnloimanklkigaaDoorVRoom
import Derived.Test.YtnloimanklkigaaDoorVStrEq
import Derived.Test.YtnloimanklkigaaDoorVSeq
namespace Go.Proofs.YtnloimanklkigaaDoor.V
open Go.RowKit Go.Sort Go.Joins
set_option maxRecDepth 100000

theorem number_any (n : Int) (W : World) :
    Calls Tryd.prog 20 #[.int .i64 n] W fun e w' => e = .returned (.agg #[.int .i64 1, .int .i64 n, .string ⟨#[]⟩, .slice none 0 0, .slice none 0 0]) ∧ Below W.heap.size W w' := by
  have lR : Lies (W.alloc (.cells valZ 25)) W.heap.size 25 valZ := Lies.new W _ _
  have hB := (Below.refl W.heap.size W).alloc (Nat.le_refl _) (.cells valZ 25)
  go_enter Tryd.func20, Tryd.ntmps20
  go_wp2_with ((with_reducible refine wpL_store W.heap.size 25 valZ #[.int .i64 1, .int .i64 n, .string ⟨#[]⟩, .slice none 0 0, .slice none 0 0] 5 rowVal rfl rfl (valC_one _ _ _ _ _ _ _ _ _) lR ?_ ?_ ?_); rfl; rfl)
  exact bodyPost_ret (results_row Tryd.results20 rowVal rfl (lR.row _) rfl) rfl ⟨rfl, below_rowSet hB (Nat.le_refl _) _⟩
theorem text_any (s : ByteArray) (W : World) :
    Calls Tryd.prog 21 #[.string s] W fun e w' => e = .returned (.agg #[.int .i64 2, .int .i64 0, .string s, .slice none 0 0, .slice none 0 0]) ∧ Below W.heap.size W w' := by
  have lR : Lies (W.alloc (.cells valZ 25)) W.heap.size 25 valZ := Lies.new W _ _
  have hB := (Below.refl W.heap.size W).alloc (Nat.le_refl _) (.cells valZ 25)
  go_enter Tryd.func21, Tryd.ntmps21
  go_wp2_with ((with_reducible refine wpL_store W.heap.size 25 valZ #[.int .i64 2, .int .i64 0, .string s, .slice none 0 0, .slice none 0 0] 5 rowVal rfl rfl (valC_one _ _ _ _ _ _ _ _ _) lR ?_ ?_ ?_); rfl; rfl)
  exact bodyPost_ret (results_row Tryd.results21 rowVal rfl (lR.row _) rfl) rfl ⟨rfl, below_rowSet hB (Nat.le_refl _) _⟩
theorem infoV : (Tryd.prog.info? 25).map (fun i => (i.zero, i.size, i.bytes)) = some (some (.agg valZ), 5, 80) := by kernel_rfl
theorem infoS : (Tryd.prog.info? 9).map (fun i => (i.zero, i.size, i.bytes)) = some (some (.string ⟨#[]⟩), 1, 16) := by kernel_rfl
set_option maxHeartbeats 800000 in
theorem cloneV_any (v : Value) (css : List (List Value)) (W : World) (h : RowL W 5 v css) (h1 : ∀ u ∈ css.flatten, u.oneCell' = true) (hn : css.length ≤ 1000) :
    Calls Tryd.prog 34 #[v] W fun e w' => ∃ v', e = .returned v' ∧ OwnL w' W.heap.size 25 5 v' css ∧ Below W.heap.size W w' := by
  obtain ⟨i0, hi, hz0, hz1, hz2⟩ := info_parts infoV
  have hm : css.length ≤ maxLen := by unfold maxLen; omega
  have HR := Lib.hid (h.below ((Below.refl W.heap.size W).alloc (Nat.le_refl _) (.cells #[] 25)))
  have HO := Lib.hid (OwnL.made W W.heap.size 25 5 (Nat.le_refl _))
  have hb := (Below.refl W.heap.size W).alloc (Nat.le_refl _) (.cells #[] 25)
  obtain ⟨h0, a, c, rfl, hc, hmc, hna, hl⟩ := h
  have hsl := Lib.run_eql_slice_nil (P := Tryd.prog) (w := W) 22 25 a css.length c 0 0 Tryd.underlying22
  clear hl h0
  cases a with
  | none =>
    obtain rfl := hna rfl
    obtain rfl : css = [] := List.eq_nil_of_length_eq_zero (by omega)
    clear hsl
    have hsl := Lib.run_eql_slice_nil (P := Tryd.prog) (w := W) 22 25 none 0 0 0 0 Tryd.underlying22
    show Calls _ _ #[.slice none 0 0] _ _
    go_enter Tryd.func34, Tryd.ntmps34
    go_wp2
    go_ret
    exact ⟨_, rfl, OwnL.nil _ _ _ _, Below.refl _ _⟩
  | some ad =>
    go_enter Tryd.func34, Tryd.ntmps34
    go_wp2_with ((with_reducible refine wpL_appendL W.heap.size 25 i0 (.agg valZ) 5 80 Tryd.underlying22 hi hz0 hz1 hz2 rfl (by decide) _ [] HO.out _ css HR.out h1 (by simpa using hm) (by simp; omega) hb.size ?_ ?_ ?_); rfl; rfl; intro v' w' ho hg)
    go_ret
    exact ⟨_, rfl, by simpa using ho, hb.grown hg (by simp) (fun g hgb => (HO.out.lt g hgb))⟩
theorem OwnL.rowFar {w : World} {B g : Nat} {e : TypeId} {k : Nat} {v : Value} {css : List (List Value)} (h : OwnL w B e k v css) (hg : g < B) (cs : Array Value) : OwnL (w.setRow g cs) B e k v css := by
  refine ⟨h.1, h.2.1, ?_⟩
  rcases h.2.2 with hv | ⟨b, cap, cur, hv, hB, hh, hr⟩
  · exact .inl hv
  · exact .inr ⟨b, cap, cur, hv, hB, (setRow_other _ _ _ _ (by omega)).trans hh, hr⟩
theorem OwnL.weak {w : World} {B B' : Nat} {e : TypeId} {k : Nat} {v : Value} {css : List (List Value)} (h : OwnL w B e k v css) (hB : B' ≤ B) : OwnL w B' e k v css := by
  refine ⟨h.1, h.2.1, ?_⟩
  rcases h.2.2 with hv | ⟨b, cap, cur, hv, h1, hr⟩
  · exact .inl hv
  · exact .inr ⟨b, cap, cur, hv, by omega, hr⟩
/-- five cells, put together -/
theorem isV_make {w : World} {d : Nat} {k n : Int} {s : List UInt8} {vi vk : Value} {l : List VT} {ks : List (List UInt8)} {css : List (List Value)} (hv : RowL w 5 vi css) (hl : css.length = l.length)
    (hx : ∀ (i : Nat) (cs : List Value), css[i]? = some cs → ∃ x, l[i]? = some x ∧ IsV w d cs x) (hk : Strs w vk ks) (hfit : VFit (.mk k n s l ks)) : IsV w (d + 1) [.int .i64 k, .int .i64 n, str s, vi, vk] (.mk k n s l ks) := by
  obtain ⟨h0, a, c, rfl, hc, hm, hn, hr⟩ := hv
  refine ⟨_, _, rfl, hfit, hk, a, c, ?_, by show l.length ≤ c; omega, hm, hn, fun hpos => ?_⟩
  · show _ = Value.slice a l.length c
    rw [hl]
  · have hpos : 0 < l.length := hpos
    obtain ⟨b, off, ha, hx2⟩ := hr (by omega)
    refine ⟨b, off, ha, fun i hi => ?_⟩
    have hi : i < l.length := hi
    have hi2 : i < css.length := by omega
    obtain ⟨x, h1, h2⟩ := hx i css[i] (List.getElem?_eq_getElem hi2)
    exact ⟨css[i], h0 _ (List.getElem_mem hi2), hx2 i _ (List.getElem?_eq_getElem hi2), x, h1, h2⟩
theorem IsV.keyRow {w : World} {d : Nat} {k n : Value} {s vi vk : Value} {t : VT} (h : IsV w d [k, n, s, vi, vk] t) : Strs w vk t.keys := by
  cases d with
  | zero => exact h.elim
  | succ d =>
    obtain ⟨vi', vk', e, _, hk, _⟩ := h
    simp only [List.cons.injEq, and_true] at e
    rw [e.2.2.2.2]; exact hk
theorem IsV.fit {w : World} {d : Nat} {cs : List Value} {t : VT} (h : IsV w d cs t) : VFit t := by
  cases d with
  | zero => exact h.elim
  | succ d => exact h.choose_spec.choose_spec.2.1
set_option maxHeartbeats 800000 in
theorem list_any (v : Value) (css : List (List Value)) (W : World) (h : RowL W 5 v css) (h1 : ∀ u ∈ css.flatten, u.oneCell' = true) (hn : css.length ≤ 1000) :
    Calls Tryd.prog 19 #[v] W fun e w' => ∃ v', e = .returned (.agg #[.int .i64 3, .int .i64 0, .string ⟨#[]⟩, v', .slice none 0 0]) ∧ OwnL w' W.heap.size 25 5 v' css ∧ Below W.heap.size W w' := by
  have hB := (Below.refl W.heap.size W).alloc (Nat.le_refl _) (.cells valZ 25)
  have lR : Lies (W.alloc (.cells valZ 25)) W.heap.size 25 valZ := Lies.new W _ _
  have HC := Lib.hid (cloneV_any v css (W.alloc (.cells valZ 25)) (h.below hB) h1 hn)
  have hsz : (W.alloc (.cells valZ 25)).heap.size = W.heap.size + 1 := by simp
  clear h h1
  go_enter Tryd.func19, Tryd.ntmps19
  go_wp2_with (first | (go_at_call 34; (with_reducible refine HC.out.mono ?_); rintro e w1 ⟨v', rfl, ho, hb1⟩; replace lR := lR.on hb1; replace hB := below_on hB hb1; rw [hsz] at ho; have hf := ho.form; obtain ⟨va, vc, rfl, _, _, _⟩ := hf) | ((with_reducible refine wpL_store W.heap.size 25 valZ #[.int .i64 3, .int .i64 0, .string ⟨#[]⟩, .slice va css.length vc, .slice none 0 0] 5 rowVal rfl rfl (valC_one _ _ _ _ _ _ _ _ _) lR ?_ ?_ ?_); rfl; rfl))
  exact bodyPost_ret (results_row Tryd.results19 rowVal rfl (lR.row _) rfl) rfl ⟨_, rfl, (ho.rowFar (Nat.lt_succ_self _) _).weak (Nat.le_succ _), below_rowSet hB (Nat.le_refl _) _⟩
/-- the value of a key, if there is one -/
def getV (t : VT) (key : List UInt8) : Option VT := if t.kind = 4 ∧ t.keys.length = t.items.length ∧ 0 ≤ firstAt t.keys key then t.items[(firstAt t.keys key).toNat]? else none
theorem firstAt_lt : ∀ (ks : List (List UInt8)) (key : List UInt8), -1 ≤ firstAt ks key ∧ firstAt ks key < ks.length := by
  intro ks
  induction ks with
  | nil => intro key; rw [firstAt]; decide
  | cons k r ih =>
    intro key
    have := ih key
    rw [firstAt, List.length_cons]
    split
    · omega
    · split <;> omega
set_option maxHeartbeats 1600000 in
theorem get_none (d : Nat) (cs : List Value) (t : VT) (key : List UInt8) (W : World) (h : IsV W d cs t) (hg : getV t key = none) :
    Calls Tryd.prog 17 #[.agg cs.toArray, .string ⟨key.toArray⟩] W fun e w' => e = .returned (.tuple #[.agg valZ, .bool false]) ∧ Below W.heap.size W w' := by
  obtain ⟨ai, ci, ak, ck, rfl⟩ := h.form
  have hks := h.keyRow
  have HX := Lib.hid (fun (w1 : World) (hb : Below W.heap.size W w1) => strIdx_any _ t.keys key w1 (hks.below hb))
  have hbW : Below W.heap.size W ((W.alloc (.cells #[.int .i64 t.kind, .int .i64 t.num, .string ⟨t.txt.toArray⟩, .slice ai t.items.length ci, .slice ak t.keys.length ck] 25)).alloc (.cells valZ 25)) := ((Below.refl W.heap.size W).alloc (Nat.le_refl _) _).alloc (by simp) _
  have lA : Lies ((W.alloc (.cells #[.int .i64 t.kind, .int .i64 t.num, .string ⟨t.txt.toArray⟩, .slice ai t.items.length ci, .slice ak t.keys.length ck] 25)).alloc (.cells valZ 25)) W.heap.size 25 #[.int .i64 t.kind, .int .i64 t.num, .string ⟨t.txt.toArray⟩, .slice ai t.items.length ci, .slice ak t.keys.length ck] := (Lies.new W _ _).alloc _
  have lR : Lies ((W.alloc (.cells #[.int .i64 t.kind, .int .i64 t.num, .string ⟨t.txt.toArray⟩, .slice ai t.items.length ci, .slice ak t.keys.length ck] 25)).alloc (.cells valZ 25)) (W.heap.size + 1) 25 valZ := by
    have := Lies.new (W.alloc (.cells #[.int .i64 t.kind, .int .i64 t.num, .string ⟨t.txt.toArray⟩, .slice ai t.items.length ci, .slice ak t.keys.length ck] 25)) 25 valZ
    simpa using this
  have q0 := lA.cell 0; have q1 := lA.cell 1; have q2 := lA.cell 2; have q3 := lA.cell 3; have q4 := lA.cell 4; simp only [List.getElem?_toArray, List.getElem?_cons_succ, List.getElem?_cons_zero] at q0 q1 q2 q3 q4
  have hlt := firstAt_lt t.keys key
  by_cases h4 : t.kind = 4
  case neg =>
    have h5 : (t.kind != 4) = true := by simpa using h4
    clear h hks hg
    generalize firstAt t.keys key = j at *
    go_enter Tryd.func17, Tryd.ntmps17
    go_wp2_with (first | (go_at_call 27; (with_reducible refine (HX.out _ hbW).mono ?_); rintro e w1 ⟨rfl, hb1⟩; replace hbW := below_on hbW hb1; replace lA := lA.on hb1; replace lR := lR.on hb1; have q0 := lA.cell 0; have q1 := lA.cell 1; have q2 := lA.cell 2; have q3 := lA.cell 3; have q4 := lA.cell 4; simp only [List.getElem?_toArray, List.getElem?_cons_succ, List.getElem?_cons_zero] at q0 q1 q2 q3 q4) | ((with_reducible refine wpL_store (W.heap.size + 1) 25 valZ valZ 5 rowVal rfl rfl (valC_one _ _ _ _ _ _ _ _ _) lR ?_ ?_ ?_); rfl; rfl))
    exact bodyPost_ret (results_row_tmp Tryd.results17 rowVal rfl (lR.row _) rfl rfl) rfl ⟨rfl, below_rowSet hbW (Nat.le_succ _) _⟩
  have h5 : (t.kind != 4) = false := by simp [h4]
  by_cases hl : t.keys.length = t.items.length
  case neg =>
    have h6 : ((t.keys.length : Int) != (t.items.length : Int)) = true := by simp; omega
    clear h hks hg h4
    generalize firstAt t.keys key = j at *
    go_enter Tryd.func17, Tryd.ntmps17
    go_wp2_with (first | (go_at_call 27; (with_reducible refine (HX.out _ hbW).mono ?_); rintro e w1 ⟨rfl, hb1⟩; replace hbW := below_on hbW hb1; replace lA := lA.on hb1; replace lR := lR.on hb1; have q0 := lA.cell 0; have q1 := lA.cell 1; have q2 := lA.cell 2; have q3 := lA.cell 3; have q4 := lA.cell 4; simp only [List.getElem?_toArray, List.getElem?_cons_succ, List.getElem?_cons_zero] at q0 q1 q2 q3 q4) | ((with_reducible refine wpL_store (W.heap.size + 1) 25 valZ valZ 5 rowVal rfl rfl (valC_one _ _ _ _ _ _ _ _ _) lR ?_ ?_ ?_); rfl; rfl))
    exact bodyPost_ret (results_row_tmp Tryd.results17 rowVal rfl (lR.row _) rfl rfl) rfl ⟨rfl, below_rowSet hbW (Nat.le_succ _) _⟩
  have h6 : ((t.keys.length : Int) != (t.items.length : Int)) = false := by rw [hl]; exact bne_self_eq_false _
  have h7 : firstAt t.keys key < 0 := by
    by_cases h8 : firstAt t.keys key < 0
    · exact h8
    · unfold getV at hg
      rw [if_pos ⟨h4, hl, by omega⟩, List.getElem?_eq_none_iff] at hg
      omega
  clear h hks hg h4 hl
  generalize firstAt t.keys key = j at *
  go_enter Tryd.func17, Tryd.ntmps17
  go_wp2_with (first | (go_at_call 27; (with_reducible refine (HX.out _ hbW).mono ?_); rintro e w1 ⟨rfl, hb1⟩; replace hbW := below_on hbW hb1; replace lA := lA.on hb1; replace lR := lR.on hb1; have q0 := lA.cell 0; have q1 := lA.cell 1; have q2 := lA.cell 2; have q3 := lA.cell 3; have q4 := lA.cell 4; simp only [List.getElem?_toArray, List.getElem?_cons_succ, List.getElem?_cons_zero] at q0 q1 q2 q3 q4) | ((with_reducible refine wpL_store (W.heap.size + 1) 25 valZ valZ 5 rowVal rfl rfl (valC_one _ _ _ _ _ _ _ _ _) lR ?_ ?_ ?_); rfl; rfl))
  exact bodyPost_ret (results_row_tmp Tryd.results17 rowVal rfl (lR.row _) rfl rfl) rfl ⟨rfl, below_rowSet hbW (Nat.le_succ _) _⟩
set_option maxHeartbeats 1600000 in
theorem get_some (d : Nat) (cs : List Value) (t x : VT) (key : List UInt8) (W : World) (h : IsV W (d + 1) cs t) (hg : getV t key = some x) :
    Calls Tryd.prog 17 #[.agg cs.toArray, .string ⟨key.toArray⟩] W fun e w' => ∃ cs', e = .returned (.tuple #[.agg cs'.toArray, .bool true]) ∧ IsV w' d cs' x ∧ Below W.heap.size W w' := by
  unfold getV at hg
  split at hg
  case isFalse => cases hg
  rename_i hh
  obtain ⟨h4, hl, hj0⟩ := hh
  have hv0 := h
  obtain ⟨vi, vk, e0, _, _, av, cv, rfl, hcv, hmv, _, hx⟩ := hv0
  obtain ⟨ai, ci, ak, ck, rfl⟩ := h.form
  have hks := h.keyRow
  have HX := Lib.hid (fun (w1 : World) (hb : Below W.heap.size W w1) => strIdx_any _ t.keys key w1 (hks.below hb))
  have hbW : Below W.heap.size W ((W.alloc (.cells #[.int .i64 t.kind, .int .i64 t.num, .string ⟨t.txt.toArray⟩, .slice ai t.items.length ci, .slice ak t.keys.length ck] 25)).alloc (.cells valZ 25)) := ((Below.refl W.heap.size W).alloc (Nat.le_refl _) _).alloc (by simp) _
  have lA : Lies ((W.alloc (.cells #[.int .i64 t.kind, .int .i64 t.num, .string ⟨t.txt.toArray⟩, .slice ai t.items.length ci, .slice ak t.keys.length ck] 25)).alloc (.cells valZ 25)) W.heap.size 25 #[.int .i64 t.kind, .int .i64 t.num, .string ⟨t.txt.toArray⟩, .slice ai t.items.length ci, .slice ak t.keys.length ck] := (Lies.new W _ _).alloc _
  have lR : Lies ((W.alloc (.cells #[.int .i64 t.kind, .int .i64 t.num, .string ⟨t.txt.toArray⟩, .slice ai t.items.length ci, .slice ak t.keys.length ck] 25)).alloc (.cells valZ 25)) (W.heap.size + 1) 25 valZ := by
    have := Lies.new (W.alloc (.cells #[.int .i64 t.kind, .int .i64 t.num, .string ⟨t.txt.toArray⟩, .slice ai t.items.length ci, .slice ak t.keys.length ck] 25)) 25 valZ
    simpa using this
  have q0 := lA.cell 0; have q1 := lA.cell 1; have q2 := lA.cell 2; have q3 := lA.cell 3; have q4 := lA.cell 4; simp only [List.getElem?_toArray, List.getElem?_cons_succ, List.getElem?_cons_zero] at q0 q1 q2 q3 q4
  obtain ⟨rfl, rfl⟩ : ai = av ∧ ci = cv := by
    simp only [List.cons.injEq, Value.slice.injEq] at e0
    exact ⟨e0.2.2.2.1.1, e0.2.2.2.1.2.2⟩
  have hlt := firstAt_lt t.keys key
  obtain ⟨j, hj⟩ : ∃ j : Nat, firstAt t.keys key = j := ⟨(firstAt t.keys key).toNat, by omega⟩
  rw [hj] at hg
  rw [hj] at HX
  have hjl : j < t.items.length := by omega
  obtain ⟨b, off, rfl, hx2⟩ := hx (by omega)
  obtain ⟨cs2, hlen, hr, y, hy, hyv⟩ := hx2 j hjl
  obtain rfl : y = x := by
    rw [Int.toNat_natCast, hy] at hg
    exact Option.some.inj hg
  have HV := Lib.hid hyv
  obtain ⟨ai2, ci2, ak2, ck2, rfl⟩ := hyv.form
  have HR := Lib.hid (fun (w1 : World) (hb : Below W.heap.size W w1) => range5 (range_below hb hr))
  have h5 : (t.kind != 4) = false := by simp [h4]
  have h6 : ((t.keys.length : Int) != (t.items.length : Int)) = false := by rw [hl]; exact bne_self_eq_false _
  have h7 : ¬ (j : Int) < 0 := by omega
  have h8 : (j : Int) < (t.items.length : Int) := by omega
  clear h hks hg h4 hl hx hx2 hr hlen hy hj hj0 hyv e0 hlt hjl
  go_enter Tryd.func17, Tryd.ntmps17
  go_wp2_with (first | (go_at_call 27; (with_reducible refine (HX.out _ hbW).mono ?_); rintro e w1 ⟨rfl, hb1⟩; replace hbW := below_on hbW hb1; replace lA := lA.on hb1; replace lR := lR.on hb1; have q0 := lA.cell 0; have q1 := lA.cell 1; have q2 := lA.cell 2; have q3 := lA.cell 3; have q4 := lA.cell 4; simp only [List.getElem?_toArray, List.getElem?_cons_succ, List.getElem?_cons_zero] at q0 q1 q2 q3 q4; obtain ⟨r0, r1, r2, r3, r4⟩ := HR.out _ hbW) | ((with_reducible refine wpL_store (W.heap.size + 1) 25 valZ #[.int .i64 y.kind, .int .i64 y.num, .string ⟨y.txt.toArray⟩, .slice ai2 y.items.length ci2, .slice ak2 y.keys.length ck2] 5 rowVal rfl rfl (valC_one _ _ _ _ _ _ _ _ _) lR ?_ ?_ ?_); rfl; rfl))
  exact bodyPost_ret (results_row_tmp Tryd.results17 rowVal rfl (lR.row _) rfl rfl) rfl ⟨_, rfl, HV.out.below (below_rowSet hbW (Nat.le_succ _) _), below_rowSet hbW (Nat.le_succ _) _⟩
end Go.Proofs.YtnloimanklkigaaDoor.V
