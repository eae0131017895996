/- Texts that stand on one another, put together: YFieldsM, YOwn, YFields, YMath, YRead, YMach. -/
import Derived.Test.YtmbmeidkmhajbaaDoorF2
import Derived.Carry
import Derived.Maps.OwnOps
import Derived.Maps.OwnSet
import Derived.Maps.Views
import Derived.StringKeys
import Derived.WalkArith
/- A map of the places of keys, from which keys are taken one by one; keys that are just those of a value. Nothing of the program is named here. -/
namespace Go.Proofs.YtmbmeidkmhajbaaDoor.V
open Go Go.Maps

structure Pl (keys : List (List UInt8)) (j : Nat) (done : List (List UInt8)) (D : DataW Unit) : Prop where
  has : ∀ k, Maps.has D (.string k) = (decide (k ∈ keys.take j) && !decide (k ∈ done))
  place : ∀ k, k ∈ keys.take j → k ∉ done → ∃ i, i < j ∧ keys[i]? = some k ∧ D.atKey (.string k) (.lit (.int .i64 0)) = .lit (.int .i64 (i : Int))
theorem Pl.start (keys : List (List UInt8)) : Pl keys 0 [] (.map []) := ⟨fun k => by simp [has_eq], fun k hk => by simp at hk⟩
theorem lit_ne {q k : List UInt8} (h : q ≠ k) : (Lit.string q : Lit) ≠ .string k := fun e => h (by injection e)
theorem Pl.put {keys : List (List UInt8)} {j : Nat} {D : DataW Unit} (h : Pl keys j [] D) (hm : IsMap D) {k : List UInt8} (hk : WideAt.IsKeyLit (.string k)) (hx : keys[j]? = some k) : Pl keys (j + 1) [] (D.put (.string k) (.lit (.int .i64 (j : Int)))) := by
  have ht : keys.take (j + 1) = keys.take j ++ [k] := by rw [List.take_add_one, hx]; rfl
  refine ⟨fun q => ?_, fun q hq hd => ?_⟩
  · by_cases e : q = k
    · subst e
      rw [has_put_same hm hk, ht]
      simp
    · rw [has_put_other (lit_ne e), h.has q, ht]
      simp [e]
  · by_cases e : q = k
    · subst e
      exact ⟨j, by omega, hx, atKey_put_same hm hk _ _⟩
    · rw [ht] at hq
      have hq2 : q ∈ keys.take j := by simpa [e] using hq
      obtain ⟨i, h1, h2, h3⟩ := h.place q hq2 (by simp)
      exact ⟨i, by omega, h2, by rw [atKey_put_other (lit_ne e)]; exact h3⟩
theorem Pl.del {keys done : List (List UInt8)} {j : Nat} {D : DataW Unit} (h : Pl keys j done D) (k : List UInt8) : Pl keys j (done ++ [k]) (D.del (.string k)) := by
  refine ⟨fun q => ?_, fun q hq hd => ?_⟩
  · by_cases e : q = k
    · subst e
      rw [has_del_same]
      simp
    · rw [has_del_other (lit_ne e), h.has q]
      simp [e]
  · have e : q ≠ k := fun e => hd (by simp [e])
    obtain ⟨i, h1, h2, h3⟩ := h.place q hq (fun hx => hd (by simp [hx]))
    exact ⟨i, h1, h2, by rw [atKey_del_other (lit_ne e)]; exact h3⟩
/-- each of these keys is there, and is none of those ahead of it -/
def Good (keys ks : List (List UInt8)) : Prop := ∀ i k, ks[i]? = some k → k ∈ keys ∧ k ∉ ks.take i
/-- the keys are just a value's -/
def Just (t : VT) (ks : List (List UInt8)) : Prop := t.kind = 4 ∧ t.items.length = t.keys.length ∧ ks.length = t.keys.length ∧ Good t.keys ks
theorem nodup_take : ∀ (ks : List (List UInt8)), (∀ i k, ks[i]? = some k → k ∉ ks.take i) → ks.Nodup := by
  intro ks h
  rw [List.nodup_iff_pairwise_ne, List.pairwise_iff_getElem]
  intro i j hi hj hij e
  refine h j ks[j] (List.getElem?_eq_getElem hj) ?_
  rw [← e]
  exact List.mem_of_getElem? (show (ks.take j)[i]? = some ks[i] by rw [List.getElem?_take, if_pos hij, List.getElem?_eq_getElem hi])
theorem pigeon : ∀ (ks keys : List (List UInt8)), ks.Nodup → (∀ k ∈ ks, k ∈ keys) → keys.length ≤ ks.length → keys.Nodup ∧ ∀ k ∈ keys, k ∈ ks := by
  intro ks
  induction ks with
  | nil =>
    intro keys _ _ hl
    obtain rfl := List.eq_nil_of_length_eq_zero (Nat.le_zero.1 hl)
    exact ⟨List.nodup_nil, fun k hk => by cases hk⟩
  | cons a ks ih =>
    intro keys hn hs hl
    rw [List.nodup_cons] at hn
    have ha := hs a (by simp)
    have hp := List.perm_cons_erase ha
    have hl2 := hp.length_eq
    rw [List.length_cons] at hl hl2
    obtain ⟨h1, h2⟩ := ih (keys.erase a) hn.2 (fun k hk => by
      have hk2 := hs k (by simp [hk])
      exact (List.mem_erase_of_ne (fun e => hn.1 (by rw [← e]; exact hk))).2 hk2) (by omega)
    refine ⟨hp.nodup_iff.2 (List.nodup_cons.2 ⟨fun hm => hn.1 (h2 a hm), h1⟩), fun k hk => ?_⟩
    rcases List.mem_cons.1 (hp.mem_iff.1 hk) with rfl | hk
    · simp
    · simp [h2 k hk]
theorem firstAt_nodup : ∀ (ks : List (List UInt8)) (i : Nat) (k : List UInt8), ks.Nodup → ks[i]? = some k → firstAt ks k = (i : Int) := by
  intro ks
  induction ks with
  | nil => intro i k _ h; simp at h
  | cons q ks ih =>
    intro i k hn h
    rw [List.nodup_cons] at hn
    cases i with
    | zero =>
      simp only [List.getElem?_cons_zero, Option.some.injEq] at h
      subst h
      rw [firstAt]
      simp
    | succ i =>
      rw [List.getElem?_cons_succ] at h
      have h1 := ih i k hn.2 h
      have hne : q ≠ k := fun e => hn.1 (by rw [e]; exact List.mem_of_getElem? h)
      rw [firstAt, h1]
      simp [hne]
      intro h; omega
/-- what a key of such keys gets -/
theorem just_get {t : VT} {ks : List (List UInt8)} (h : Just t ks) {p : Nat} {k : List UInt8} (hp : t.keys[p]? = some k) {y : VT} (hy : t.items[p]? = some y) : getV t k = some y := by
  obtain ⟨h4, hl, hn, hg⟩ := h
  have hnd := nodup_take ks (fun i k hk => (hg i k hk).2)
  have hsub : ∀ k ∈ ks, k ∈ t.keys := fun k hk => by
    obtain ⟨i, hi⟩ := List.getElem?_of_mem hk
    exact (hg i k hi).1
  have hf := firstAt_nodup t.keys p k (pigeon ks t.keys hnd hsub (by omega)).1 hp
  unfold getV
  rw [hf, if_pos ⟨h4, hl.symm, by omega⟩, Int.toNat_natCast, hy]
end Go.Proofs.YtmbmeidkmhajbaaDoor.V

/- Rows of texts that come in, are cut and copied, and written in place. -/
namespace Go.Proofs.YtmbmeidkmhajbaaDoor.V
open Go.RowKit Go.Sort
set_option maxRecDepth 100000

def oneL (x : List UInt8) : List Value := [.string ⟨x.toArray⟩]
theorem strs_row {w : World} {v : Value} {S : List (List UInt8)} (h : Strs w v S) : RowL w 1 v (S.map oneL) := by
  obtain ⟨a, c, rfl, hc, hm, hn, hl⟩ := h
  refine ⟨fun cs hcs => ?_, a, c, by simp, by simpa using hc, hm, hn, fun hpos => ?_⟩
  · obtain ⟨b, _, rfl⟩ := List.mem_map.1 hcs
    rfl
  · have hne : S ≠ [] := fun e => by rw [e] at hpos; simp at hpos
    obtain ⟨b, off, ha, hx⟩ := hl hne
    refine ⟨b, off, ha, fun i cs hi j u hu => ?_⟩
    rw [List.getElem?_map] at hi
    cases hs : S[i]? with
    | none => rw [hs] at hi; cases hi
    | some x =>
      rw [hs] at hi
      have hcs : cs = oneL x := (Option.some.inj hi).symm
      subst hcs
      cases j with
      | zero =>
        have : u = .string ⟨x.toArray⟩ := (Option.some.inj hu).symm
        rw [this, Nat.mul_one, Nat.add_zero]
        exact hx i x hs
      | succ j => cases hu
theorem elemS : ∀ w, (Go.sizeOf (Tryd.prog.elem 23)).run Tryd.prog w = .ok 1 w := by
  rw [show Tryd.prog.elem 23 = 9 by kernel_rfl]
  exact Tryd.sizeOf9
section
variable {ops : Array Oper} {rest : List Oper} {a : Act} {w : World} {Q : Exit → Act → World → Prop} {t' : TypeId} {pos : String} {after : Array Edge} {d : Option Tmp} {x y : Tmp}
theorem run_cutR {gd : Option (Nat × Bool)} (ad : Option Addr) (n c r : Nat) (hr : r ≤ c) (hx : a.eval (.tmp x) = .slice ad n c) (hy : a.eval (.tmp y) = .int .i64 (r : Int)) (w : World) :
    (execOp a.eval ⟨d, .slice 23 (.tmp x) none (some (.tmp y)) none, t', pos, after, gd⟩).run Tryd.prog w = .ok (.value (sliced ad 0 r c 1)) w := by
  have h1 := run_slice_h (P := Tryd.prog) w 23 ad n c Tryd.underlying23 .i64 (r : Int) (by omega) (by omega)
  have h2 := run_sliceAt_slice (P := Tryd.prog) w 23 (.slice ad n c) none (some (.int .i64 (r : Int))) none Tryd.underlying23
  unfold execOp
  simp only [hx, hy, Option.map_some, Option.map_none, Sem.run_bind, h2, h1, elemS, Result.andThen, Sem.run_pure, Int.toNat_natCast]
theorem wpL_cutR (ad : Option Addr) (n c r : Nat) (css : List (List Value)) (hR : RowL w 1 (.slice ad n c) css) (hr : r ≤ n) (hx : a.eval (.tmp x) = .slice ad n c) (hy : a.eval (.tmp y) = .int .i64 (r : Int))
    (h : ∀ v', RowL w 1 v' (css.take r) → wpList Tryd.prog ops Q rest (a.put d v') w) : wpList Tryd.prog ops Q (⟨d, .slice 23 (.tmp x) none (some (.tmp y)) none, t', pos, after, none⟩ :: rest) a w := by
  have hn : n = css.length := by obtain ⟨_, a', c', e, _⟩ := hR; injection e
  have hc : n ≤ c := by obtain ⟨_, a', c', e, hc, _⟩ := hR; injection e with _ e2 e3; omega
  exact V.wpL_val (sliced ad 0 r c 1) rfl (run_cutR ad n c r (by omega) hx hy w) (h _ (hR.take (by omega)))
end
end Go.Proofs.YtmbmeidkmhajbaaDoor.V

/- The developers' Fields. -/
namespace Go.Proofs.YtmbmeidkmhajbaaDoor.V
open Go.RowKit Go.Sort Go.Joins Go.Maps
set_option maxRecDepth 100000

theorem res_twoF {fn : Func} {P : Program} {p q : Tmp} {tmps : Array Value} {w : World} (h : fn.results = #[.tmp p, .tmp q]) : (results fn tmps).run P w = .ok (.tuple #[tmps.getD p undef, tmps.getD q undef]) w := by
  simp [results, h]
theorem zeroI : ∀ w, (zeroValue 3).run Tryd.prog w = .ok (.int .i64 0) w := fun w => by kernel_rfl
theorem lawS : Keyed Tryd.prog 9 := string_keyed Tryd.underlying9
theorem keyK {k : List UInt8} (h : k.length ≤ maxLen) : keyOf Tryd.prog 9 (.string ⟨k.toArray⟩) = some (.string k) := WideMaps.keyOf_string_mk Tryd.underlying9 h
theorem wf_nat {j : Nat} (h : j ≤ maxLen) : (Lit.int .i64 (j : Int)).wf = true := WalkArith.wf_i64 (by unfold maxLen at h; omega)
theorem isV_item {w : World} {d : Nat} {k n s : Value} {a ak : Option Addr} {m c nk ck : Nat} {t : VT} (h : IsV w (d + 1) [k, n, s, .slice a m c, .slice ak nk ck] t) {j : Nat} (hj : j < t.items.length) :
    ∃ b off x y, a = some ⟨b, off, none⟩ ∧ t.items[j]? = some y ∧ w.rangeAt b (off + j * 5) x ∧ IsV w d x y := by
  obtain ⟨vi, vk, e, _, _, a', c', rfl, _, _, _, hl⟩ := h
  simp only [List.cons.injEq, and_true] at e
  obtain ⟨_, _, _, e, _⟩ := e
  injection e with e1 e2 e3
  subst e1
  obtain ⟨b, off, rfl, hx⟩ := hl (by omega)
  obtain ⟨cs, _, hr, x, hx1, hx2⟩ := hx j hj
  exact ⟨b, off, cs, x, rfl, hx1, hr, hx2⟩
theorem infoVL : (Tryd.prog.info? 25).map (fun i => (i.zero, i.size, i.bytes)) = some (some (.agg valZ), 5, 80) := by kernel_rfl
def FieldsPost (W : World) (d : Nat) (t : VT) (ks : List (List UInt8)) (e : Ending) (w' : World) : Prop :=
  (¬ Just t ks ∧ e = .returned (.tuple #[.slice none 0 0, .int .i64 24]) ∧ RowKit.Below W.heap.size W w') ∨
  (Just t ks ∧ ∃ (v : Value) (R : List (List Value)), e = .returned (.tuple #[v, .int .i64 0]) ∧ RowL w' 5 v R ∧ R.length = ks.length ∧ (∀ (i : Nat) (k : List UInt8) (cs : List Value), ks[i]? = some k → R[i]? = some cs → ∃ (p : Nat) (y : VT), t.keys[p]? = some k ∧ t.items[p]? = some y ∧ Hid (∀ w2, RowKit.Below W.heap.size W w2 → IsV w2 d cs y)) ∧ RowKit.Below W.heap.size W w')
set_option maxHeartbeats 12800000 in
theorem fieldsY_any (d : Nat) (cs : List Value) (t : VT) (v : Value) (ks : List (List UInt8)) (W : World) (h : IsV W (d + 1) cs t) (hv : RowL W 1 v (ks.map oneL)) (hkl : ∀ k ∈ ks, k.length ≤ maxLen) (h20 : ks.length ≤ 20) :
    Calls Tryd.prog 12 #[.agg cs.toArray, v] W fun e w' => FieldsPost W d t ks e w' := by
  have hf := h.fit
  obtain ⟨iV, hi, hz0, hz1, hz2⟩ := info_parts infoVL
  obtain ⟨av, cv, rfl, hcv, hmv, hnv⟩ := hv.form
  rw [List.length_map] at hv hcv ⊢
  have hv0 := h
  obtain ⟨ai, ci, ak, ck, rfl⟩ := h.form
  have hrk := strs_row h.keyRow
  have hck : t.keys.length ≤ ck ∧ ck ≤ maxLen := by
    obtain ⟨a', c', e, h1, h2, _⟩ := hrk.form
    injection e with _ _ e3
    rw [List.length_map] at h1
    omega
  have hkk : ∀ k ∈ t.keys, k.length ≤ maxLen := hf.2.2.2
  have lA := Lies.new W 25 #[.int .i64 t.kind, .int .i64 t.num, .string ⟨t.txt.toArray⟩, .slice ai t.items.length ci, .slice ak t.keys.length ck]
  have hbW := (RowKit.Below.refl W.heap.size W).alloc (Nat.le_refl _) (.cells #[.int .i64 t.kind, .int .i64 t.num, .string ⟨t.txt.toArray⟩, .slice ai t.items.length ci, .slice ak t.keys.length ck] 25)
  have hlt0 := lA.lt
  go_enter Tryd.func12, Tryd.ntmps12
  go_upto_region 1 with fail
  generalize World.alloc W _ = wa at *
  have q0 := lA.cell 0; have q3 := lA.cell 3; have q4 := lA.cell 4; simp only [List.getElem?_toArray, List.getElem?_cons_succ, List.getElem?_cons_zero] at q0 q3 q4
  by_cases h4 : t.kind = 4
  case neg =>
    have h5 : (t.kind != 4) = true := by simp [h4]
    have hnj : ¬ Just t ks := fun hj => h4 hj.1
    clear h hv0 hrk hf hck hkk hv
    go_wp2
    refine bodyPost_ret (res_twoF rfl) rfl ?_
    exact Or.inl ⟨hnj, rfl, hbW⟩
  have h5 : (t.kind != 4) = false := by simp [h4]
  by_cases hil : t.items.length = t.keys.length
  case neg =>
    have h6 : ((t.items.length : Int) != (t.keys.length : Int)) = true := by rw [bne_iff_ne]; omega
    have hnj : ¬ Just t ks := fun hj => hil hj.2.1
    clear h hv0 hrk hf hck hkk hv
    go_wp2
    refine bodyPost_ret (res_twoF rfl) rfl ?_
    exact Or.inl ⟨hnj, rfl, hbW⟩
  have h6 : ((t.items.length : Int) != (t.keys.length : Int)) = false := by rw [hil]; exact bne_self_eq_false _
  by_cases hkn : ks.length = t.keys.length
  case neg =>
    have h7 : ((ks.length : Int) != (t.keys.length : Int)) = true := by rw [bne_iff_ne]; omega
    have hnj : ¬ Just t ks := fun hj => hkn hj.2.2.1
    clear h hv0 hrk hf hck hkk hv
    go_wp2
    refine bodyPost_ret (res_twoF rfl) rfl ?_
    exact Or.inl ⟨hnj, rfl, hbW⟩
  have h7 : ((ks.length : Int) != (t.keys.length : Int)) = false := by rw [hkn]; exact bne_self_eq_false _
  have HIV := Lib.hid h
  have HRk := Lib.hid (fun (w1 : World) (hb : RowKit.Below W.heap.size W w1) => hrk.below hb)
  have HRv := Lib.hid (fun (w1 : World) (hb : RowKit.Below W.heap.size W w1) => hv.below hb)
  have HKK := Lib.hid hkk
  have HKL := Lib.hid hkl
  have HE := Lib.hid (show t.kind = 4 ∧ t.items.length = t.keys.length ∧ ks.length = t.keys.length from ⟨h4, hil, hkn⟩)
  have hnm : t.keys.length ≤ maxLen := by omega
  have hcap : t.keys.length ≤ 9223372036854775807 := by unfold maxLen at hnm; omega
  have hcap2 : ks.length ≤ 9223372036854775807 := by omega
  clear h hv0 hrk hf hkk hv hkl hcv
  go_upto_region 3 with fail
  have hmk := run_makeMap (P := Tryd.prog) 47 wa
  have hmade := World.ownsMap_made wa Tryd.prog 9 (plainElem (H := Unit) Tryd.prog 3)
  have hbM := hbW.alloc hbW.size (.map #[] 0)
  have lM := lA.alloc (.map #[] 0)
  go_upto_region 4 with fail
  generalize World.alloc wa _ = wm at *
  generalize hgb : wa.heap.size = b at *
  have hab : W.heap.size < b := by rw [← hgb]; exact lA.lt
  have q3m := lM.cell 3; have q4m := lM.cell 4; simp only [List.getElem?_toArray, List.getElem?_cons_succ, List.getElem?_cons_zero] at q3m q4m
  clear q0 q3 q4 h5 h6 h7 hbW lA hmk h4 hil hkn
  have hbB : b + 1 ≤ wm.heap.size := hmade.lt
  go_wp2
  go_loopw [7, 8, 38] (fun _ _ iv wr => ∃ (j : Nat) (D : DataW Unit), iv = .int .i64 (j : Int) ∧ j ≤ t.keys.length ∧ wr.ownsMap Tryd.prog 9 (plainElem (H := Unit) Tryd.prog 3) b j D ∧ Pl t.keys j [] D ∧ Lies wr W.heap.size 25 #[.int .i64 t.kind, .int .i64 t.num, .string ⟨t.txt.toArray⟩, .slice ai t.items.length ci, .slice ak t.keys.length ck] ∧ RowKit.Below W.heap.size W wr ∧ b + 1 ≤ wr.heap.size) (fun _ _ iv _ => t.keys.length - (intOf iv).toNat)
  case atStart => exact ⟨0, .map [], rfl, Nat.zero_le _, hmade, Pl.start t.keys, lM, hbM, hbB⟩
  case round =>
    clear hmade lM hbM hbB q3m q4m
    obtain ⟨j, D, rfl, hj, hown, hPl, lA, hb, hbB⟩ := hrel
    by_cases hlt : j < t.keys.length
    case pos =>
      obtain ⟨k, hk⟩ : ∃ k, t.keys[j]? = some k := ⟨_, List.getElem?_eq_getElem (by omega)⟩
      obtain ⟨bb, off, rfl, hr, _⟩ := (HRk.out _ hb).at (i := j) (cs := oneL k) (by rw [List.getElem?_map, hk]; rfl)
      have q0 := hr 0 (.string ⟨k.toArray⟩) rfl
      rw [Nat.mul_one, Nat.add_zero] at q0
      have hkey := keyK (HKK.out k (List.mem_of_getElem? hk))
      have hval := plainElem_int (H := Unit) (P := Tryd.prog) Tryd.underlying3 (wf_nat (j := j) (by omega))
      have hPn := Lib.hid (hPl.put hown.isMap (lawS.key hkey) hk)
      have i1 : (j : Int) < (t.keys.length : Int) := by omega
      have i2 : (0 : Int) ≤ (j : Int) := by omega
      have hjm : j < maxLen := by omega
      have HJ := Lib.hid hlt
      clear hr hk hPl
      go_wp2_with (at_mapUpdate; refine wpList_mapUpdate_own _ rfl _ _ _ 47 rfl 9 3 lawS Tryd.underlying47 (plainElem (H := Unit) Tryd.prog 3) b j D rfl hown hjm _ _ _ rfl rfl hkey _ [] hval ?_; intro w1 hown1 hgrow1)
      go_roundw
      case rel => exact ⟨j + 1, _, by go_num, HJ.out, hown1, hPn.out, lA.only hgrow1 (by intro e; injection e; omega), hb.grown hgrow1 (by omega) (fun k hk => by injection hk; omega), Nat.le_trans hbB hgrow1.size⟩
      case measure =>
        have := HJ.out
        simp [intOf]; omega
    obtain rfl : j = t.keys.length := by omega
    have i1 : ¬ (t.keys.length : Int) < (t.keys.length : Int) := by omega
    have q3m := lA.cell 3; have q4m := lA.cell 4; simp only [List.getElem?_toArray, List.getElem?_cons_succ, List.getElem?_cons_zero] at q3m q4m
    have hoV := OwnL.nil wr (b + 1) 25 5
    clear hlt hj
    go_wp2
    go_loopw [9, 11, 12, 13, 49] (fun v9 _ _ _ iv wr => ∃ (j : Nat) (D : DataW Unit) (R : List (List Value)), iv = .int .i64 (j : Int) ∧ j ≤ ks.length ∧ wr.ownsMap Tryd.prog 9 (plainElem (H := Unit) Tryd.prog 3) b t.keys.length D ∧ Pl t.keys t.keys.length (ks.take j) D ∧ Hid (∀ (i : Nat) (k : List UInt8), i < j → ks[i]? = some k → k ∈ t.keys ∧ k ∉ ks.take i) ∧ OwnL wr (b + 1) 25 5 v9 R ∧ R.length = j ∧ Hid ((∀ u ∈ R.flatten, u.oneCell' = true) ∧ ∀ (i : Nat) (k : List UInt8) (cs : List Value), ks[i]? = some k → R[i]? = some cs → ∃ (p : Nat) (y : VT), t.keys[p]? = some k ∧ t.items[p]? = some y ∧ Hid (∀ w2, RowKit.Below W.heap.size W w2 → IsV w2 d cs y)) ∧ Lies wr W.heap.size 25 #[.int .i64 t.kind, .int .i64 t.num, .string ⟨t.txt.toArray⟩, .slice ai t.items.length ci, .slice ak t.keys.length ck] ∧ RowKit.Below W.heap.size W wr ∧ b + 1 ≤ wr.heap.size) (fun _ _ _ _ iv _ => ks.length - (intOf iv).toNat)
    case atStart => exact ⟨0, D, [], rfl, Nat.zero_le _, hown, hPl, Lib.hid (fun i k hi => by omega), hoV, rfl, Lib.hid ⟨(fun u hu => by cases hu), fun i k cs _ h => by simp at h⟩, lA, hb, hbB⟩
    case round =>
      clear hown hPl lA hb hbB hoV q3m q4m
      obtain ⟨j, D, R, rfl, hj, hown, hPl, HG, ho, hRl, HR, lA, hb, hbB⟩ := hrel
      by_cases hlt : j < ks.length
      case neg =>
        obtain rfl : j = ks.length := by omega
        have i2 : ¬ (ks.length : Int) < (ks.length : Int) := by omega
        have hJ : Just t ks := ⟨HE.out.1, HE.out.2.1, HE.out.2.2, fun i k hi => HG.out i k (List.getElem?_eq_some_iff.1 hi).1 hi⟩
        have hfin := Lib.hid (show FieldsPost W d t ks (.returned (.tuple #[_, .int .i64 0])) wr from Or.inr ⟨hJ, _, R, rfl, ho.read, hRl, HR.out.2, hb⟩)
        clear hlt hJ
        go_wp2
        refine bodyPost_ret (res_twoF rfl) rfl ?_
        exact hfin.out
      obtain ⟨k, hk⟩ : ∃ k, ks[j]? = some k := ⟨_, List.getElem?_eq_getElem hlt⟩
      obtain ⟨bb, off, rfl, hr, _⟩ := (HRv.out _ hb).at (i := j) (cs := oneL k) (by rw [List.getElem?_map, hk]; rfl)
      have q0 := hr 0 (.string ⟨k.toArray⟩) rfl
      rw [Nat.mul_one, Nat.add_zero] at q0
      have hkey := keyK (HKL.out k (List.mem_of_getElem? hk))
      have hhas := hPl.has k
      rw [List.take_length] at hhas
      have i2 : (j : Int) < (ks.length : Int) := by omega
      have i3 : (0 : Int) ≤ (j : Int) := by omega
      obtain ⟨v9, hv9⟩ : ∃ u, u = u9 := ⟨_, rfl⟩
      by_cases hG : k ∈ t.keys ∧ k ∉ ks.take j
      case neg =>
        rw [show (decide (k ∈ t.keys) && !decide (k ∈ ks.take j)) = false by
          rcases Decidable.not_and_iff_or_not.1 hG with h | h
          · rw [decide_eq_false h]; rfl
          · rw [decide_eq_true (Decidable.of_not_not h), Bool.and_comm]; rfl] at hhas
        have hfin := Lib.hid (show FieldsPost W d t ks (.returned (.tuple #[.slice none 0 0, .int .i64 24])) wr from Or.inl ⟨fun hJ => hG (hJ.2.2.2 j k hk), rfl, hb⟩)
        clear hr hk hPl HG HR ho hRl hlt hG hj HE
        go_wp2_with (at_lookup; refine wpList_lookup_own_ok_int _ rfl _ _ 47 rfl 9 3 .i64 lawS Tryd.underlying47 Tryd.underlying3 (zeroI _) b t.keys.length D rfl hown _ _ rfl hkey ?_; intro c hat hwc; rw [hhas])
        refine bodyPost_ret (res_twoF rfl) rfl ?_
        exact hfin.out
      rw [decide_eq_true hG.1, decide_eq_false hG.2] at hhas
      replace hhas : Maps.has D (.string k) = true := hhas
      obtain ⟨p, hp1, hp2, hp3⟩ := hPl.place k (by rw [List.take_length]; exact hG.1) hG.2
      have hpi : p < t.items.length := by have := HE.out.2.1; omega
      obtain ⟨b2, off2, x, y, rfl, hy, hrx, hyv⟩ := isV_item HIV.out hpi
      obtain ⟨x1, x2, x3, x4, hxf⟩ := hyv.form
      subst hxf
      have HIY := Lib.hid (fun (w2 : World) (hb2 : RowKit.Below W.heap.size W w2) => hyv.below hb2)
      have HRX := Lib.hid (fun (w2 : World) (hb2 : RowKit.Below W.heap.size W w2) => range_below hb2 hrx)
      have HPd := Lib.hid (show Pl t.keys t.keys.length (ks.take (j + 1)) (D.del (.string k)) by
        rw [List.take_add_one, hk]
        exact hPl.del k)
      have HG2 := Lib.hid (show ∀ (i : Nat) (k : List UInt8), i < j + 1 → ks[i]? = some k → k ∈ t.keys ∧ k ∉ ks.take i from fun i q hi hq => by
        by_cases e : i = j
        · subst e
          rw [hk] at hq
          rw [← Option.some.inj hq]
          exact hG
        · exact HG.out i q (by omega) hq)
      have hone : ∀ u ∈ ([([.int .i64 y.kind, .int .i64 y.num, .string ⟨y.txt.toArray⟩, .slice x1 y.items.length x2, .slice x3 y.keys.length x4] : List Value)] : List (List Value)).flatten, u.oneCell' = true := fun u hu => by
        simp only [List.flatten_cons, List.flatten_nil, List.append_nil, List.mem_cons, List.mem_nil_iff, or_false] at hu
        rcases hu with rfl | rfl | rfl | rfl | rfl <;> rfl
      have HR2 := Lib.hid (show (∀ u ∈ (R ++ [([.int .i64 y.kind, .int .i64 y.num, .string ⟨y.txt.toArray⟩, .slice x1 y.items.length x2, .slice x3 y.keys.length x4] : List Value)]).flatten, u.oneCell' = true) ∧ ∀ (i : Nat) (k : List UInt8) (cs : List Value), ks[i]? = some k → (R ++ [([.int .i64 y.kind, .int .i64 y.num, .string ⟨y.txt.toArray⟩, .slice x1 y.items.length x2, .slice x3 y.keys.length x4] : List Value)])[i]? = some cs → ∃ (p : Nat) (y : VT), t.keys[p]? = some k ∧ t.items[p]? = some y ∧ Hid (∀ w2, RowKit.Below W.heap.size W w2 → IsV w2 d cs y) from ⟨fun u hu => by
          rw [List.flatten_append] at hu
          rcases List.mem_append.1 hu with hu | hu
          · exact HR.out.1 u hu
          · exact hone u hu, fun i q cs hq hcs => by
          by_cases e : i < j
          · rw [List.getElem?_append_left (by omega)] at hcs
            exact HR.out.2 i q cs hq hcs
          · rw [List.getElem?_append_right (by omega)] at hcs
            have hi0 : i - R.length = 0 := by
              have := (List.getElem?_eq_some_iff.1 hcs).1
              simp at this
              omega
            rw [hi0] at hcs
            have hij : i = j := by omega
            subst hij
            rw [hk] at hq
            obtain rfl := Option.some.inj hq
            simp only [List.getElem?_cons_zero, Option.some.injEq] at hcs
            subst hcs
            exact ⟨p, y, hp2, hy, HIY⟩⟩)
      have h63 : R.length + ([([.int .i64 y.kind, .int .i64 y.num, .string ⟨y.txt.toArray⟩, .slice x1 y.items.length x2, .slice x3 y.keys.length x4] : List Value)] : List (List Value)).length ≤ maxLen := by rw [hRl]; unfold maxLen; simp only [List.length_singleton]; omega
      have h64 : (R.length + ([([.int .i64 y.kind, .int .i64 y.num, .string ⟨y.txt.toArray⟩, .slice x1 y.items.length x2, .slice x3 y.keys.length x4] : List Value)] : List (List Value)).length) * 80 ≤ 140737488355328 := by rw [hRl]; simp only [List.length_singleton]; omega
      have HLn := Lib.hid (show (R ++ [([.int .i64 y.kind, .int .i64 y.num, .string ⟨y.txt.toArray⟩, .slice x1 y.items.length x2, .slice x3 y.keys.length x4] : List Value)]).length = j + 1 by rw [List.length_append, hRl]; rfl)
      have HJ := Lib.hid hlt
      have i4 : (p : Int) < (t.items.length : Int) := by omega
      have i5 : (0 : Int) ≤ (p : Int) := by omega
      have hnb : u9.ownBlock ≠ some b := fun e => by have := ho.lt b e; omega
      clear hr hk hPl HG HR hlt hG hp2 hpi hy hrx hyv hRl hv9
      go_upto_region 16 with (at_lookup; refine wpList_lookup_own_ok_int _ rfl _ _ 47 rfl 9 3 .i64 lawS Tryd.underlying47 Tryd.underlying3 (zeroI _) b t.keys.length D rfl hown _ _ rfl hkey ?_; intro c hat hwc; rw [hhas]; rw [hp3] at hat; injection hat with e1; injection e1 with _ e2; subst e2)
      go_upto_region 17 with (at_delete; refine wpList_delete_own _ rfl _ _ 47 9 rfl 3 lawS Tryd.underlying47 _ b t.keys.length D rfl hown _ _ rfl hkey ?_; intro w2 hown2 hturn2)
      have hg2 := hturn2.grown
      have lA2 := lA.only hg2 (by intro e; injection e; omega)
      have hb2 := hb.grown hg2 (by omega) (fun k hk => by injection hk; omega)
      have hbB2 := Nat.le_trans hbB hg2.size
      have ho2 : OwnL w2 (b + 1) 25 5 u9 R := ⟨ho.1, ho.2.kept hg2 (.inr hnb)⟩
      have q3 := lA2.cell 3; simp only [List.getElem?_toArray, List.getElem?_cons_succ, List.getElem?_cons_zero] at q3
      have hrx2 := HRX.out _ hb2
      clear hg2 hturn2 hown lA hb hbB ho hnb
      have hba := (RowKit.Below.refl w2.heap.size w2).alloc (Nat.le_refl _) (.cells #[.int .i64 y.kind, .int .i64 y.num, .string ⟨y.txt.toArray⟩, .slice x1 y.items.length x2, .slice x3 y.keys.length x4] 25)
      have hoA := ho2.on hba
      have hlit := RowL.lit w2 25 5 [.int .i64 y.kind, .int .i64 y.num, .string ⟨y.txt.toArray⟩, .slice x1 y.items.length x2, .slice x3 y.keys.length x4] rfl
      have hbb := hb2.trans (hba.mono hb2.size)
      have hbB3 : b + 1 ≤ (w2.alloc (.cells #[.int .i64 y.kind, .int .i64 y.num, .string ⟨y.txt.toArray⟩, .slice x1 y.items.length x2, .slice x3 y.keys.length x4] 25)).heap.size := Nat.le_trans hbB2 hba.size
      have lA3 := lA2.on hba
      have hown3 := hown2.alloc (.cells #[.int .i64 y.kind, .int .i64 y.num, .string ⟨y.txt.toArray⟩, .slice x1 y.items.length x2, .slice x3 y.keys.length x4] 25)
      go_wp2_with (first
        | ((with_reducible refine wpL_loadMid b2 (off2 + p * 5) _ 5 rowVal rfl hrx2 ?_ ?_); rfl)
        | ((with_reducible refine wpL_appendL (b + 1) 25 iV (.agg valZ) 5 80 Tryd.underlying22 hi hz0 hz1 hz2 rfl (by decide) _ R hoA _ _ hlit hone h63 h64 hbB3 ?_ ?_ ?_); rfl; rfl; intro v5 w5 hoX hgX; have hneX : some b ≠ u9.ownBlock := fun e => by (have := hoA.lt b e.symm; omega)))
      go_roundw
      case rel => exact ⟨j + 1, _, _, by go_num, HJ.out, hown3.kept hgX hneX, HPd.out, HG2, hoX, HLn.out, HR2, lA3.only hgX (fun e => by have := hoA.lt _ e.symm; omega), hbb.grown hgX hbb.size (fun k hk => by have := hoA.lt k hk; omega), Nat.le_trans hbB3 hgX.size⟩
      case measure =>
        have := HJ.out
        simp [intOf]; omega
end Go.Proofs.YtmbmeidkmhajbaaDoor.V

/- How a text is read as a value: what is read of a text, written, is the text, and what is written is read. Nothing of the program is named here. -/
namespace Go.Proofs.YtmbmeidkmhajbaaDoor.V
open Go

/-- what reading comes to: an error, or a thing and what stands behind it -/
inductive Rd (α : Type) where
  | bad (e : Int) : Rd α
  | ok (a : α) (r : List UInt8) : Rd α
def Rd.map {α β : Type} (f : α → β) : Rd α → Rd β
  | .bad e => .bad e
  | .ok a r => .ok (f a) r
/-- a text behind its quote, with k bytes read of it -/
def rdT : Nat → List UInt8 → Rd (List UInt8)
  | _, [] => .bad 3
  | k, c :: r => if c.toNat < 32 then .bad 20 else if c = 34 then .ok [] r else if c = 92 then
      (match r with
      | [] => .bad 3
      | d :: r' => if d ≠ 34 ∧ d ≠ 92 then .bad 20 else if k = 4000 then .bad 2 else (rdT (k + 1) r').map (d :: ·))
    else if k = 4000 then .bad 2 else (rdT (k + 1) r).map (c :: ·)
theorem rdT_nil (k : Nat) : rdT k [] = .bad 3 := by rw [rdT]
theorem rdT_low {c : UInt8} (h : c.toNat < 32) (k : Nat) (r : List UInt8) : rdT k (c :: r) = .bad 20 := by unfold rdT; rw [if_pos h]
theorem rdT_end (k : Nat) (r : List UInt8) : rdT k (34 :: r) = .ok [] r := by unfold rdT; rw [if_neg (by decide), if_pos rfl]
theorem rdT_bar (k : Nat) : rdT k [92] = .bad 3 := by unfold rdT; rw [if_neg (by decide), if_neg (by decide), if_pos rfl]
theorem rdT_odd {d : UInt8} (h : d ≠ 34 ∧ d ≠ 92) (k : Nat) (r : List UInt8) : rdT k (92 :: d :: r) = .bad 20 := by
  rw [rdT.eq_def]
  show (if (92 : UInt8).toNat < 32 then _ else if (92 : UInt8) = 34 then _ else if (92 : UInt8) = 92 then _ else _) = _
  rw [if_neg (by decide), if_neg (by decide), if_pos rfl]
  exact if_pos h
theorem rdT_esc {d : UInt8} (h : d = 34 ∨ d = 92) (k : Nat) (r : List UInt8) : rdT k (92 :: d :: r) = if k = 4000 then .bad 2 else (rdT (k + 1) r).map (d :: ·) := by
  rw [rdT.eq_def]
  show (if (92 : UInt8).toNat < 32 then _ else if (92 : UInt8) = 34 then _ else if (92 : UInt8) = 92 then _ else _) = _
  rw [if_neg (by decide), if_neg (by decide), if_pos rfl]
  exact if_neg (by rcases h with rfl | rfl <;> decide)
theorem rdT_char {c : UInt8} (h : ¬ c.toNat < 32) (h2 : c ≠ 34) (h3 : c ≠ 92) (k : Nat) (r : List UInt8) : rdT k (c :: r) = if k = 4000 then .bad 2 else (rdT (k + 1) r).map (c :: ·) := by
  rw [rdT.eq_def]
  show (if c.toNat < 32 then _ else if c = 34 then _ else if c = 92 then _ else _) = _
  rw [if_neg h, if_neg h2, if_neg h3]
theorem map_ok {α β : Type} {f : α → β} {x : Rd α} {b : β} {r : List UInt8} (h : x.map f = .ok b r) : ∃ a, x = .ok a r ∧ b = f a := by
  cases x with
  | bad e => cases h
  | ok a r' =>
    unfold Rd.map at h
    simp only [Rd.ok.injEq] at h
    exact ⟨a, by rw [h.2], h.1.symm⟩
theorem rdT_ok : ∀ (m : Nat) (s : List UInt8), s.length ≤ m → ∀ (k : Nat) (w r : List UInt8), k ≤ 4000 → rdT k s = .ok w r → s = escL w ++ 34 :: r ∧ (∀ c ∈ w, 32 ≤ c.toNat) ∧ w.length + k ≤ 4000 := by
  intro m
  induction m with
  | zero =>
    intro s hs k w r _ h
    obtain rfl := List.eq_nil_of_length_eq_zero (Nat.le_zero.1 hs)
    rw [rdT_nil] at h
    cases h
  | succ m ih =>
    intro s hs k w r hk h
    cases s with
    | nil => rw [rdT_nil] at h; cases h
    | cons c s =>
      rw [List.length_cons] at hs
      by_cases h1 : c.toNat < 32
      · rw [rdT_low h1] at h; cases h
      by_cases h2 : c = 34
      · subst h2
        rw [rdT_end] at h
        simp only [Rd.ok.injEq] at h
        obtain ⟨rfl, rfl⟩ := h
        exact ⟨rfl, (fun c h => by cases h), by simpa using hk⟩
      by_cases h3 : c = 92
      · subst h3
        cases s with
        | nil => rw [rdT_bar] at h; cases h
        | cons d s =>
          rw [List.length_cons] at hs
          by_cases h4 : d = 34 ∨ d = 92
          · rw [rdT_esc h4] at h
            by_cases h5 : k = 4000
            · rw [if_pos h5] at h; cases h
            rw [if_neg h5] at h
            obtain ⟨a, ha, rfl⟩ := map_ok h
            obtain ⟨e1, e2, e3⟩ := ih s (by omega) (k + 1) a r (by omega) ha
            refine ⟨?_, fun x hx => ?_, by rw [List.length_cons]; omega⟩
            · rw [escL, if_pos h4, e1]; rfl
            · rcases List.mem_cons.1 hx with rfl | hx
              · rcases h4 with rfl | rfl <;> decide
              · exact e2 x hx
          · rw [rdT_odd ⟨fun e => h4 (.inl e), fun e => h4 (.inr e)⟩] at h; cases h
      · rw [rdT_char h1 h2 h3] at h
        by_cases h5 : k = 4000
        · rw [if_pos h5] at h; cases h
        rw [if_neg h5] at h
        obtain ⟨a, ha, rfl⟩ := map_ok h
        obtain ⟨e1, e2, e3⟩ := ih s (by omega) (k + 1) a r (by omega) ha
        refine ⟨?_, fun x hx => ?_, by rw [List.length_cons]; omega⟩
        · rw [escL, if_neg (by rintro (h | h) <;> contradiction), e1]; rfl
        · rcases List.mem_cons.1 hx with rfl | hx
          · omega
          · exact e2 x hx
theorem rdT_esc_ok : ∀ (w : List UInt8) (k : Nat) (r : List UInt8), (∀ c ∈ w, 32 ≤ c.toNat) → w.length + k ≤ 4000 → rdT k (escL w ++ 34 :: r) = .ok w r := by
  intro w
  induction w with
  | nil => intro k r _ _; exact rdT_end k r
  | cons c w ih =>
    intro k r hc hk
    rw [List.length_cons] at hk
    have h0 := hc c (by simp)
    have hi := ih (k + 1) r (fun x hx => hc x (by simp [hx])) (by omega)
    rw [escL]
    by_cases h : c = 34 ∨ c = 92
    · rw [if_pos h]
      show rdT k (92 :: c :: (escL w ++ 34 :: r)) = _
      rw [rdT_esc h, if_neg (by omega), hi]
      rfl
    · rw [if_neg h]
      show rdT k (c :: (escL w ++ 34 :: r)) = _
      rw [rdT_char (by omega) (fun e => h (.inl e)) (fun e => h (.inr e)), if_neg (by omega), hi]
      rfl
theorem head_front {a : List UInt8} (h : a ≠ []) (b : List UInt8) : (a ++ b).head? = a.head? := by
  cases a with
  | nil => exact absurd rfl h
  | cons x a => rfl
/-! ### numbers -/
theorem dec_of : ∀ (m : Nat) (d : List UInt8), d.length ≤ m → d ≠ [] → (∀ c ∈ d, isDig c = true) → (d.length = 1 ∨ d.head? ≠ some 48) → Lib.decDigits (decVal d) = d := by
  intro m
  induction m with
  | zero => intro d h hn; exact absurd (List.eq_nil_of_length_eq_zero (Nat.le_zero.1 h)) hn
  | succ m ih =>
    intro d h hn hd hz
    obtain ⟨a, c, rfl⟩ : ∃ a c, d = a ++ [c] := ⟨d.dropLast, d.getLast hn, (List.dropLast_concat_getLast hn).symm⟩
    have hc := hd c (by simp)
    unfold isDig at hc
    rw [Bool.and_eq_true, decide_eq_true_eq, decide_eq_true_eq] at hc
    have hcc : UInt8.ofNat (48 + (c.toNat - 48)) = c := by
      rw [show 48 + (c.toNat - 48) = c.toNat by omega]
      exact UInt8.ofNat_toNat
    rw [decVal_snoc]
    by_cases ha : a = []
    · subst ha
      show Lib.decDigits (10 * 0 + _) = _
      rw [Lib.decDigits_one (by omega), show 10 * 0 + (c.toNat - 48) = c.toNat - 48 by omega, hcc]
      rfl
    · have hal : 0 < a.length := List.length_pos_iff.2 ha
      rw [List.length_append, List.length_singleton] at h hz
      have hz2 : a.head? ≠ some 48 := by
        have := hz.resolve_left (by omega)
        rwa [head_front ha] at this
      have hi := ih a (by omega) ha (fun x hx => hd x (by simp [hx])) (.inr hz2)
      have h1 : 1 ≤ decVal a := by
        rcases Nat.eq_zero_or_pos (decVal a) with h0 | h0
        · rw [h0, Lib.decDigits_one (by decide)] at hi
          rw [← hi] at hz2
          exact absurd rfl hz2
        · exact h0
      rw [Lib.decDigits, dif_neg (by omega), show (10 * decVal a + (c.toNat - 48)) / 10 = decVal a by omega, show (10 * decVal a + (c.toNat - 48)) % 10 = c.toNat - 48 by omega, hi, hcc]
theorem dec_lead (u : Nat) : (Lib.decDigits u).length = 1 ∨ (Lib.decDigits u).head? ≠ some 48 := by
  induction u using Nat.strongRecOn with
  | ind u ih =>
    by_cases h : u < 10
    · rw [Lib.decDigits_one h]; exact .inl rfl
    · refine .inr ?_
      rw [Lib.decDigits, dif_neg h, head_front (dec_ne _)]
      rcases ih (u / 10) (by omega) with h1 | h1
      · by_cases h2 : u / 10 < 10
        · rw [Lib.decDigits_one h2]
          intro e
          simp only [List.head?_cons, Option.some.injEq] at e
          have := congrArg UInt8.toNat e
          rw [digit_of _ h2] at this
          have h48 : (48 : UInt8).toNat = 48 := rfl
          omega
        · exfalso
          rw [Lib.decDigits, dif_neg h2, List.length_append, List.length_singleton] at h1
          have := List.length_pos_iff.2 (dec_ne (u / 10 / 10))
          omega
      · exact h1
def minus (s : List UInt8) : Bool := decide (s.head? = some 45)
def afterSign (s : List UInt8) : List UInt8 := if minus s then s.tail else s
def rdN (s : List UInt8) : Rd Int :=
  if (afterSign s).takeWhile isDig = [] ∨ (1 < ((afterSign s).takeWhile isDig).length ∧ ((afterSign s).takeWhile isDig).head? = some 48) ∨ (minus s = true ∧ (afterSign s).takeWhile isDig = [48]) then .bad 20
  else if 1099511627776 < decVal ((afterSign s).takeWhile isDig) then .bad 2
  else .ok (if minus s then -(decVal ((afterSign s).takeWhile isDig) : Int) else decVal ((afterSign s).takeWhile isDig)) ((afterSign s).dropWhile isDig)
theorem takeWhile_all {p : UInt8 → Bool} : ∀ (l : List UInt8), ∀ c ∈ l.takeWhile p, p c = true := by
  intro l
  induction l with
  | nil => intro c h; cases h
  | cons a l ih =>
    intro c h
    rw [List.takeWhile_cons] at h
    split at h
    case isTrue hp =>
      rcases List.mem_cons.1 h with rfl | h
      · exact hp
      · exact ih c h
    case isFalse => cases h
theorem dropWhile_delim : ∀ (l : List UInt8), Delim (l.dropWhile isDig) := by
  intro l
  induction l with
  | nil => intro c t e; cases e
  | cons a l ih =>
    rw [List.dropWhile_cons]
    split
    case isTrue => exact ih
    case isFalse hp =>
      intro c t e
      injection e with e1 _
      rw [← e1]
      simpa using hp
theorem while_append : ∀ (d r : List UInt8), (∀ c ∈ d, isDig c = true) → Delim r → (d ++ r).takeWhile isDig = d ∧ (d ++ r).dropWhile isDig = r := by
  intro d
  induction d with
  | nil =>
    intro r _ hr
    cases r with
    | nil => exact ⟨rfl, rfl⟩
    | cons c r =>
      have := hr c r rfl
      rw [List.nil_append, List.takeWhile_cons, List.dropWhile_cons, this]
      exact ⟨rfl, rfl⟩
  | cons c d ih =>
    intro r hd hr
    obtain ⟨h1, h2⟩ := ih r (fun x hx => hd x (by simp [hx])) hr
    rw [List.cons_append, List.takeWhile_cons, List.dropWhile_cons, hd c (by simp)]
    simp only [if_true]
    exact ⟨by rw [h1], h2⟩
theorem rdN_ok {s r : List UInt8} {z : Int} (h : rdN s = .ok z r) : s = Lib.itoa z ++ r ∧ (-1099511627776 ≤ z ∧ z ≤ 1099511627776) ∧ Delim r := by
  unfold rdN at h
  split at h
  case isTrue => cases h
  case isFalse hno =>
    split at h
    case isTrue => cases h
    case isFalse hle =>
      simp only [Rd.ok.injEq] at h
      obtain ⟨hz, hr⟩ := h
      have hsp := List.takeWhile_append_dropWhile (p := isDig) (l := afterSign s)
      have hdd := takeWhile_all (p := isDig) (afterSign s)
      have hdl := dropWhile_delim (afterSign s)
      rw [hr] at hsp hdl
      generalize (afterSign s).takeWhile isDig = d at *
      have h1 : d ≠ [] := fun e => hno (.inl e)
      have h2 : d.length = 1 ∨ d.head? ≠ some 48 := by
        by_cases h3 : d.head? = some 48
        · refine .inl ?_
          have h4 : ¬ 1 < d.length := fun h4 => hno (.inr (.inl ⟨h4, h3⟩))
          have := List.length_pos_iff.2 h1
          omega
        · exact .inr h3
      have hv := dec_of d.length d (Nat.le_refl _) h1 hdd h2
      cases hm : minus s with
      | false =>
        rw [hm] at hz
        simp only [Bool.false_eq_true, if_false] at hz
        unfold afterSign at hsp
        rw [hm] at hsp
        simp only [Bool.false_eq_true, if_false] at hsp
        refine ⟨?_, by omega, hdl⟩
        unfold Lib.itoa
        rw [if_neg (by omega), ← hsp, ← hz, Int.toNat_natCast, hv]
      | true =>
        rw [hm] at hz
        simp only [if_true] at hz
        unfold afterSign at hsp
        rw [hm] at hsp
        simp only [if_true] at hsp
        have h0 : decVal d ≠ 0 := by
          intro h0
          rw [h0, Lib.decDigits_one (by decide)] at hv
          exact hno (.inr (.inr ⟨hm, hv.symm⟩))
        obtain ⟨t, rfl⟩ : ∃ t, s = 45 :: t := by
          unfold minus at hm
          rw [decide_eq_true_eq] at hm
          cases s with
          | nil => cases hm
          | cons c t =>
            simp only [List.head?_cons, Option.some.injEq] at hm
            exact ⟨t, by rw [hm]⟩
        refine ⟨?_, by omega, hdl⟩
        unfold Lib.itoa
        rw [if_pos (by omega), List.cons_append, show z.natAbs = decVal d by omega, hv]
        rw [List.tail_cons] at hsp
        rw [hsp]
theorem rdN_itoa {z : Int} {r : List UInt8} (h : -1099511627776 ≤ z ∧ z ≤ 1099511627776) (hr : Delim r) : rdN (Lib.itoa z ++ r) = .ok z r := by
  unfold Lib.itoa
  by_cases hz : z < 0
  · rw [if_pos hz]
    obtain ⟨d1, v1⟩ := dec_digits z.natAbs z.natAbs (Nat.le_refl _)
    obtain ⟨w1, w2⟩ := while_append _ r d1 hr
    have hm : minus (45 :: (Lib.decDigits z.natAbs) ++ r) = true := rfl
    have ha : afterSign (45 :: (Lib.decDigits z.natAbs) ++ r) = Lib.decDigits z.natAbs ++ r := by unfold afterSign; rw [hm]; rfl
    unfold rdN
    rw [ha, w1, w2, v1, hm]
    rw [if_neg, if_neg (by omega)]
    · simp only [if_true, Rd.ok.injEq, and_true]; omega
    · rintro (h1 | ⟨h1, h2⟩ | ⟨_, h2⟩)
      · exact dec_ne _ h1
      · rcases dec_lead z.natAbs with h3 | h3
        · omega
        · exact h3 h2
      · rw [h2] at v1
        have : decVal [48] = 0 := rfl
        omega
  · rw [if_neg hz]
    obtain ⟨d1, v1⟩ := dec_digits z.toNat z.toNat (Nat.le_refl _)
    obtain ⟨w1, w2⟩ := while_append _ r d1 hr
    have hm : minus (Lib.decDigits z.toNat ++ r) = false := by
      obtain ⟨c, t, hc, hd⟩ := dec_head z.toNat
      rw [hc]
      unfold minus
      rw [decide_eq_false_iff_not]
      intro e
      simp only [List.cons_append, List.head?_cons, Option.some.injEq] at e
      rw [e] at hd
      exact absurd hd (by decide)
    have ha : afterSign (Lib.decDigits z.toNat ++ r) = Lib.decDigits z.toNat ++ r := by unfold afterSign; rw [hm]; rfl
    unfold rdN
    rw [ha, w1, w2, v1, hm]
    rw [if_neg, if_neg (by omega)]
    · simp only [Bool.false_eq_true, if_false, Rd.ok.injEq, and_true]; omega
    · rintro (h1 | ⟨h1, h2⟩ | ⟨h1, _⟩)
      · exact dec_ne _ h1
      · rcases dec_lead z.toNat with h3 | h3
        · omega
        · exact h3 h2
      · cases h1
end Go.Proofs.YtmbmeidkmhajbaaDoor.V

/- How a text is read as a value, and that reading and writing lead to one another. Nothing of the program is named here. -/
namespace Go.Proofs.YtmbmeidkmhajbaaDoor.V
open Go

/-- values of a list, read one by one -/
def rdL (rv : Nat → List UInt8 → Rd (VT × Nat)) : Nat → Nat → List UInt8 → Rd (List VT × Nat)
  | 0, _, _ => .bad 3
  | f + 1, n, s =>
    match rv n s with
    | .bad e => .bad e
    | .ok _ [] => .bad 3
    | .ok (x, n1) (c :: r) => if c = 93 then .ok ([x], n1) r else if c = 44 then (rdL rv f n1 r).map (fun p => (x :: p.1, p.2)) else .bad 20
/-- a key and its colon; the one ahead of it, if there is one -/
def rdK (prev : Option (List UInt8)) : List UInt8 → Rd (List UInt8)
  | [] => .bad 3
  | c :: s => if c ≠ 34 then .bad 20 else
    match rdT 0 s with
    | .bad e => .bad e
    | .ok k s2 => if prev.any (fun p => !lessL p k) = true then .bad 23 else
      match s2 with
      | [] => .bad 3
      | c :: s3 => if c ≠ 58 then .bad 20 else .ok k s3
/-- values by keys, read one by one -/
def rdM (rv : Nat → List UInt8 → Rd (VT × Nat)) : Nat → Option (List UInt8) → Nat → List UInt8 → Rd (List VT × List (List UInt8) × Nat)
  | 0, _, _, _ => .bad 3
  | f + 1, prev, n, s =>
    match rdK prev s with
    | .bad e => .bad e
    | .ok k s1 =>
      match rv n s1 with
      | .bad e => .bad e
      | .ok _ [] => .bad 3
      | .ok (x, n1) (c :: r) => if c = 125 then .ok ([x], [k], n1) r else if c = 44 then (rdM rv f (some k) n1 r).map (fun p => (x :: p.1, k :: p.2.1, p.2.2)) else .bad 20
/-- a list behind its sign -/
def rdB (rv : Nat → List UInt8 → Rd (VT × Nat)) (n : Nat) (r : List UInt8) : Rd (VT × Nat) :=
  if r.head? = some 93 then .ok (.mk 3 0 [] [] [], n) r.tail else (rdL rv (r.length + 1) n r).map (fun p => (.mk 3 0 [] p.1 [], p.2))
def rdO (rv : Nat → List UInt8 → Rd (VT × Nat)) (n : Nat) (r : List UInt8) : Rd (VT × Nat) :=
  if r.head? = some 125 then .ok (.mk 4 0 [] [] [], n) r.tail else (rdM rv (r.length + 1) none n r).map (fun p => (.mk 4 0 [] p.1 p.2.1, p.2.2))
/-- a value, with so many levels left and n begun -/
def rdV : Nat → Nat → List UInt8 → Rd (VT × Nat)
  | 0, _, _ => .bad 21
  | _ + 1, n, [] => if n = 2000 then .bad 22 else .bad 3
  | L + 1, n, c :: r => if n = 2000 then .bad 22 else
    if c = 45 ∨ isDig c = true then (rdN (c :: r)).map (fun z => (.mk 1 z [] [] [], n + 1))
    else if c = 34 then (rdT 0 r).map (fun w => (.mk 2 0 w [] [], n + 1))
    else if c = 91 then rdB (rdV L) (n + 1) r
    else if c = 123 then rdO (rdV L) (n + 1) r
    else .bad 20
/-- a whole text -/
def rdP (s : List UInt8) : Rd VT :=
  if 65536 < s.length then .bad 2 else
    match rdV 12 0 s with
    | .bad e => .bad e
    | .ok (t, _) [] => .ok t []
    | .ok _ (_ :: _) => .bad 20

/-! ### what is read, written, is the text -/
theorem wrL_false {l : List VT} (h : l ≠ []) : wrL false l = 44 :: wrL true l := by
  cases l with
  | nil => exact absurd rfl h
  | cons x r => rw [wrL_cons, wrL_cons]; rfl
theorem wrM_false {l : List VT} (h : l ≠ []) (ks : List (List UInt8)) : wrM false l ks = 44 :: wrM true l ks := by
  cases l with
  | nil => exact absurd rfl h
  | cons x r => rw [wrM_cons, wrM_cons]; rfl
theorem head_tail {s : List UInt8} {c : UInt8} (h : s.head? = some c) : s = c :: s.tail := by
  cases s with
  | nil => cases h
  | cons a s => simp only [List.head?_cons, Option.some.injEq] at h; rw [h]; rfl
/-! ### what is written is read -/
def Comp (rv : Nat → List UInt8 → Rd (VT × Nat)) (d : Nat) : Prop := ∀ (n : Nat) (t : VT) (r : List UInt8), t.each = true → t.depth ≤ d → n + t.count ≤ 2000 → (t.kind = 1 → Delim r) → rv n (t.wr ++ r) = .ok (t, n + t.count) r
theorem wr_pos {t : VT} (h : t.each = true) : 1 ≤ t.wr.length := by
  obtain ⟨c, u, e, _⟩ := wr_head h
  rw [e, List.length_cons]
  omega
theorem wrL_long : ∀ (l : List VT) (b : Bool), eachL l = true → l.length ≤ (wrL b l).length := by
  intro l
  induction l with
  | nil => intro b _; exact Nat.zero_le _
  | cons x l ih =>
    intro b h
    rw [eachL_cons, Bool.and_eq_true] at h
    have h1 := wr_pos h.1
    have h2 := ih false h.2
    rw [wrL_cons, List.length_append, List.length_append, List.length_cons]
    omega
theorem wrM_long : ∀ (l : List VT) (b : Bool) (ks : List (List UInt8)), eachL l = true → l.length ≤ (wrM b l ks).length := by
  intro l
  induction l with
  | nil => intro b ks _; exact Nat.zero_le _
  | cons x l ih =>
    intro b ks h
    rw [eachL_cons, Bool.and_eq_true] at h
    have h1 := wr_pos h.1
    have h2 := ih false ks.tail h.2
    rw [wrM_cons]
    simp only [List.length_append, List.length_cons]
    omega
theorem delim_sep (c : UInt8) (r : List UInt8) (h : c = 93 ∨ c = 125 ∨ c = 44) : Delim (c :: r) := delim_at (by rcases h with rfl | rfl | rfl <;> decide)
theorem rdL_wr {rv : Nat → List UInt8 → Rd (VT × Nat)} {d : Nat} (H : Comp rv d) : ∀ (l : List VT) (f n : Nat) (r : List UInt8), l ≠ [] → eachL l = true → depthL l ≤ d → n + countL l ≤ 2000 → l.length ≤ f → rdL rv f n (wrL true l ++ 93 :: r) = .ok (l, n + countL l) r := by
  intro l
  induction l with
  | nil => intro f n r h; exact absurd rfl h
  | cons x l ih =>
    intro f n r _ he hd hc hf
    rw [eachL_cons, Bool.and_eq_true] at he
    rw [depthL_cons] at hd
    rw [countL_cons] at hc
    rw [List.length_cons] at hf
    obtain ⟨f, rfl⟩ : ∃ g, f = g + 1 := ⟨f - 1, by omega⟩
    by_cases hl : l = []
    · subst hl
      rw [countL_cons, countL_nil, wrL_cons, wrL_nil, rdL]
      have h1 := H n x (93 :: r) he.1 (by omega) (by omega) (fun _ => delim_sep 93 r (.inl rfl))
      rw [show (if true = true then ([] : List UInt8) else [44]) ++ (x.wr ++ []) ++ 93 :: r = x.wr ++ 93 :: r by simp, h1]
      simp only []
      rw [if_pos trivial]
      rfl
    · rw [countL_cons, wrL_cons, wrL_false hl, rdL]
      have h1 := H n x (44 :: (wrL true l ++ 93 :: r)) he.1 (by omega) (by omega) (fun _ => delim_sep 44 _ (.inr (.inr rfl)))
      rw [show (if true = true then ([] : List UInt8) else [44]) ++ (x.wr ++ 44 :: wrL true l) ++ 93 :: r = x.wr ++ 44 :: (wrL true l ++ 93 :: r) by simp, h1]
      simp only []
      rw [if_neg (by decide), if_pos trivial, ih f (n + x.count) r hl he.2 (by omega) (by omega) (by omega)]
      unfold Rd.map
      simp only [Rd.ok.injEq, Prod.mk.injEq, and_true, true_and]
      omega
theorem textOk_parts {k : List UInt8} (h : textOk k = true) : (∀ c ∈ k, 32 ≤ c.toNat) ∧ k.length ≤ 4000 := by
  unfold textOk at h
  rw [Bool.and_eq_true, List.all_eq_true, decide_eq_true_eq] at h
  exact ⟨fun c hc => of_decide_eq_true (h.1 c hc), h.2⟩
theorem rdK_wr {prev : Option (List UInt8)} {k r : List UInt8} (h : textOk k = true) (hp : ∀ p, prev = some p → lessL p k = true) : rdK prev (quotL k ++ 58 :: r) = .ok k r := by
  obtain ⟨h1, h2⟩ := textOk_parts h
  unfold quotL
  rw [List.cons_append, rdK, if_neg (by decide), show escL k ++ [34] ++ 58 :: r = escL k ++ 34 :: (58 :: r) by simp, rdT_esc_ok k 0 (58 :: r) h1 (by omega)]
  simp only []
  rw [if_neg, if_neg (by decide)]
  intro g
  cases prev with
  | none => simp at g
  | some p => simp [hp p rfl] at g
theorem keysOk_parts {k : List UInt8} {ks : List (List UInt8)} (h : keysOk (k :: ks) = true) : textOk k = true ∧ keysOk ks = true ∧ ∀ q, ks.head? = some q → lessL k q = true := by
  cases ks with
  | nil => rw [keysOk_one] at h; exact ⟨h, keysOk_nil, fun q e => by cases e⟩
  | cons q ks =>
    rw [keysOk_two, Bool.and_eq_true, Bool.and_eq_true] at h
    exact ⟨h.1.1, h.2, fun q' e => by simp only [List.head?_cons, Option.some.injEq] at e; rw [← e]; exact h.1.2⟩
theorem rdM_wr {rv : Nat → List UInt8 → Rd (VT × Nat)} {d : Nat} (H : Comp rv d) : ∀ (l : List VT) (ks : List (List UInt8)) (f : Nat) (prev : Option (List UInt8)) (n : Nat) (r : List UInt8), l ≠ [] → eachL l = true → depthL l ≤ d → n + countL l ≤ 2000 → l.length ≤ f → ks.length = l.length → keysOk ks = true → (∀ p q, prev = some p → ks.head? = some q → lessL p q = true) → rdM rv f prev n (wrM true l ks ++ 125 :: r) = .ok (l, ks, n + countL l) r := by
  intro l
  induction l with
  | nil => intro ks f prev n r h; exact absurd rfl h
  | cons x l ih =>
    intro ks f prev n r _ he hd hc hf hkl hk hp
    obtain ⟨k, ks, rfl⟩ : ∃ k t, ks = k :: t := by
      cases ks with
      | nil => simp at hkl
      | cons k t => exact ⟨k, t, rfl⟩
    obtain ⟨k1, k2, k3⟩ := keysOk_parts hk
    have hkr : ∀ u, rdK prev (quotL k ++ 58 :: u) = .ok k u := fun u => rdK_wr k1 (fun p hpe => hp p k hpe rfl)
    rw [eachL_cons, Bool.and_eq_true] at he
    rw [depthL_cons] at hd
    rw [countL_cons] at hc
    rw [List.length_cons] at hf
    have hkl : ks.length = l.length := by simpa using hkl
    obtain ⟨f, rfl⟩ : ∃ g, f = g + 1 := ⟨f - 1, by omega⟩
    by_cases hl : l = []
    · subst hl
      obtain rfl : ks = [] := List.eq_nil_of_length_eq_zero (by simpa using hkl)
      rw [countL_cons, countL_nil, wrM_cons, wrM_nil, rdM]
      have h1 := H n x (125 :: r) he.1 (by omega) (by omega) (fun _ => delim_sep 125 r (.inr (.inl rfl)))
      rw [show (if true = true then ([] : List UInt8) else [44]) ++ (quotL ([k].headD []) ++ 58 :: (x.wr ++ [])) ++ 125 :: r = quotL k ++ 58 :: (x.wr ++ 125 :: r) by simp, hkr]
      simp only []
      rw [h1]
      simp only []
      rw [if_pos trivial]
      rfl
    · rw [countL_cons, wrM_cons, List.tail_cons, wrM_false hl, rdM]
      have h1 := H n x (44 :: (wrM true l ks ++ 125 :: r)) he.1 (by omega) (by omega) (fun _ => delim_sep 44 _ (.inr (.inr rfl)))
      rw [show (if true = true then ([] : List UInt8) else [44]) ++ (quotL ((k :: ks).headD []) ++ 58 :: (x.wr ++ 44 :: wrM true l ks)) ++ 125 :: r = quotL k ++ 58 :: (x.wr ++ 44 :: (wrM true l ks ++ 125 :: r)) by simp, hkr]
      simp only []
      rw [h1]
      simp only []
      rw [if_neg (by decide), if_pos trivial, ih ks f (some k) (n + x.count) r hl he.2 (by omega) (by omega) (by omega) hkl k2 (fun p q hpe hq => by simp only [Option.some.injEq] at hpe; rw [← hpe]; exact k3 q hq)]
      unfold Rd.map
      simp only [Rd.ok.injEq, Prod.mk.injEq, and_true, true_and]
      omega
theorem oneB_parts {k n : Int} {s : List UInt8} {m : Nat} {ks : List (List UInt8)} (h : oneB k n s m ks = true) : (-1099511627776 ≤ n ∧ n ≤ 1099511627776) ∧ textOk s = true ∧ keysOk ks = true := by
  unfold oneB at h
  simp only [Bool.and_eq_true, decide_eq_true_eq] at h
  exact ⟨h.1.1.1.2, h.1.1.2, h.2⟩
theorem rdV_wr : ∀ d : Nat, Comp (rdV d) d := by
  intro d
  induction d with
  | zero => intro n t r _ h; obtain ⟨k, z, s, l, ks⟩ := t; rw [depth_eq] at h; omega
  | succ d ih =>
    intro n t r he hd hc hdl
    have hcp := count_pos t
    obtain ⟨k, z, s, l, ks⟩ := t
    rw [each_eq, Bool.and_eq_true] at he
    rw [depth_eq] at hd
    rw [count_eq] at hc hcp ⊢
    obtain ⟨p1, p2, p3⟩ := oneB_parts he.2
    rw [wr_eq]
    rcases one_of he.2 with ⟨rfl, rfl, e2, rfl⟩ | ⟨rfl, rfl, e2, rfl⟩ | ⟨rfl, rfl, rfl, rfl⟩ | ⟨rfl, rfl, rfl, e2⟩
    · obtain rfl := List.eq_nil_of_length_eq_zero e2
      rw [if_pos rfl, countL_nil]
      obtain ⟨c, u, e, hh⟩ := itoa_head z
      have hN := rdN_itoa p1 (hdl rfl)
      rw [e, List.cons_append] at hN ⊢
      rw [rdV, if_neg (by omega), if_pos (show c = 45 ∨ isDig c = true from hh), hN]
      rfl
    · obtain rfl := List.eq_nil_of_length_eq_zero e2
      rw [if_neg (by decide), if_pos rfl, countL_nil]
      obtain ⟨h1, h2⟩ := textOk_parts p2
      unfold quotL
      rw [List.cons_append, rdV, if_neg (by omega), if_neg (by decide), if_pos rfl, show escL s ++ [34] ++ r = escL s ++ 34 :: r by simp, rdT_esc_ok s 0 r h1 (by omega)]
      rfl
    · rw [if_neg (by decide), if_neg (by decide), if_neg (by decide), List.cons_append, rdV, if_neg (by omega), if_neg (by decide), if_neg (by decide), if_pos rfl]
      unfold rdB
      by_cases hl : l = []
      · subst hl
        rw [wrL_nil, countL_nil]
        rfl
      · have hne : (wrL true l ++ [93] ++ r).head? ≠ some 93 := by
          intro e
          have := head_tail e
          cases l with
          | nil => exact hl rfl
          | cons x l =>
            rw [eachL_cons, Bool.and_eq_true] at he
            rw [wrL_cons] at this
            exact head_no he.1.1 (wrL false l ++ [93] ++ r) _ 93 (.inl rfl) (by simpa using this)
        have hlen := wrL_long l true he.1
        rw [if_neg hne, show wrL true l ++ [93] ++ r = wrL true l ++ 93 :: r by simp, rdL_wr ih l _ (n + 1) r hl he.1 (by omega) (by omega) (by rw [List.length_append]; omega)]
        unfold Rd.map
        simp only [Rd.ok.injEq, Prod.mk.injEq, and_true, true_and]
        omega
    · rw [if_neg (by decide), if_neg (by decide), if_pos rfl, List.cons_append, rdV, if_neg (by omega), if_neg (by decide), if_neg (by decide), if_neg (by decide), if_pos rfl]
      unfold rdO
      by_cases hl : l = []
      · subst hl
        obtain rfl := List.eq_nil_of_length_eq_zero e2
        rw [wrM_nil, countL_nil]
        rfl
      · have hne : (wrM true l ks ++ [125] ++ r).head? ≠ some 125 := by
          cases l with
          | nil => exact absurd rfl hl
          | cons x l =>
            rw [wrM_cons]
            unfold quotL
            simp
        have hlen := wrM_long l true ks he.1
        rw [if_neg hne, show wrM true l ks ++ [125] ++ r = wrM true l ks ++ 125 :: r by simp, rdM_wr ih l ks _ none (n + 1) r hl he.1 (by omega) (by omega) (by rw [List.length_append]; omega) e2 p3 (fun p q h => by cases h)]
        unfold Rd.map
        simp only [Rd.ok.injEq, Prod.mk.injEq, and_true, true_and]
        omega

/-! ### whole texts -/
theorem rdP_wr {t : VT} (h : t.okB = true) (hl : t.wr.length ≤ 65536) : rdP t.wr = .ok t [] := by
  unfold VT.okB at h
  rw [Bool.and_eq_true, Bool.and_eq_true, decide_eq_true_eq, decide_eq_true_eq] at h
  have := rdV_wr 12 0 t [] h.2 h.1.2 (by omega) (fun _ c u e => by cases e)
  rw [List.append_nil] at this
  unfold rdP
  rw [if_neg (by omega), this]
end Go.Proofs.YtmbmeidkmhajbaaDoor.V

/- What is open stands on a stack: reading as a row of steps, and that these come to what reading by descent comes to. Nothing of the program is named here. -/
namespace Go.Proofs.YtmbmeidkmhajbaaDoor.V
open Go

/-- a list, or values by keys, that has not ended: what was read of it, and a bound of the bytes behind -/
structure Fr where
  map : Bool
  items : List VT
  keys : List (List UInt8)
  f : Nat
def Fr.kind (fr : Fr) : Int := if fr.map then 4 else 3
def Fr.last (fr : Fr) : UInt8 := if fr.map then 125 else 93
/-- what comes of it behind an item -/
def Fr.after (L : Nat) (fr : Fr) : Rd (VT × Nat) → Rd (VT × Nat)
  | .bad e => .bad e
  | .ok _ [] => .bad 3
  | .ok (x, n) (c :: r) => if c = fr.last then .ok (.mk fr.kind 0 [] (fr.items ++ [x]) fr.keys, n) r else
    if c = 44 then
      (if fr.map then (rdM (rdV L) fr.f fr.keys.getLast? n r).map (fun p => (.mk 4 0 [] (fr.items ++ x :: p.1) (fr.keys ++ p.2.1), p.2.2))
      else (rdL (rdV L) fr.f n r).map (fun p => (.mk 3 0 [] (fr.items ++ x :: p.1) fr.keys, p.2)))
    else .bad 20
/-- .. and of all, the innermost first -/
def plug : List Fr → Rd (VT × Nat) → Rd (VT × Nat)
  | [], R => R
  | fr :: fs, R => plug fs (fr.after (11 - fs.length) R)
theorem plug_bad : ∀ (fs : List Fr) (e : Int), plug fs (.bad e) = .bad e := by
  intro fs
  induction fs with
  | nil => intro e; rfl
  | cons fr fs ih => intro e; rw [plug]; exact ih e
theorem after_end (L : Nat) (fr : Fr) (x : VT) (n : Nat) : fr.after L (.ok (x, n) []) = .bad 3 := rfl
theorem after_close (L : Nat) (fr : Fr) (x : VT) (n : Nat) (r : List UInt8) : fr.after L (.ok (x, n) (fr.last :: r)) = .ok (.mk fr.kind 0 [] (fr.items ++ [x]) fr.keys, n) r := by
  rw [Fr.after, if_pos rfl]
theorem after_odd (L : Nat) (fr : Fr) (x : VT) (n : Nat) {c : UInt8} (r : List UInt8) (h : c ≠ fr.last) (h2 : c ≠ 44) : fr.after L (.ok (x, n) (c :: r)) = .bad 20 := by
  rw [Fr.after, if_neg h, if_neg h2]
theorem last_no (fr : Fr) : (44 : UInt8) ≠ fr.last := by
  unfold Fr.last
  cases fr.map <;> decide
/-- a list goes on behind a comma -/
theorem after_list (L : Nat) (it : List VT) (f : Nat) (x : VT) (n : Nat) (r : List UInt8) : (Fr.mk false it [] (f + 1)).after L (.ok (x, n) (44 :: r)) = (Fr.mk false (it ++ [x]) [] f).after L (rdV L n r) := by
  rw [Fr.after, if_neg (last_no _), if_pos rfl]
  simp only [Bool.false_eq_true, if_false]
  rw [rdL]
  cases rdV L n r with
  | bad e => rfl
  | ok p r1 =>
    obtain ⟨y, n1⟩ := p
    cases r1 with
    | nil => rfl
    | cons c r1 =>
      simp only [Fr.after, Fr.last, Fr.kind, Bool.false_eq_true, if_false]
      by_cases h1 : c = 93
      · rw [if_pos h1, if_pos h1]
        unfold Rd.map
        simp
      · rw [if_neg h1, if_neg h1]
        by_cases h2 : c = 44
        · rw [if_pos h2, if_pos h2]
          cases rdL (rdV L) f n1 r1 with
          | bad e => rfl
          | ok p r2 =>
            unfold Rd.map
            simp
        · rw [if_neg h2, if_neg h2]
          rfl
/-- behind a key -/
def keyed (L : Nat) (it : List VT) (ks : List (List UInt8)) (f n : Nat) : Rd (List UInt8) → Rd (VT × Nat)
  | .bad e => .bad e
  | .ok k s => (Fr.mk true it (ks ++ [k]) f).after L (rdV L n s)
theorem after_map (L : Nat) (it : List VT) (ks : List (List UInt8)) (f : Nat) (x : VT) (n : Nat) (r : List UInt8) : (Fr.mk true it ks (f + 1)).after L (.ok (x, n) (44 :: r)) = keyed L (it ++ [x]) ks f n (rdK ks.getLast? r) := by
  rw [Fr.after, if_neg (last_no _), if_pos rfl]
  simp only [if_true]
  rw [rdM]
  cases rdK ks.getLast? r with
  | bad e => rfl
  | ok k s =>
    simp only [keyed]
    cases rdV L n s with
    | bad e => rfl
    | ok p r1 =>
      obtain ⟨y, n1⟩ := p
      cases r1 with
      | nil => rfl
      | cons c r1 =>
        simp only [Fr.after, Fr.last, Fr.kind, if_true]
        by_cases h1 : c = 125
        · rw [if_pos h1, if_pos h1]
          unfold Rd.map
          simp
        · rw [if_neg h1, if_neg h1]
          by_cases h2 : c = 44
          · rw [if_pos h2, if_pos h2, List.getLast?_concat]
            cases rdM (rdV L) f (some k) n1 r1 with
            | bad e => rfl
            | ok p r2 =>
              unfold Rd.map
              simp
          · rw [if_neg h2, if_neg h2]
            rfl
/-- a list begins -/
theorem begin_list (L n : Nat) (r : List UInt8) (hn : n ≠ 2000) : rdV (L + 1) n (91 :: r) = if r.head? = some 93 then .ok (.mk 3 0 [] [] [], n + 1) r.tail else (Fr.mk false [] [] r.length).after L (rdV L (n + 1) r) := by
  rw [rdV, if_neg hn, if_neg (by decide), if_neg (by decide), if_pos rfl]
  unfold rdB
  by_cases h : r.head? = some 93
  · rw [if_pos h, if_pos h]
  · rw [if_neg h, if_neg h, rdL]
    cases rdV L (n + 1) r with
    | bad e => rfl
    | ok p r1 =>
      obtain ⟨y, n1⟩ := p
      cases r1 with
      | nil => rfl
      | cons c r1 =>
        simp only [Fr.after, Fr.last, Fr.kind, Bool.false_eq_true, if_false]
        by_cases h1 : c = 93
        · rw [if_pos h1, if_pos h1]
          rfl
        · rw [if_neg h1, if_neg h1]
          by_cases h2 : c = 44
          · rw [if_pos h2, if_pos h2]
            cases rdL (rdV L) r.length n1 r1 with
            | bad e => rfl
            | ok p r2 => rfl
          · rw [if_neg h2, if_neg h2]
            rfl
theorem begin_map (L n : Nat) (r : List UInt8) (hn : n ≠ 2000) : rdV (L + 1) n (123 :: r) = if r.head? = some 125 then .ok (.mk 4 0 [] [] [], n + 1) r.tail else keyed L [] [] r.length (n + 1) (rdK none r) := by
  rw [rdV, if_neg hn, if_neg (by decide), if_neg (by decide), if_neg (by decide), if_pos rfl]
  unfold rdO
  by_cases h : r.head? = some 125
  · rw [if_pos h, if_pos h]
  · rw [if_neg h, if_neg h, rdM]
    cases rdK none r with
    | bad e => rfl
    | ok k s =>
      simp only [keyed]
      cases rdV L (n + 1) s with
      | bad e => rfl
      | ok p r1 =>
        obtain ⟨y, n1⟩ := p
        cases r1 with
        | nil => rfl
        | cons c r1 =>
          simp only [Fr.after, Fr.last, Fr.kind, if_true]
          by_cases h1 : c = 125
          · rw [if_pos h1, if_pos h1]
            rfl
          · rw [if_neg h1, if_neg h1]
            by_cases h2 : c = 44
            · rw [if_pos h2, if_pos h2, List.nil_append, List.getLast?_singleton]
              cases rdM (rdV L) r.length (some k) n1 r1 with
              | bad e => rfl
              | ok p r2 => rfl
            · rw [if_neg h2, if_neg h2]
              rfl
/-- the one of no levels, of too many values, of nothing, of a number, of a text, of a byte that begins none -/
theorem begin_deep (n : Nat) (s : List UInt8) : rdV 0 n s = .bad 21 := by rw [rdV]
theorem begin_many (L : Nat) (s : List UInt8) : rdV (L + 1) 2000 s = .bad 22 := by cases s <;> rw [rdV, if_pos rfl]
theorem begin_none (L n : Nat) (hn : n ≠ 2000) : rdV (L + 1) n [] = .bad 3 := by rw [rdV, if_neg hn]
theorem begin_num (L n : Nat) {c : UInt8} (r : List UInt8) (hn : n ≠ 2000) (h : c = 45 ∨ isDig c = true) : rdV (L + 1) n (c :: r) = (rdN (c :: r)).map (fun z => (.mk 1 z [] [] [], n + 1)) := by rw [rdV, if_neg hn, if_pos h]
theorem begin_txt (L n : Nat) (r : List UInt8) (hn : n ≠ 2000) : rdV (L + 1) n (34 :: r) = (rdT 0 r).map (fun w => (.mk 2 0 w [] [], n + 1)) := by rw [rdV, if_neg hn, if_neg (by decide), if_pos rfl]
theorem begin_odd (L n : Nat) {c : UInt8} (r : List UInt8) (hn : n ≠ 2000) (h : ¬ (c = 45 ∨ isDig c = true)) (h1 : c ≠ 34) (h2 : c ≠ 91) (h3 : c ≠ 123) : rdV (L + 1) n (c :: r) = .bad 20 := by rw [rdV, if_neg hn, if_neg h, if_neg h1, if_neg h2, if_neg h3]
end Go.Proofs.YtmbmeidkmhajbaaDoor.V

