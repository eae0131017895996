/- Texts that stand on one another, put together: PTimes, PShow, PWithY, CSignMath, CText. -/
import Derived.Test.YtmekmlgpkbfjpaaGreatDoorK6
/- The contract of times. -/
namespace Go.Proofs.YtmekmlgpkbfjpaaGreatDoor.C
open Go.RowKit Go.Sort Go.Proofs.YtmekmlgpkbfjpaaGreatDoor.F
set_option maxRecDepth 100000
theorem rowScP : RowT Tryz.prog 67 4 := ⟨⟨_, Tryz.underlying67, rfl⟩, by kernel_rfl⟩
theorem word_bit (n j r : Nat) (hr : r < 64) : wordN n j / 2 ^ r % 2 = n / 2 ^ (64 * j + r) % 2 := by
  unfold wordN
  have e : (18446744073709551616 : Nat) ^ j = 2 ^ (64 * j) := by rw [Nat.pow_mul]
  have e2 : (18446744073709551616 : Nat) = 2 ^ (64 - r) * 2 ^ r := by rw [← Nat.pow_add, show 64 - r + r = 64 by omega]
  rw [e, Nat.pow_add, ← Nat.div_div_eq_div_mul, e2, Nat.mul_comm (2 ^ (64 - r)), Nat.mod_mul_right_div_self]
  generalize n / 2 ^ (64 * j) / 2 ^ r = x
  have e3 : (2 : Nat) ^ (64 - r) = 2 * 2 ^ (63 - r) := by rw [← Nat.pow_succ', show (63 - r).succ = 64 - r by omega]
  rw [e3, Nat.mod_mul_right_mod]
theorem and_one (q r : Nat) (hq : q < 18446744073709551616) : bits BinOp.and IntKind.u64 ((q : Int) / 2 ^ r) 1 = ((q / 2 ^ r % 2 : Nat) : Int) := by
  have h1 : ((q : Int) / 2 ^ r) = ((q / 2 ^ r : Nat) : Int) := by rw [Int.natCast_ediv, Int.natCast_pow]; rfl
  have h2 : q / 2 ^ r < 18446744073709551616 := Nat.lt_of_le_of_lt (Nat.div_le_self _ _) hq
  rw [h1]
  have h3 := u64_and_nat (q / 2 ^ r) 1 h2 (by decide)
  rw [Nat.and_one_is_mod] at h3
  exact h3
theorem feA_at (n j : Nat) (h : j < 4) : (feA n)[j]? = some (w64 (wordN n j)) := by
  rw [feA_words]
  match j, h with
  | 0, _ | 1, _ | 2, _ | 3, _ => rfl
attribute [local irreducible] feA ptA
set_option maxHeartbeats 1600000 in
theorem wtimes_any (F : FieldOk) (u : N4) (n : Nat) (hu : u.Lt) (W : World) (hT : PtTab W) :
    Calls Tryz.prog 104 #[pt u, fe n] W fun e w' => e = .returned (pt (tN n u 256)) ∧ Below W.heap.size W w' := by
  have hT0 := Lib.hid hT
  have HZ := Lib.hid (fun w hT => wzero_any F w hT)
  have HP := Lib.hid (fun (a b : N4) (ha : a.Lt) (hb : b.Lt) w hT => wplus_any F a b ha hb w hT)
  have HU := Lib.hid hu
  have H0 : tN n u 0 = zeroN := rfl
  have HS : Hid (∀ k, tN n u (k + 1) = stepN u (tN n u k) (n / 2 ^ (255 - k) % 2)) := Lib.hid (fun k => rfl)
  have HL := Lib.hid (tN_lt n u)
  rw [← H0] at HZ
  generalize tN n u = t at *
  clear H0 hT hu
  go_enter Tryz.func104, Tryz.ntmps104
  have hp := ((Lies.new W 151 (ptA u)).alloc (.cells (feA n) 67)).alloc (.cells z16P 151)
  have hn : Lies ((W.alloc (.cells (ptA u) 151)).alloc (.cells (feA n) 67)) (W.heap.size + 1) 67 (feA n) := heap_alloc2_new W _ _
  replace hn := hn.alloc (.cells z16P 151)
  have hr := lies3 W (.cells (ptA u) 151) (.cells (feA n) 67) 151 z16P
  have hB := (((Below.refl W.heap.size W).alloc (Nat.le_refl _) (.cells (ptA u) 151)).alloc (by simp) (.cells (feA n) 67)).alloc (by simp; omega) (.cells z16P 151)
  go_upto_region 1 with fail
  generalize World.alloc (World.alloc (World.alloc W _) _) _ = w0 at *
  have hT := hT0.out.on hB
  go_upto_region 2 with (first
    | (go_at_call 143; (with_reducible refine (HZ.out _ hT).mono ?_); rintro e u1 ⟨rfl, hb⟩; replace hp := hp.on hb; replace hn := hn.on hb; replace hr := hr.on hb; replace hB := below_on hB hb; clear hb)
    | ((with_reducible refine wpL_bld (pt (t 0)) ?_ ?_); kernel_rfl)
    | ((with_reducible refine wpL_store u1.heap.size 151 _ (ptA (t 0)) 16 rowWk ?_ (ptA_size _) (ptA_one _) (Lies.new u1 _ _) ?_ ?_ ?_); rfl; rfl; rfl))
  have osu := hr.lt
  have hsu := newly_lies u1 151 z16P (ptA (t 0))
  have hnw := newly u1 (.cells z16P 151) (ptA (t 0))
  replace hp := hp.on hnw
  replace hn := hn.on hnw
  replace hr := hr.on hnw
  replace hB := below_on hB hnw
  clear hnw hT
  generalize World.setRow _ _ _ = w1 at *
  generalize u1.heap.size = gsu at *
  go_wp2_with fail
  go_loopw [6] (fun ix wr => ∃ k : Nat, k ≤ 256 ∧ ix = .int .i64 (255 - (k : Int)) ∧ Lies wr gsu 151 (ptA (t k)) ∧ Lies wr W.heap.size 151 (ptA u) ∧ Lies wr (W.heap.size + 1) 67 (feA n) ∧ Lies wr (W.heap.size + 2) 151 z16P ∧ Hid (W.heap.size + 3 ≤ gsu) ∧ Below W.heap.size W wr) (fun ix _ => (intOf ix + 1).toNat)
  case atStart => exact ⟨0, by omega, rfl, hsu, hp, hn, hr, Lib.hid osu, hB⟩
  case round =>
    clear hsu hp hn hr hB osu
    obtain ⟨k, hk, rfl, hsu, hp, hn, hr, HG, hB⟩ := hrel
    have og := HG.out
    by_cases hlt : k < 256
    · obtain ⟨i, hik⟩ : ∃ i : Nat, i + k = 255 := ⟨255 - k, by omega⟩
      have hix : (255 - (k : Int)) = (i : Int) := by omega
      rw [hix]
      have hT := hT0.out.on hB
      go_upto_region 6 with (first
        | ((with_reducible refine wpL_load gsu 151 (ptA (t k)) 16 rowWk (ptA_size _) hsu ?_ ?_); rfl)
        | (go_at_call 106; (with_reducible refine (HP.out (t k) (t k) (HL.out k) (HL.out k) _ hT).mono ?_); rintro e w1 ⟨rfl, hb⟩; replace hsu := hsu.on hb; replace hp := hp.on hb; replace hn := hn.on hb; replace hr := hr.on hb; replace hB := below_on hB hb; clear hb)
        | ((with_reducible refine wpL_store gsu 151 (ptA (t k)) (ptA (plusN (t k) (t k))) 16 rowWk (ptA_size _) (ptA_size _) (ptA_one _) hsu ?_ ?_ ?_); rfl; rfl))
      clear hT
      replace hsu := hsu.row (ptA (plusN (t k) (t k)))
      replace hp := hp.rowFar (show W.heap.size ≠ gsu by omega) (ptA (plusN (t k) (t k)))
      replace hn := hn.rowFar (show W.heap.size + 1 ≠ gsu by omega) (ptA (plusN (t k) (t k)))
      replace hr := hr.rowFar (show W.heap.size + 2 ≠ gsu by omega) (ptA (plusN (t k) (t k)))
      replace hB := below_rowSet hB (show W.heap.size ≤ gsu by omega) (ptA (plusN (t k) (t k)))
      generalize World.setRow _ _ _ = w2 at *
      have hstep := HS.out k
      rw [show 255 - k = i by omega] at hstep
      obtain ⟨j, r, hij, hr64, hj4⟩ : ∃ j r : Nat, i = 64 * j + r ∧ r < 64 ∧ j < 4 := ⟨i / 64, i % 64, by omega, by omega, by omega⟩
      have hq : Int.tdiv (i : Int) 64 = (j : Int) := by rw [Int.tdiv_eq_ediv_of_nonneg (by omega)]; omega
      have hm : Int.tmod (i : Int) 64 = (r : Int) := by rw [Int.tmod_eq_emod_of_nonneg (by omega)]; omega
      have c := (hn.cell j).trans (feA_at n j hj4)
      have hand := and_one (wordN n j) r (wordN_lt n j)
      rw [word_bit n j r hr64, ← hij] at hand
      have hqb := wordN_lt n j
      generalize wordN n j = q at *
      by_cases hb1 : n / 2 ^ i % 2 = 1
      · rw [hb1] at hand
        rw [stepN, if_pos hb1] at hstep
        have HST := Lib.hid hstep
        clear hstep hb1 hij
        have hT := hT0.out.on hB
        go_upto_region 7 with fail
        clear c hand hqb hq hm
        go_wp2_with (first
          | ((with_reducible refine wpL_load gsu 151 (ptA (plusN (t k) (t k))) 16 rowWk (ptA_size _) hsu ?_ ?_); rfl)
          | ((with_reducible refine wpL_load (W.heap.size) 151 (ptA u) 16 rowWk (ptA_size _) hp ?_ ?_); rfl)
          | (go_at_call 106; (with_reducible refine (HP.out (plusN (t k) (t k)) u (plusN_lt _ _) HU.out _ hT).mono ?_); rintro e w3 ⟨rfl, hb⟩; replace hsu := hsu.on hb; replace hp := hp.on hb; replace hn := hn.on hb; replace hr := hr.on hb; replace hB := below_on hB hb; clear hb)
          | ((with_reducible refine wpL_store gsu 151 (ptA (plusN (t k) (t k))) (ptA (plusN (plusN (t k) (t k)) u)) 16 rowWk (ptA_size _) (ptA_size _) (ptA_one _) hsu ?_ ?_ ?_); rfl; rfl))
        go_roundw
        case rel => exact ⟨k + 1, by omega, by congr 1; omega, by rw [HST.out]; exact hsu.row _, hp.rowFar (by omega) _, hn.rowFar (by omega) _, hr.rowFar (by omega) _, HG, below_rowSet hB (by omega) _⟩
        case measure => simp [intOf]
      · have hb0 : n / 2 ^ i % 2 = 0 := by omega
        rw [hb0] at hand
        rw [stepN, if_neg hb1] at hstep
        have HST := Lib.hid hstep
        clear hstep hb1 hb0 hij
        go_wp2_with fail
        go_roundw
        case rel => exact ⟨k + 1, by omega, by congr 1; omega, by rw [HST.out]; exact hsu, hp, hn, hr, HG, hB⟩
        case measure => simp [intOf]
    · obtain rfl : k = 256 := by omega
      go_wp2_with (first | ((with_reducible refine wpL_load gsu 151 (ptA (t 256)) 16 rowWk (ptA_size _) hsu ?_ ?_); rfl) | ((with_reducible refine wpL_store (W.heap.size + 2) 151 _ (ptA (t 256)) 16 rowWk rfl (ptA_size _) (ptA_one _) hr ?_ ?_ ?_); rfl; rfl))
      exact bodyPost_ret (results_row Tryz.results104 rowWk (ptA_size _) (hr.row _) rfl) rfl ⟨rfl, below_rowSet hB (by omega) _⟩
end Go.Proofs.YtmekmlgpkbfjpaaGreatDoor.C

/- The contracts of Right, Same, Add, Neg and Mul. -/
namespace Go.Proofs.YtmekmlgpkbfjpaaGreatDoor.C
open Go.RowKit Go.Sort Go.Proofs.YtmekmlgpkbfjpaaGreatDoor.F
set_option maxRecDepth 100000

/-- a variable that is a whole block is read under a guard -/
theorem wpL_load_gP {P : Program} {ops : Array Oper} {rest : List Oper} {a : Act} {w : World} {Q : Exit → Act → World → Prop} {t' : TypeId} {pos : String} {after : Array Edge} {gd : Option (Nat × Bool)} {d : Option Tmp} {x : Tmp} {ty : TypeId} (g : Nat) (t : TypeId) (cs : Array Value) (n : Nat) (hT : RowT P ty n) (hn : cs.size = n) (hg : Lies w g t cs)
    (hw : Region.wanted ⟨d, .load ty (.tmp x), t', pos, after, gd⟩ (yielded ops a.tmps) = true) (hx : a.eval (.tmp x) = .pointer (some ⟨g, 0, none⟩)) (h : wpList P ops Q rest (a.put d (.agg cs)) w) : wpList P ops Q (⟨d, .load ty (.tmp x), t', pos, after, gd⟩ :: rest) a w := by
  obtain ⟨⟨ds, hu, hd⟩, hi⟩ := hT
  unfold wpList
  rw [if_pos hw]
  exact .inl (wp_load_row ty (.tmp x) rfl g hx t cs (0, 0) ds hg hu (by cases ds <;> first | rfl | simp [TypeDesc.isRow] at hd) (by rw [hi, hn]) h)

/-! ### operations of a region that draws its order, taken one by one -/
section
variable {P : Program} {md : Region.Mode} {ops : Array Oper} {Q : Exit → Act → World → Prop} {S : World → Prop} {a : Act} {w w' : World}
theorem wpOp_val {i : Nat} {o : Oper} {v : Value} {K : Act → World → Prop} (hi : ops[i]? = some o) (hw : Region.wanted o (yielded ops a.tmps) = true) (hr : (execOp a.eval o).run P w = .ok (.value v) w') (h : K (a.put o.dst v) w') : wpOp P ops Q i K a w := by
  unfold Go.wpOp
  simp only [hi]
  simp only [hw, if_true, Oper.wp, hr, Oper.upon]
  exact .inl h
theorem wpOp_skp {i : Nat} {o : Oper} {K : Act → World → Prop} (hi : ops[i]? = some o) (hw : Region.wanted o (yielded ops a.tmps) = true) (hr : (execOp a.eval o).run P w = .ok .skip w') (h : K (a.put o.dst undef) w') : wpOp P ops Q i K a w := by
  unfold Go.wpOp
  simp only [hi]
  simp only [hw, if_true, Oper.wp, hr, Oper.upon]
  exact .inl h
theorem wp_held_calm {id : Nat} {K : Act → World → Prop} {Q : Exit → Act → World → Prop} (n : Nat) (hn : ops.size = n) (hm : P.follows .mixedOrders = true)
    (h : wpAnyH P .any ops (Exit.then K (Calm Q)) S n (Array.replicate n false) a { w with drawn := w.drawn + 1 }) : (Code.region id ops true).wp P (Exit.then K Q) a w := by
  subst hn
  exact Code.wp_mono (Q := Exit.then K (Calm Q)) calm_then (wp_region_held hm h)
theorem held_done {K : Act → World → Prop} {Q : Exit → Act → World → Prop} {listed : Array Bool} {fuel : Nat} (hr : Region.ready md ops listed = []) (h : Exit.then K Q .normal a w) : wpAnyH P md ops (Exit.then K (Calm Q)) S fuel listed a w := wpAnyH_done hr (show Exit.then K (Calm Q) .normal a w from h) fuel
theorem held_take {K : Act → World → Prop} {Q : Exit → Act → World → Prop} {fuel : Nat} {listed : Array Bool} (i : Nat) (v : Value) {oi : Oper} (hi : ops[i]? = some oi) (hs : Region.noSelect ops = true) (hf : Region.free md ops listed i = true) (hr : (Region.ready md ops listed).contains i = true)
    (hw : Region.wanted oi (yielded ops a.tmps) = true) (hy : ∀ w, S w → (execOp a.eval oi).run P w = .ok (.value v) w) (hS : S w) (h : wpAnyH P md ops (Exit.then K (Calm Q)) S fuel (listed.setIfInBounds i true) (a.put oi.dst v) w) : wpAnyH P md ops (Exit.then K (Calm Q)) S (fuel + 1) listed a w :=
  wpAnyH_take hi hs hf hr (fun c a w h => calm_panic c _ _ a w h) (.inl ⟨hw, hy⟩) hS h
theorem held_one {fuel : Nat} {listed : Array Bool} (i : Nat) (hr : Region.ready md ops listed = [i]) (h : wpOp P ops Q i (fun a' w' => S w' ∧ wpAnyH P md ops Q S fuel (listed.setIfInBounds i true) a' w') a w) : wpAnyH P md ops Q S (fuel + 1) listed a w :=
  wpAnyH_all hr (by simp) (fun j hj => by rw [List.mem_singleton.1 hj]; exact h)
theorem held_two {fuel : Nat} {listed : Array Bool} (i j : Nat) (hr : Region.ready md ops listed = [i, j]) (h : wpOp P ops Q i (fun a' w' => S w' ∧ wpAnyH P md ops Q S fuel (listed.setIfInBounds i true) a' w') a w) (k : wpOp P ops Q j (fun a' w' => S w' ∧ wpAnyH P md ops Q S fuel (listed.setIfInBounds j true) a' w') a w) : wpAnyH P md ops Q S (fuel + 1) listed a w :=
  wpAnyH_all hr (by simp) (fun l hl => by
    simp only [List.mem_cons, List.not_mem_nil, or_false] at hl
    rcases hl with rfl | rfl
    · exact h
    · exact k)
theorem exec_store {o : Oper} {x y : Operand} {ty : TypeId} (ho : o.op = .store ty x y) (g t : Nat) (old cs : Array Value) (n : Nat) (hT : RowT P ty n) (hold : old.size = n) (hn : cs.size = n) (h1 : Ones cs) (hg : Lies w g t old) (hx : a.eval x = .pointer (some ⟨g, 0, none⟩)) (hy : a.eval y = .agg cs) : (execOp a.eval o).run P w = .ok .skip (w.setRow g cs) := by
  unfold execOp
  simp only [ho, hx, hy, Instr.storeAt, Instr.sureAddr, Sem.run_bind, Sem.run_pure, Result.andThen_ok, run_storeVar_row w g t ty old cs hg (by rw [hT.2, hn]) (by rw [hold, hn]) h1]
end
attribute [local irreducible] feA ptA
set_option maxHeartbeats 1600000 in
theorem showAdd (F : FieldOk) (u v : N4) (W : World) (hu : u.Lt) (hv : v.Lt) (hT : PtTab W) :
    Calls Tryz.prog 66 #[pt u, pt v] W fun e w' => e = .returned (if (u.right && v.right) = true then .tuple #[pt (plusN u v), .int .i64 0] else .tuple #[pt noneN, .int .i64 1]) ∧ Below W.heap.size W w' := by
  have hT0 := Lib.hid hT
  have HR := Lib.hid (fun w hT => wright_any F u hu w hT)
  have HQ := Lib.hid (fun w hT => wright_any F v hv w hT)
  have HS := Lib.hid (fun w hT => wplus_any F u v hu hv w hT)
  generalize u.right = R1 at *
  generalize v.right = R2 at *
  generalize plusN u v = r at *
  obtain ⟨res, hres⟩ : ∃ res, (if (R1 && R2) = true then Value.tuple #[pt r, .int .i64 0] else .tuple #[pt noneN, .int .i64 1]) = res := ⟨_, rfl⟩
  rw [hres]
  have HC : Hid ((R1 = true ∧ R2 = true ∧ res = .tuple #[pt r, .int .i64 0]) ∨ (R1 = true ∧ R2 = false ∧ res = .tuple #[pt noneN, .int .i64 1]) ∨ (R1 = false ∧ res = .tuple #[pt noneN, .int .i64 1])) := Lib.hid (by rw [← hres]; cases R1 <;> cases R2 <;> simp)
  clear hT hu hv hres
  go_enter Tryz.func66, Tryz.ntmps66
  have hp := ((Lies.new W 74 (ptA u)).alloc (.cells (ptA v) 74)).alloc (.cells z16P 74)
  have hq : Lies ((W.alloc (.cells (ptA u) 74)).alloc (.cells (ptA v) 74)) (W.heap.size + 1) 74 (ptA v) := heap_alloc2_new W _ _
  replace hq := hq.alloc (.cells z16P 74)
  have hr := lies3 W (.cells (ptA u) 74) (.cells (ptA v) 74) 74 z16P
  have hB := (((Below.refl W.heap.size W).alloc (Nat.le_refl _) (.cells (ptA u) 74)).alloc (by simp) (.cells (ptA v) 74)).alloc (by simp; omega) (.cells z16P 74)
  go_upto_region 1 with fail
  generalize World.alloc (World.alloc (World.alloc W _) _) _ = w0 at *
  refine wp_held_calm (S := fun w' => Lies w' (W.heap.size) 74 (ptA u) ∧ Lies w' (W.heap.size + 1) 74 (ptA v)) 8 rfl (by kernel_rfl) ?_
  have hpd : Lies { w0 with drawn := w0.drawn + 1 } _ _ _ := hp.drew
  have hqd : Lies { w0 with drawn := w0.drawn + 1 } _ _ _ := hq.drew
  have hrd : Lies { w0 with drawn := w0.drawn + 1 } _ _ _ := hr.drew
  have hBd : Below W.heap.size W { w0 with drawn := w0.drawn + 1 } := hB.drew
  clear hp hq hr hB
  generalize ({ w0 with drawn := w0.drawn + 1 } : World) = wd at *
  refine held_take 0 (pt u) rfl (by kernel_rfl) (by kernel_rfl) (by kernel_rfl) rfl (fun w hS => run_load_row rowPt (ptA_size _) _ hS.1 (Below.refl _ _) rfl) ⟨hpd, hqd⟩ ?_
  refine held_take 1 (pt u) rfl (by kernel_rfl) (by kernel_rfl) (by kernel_rfl) rfl (fun w hS => by kernel_rfl) ⟨hpd, hqd⟩ ?_
  refine held_take 2 (pt v) rfl (by kernel_rfl) (by kernel_rfl) (by kernel_rfl) rfl (fun w hS => run_load_row rowPt (ptA_size _) _ hS.2 (Below.refl _ _) rfl) ⟨hpd, hqd⟩ ?_
  refine held_take 3 (pt v) rfl (by kernel_rfl) (by kernel_rfl) (by kernel_rfl) rfl (fun w hS => by kernel_rfl) ⟨hpd, hqd⟩ ?_
  have ltp := hpd.lt
  have ltq := hqd.lt
  have ltr := hrd.lt
  have hsz := hBd.size
  refine held_two 4 5 (by kernel_rfl) ?_ ?_
  · refine wpOp_val rfl rfl (allocWk rfl _ _) ⟨⟨hpd.alloc _, hqd.alloc _⟩, ?_⟩
    have hwa := Lies.new wd 151 z16P
    have hp := hpd.alloc (.cells z16P 151)
    have hq := hqd.alloc (.cells z16P 151)
    have hr := hrd.alloc (.cells z16P 151)
    have hB := hBd.alloc hBd.size (.cells z16P 151)
    have ltwa := hwa.lt
    generalize World.alloc wd _ = w1 at *
    generalize wd.heap.size = gwa at *
    refine held_one 5 (by kernel_rfl) (wpOp_val rfl rfl (allocWk rfl _ _) ⟨⟨hp.alloc _, hq.alloc _⟩, ?_⟩)
    have hwq := Lies.new w1 151 z16P
    replace hp := hp.alloc (.cells z16P 151)
    replace hq := hq.alloc (.cells z16P 151)
    replace hr := hr.alloc (.cells z16P 151)
    replace hwa := hwa.alloc (.cells z16P 151)
    replace hB := hB.alloc hB.size (.cells z16P 151)
    generalize World.alloc w1 _ = w2 at *
    generalize w1.heap.size = gwq at *
    have hne : gwa ≠ gwq := by omega
    refine held_one 6 (by kernel_rfl) (wpOp_skp rfl rfl (exec_store rfl gwa 151 z16P (ptA u) 16 rowWk rfl (ptA_size _) (ptA_one _) hwa rfl rfl) ⟨⟨hp.rowFar (by omega) _, hq.rowFar (by omega) _⟩, ?_⟩)
    replace hp := hp.rowFar (show W.heap.size ≠ gwa by omega) (ptA u)
    replace hq := hq.rowFar (show W.heap.size + 1 ≠ gwa by omega) (ptA u)
    replace hr := hr.rowFar (show W.heap.size + 2 ≠ gwa by omega) (ptA u)
    replace hwq := hwq.rowFar (show gwq ≠ gwa by omega) (ptA u)
    replace hwa := hwa.row (ptA u)
    replace hB := below_rowSet hB (show W.heap.size ≤ gwa by omega) (ptA u)
    generalize World.setRow _ _ _ = w3 at *
    refine held_one 7 (by kernel_rfl) (wpOp_skp rfl rfl (exec_store rfl gwq 151 z16P (ptA v) 16 rowWk rfl (ptA_size _) (ptA_one _) hwq rfl rfl) ⟨⟨hp.rowFar (by omega) _, hq.rowFar (by omega) _⟩, ?_⟩)
    replace hp := hp.rowFar (show W.heap.size ≠ gwq by omega) (ptA v)
    replace hq := hq.rowFar (show W.heap.size + 1 ≠ gwq by omega) (ptA v)
    replace hr := hr.rowFar (show W.heap.size + 2 ≠ gwq by omega) (ptA v)
    replace hwa := hwa.rowFar (show gwa ≠ gwq by omega) (ptA v)
    replace hwq := hwq.row (ptA v)
    replace hB := below_rowSet hB (show W.heap.size ≤ gwq by omega) (ptA v)
    generalize World.setRow _ _ _ = w4 at *
    refine held_done (by kernel_rfl) ?_
    simp only [Act.put, List.setIfInBounds_toArray]
    clear hpd ltp hqd ltq hrd ltr hBd ltwa hsz
    have hT := hT0.out.on hB
    rcases HC.out with ⟨rfl, rfl, rfl⟩ | ⟨rfl, rfl, rfl⟩ | ⟨rfl, rfl⟩
    · go_wp2_with (first
      | ((with_reducible refine wpL_load (gwa) 151 (ptA u) 16 rowWk (ptA_size _) hwa ?_ ?_); rfl)
      | ((with_reducible refine wpL_load_gP (gwq) 151 (ptA v) 16 rowWk (ptA_size _) hwq ?_ ?_ ?_); rfl; rfl)
      | ((with_reducible refine wpL_load (gwq) 151 (ptA v) 16 rowWk (ptA_size _) hwq ?_ ?_); rfl)
      | (go_at_call 103; (with_reducible refine (HR.out _ hT).mono ?_); rintro e u1 ⟨rfl, hb⟩; replace hp := hp.on hb; replace hq := hq.on hb; replace hr := hr.on hb; replace hwa := hwa.on hb; replace hwq := hwq.on hb; replace hT := hT.on hb; replace hB := below_on hB hb; clear hb)
      | (go_at_call 103; (with_reducible refine (HQ.out _ hT).mono ?_); rintro e u2 ⟨rfl, hb⟩; replace hp := hp.on hb; replace hq := hq.on hb; replace hr := hr.on hb; replace hwa := hwa.on hb; replace hwq := hwq.on hb; replace hT := hT.on hb; replace hB := below_on hB hb; clear hb)
      | (go_at_call 106; (with_reducible refine (HS.out _ hT).mono ?_); rintro e u3 ⟨rfl, hb⟩; replace hp := hp.on hb; replace hq := hq.on hb; replace hr := hr.on hb; replace hwa := hwa.on hb; replace hwq := hwq.on hb; replace hT := hT.on hb; replace hB := below_on hB hb; clear hb)
      | ((with_reducible refine wpL_bld (pt noneN) ?_ ?_); kernel_rfl)
      | ((with_reducible refine wpL_fld (pt r) ?_ ?_); kernel_rfl)
      | ((with_reducible refine wpL_store (W.heap.size + 2) 74 _ (ptA noneN) 16 rowPt rfl (ptA_size _) (ptA_one _) hr ?_ ?_ ?_); rfl; rfl)
      | ((with_reducible refine wpL_store (W.heap.size + 2) 74 _ (ptA r) 16 rowPt rfl (ptA_size _) (ptA_one _) hr ?_ ?_ ?_); rfl; rfl))
      exact bodyPost_ret (results_row_tmp Tryz.results66 rowPt (ptA_size _) (hr.row _) rfl rfl) rfl ⟨rfl, below_rowSet hB (by omega) _⟩
    · go_wp2_with (first
      | ((with_reducible refine wpL_load (gwa) 151 (ptA u) 16 rowWk (ptA_size _) hwa ?_ ?_); rfl)
      | ((with_reducible refine wpL_load_gP (gwq) 151 (ptA v) 16 rowWk (ptA_size _) hwq ?_ ?_ ?_); rfl; rfl)
      | ((with_reducible refine wpL_load (gwq) 151 (ptA v) 16 rowWk (ptA_size _) hwq ?_ ?_); rfl)
      | (go_at_call 103; (with_reducible refine (HR.out _ hT).mono ?_); rintro e u1 ⟨rfl, hb⟩; replace hp := hp.on hb; replace hq := hq.on hb; replace hr := hr.on hb; replace hwa := hwa.on hb; replace hwq := hwq.on hb; replace hT := hT.on hb; replace hB := below_on hB hb; clear hb)
      | (go_at_call 103; (with_reducible refine (HQ.out _ hT).mono ?_); rintro e u2 ⟨rfl, hb⟩; replace hp := hp.on hb; replace hq := hq.on hb; replace hr := hr.on hb; replace hwa := hwa.on hb; replace hwq := hwq.on hb; replace hT := hT.on hb; replace hB := below_on hB hb; clear hb)
      | (go_at_call 106; (with_reducible refine (HS.out _ hT).mono ?_); rintro e u3 ⟨rfl, hb⟩; replace hp := hp.on hb; replace hq := hq.on hb; replace hr := hr.on hb; replace hwa := hwa.on hb; replace hwq := hwq.on hb; replace hT := hT.on hb; replace hB := below_on hB hb; clear hb)
      | ((with_reducible refine wpL_bld (pt noneN) ?_ ?_); kernel_rfl)
      | ((with_reducible refine wpL_fld (pt r) ?_ ?_); kernel_rfl)
      | ((with_reducible refine wpL_store (W.heap.size + 2) 74 _ (ptA noneN) 16 rowPt rfl (ptA_size _) (ptA_one _) hr ?_ ?_ ?_); rfl; rfl)
      | ((with_reducible refine wpL_store (W.heap.size + 2) 74 _ (ptA r) 16 rowPt rfl (ptA_size _) (ptA_one _) hr ?_ ?_ ?_); rfl; rfl))
      exact bodyPost_ret (results_row_tmp Tryz.results66 rowPt (ptA_size _) (hr.row _) rfl rfl) rfl ⟨rfl, below_rowSet hB (by omega) _⟩
    · go_wp2_with (first
      | ((with_reducible refine wpL_load (gwa) 151 (ptA u) 16 rowWk (ptA_size _) hwa ?_ ?_); rfl)
      | ((with_reducible refine wpL_load_gP (gwq) 151 (ptA v) 16 rowWk (ptA_size _) hwq ?_ ?_ ?_); rfl; rfl)
      | ((with_reducible refine wpL_load (gwq) 151 (ptA v) 16 rowWk (ptA_size _) hwq ?_ ?_); rfl)
      | (go_at_call 103; (with_reducible refine (HR.out _ hT).mono ?_); rintro e u1 ⟨rfl, hb⟩; replace hp := hp.on hb; replace hq := hq.on hb; replace hr := hr.on hb; replace hwa := hwa.on hb; replace hwq := hwq.on hb; replace hT := hT.on hb; replace hB := below_on hB hb; clear hb)
      | (go_at_call 103; (with_reducible refine (HQ.out _ hT).mono ?_); rintro e u2 ⟨rfl, hb⟩; replace hp := hp.on hb; replace hq := hq.on hb; replace hr := hr.on hb; replace hwa := hwa.on hb; replace hwq := hwq.on hb; replace hT := hT.on hb; replace hB := below_on hB hb; clear hb)
      | (go_at_call 106; (with_reducible refine (HS.out _ hT).mono ?_); rintro e u3 ⟨rfl, hb⟩; replace hp := hp.on hb; replace hq := hq.on hb; replace hr := hr.on hb; replace hwa := hwa.on hb; replace hwq := hwq.on hb; replace hT := hT.on hb; replace hB := below_on hB hb; clear hb)
      | ((with_reducible refine wpL_bld (pt noneN) ?_ ?_); kernel_rfl)
      | ((with_reducible refine wpL_fld (pt r) ?_ ?_); kernel_rfl)
      | ((with_reducible refine wpL_store (W.heap.size + 2) 74 _ (ptA noneN) 16 rowPt rfl (ptA_size _) (ptA_one _) hr ?_ ?_ ?_); rfl; rfl)
      | ((with_reducible refine wpL_store (W.heap.size + 2) 74 _ (ptA r) 16 rowPt rfl (ptA_size _) (ptA_one _) hr ?_ ?_ ?_); rfl; rfl))
      exact bodyPost_ret (results_row_tmp Tryz.results66 rowPt (ptA_size _) (hr.row _) rfl rfl) rfl ⟨rfl, below_rowSet hB (by omega) _⟩
  · refine wpOp_val rfl rfl (allocWk rfl _ _) ⟨⟨hpd.alloc _, hqd.alloc _⟩, ?_⟩
    have hwq := Lies.new wd 151 z16P
    have hp := hpd.alloc (.cells z16P 151)
    have hq := hqd.alloc (.cells z16P 151)
    have hr := hrd.alloc (.cells z16P 151)
    have hB := hBd.alloc hBd.size (.cells z16P 151)
    have ltwq := hwq.lt
    generalize World.alloc wd _ = w1 at *
    generalize wd.heap.size = gwq at *
    refine held_one 4 (by kernel_rfl) (wpOp_val rfl rfl (allocWk rfl _ _) ⟨⟨hp.alloc _, hq.alloc _⟩, ?_⟩)
    have hwa := Lies.new w1 151 z16P
    replace hp := hp.alloc (.cells z16P 151)
    replace hq := hq.alloc (.cells z16P 151)
    replace hr := hr.alloc (.cells z16P 151)
    replace hwq := hwq.alloc (.cells z16P 151)
    replace hB := hB.alloc hB.size (.cells z16P 151)
    generalize World.alloc w1 _ = w2 at *
    generalize w1.heap.size = gwa at *
    have hne : gwa ≠ gwq := by omega
    refine held_one 6 (by kernel_rfl) (wpOp_skp rfl rfl (exec_store rfl gwa 151 z16P (ptA u) 16 rowWk rfl (ptA_size _) (ptA_one _) hwa rfl rfl) ⟨⟨hp.rowFar (by omega) _, hq.rowFar (by omega) _⟩, ?_⟩)
    replace hp := hp.rowFar (show W.heap.size ≠ gwa by omega) (ptA u)
    replace hq := hq.rowFar (show W.heap.size + 1 ≠ gwa by omega) (ptA u)
    replace hr := hr.rowFar (show W.heap.size + 2 ≠ gwa by omega) (ptA u)
    replace hwq := hwq.rowFar (show gwq ≠ gwa by omega) (ptA u)
    replace hwa := hwa.row (ptA u)
    replace hB := below_rowSet hB (show W.heap.size ≤ gwa by omega) (ptA u)
    generalize World.setRow _ _ _ = w3 at *
    refine held_one 7 (by kernel_rfl) (wpOp_skp rfl rfl (exec_store rfl gwq 151 z16P (ptA v) 16 rowWk rfl (ptA_size _) (ptA_one _) hwq rfl rfl) ⟨⟨hp.rowFar (by omega) _, hq.rowFar (by omega) _⟩, ?_⟩)
    replace hp := hp.rowFar (show W.heap.size ≠ gwq by omega) (ptA v)
    replace hq := hq.rowFar (show W.heap.size + 1 ≠ gwq by omega) (ptA v)
    replace hr := hr.rowFar (show W.heap.size + 2 ≠ gwq by omega) (ptA v)
    replace hwa := hwa.rowFar (show gwa ≠ gwq by omega) (ptA v)
    replace hwq := hwq.row (ptA v)
    replace hB := below_rowSet hB (show W.heap.size ≤ gwq by omega) (ptA v)
    generalize World.setRow _ _ _ = w4 at *
    refine held_done (by kernel_rfl) ?_
    simp only [Act.put, List.setIfInBounds_toArray]
    clear hpd ltp hqd ltq hrd ltr hBd ltwq hsz
    have hT := hT0.out.on hB
    rcases HC.out with ⟨rfl, rfl, rfl⟩ | ⟨rfl, rfl, rfl⟩ | ⟨rfl, rfl⟩
    · go_wp2_with (first
      | ((with_reducible refine wpL_load (gwa) 151 (ptA u) 16 rowWk (ptA_size _) hwa ?_ ?_); rfl)
      | ((with_reducible refine wpL_load_gP (gwq) 151 (ptA v) 16 rowWk (ptA_size _) hwq ?_ ?_ ?_); rfl; rfl)
      | ((with_reducible refine wpL_load (gwq) 151 (ptA v) 16 rowWk (ptA_size _) hwq ?_ ?_); rfl)
      | (go_at_call 103; (with_reducible refine (HR.out _ hT).mono ?_); rintro e u1 ⟨rfl, hb⟩; replace hp := hp.on hb; replace hq := hq.on hb; replace hr := hr.on hb; replace hwa := hwa.on hb; replace hwq := hwq.on hb; replace hT := hT.on hb; replace hB := below_on hB hb; clear hb)
      | (go_at_call 103; (with_reducible refine (HQ.out _ hT).mono ?_); rintro e u2 ⟨rfl, hb⟩; replace hp := hp.on hb; replace hq := hq.on hb; replace hr := hr.on hb; replace hwa := hwa.on hb; replace hwq := hwq.on hb; replace hT := hT.on hb; replace hB := below_on hB hb; clear hb)
      | (go_at_call 106; (with_reducible refine (HS.out _ hT).mono ?_); rintro e u3 ⟨rfl, hb⟩; replace hp := hp.on hb; replace hq := hq.on hb; replace hr := hr.on hb; replace hwa := hwa.on hb; replace hwq := hwq.on hb; replace hT := hT.on hb; replace hB := below_on hB hb; clear hb)
      | ((with_reducible refine wpL_bld (pt noneN) ?_ ?_); kernel_rfl)
      | ((with_reducible refine wpL_fld (pt r) ?_ ?_); kernel_rfl)
      | ((with_reducible refine wpL_store (W.heap.size + 2) 74 _ (ptA noneN) 16 rowPt rfl (ptA_size _) (ptA_one _) hr ?_ ?_ ?_); rfl; rfl)
      | ((with_reducible refine wpL_store (W.heap.size + 2) 74 _ (ptA r) 16 rowPt rfl (ptA_size _) (ptA_one _) hr ?_ ?_ ?_); rfl; rfl))
      exact bodyPost_ret (results_row_tmp Tryz.results66 rowPt (ptA_size _) (hr.row _) rfl rfl) rfl ⟨rfl, below_rowSet hB (by omega) _⟩
    · go_wp2_with (first
      | ((with_reducible refine wpL_load (gwa) 151 (ptA u) 16 rowWk (ptA_size _) hwa ?_ ?_); rfl)
      | ((with_reducible refine wpL_load_gP (gwq) 151 (ptA v) 16 rowWk (ptA_size _) hwq ?_ ?_ ?_); rfl; rfl)
      | ((with_reducible refine wpL_load (gwq) 151 (ptA v) 16 rowWk (ptA_size _) hwq ?_ ?_); rfl)
      | (go_at_call 103; (with_reducible refine (HR.out _ hT).mono ?_); rintro e u1 ⟨rfl, hb⟩; replace hp := hp.on hb; replace hq := hq.on hb; replace hr := hr.on hb; replace hwa := hwa.on hb; replace hwq := hwq.on hb; replace hT := hT.on hb; replace hB := below_on hB hb; clear hb)
      | (go_at_call 103; (with_reducible refine (HQ.out _ hT).mono ?_); rintro e u2 ⟨rfl, hb⟩; replace hp := hp.on hb; replace hq := hq.on hb; replace hr := hr.on hb; replace hwa := hwa.on hb; replace hwq := hwq.on hb; replace hT := hT.on hb; replace hB := below_on hB hb; clear hb)
      | (go_at_call 106; (with_reducible refine (HS.out _ hT).mono ?_); rintro e u3 ⟨rfl, hb⟩; replace hp := hp.on hb; replace hq := hq.on hb; replace hr := hr.on hb; replace hwa := hwa.on hb; replace hwq := hwq.on hb; replace hT := hT.on hb; replace hB := below_on hB hb; clear hb)
      | ((with_reducible refine wpL_bld (pt noneN) ?_ ?_); kernel_rfl)
      | ((with_reducible refine wpL_fld (pt r) ?_ ?_); kernel_rfl)
      | ((with_reducible refine wpL_store (W.heap.size + 2) 74 _ (ptA noneN) 16 rowPt rfl (ptA_size _) (ptA_one _) hr ?_ ?_ ?_); rfl; rfl)
      | ((with_reducible refine wpL_store (W.heap.size + 2) 74 _ (ptA r) 16 rowPt rfl (ptA_size _) (ptA_one _) hr ?_ ?_ ?_); rfl; rfl))
      exact bodyPost_ret (results_row_tmp Tryz.results66 rowPt (ptA_size _) (hr.row _) rfl rfl) rfl ⟨rfl, below_rowSet hB (by omega) _⟩
    · go_wp2_with (first
      | ((with_reducible refine wpL_load (gwa) 151 (ptA u) 16 rowWk (ptA_size _) hwa ?_ ?_); rfl)
      | ((with_reducible refine wpL_load_gP (gwq) 151 (ptA v) 16 rowWk (ptA_size _) hwq ?_ ?_ ?_); rfl; rfl)
      | ((with_reducible refine wpL_load (gwq) 151 (ptA v) 16 rowWk (ptA_size _) hwq ?_ ?_); rfl)
      | (go_at_call 103; (with_reducible refine (HR.out _ hT).mono ?_); rintro e u1 ⟨rfl, hb⟩; replace hp := hp.on hb; replace hq := hq.on hb; replace hr := hr.on hb; replace hwa := hwa.on hb; replace hwq := hwq.on hb; replace hT := hT.on hb; replace hB := below_on hB hb; clear hb)
      | (go_at_call 103; (with_reducible refine (HQ.out _ hT).mono ?_); rintro e u2 ⟨rfl, hb⟩; replace hp := hp.on hb; replace hq := hq.on hb; replace hr := hr.on hb; replace hwa := hwa.on hb; replace hwq := hwq.on hb; replace hT := hT.on hb; replace hB := below_on hB hb; clear hb)
      | (go_at_call 106; (with_reducible refine (HS.out _ hT).mono ?_); rintro e u3 ⟨rfl, hb⟩; replace hp := hp.on hb; replace hq := hq.on hb; replace hr := hr.on hb; replace hwa := hwa.on hb; replace hwq := hwq.on hb; replace hT := hT.on hb; replace hB := below_on hB hb; clear hb)
      | ((with_reducible refine wpL_bld (pt noneN) ?_ ?_); kernel_rfl)
      | ((with_reducible refine wpL_fld (pt r) ?_ ?_); kernel_rfl)
      | ((with_reducible refine wpL_store (W.heap.size + 2) 74 _ (ptA noneN) 16 rowPt rfl (ptA_size _) (ptA_one _) hr ?_ ?_ ?_); rfl; rfl)
      | ((with_reducible refine wpL_store (W.heap.size + 2) 74 _ (ptA r) 16 rowPt rfl (ptA_size _) (ptA_one _) hr ?_ ?_ ?_); rfl; rfl))
      exact bodyPost_ret (results_row_tmp Tryz.results66 rowPt (ptA_size _) (hr.row _) rfl rfl) rfl ⟨rfl, below_rowSet hB (by omega) _⟩

set_option maxHeartbeats 1600000 in
theorem showNeg (F : FieldOk)  (u : N4) (W : World) (hu : u.Lt) (hT : PtTab W) :
    Calls Tryz.prog 65 #[pt u] W fun e w' => e = .returned (if u.right = true then .tuple #[pt (negN u), .int .i64 0] else .tuple #[pt noneN, .int .i64 1]) ∧ Below W.heap.size W w' := by
  have hT0 := Lib.hid hT
  have HR := Lib.hid (fun w hT => wright_any F u hu w hT)
  have HS := Lib.hid (fun w hT => wcontrary_any F u hu w hT)
  generalize u.right = R1 at *
  generalize (negN u) = r at *
  clear hT hu
  go_enter Tryz.func65, Tryz.ntmps65
  have hp := (Lies.new W 74 (ptA u)).alloc (.cells z16P 74)
  have hr : Lies ((W.alloc (.cells (ptA u) 74)).alloc (.cells z16P 74)) (W.heap.size + 1) 74 z16P := heap_alloc2_new W _ _
  have hB := ((Below.refl W.heap.size W).alloc (Nat.le_refl _) (.cells (ptA u) 74)).alloc (by simp) (.cells z16P 74)
  go_upto_region 1 with fail
  generalize World.alloc (World.alloc W _) _ = w0 at *
  have hT := hT0.out.on hB
  go_upto_region 2 with (first
    | ((with_reducible refine wpL_load (W.heap.size) 74 (ptA u) 16 rowPt (ptA_size _) hp ?_ ?_); rfl)
    | ((with_reducible refine wpL_bld (pt u) ?_ ?_); kernel_rfl)
    | ((with_reducible refine wpL_store w0.heap.size 151 _ (ptA u) 16 rowWk ?_ (ptA_size _) (ptA_one _) (Lies.new w0 _ _) ?_ ?_ ?_); rfl; rfl; rfl))
  have hwa := newly_lies w0 151 z16P (ptA u)
  have hnw := newly w0 (.cells z16P 151) (ptA u)
  replace hp := hp.on hnw
  replace hr := hr.on hnw
  replace hB := below_on hB hnw
  clear hnw hT
  generalize World.setRow _ _ _ = w1 at *
  generalize w0.heap.size = gwa at *
  have hT := hT0.out.on hB
  cases R1
  · go_wp2_with (first
    | ((with_reducible refine wpL_load (gwa) 151 (ptA u) 16 rowWk (ptA_size _) hwa ?_ ?_); rfl)
    | (go_at_call 103; (with_reducible refine (HR.out _ hT).mono ?_); rintro e u2 ⟨rfl, hb⟩; replace hp := hp.on hb; replace hr := hr.on hb; replace hwa := hwa.on hb; replace hT := hT.on hb; replace hB := below_on hB hb; clear hb)
    | (go_at_call 105; (with_reducible refine (HS.out _ hT).mono ?_); rintro e u3 ⟨rfl, hb⟩; replace hp := hp.on hb; replace hr := hr.on hb; replace hwa := hwa.on hb; replace hT := hT.on hb; replace hB := below_on hB hb; clear hb)
    | ((with_reducible refine wpL_bld (pt noneN) ?_ ?_); kernel_rfl)
    | ((with_reducible refine wpL_fld (pt r) ?_ ?_); kernel_rfl)
    | ((with_reducible refine wpL_store (W.heap.size + 1) 74 _ (ptA noneN) 16 rowPt rfl (ptA_size _) (ptA_one _) hr ?_ ?_ ?_); rfl; rfl)
    | ((with_reducible refine wpL_store (W.heap.size + 1) 74 _ (ptA r) 16 rowPt rfl (ptA_size _) (ptA_one _) hr ?_ ?_ ?_); rfl; rfl))
    exact bodyPost_ret (results_row_tmp Tryz.results65 rowPt (ptA_size _) (hr.row _) rfl rfl) rfl ⟨rfl, below_rowSet hB (by omega) _⟩
  · go_wp2_with (first
    | ((with_reducible refine wpL_load (gwa) 151 (ptA u) 16 rowWk (ptA_size _) hwa ?_ ?_); rfl)
    | (go_at_call 103; (with_reducible refine (HR.out _ hT).mono ?_); rintro e u2 ⟨rfl, hb⟩; replace hp := hp.on hb; replace hr := hr.on hb; replace hwa := hwa.on hb; replace hT := hT.on hb; replace hB := below_on hB hb; clear hb)
    | (go_at_call 105; (with_reducible refine (HS.out _ hT).mono ?_); rintro e u3 ⟨rfl, hb⟩; replace hp := hp.on hb; replace hr := hr.on hb; replace hwa := hwa.on hb; replace hT := hT.on hb; replace hB := below_on hB hb; clear hb)
    | ((with_reducible refine wpL_bld (pt noneN) ?_ ?_); kernel_rfl)
    | ((with_reducible refine wpL_fld (pt r) ?_ ?_); kernel_rfl)
    | ((with_reducible refine wpL_store (W.heap.size + 1) 74 _ (ptA noneN) 16 rowPt rfl (ptA_size _) (ptA_one _) hr ?_ ?_ ?_); rfl; rfl)
    | ((with_reducible refine wpL_store (W.heap.size + 1) 74 _ (ptA r) 16 rowPt rfl (ptA_size _) (ptA_one _) hr ?_ ?_ ?_); rfl; rfl))
    exact bodyPost_ret (results_row_tmp Tryz.results65 rowPt (ptA_size _) (hr.row _) rfl rfl) rfl ⟨rfl, below_rowSet hB (by omega) _⟩

set_option maxHeartbeats 1600000 in
theorem showMul (F : FieldOk) (n : Nat) (u : N4) (W : World) (hu : u.Lt) (hT : PtTab W) :
    Calls Tryz.prog 64 #[fe n, pt u] W fun e w' => e = .returned (if u.right = true then .tuple #[pt (tN n u 256), .int .i64 0] else .tuple #[pt noneN, .int .i64 1]) ∧ Below W.heap.size W w' := by
  have hT0 := Lib.hid hT
  have HR := Lib.hid (fun w hT => wright_any F u hu w hT)
  have HS := Lib.hid (fun w hT => wtimes_any F u n hu w hT)
  generalize u.right = R1 at *
  generalize (tN n u 256) = r at *
  clear hT hu
  go_enter Tryz.func64, Tryz.ntmps64
  have hn := ((Lies.new W 67 (feA n)).alloc (.cells (ptA u) 74)).alloc (.cells z16P 74)
  have hp : Lies ((W.alloc (.cells (feA n) 67)).alloc (.cells (ptA u) 74)) (W.heap.size + 1) 74 (ptA u) := heap_alloc2_new W _ _
  replace hp := hp.alloc (.cells z16P 74)
  have hr := lies3 W (.cells (feA n) 67) (.cells (ptA u) 74) 74 z16P
  have hB := (((Below.refl W.heap.size W).alloc (Nat.le_refl _) (.cells (feA n) 67)).alloc (by simp) (.cells (ptA u) 74)).alloc (by simp; omega) (.cells z16P 74)
  go_upto_region 1 with fail
  generalize World.alloc (World.alloc (World.alloc W _) _) _ = w0 at *
  have hT := hT0.out.on hB
  go_upto_region 2 with (first
    | ((with_reducible refine wpL_load (W.heap.size + 1) 74 (ptA u) 16 rowPt (ptA_size _) hp ?_ ?_); rfl)
    | ((with_reducible refine wpL_bld (pt u) ?_ ?_); kernel_rfl)
    | ((with_reducible refine wpL_store w0.heap.size 151 _ (ptA u) 16 rowWk ?_ (ptA_size _) (ptA_one _) (Lies.new w0 _ _) ?_ ?_ ?_); rfl; rfl; rfl))
  have hwa := newly_lies w0 151 z16P (ptA u)
  have hnw := newly w0 (.cells z16P 151) (ptA u)
  replace hn := hn.on hnw
  replace hp := hp.on hnw
  replace hr := hr.on hnw
  replace hB := below_on hB hnw
  clear hnw hT
  generalize World.setRow _ _ _ = w1 at *
  generalize w0.heap.size = gwa at *
  have hT := hT0.out.on hB
  cases R1
  · go_wp2_with (first
    | ((with_reducible refine wpL_load (gwa) 151 (ptA u) 16 rowWk (ptA_size _) hwa ?_ ?_); rfl)
    | ((with_reducible refine wpL_load (W.heap.size) 67 (feA n) 4 rowScP (feA_size _) hn ?_ ?_); rfl)
    | (go_at_call 103; (with_reducible refine (HR.out _ hT).mono ?_); rintro e u2 ⟨rfl, hb⟩; replace hn := hn.on hb; replace hp := hp.on hb; replace hr := hr.on hb; replace hwa := hwa.on hb; replace hT := hT.on hb; replace hB := below_on hB hb; clear hb)
    | (go_at_call 104; (with_reducible refine (HS.out _ hT).mono ?_); rintro e u3 ⟨rfl, hb⟩; replace hn := hn.on hb; replace hp := hp.on hb; replace hr := hr.on hb; replace hwa := hwa.on hb; replace hT := hT.on hb; replace hB := below_on hB hb; clear hb)
    | ((with_reducible refine wpL_bld (pt noneN) ?_ ?_); kernel_rfl)
    | ((with_reducible refine wpL_fld (pt r) ?_ ?_); kernel_rfl)
    | ((with_reducible refine wpL_store (W.heap.size + 2) 74 _ (ptA noneN) 16 rowPt rfl (ptA_size _) (ptA_one _) hr ?_ ?_ ?_); rfl; rfl)
    | ((with_reducible refine wpL_store (W.heap.size + 2) 74 _ (ptA r) 16 rowPt rfl (ptA_size _) (ptA_one _) hr ?_ ?_ ?_); rfl; rfl))
    exact bodyPost_ret (results_row_tmp Tryz.results64 rowPt (ptA_size _) (hr.row _) rfl rfl) rfl ⟨rfl, below_rowSet hB (by omega) _⟩
  · go_wp2_with (first
    | ((with_reducible refine wpL_load (gwa) 151 (ptA u) 16 rowWk (ptA_size _) hwa ?_ ?_); rfl)
    | ((with_reducible refine wpL_load (W.heap.size) 67 (feA n) 4 rowScP (feA_size _) hn ?_ ?_); rfl)
    | (go_at_call 103; (with_reducible refine (HR.out _ hT).mono ?_); rintro e u2 ⟨rfl, hb⟩; replace hn := hn.on hb; replace hp := hp.on hb; replace hr := hr.on hb; replace hwa := hwa.on hb; replace hT := hT.on hb; replace hB := below_on hB hb; clear hb)
    | (go_at_call 104; (with_reducible refine (HS.out _ hT).mono ?_); rintro e u3 ⟨rfl, hb⟩; replace hn := hn.on hb; replace hp := hp.on hb; replace hr := hr.on hb; replace hwa := hwa.on hb; replace hT := hT.on hb; replace hB := below_on hB hb; clear hb)
    | ((with_reducible refine wpL_bld (pt noneN) ?_ ?_); kernel_rfl)
    | ((with_reducible refine wpL_fld (pt r) ?_ ?_); kernel_rfl)
    | ((with_reducible refine wpL_store (W.heap.size + 2) 74 _ (ptA noneN) 16 rowPt rfl (ptA_size _) (ptA_one _) hr ?_ ?_ ?_); rfl; rfl)
    | ((with_reducible refine wpL_store (W.heap.size + 2) 74 _ (ptA r) 16 rowPt rfl (ptA_size _) (ptA_one _) hr ?_ ?_ ?_); rfl; rfl))
    exact bodyPost_ret (results_row_tmp Tryz.results64 rowPt (ptA_size _) (hr.row _) rfl rfl) rfl ⟨rfl, below_rowSet hB (by omega) _⟩

end Go.Proofs.YtmekmlgpkbfjpaaGreatDoor.C

/- The contract of withY. -/
namespace Go.Proofs.YtmekmlgpkbfjpaaGreatDoor.C
open Go.RowKit Go.Sort Go.Proofs.YtmekmlgpkbfjpaaGreatDoor.F
set_option maxRecDepth 100000

theorem xOf_minus (y : Nat) : xOf y true = minusN (xE y) := by unfold xOf minusN; rw [if_pos rfl]
theorem xOf_plain (y : Nat) : xOf y false = xE y := by unfold xOf; rw [if_neg (by decide)]
theorem xE_def (y : Nat) : sqrtR (wN y) = xE y := by unfold xE; exact Eq.refl _
theorem xB_def (y : Nat) : sqrtB (wN y) = xB y := by unfold xB; exact Eq.refl _
theorem wN_def (y : Nat) : wN y = (y * y % p25 + (p25 - 1 % p25)) % p25 * invN ((dN * (y * y % p25) % p25 + 1) % p25) % p25 := by unfold wN; exact Eq.refl _
theorem parseN_def (y : Nat) (odd : Bool) : parseN y odd = ⟨xOf y odd, y, 1, xOf y odd * y % p25⟩ := by unfold parseN; exact Eq.refl _
/-- do these numbers tell a point, as the program says it? -/
def wyB (y : Nat) (odd : Bool) : Bool := xB y && (decide (xOf y odd % 2 = 1) == odd)
theorem wyB_def (y : Nat) (odd : Bool) : wyB y odd = (xB y && (decide (xOf y odd % 2 = 1) == odd)) := by unfold wyB; exact Eq.refl _
theorem wyB_is {y : Nat} (hy : y < p25) (odd : Bool) : parseB y odd = wyB y odd := by
  unfold parseB wyB
  rw [decide_eq_true hy, Bool.true_and]
  congr 1
  cases odd with
  | false => rw [xOf_odd y false (.inr rfl)]; rfl
  | true =>
    by_cases h : xE y = 0
    · rw [decide_eq_true h]
      have : xOf y true = 0 := by unfold xOf; rw [if_pos rfl, h]; decide
      rw [this]
      decide
    · rw [decide_eq_false h, xOf_odd y true (.inl h)]
      rfl
attribute [local irreducible] feA ptA wpQuiet
set_option maxHeartbeats 3200000 in
theorem wwithY_any (F : FieldOk) (y : Nat) (odd : Bool) (W : World) (hy : y < K256) (hT : PtTab2 W) :
    Calls Tryz.prog 61 #[fe y, .bool odd] W fun e w' => e = .returned (.tuple #[pt (parseN y odd), .bool (wyB y odd)]) ∧ Below W.heap.size W w' := by
  have hT0 := Lib.hid hT
  have HO1 : Hid (∀ w, Tab w → Calls Tryz.prog 96 #[.int .u64 1] w fun e w' => e = .returned (fe 1) ∧ Below w.heap.size w w') := Lib.hid (fun w hT => F.of 1 w (by decide) hT)
  have HD : Hid (∀ w, PtTab w → w.rangeAt 1 0 (feA dN).toList) := Lib.hid (fun w h => h.2.1.root)
  have kD : dN < K256 := by decide
  have hw := wN_def y
  have HSq := Lib.hid (fun w hT => sqrt_any (wN y) w (below_K (wN_lt y)) hT)
  rw [xE_def, xB_def] at HSq
  have hx : xOf y odd < K256 := below_K (xOf_lt y odd)
  have HAt := Lib.hid (fun w hT => wat_any F (xOf y odd) y w hx hy hT)
  have HOd := Lib.hid (fun w => wodd_any (xOf y odd) w)
  have HMi := Lib.hid (fun w hT => wminus_any F (xE y) w (below_K (xE_lt y)) hT)
  rw [← xOf_minus] at HMi
  have hfe := xOf_plain y
  have HFe := Lib.hid hfe
  have hres := parseN_def y odd
  rw [← hres] at HAt
  generalize parseN y odd = res at *
  have hwy := wyB_def y odd
  rw [hwy]
  generalize xB y = B at *
  generalize decide (xOf y odd % 2 = 1) = O at *
  clear hres hwy hx hfe
  generalize dN = D at *
  have Hsq := Lib.hid (fun w hT => F.mul y y w hy hy hT)
  have ksq := mod_K (y * y)
  generalize y * y % p25 = sq at *
  have Hov := Lib.hid (fun w hT => F.sub sq 1 w ksq (by decide) hT)
  have kov := mod_K (sq + (p25 - 1 % p25))
  generalize (sq + (p25 - 1 % p25)) % p25 = ov at *
  have Hds := Lib.hid (fun w hT => F.mul D sq w kD ksq hT)
  have kds := mod_K (D * sq)
  generalize D * sq % p25 = ds at *
  have Hun := Lib.hid (fun w hT => F.add ds 1 w kds (by decide) hT)
  have kun := mod_K (ds + 1)
  generalize (ds + 1) % p25 = un at *
  have Hiu := Lib.hid (fun w hT => F.inv un w kun hT)
  have kiu : invN un < K256 := below_K (invN_lt _)
  generalize invN un = iu at *
  have Hwn := Lib.hid (fun w hT => F.mul ov iu w kov kiu hT)
  have kwn := mod_K (ov * iu)
  rw [← hw] at Hwn
  clear hw kwn
  generalize wN y = wn at *
  clear ksq kov kds kun kiu kD hT hy
  go_enter Tryz.func61, Tryz.ntmps61
  have hpy := (Lies.new W 72 (feA y)).alloc (.cells z16P 74)
  have hr : Lies ((W.alloc (.cells (feA y) 72)).alloc (.cells z16P 74)) (W.heap.size + 1) 74 z16P := heap_alloc2_new W _ _
  have hB := ((Below.refl W.heap.size W).alloc (Nat.le_refl _) (.cells (feA y) 72)).alloc (by simp) (.cells z16P 74)
  go_upto_region 1 with fail
  generalize World.alloc (World.alloc W _) _ = w0 at *
  have hT := (hT0.out.on hB).1.f
  go_upto_region 2 with (first
    | ((with_reducible refine wpL_load (W.heap.size) 72 (feA y) 4 rowFe (feA_size _) hpy ?_ ?_); rfl)
    | (go_at_call 94; (with_reducible refine (Hsq.out _ hT).mono ?_); rintro e u1 ⟨rfl, hb⟩; replace hpy := hpy.on hb; replace hr := hr.on hb; replace hT := hT.on hb; replace hB := below_on hB hb; clear hb)
    | ((with_reducible refine wpL_store u1.heap.size 72 _ (feA sq) 4 rowFe ?_ (feA_size _) (feA_one _) (Lies.new u1 _ _) ?_ ?_ ?_); rfl; rfl; rfl))
  have hsq := newly_lies u1 72 fe0A (feA sq)
  have hnw := newly u1 (.cells fe0A 72) (feA sq)
  replace hpy := hpy.on hnw
  replace hr := hr.on hnw
  replace hB := below_on hB hnw
  clear hnw hT
  generalize World.setRow _ _ _ = w1 at *
  generalize u1.heap.size = gsq at *
  have hT := (hT0.out.on hB).1.f
  refine wp_region_made 3 7 _ 72 fe0A rfl rfl (by kernel_rfl) (by kernel_rfl) (alloc_fe rfl) ?_
  simp only [List.take_succ_cons, List.take_zero, List.drop_succ_cons, List.drop_zero]
  refine wpQB_fe (gsq) sq hsq rfl ?_
  simp only [Act.put, List.setIfInBounds_toArray, List.set_cons_succ, List.set_cons_zero]
  refine wpQB_call 96 #[.int .u64 1] (fe 1) rfl rfl (fun _ => by kernel_rfl) (fun w hb => HO1.out w (hT.on hb)) ?_
  simp only [Act.put, List.setIfInBounds_toArray, List.set_cons_succ, List.set_cons_zero]
  refine wpQB_call 95 #[fe sq, fe 1] (fe ov) rfl rfl (fun _ => by kernel_rfl) (fun w hb => Hov.out w (hT.on hb)) ?_
  simp only [Act.put, List.setIfInBounds_toArray, List.set_cons_succ, List.set_cons_zero]
  refine wpQB_nil ?_
  intro gov w2 hb hk hy
  simp only [List.setIfInBounds_toArray, List.set_cons_succ, List.set_cons_zero]
  replace hy : Lies w2 gov 72 fe0A := hy
  have hl := hpy.lt
  replace hpy := (hpy.on hb).rowFar (show W.heap.size ≠ gov by omega) (feA ov)
  clear hl
  have hl := hr.lt
  replace hr := (hr.on hb).rowFar (show W.heap.size + 1 ≠ gov by omega) (feA ov)
  clear hl
  have hl := hsq.lt
  replace hsq := (hsq.on hb).rowFar (show gsq ≠ gov by omega) (feA ov)
  clear hl
  have hsz := hB.size
  replace hB := below_rowSet (below_on hB hb) (show W.heap.size ≤ gov by omega) (feA ov)
  clear hb hsz
  have hov := hy.row (feA ov)
  clear hk
  go_upto_region 3 with ((with_reducible refine wpL_store gov 72 _ (feA ov) 4 rowFe rfl (feA_size _) (feA_one _) hy ?_ ?_ ?_); rfl; rfl)
  clear hy
  generalize World.setRow _ _ _ = w2b at *
  clear hT
  have hT := (hT0.out.on hB).1.f
  have hD := HD.out _ (hT0.out.on hB).1
  go_upto_region 4 with (first
    | ((with_reducible refine wpL_loadGlobal 1 0 (feA D).toList 4 rowFe (by rw [Array.length_toList]; exact feA_size _) hD ?_ ?_); rfl; rw [Array.toArray_toList])
    | ((with_reducible refine wpL_load (gsq) 72 (feA sq) 4 rowFe (feA_size _) hsq ?_ ?_); rfl)
    | (go_at_call 94; (with_reducible refine (Hds.out _ hT).mono ?_); rintro e u3a ⟨rfl, hb⟩; replace hpy := hpy.on hb; replace hr := hr.on hb; replace hsq := hsq.on hb; replace hov := hov.on hb; replace hT := hT.on hb; replace hB := below_on hB hb; clear hb)
    | (go_at_call 96; (with_reducible refine (HO1.out _ hT).mono ?_); rintro e u3b ⟨rfl, hb⟩; replace hpy := hpy.on hb; replace hr := hr.on hb; replace hsq := hsq.on hb; replace hov := hov.on hb; replace hT := hT.on hb; replace hB := below_on hB hb; clear hb)
    | (go_at_call 97; (with_reducible refine (Hun.out _ hT).mono ?_); rintro e u3 ⟨rfl, hb⟩; replace hpy := hpy.on hb; replace hr := hr.on hb; replace hsq := hsq.on hb; replace hov := hov.on hb; replace hT := hT.on hb; replace hB := below_on hB hb; clear hb)
    | ((with_reducible refine wpL_store u3.heap.size 72 _ (feA un) 4 rowFe ?_ (feA_size _) (feA_one _) (Lies.new u3 _ _) ?_ ?_ ?_); rfl; rfl; rfl))
  have hun := newly_lies u3 72 fe0A (feA un)
  have hnw := newly u3 (.cells fe0A 72) (feA un)
  replace hpy := hpy.on hnw
  replace hr := hr.on hnw
  replace hsq := hsq.on hnw
  replace hov := hov.on hnw
  replace hB := below_on hB hnw
  clear hnw hT
  generalize World.setRow _ _ _ = w3 at *
  generalize u3.heap.size = gun at *
  clear hD
  have hT := (hT0.out.on hB).1.f
  have hS := (hT0.out.on hB).f2
  refine wp_region_made_late 7 9 8 9 _ 72 fe0A rfl rfl (by kernel_rfl) (by kernel_rfl) (by kernel_rfl) (alloc_fe rfl) ?_
  simp only [addEdge, List.take_succ_cons, List.take_zero, List.drop_succ_cons, List.drop_zero]
  refine wpQB_fe (gov) ov hov rfl ?_
  simp only [Act.put, List.setIfInBounds_toArray, List.set_cons_succ, List.set_cons_zero]
  refine wpQB_fe (gun) un hun rfl ?_
  simp only [Act.put, List.setIfInBounds_toArray, List.set_cons_succ, List.set_cons_zero]
  refine wpQB_call 99 #[fe un] (fe iu) rfl rfl (fun _ => by kernel_rfl) (fun w hb => Hiu.out w (hT.on hb)) ?_
  simp only [Act.put, List.setIfInBounds_toArray, List.set_cons_succ, List.set_cons_zero]
  refine wpQB_call 94 #[fe ov, fe iu] (fe wn) rfl rfl (fun _ => by kernel_rfl) (fun w hb => Hwn.out w (hT.on hb)) ?_
  simp only [Act.put, List.setIfInBounds_toArray, List.set_cons_succ, List.set_cons_zero]
  refine wpQB_call 98 #[fe wn] (.tuple #[fe (xE y), .bool B]) rfl rfl (fun _ => by kernel_rfl) (fun w hb => HSq.out w (hS.on hb)) ?_
  simp only [Act.put, List.setIfInBounds_toArray, List.set_cons_succ, List.set_cons_zero]
  refine wpQB_move ?_
  simp only [Act.put, List.setIfInBounds_toArray, List.set_cons_succ, List.set_cons_zero]
  refine wpQB_run (fe (xE y)) rfl (fun _ _ => by kernel_rfl) ?_
  simp only [Act.put, List.setIfInBounds_toArray, List.set_cons_succ, List.set_cons_zero]
  refine wpQB_run (.bool B) rfl (fun _ _ => by kernel_rfl) ?_
  simp only [Act.put, List.setIfInBounds_toArray, List.set_cons_succ, List.set_cons_zero]
  refine wpQB_nil ?_
  intro gx w4 hb hk hy
  simp only [List.setIfInBounds_toArray, List.set_cons_succ, List.set_cons_zero]
  replace hy : Lies w4 gx 72 fe0A := hy
  have hl := hr.lt
  have ox : W.heap.size + 1 < gx := by omega
  clear hl
  have hl := hpy.lt
  replace hpy := (hpy.on hb).rowFar (show W.heap.size ≠ gx by omega) (feA (xE y))
  clear hl
  have hl := hr.lt
  replace hr := (hr.on hb).rowFar (show W.heap.size + 1 ≠ gx by omega) (feA (xE y))
  clear hl
  have hl := hsq.lt
  replace hsq := (hsq.on hb).rowFar (show gsq ≠ gx by omega) (feA (xE y))
  clear hl
  have hl := hov.lt
  replace hov := (hov.on hb).rowFar (show gov ≠ gx by omega) (feA (xE y))
  clear hl
  have hl := hun.lt
  replace hun := (hun.on hb).rowFar (show gun ≠ gx by omega) (feA (xE y))
  clear hl
  have hsz := hB.size
  replace hB := below_rowSet (below_on hB hb) (show W.heap.size ≤ gx by omega) (feA (xE y))
  clear hb hsz
  have hx := hy.row (feA (xE y))
  clear hk
  go_upto_region 5 with ((with_reducible refine wpL_store gx 72 _ (feA (xE y)) 4 rowFe rfl (feA_size _) (feA_one _) hy ?_ ?_ ?_); rfl; rfl)
  clear hy
  generalize World.setRow _ _ _ = w4b at *
  clear hT hS
  clear hsq hov hun
  have hP := (hT0.out.on hB).1
  cases odd
  case false =>
    rw [← HFe.out] at hx
    go_upto_region 7 with fail
    cases B
    · go_wp2_with (first
    | ((with_reducible refine wpL_load (gx) 72 (feA (xOf y false)) 4 rowFe (feA_size _) hx ?_ ?_); rfl)
    | ((with_reducible refine wpL_load (W.heap.size) 72 (feA y) 4 rowFe (feA_size _) hpy ?_ ?_); rfl)
    | (go_at_call 101; (with_reducible refine (HAt.out _ hP).mono ?_); rintro e w9 ⟨rfl, hb⟩; replace hx := hx.on hb; replace hpy := hpy.on hb; replace hr := hr.on hb; replace hB := below_on hB hb; clear hb)
    | (go_at_call 102; (with_reducible refine (HOd.out _).mono ?_); rintro e w10 ⟨rfl, hb⟩; replace hx := hx.on hb; replace hpy := hpy.on hb; replace hr := hr.on hb; replace hB := below_on hB hb; clear hb)
    | ((with_reducible refine wpL_load_gP (gx) 72 (feA (xOf y false)) 4 rowFe (feA_size _) hx ?_ ?_ ?_); rfl; rfl)
    | ((with_reducible refine wpL_store (W.heap.size + 1) 74 _ (ptA res) 16 rowPt rfl (ptA_size _) (ptA_one _) hr ?_ ?_ ?_); rfl; rfl))
      exact bodyPost_ret (results_row_tmp Tryz.results61 rowPt (ptA_size _) (hr.row _) rfl rfl) rfl ⟨rfl, below_rowSet hB (by omega) _⟩
    · cases O
      · go_wp2_with (first
    | ((with_reducible refine wpL_load (gx) 72 (feA (xOf y false)) 4 rowFe (feA_size _) hx ?_ ?_); rfl)
    | ((with_reducible refine wpL_load (W.heap.size) 72 (feA y) 4 rowFe (feA_size _) hpy ?_ ?_); rfl)
    | (go_at_call 101; (with_reducible refine (HAt.out _ hP).mono ?_); rintro e w9 ⟨rfl, hb⟩; replace hx := hx.on hb; replace hpy := hpy.on hb; replace hr := hr.on hb; replace hB := below_on hB hb; clear hb)
    | (go_at_call 102; (with_reducible refine (HOd.out _).mono ?_); rintro e w10 ⟨rfl, hb⟩; replace hx := hx.on hb; replace hpy := hpy.on hb; replace hr := hr.on hb; replace hB := below_on hB hb; clear hb)
    | ((with_reducible refine wpL_load_gP (gx) 72 (feA (xOf y false)) 4 rowFe (feA_size _) hx ?_ ?_ ?_); rfl; rfl)
    | ((with_reducible refine wpL_store (W.heap.size + 1) 74 _ (ptA res) 16 rowPt rfl (ptA_size _) (ptA_one _) hr ?_ ?_ ?_); rfl; rfl))
        exact bodyPost_ret (results_row_tmp Tryz.results61 rowPt (ptA_size _) (hr.row _) rfl rfl) rfl ⟨rfl, below_rowSet hB (by omega) _⟩
      · go_wp2_with (first
    | ((with_reducible refine wpL_load (gx) 72 (feA (xOf y false)) 4 rowFe (feA_size _) hx ?_ ?_); rfl)
    | ((with_reducible refine wpL_load (W.heap.size) 72 (feA y) 4 rowFe (feA_size _) hpy ?_ ?_); rfl)
    | (go_at_call 101; (with_reducible refine (HAt.out _ hP).mono ?_); rintro e w9 ⟨rfl, hb⟩; replace hx := hx.on hb; replace hpy := hpy.on hb; replace hr := hr.on hb; replace hB := below_on hB hb; clear hb)
    | (go_at_call 102; (with_reducible refine (HOd.out _).mono ?_); rintro e w10 ⟨rfl, hb⟩; replace hx := hx.on hb; replace hpy := hpy.on hb; replace hr := hr.on hb; replace hB := below_on hB hb; clear hb)
    | ((with_reducible refine wpL_load_gP (gx) 72 (feA (xOf y false)) 4 rowFe (feA_size _) hx ?_ ?_ ?_); rfl; rfl)
    | ((with_reducible refine wpL_store (W.heap.size + 1) 74 _ (ptA res) 16 rowPt rfl (ptA_size _) (ptA_one _) hr ?_ ?_ ?_); rfl; rfl))
        exact bodyPost_ret (results_row_tmp Tryz.results61 rowPt (ptA_size _) (hr.row _) rfl rfl) rfl ⟨rfl, below_rowSet hB (by omega) _⟩
  case true =>
    go_upto_region 7 with (first
      | ((with_reducible refine wpL_load (gx) 72 (feA (xE y)) 4 rowFe (feA_size _) hx ?_ ?_); rfl)
      | (go_at_call 100; (with_reducible refine (HMi.out _ hP).mono ?_); rintro e w7 ⟨rfl, hb⟩; replace hx := hx.on hb; replace hpy := hpy.on hb; replace hr := hr.on hb; replace hP := hP.on hb; replace hB := below_on hB hb; clear hb)
      | ((with_reducible refine wpL_store (gx) 72 (feA (xE y)) (feA (xOf y true)) 4 rowFe (feA_size _) (feA_size _) (feA_one _) hx ?_ ?_ ?_); rfl; rfl))
    clear hP
    replace hpy := hpy.rowFar (show W.heap.size ≠ gx by omega) (feA (xOf y true))
    replace hr := hr.rowFar (show W.heap.size + 1 ≠ gx by omega) (feA (xOf y true))
    replace hB := below_rowSet hB (show W.heap.size ≤ gx by omega) (feA (xOf y true))
    replace hx := hx.row (feA (xOf y true))
    generalize World.setRow _ _ _ = w8 at *
    have hP := (hT0.out.on hB).1
    cases B
    · go_wp2_with (first
    | ((with_reducible refine wpL_load (gx) 72 (feA (xOf y true)) 4 rowFe (feA_size _) hx ?_ ?_); rfl)
    | ((with_reducible refine wpL_load (W.heap.size) 72 (feA y) 4 rowFe (feA_size _) hpy ?_ ?_); rfl)
    | (go_at_call 101; (with_reducible refine (HAt.out _ hP).mono ?_); rintro e w9 ⟨rfl, hb⟩; replace hx := hx.on hb; replace hpy := hpy.on hb; replace hr := hr.on hb; replace hB := below_on hB hb; clear hb)
    | (go_at_call 102; (with_reducible refine (HOd.out _).mono ?_); rintro e w10 ⟨rfl, hb⟩; replace hx := hx.on hb; replace hpy := hpy.on hb; replace hr := hr.on hb; replace hB := below_on hB hb; clear hb)
    | ((with_reducible refine wpL_load_gP (gx) 72 (feA (xOf y true)) 4 rowFe (feA_size _) hx ?_ ?_ ?_); rfl; rfl)
    | ((with_reducible refine wpL_store (W.heap.size + 1) 74 _ (ptA res) 16 rowPt rfl (ptA_size _) (ptA_one _) hr ?_ ?_ ?_); rfl; rfl))
      exact bodyPost_ret (results_row_tmp Tryz.results61 rowPt (ptA_size _) (hr.row _) rfl rfl) rfl ⟨rfl, below_rowSet hB (by omega) _⟩
    · cases O
      · go_wp2_with (first
    | ((with_reducible refine wpL_load (gx) 72 (feA (xOf y true)) 4 rowFe (feA_size _) hx ?_ ?_); rfl)
    | ((with_reducible refine wpL_load (W.heap.size) 72 (feA y) 4 rowFe (feA_size _) hpy ?_ ?_); rfl)
    | (go_at_call 101; (with_reducible refine (HAt.out _ hP).mono ?_); rintro e w9 ⟨rfl, hb⟩; replace hx := hx.on hb; replace hpy := hpy.on hb; replace hr := hr.on hb; replace hB := below_on hB hb; clear hb)
    | (go_at_call 102; (with_reducible refine (HOd.out _).mono ?_); rintro e w10 ⟨rfl, hb⟩; replace hx := hx.on hb; replace hpy := hpy.on hb; replace hr := hr.on hb; replace hB := below_on hB hb; clear hb)
    | ((with_reducible refine wpL_load_gP (gx) 72 (feA (xOf y true)) 4 rowFe (feA_size _) hx ?_ ?_ ?_); rfl; rfl)
    | ((with_reducible refine wpL_store (W.heap.size + 1) 74 _ (ptA res) 16 rowPt rfl (ptA_size _) (ptA_one _) hr ?_ ?_ ?_); rfl; rfl))
        exact bodyPost_ret (results_row_tmp Tryz.results61 rowPt (ptA_size _) (hr.row _) rfl rfl) rfl ⟨rfl, below_rowSet hB (by omega) _⟩
      · go_wp2_with (first
    | ((with_reducible refine wpL_load (gx) 72 (feA (xOf y true)) 4 rowFe (feA_size _) hx ?_ ?_); rfl)
    | ((with_reducible refine wpL_load (W.heap.size) 72 (feA y) 4 rowFe (feA_size _) hpy ?_ ?_); rfl)
    | (go_at_call 101; (with_reducible refine (HAt.out _ hP).mono ?_); rintro e w9 ⟨rfl, hb⟩; replace hx := hx.on hb; replace hpy := hpy.on hb; replace hr := hr.on hb; replace hB := below_on hB hb; clear hb)
    | (go_at_call 102; (with_reducible refine (HOd.out _).mono ?_); rintro e w10 ⟨rfl, hb⟩; replace hx := hx.on hb; replace hpy := hpy.on hb; replace hr := hr.on hb; replace hB := below_on hB hb; clear hb)
    | ((with_reducible refine wpL_load_gP (gx) 72 (feA (xOf y true)) 4 rowFe (feA_size _) hx ?_ ?_ ?_); rfl; rfl)
    | ((with_reducible refine wpL_store (W.heap.size + 1) 74 _ (ptA res) 16 rowPt rfl (ptA_size _) (ptA_one _) hr ?_ ?_ ?_); rfl; rfl))
        exact bodyPost_ret (results_row_tmp Tryz.results61 rowPt (ptA_size _) (hr.row _) rfl rfl) rfl ⟨rfl, below_rowSet hB (by omega) _⟩
end Go.Proofs.YtmekmlgpkbfjpaaGreatDoor.C

/- The bytes of a point and of its contrary. -/
namespace Go.Proofs.YtmekmlgpkbfjpaaGreatDoor.C
open Go.RowKit Go.Proofs.YtmekmlgpkbfjpaaGreatDoor.F
set_option maxRecDepth 100000

theorem leL_same (y b : Nat) : ∀ k, k ≤ 31 → leL (y + two255 * b) k = leL y k
  | 0, _ => rfl
  | k + 1, h => by
    rw [leL_succ, leL_succ, leL_same y b k (by omega)]
    congr 2
    have e : two255 * b = 256 ^ k * (256 * (2 ^ (255 - 8 * (k + 1)) * b)) := by
      have h1 : two255 = 256 ^ k * (256 * 2 ^ (255 - 8 * (k + 1))) := by
        rw [show two255 = 2 ^ 255 by decide, show (256 : Nat) = 2 ^ 8 by decide, ← Nat.pow_mul, ← Nat.pow_add, ← Nat.pow_add]
        congr 1
        omega
      rw [h1, Nat.mul_assoc, Nat.mul_assoc]
    rw [e, Nat.add_mul_div_left _ _ (Nat.pow_pos (by decide)), Nat.add_mul_mod_self_left]
/-- y's highest seven bits -/
def topN (P : Pt) : Nat := P.y.val / 256 ^ 31
theorem topN_lt (P : Pt) : topN P < 128 := by
  have h : P.y.val < p25 := P.y.isLt
  unfold topN p25 at *
  omega
theorem text_list (P : Pt) : textN P = ⟨(leL P.y.val 31 ++ [(topN P + 128 * (P.x.val % 2)).toUInt8]).toArray⟩ := by
  have ht := topN_lt P
  have hb : P.x.val % 2 < 2 := Nat.mod_lt _ (by decide)
  unfold textN
  rw [show (32 : Nat) = 31 + 1 from rfl, leL_succ, leL_same _ _ 31 (Nat.le_refl _)]
  have e : (P.y.val + two255 * (P.x.val % 2)) / 256 ^ 31 % 256 = topN P + 128 * (P.x.val % 2) := by
    unfold topN at *
    rw [show two255 = 256 ^ 31 * 128 by decide, Nat.mul_assoc, Nat.add_mul_div_left _ _ (Nat.pow_pos (by decide))]
    omega
  rw [e]
theorem last_byte {A : List UInt8} {x : Nat} {s : ByteArray} (hl : A.length = 31) (hx : x < 256) (es : s = ⟨(A ++ [x.toUInt8]).toArray⟩) (h : 31 < s.size) : (s[31]'h).toNat = x := by
  subst es
  show ((A ++ [x.toUInt8]).toArray[31]'_).toNat = x
  rw [List.getElem_toArray, List.getElem_append_right (by omega)]
  simp only [hl, Nat.sub_self, List.getElem_cons_zero]
  rw [Nat.toUInt8, UInt8.toNat_ofNat']
  omega
end Go.Proofs.YtmekmlgpkbfjpaaGreatDoor.C

/- The contract of the reference's Text. -/
namespace Go.Proofs.YtmekmlgpkbfjpaaGreatDoor.C
open Go.RowKit Go.Sort Go.Proofs.YtmekmlgpkbfjpaaGreatDoor.F
set_option maxRecDepth 100000

theorem y_list (P : Pt) : (⟨(leL P.y.val 32).toArray⟩ : ByteArray) = ⟨(leL P.y.val 31 ++ [(topN P).toUInt8]).toArray⟩ := by
  have ht := topN_lt P
  rw [show (32 : Nat) = 31 + 1 from rfl, leL_succ]
  unfold topN at *
  rw [Nat.mod_eq_of_lt (show P.y.val / 256 ^ 31 < 256 by omega)]
attribute [local irreducible] feA
end Go.Proofs.YtmekmlgpkbfjpaaGreatDoor.C

