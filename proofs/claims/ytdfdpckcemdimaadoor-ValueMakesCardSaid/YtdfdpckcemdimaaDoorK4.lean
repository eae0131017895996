/- Texts that stand on one another, put together: VHeld, VInsert, VRefMap, VRefSame. -/
import Derived.Test.YtdfdpckcemdimaaDoorK3
import Derived.OrdersHeld
/- Operations of a region that draws its order, taken one by one. Nothing of the program is named here. -/
namespace Go.Proofs.YtdfdpckcemdimaaDoor.V
open Go.Sort Go.RowKit
def Still (Q : Exit → Act → World → Prop) : Exit → Act → World → Prop
  | .panic _, _, _ => False
  | e, a, w => Q e a w
theorem calm_panic {K : Act → World → Prop} {Q : Exit → Act → World → Prop} : ∀ c d v (a : Act) (w : World), Exit.then K (Still Q) (.panic c) (a.put d v) w → Exit.then K (Still Q) (.panic c) a w := fun _ _ _ _ _ h => (h : False).elim

/-! ### operations of a region that draws its order, taken one by one -/
section
variable {P : Program} {md : Region.Mode} {ops : Array Oper} {Q : Exit → Act → World → Prop} {S : World → Prop} {a : Act} {w w' : World}
theorem wpOp_val {i : Nat} {o : Oper} {v : Value} {K : Act → World → Prop} (hi : ops[i]? = some o) (hw : Region.wanted o (yielded ops a.tmps) = true) (hr : (execOp a.eval o).run P w = .ok (.value v) w') (h : K (a.put o.dst v) w') : wpOp P ops Q i K a w := by
  unfold Go.wpOp
  simp only [hi]
  simp only [hw, if_true, Oper.wp, hr, Oper.upon]
  exact .inl h
theorem held_done {K : Act → World → Prop} {Q : Exit → Act → World → Prop} {listed : Array Bool} {fuel : Nat} (hr : Region.ready md ops listed = []) (h : Exit.then K Q .normal a w) : wpAnyH P md ops (Exit.then K (Still Q)) S fuel listed a w := wpAnyH_done hr (show Exit.then K (Still Q) .normal a w from h) fuel
theorem held_take {K : Act → World → Prop} {Q : Exit → Act → World → Prop} {fuel : Nat} {listed : Array Bool} (i : Nat) (v : Value) {oi : Oper} (hi : ops[i]? = some oi) (hs : Region.noSelect ops = true) (hf : Region.free md ops listed i = true) (hr : (Region.ready md ops listed).contains i = true)
    (hw : Region.wanted oi (yielded ops a.tmps) = true) (hy : ∀ w, S w → (execOp a.eval oi).run P w = .ok (.value v) w) (hS : S w) (h : wpAnyH P md ops (Exit.then K (Still Q)) S fuel (listed.setIfInBounds i true) (a.put oi.dst v) w) : wpAnyH P md ops (Exit.then K (Still Q)) S (fuel + 1) listed a w :=
  wpAnyH_take hi hs hf hr (fun c a w h => calm_panic c _ _ a w h) (.inl ⟨hw, hy⟩) hS h
/-- .. with the slot said -/
theorem held_put {K : Act → World → Prop} {Q : Exit → Act → World → Prop} {fuel : Nat} {listed : Array Bool} (i : Nat) (d : Tmp) (v : Value) {oi : Oper} (hi : ops[i]? = some oi) (hd : oi.dst = some d) (hs : Region.noSelect ops = true) (hf : Region.free md ops listed i = true) (hr : (Region.ready md ops listed).contains i = true)
    (hw : Region.wanted oi (yielded ops a.tmps) = true) (hy : ∀ w, S w → (execOp a.eval oi).run P w = .ok (.value v) w) (hS : S w) (h : wpAnyH P md ops (Exit.then K (Still Q)) S fuel (listed.setIfInBounds i true) ⟨a.tmps.setIfInBounds d v, a.defers⟩ w) : wpAnyH P md ops (Exit.then K (Still Q)) S (fuel + 1) listed a w :=
  held_take i v hi hs hf hr hw hy hS (by rw [hd]; exact h)
theorem wpOp_put {i : Nat} {o : Oper} (d : Tmp) {v : Value} {K : Act → World → Prop} (hi : ops[i]? = some o) (hd : o.dst = some d) (hw : Region.wanted o (yielded ops a.tmps) = true) (hr : (execOp a.eval o).run P w = .ok (.value v) w') (h : K ⟨a.tmps.setIfInBounds d v, a.defers⟩ w') : wpOp P ops Q i K a w :=
  wpOp_val hi hw hr (by rw [hd]; exact h)
theorem held_one {fuel : Nat} {listed : Array Bool} (i : Nat) (hr : Region.ready md ops listed = [i]) (h : wpOp P ops Q i (fun a' w' => S w' ∧ wpAnyH P md ops Q S fuel (listed.setIfInBounds i true) a' w') a w) : wpAnyH P md ops Q S (fuel + 1) listed a w :=
  wpAnyH_all hr (by simp) (fun j hj => by rw [List.mem_singleton.1 hj]; exact h)
theorem held_two {fuel : Nat} {listed : Array Bool} (i j : Nat) (hr : Region.ready md ops listed = [i, j]) (h : wpOp P ops Q i (fun a' w' => S w' ∧ wpAnyH P md ops Q S fuel (listed.setIfInBounds i true) a' w') a w) (k : wpOp P ops Q j (fun a' w' => S w' ∧ wpAnyH P md ops Q S fuel (listed.setIfInBounds j true) a' w') a w) : wpAnyH P md ops Q S (fuel + 1) listed a w :=
  wpAnyH_all hr (by simp) (fun l hl => by
    simp only [List.mem_cons, List.not_mem_nil, or_false] at hl
    rcases hl with rfl | rfl
    · exact h
    · exact k)
theorem wpOp_call {i : Nat} {o : Oper} (d : Tmp) {f : FuncId} {args : Array Value} {K : Act → World → Prop} (hi : ops[i]? = some o) (hd : o.dst = some d) (hw : Region.wanted o (yielded ops a.tmps) = true) (hr : (execOp a.eval o).run P w = .ok (.enter f args) w) (h : Calls P f args w fun e w'' => ∃ v, e = .returned v ∧ K ⟨a.tmps.setIfInBounds d v, a.defers⟩ w'') : wpOp P ops Q i K a w := by
  unfold Go.wpOp
  simp only [hi]
  simp only [hw, if_true, Oper.wp, hr, Oper.upon]
  refine .inl (h.mono ?_)
  rintro e w'' ⟨v, rfl, hk⟩
  rw [hd]
  exact hk
end

section
variable {P : Program} {md : Region.Mode} {ops : Array Oper} {Q : Exit → Act → World → Prop} {S : World → Prop} {a : Act} {w : World}
/-- a guard that does not want it -/
theorem held_skip {K : Act → World → Prop} {Q : Exit → Act → World → Prop} {fuel : Nat} {listed : Array Bool} (i : Nat) (d : Tmp) {oi : Oper} (hi : ops[i]? = some oi) (hd : oi.dst = some d) (hs : Region.noSelect ops = true) (hf : Region.free md ops listed i = true) (hr : (Region.ready md ops listed).contains i = true)
    (hw : Region.wanted oi (yielded ops a.tmps) = false) (hS : S w) (h : wpAnyH P md ops (Exit.then K (Still Q)) S fuel (listed.setIfInBounds i true) ⟨a.tmps.setIfInBounds d undef, a.defers⟩ w) : wpAnyH P md ops (Exit.then K (Still Q)) S (fuel + 1) listed a w :=
  wpAnyH_take hi hs hf hr (fun c a w h => calm_panic c _ _ a w h) (.inr ⟨hw, rfl⟩) hS (by rw [hd]; exact h)
end
/-- whatever comes behind: no panic, the normal way -/
theorem wp_held_any {P : Program} {ops : Array Oper} {S : World → Prop} {a : Act} {w : World} {id : Nat} {Q : Exit → Act → World → Prop} (n : Nat) (hn : ops.size = n) (hm : P.follows .mixedOrders = true)
    (h : wpAnyH P .any ops (Exit.then (fun a w => Q .normal a w) (Still fun _ _ _ => False)) S n (Array.replicate n false) a { w with drawn := w.drawn + 1 }) : (Code.region id ops true).wp P Q a w := by
  subst hn
  refine Code.wp_mono (Q := Exit.then (fun a w => Q .normal a w) (Still fun _ _ _ => False)) (fun e a w h => ?_) (wp_region_held hm h)
  cases e <;> first | exact h | exact (h : False).elim

end Go.Proofs.YtdfdpckcemdimaaDoor.V

/- A pair put among rising ones; rows cut in a walk. -/
namespace Go.Proofs.YtdfdpckcemdimaaDoor.V
open Go.RowKit Go.Sort Go.Joins
set_option maxRecDepth 100000

theorem Rising.of_pair : ∀ {S : List PairT}, S.Pairwise (fun p q => lessL p.key q.key = true) → Rising S := by
  intro S h i p q h1 h2
  obtain ⟨l1, e1⟩ := List.getElem?_eq_some_iff.1 h1
  obtain ⟨l2, e2⟩ := List.getElem?_eq_some_iff.1 h2
  have := List.pairwise_iff_getElem.1 h i (i + 1) l1 l2 (Nat.lt_succ_self i)
  rwa [e1, e2] at this
/-- all before place k are less -/
def LessTo (R : List PairT) (key : List UInt8) (k : Nat) : Prop := ∀ (i : Nat) (q : PairT), i < k → R[i]? = some q → lessL q.key key = true
theorem LessTo.next {R : List PairT} {key : List UInt8} {k : Nat} {q : PairT} (h : LessTo R key k) (hq : R[k]? = some q) (hl : lessL q.key key = true) : LessTo R key (k + 1) := by
  intro i x hi hx
  rcases Nat.lt_or_ge i k with h1 | h1
  · exact h i x h1 hx
  · obtain rfl : i = k := by omega
    rw [hq] at hx
    cases hx
    exact hl
theorem rising_insert {R : List PairT} {p : PairT} {k : Nat} (hR : Rising R) (hl : LessTo R p.key k) (hk : ∀ q, R[k]? = some q → lessL q.key p.key = false) (hne : ∀ q ∈ R, q.key ≠ p.key) : Rising (R.take k ++ p :: R.drop k) := by
  refine Rising.of_pair (List.pairwise_append.2 ⟨hR.pair.sublist (List.take_sublist k R), ?_, ?_⟩)
  · refine List.Pairwise.cons (fun x hx => ?_) (hR.pair.sublist (List.drop_sublist k R))
    obtain ⟨i, hi⟩ := List.mem_iff_getElem?.1 hx
    rw [List.getElem?_drop] at hi
    have hxm := List.mem_of_getElem? hi
    have hpx : lessL x.key p.key = false := by
      rcases Nat.eq_zero_or_pos i with h0 | h0
      · subst h0; exact hk x hi
      · obtain ⟨l2, e2⟩ := List.getElem?_eq_some_iff.1 hi
        obtain ⟨q, hq⟩ : ∃ q, R[k]? = some q := ⟨R[k]'(by omega), List.getElem?_eq_getElem _⟩
        obtain ⟨l1, e1⟩ := List.getElem?_eq_some_iff.1 hq
        have hqx := List.pairwise_iff_getElem.1 hR.pair k (k + i) l1 l2 (by omega)
        rw [e1, e2] at hqx
        cases hc : lessL x.key p.key with
        | false => rfl
        | true =>
          have := less_trans _ _ _ hqx hc
          rw [hk q hq] at this
          cases this
    rcases less_three p.key x.key with ⟨h3, _, _⟩ | ⟨h3, _, _⟩ | ⟨_, _, h3⟩
    · exact h3
    · exact absurd h3.symm (hne x hxm)
    · rw [hpx] at h3; cases h3
  · intro a ha b hb
    obtain ⟨i, hi⟩ := List.mem_iff_getElem?.1 ha
    rw [List.getElem?_take] at hi
    split at hi
    case isFalse => cases hi
    rename_i hik
    have hap := hl i a hik hi
    rcases List.mem_cons.1 hb with rfl | hb
    · exact hap
    · obtain ⟨m, hm⟩ := List.mem_iff_getElem?.1 hb
      rw [List.getElem?_drop] at hm
      obtain ⟨l1, e1⟩ := List.getElem?_eq_some_iff.1 hi
      obtain ⟨l2, e2⟩ := List.getElem?_eq_some_iff.1 hm
      have := List.pairwise_iff_getElem.1 hR.pair i (k + m) l1 l2 (by omega)
      rwa [e1, e2] at this
theorem insert_perm (R : List PairT) (p : PairT) (k : Nat) : (R.take k ++ p :: R.drop k).Perm (R ++ [p]) := by
  have h1 : (R.take k ++ p :: R.drop k).Perm (p :: (R.take k ++ R.drop k)) := List.perm_middle
  rw [List.take_append_drop] at h1
  exact h1.trans (List.perm_append_singleton p R).symm
theorem insert_keyC (R : List PairT) (p : PairT) (k : Nat) : ([] ++ (keyC R).take k ++ [[str p.key]]) ++ (keyC R).drop k = keyC (R.take k ++ p :: R.drop k) := by
  unfold keyC; simp [List.map_take, List.map_drop]
theorem insert_valL (R : List PairT) (p : PairT) (k : Nat) : ([] ++ (valL R).take k ++ [p.cells]) ++ (valL R).drop k = valL (R.take k ++ p :: R.drop k) := by
  unfold valL; simp [List.map_take, List.map_drop]
/-- no key of the ones before is the next one's -/
theorem unlike_next {S R : List PairT} {j : Nat} {p : PairT} (hn : (S.map (·.key)).Nodup) (hp : S[j]? = some p) (hR : R.Perm (S.take j)) : ∀ q ∈ R, q.key ≠ p.key := by
  intro q hq he
  have hq := hR.mem_iff.1 hq
  obtain ⟨i, hi⟩ := List.mem_iff_getElem?.1 hq
  rw [List.getElem?_take] at hi
  split at hi
  case isFalse => cases hi
  rename_i hij
  obtain ⟨l1, e1⟩ := List.getElem?_eq_some_iff.1 hi
  obtain ⟨l2, e2⟩ := List.getElem?_eq_some_iff.1 hp
  have h3 := List.pairwise_iff_getElem.1 (List.nodup_iff_pairwise_ne.1 hn) i j (by rw [List.length_map]; exact l1) (by rw [List.length_map]; exact l2) hij
  rw [List.getElem_map, List.getElem_map, e1, e2] at h3
  exact h3 he
section
variable {P : Program} {ops : Array Oper} {rest : List Oper} {a : Act} {w : World} {Q : Exit → Act → World → Prop} {t' : TypeId} {pos : String} {after : Array Edge} {d : Option Tmp} {x y : Tmp}
theorem wpL_cutLo {ty : TypeId} (k : Nat) (ht : P.underlying ty = some (.slice (P.elem ty))) (hs : ∀ w, (Go.sizeOf (P.elem ty)).run P w = .ok k w) (ad : Option Addr) (n c r : Nat) (css : List (List Value)) (hR : RowL w k (.slice ad n c) css) (hr : r ≤ n) (hx : a.eval (.tmp x) = .slice ad n c) (hy : a.eval (.tmp y) = .int .i64 (r : Int))
    (h : ∀ v', RowL w k v' (css.drop r) → wpList P ops Q rest (a.put d v') w) : wpList P ops Q (⟨d, .slice ty (.tmp x) (some (.tmp y)) none none, t', pos, after, none⟩ :: rest) a w := by
  have hn : n = css.length := by obtain ⟨_, a', c', e, _⟩ := hR; injection e
  subst hn
  have h1 := run_slice_l (P := P) w ty ad css.length c ht .i64 (r : Int) (by omega) (by omega)
  have h2 := run_sliceAt_slice (P := P) w ty (.slice ad css.length c) (some (.int .i64 (r : Int))) none none ht
  refine wpL_val (sliced ad r css.length c k) rfl ?_ (h _ (hR.drop hr))
  unfold execOp
  simp only [hx, hy, Option.map_some, Option.map_none, Sem.run_bind, h2, h1, hs, Result.andThen, Sem.run_pure, Int.toNat_natCast]
theorem wpL_cutHi {ty : TypeId} (k : Nat) (ht : P.underlying ty = some (.slice (P.elem ty))) (hs : ∀ w, (Go.sizeOf (P.elem ty)).run P w = .ok k w) (ad : Option Addr) (n c r : Nat) (css : List (List Value)) (hR : RowL w k (.slice ad n c) css) (hr : r ≤ n) (hx : a.eval (.tmp x) = .slice ad n c) (hy : a.eval (.tmp y) = .int .i64 (r : Int))
    (h : ∀ v', RowL w k v' (css.take r) → wpList P ops Q rest (a.put d v') w) : wpList P ops Q (⟨d, .slice ty (.tmp x) none (some (.tmp y)) none, t', pos, after, none⟩ :: rest) a w := by
  have hn : n = css.length := by obtain ⟨_, a', c', e, _⟩ := hR; injection e
  have hc : n ≤ c := by obtain ⟨_, a', c', e, hc, _⟩ := hR; injection e with _ e2 e3; omega
  have h1 := run_slice_h (P := P) w ty ad n c ht .i64 (r : Int) (by omega) (by omega)
  have h2 := run_sliceAt_slice (P := P) w ty (.slice ad n c) none (some (.int .i64 (r : Int))) none ht
  refine wpL_val (sliced ad 0 r c k) rfl ?_ (h _ (hR.take (by omega)))
  unfold execOp
  simp only [hx, hy, Option.map_some, Option.map_none, Sem.run_bind, h2, h1, hs, Result.andThen, Sem.run_pure, Int.toNat_natCast]
end
theorem elemS : ∀ w, (Go.sizeOf (Tryd.prog.elem 23)).run Tryd.prog w = .ok 1 w := by
  rw [show Tryd.prog.elem 23 = 9 by kernel_rfl]
  exact Tryd.sizeOf9
theorem elemV : ∀ w, (Go.sizeOf (Tryd.prog.elem 22)).run Tryd.prog w = .ok 5 w := by
  rw [show Tryd.prog.elem 22 = 25 by kernel_rfl]
  exact Tryd.sizeOf25
theorem underS : Tryd.prog.underlying 23 = some (.slice (Tryd.prog.elem 23)) := by kernel_rfl
theorem underV : Tryd.prog.underlying 22 = some (.slice (Tryd.prog.elem 22)) := by kernel_rfl
end Go.Proofs.YtdfdpckcemdimaaDoor.V

/- The reference's Map: pairs of unlike keys come to their one order. -/
namespace Go.Proofs.YtdfdpckcemdimaaDoor.V
open Go.RowKit Go.Sort Go.Joins
set_option maxRecDepth 100000

theorem one_str (x : List UInt8) : ∀ u ∈ [[(Value.string ⟨x.toArray⟩ : Value)]].flatten, u.oneCell' = true := fun u hu => by rcases List.mem_singleton.1 (show u ∈ [(Value.string ⟨x.toArray⟩ : Value)] from hu) with rfl; rfl
theorem one_keyC (S : List PairT) : ∀ u ∈ (keyC S).flatten, u.oneCell' = true := by
  intro u hu
  obtain ⟨cs, hcs, hu⟩ := List.mem_flatten.1 hu
  obtain ⟨p, _, rfl⟩ := List.mem_map.1 hcs
  rcases List.mem_singleton.1 hu with rfl
  rfl
theorem one_sub {k : Nat} {css : List (List Value)} (h : ∀ u ∈ css.flatten, u.oneCell' = true) : (∀ u ∈ (css.take k).flatten, u.oneCell' = true) ∧ (∀ u ∈ (css.drop k).flatten, u.oneCell' = true) := by
  refine ⟨fun u hu => ?_, fun u hu => ?_⟩
  · obtain ⟨cs, hcs, hu⟩ := List.mem_flatten.1 hu
    exact h u (List.mem_flatten.2 ⟨cs, List.mem_of_mem_take hcs, hu⟩)
  · obtain ⟨cs, hcs, hu⟩ := List.mem_flatten.1 hu
    exact h u (List.mem_flatten.2 ⟨cs, List.mem_of_mem_drop hcs, hu⟩)
/-- lengths that a row of at most 1,000, put together again, comes to -/
theorem join_lens {css : List (List Value)} {k b : Nat} (c : List Value) (h : css.length ≤ 1000) (hk : k ≤ css.length) (hb : b ≤ 96) :
    (([] : List (List Value)).length + (css.take k).length ≤ maxLen ∧ (([] : List (List Value)).length + (css.take k).length) * b ≤ 140737488355328) ∧
    ((([] ++ css.take k).length + [c].length ≤ maxLen) ∧ (([] ++ css.take k).length + [c].length) * b ≤ 140737488355328) ∧
    ((([] ++ css.take k ++ [c]).length + (css.drop k).length ≤ maxLen) ∧ (([] ++ css.take k ++ [c]).length + (css.drop k).length) * b ≤ 140737488355328) := by
  simp only [List.nil_append, List.length_append, List.length_take, List.length_drop, List.length_cons, List.length_nil]
  unfold maxLen
  refine ⟨⟨by omega, ?_⟩, ⟨by omega, ?_⟩, ⟨by omega, ?_⟩⟩
  · exact Nat.le_trans (Nat.mul_le_mul (show _ ≤ 1001 by omega) hb) (by decide)
  · exact Nat.le_trans (Nat.mul_le_mul (show _ ≤ 1001 by omega) hb) (by decide)
  · exact Nat.le_trans (Nat.mul_le_mul (show _ ≤ 1001 by omega) hb) (by decide)
set_option maxHeartbeats 12800000 in
theorem refMap_any (d : Nat) (v : Value) (S : List PairT) (W : World) (h : Pairs W d v S) (hn : S.length ≤ 1000) (hnd : (S.map (·.key)).Nodup) :
    Calls Tryd.prog 22 #[v] W fun e w' => (∃ (cs : List Value) (R : List PairT), e = .returned (.agg cs.toArray) ∧ R.Perm S ∧ Rising R ∧ IsV w' (d + 1) cs (mapT R)) ∧ Below W.heap.size W w' := by
  obtain ⟨iV, hi, hz0, hz1, hz2⟩ := info_parts infoV
  obtain ⟨iS, hj, hy0, hy1, hy2⟩ := info_parts infoS
  obtain ⟨a, c, rfl, hc, hm, _⟩ := h.1.form
  rw [List.length_map] at hc h
  rw [List.length_map]
  have HP := Lib.hid h.2
  have HRow := Lib.hid (fun (j : Nat) (p : PairT) (hp : S[j]? = some p) => h.1.at (i := j) (cs := p.all) (by rw [List.getElem?_map, hp]; rfl))
  have HN := Lib.hid hnd
  have hB1 := (RowKit.Below.refl W.heap.size W).alloc (Nat.le_refl _) (.cells valZ 25)
  have lR : Lies (W.alloc (.cells valZ 25)) W.heap.size 25 valZ := Lies.new W _ _
  have hsz : (W.alloc (.cells valZ 25)).heap.size = W.heap.size + 1 := by simp
  clear h hnd hc hm
  go_enter Tryd.func22, Tryd.ntmps22
  go_upto_region 2 with fail
  have lV := Lies.new (W.alloc (.cells valZ 25)) 25 #[.int .i64 4, .int .i64 0, .string ⟨#[]⟩, .slice none 0 0, .slice none 0 0]
  replace lR := lR.alloc (.cells #[.int .i64 4, .int .i64 0, .string ⟨#[]⟩, .slice none 0 0, .slice none 0 0] 25)
  replace hB1 := hB1.alloc hB1.size (.cells #[.int .i64 4, .int .i64 0, .string ⟨#[]⟩, .slice none 0 0, .slice none 0 0] 25)
  have hlt2 := lV.lt
  rw [hsz] at lV hlt2
  obtain ⟨g3, hg3⟩ : ∃ g3, W.heap.size + 1 = g3 := ⟨_, rfl⟩
  rw [hg3] at lV hlt2
  rw [hg3]
  have hg2 : W.heap.size < g3 := by omega
  clear hg3 hsz
  generalize World.alloc (W.alloc _) _ = w2 at *
  go_wp2
  go_loopw [12] (fun iv wr => ∃ (j : Nat) (R : List PairT) (ai : Option Addr) (ci : Nat) (ak : Option Addr) (ck : Nat), iv = .int .i64 j ∧ j ≤ S.length ∧ Hid (R.Perm (S.take j) ∧ Rising R) ∧ R.length = j ∧ Lies wr g3 25 #[.int .i64 4, .int .i64 0, .string ⟨#[]⟩, .slice ai j ci, .slice ak j ck] ∧ OwnL wr (g3 + 1) 25 5 (.slice ai j ci) (valL R) ∧ OwnL wr (g3 + 1) 9 1 (.slice ak j ck) (keyC R) ∧ Lies wr W.heap.size 25 valZ ∧ RowKit.Below W.heap.size W wr ∧ g3 + 1 ≤ wr.heap.size) (fun iv _ => S.length - (intOf iv).toNat)
  case atStart => exact ⟨0, [], none, 0, none, 0, rfl, Nat.zero_le _, Lib.hid ⟨List.Perm.nil, fun i p q h => by simp at h⟩, rfl, lV, OwnL.nil _ _ _ _, OwnL.nil _ _ _ _, lR, hB1, hlt2⟩
  case round =>
    clear lV lR hB1 hlt2
    obtain ⟨j, R, ai, ci, ak, ck, rfl, hjl, HS, hRl, lV, hoI, hoK, lR, hb, hs3⟩ := hrel
    by_cases hlt : j < S.length
    · obtain ⟨p, hp⟩ : ∃ p, S[j]? = some p := ⟨S[j], List.getElem?_eq_getElem hlt⟩
      have hpm := List.mem_of_getElem? hp
      obtain ⟨b, off, rfl, hra, _⟩ := HRow.out j p hp
      have hpk := (HP.out p hpm).2
      obtain ⟨xi, xc, xk, xd, hcs⟩ := (HP.out p hpm).1.form
      unfold PairT.all at hra
      rw [hcs] at hra
      obtain ⟨k0, k1, k2, k3, k4, k5⟩ := range6 (range_below hb hra)
      unfold str at k0
      have HU := Lib.hid (unlike_next HN.out hp HS.out.1)
      have HTk := Lib.hid (show S.take (j + 1) = S.take j ++ [p] from by
        obtain ⟨hl, rfl⟩ := List.getElem?_eq_some_iff.1 hp
        exact List.take_succ_eq_append_getElem hl)
      have hba := (RowKit.Below.refl wr.heap.size wr).alloc (Nat.le_refl _) (.cells #[.string ⟨p.key.toArray⟩, .int .i64 p.val.kind, .int .i64 p.val.num, .string ⟨p.val.txt.toArray⟩, .slice xi p.val.items.length xc, .slice xk p.val.keys.length xd] 39)
      have lP := Lies.new wr 39 #[.string ⟨p.key.toArray⟩, .int .i64 p.val.kind, .int .i64 p.val.num, .string ⟨p.val.txt.toArray⟩, .slice xi p.val.items.length xc, .slice xk p.val.keys.length xd]
      replace lV := lV.on hba
      replace lR := lR.on hba
      replace hoI := hoI.on hba
      replace hoK := hoK.on hba
      replace hb := on_below hb hba hb.size
      have hgP : g3 < wr.heap.size := hs3
      replace hs3 := Nat.le_trans hs3 hba.size
      clear hra hba hp hpm
      go_upto_region 5 with fail
      generalize wr.heap.size = gP at *
      generalize World.alloc wr _ = wa at *
      have HOK := Lib.hid hRl
      clear hRl
      go_wp2
      go_loopw [6] (fun kv wr => ∃ (k : Nat), kv = .int .i64 k ∧ k ≤ j ∧ Hid (LessTo R p.key k) ∧ RowKit.Below wa.heap.size wa wr) (fun kv _ => j - (intOf kv).toNat)
      case atStart => exact ⟨0, rfl, Nat.zero_le _, Lib.hid (fun i q h => absurd h (by omega)), RowKit.Below.refl _ _⟩
      case round =>
        obtain ⟨k, rfl, hkj, HL, hbx⟩ := hrel
        replace lV := lV.on hbx
        replace lP := lP.on hbx
        have q4 := lV.cell 4
        have x0 := lP.cell 0
        simp only [List.getElem?_toArray, List.getElem?_cons_succ, List.getElem?_cons_zero] at q4 x0
        have u4 := cell_regrown q4
        have u0 := cell_regrown x0
        clear q4 x0
        by_cases hk : k < j
        · obtain ⟨q, hq⟩ : ∃ q, R[k]? = some q := ⟨R[k]'(by rw [HOK.out]; exact hk), List.getElem?_eq_getElem _⟩
          obtain ⟨b2, off2, rfl, hrk, _⟩ := (hoK.on hbx).read.at (i := k) (cs := [str q.key]) (by unfold keyC; rw [List.getElem?_map, hq]; rfl)
          have e0 : wr.cell? ⟨b2, off2 + k, none⟩ = some (.string ⟨q.key.toArray⟩) := by
            have := hrk 0 (str q.key) rfl
            rwa [Nat.mul_one] at this
          have ue := cell_regrown e0
          have hqk : q.key.length ≤ maxLen := (HP.out q ((List.take_sublist j S).subset (HS.out.1.mem_iff.1 (List.mem_of_getElem? hq)))).2
          have rL := Lib.hid (reg (W := wr) (fun w _ => refLess_l q.key p.key w hqk))
          have hk2 : (k : Int) < (j : Int) := by omega
          clear e0 hrk
          cases hless : lessL q.key p.key with
          | true =>
            rw [hless] at rL
            have HL2 := Lib.hid (HL.out.next hq hless)
            clear hq hless HL
            go_wp2_with fail
            refine wp_region_quiet_below (by kernel_rfl) (by kernel_rfl) ?_
            repeat (go_big_quiet_step (with_reducible exact rL.out _ _))
            refine wpQuiet_nil ?_
            intro _ hw'
            obtain ⟨⟨dq, osq⟩, hw''⟩ := hw'
            subst hw''
            have hbb := below_regrown wr dq osq
            go_wp2
            go_roundw
            case rel => exact ⟨k + 1, by go_num, by omega, HL2, on_below hbx hbb hbx.size⟩
            case measure => simp [intOf]; omega
          | false =>
            rw [hless] at rL
            have hnl : ∀ q, R[k]? = some q → lessL q.key p.key = false := fun x hx => by rw [hq] at hx; cases hx; exact hless
            clear hq hless
            go_upto_region 6 with fail
            refine wp_region_quiet_below (by kernel_rfl) (by kernel_rfl) ?_
            repeat (go_big_quiet_step (with_reducible exact rL.out _ _))
            refine wpQuiet_nil ?_
            intro _ hw'
            obtain ⟨⟨dq, osq⟩, hw''⟩ := hw'
            subst hw''
            have hbb := below_regrown wr dq osq
            replace hbx := on_below hbx hbb hbx.size
            replace lV := lV.on hbb
            replace lP := lP.on hbb
            replace lR := lR.on hbx
            replace hoI := hoI.on hbx
            replace hoK := hoK.on hbx
            replace hb := on_below hb hbx hb.size
            replace hs3 := Nat.le_trans hs3 hbx.size
            clear u4 u0 hbb
            generalize grow (redrawn wr dq) osq = wb at *
            have HSR := Lib.hid (show (R.take k ++ p :: R.drop k).Perm (S.take (j + 1)) ∧ Rising (R.take k ++ p :: R.drop k) from ⟨by rw [HTk.out]; exact (insert_perm R p k).trans (HS.out.1.append_right [p]), rising_insert HS.out.2 HL.out hnl HU.out⟩)
            have HLn := Lib.hid (show (R.take k ++ p :: R.drop k).length = j + 1 from by rw [(insert_perm R p k).length_eq, List.length_append, HOK.out]; rfl)
            obtain ⟨m, hm⟩ : ∃ m, Hid (m = j + 1) := ⟨_, Lib.hid rfl⟩
            have HUV := Lib.hid (one_valL (S := R) (fun q hq => (HP.out q ((List.take_sublist j S).subset (HS.out.1.mem_iff.1 hq))).1))
            clear hnl HL HU HTk HS hbx
            go_upto_region 9 with fail
            have HB := (RowKit.Below.refl wb.heap.size wb).alloc (Nat.le_refl _) (.cells #[] 9)
            have HO := OwnL.made wb wb.heap.size 9 1 (Nat.le_refl _)
            have hsB := HB.size
            generalize wb.alloc (.cells #[] 9) = wc at *
            have qc := (lV.on HB).cell 4
            simp only [List.getElem?_toArray, List.getElem?_cons_succ, List.getElem?_cons_zero] at qc
            have HRo := (hoK.on HB).read
            obtain ⟨⟨hl1, hl1b⟩, ⟨hl2, hl2b⟩, ⟨hl3, hl3b⟩⟩ := join_lens (css := keyC R) (k := k) (b := 16) [.string ⟨p.key.toArray⟩] (by unfold keyC; rw [List.length_map, HOK.out]; omega) (by unfold keyC; rw [List.length_map, HOK.out]; omega) (by decide)
            obtain ⟨hu1, hu3⟩ := one_sub (k := k) (one_keyC R)
            go_upto_region 10 with (first | ((with_reducible refine wpL_cutHi 1 underS elemS _ _ _ k (keyC R) HRo hkj ?_ ?_ ?_); rfl; rfl; intro v1 hv1) | ((with_reducible refine wpL_appendL wb.heap.size 9 iS (.string ⟨#[]⟩) 1 16 Tryd.underlying23 hj hy0 hy1 hy2 rfl (by decide) _ ([]) HO _ ((keyC R).take k) hv1 hu1 hl1 hl1b hsB ?_ ?_ ?_); rfl; rfl; intro vx wd ho hg; replace HB := HB.grown hg HB.size (fun k hk => HO.lt k hk); replace hsB := Nat.le_trans hsB hg.size; clear hg; replace HO := ho; clear ho))
            clear qc HRo hv1 hl1 hl1b hu1
            have x0 := (lP.on HB).cell 0
            simp only [List.getElem?_toArray, List.getElem?_cons_zero] at x0
            have hbl : RowKit.Below wd.heap.size wd (wd.alloc (.cells #[.string ⟨p.key.toArray⟩] 9)) := (RowKit.Below.refl _ _).alloc (Nat.le_refl _) _
            have hrl := RowL.lit wd 9 1 [.string ⟨p.key.toArray⟩] rfl
            replace HO := HO.on hbl
            replace HB := on_below HB hbl HB.size
            replace hsB := Nat.le_trans hsB hbl.size
            have hul : ∀ u ∈ ([[.string ⟨p.key.toArray⟩]] : List (List Value)).flatten, u.oneCell' = true := one_str _
            go_upto_region 11 with ((with_reducible refine wpL_appendL wb.heap.size 9 iS (.string ⟨#[]⟩) 1 16 Tryd.underlying23 hj hy0 hy1 hy2 rfl (by decide) _ ([] ++ (keyC R).take k) HO _ ([[.string ⟨p.key.toArray⟩]]) hrl hul hl2 hl2b hsB ?_ ?_ ?_); rfl; rfl; intro vx we ho hg; replace HB := HB.grown hg HB.size (fun k hk => HO.lt k hk); replace hsB := Nat.le_trans hsB hg.size; clear hg; replace HO := ho; clear ho)
            clear hbl hrl hul hl2 hl2b x0
            have qc := (lV.on HB).cell 4
            simp only [List.getElem?_toArray, List.getElem?_cons_succ, List.getElem?_cons_zero] at qc
            have HRo := (hoK.on HB).read
            go_upto_region 12 with (first | ((with_reducible refine wpL_cutLo 1 underS elemS _ _ _ k (keyC R) HRo hkj ?_ ?_ ?_); rfl; rfl; intro v3 hv3) | ((with_reducible refine wpL_appendL wb.heap.size 9 iS (.string ⟨#[]⟩) 1 16 Tryd.underlying23 hj hy0 hy1 hy2 rfl (by decide) _ ([] ++ (keyC R).take k ++ [([.string ⟨p.key.toArray⟩] : List Value)]) HO _ ((keyC R).drop k) hv3 hu3 hl3 hl3b hsB ?_ ?_ ?_); rfl; rfl; intro vx wf ho hg; replace HB := HB.grown hg HB.size (fun k hk => HO.lt k hk); replace hsB := Nat.le_trans hsB hg.size; clear hg; replace HO := ho; clear ho))
            clear qc HRo hv3 hl3 hl3b hu3
            have HOk := HO
            rw [show [] ++ (keyC R).take k ++ [[.string ⟨p.key.toArray⟩]] ++ (keyC R).drop k = keyC (R.take k ++ p :: R.drop k) from insert_keyC R p k] at HOk
            replace HOk := HOk.weak hs3
            obtain ⟨aK, cK, rfl, _, _⟩ := HOk.form2 (n := m) (by unfold keyC; rw [List.length_map, HLn.out, hm.out])
            replace lV := lV.on HB
            replace lP := lP.on HB
            replace lR := lR.on HB
            replace hoI := hoI.on HB
            replace hb := on_below hb HB hb.size
            replace hs3 := Nat.le_trans hs3 HB.size
            clear HO hsB HB hoK
            go_upto_region 13 with fail
            have HB := (RowKit.Below.refl wf.heap.size wf).alloc (Nat.le_refl _) (.cells #[] 25)
            have HO := OwnL.made wf wf.heap.size 25 5 (Nat.le_refl _)
            have hsB := HB.size
            generalize wf.alloc (.cells #[] 25) = wg at *
            have qc := (lV.on HB).cell 3
            simp only [List.getElem?_toArray, List.getElem?_cons_succ, List.getElem?_cons_zero] at qc
            have HRo := (hoI.on HB).read
            obtain ⟨⟨hl1, hl1b⟩, ⟨hl2, hl2b⟩, ⟨hl3, hl3b⟩⟩ := join_lens (css := valL R) (k := k) (b := 80) [.int .i64 p.val.kind, .int .i64 p.val.num, .string ⟨p.val.txt.toArray⟩, .slice xi p.val.items.length xc, .slice xk p.val.keys.length xd] (by unfold valL; rw [List.length_map, HOK.out]; omega) (by unfold valL; rw [List.length_map, HOK.out]; omega) (by decide)
            obtain ⟨hu1, hu3⟩ := one_sub (k := k) (HUV.out)
            go_upto_region 14 with (first | ((with_reducible refine wpL_cutHi 5 underV elemV _ _ _ k (valL R) HRo hkj ?_ ?_ ?_); rfl; rfl; intro v1 hv1) | ((with_reducible refine wpL_appendL wf.heap.size 25 iV (.agg valZ) 5 80 Tryd.underlying22 hi hz0 hz1 hz2 rfl (by decide) _ ([]) HO _ ((valL R).take k) hv1 hu1 hl1 hl1b hsB ?_ ?_ ?_); rfl; rfl; intro vx wh ho hg; replace HB := HB.grown hg HB.size (fun k hk => HO.lt k hk); replace hsB := Nat.le_trans hsB hg.size; clear hg; replace HO := ho; clear ho))
            clear qc HRo hv1 hl1 hl1b hu1
            have lP2 := lP.on HB
            have x1 := lP2.cell 1; have x2 := lP2.cell 2; have x3 := lP2.cell 3; have x4 := lP2.cell 4; have x5 := lP2.cell 5
            simp only [List.getElem?_toArray, List.getElem?_cons_succ, List.getElem?_cons_zero] at x1 x2 x3 x4 x5
            clear lP2
            have hbl : RowKit.Below wh.heap.size wh (wh.alloc (.cells #[.int .i64 p.val.kind, .int .i64 p.val.num, .string ⟨p.val.txt.toArray⟩, .slice xi p.val.items.length xc, .slice xk p.val.keys.length xd] 25)) := (RowKit.Below.refl _ _).alloc (Nat.le_refl _) _
            have hrl := RowL.lit wh 25 5 [.int .i64 p.val.kind, .int .i64 p.val.num, .string ⟨p.val.txt.toArray⟩, .slice xi p.val.items.length xc, .slice xk p.val.keys.length xd] rfl
            replace HO := HO.on hbl
            replace HB := on_below HB hbl HB.size
            replace hsB := Nat.le_trans hsB hbl.size
            have hul : ∀ u ∈ ([[.int .i64 p.val.kind, .int .i64 p.val.num, .string ⟨p.val.txt.toArray⟩, .slice xi p.val.items.length xc, .slice xk p.val.keys.length xd]] : List (List Value)).flatten, u.oneCell' = true := one_five _ _ _ _ _ _ _ _ _
            go_upto_region 15 with ((with_reducible refine wpL_appendL wf.heap.size 25 iV (.agg valZ) 5 80 Tryd.underlying22 hi hz0 hz1 hz2 rfl (by decide) _ ([] ++ (valL R).take k) HO _ ([[.int .i64 p.val.kind, .int .i64 p.val.num, .string ⟨p.val.txt.toArray⟩, .slice xi p.val.items.length xc, .slice xk p.val.keys.length xd]]) hrl hul hl2 hl2b hsB ?_ ?_ ?_); rfl; rfl; intro vx wi ho hg; replace HB := HB.grown hg HB.size (fun k hk => HO.lt k hk); replace hsB := Nat.le_trans hsB hg.size; clear hg; replace HO := ho; clear ho)
            clear hbl hrl hul hl2 hl2b x1 x2 x3 x4 x5
            have qc := (lV.on HB).cell 3
            simp only [List.getElem?_toArray, List.getElem?_cons_succ, List.getElem?_cons_zero] at qc
            have HRo := (hoI.on HB).read
            go_upto_region 16 with (first | ((with_reducible refine wpL_cutLo 5 underV elemV _ _ _ k (valL R) HRo hkj ?_ ?_ ?_); rfl; rfl; intro v3 hv3) | ((with_reducible refine wpL_appendL wf.heap.size 25 iV (.agg valZ) 5 80 Tryd.underlying22 hi hz0 hz1 hz2 rfl (by decide) _ ([] ++ (valL R).take k ++ [([.int .i64 p.val.kind, .int .i64 p.val.num, .string ⟨p.val.txt.toArray⟩, .slice xi p.val.items.length xc, .slice xk p.val.keys.length xd] : List Value)]) HO _ ((valL R).drop k) hv3 hu3 hl3 hl3b hsB ?_ ?_ ?_); rfl; rfl; intro vx wj ho hg; replace HB := HB.grown hg HB.size (fun k hk => HO.lt k hk); replace hsB := Nat.le_trans hsB hg.size; clear hg; replace HO := ho; clear ho))
            clear qc HRo hv3 hl3 hl3b hu3
            have HOi := HO
            rw [← hcs, show [] ++ (valL R).take k ++ [p.cells] ++ (valL R).drop k = valL (R.take k ++ p :: R.drop k) from insert_valL R p k] at HOi
            replace HOi := HOi.weak hs3
            obtain ⟨aI, cI, rfl, _, _⟩ := HOi.form2 (n := m) (by unfold valL; rw [List.length_map, HLn.out, hm.out])
            replace lV := lV.on HB
            replace lR := lR.on HB
            replace HOk := HOk.on HB
            replace hb := on_below hb HB hb.size
            replace hs3 := Nat.le_trans hs3 HB.size
            clear HO hsB HB hoI lP
            have f4 := lV.frozen 4
            have q4 := lV.cell 4
            simp only [List.getElem?_toArray, List.getElem?_cons_succ, List.getElem?_cons_zero] at q4
            go_upto_region 17 with fail
            clear f4 q4
            replace lV : Lies (wj.setCell ⟨g3, 4, none⟩ (.slice aK m cK)) g3 25 #[.int .i64 4, .int .i64 0, .string ⟨#[]⟩, .slice ai j ci, .slice aK m cK] := lV.put 4 _
            replace lR := lR.far (p := ⟨g3, 4, none⟩) (show W.heap.size ≠ g3 by omega) (.slice aK m cK)
            replace HOk := HOk.far (Nat.lt_succ_self _) 4 (.slice aK m cK)
            replace HOi := HOi.far (Nat.lt_succ_self _) 4 (.slice aK m cK)
            replace hb := hb.setCell (p := ⟨g3, 4, none⟩) (Nat.le_of_lt hg2) (.slice aK m cK)
            replace hs3 : g3 + 1 ≤ (wj.setCell ⟨g3, 4, none⟩ (.slice aK m cK)).heap.size := by rw [setCell_size]; exact hs3
            generalize wj.setCell ⟨g3, 4, none⟩ (.slice aK m cK) = wk at *
            have f3 := lV.frozen 3
            have q3 := lV.cell 3
            simp only [List.getElem?_toArray, List.getElem?_cons_succ, List.getElem?_cons_zero] at q3
            go_upto_region 18 with fail
            clear f3 q3
            replace lV : Lies (wk.setCell ⟨g3, 3, none⟩ (.slice aI m cI)) g3 25 #[.int .i64 4, .int .i64 0, .string ⟨#[]⟩, .slice aI m cI, .slice aK m cK] := lV.put 3 _
            replace lR := lR.far (p := ⟨g3, 3, none⟩) (show W.heap.size ≠ g3 by omega) (.slice aI m cI)
            replace HOk := HOk.far (Nat.lt_succ_self _) 3 (.slice aI m cI)
            replace HOi := HOi.far (Nat.lt_succ_self _) 3 (.slice aI m cI)
            replace hb := hb.setCell (p := ⟨g3, 3, none⟩) (Nat.le_of_lt hg2) (.slice aI m cI)
            replace hs3 : g3 + 1 ≤ (wk.setCell ⟨g3, 3, none⟩ (.slice aI m cI)).heap.size := by rw [setCell_size]; exact hs3
            generalize wk.setCell ⟨g3, 3, none⟩ (.slice aI m cI) = wl at *
            go_wp2
            go_roundw
            case rel => obtain rfl := hm.out; exact ⟨j + 1, _, aI, cI, aK, cK, by go_num, by omega, HSR, HLn.out, lV, HOi, HOk, lR, hb, hs3⟩
            case measure => simp [intOf]; omega
        · obtain rfl : k = j := by omega
          have hnl : ∀ q, R[k]? = some q → lessL q.key p.key = false := fun x hx => by
            have := (List.getElem?_eq_some_iff.1 hx).1
            rw [HOK.out] at this
            omega
          go_upto_region 6 with fail
          refine wp_region_quiet_below (by kernel_rfl) (by kernel_rfl) ?_
          repeat (go_big_quiet_step (fail))
          refine wpQuiet_nil ?_
          intro _ hw'
          obtain ⟨⟨dq, osq⟩, hw''⟩ := hw'
          subst hw''
          have hbb := below_regrown wr dq osq
          replace hbx := on_below hbx hbb hbx.size
          replace lV := lV.on hbb
          replace lP := lP.on hbb
          replace lR := lR.on hbx
          replace hoI := hoI.on hbx
          replace hoK := hoK.on hbx
          replace hb := on_below hb hbx hb.size
          replace hs3 := Nat.le_trans hs3 hbx.size
          clear u4 u0 hbb
          generalize grow (redrawn wr dq) osq = wb at *
          have HSR := Lib.hid (show (R.take k ++ p :: R.drop k).Perm (S.take (k + 1)) ∧ Rising (R.take k ++ p :: R.drop k) from ⟨by rw [HTk.out]; exact (insert_perm R p k).trans (HS.out.1.append_right [p]), rising_insert HS.out.2 HL.out hnl HU.out⟩)
          have HLn := Lib.hid (show (R.take k ++ p :: R.drop k).length = k + 1 from by rw [(insert_perm R p k).length_eq, List.length_append, HOK.out]; rfl)
          obtain ⟨m, hm⟩ : ∃ m, Hid (m = k + 1) := ⟨_, Lib.hid rfl⟩
          have HUV := Lib.hid (one_valL (S := R) (fun q hq => (HP.out q ((List.take_sublist k S).subset (HS.out.1.mem_iff.1 hq))).1))
          clear hnl HL HU HTk HS hbx
          go_upto_region 9 with fail
          have HB := (RowKit.Below.refl wb.heap.size wb).alloc (Nat.le_refl _) (.cells #[] 9)
          have HO := OwnL.made wb wb.heap.size 9 1 (Nat.le_refl _)
          have hsB := HB.size
          generalize wb.alloc (.cells #[] 9) = wc at *
          have qc := (lV.on HB).cell 4
          simp only [List.getElem?_toArray, List.getElem?_cons_succ, List.getElem?_cons_zero] at qc
          have HRo := (hoK.on HB).read
          obtain ⟨⟨hl1, hl1b⟩, ⟨hl2, hl2b⟩, ⟨hl3, hl3b⟩⟩ := join_lens (css := keyC R) (k := k) (b := 16) [.string ⟨p.key.toArray⟩] (by unfold keyC; rw [List.length_map, HOK.out]; omega) (by unfold keyC; rw [List.length_map, HOK.out]; omega) (by decide)
          obtain ⟨hu1, hu3⟩ := one_sub (k := k) (one_keyC R)
          go_upto_region 10 with (first | ((with_reducible refine wpL_cutHi 1 underS elemS _ _ _ k (keyC R) HRo hkj ?_ ?_ ?_); rfl; rfl; intro v1 hv1) | ((with_reducible refine wpL_appendL wb.heap.size 9 iS (.string ⟨#[]⟩) 1 16 Tryd.underlying23 hj hy0 hy1 hy2 rfl (by decide) _ ([]) HO _ ((keyC R).take k) hv1 hu1 hl1 hl1b hsB ?_ ?_ ?_); rfl; rfl; intro vx wd ho hg; replace HB := HB.grown hg HB.size (fun k hk => HO.lt k hk); replace hsB := Nat.le_trans hsB hg.size; clear hg; replace HO := ho; clear ho))
          clear qc HRo hv1 hl1 hl1b hu1
          have x0 := (lP.on HB).cell 0
          simp only [List.getElem?_toArray, List.getElem?_cons_zero] at x0
          have hbl : RowKit.Below wd.heap.size wd (wd.alloc (.cells #[.string ⟨p.key.toArray⟩] 9)) := (RowKit.Below.refl _ _).alloc (Nat.le_refl _) _
          have hrl := RowL.lit wd 9 1 [.string ⟨p.key.toArray⟩] rfl
          replace HO := HO.on hbl
          replace HB := on_below HB hbl HB.size
          replace hsB := Nat.le_trans hsB hbl.size
          have hul : ∀ u ∈ ([[.string ⟨p.key.toArray⟩]] : List (List Value)).flatten, u.oneCell' = true := one_str _
          go_upto_region 11 with ((with_reducible refine wpL_appendL wb.heap.size 9 iS (.string ⟨#[]⟩) 1 16 Tryd.underlying23 hj hy0 hy1 hy2 rfl (by decide) _ ([] ++ (keyC R).take k) HO _ ([[.string ⟨p.key.toArray⟩]]) hrl hul hl2 hl2b hsB ?_ ?_ ?_); rfl; rfl; intro vx we ho hg; replace HB := HB.grown hg HB.size (fun k hk => HO.lt k hk); replace hsB := Nat.le_trans hsB hg.size; clear hg; replace HO := ho; clear ho)
          clear hbl hrl hul hl2 hl2b x0
          have qc := (lV.on HB).cell 4
          simp only [List.getElem?_toArray, List.getElem?_cons_succ, List.getElem?_cons_zero] at qc
          have HRo := (hoK.on HB).read
          go_upto_region 12 with (first | ((with_reducible refine wpL_cutLo 1 underS elemS _ _ _ k (keyC R) HRo hkj ?_ ?_ ?_); rfl; rfl; intro v3 hv3) | ((with_reducible refine wpL_appendL wb.heap.size 9 iS (.string ⟨#[]⟩) 1 16 Tryd.underlying23 hj hy0 hy1 hy2 rfl (by decide) _ ([] ++ (keyC R).take k ++ [([.string ⟨p.key.toArray⟩] : List Value)]) HO _ ((keyC R).drop k) hv3 hu3 hl3 hl3b hsB ?_ ?_ ?_); rfl; rfl; intro vx wf ho hg; replace HB := HB.grown hg HB.size (fun k hk => HO.lt k hk); replace hsB := Nat.le_trans hsB hg.size; clear hg; replace HO := ho; clear ho))
          clear qc HRo hv3 hl3 hl3b hu3
          have HOk := HO
          rw [show [] ++ (keyC R).take k ++ [[.string ⟨p.key.toArray⟩]] ++ (keyC R).drop k = keyC (R.take k ++ p :: R.drop k) from insert_keyC R p k] at HOk
          replace HOk := HOk.weak hs3
          obtain ⟨aK, cK, rfl, _, _⟩ := HOk.form2 (n := m) (by unfold keyC; rw [List.length_map, HLn.out, hm.out])
          replace lV := lV.on HB
          replace lP := lP.on HB
          replace lR := lR.on HB
          replace hoI := hoI.on HB
          replace hb := on_below hb HB hb.size
          replace hs3 := Nat.le_trans hs3 HB.size
          clear HO hsB HB hoK
          go_upto_region 13 with fail
          have HB := (RowKit.Below.refl wf.heap.size wf).alloc (Nat.le_refl _) (.cells #[] 25)
          have HO := OwnL.made wf wf.heap.size 25 5 (Nat.le_refl _)
          have hsB := HB.size
          generalize wf.alloc (.cells #[] 25) = wg at *
          have qc := (lV.on HB).cell 3
          simp only [List.getElem?_toArray, List.getElem?_cons_succ, List.getElem?_cons_zero] at qc
          have HRo := (hoI.on HB).read
          obtain ⟨⟨hl1, hl1b⟩, ⟨hl2, hl2b⟩, ⟨hl3, hl3b⟩⟩ := join_lens (css := valL R) (k := k) (b := 80) [.int .i64 p.val.kind, .int .i64 p.val.num, .string ⟨p.val.txt.toArray⟩, .slice xi p.val.items.length xc, .slice xk p.val.keys.length xd] (by unfold valL; rw [List.length_map, HOK.out]; omega) (by unfold valL; rw [List.length_map, HOK.out]; omega) (by decide)
          obtain ⟨hu1, hu3⟩ := one_sub (k := k) (HUV.out)
          go_upto_region 14 with (first | ((with_reducible refine wpL_cutHi 5 underV elemV _ _ _ k (valL R) HRo hkj ?_ ?_ ?_); rfl; rfl; intro v1 hv1) | ((with_reducible refine wpL_appendL wf.heap.size 25 iV (.agg valZ) 5 80 Tryd.underlying22 hi hz0 hz1 hz2 rfl (by decide) _ ([]) HO _ ((valL R).take k) hv1 hu1 hl1 hl1b hsB ?_ ?_ ?_); rfl; rfl; intro vx wh ho hg; replace HB := HB.grown hg HB.size (fun k hk => HO.lt k hk); replace hsB := Nat.le_trans hsB hg.size; clear hg; replace HO := ho; clear ho))
          clear qc HRo hv1 hl1 hl1b hu1
          have lP2 := lP.on HB
          have x1 := lP2.cell 1; have x2 := lP2.cell 2; have x3 := lP2.cell 3; have x4 := lP2.cell 4; have x5 := lP2.cell 5
          simp only [List.getElem?_toArray, List.getElem?_cons_succ, List.getElem?_cons_zero] at x1 x2 x3 x4 x5
          clear lP2
          have hbl : RowKit.Below wh.heap.size wh (wh.alloc (.cells #[.int .i64 p.val.kind, .int .i64 p.val.num, .string ⟨p.val.txt.toArray⟩, .slice xi p.val.items.length xc, .slice xk p.val.keys.length xd] 25)) := (RowKit.Below.refl _ _).alloc (Nat.le_refl _) _
          have hrl := RowL.lit wh 25 5 [.int .i64 p.val.kind, .int .i64 p.val.num, .string ⟨p.val.txt.toArray⟩, .slice xi p.val.items.length xc, .slice xk p.val.keys.length xd] rfl
          replace HO := HO.on hbl
          replace HB := on_below HB hbl HB.size
          replace hsB := Nat.le_trans hsB hbl.size
          have hul : ∀ u ∈ ([[.int .i64 p.val.kind, .int .i64 p.val.num, .string ⟨p.val.txt.toArray⟩, .slice xi p.val.items.length xc, .slice xk p.val.keys.length xd]] : List (List Value)).flatten, u.oneCell' = true := one_five _ _ _ _ _ _ _ _ _
          go_upto_region 15 with ((with_reducible refine wpL_appendL wf.heap.size 25 iV (.agg valZ) 5 80 Tryd.underlying22 hi hz0 hz1 hz2 rfl (by decide) _ ([] ++ (valL R).take k) HO _ ([[.int .i64 p.val.kind, .int .i64 p.val.num, .string ⟨p.val.txt.toArray⟩, .slice xi p.val.items.length xc, .slice xk p.val.keys.length xd]]) hrl hul hl2 hl2b hsB ?_ ?_ ?_); rfl; rfl; intro vx wi ho hg; replace HB := HB.grown hg HB.size (fun k hk => HO.lt k hk); replace hsB := Nat.le_trans hsB hg.size; clear hg; replace HO := ho; clear ho)
          clear hbl hrl hul hl2 hl2b x1 x2 x3 x4 x5
          have qc := (lV.on HB).cell 3
          simp only [List.getElem?_toArray, List.getElem?_cons_succ, List.getElem?_cons_zero] at qc
          have HRo := (hoI.on HB).read
          go_upto_region 16 with (first | ((with_reducible refine wpL_cutLo 5 underV elemV _ _ _ k (valL R) HRo hkj ?_ ?_ ?_); rfl; rfl; intro v3 hv3) | ((with_reducible refine wpL_appendL wf.heap.size 25 iV (.agg valZ) 5 80 Tryd.underlying22 hi hz0 hz1 hz2 rfl (by decide) _ ([] ++ (valL R).take k ++ [([.int .i64 p.val.kind, .int .i64 p.val.num, .string ⟨p.val.txt.toArray⟩, .slice xi p.val.items.length xc, .slice xk p.val.keys.length xd] : List Value)]) HO _ ((valL R).drop k) hv3 hu3 hl3 hl3b hsB ?_ ?_ ?_); rfl; rfl; intro vx wj ho hg; replace HB := HB.grown hg HB.size (fun k hk => HO.lt k hk); replace hsB := Nat.le_trans hsB hg.size; clear hg; replace HO := ho; clear ho))
          clear qc HRo hv3 hl3 hl3b hu3
          have HOi := HO
          rw [← hcs, show [] ++ (valL R).take k ++ [p.cells] ++ (valL R).drop k = valL (R.take k ++ p :: R.drop k) from insert_valL R p k] at HOi
          replace HOi := HOi.weak hs3
          obtain ⟨aI, cI, rfl, _, _⟩ := HOi.form2 (n := m) (by unfold valL; rw [List.length_map, HLn.out, hm.out])
          replace lV := lV.on HB
          replace lR := lR.on HB
          replace HOk := HOk.on HB
          replace hb := on_below hb HB hb.size
          replace hs3 := Nat.le_trans hs3 HB.size
          clear HO hsB HB hoI lP
          have f4 := lV.frozen 4
          have q4 := lV.cell 4
          simp only [List.getElem?_toArray, List.getElem?_cons_succ, List.getElem?_cons_zero] at q4
          go_upto_region 17 with fail
          clear f4 q4
          replace lV : Lies (wj.setCell ⟨g3, 4, none⟩ (.slice aK m cK)) g3 25 #[.int .i64 4, .int .i64 0, .string ⟨#[]⟩, .slice ai k ci, .slice aK m cK] := lV.put 4 _
          replace lR := lR.far (p := ⟨g3, 4, none⟩) (show W.heap.size ≠ g3 by omega) (.slice aK m cK)
          replace HOk := HOk.far (Nat.lt_succ_self _) 4 (.slice aK m cK)
          replace HOi := HOi.far (Nat.lt_succ_self _) 4 (.slice aK m cK)
          replace hb := hb.setCell (p := ⟨g3, 4, none⟩) (Nat.le_of_lt hg2) (.slice aK m cK)
          replace hs3 : g3 + 1 ≤ (wj.setCell ⟨g3, 4, none⟩ (.slice aK m cK)).heap.size := by rw [setCell_size]; exact hs3
          generalize wj.setCell ⟨g3, 4, none⟩ (.slice aK m cK) = wk at *
          have f3 := lV.frozen 3
          have q3 := lV.cell 3
          simp only [List.getElem?_toArray, List.getElem?_cons_succ, List.getElem?_cons_zero] at q3
          go_upto_region 18 with fail
          clear f3 q3
          replace lV : Lies (wk.setCell ⟨g3, 3, none⟩ (.slice aI m cI)) g3 25 #[.int .i64 4, .int .i64 0, .string ⟨#[]⟩, .slice aI m cI, .slice aK m cK] := lV.put 3 _
          replace lR := lR.far (p := ⟨g3, 3, none⟩) (show W.heap.size ≠ g3 by omega) (.slice aI m cI)
          replace HOk := HOk.far (Nat.lt_succ_self _) 3 (.slice aI m cI)
          replace HOi := HOi.far (Nat.lt_succ_self _) 3 (.slice aI m cI)
          replace hb := hb.setCell (p := ⟨g3, 3, none⟩) (Nat.le_of_lt hg2) (.slice aI m cI)
          replace hs3 : g3 + 1 ≤ (wk.setCell ⟨g3, 3, none⟩ (.slice aI m cI)).heap.size := by rw [setCell_size]; exact hs3
          generalize wk.setCell ⟨g3, 3, none⟩ (.slice aI m cI) = wl at *
          go_wp2
          go_roundw
          case rel => obtain rfl := hm.out; exact ⟨k + 1, _, aI, cI, aK, cK, by go_num, by omega, HSR, HLn.out, lV, HOi, HOk, lR, hb, hs3⟩
          case measure => simp [intOf]; omega
    · obtain rfl : j = S.length := by omega
      have hg0 : W.heap.size < g3 + 1 := by omega
      have hfin := below_rowSet hb (Nat.le_refl W.heap.size) #[.int .i64 4, .int .i64 0, .string ⟨#[]⟩, .slice ai S.length ci, .slice ak S.length ck]
      have hA : Ans (g3 + 1) S [.int .i64 4, .int .i64 0, .string ⟨#[]⟩, .slice ai S.length ci, .slice ak S.length ck] 0 (wr.setRow W.heap.size #[.int .i64 4, .int .i64 0, .string ⟨#[]⟩, .slice ai S.length ci, .slice ak S.length ck]) := .inl ⟨rfl, R, by have := HS.out.1; rwa [List.take_length] at this, HS.out.2, _, _, rfl, hoI.rowFar hg0 _, hoK.rowFar hg0 _⟩
      obtain ⟨t, hv, hcase⟩ := hA.val (fun p hp => ⟨(HP.out p hp).1.below hfin, (HP.out p hp).2⟩)
      rcases hcase with ⟨_, S', hp', hr', rfl⟩ | ⟨h0, _⟩
      · have HF := Lib.hid (show S'.Perm S ∧ Rising S' ∧ _ from ⟨hp', hr', hv⟩)
        have q0 := lV.cell 0; have q1 := lV.cell 1; have q2 := lV.cell 2; have q3 := lV.cell 3; have q4 := lV.cell 4
        simp only [List.getElem?_toArray, List.getElem?_cons_succ, List.getElem?_cons_zero] at q0 q1 q2 q3 q4
        clear hv hp' hr' hA HS HP HRow HN hRl
        go_wp2_with ((with_reducible refine wpL_store W.heap.size 25 valZ #[.int .i64 4, .int .i64 0, .string ⟨#[]⟩, .slice ai S.length ci, .slice ak S.length ck] 5 rowVal rfl rfl (valC_one _ _ _ _ _ _ _ _ _) lR ?_ ?_ ?_); rfl; rfl)
        exact bodyPost_ret (results_row Tryd.results22 rowVal rfl (lR.row _) rfl) rfl ⟨⟨_, rfl, S', HF.out.1, HF.out.2.1, HF.out.2.2⟩, hfin⟩
      · cases h0
end Go.Proofs.YtdfdpckcemdimaaDoor.V

/- The reference's Same. -/
namespace Go.Proofs.YtdfdpckcemdimaaDoor.V
open Go.RowKit Go.Sort Go.Joins
set_option maxRecDepth 100000

noncomputable instance : DecidableEq VT := fun a b => Classical.propDecidable (a = b)
theorem vt_ne {k n : Int} {s : List UInt8} {l : List VT} {ks : List (List UInt8)} {k' n' : Int} {s' : List UInt8} {l' : List VT} {ks' : List (List UInt8)} (h : ¬ (k = k' ∧ n = n' ∧ s = s' ∧ l = l' ∧ ks = ks')) : decide (VT.mk k n s l ks = VT.mk k' n' s' l' ks') = false :=
  decide_eq_false (fun e => h (by injection e with e1 e2 e3 e4 e5; exact ⟨e1, e2, e3, e4, e5⟩))
set_option maxHeartbeats 3200000 in
theorem refSame_any : ∀ (d : Nat) (cs cs' : List Value) (t u : VT) (w : World), IsV w d cs t → IsV w d cs' u →
    Calls Tryd.prog 20 #[.agg cs.toArray, .agg cs'.toArray] w fun e w' => e = .returned (.bool (decide (t = u))) ∧ Below w.heap.size w w' := by
  intro d
  induction d with
  | zero => intro cs cs' t u w h; exact h.elim
  | succ d ih =>
    intro cs cs' t u W h h'
    obtain ⟨vi, vk, rfl, _, hks, a, c, rfl, hc, hm, _, hx⟩ := h
    obtain ⟨vi', vk', rfl, _, hks', a', c', rfl, hc', hm', _, hx'⟩ := h'
    obtain ⟨ka, kc, rfl, hkc, hkm, _, hkx⟩ := hks
    obtain ⟨ka', kc', rfl, hkc', hkm', _, hkx'⟩ := hks'
    obtain ⟨k, n, s, l, ks⟩ := t
    obtain ⟨k', n', s', l', ks'⟩ := u
    have HI := Lib.hid ih
    have HX := Lib.hid hx
    have HX' := Lib.hid hx'
    have HK := Lib.hid hkx
    have HK' := Lib.hid hkx'
    simp only [VT.items, VT.kind, VT.num, VT.txt, VT.keys, str] at *
    clear ih hx hx' hkx hkx'
    unfold maxLen at hm hm' hkm hkm'
    have hbW := ((Below.refl W.heap.size W).alloc (Nat.le_refl _) (.cells #[.int .i64 k, .int .i64 n, .string ⟨s.toArray⟩, .slice a l.length c, .slice ka ks.length kc] 25)).alloc (by simp) (.cells #[.int .i64 k', .int .i64 n', .string ⟨s'.toArray⟩, .slice a' l'.length c', .slice ka' ks'.length kc'] 25)
    by_cases hk : k = k'
    case neg =>
      rw [vt_ne (fun h => hk h.1)]
      have h1 : (k != k') = true := by simpa using hk
      go_enter Tryd.func20, Tryd.ntmps20
      go_wp2
      go_ret
      exact ⟨rfl, hbW⟩
    subst hk
    by_cases hn : n = n'
    case neg =>
      rw [vt_ne (fun h => hn h.2.1)]
      have h1 : (n != n') = true := by simpa using hn
      go_enter Tryd.func20, Tryd.ntmps20
      go_wp2
      go_ret
      exact ⟨rfl, hbW⟩
    subst hn
    by_cases hs : s = s'
    case neg =>
      rw [vt_ne (fun h => hs h.2.2.1)]
      have h0 := hs
      go_enter Tryd.func20, Tryd.ntmps20
      go_wp2
      go_ret
      exact ⟨rfl, hbW⟩
    subst hs
    by_cases hl : l.length = l'.length
    case neg =>
      rw [vt_ne (fun h => hl (by rw [h.2.2.2.1]))]
      have h1 : ((l.length : Int) != (l'.length : Int)) = true := bne_iff_ne.2 (by omega)
      go_enter Tryd.func20, Tryd.ntmps20
      go_wp2
      go_ret
      exact ⟨rfl, hbW⟩
    by_cases hkl : ks.length = ks'.length
    case neg =>
      rw [vt_ne (fun h => hkl (by rw [h.2.2.2.2]))]
      have h1 : ((l.length : Int) != (l'.length : Int)) = false := by rw [hl]; exact bne_self_eq_false _
      have HL := Lib.hid hl
      clear hl
      have h2 : ((ks.length : Int) != (ks'.length : Int)) = true := bne_iff_ne.2 (by omega)
      go_enter Tryd.func20, Tryd.ntmps20
      go_wp2
      go_ret
      exact ⟨rfl, hbW⟩
    have h1 : ((l.length : Int) != (l'.length : Int)) = false := by rw [hl]; exact bne_self_eq_false _
    have h2 : ((ks.length : Int) != (ks'.length : Int)) = false := by rw [hkl]; exact bne_self_eq_false _
    have HL := Lib.hid hl
    have HKL := Lib.hid hkl
    clear hl hkl
    have lA0 : Lies ((W.alloc (.cells #[.int .i64 k, .int .i64 n, .string ⟨s.toArray⟩, .slice a l.length c, .slice ka ks.length kc] 25)).alloc (.cells #[.int .i64 k, .int .i64 n, .string ⟨s.toArray⟩, .slice a' l'.length c', .slice ka' ks'.length kc'] 25)) W.heap.size 25 #[.int .i64 k, .int .i64 n, .string ⟨s.toArray⟩, .slice a l.length c, .slice ka ks.length kc] := (Lies.new W _ _).alloc _
    have lB0 : Lies ((W.alloc (.cells #[.int .i64 k, .int .i64 n, .string ⟨s.toArray⟩, .slice a l.length c, .slice ka ks.length kc] 25)).alloc (.cells #[.int .i64 k, .int .i64 n, .string ⟨s.toArray⟩, .slice a' l'.length c', .slice ka' ks'.length kc'] 25)) (W.heap.size + 1) 25 #[.int .i64 k, .int .i64 n, .string ⟨s.toArray⟩, .slice a' l'.length c', .slice ka' ks'.length kc'] := by
      have := Lies.new (W.alloc (.cells #[.int .i64 k, .int .i64 n, .string ⟨s.toArray⟩, .slice a l.length c, .slice ka ks.length kc] 25)) 25 #[.int .i64 k, .int .i64 n, .string ⟨s.toArray⟩, .slice a' l'.length c', .slice ka' ks'.length kc']
      simpa using this
    go_enter Tryd.func20, Tryd.ntmps20
    go_wp2
    go_loopw [47] (fun iv wr => ∃ (j : Nat), iv = .int .i64 j ∧ j ≤ ks.length ∧ Hid (ks.take j = ks'.take j) ∧ Below W.heap.size W wr ∧ Lies wr W.heap.size 25 #[.int .i64 k, .int .i64 n, .string ⟨s.toArray⟩, .slice a l.length c, .slice ka ks.length kc] ∧ Lies wr (W.heap.size + 1) 25 #[.int .i64 k, .int .i64 n, .string ⟨s.toArray⟩, .slice a' l'.length c', .slice ka' ks'.length kc']) (fun iv _ => ks.length - (intOf iv).toNat)
    case atStart => exact ⟨0, rfl, by omega, Lib.hid rfl, hbW, lA0, lB0⟩
    case round =>
      clear lA0 lB0 hbW
      obtain ⟨j, rfl, hj, HS, hb, lA, lB⟩ := hrel
      by_cases hlt : j < ks.length
      · have hlt' : j < ks'.length := by rw [← HKL.out]; exact hlt
        obtain ⟨b, off, rfl, hkx⟩ := HK.out (by intro h; rw [h] at hlt; simp at hlt)
        obtain ⟨b', off', rfl, hkx'⟩ := HK'.out (by intro h; rw [h] at hlt'; simp at hlt')
        obtain ⟨x, hxi⟩ : ∃ x, ks[j]? = some x := ⟨ks[j], List.getElem?_eq_getElem hlt⟩
        obtain ⟨y, hyi⟩ : ∃ y, ks'[j]? = some y := ⟨ks'[j], List.getElem?_eq_getElem hlt'⟩
        have g1 := hkx j x hxi
        have g2 := hkx' j y hyi
        have c1 := (hb.cell (p := ⟨b, off + j, none⟩) (World.block_lt_of_cell? W _ g1)).trans g1
        have c2 := (hb.cell (p := ⟨b', off' + j, none⟩) (World.block_lt_of_cell? W _ g2)).trans g2
        have q1 := lA.cell 4
        have q2 := lB.cell 4
        simp only [List.getElem?_toArray, List.getElem?_cons_succ, List.getElem?_cons_zero] at q1 q2
        have hjl : (j : Int) < (ks'.length : Int) := by omega
        clear hkx hkx' g1 g2 HK HK' HX HX' HI
        by_cases hxy : x = y
        · subst hxy
          have HS2 := Lib.hid (show ks.take (j + 1) = ks'.take (j + 1) by
            rw [List.take_succ_eq_append_getElem hlt, List.take_succ_eq_append_getElem hlt', HS.out, (List.getElem?_eq_some_iff.1 hxi).2, (List.getElem?_eq_some_iff.1 hyi).2])
          clear hxi hyi HS
          have u1 := cell_regrown c1
          have u2 := cell_regrown c2
          have o1 := cell_regrown q1
          have o2 := cell_regrown q2
          clear c1 c2 q1 q2
          go_wp2
          refine wp_region_quiet_below (by kernel_rfl) (by kernel_rfl) ?_
          repeat (go_big_quiet_step (fail))
          refine wpQuiet_nil ?_
          intro _ hw'
          obtain ⟨⟨dq, osq⟩, hw''⟩ := hw'
          subst hw''
          have hb2 := below_regrown wr dq osq
          go_wp2
          go_roundw
          case rel => exact ⟨j + 1, by go_num, by omega, HS2, on_below hb hb2 hb.size, lA.on hb2, lB.on hb2⟩
          case measure => simp [intOf]; omega
        · have hr := Lib.hid (vt_ne (k := k) (n := n) (s := s) (l := l) (ks := ks) (k' := k) (n' := n) (s' := s) (l' := l') (ks' := ks') (fun h => hxy (by
            have h := h.2.2.2.2
            rw [h, hyi] at hxi
            exact (Option.some.inj hxi).symm)))
          clear hxi hyi HS
          have u1 := cell_regrown c1
          have u2 := cell_regrown c2
          have o1 := cell_regrown q1
          have o2 := cell_regrown q2
          clear c1 c2 q1 q2
          go_wp2
          refine wp_region_quiet_below (by kernel_rfl) (by kernel_rfl) ?_
          repeat (go_big_quiet_step (fail))
          refine wpQuiet_nil ?_
          intro _ hw'
          obtain ⟨⟨dq, osq⟩, hw''⟩ := hw'
          subst hw''
          have hb2 := below_regrown wr dq osq
          go_wp2
          · go_ret
            exact ⟨ret1_of (by rw [hr.out]; rfl), on_below hb hb2 hb.size⟩
          · rename_i hh
            exact absurd (by simpa using hh) hxy
      · have HE := Lib.hid (show ks = ks' by
          have := HS.out
          rwa [List.take_of_length_le (by omega), List.take_of_length_le (by have := HKL.out; omega)] at this)
        clear HS HK HK'
        have q1 := lA.cell 3
        simp only [List.getElem?_toArray, List.getElem?_cons_succ, List.getElem?_cons_zero] at q1
        go_wp2
        go_loopw [65] (fun iv wr => ∃ (j : Nat), iv = .int .i64 j ∧ j ≤ l.length ∧ Hid (l.take j = l'.take j) ∧ Below W.heap.size W wr ∧ Lies wr W.heap.size 25 #[.int .i64 k, .int .i64 n, .string ⟨s.toArray⟩, .slice a l.length c, .slice ka ks.length kc] ∧ Lies wr (W.heap.size + 1) 25 #[.int .i64 k, .int .i64 n, .string ⟨s.toArray⟩, .slice a' l'.length c', .slice ka' ks'.length kc']) (fun iv _ => l.length - (intOf iv).toNat)
        case atStart => exact ⟨0, rfl, by omega, Lib.hid rfl, hb, lA, lB⟩
        case round =>
          clear lA lB hb q1
          obtain ⟨i, rfl, hi, HS, hb, lA, lB⟩ := hrel
          by_cases hlt : i < l.length
          · have hlt' : i < l'.length := by rw [← HL.out]; exact hlt
            obtain ⟨b, off, rfl, hx⟩ := HX.out (by omega)
            obtain ⟨b', off', rfl, hx'⟩ := HX'.out (by omega)
            obtain ⟨cs1, hlen1, hr1, x, hxi, hv1⟩ := hx i hlt
            obtain ⟨cs2, hlen2, hr2, y, hyi, hv2⟩ := hx' i hlt'
            obtain ⟨ai, ci, ak, ck, rfl⟩ := hv1.form
            obtain ⟨ai', ci', ak', ck', rfl⟩ := hv2.form
            obtain ⟨m0, m1, m2, m3, m4⟩ := range5 (range_below hb hr1)
            obtain ⟨p0, p1, p2, p3, p4⟩ := range5 (range_below hb hr2)
            have hv1 := hv1.below hb
            have hv2 := hv2.below hb
            have q1 := lA.cell 3
            have q2 := lB.cell 3
            simp only [List.getElem?_toArray, List.getElem?_cons_succ, List.getElem?_cons_zero] at q1 q2
            have hjl : (i : Int) < (l'.length : Int) := by omega
            have HC := Lib.hid (fun (w1 : World) (hb1 : Below wr.heap.size wr w1) => HI.out _ _ x y w1 (hv1.below hb1) (hv2.below hb1))
            clear hx hx' hr1 hr2 HX HX' HI hv1 hv2 hlen1 hlen2
            have HC := fun (w1 : World) (hb1 : Below wr.heap.size wr w1) => HC.out w1 hb1
            by_cases hxy : x = y
            · have HS2 := Lib.hid (show l.take (i + 1) = l'.take (i + 1) by
                rw [List.take_succ_eq_append_getElem hlt, List.take_succ_eq_append_getElem hlt', HS.out, (List.getElem?_eq_some_iff.1 hxi).2, (List.getElem?_eq_some_iff.1 hyi).2, hxy])
              have hd : decide (x = y) = true := decide_eq_true hxy
              rw [hd] at HC
              clear hxi hyi HS hxy hd
              have cS := Lib.hid (reg HC)
              have u0 := cell_regrown m0
              have u1 := cell_regrown m1
              have u2 := cell_regrown m2
              have u3 := cell_regrown m3
              have u4 := cell_regrown m4
              have v0 := cell_regrown p0
              have v1 := cell_regrown p1
              have v2 := cell_regrown p2
              have v3 := cell_regrown p3
              have v4 := cell_regrown p4
              have o1 := cell_regrown q1
              have o2 := cell_regrown q2
              clear m0 m1 m2 m3 m4 p0 p1 p2 p3 p4 q1 q2
              go_wp2
              refine wp_region_quiet_below (by kernel_rfl) (by kernel_rfl) ?_
              repeat (go_big_quiet_step (exact cS.out _ _))
              refine wpQuiet_nil ?_
              intro _ hw'
              obtain ⟨⟨dq, osq⟩, hw''⟩ := hw'
              subst hw''
              have hb2 := below_regrown wr dq osq
              go_wp2
              go_roundw
              case rel => exact ⟨i + 1, by go_num, by omega, HS2, on_below hb hb2 hb.size, lA.on hb2, lB.on hb2⟩
              case measure => simp [intOf]; omega
            · have hr := Lib.hid (vt_ne (k := k) (n := n) (s := s) (l := l) (ks := ks) (k' := k) (n' := n) (s' := s) (l' := l') (ks' := ks') (fun h => hxy (by
                have h := h.2.2.2.1
                rw [h, hyi] at hxi
                exact (Option.some.inj hxi).symm)))
              have hd : decide (x = y) = false := decide_eq_false hxy
              rw [hd] at HC
              clear hxi hyi HS hxy hd
              have cS := Lib.hid (reg HC)
              have u0 := cell_regrown m0
              have u1 := cell_regrown m1
              have u2 := cell_regrown m2
              have u3 := cell_regrown m3
              have u4 := cell_regrown m4
              have v0 := cell_regrown p0
              have v1 := cell_regrown p1
              have v2 := cell_regrown p2
              have v3 := cell_regrown p3
              have v4 := cell_regrown p4
              have o1 := cell_regrown q1
              have o2 := cell_regrown q2
              clear m0 m1 m2 m3 m4 p0 p1 p2 p3 p4 q1 q2
              go_wp2
              refine wp_region_quiet_below (by kernel_rfl) (by kernel_rfl) ?_
              repeat (go_big_quiet_step (exact cS.out _ _))
              refine wpQuiet_nil ?_
              intro _ hw'
              obtain ⟨⟨dq, osq⟩, hw''⟩ := hw'
              subst hw''
              have hb2 := below_regrown wr dq osq
              go_wp2
              go_ret
              exact ⟨ret1_of (by rw [hr.out]; rfl), on_below hb hb2 hb.size⟩
          · have hr := Lib.hid (show decide (VT.mk k n s l ks = VT.mk k n s l' ks') = true from decide_eq_true (by
              have := HS.out
              rw [List.take_of_length_le (by omega), List.take_of_length_le (by have := HL.out; omega)] at this
              rw [this, HE.out]))
            clear HX HX' HI HS HE
            go_wp2
            go_ret
            exact ⟨ret1_of (by rw [hr.out]; rfl), hb⟩
end Go.Proofs.YtdfdpckcemdimaaDoor.V

