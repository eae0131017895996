/- Texts that stand on one another, put together: VReg, VHeld, OBase, ORight, OKeysD, OIndex, OSigned. -/
import Derived.Test.YtmekmlgpkbfjpaaGreatDoorK11
import Derived.Lib.QuietBelow
import Derived.Lib.SmallJoins
import Derived.OrdersHeld
/- A contract that ends in 'Below', met within a region that draws its order. -/
namespace Go.Proofs.YtmekmlgpkbfjpaaGreatDoor.V
open Go.RowKit Go.Sort
theorem reg {f : FuncId} {args : Array Value} {W : World} {v : Value} (h : ∀ w, Below W.heap.size W w → Calls Tryz.prog f args w fun e w' => e = .returned v ∧ Below w.heap.size w w') :
    ∀ d os, Calls Tryz.prog f args (grow (redrawn W d) os) fun e w'' => e = .returned v ∧ ∃ p : Regrown, w'' = grow (redrawn W p.d) p.os := fun d os => Calls.regrown_of (h _ (below_regrown W d os))
end Go.Proofs.YtmekmlgpkbfjpaaGreatDoor.V

/- Operations of a region that draws its order, taken one by one. Nothing of the program is named here. -/
namespace Go.Proofs.YtmekmlgpkbfjpaaGreatDoor.V
open Go.Sort Go.RowKit
def Still (Q : Exit → Act → World → Prop) : Exit → Act → World → Prop
  | .panic _, _, _ => False
  | e, a, w => Q e a w
theorem calm_panic {K : Act → World → Prop} {Q : Exit → Act → World → Prop} : ∀ c d v (a : Act) (w : World), Exit.then K (Still Q) (.panic c) (a.put d v) w → Exit.then K (Still Q) (.panic c) a w := fun _ _ _ _ _ h => (h : False).elim

/-! ### operations of a region that draws its order, taken one by one -/
section
variable {P : Program} {md : Region.Mode} {ops : Array Oper} {Q : Exit → Act → World → Prop} {S : World → Prop} {a : Act} {w w' : World}
theorem wpOp_val {i : Nat} {o : Oper} {v : Value} {K : Act → World → Prop} (hi : ops[i]? = some o) (hw : Region.wanted o (yielded ops a.tmps) = true) (hr : (execOp a.eval o).run P w = .ok (.value v) w') (h : K (a.put o.dst v) w') : wpOp P ops Q i K a w := by
  unfold Go.wpOp
  simp only [hi]
  simp only [hw, if_true, Oper.wp, hr, Oper.upon]
  exact .inl h
theorem held_done {K : Act → World → Prop} {Q : Exit → Act → World → Prop} {listed : Array Bool} {fuel : Nat} (hr : Region.ready md ops listed = []) (h : Exit.then K Q .normal a w) : wpAnyH P md ops (Exit.then K (Still Q)) S fuel listed a w := wpAnyH_done hr (show Exit.then K (Still Q) .normal a w from h) fuel
theorem held_take {K : Act → World → Prop} {Q : Exit → Act → World → Prop} {fuel : Nat} {listed : Array Bool} (i : Nat) (v : Value) {oi : Oper} (hi : ops[i]? = some oi) (hs : Region.noSelect ops = true) (hf : Region.free md ops listed i = true) (hr : (Region.ready md ops listed).contains i = true)
    (hw : Region.wanted oi (yielded ops a.tmps) = true) (hy : ∀ w, S w → (execOp a.eval oi).run P w = .ok (.value v) w) (hS : S w) (h : wpAnyH P md ops (Exit.then K (Still Q)) S fuel (listed.setIfInBounds i true) (a.put oi.dst v) w) : wpAnyH P md ops (Exit.then K (Still Q)) S (fuel + 1) listed a w :=
  wpAnyH_take hi hs hf hr (fun c a w h => calm_panic c _ _ a w h) (.inl ⟨hw, hy⟩) hS h
/-- .. with the slot said -/
theorem held_put {K : Act → World → Prop} {Q : Exit → Act → World → Prop} {fuel : Nat} {listed : Array Bool} (i : Nat) (d : Tmp) (v : Value) {oi : Oper} (hi : ops[i]? = some oi) (hd : oi.dst = some d) (hs : Region.noSelect ops = true) (hf : Region.free md ops listed i = true) (hr : (Region.ready md ops listed).contains i = true)
    (hw : Region.wanted oi (yielded ops a.tmps) = true) (hy : ∀ w, S w → (execOp a.eval oi).run P w = .ok (.value v) w) (hS : S w) (h : wpAnyH P md ops (Exit.then K (Still Q)) S fuel (listed.setIfInBounds i true) ⟨a.tmps.setIfInBounds d v, a.defers⟩ w) : wpAnyH P md ops (Exit.then K (Still Q)) S (fuel + 1) listed a w :=
  held_take i v hi hs hf hr hw hy hS (by rw [hd]; exact h)
theorem wpOp_put {i : Nat} {o : Oper} (d : Tmp) {v : Value} {K : Act → World → Prop} (hi : ops[i]? = some o) (hd : o.dst = some d) (hw : Region.wanted o (yielded ops a.tmps) = true) (hr : (execOp a.eval o).run P w = .ok (.value v) w') (h : K ⟨a.tmps.setIfInBounds d v, a.defers⟩ w') : wpOp P ops Q i K a w :=
  wpOp_val hi hw hr (by rw [hd]; exact h)
theorem held_one {fuel : Nat} {listed : Array Bool} (i : Nat) (hr : Region.ready md ops listed = [i]) (h : wpOp P ops Q i (fun a' w' => S w' ∧ wpAnyH P md ops Q S fuel (listed.setIfInBounds i true) a' w') a w) : wpAnyH P md ops Q S (fuel + 1) listed a w :=
  wpAnyH_all hr (by simp) (fun j hj => by rw [List.mem_singleton.1 hj]; exact h)
theorem wpOp_call {i : Nat} {o : Oper} (d : Tmp) {f : FuncId} {args : Array Value} {K : Act → World → Prop} (hi : ops[i]? = some o) (hd : o.dst = some d) (hw : Region.wanted o (yielded ops a.tmps) = true) (hr : (execOp a.eval o).run P w = .ok (.enter f args) w) (h : Calls P f args w fun e w'' => ∃ v, e = .returned v ∧ K ⟨a.tmps.setIfInBounds d v, a.defers⟩ w'') : wpOp P ops Q i K a w := by
  unfold Go.wpOp
  simp only [hi]
  simp only [hw, if_true, Oper.wp, hr, Oper.upon]
  refine .inl (h.mono ?_)
  rintro e w'' ⟨v, rfl, hk⟩
  rw [hd]
  exact hk
end

section
variable {P : Program} {md : Region.Mode} {ops : Array Oper} {Q : Exit → Act → World → Prop} {S : World → Prop} {a : Act} {w : World}
/-- an operation by a law of lists; its guard, if any, wants it -/
theorem wpOp_law {i : Nat} {o : Oper} {K : Act → World → Prop} (hi : ops[i]? = some o) (hw : Region.wanted o (yielded ops a.tmps) = true) (h : wpList P ops (Exit.then K Q) [⟨o.dst, o.op, o.type, o.pos, o.after, none⟩] a w) : wpOp P ops Q i K a w := by
  unfold Go.wpOp
  simp only [hi]
  simp only [hw, if_true]
  unfold wpList at h
  simp only [Region.wanted, if_true] at h
  rcases h with h | h
  · refine .inl ?_
    unfold Oper.wp at *
    have he : (execOp a.eval ⟨o.dst, o.op, o.type, o.pos, o.after, none⟩).run P w = (execOp a.eval o).run P w := rfl
    rw [he] at h
    generalize (execOp a.eval o).run P w = r at *
    cases r with
    | ok n w' =>
      cases n <;> simp only [Oper.upon] at h ⊢
      case value u => exact h
      case skip => exact h
      case defer d => exact h
      case enter f args =>
        refine Calls.mono h fun e w'' he => ?_
        cases e with
        | returned u => exact he
        | panicked c => exact he
        | outgrown => exact he
      case row row args => exact Rows.mono h fun u w'' he => he
    | halt x w' =>
      cases x <;> simp only [Oper.upon] at h ⊢
      case panic u => exact h
  · exact .inr h
end
/-- whatever comes behind: no panic, the normal way -/
theorem wp_held_any {P : Program} {ops : Array Oper} {S : World → Prop} {a : Act} {w : World} {id : Nat} {Q : Exit → Act → World → Prop} (n : Nat) (hn : ops.size = n) (hm : P.follows .mixedOrders = true)
    (h : wpAnyH P .any ops (Exit.then (fun a w => Q .normal a w) (Still fun _ _ _ => False)) S n (Array.replicate n false) a { w with drawn := w.drawn + 1 }) : (Code.region id ops true).wp P Q a w := by
  subst hn
  refine Code.wp_mono (Q := Exit.then (fun a w => Q .normal a w) (Still fun _ _ _ => False)) (fun e a w h => ?_) (wp_region_held hm h)
  cases e <;> first | exact h | exact (h : False).elim

theorem wpOp_lawD {P : Program} {ops : Array Oper} {Q : Exit → Act → World → Prop} {a : Act} {w : World} {i : Nat} {o : Oper} (d : Tmp) {K : Act → World → Prop} (hi : ops[i]? = some o) (hd : o.dst = some d) (hw : Region.wanted o (yielded ops a.tmps) = true) (h : wpList P ops (Exit.then K Q) [⟨some d, o.op, o.type, o.pos, o.after, none⟩] a w) : wpOp P ops Q i K a w := wpOp_law hi hw (by rw [hd]; exact h)
end Go.Proofs.YtmekmlgpkbfjpaaGreatDoor.V

/- role's small calls: a key's sum, and whether a text may be one; rows of pairs of texts. -/
namespace Go.Proofs.YtmekmlgpkbfjpaaGreatDoor.O
open Go.RowKit Go.Sort Go.Proofs.YtmekmlgpkbfjpaaGreatDoor.E
open V (Lies OwnL RowL reg lessL bytesLess_is)
set_option maxRecDepth 100000

/-- the tables that role's calls read -/
structure RTab (w : World) : Prop where
  u : U.Tab w
  e : EdTab2 w
theorem RTab.on {w w' : World} (h : RTab w) (hb : Below w.heap.size w w') : RTab w' := ⟨h.u.below hb, h.e.on hb⟩
abbrev oneS (b : ByteArray) : List Value := [.string b]
abbrev twoS (k : B2) : List Value := [.string k.1, .string k.2]
/-- texts compared as the walk has them -/
theorem leq_is (x y : ByteArray) : (Op.bytesLess x.data.toList y.data.toList || x.data.toList == y.data.toList) = !lessB y x := by
  unfold lessB
  rw [bytesLess_is]
  rcases V.less_three x.data.toList y.data.toList with ⟨h1, h2, h3⟩ | ⟨h1, h2, h3⟩ | ⟨h1, h2, h3⟩
  · rw [h1, h3]; rfl
  · rw [h2, h1] at *
    rw [h3]
    simp
  · rw [h1, h3, beq_false_of_ne h2]
    rfl
theorem leq_no {x y : ByteArray} (h : lessB y x = true) : Op.bytesLess x.toList y.toList = false ∧ (x.toList == y.toList) = false := by
  rw [Lib.toList_data, Lib.toList_data]
  have h1 := leq_is x y
  rw [h, Bool.not_true, Bool.or_eq_false_iff] at h1
  exact h1
theorem leq_yes {x y : ByteArray} (h : lessB y x = false) : Op.bytesLess x.toList y.toList = true ∨ (x.toList == y.toList) = true := by
  rw [Lib.toList_data, Lib.toList_data]
  have h1 := leq_is x y
  rw [h, Bool.not_false, Bool.or_eq_true] at h1
  exact h1
theorem eq_is (x y : ByteArray) : (x.data.toList == y.data.toList) = decide (x = y) := by
  by_cases h : x = y
  · subst h; simp
  · have h2 : x.data.toList ≠ y.data.toList := fun e => h (by rw [← Lib.mk_data x, ← Lib.mk_data y, e])
    rw [beq_false_of_ne h2, decide_eq_false h]
theorem id_any (p : ByteArray) (w : World) (hp : p.size ≤ 1000) (hT : U.Tab w) : Calls Tryz.prog 15 #[.string p] w fun e w' => e = .returned (.string (idT p)) ∧ Below w.heap.size w w' := by
  have HS := Lib.hid (U.sum_text p w hp hT)
  have HX := Lib.hid (fun (w : World) => hex_any (U.bytesOf (U.sumT p.data.toList)) w (by rw [U.bytes_size, U.sumT_length]; decide))
  rw [show (⟨(hexL (U.bytesOf (U.sumT p.data.toList)).data.toList).toArray⟩ : ByteArray) = idT p from rfl] at HX
  generalize idT p = R at *
  generalize U.bytesOf (U.sumT p.data.toList) = S at *
  clear hp hT
  go_enter Tryz.func15, Tryz.ntmps15
  go_wp2_with (first
    | (go_at_call 31; (with_reducible refine HS.out.mono ?_); rintro e w1 ⟨rfl, hb⟩)
    | (go_at_call 30; (with_reducible refine (HX.out _).mono ?_); rintro e w2 ⟨rfl, hb2⟩))
  go_ret
  exact ⟨rfl, below_on hb hb2⟩
theorem isSum_any (s : ByteArray) (w : World) : Calls Tryz.prog 27 #[.string s] w fun e w' => e = .returned (.bool (isSumB s)) ∧ Below w.heap.size w w' := by
  by_cases h : s.size = 64
  · have HU := Lib.hid (fun (w : World) => unhex_any s w (by omega))
    have hi : ((s.size : Int) != 64) = false := by rw [h]; rfl
    have hB : isSumB s = unhexB s.data.toList := by unfold isSumB; rw [decide_eq_true h, Bool.true_and]
    rw [hB]
    clear hB h
    cases hu : unhexL s.data.toList with
    | none =>
      rw [unhexE_none hu, unhexS_none hu] at HU
      rw [unhexB_none hu]
      clear hu
      go_enter Tryz.func27, Tryz.ntmps27
      go_wp2_with (go_at_call 43; (with_reducible refine (HU.out _).mono ?_); rintro e w1 ⟨rfl, hb⟩)
      go_ret
      exact ⟨rfl, hb⟩
    | some x =>
      rw [unhexE_some hu, unhexS_some hu] at HU
      rw [unhexB_some hu]
      clear hu
      go_enter Tryz.func27, Tryz.ntmps27
      go_wp2_with (go_at_call 43; (with_reducible refine (HU.out _).mono ?_); rintro e w1 ⟨rfl, hb⟩)
      go_ret
      exact ⟨rfl, hb⟩
  · have hi : ((s.size : Int) != 64) = true := by rw [bne_iff_ne]; omega
    have hB : isSumB s = false := by unfold isSumB; rw [decide_eq_false h, Bool.false_and]
    rw [hB]
    clear hB h
    go_enter Tryz.func27, Tryz.ntmps27
    go_wp2
    go_ret
    exact ⟨rfl, Below.refl _ _⟩
end Go.Proofs.YtmekmlgpkbfjpaaGreatDoor.O

/- The developers' Right: whether a role may be. -/
namespace Go.Proofs.YtmekmlgpkbfjpaaGreatDoor.O
open Go.RowKit Go.Sort Go.Proofs.YtmekmlgpkbfjpaaGreatDoor.E
open V (Lies OwnL RowL reg lessL bytesLess_is)
set_option maxRecDepth 100000

set_option maxHeartbeats 3200000 in
theorem right_any (av : Option Addr) (cv : Nat) (ids : List ByteArray) (need : Int) (w : World) (hl : RowL w 1 (.slice av ids.length cv) (ids.map oneS)) :
    Calls Tryz.prog 11 #[.agg #[.slice av ids.length cv, .int .i64 need]] w fun e w' => e = .returned (.bool (rightR ids need)) ∧ Below w.heap.size w w' := by
  have hcap : ids.length ≤ 9223372036854775807 := by
    obtain ⟨a', c', e, h1, h2, _⟩ := hl.form
    injection e with _ _ e3
    rw [List.length_map] at h1
    unfold maxLen at h2
    omega
  have lA := Lies.new w 24 #[.slice av ids.length cv, .int .i64 need]
  have hb0 := (Below.refl w.heap.size w).alloc (Nat.le_refl _) (.cells #[.slice av ids.length cv, .int .i64 need] 24)
  by_cases h16 : 16 < ids.length
  · rw [show rightR ids need = false by unfold rightR; rw [decide_eq_false (show ¬ ids.length ≤ 16 by omega)]; rfl]
    have i1 : (16 : Int) < (ids.length : Int) := by omega
    go_enter Tryz.func11, Tryz.ntmps11
    go_upto_region 1 with fail
    generalize World.alloc w _ = wa at *
    have q0 := lA.cell 0; have q1 := lA.cell 1; simp only [List.getElem?_toArray, List.getElem?_cons_succ, List.getElem?_cons_zero] at q0 q1
    clear hl lA h16
    go_wp2
    go_ret
    exact ⟨rfl, hb0⟩
  by_cases hn1 : need < 1
  · rw [show rightR ids need = false by unfold rightR; rw [decide_eq_false (show ¬ (1 ≤ need ∧ need ≤ (ids.length : Int)) by omega), Bool.and_false]; rfl]
    have i1 : ¬ (16 : Int) < (ids.length : Int) := by omega
    go_enter Tryz.func11, Tryz.ntmps11
    go_upto_region 1 with fail
    generalize World.alloc w _ = wa at *
    have q0 := lA.cell 0; have q1 := lA.cell 1; simp only [List.getElem?_toArray, List.getElem?_cons_succ, List.getElem?_cons_zero] at q0 q1
    clear hl lA h16
    go_wp2
    go_ret
    exact ⟨rfl, hb0⟩
  by_cases hn2 : (ids.length : Int) < need
  · rw [show rightR ids need = false by unfold rightR; rw [decide_eq_false (show ¬ (1 ≤ need ∧ need ≤ (ids.length : Int)) by omega), Bool.and_false]; rfl]
    have i1 : ¬ (16 : Int) < (ids.length : Int) := by omega
    go_enter Tryz.func11, Tryz.ntmps11
    go_upto_region 1 with fail
    generalize World.alloc w _ = wa at *
    have q0 := lA.cell 0; have q1 := lA.cell 1; simp only [List.getElem?_toArray, List.getElem?_cons_succ, List.getElem?_cons_zero] at q0 q1
    clear hl lA h16
    go_wp2
    go_ret
    exact ⟨rfl, hb0⟩
  have hR0 : rightR ids need = allTo (stepR ids) ids.length := by
    unfold rightR
    rw [decide_eq_true (show ids.length ≤ 16 by omega), decide_eq_true (show 1 ≤ need ∧ need ≤ (ids.length : Int) by omega)]
    rfl
  rw [hR0]
  obtain ⟨R, hR⟩ : ∃ R, allTo (stepR ids) ids.length = R := ⟨_, rfl⟩
  rw [hR]
  have HR := Lib.hid hR
  clear hR hR0
  have i1 : ¬ (16 : Int) < (ids.length : Int) := by omega
  have HL := Lib.hid (fun (w1 : World) (hb : Below w.heap.size w w1) => hl.below hb)
  go_enter Tryz.func11, Tryz.ntmps11
  go_upto_region 1 with fail
  generalize World.alloc w _ = wa at *
  have q0 := lA.cell 0; have q1 := lA.cell 1; simp only [List.getElem?_toArray, List.getElem?_cons_succ, List.getElem?_cons_zero] at q0 q1
  clear hl lA h16
  go_wp2
  clear hn1 hn2 i1
  go_loopw [3, 5, 26] (fun lv _ iv wr => ∃ j : Nat, iv = .int .i64 (j : Int) ∧ j ≤ ids.length ∧ lv = .string (prevB ids j) ∧ Hid (allTo (stepR ids) j = true) ∧ Below w.heap.size w wr) (fun _ _ iv _ => ids.length - (intOf iv).toNat)
  case atStart => exact ⟨0, rfl, Nat.zero_le _, rfl, Lib.hid (allTo_zero _), hb0⟩
  case round =>
    clear hb0 q0 q1
    obtain ⟨j, rfl, hj, rfl, HT, hb⟩ := hrel
    by_cases hlt : j < ids.length
    case neg =>
      obtain rfl : j = ids.length := by omega
      have i1 : ¬ ((ids.length : Int) < (ids.length : Int)) := by omega
      obtain rfl : R = true := HR.out.symm.trans HT.out
      go_wp2
      go_ret
      exact ⟨rfl, hb⟩
    have i1 : (j : Int) < (ids.length : Int) := by omega
    have i3 : (0 : Int) ≤ (j : Int) := by omega
    obtain ⟨x, hx⟩ : ∃ x, ids[j]? = some x := ⟨_, List.getElem?_eq_getElem hlt⟩
    obtain ⟨b, off, rfl, hr, _⟩ := (HL.out _ hb).at (i := j) (cs := oneS x) (by rw [List.getElem?_map, hx]; rfl)
    have q0 := hr 0 (.string x) rfl
    rw [Nat.mul_one, Nat.add_zero] at q0
    have hst : stepR ids j = (isSumB x && lessB (prevB ids j) x) := by unfold stepR; rw [List.getD_eq_getElem?_getD, hx]; rfl
    have HP := Lib.hid (prev_succ hx)
    have HI := Lib.hid (fun (w : World) => isSum_any x w)
    obtain ⟨p, hp⟩ : ∃ p, prevB ids j = p := ⟨_, rfl⟩
    rw [hp] at hst ⊢
    clear hp hr
    have HJ := Lib.hid hlt
    cases hs : isSumB x with
    | false =>
      rw [hs] at HI
      rw [hs, Bool.false_and] at hst
      obtain rfl : R = false := HR.out.symm.trans (allTo_bad HJ.out hst)
      clear hst hs hx
      go_wp2_with (go_at_call 27; (with_reducible refine (HI.out _).mono ?_); rintro e w1 ⟨rfl, hb1⟩)
      go_ret
      exact ⟨rfl, hb.trans (hb1.mono hb.size)⟩
    | true =>
      rw [hs] at HI
      rw [hs, Bool.true_and] at hst
      cases hls : lessB p x with
      | false =>
        rw [hls] at hst
        have hless := leq_yes hls
        have hor : (Op.bytesLess x.toList p.toList || x.toList == p.toList) = true := by simpa using hless
        obtain rfl : R = false := HR.out.symm.trans (allTo_bad HJ.out hst)
        clear hst hs hx hls
        go_wp2_with (go_at_call 27; (with_reducible refine (HI.out _).mono ?_); rintro e w1 ⟨rfl, hb1⟩)
        go_ret
        exact ⟨rfl, hb.trans (hb1.mono hb.size)⟩
      | true =>
        rw [hls] at hst
        obtain ⟨hl1, hl2⟩ := leq_no hls
        have hor : (Op.bytesLess x.toList p.toList || x.toList == p.toList) = false := by rw [hl1, hl2]; rfl
        have HT2 := Lib.hid (show allTo (stepR ids) (j + 1) = true by rw [allTo_succ, HT.out, hst]; rfl)
        clear hst hs hx hls HT hlt
        go_wp2_with (go_at_call 27; (with_reducible refine (HI.out _).mono ?_); rintro e w1 ⟨rfl, hb1⟩)
        go_roundw
        case rel => exact ⟨j + 1, by go_num, HJ.out, by rw [HP.out], HT2, hb.trans (hb1.mono hb.size)⟩
        case measure =>
          have := HJ.out
          simp [intOf]; omega
end Go.Proofs.YtmekmlgpkbfjpaaGreatDoor.O

/- The developers' Keys: whether a row of keys may be. -/
namespace Go.Proofs.YtmekmlgpkbfjpaaGreatDoor.O
open Go.RowKit Go.Sort Go.Proofs.YtmekmlgpkbfjpaaGreatDoor.E
open V (Lies OwnL RowL reg lessL bytesLess_is)
set_option maxRecDepth 100000

theorem rowKey : V.RowT Tryz.prog 51 2 := ⟨⟨_, Tryz.underlying51, rfl⟩, by kernel_rfl⟩
theorem rowSig : V.RowT Tryz.prog 46 2 := ⟨⟨_, Tryz.underlying46, rfl⟩, by kernel_rfl⟩
theorem two_one (a b : ByteArray) : V.Ones #[.string a, .string b] := by unfold V.Ones; simp [Value.oneCell']
theorem map_prev {ks : List B2} {j : Nat} {k : B2} (h : ks[j]? = some k) : prevB (ks.map (·.1)) (j + 1) = k.1 := prev_succ (by rw [List.getElem?_map, h]; rfl)
set_option maxHeartbeats 6400000 in
theorem keys_any (av : Option Addr) (cv : Nat) (ks : List B2) (w : World) (hl : RowL w 2 (.slice av ks.length cv) (ks.map twoS)) (hT : U.Tab w) :
    Calls Tryz.prog 13 #[.slice av ks.length cv] w fun e w' => e = .returned (.bool (keysR ks)) ∧ Below w.heap.size w w' := by
  have hcap : ks.length ≤ 9223372036854775807 := by
    obtain ⟨a', c', e, h1, h2, _⟩ := hl.form
    injection e with _ _ e3
    rw [List.length_map] at h1
    unfold maxLen at h2
    omega
  by_cases h16 : 16 < ks.length
  · rw [show keysR ks = false by unfold keysR; rw [decide_eq_false (show ¬ ks.length ≤ 16 by omega)]; rfl]
    have i1 : (16 : Int) < (ks.length : Int) := by omega
    clear hl h16
    go_enter Tryz.func13, Tryz.ntmps13
    go_wp2
    go_ret
    exact ⟨rfl, Below.refl _ _⟩
  have hR0 : keysR ks = allTo (stepK ks) ks.length := by
    unfold keysR
    rw [decide_eq_true (show ks.length ≤ 16 by omega)]
    rfl
  rw [hR0]
  obtain ⟨R, hR⟩ : ∃ R, allTo (stepK ks) ks.length = R := ⟨_, rfl⟩
  rw [hR]
  have HR := Lib.hid hR
  clear hR hR0
  have i1 : ¬ (16 : Int) < (ks.length : Int) := by omega
  have HL := Lib.hid (fun (w1 : World) (hb : Below w.heap.size w w1) => hl.below hb)
  have HTT := Lib.hid (fun (w1 : World) (hb : Below w.heap.size w w1) => hT.below hb)
  go_enter Tryz.func13, Tryz.ntmps13
  clear hl h16 hT
  go_wp2
  clear i1
  go_loopw [3, 5, 11] (fun lv _ iv wr => ∃ j : Nat, iv = .int .i64 (j : Int) ∧ j ≤ ks.length ∧ lv = .string (prevB (ks.map (·.1)) j) ∧ Hid (allTo (stepK ks) j = true) ∧ Below w.heap.size w wr) (fun _ _ iv _ => ks.length - (intOf iv).toNat)
  case atStart => exact ⟨0, rfl, Nat.zero_le _, rfl, Lib.hid (allTo_zero _), Below.refl _ _⟩
  case round =>
    obtain ⟨j, rfl, hj, rfl, HT, hb⟩ := hrel
    by_cases hlt : j < ks.length
    case neg =>
      obtain rfl : j = ks.length := by omega
      have i1 : ¬ ((ks.length : Int) < (ks.length : Int)) := by omega
      obtain rfl : R = true := HR.out.symm.trans HT.out
      go_wp2
      go_ret
      exact ⟨rfl, hb⟩
    have i1 : (j : Int) < (ks.length : Int) := by omega
    have i3 : (0 : Int) ≤ (j : Int) := by omega
    obtain ⟨k, hx⟩ : ∃ x, ks[j]? = some x := ⟨_, List.getElem?_eq_getElem hlt⟩
    obtain ⟨b, off, rfl, hr, _⟩ := (HL.out _ hb).at (i := j) (cs := twoS k) (by rw [List.getElem?_map, hx]; rfl)
    have hst : stepK ks j = (keyOkB k && lessB (prevB (ks.map (·.1)) j) k.1) := by unfold stepK; rw [List.getD_eq_getElem?_getD, hx]; rfl
    have HP := Lib.hid (map_prev hx)
    obtain ⟨p, hp⟩ : ∃ p, prevB (ks.map (·.1)) j = p := ⟨_, rfl⟩
    rw [hp] at hst ⊢
    have HX := Lib.hid hx
    clear hp hx
    obtain ⟨id, pub⟩ := k
    have HJ := Lib.hid hlt
    have hrA := fun i u h => (hr i u h)
    have lZ := Lies.new wr 51 #[.string ⟨#[]⟩, .string ⟨#[]⟩]
    have hbZ := hb.alloc hb.size (.cells #[.string ⟨#[]⟩, .string ⟨#[]⟩] 51)
    have hK : keyOkB (id, pub) = (decide (pub.size = 32) && decide (id = idT pub)) := rfl
    have hst : stepK ks j = (keyOkB (id, pub) && lessB p id) := hst
    rw [hK] at hst
    clear hK hlt
    have hszB := hb.size
    go_upto_region 7 with (first
      | ((with_reducible refine V.wpL_loadMid b (off + j * 2) _ 2 rowKey rfl hr ?_ ?_); rfl)
      | ((with_reducible refine V.wpL_store wr.heap.size 51 _ #[.string id, .string pub] 2 rowKey rfl rfl (two_one _ _) lZ ?_ ?_ ?_); rfl; rfl))
    have lK := lZ.row #[.string id, .string pub]
    have hbK := V.below_rowSet hbZ hszB #[.string id, .string pub]
    generalize World.setRow _ _ _ = w2 at *
    simp only [Act.put]
    have hTK := HTT.out _ hbK
    have q0 := lK.cell 0; have q1 := lK.cell 1; simp only [List.getElem?_toArray, List.getElem?_cons_succ, List.getElem?_cons_zero] at q0 q1
    have u0 := cell_regrown q0
    have u1 := cell_regrown q1
    have cI := Lib.hid (fun (h : pub.size ≤ 1000) => reg (W := w2) (fun w hw => id_any pub w h (hTK.below hw)))
    clear q0 q1 hr hrA lZ hbZ
    by_cases h32 : pub.size = 32
    case neg =>
      rw [decide_eq_false h32, Bool.false_and, Bool.false_and] at hst
      obtain rfl : R = false := HR.out.symm.trans (allTo_bad HJ.out hst)
      have g1 : ((pub.size : Int) != 32) = true := by rw [bne_iff_ne]; omega
      clear hst h32
      refine wp_region_quiet_below (by kernel_rfl) (by kernel_rfl) ?_
      repeat (go_big_quiet_step (fail))
      refine wpQuiet_nil ?_
      intro _ hw'
      obtain ⟨⟨dq, osq⟩, hw''⟩ := hw'
      subst hw''
      have hb2 := below_regrown w2 dq osq
      go_wp2
      go_ret
      exact ⟨rfl, hbK.trans (hb2.mono hbK.size)⟩
    have g1 : ((pub.size : Int) != 32) = false := by rw [h32]; rfl
    have cI2 := Lib.hid (cI.out (by omega))
    rw [decide_eq_true h32, Bool.true_and] at hst
    clear cI h32
    have heq := eq_is id (idT pub)
    by_cases hid : id = idT pub
    case neg =>
      rw [decide_eq_false hid, Bool.false_and] at hst
      rw [decide_eq_false hid] at heq
      obtain rfl : R = false := HR.out.symm.trans (allTo_bad HJ.out hst)
      clear hst
      generalize idT pub = I at *
      have g2 : (id.toList == I.toList) = false := by rw [Lib.toList_data, Lib.toList_data]; exact heq
      clear hid heq
      refine wp_region_quiet_below (by kernel_rfl) (by kernel_rfl) ?_
      repeat (go_big_quiet_step (with_reducible exact cI2.out _ _))
      refine wpQuiet_nil ?_
      intro _ hw'
      obtain ⟨⟨dq, osq⟩, hw''⟩ := hw'
      subst hw''
      have hb2 := below_regrown w2 dq osq
      go_wp2
      go_ret
      exact ⟨rfl, hbK.trans (hb2.mono hbK.size)⟩
    rw [decide_eq_true hid] at heq
    rw [decide_eq_true hid, Bool.true_and] at hst
    generalize idT pub = I at *
    clear heq
    subst hid
    cases hls : lessB p id with
    | false =>
      rw [hls] at hst
      have hless := leq_yes hls
      have hor : (Op.bytesLess id.toList p.toList || id.toList == p.toList) = true := by simpa using hless
      obtain rfl : R = false := HR.out.symm.trans (allTo_bad HJ.out hst)
      clear hst hls
      refine wp_region_quiet_below (by kernel_rfl) (by kernel_rfl) ?_
      repeat (go_big_quiet_step (with_reducible exact cI2.out _ _))
      refine wpQuiet_nil ?_
      intro _ hw'
      obtain ⟨⟨dq, osq⟩, hw''⟩ := hw'
      subst hw''
      have hb2 := below_regrown w2 dq osq
      go_wp2
      go_ret
      exact ⟨rfl, hbK.trans (hb2.mono hbK.size)⟩
    | true =>
      rw [hls] at hst
      obtain ⟨hl1, hl2⟩ := leq_no hls
      have hor : (Op.bytesLess id.toList p.toList || id.toList == p.toList) = false := by rw [hl1, hl2]; rfl
      have HT2 := Lib.hid (show allTo (stepK ks) (j + 1) = true by rw [allTo_succ, HT.out, hst]; rfl)
      clear hst hls HT
      refine wp_region_quiet_below (by kernel_rfl) (by kernel_rfl) ?_
      repeat (go_big_quiet_step (with_reducible exact cI2.out _ _))
      refine wpQuiet_nil ?_
      intro _ hw'
      obtain ⟨⟨dq, osq⟩, hw''⟩ := hw'
      subst hw''
      have hb2 := below_regrown w2 dq osq
      have lK2 := lK.on hb2
      have q0 := lK2.cell 0; have q1 := lK2.cell 1; simp only [List.getElem?_toArray, List.getElem?_cons_succ, List.getElem?_cons_zero] at q0 q1
      go_wp2
      go_roundw
      case rel => exact ⟨j + 1, by go_num, HJ.out, by rw [HP.out], HT2, hbK.trans (hb2.mono hbK.size)⟩
      case measure =>
        have := HJ.out
        simp [intOf]; omega
end Go.Proofs.YtmekmlgpkbfjpaaGreatDoor.O

/- The first signature of a key's sum, and whether it is right. -/
namespace Go.Proofs.YtmekmlgpkbfjpaaGreatDoor.O
open Go.RowKit Go.Sort Go.Proofs.YtmekmlgpkbfjpaaGreatDoor.E
open V (Lies OwnL RowL reg lessL bytesLess_is)
set_option maxRecDepth 100000

/-- the place of the first one of that sum, counted from j -/
def sIdx (id : ByteArray) : List B2 → Nat → Int
  | [], _ => -1
  | x :: l, j => if decide (x.1 = id) = true then (j : Int) else sIdx id l (j + 1)
theorem sIdx_find (id : ByteArray) : ∀ (l : List B2) (j : Nat), (sIdx id l j = -1 ∧ l.find? (fun s => decide (s.1 = id)) = none) ∨ ∃ n s, sIdx id l j = ((j + n : Nat) : Int) ∧ l[n]? = some s ∧ l.find? (fun s => decide (s.1 = id)) = some s := by
  intro l
  induction l with
  | nil => intro j; exact .inl ⟨rfl, rfl⟩
  | cons x l ih =>
    intro j
    rw [sIdx, List.find?_cons]
    by_cases h : x.1 = id
    · right
      refine ⟨0, x, ?_, rfl, ?_⟩
      · rw [if_pos (decide_eq_true h)]; rfl
      · rw [decide_eq_true h]
    · rw [if_neg (by simpa using h), decide_eq_false h]
      rcases ih (j + 1) with ⟨h1, h2⟩ | ⟨n, s, h1, h2, h3⟩
      · exact .inl ⟨h1, h2⟩
      · exact .inr ⟨n + 1, s, by rw [h1]; congr 1; omega, by simpa using h2, h3⟩
theorem clos_any (s k : B2) (g : Nat) (w : World) (hg : Lies w g 51 #[.string k.1, .string k.2]) : Calls Tryz.prog 42 #[.agg #[.string s.1, .string s.2], .pointer (some ⟨g, 0, none⟩)] w fun e w' => e = .returned (.bool (decide (s.1 = k.1))) ∧ Below w.heap.size w w' := by
  have hq := eq_is s.1 k.1
  obtain ⟨x, hx⟩ : ∃ x, decide (s.1 = k.1) = x := ⟨_, rfl⟩
  rw [hx] at hq ⊢
  clear hx
  obtain ⟨a, b⟩ := s
  obtain ⟨c, d⟩ := k
  have hb := (Below.refl w.heap.size w).alloc (Nat.le_refl _) (.cells #[.string a, .string b] 46)
  have lg := hg.alloc (.cells #[.string a, .string b] 46)
  have lS := Lies.new w 46 #[.string a, .string b]
  have hq : (a.toList == c.toList) = x := by rw [Lib.toList_data, Lib.toList_data]; exact hq
  go_enter Tryz.func42, Tryz.ntmps42
  go_upto_region 1 with fail
  generalize World.alloc w _ = wa at *
  have q0 := lS.cell 0; have q1 := lg.cell 0; simp only [List.getElem?_toArray, List.getElem?_cons_zero] at q0 q1
  clear hg lg lS
  go_wp2
  go_ret
  exact ⟨rfl, hb⟩
set_option maxHeartbeats 3200000 in
theorem index_any (av : Option Addr) (cv : Nat) (sigs : List B2) (k : B2) (g : Nat) (w : World) (hl : RowL w 2 (.slice av sigs.length cv) (sigs.map twoS)) (hg : Lies w g 51 #[.string k.1, .string k.2]) :
    Calls Tryz.prog 41 #[.slice av sigs.length cv, .func (.func 42) #[] #[.pointer (some ⟨g, 0, none⟩)]] w fun e w' => e = .returned (.int .i64 (sIdx k.1 sigs 0)) ∧ Below w.heap.size w w' := by
  have hcap : sigs.length ≤ 9223372036854775807 := by
    obtain ⟨a', c', e, h1, h2, _⟩ := hl.form
    injection e with _ _ e3
    rw [List.length_map] at h1
    unfold maxLen at h2
    omega
  obtain ⟨R, hR⟩ : ∃ R, sIdx k.1 sigs 0 = R := ⟨_, rfl⟩
  rw [hR]
  have HR := Lib.hid hR
  have HL := Lib.hid (fun (w1 : World) (hb : Below w.heap.size w w1) => hl.below hb)
  have HG := Lib.hid (fun (w1 : World) (hb : Below w.heap.size w w1) => hg.on hb)
  clear hR hl hg
  go_enter Tryz.func41, Tryz.ntmps41
  go_wp2
  go_loopw [5, 8] (fun _ iv wr => ∃ j : Nat, iv = .int .i64 (j : Int) ∧ j ≤ sigs.length ∧ Hid (R = sIdx k.1 (sigs.drop j) j) ∧ Below w.heap.size w wr) (fun _ iv _ => sigs.length - (intOf iv).toNat)
  case atStart => exact ⟨0, rfl, Nat.zero_le _, Lib.hid (by rw [List.drop_zero]; exact HR.out.symm), Below.refl _ _⟩
  case round =>
    obtain ⟨j, rfl, hj, HT, hb⟩ := hrel
    clear HR
    by_cases hlt : j < sigs.length
    case neg =>
      obtain rfl : j = sigs.length := by omega
      have i1 : ¬ ((sigs.length : Int) < (sigs.length : Int)) := by omega
      have HT2 := Lib.hid (show R = -1 by rw [HT.out, List.drop_length]; rfl)
      clear HT
      go_wp2
      go_ret
      exact ⟨by rw [HT2.out]; rfl, hb⟩
    have i1 : (j : Int) < (sigs.length : Int) := by omega
    have i3 : (0 : Int) ≤ (j : Int) := by omega
    obtain ⟨x, hx⟩ : ∃ x, sigs[j] = x := ⟨_, rfl⟩
    obtain ⟨b, off, rfl, hr, _⟩ := (HL.out _ hb).at (i := j) (cs := twoS x) (by rw [List.getElem?_map, List.getElem?_eq_getElem hlt, hx]; rfl)
    have hT := HT.out
    rw [List.drop_eq_getElem_cons hlt, hx, sIdx] at hT
    have HC := Lib.hid (fun (w1 : World) (hb1 : Below w.heap.size w w1) => clos_any x k g w1 (HG.out w1 hb1))
    cases hq : decide (x.1 = k.1) with
    | true =>
      rw [if_pos hq] at hT
      rw [hq] at HC
      have HT2 := Lib.hid hT
      clear HT hT hq hx
      go_wp2_with (first
        | ((with_reducible refine V.wpL_loadMid b (off + j * 2) _ 2 rowSig rfl hr ?_ ?_); rfl)
        | (go_at_call 42; refine (HC.out _ hb).mono ?_; rintro e w1 ⟨rfl, hb1⟩))
      go_ret
      exact ⟨by rw [HT2.out]; rfl, hb.trans (hb1.mono hb.size)⟩
    | false =>
      rw [if_neg (by rw [hq]; simp)] at hT
      rw [hq] at HC
      have HT2 := Lib.hid hT
      clear HT hT hq hx
      go_wp2_with (first
        | ((with_reducible refine V.wpL_loadMid b (off + j * 2) _ 2 rowSig rfl hr ?_ ?_); rfl)
        | (go_at_call 42; refine (HC.out _ hb).mono ?_; rintro e w1 ⟨rfl, hb1⟩))
      go_roundw
      case rel => exact ⟨j + 1, by go_num, by omega, HT2, hb.trans (hb1.mono hb.size)⟩
      case measure => simp [intOf]; omega
end Go.Proofs.YtmekmlgpkbfjpaaGreatDoor.O

/- The developers' signed: whether the first signature of a key's sum is right. -/
namespace Go.Proofs.YtmekmlgpkbfjpaaGreatDoor.O
open Go.RowKit Go.Sort Go.Proofs.YtmekmlgpkbfjpaaGreatDoor.E
open C (Pts)
open V (Lies OwnL RowL reg lessL bytesLess_is)
set_option maxRecDepth 100000

set_option maxHeartbeats 3200000 in
theorem signed_any (A : Pts EdTab) (av : Option Addr) (cv : Nat) (sigs : List B2) (id pub text : ByteArray) (w : World) (hl : RowL w 2 (.slice av sigs.length cv) (sigs.map twoS)) (hm : text.size ≤ 1000) (hT : EdTab2 w) :
    Calls Tryz.prog 26 #[.agg #[.string id, .string pub], .string text, .slice av sigs.length cv] w fun e w' => e = .returned (.bool (sigIn pub id text sigs)) ∧ Below w.heap.size w w' := by
  have hcap : sigs.length ≤ 9223372036854775807 := by
    obtain ⟨a', c', e, h1, h2, _⟩ := hl.form
    injection e with _ _ e3
    rw [List.length_map] at h1
    unfold maxLen at h2
    omega
  have lK := Lies.new w 51 #[.string id, .string pub]
  have hb0 := (Below.refl w.heap.size w).alloc (Nat.le_refl _) (.cells #[.string id, .string pub] 51)
  have HI := Lib.hid (show ∀ w1, Below w.heap.size w w1 → Lies w1 w.heap.size 51 #[.string id, .string pub] → Calls Tryz.prog 41 #[.slice av sigs.length cv, .func (.func 42) #[] #[.pointer (some ⟨w.heap.size, 0, none⟩)]] w1 fun e w' => e = .returned (.int .i64 (sIdx id sigs 0)) ∧ Below w1.heap.size w1 w' from fun w1 hb h => index_any av cv sigs (id, pub) w.heap.size w1 (hl.below hb) h)
  have HTT := Lib.hid (fun (w1 : World) (hb : Below w.heap.size w w1) => hT.on hb)
  rcases sIdx_find id sigs 0 with ⟨h1, h2⟩ | ⟨n, s, h1, h2, h3⟩
  · rw [sigIn_none h2]
    rw [h1] at HI
    clear h1 h2 hl hT
    go_enter Tryz.func26, Tryz.ntmps26
    go_upto_region 2 with (go_at_call 41; (with_reducible refine (HI.out _ hb0 lK).mono ?_); rintro e w1 ⟨rfl, hb1⟩)
    have hb := hb0.trans (hb1.mono hb0.size)
    refine wp_region_quiet_below (by kernel_rfl) (by kernel_rfl) ?_
    repeat (go_big_quiet_step (fail))
    refine wpQuiet_nil ?_
    intro _ hw'
    obtain ⟨⟨dq, osq⟩, hw''⟩ := hw'
    subst hw''
    have hb2 := below_regrown w1 dq osq
    go_wp2
    go_ret
    exact ⟨rfl, hb.trans (hb2.mono hb.size)⟩
  · rw [sigIn_some h3]
    rw [h1, Nat.zero_add] at HI
    have hlt := (List.getElem?_eq_some_iff.1 h2).1
    obtain ⟨b, off, rfl, hr, _⟩ := hl.at (i := n) (cs := twoS s) (by rw [List.getElem?_map, h2]; rfl)
    have HR := Lib.hid (fun (w1 : World) (hb : Below w.heap.size w w1) => V.range_below hb hr)
    have i0 : (0 : Int) ≤ (n : Int) := by omega
    have i1 : (n : Int) < (sigs.length : Int) := by omega
    obtain ⟨sid, sg⟩ := s
    have HV0 := Lib.hid (fun (w1 : World) (hb : Below w.heap.size w w1) => verify_any A pub text sg hm w1 (HTT.out w1 hb))
    rw [show verifyE pub text (sid, sg).2 = verifyE pub text sg from rfl]
    generalize verifyE pub text sg = V at *
    clear h1 h2 h3 hl hT hr hlt
    by_cases h0 : V = 0
    · subst h0
      go_enter Tryz.func26, Tryz.ntmps26
      go_upto_region 2 with (go_at_call 41; (with_reducible refine (HI.out _ hb0 lK).mono ?_); rintro e w1 ⟨rfl, hb1⟩)
      have hb := hb0.trans (hb1.mono hb0.size)
      have lK1 := lK.on hb1
      have q1 := lK1.cell 1; simp only [List.getElem?_toArray, List.getElem?_cons_succ, List.getElem?_cons_zero] at q1
      have q2 := HR.out _ hb 1 _ rfl
      have u1 := cell_regrown q1
      have u2 := cell_regrown q2
      have cV := Lib.hid (reg (W := w1) (fun w2 hw => HV0.out w2 (hb.trans (hw.mono hb.size))))
      clear q1 q2
      refine wp_region_quiet_below (by kernel_rfl) (by kernel_rfl) ?_
      repeat (go_big_quiet_step (with_reducible exact cV.out _ _))
      refine wpQuiet_nil ?_
      intro _ hw'
      obtain ⟨⟨dq, osq⟩, hw''⟩ := hw'
      subst hw''
      have hb2 := below_regrown w1 dq osq
      go_wp2
      go_ret
      exact ⟨rfl, hb.trans (hb2.mono hb.size)⟩
    · rw [decide_eq_false h0]
      have hV : (V == 0) = false := by simpa using h0
      clear h0
      go_enter Tryz.func26, Tryz.ntmps26
      go_upto_region 2 with (go_at_call 41; (with_reducible refine (HI.out _ hb0 lK).mono ?_); rintro e w1 ⟨rfl, hb1⟩)
      have hb := hb0.trans (hb1.mono hb0.size)
      have lK1 := lK.on hb1
      have q1 := lK1.cell 1; simp only [List.getElem?_toArray, List.getElem?_cons_succ, List.getElem?_cons_zero] at q1
      have q2 := HR.out _ hb 1 _ rfl
      have u1 := cell_regrown q1
      have u2 := cell_regrown q2
      have cV := Lib.hid (reg (W := w1) (fun w2 hw => HV0.out w2 (hb.trans (hw.mono hb.size))))
      clear q1 q2
      refine wp_region_quiet_below (by kernel_rfl) (by kernel_rfl) ?_
      repeat (go_big_quiet_step (with_reducible exact cV.out _ _))
      refine wpQuiet_nil ?_
      intro _ hw'
      obtain ⟨⟨dq, osq⟩, hw''⟩ := hw'
      subst hw''
      have hb2 := below_regrown w1 dq osq
      go_wp2
      go_ret
      exact ⟨rfl, hb.trans (hb2.mono hb.size)⟩
end Go.Proofs.YtmekmlgpkbfjpaaGreatDoor.O

