/- The stack's push and pop. -/
import Derived.Test.YtnloimanklkigaaDoorYFrame
namespace Go.Proofs.YtnloimanklkigaaDoor.V
set_option maxRecDepth 100000
open Go.RowKit Go.Sort Go.Joins

theorem St.form {w : World} {g B p n : Nat} {E : List Nat} {s : ByteArray} {vo : Value} {ms : List Fm} (h : St w g E B s p n vo ms) : ∃ a c, vo = .slice a ms.length c ∧ ms.length ≤ c := by
  obtain ⟨a, c, hv, hc, _⟩ := h.own.form
  rw [List.length_reverse, List.length_map] at hv hc
  exact ⟨a, c, hv, hc⟩
section
variable {a : Act} {d : Option Tmp} {x y : Operand} {t' : TypeId} {pos : String} {after : Array Edge} {gd : Option (Nat × Bool)} {w : World}
theorem run_idxV (b n c k : Nat) (hk : k < n) (hx : a.eval x = .slice (some ⟨b, 0, none⟩) n c) (hy : a.eval y = .int .i64 (k : Int)) :
    (execOp a.eval ⟨d, .indexAddr 22 x y, t', pos, after, gd⟩).run Tryd.prog w = .ok (.value (.pointer (some ⟨b, k * 5, none⟩))) w := by
  unfold execOp
  simp only [hx, hy]
  simp [Instr.indexAt, run_underlying Tryd.underlying22, go_sem]
  omega
end
section
variable {a : Act} {d : Option Tmp} {x : Operand} {t' : TypeId} {pos : String} {after : Array Edge} {gd : Option (Nat × Bool)}
theorem run_lenR (s : Option Addr) (n c : Nat) (hx : a.eval x = .slice s n c) (w : World) : (execOp a.eval ⟨d, .call { callee := .builtin .len, args := #[x], argTypes := #[22] }, t', pos, after, gd⟩).run Tryd.prog w = .ok (.value (.int .i64 (n : Int))) w := by
  have hr : (Builtin.len_ #[22] t' #[.slice s n c]).run Tryd.prog w = .ok (.int .i64 (n : Int)) w := by simp [go_sem]
  simp [execOp, resolve, invoke, builtin, hx, hr, Result.andThen]
end
theorem wpOp_skpN {P : Program} {ops : Array Oper} {Q : Exit → Act → World → Prop} {a : Act} {w w' : World} {i : Nat} {o : Oper} {K : Act → World → Prop} (hi : ops[i]? = some o) (hd : o.dst = none) (hw : Region.wanted o (yielded ops a.tmps) = true) (hr : (execOp a.eval o).run P w = .ok .skip w') (h : K a w') : wpOp P ops Q i K a w :=
  wpOp_skp hi hw hr (by rw [hd]; exact h)
theorem slice_inj {b b2 n cap cap2 : Nat} (h : Value.slice (some ⟨b, 0, none⟩) n cap = .slice (some ⟨b2, 0, none⟩) n cap2) : b = b2 ∧ cap = cap2 := by
  injection h with h1 _ h3
  injection h1 with h1
  injection h1 with h1
  exact ⟨h1, h3⟩
theorem live_len (g : Nat) (E : List Nat) (a : Option Addr) (n n' c c' : Nat) (ms : List Fm) : live g E (.slice a n c) ms = live g E (.slice a n' c') ms := by cases a <;> rfl
theorem loc_of {v : Value} {b n cap N M : Nat} (h : v.ownBlock = some b ∨ b = M) (hle : N ≤ M) : blks (.slice (some ⟨b, 0, none⟩) n cap) = blks v ∨ ∃ b', blks (.slice (some ⟨b, 0, none⟩) n cap) = [b'] ∧ N ≤ b' := by
  rcases h with h | h
  · exact .inl (blks_some h).symm
  · exact .inr ⟨b, rfl, by omega⟩
theorem loc_ne {v : Value} {b n cap N x : Nat} (h : blks (.slice (some ⟨b, 0, none⟩) n cap) = blks v ∨ ∃ b', blks (.slice (some ⟨b, 0, none⟩) n cap) = [b'] ∧ N ≤ b') (hx : x ∉ blks v) (hlt : x < N) : x ≠ b := by
  rintro rfl
  rcases h with h | ⟨b', h, hb⟩
  · exact hx (by rw [← h]; simp [blks, Value.ownBlock])
  · have : x = b' := by simpa [blks, Value.ownBlock] using h
    omega
theorem own_ne {v : Value} {x : Nat} (hx : x ∉ blks v) : some x ≠ v.ownBlock := fun e => hx (by unfold blks; rw [← e]; simp)
section
variable {a : Act} {d : Option Tmp} {x : Operand} {t' : TypeId} {pos : String} {after : Array Edge} {gd : Option (Nat × Bool)}
theorem run_ldV {w : World} (b n : Nat) (cs : Array Value) (hs : cs.size = 5) (hg : Lies w b n cs) (hx : a.eval x = .pointer (some ⟨b, 0, none⟩)) :
    (execOp a.eval ⟨d, .load 25 x, t', pos, after, gd⟩).run Tryd.prog w = .ok (.value (.agg cs)) w := by
  unfold execOp
  simp only [hx, Instr.loadAt, Instr.sureAddr, Sem.run_bind, Sem.run_pure, Result.andThen_ok, run_loadVar_row w b n 25 cs (0, 0) _ hg Tryd.underlying25 rfl (by rw [hs]; exact rowVal.2)]
end
theorem St.push2 {w wf : World} {g B p n : Nat} {E : List Nat} {s : ByteArray} {vo : Value} {ms : List Fm} (h : St w g E B s p n vo ms) {v'' : Value} (map : Bool) (f : Nat) (hf : s.size - p ≤ f) (hms : ms.length < 12) {css : List (List Value)} {cs : List Value} (hcss : (ms.map Fm.cells).reverse = css) (hcs : cs = (Fm.mk ⟨map, [], [], f⟩ (.slice none 0 0) (.slice none 0 0)).cells) (hp : PutDone 25 5 w wf B g 3 vo v'' css cs) :
    St wf g E B s p n v'' (⟨⟨map, [], [], f⟩, .slice none 0 0, .slice none 0 0⟩ :: ms) ∧ Turn (live g E vo ms) (live g E v'' (⟨⟨map, [], [], f⟩, .slice none 0 0, .slice none 0 0⟩ :: ms)) w wf := by
  subst hcss hcs
  exact h.push map f hf hms hp
set_option maxHeartbeats 3200000 in
theorem push_any (w : World) (g : Nat) (E : List Nat) (B : Nat) (s : ByteArray) (p n : Nat) (vo : Value) (ms : List Fm) (h : St w g E B s p n vo ms) (map : Bool) (f : Nat) (hf : s.size - p ≤ f) (hms : ms.length < 12) :
    Calls Tryd.prog 80 #[.pointer (some ⟨g, 3, none⟩), .agg #[.int .i64 (Fr.kind ⟨map, [], [], f⟩), .int .i64 0, .string ⟨#[]⟩, .slice none 0 0, .slice none 0 0]] w fun e w' =>
      e = .returned (.tuple #[]) ∧ ∃ v'', St w' g E B s p n v'' (⟨⟨map, [], [], f⟩, .slice none 0 0, .slice none 0 0⟩ :: ms) ∧ Turn (live g [] vo ms) (live g [] v'' (⟨⟨map, [], [], f⟩, .slice none 0 0, .slice none 0 0⟩ :: ms)) w w' := by
  obtain ⟨kd, hkd⟩ : ∃ kd, Fr.kind ⟨map, [], [], f⟩ = kd := ⟨_, rfl⟩
  rw [hkd]
  have hba := (RowKit.Below.refl w.heap.size w).alloc (Nat.le_refl _) (.cells #[.int .i64 kd, .int .i64 0, .string ⟨#[]⟩, .slice none 0 0, .slice none 0 0] 25)
  have lA := Lies.new w 25 #[.int .i64 kd, .int .i64 0, .string ⟨#[]⟩, .slice none 0 0, .slice none 0 0]
  have h1 := (h.below hba).1
  have ht1 := (h.drop.below hba).2
  have hbx : w.heap.size ∉ g :: blks vo := fun hx => by
    have := (h.live_lt w.heap.size (by
      rcases List.mem_cons.1 hx with hx | hx
      · rw [hx]; exact List.mem_cons_self ..
      · exact List.mem_cons_of_mem _ (List.mem_append_right _ (List.mem_append_left _ hx)))).2
    omega
  go_enter Tryd.func80, Tryd.ntmps80
  go_upto_region 1 with fail
  have hBxB : g ≠ w.heap.size := fun e => hbx (by rw [← e]; exact List.mem_cons_self ..)
  have hbxv : w.heap.size ∉ blks vo := fun hx => hbx (List.mem_cons_of_mem _ hx)
  have hbxh : w.heap.size ≠ g := fun e => hBxB e.symm
  generalize World.alloc w _ = wa at *
  obtain ⟨cs, hcs⟩ : ∃ cs : List Value, cs = [.int .i64 kd, .int .i64 0, .string ⟨#[]⟩, .slice none 0 0, .slice none 0 0] := ⟨_, rfl⟩
  have hcs5 : cs.length = 5 := by rw [hcs]; rfl
  have hone : ∀ u ∈ cs, u.oneCell' = true := by
    rw [hcs]
    intro u hu
    simp only [List.mem_cons, List.not_mem_nil, or_false] at hu
    rcases hu with rfl | rfl | rfl | rfl | rfl <;> rfl
  have lA : Lies wa w.heap.size 25 cs.toArray := by rw [hcs]; exact lA
  generalize w.heap.size = bx at *
  refine wp_held_any (S := fun w => Lies w bx 25 cs.toArray) 13 rfl (by kernel_rfl) ?_
  have hdr : RowKit.Below wa.heap.size wa { wa with drawn := wa.drawn + 1 } := (RowKit.Below.refl _ _).drew
  have h2 := (h1.below hdr).1
  have ht2 := (h1.drop.below hdr).2
  have hT := ht1.trans ht2
  have hS0 := lA.on hdr
  clear hdr
  generalize ({ wa with drawn := wa.drawn + 1 } : World) = wd at *
  obtain ⟨a, c, hvo, hcc⟩ := h2.form
  have hL := h2.rd
  have hO := h2.own
  have hBw := h2.Bw
  have hlen : (ms.map Fm.cells).reverse.length = ms.length := by simp
  have hn : (ms.map Fm.cells).reverse.length ≤ 100000 := by omega
  have hhv : g ∉ blks vo := fun hx => by have := (h2.own.blk_lt g hx).1; have := h2.gB; omega
  generalize hcss : (ms.map Fm.cells).reverse = css at *
  subst hvo
  rw [← hlen] at *
  have hCi : (rdC s p n (.slice a css.length c))[3]? = some (.slice a css.length c) := rfl
  refine held_put 0 4 (.pointer (some ⟨g, 3, none⟩)) rfl rfl (by kernel_rfl) (by kernel_rfl) (by kernel_rfl) (by kernel_rfl) (fun w hS => rfl) hS0 ?_
  simp only [List.setIfInBounds_toArray, List.set_cons_succ, List.set_cons_zero]
  refine held_put 1 5 (.pointer (some ⟨g, 3, none⟩)) rfl rfl (by kernel_rfl) (by kernel_rfl) (by kernel_rfl) (by kernel_rfl) (fun w hS => rfl) hS0 ?_
  simp only [List.setIfInBounds_toArray, List.set_cons_succ, List.set_cons_zero]
  refine held_put 2 6 (.pointer (some ⟨g, 3, none⟩)) rfl rfl (by kernel_rfl) (by kernel_rfl) (by kernel_rfl) (by kernel_rfl) (fun w hS => rfl) hS0 ?_
  simp only [List.setIfInBounds_toArray, List.set_cons_succ, List.set_cons_zero]
  refine held_put 4 8 (.agg cs.toArray) rfl rfl (by kernel_rfl) (by kernel_rfl) (by kernel_rfl) (by kernel_rfl) (fun w hS => run_ldV bx _ _ (by simpa using hcs5) hS rfl) hS0 ?_
  simp only [List.setIfInBounds_toArray, List.set_cons_succ, List.set_cons_zero]
  have zA := Lies.new wd 25 #[.int .i64 0, .int .i64 0, .string ⟨#[]⟩, .slice none 0 0, .slice none 0 0]
  have zb : RowKit.Below wd.heap.size wd (wd.alloc (.cells #[.int .i64 0, .int .i64 0, .string ⟨#[]⟩, .slice none 0 0, .slice none 0 0] 25)) := (RowKit.Below.refl _ _).alloc (Nat.le_refl _) _
  refine held_two 3 6 (by kernel_rfl) (wpOp_put 7 (w' := wd) (v := (.slice a css.length c)) rfl rfl (by kernel_rfl) (run_ldR _ _ ((hL.cell 3).trans hCi) rfl) ⟨hS0, ?_⟩) (wpOp_put 10 (w' := (wd.alloc (.cells #[.int .i64 0, .int .i64 0, .string ⟨#[]⟩, .slice none 0 0, .slice none 0 0] 25))) (v := .slice (some ⟨wd.heap.size, 0, none⟩) 1 1) rfl rfl (by kernel_rfl) (by kernel_rfl) ⟨hS0.alloc _, ?_⟩)
  focus
    simp only [List.setIfInBounds_toArray, List.set_cons_succ, List.set_cons_zero]
    refine held_put 5 9 (.int .i64 (css.length : Int)) rfl rfl (by kernel_rfl) (by kernel_rfl) (by kernel_rfl) (by kernel_rfl) (fun w hS => run_lenR _ _ _ rfl w) hS0 ?_
    simp only [List.setIfInBounds_toArray, List.set_cons_succ, List.set_cons_zero]
    refine held_one 6 (by kernel_rfl) (wpOp_put 10 (w' := (wd.alloc (.cells #[.int .i64 0, .int .i64 0, .string ⟨#[]⟩, .slice none 0 0, .slice none 0 0] 25))) (v := .slice (some ⟨wd.heap.size, 0, none⟩) 1 1) rfl rfl (by kernel_rfl) (by kernel_rfl) ⟨hS0.alloc _, ?_⟩)
    simp only [List.setIfInBounds_toArray, List.set_cons_succ, List.set_cons_zero]
  rotate_left
  focus
    simp only [List.setIfInBounds_toArray, List.set_cons_succ, List.set_cons_zero]
    refine held_one 3 (by kernel_rfl) (wpOp_put 7 (w' := (wd.alloc (.cells #[.int .i64 0, .int .i64 0, .string ⟨#[]⟩, .slice none 0 0, .slice none 0 0] 25))) (v := (.slice a css.length c)) rfl rfl (by kernel_rfl) (run_ldR _ _ (((hL.alloc _).cell 3).trans hCi) rfl) ⟨hS0.alloc _, ?_⟩)
    simp only [List.setIfInBounds_toArray, List.set_cons_succ, List.set_cons_zero]
    refine held_put 5 9 (.int .i64 (css.length : Int)) rfl rfl (by kernel_rfl) (by kernel_rfl) (by kernel_rfl) (by kernel_rfl) (fun w hS => run_lenR _ _ _ rfl w) (hS0.alloc _) ?_
    simp only [List.setIfInBounds_toArray, List.set_cons_succ, List.set_cons_zero]
  all_goals
    have hSz := hS0.alloc (.cells #[.int .i64 0, .int .i64 0, .string ⟨#[]⟩, .slice none 0 0, .slice none 0 0] 25)
    have hOz := hO.on zb
    have hLz := hL.alloc (.cells #[.int .i64 0, .int .i64 0, .string ⟨#[]⟩, .slice none 0 0, .slice none 0 0] 25)
    have hBz : B ≤ (wd.alloc (.cells #[.int .i64 0, .int .i64 0, .string ⟨#[]⟩, .slice none 0 0, .slice none 0 0] 25)).heap.size := Nat.le_trans hBw zb.size
    have hgz := World.grownBy_alloc wd (.cells #[.int .i64 0, .int .i64 0, .string ⟨#[]⟩, .slice none 0 0, .slice none 0 0] 25) (Value.slice a css.length c).ownBlock
    generalize (wd.alloc (.cells #[.int .i64 0, .int .i64 0, .string ⟨#[]⟩, .slice none 0 0, .slice none 0 0] 25)) = wz at *
    refine held_one 7 (by kernel_rfl) (wpOp_lawD 11 rfl rfl (by kernel_rfl) (wpL_roomV B _ css wd.heap.size hOz zA hn hBz rfl rfl ?_))
    intro b cap w7 hown7 hgr7 hloc7
    have hloc := loc_of (n := css.length + 1) (cap := cap) hloc7 zb.size
    have hbb : bx ≠ b := loc_ne hloc hbxv hS0.lt
    have hhb : g ≠ b := loc_ne hloc hhv hL.lt
    have hS7 := hSz.only hgr7 (own_ne hbxv)
    have hL7 := hLz.only hgr7 (own_ne hhv)
    have hg7 := grown_two hgz hgr7
    refine ⟨hS7, ?_⟩
    simp only [Act.put, List.setIfInBounds_toArray, List.set_cons_succ, List.set_cons_zero]
    refine held_put 8 12 (.pointer (some ⟨b, css.length * 5, none⟩)) rfl rfl (by kernel_rfl) (by kernel_rfl) (by kernel_rfl) (by kernel_rfl) (fun w hS => run_idxV b _ _ _ (by omega) rfl rfl) hS7 ?_
    simp only [List.setIfInBounds_toArray, List.set_cons_succ, List.set_cons_zero]
    refine held_put 10 13 (.pointer (some ⟨g, 3, none⟩)) rfl rfl (by kernel_rfl) (by kernel_rfl) (by kernel_rfl) (by kernel_rfl) (fun w hS => rfl) hS7 ?_
    simp only [List.setIfInBounds_toArray, List.set_cons_succ, List.set_cons_zero]
    refine held_put 11 14 (.pointer (some ⟨g, 3, none⟩)) rfl rfl (by kernel_rfl) (by kernel_rfl) (by kernel_rfl) (by kernel_rfl) (fun w hS => rfl) hS7 ?_
    simp only [List.setIfInBounds_toArray, List.set_cons_succ, List.set_cons_zero]
    obtain ⟨b2, cap2, cur, e2, hB2, hh7, hsz7, hcap7, _, hfill⟩ := hown7.fill
    obtain ⟨rfl, rfl⟩ := slice_inj e2
    refine held_two 9 12 (by kernel_rfl) (wpOp_skpN rfl rfl (by kernel_rfl) (run_stV cs (hh7) hcs5 (by omega) hone rfl rfl) ⟨hS7.rowFar hbb _, ?_⟩) (wpOp_skpN rfl rfl (by kernel_rfl) (run_stR _ _ _ _ _ ((hL7.cell 3).trans hCi) (hL7.frozen 3) rfl rfl) ⟨hS7.far hbxh _, ?_⟩)
    focus
      refine held_one 12 (by kernel_rfl) (wpOp_skpN rfl rfl (by kernel_rfl) (run_stR _ _ _ _ _ (((hL7.rowFar hhb _).cell 3).trans hCi) ((hL7.rowFar hhb _).frozen 3) rfl rfl) ⟨(hS7.rowFar hbb _).far hbxh _, ?_⟩)
      have PD := put_first (i := 3) hg7 rfl hloc hL.lt hhv hhb hh7 (fun w2 h2 => hfill w2 cs hcs5 h2)
    rotate_left
    focus
      refine held_one 9 (by kernel_rfl) (wpOp_skpN rfl rfl (by kernel_rfl) (run_stV cs ((heap_setCell_other _ ⟨g, 3, none⟩ _ _ (fun e => hhb e.symm)).trans hh7) hcs5 (by omega) hone rfl rfl) ⟨(hS7.far hbxh _).rowFar hbb _, ?_⟩)
      have PD := put_last (i := 3) hg7 rfl hloc hL.lt hhv hhb hh7 (fun w2 h2 => hfill w2 cs hcs5 h2)
    all_goals
      refine held_done (by kernel_rfl) ?_
      simp only [Exit.then]
      have hS' := (h2.push2 map f hf (by omega) hcss (by rw [hcs]; unfold Fm.cells; rw [hkd]) PD).1
      have hT' := (h2.drop.push2 map f hf (by omega) hcss (by rw [hcs]; unfold Fm.cells; rw [hkd]) PD).2
      first | go_end0 | refine bodyPost_ret (results_none rfl _ _ _) rfl ?_
      exact ⟨rfl, _, hS', by rw [live_len g [] a ms.length css.length c c]; exact hT.trans hT'⟩
theorem grown_row {w : World} (b : Nat) (cs : Array Value) : w.grownBy (w.setRow b cs) (some b) := ⟨rfl, rfl, rfl, Nat.le_of_eq (setRow_size w b cs).symm, fun k _ hne => setRow_other w b k cs (fun e => hne (by rw [e]))⟩
theorem below_top {w : World} {g B p n : Nat} {E : List Nat} {s : ByteArray} {vo : Value} {m : Fm} {ms : List Fm} (h : St w g E B s p n vo (m :: ms)) : ∃ sb cap, vo = .slice (some ⟨sb, 0, none⟩) (ms.length + 1) cap ∧ ms.length + 1 ≤ cap ∧ w.rangeAt sb (ms.length * 5) m.cells ∧ (∃ C, Lies w sb 25 C) ∧ sb ≠ g := by
  have ho := h.own
  rw [List.map_cons, List.reverse_cons] at ho
  have hlen : (ms.map Fm.cells).reverse.length = ms.length := by simp
  obtain ⟨b, cap, cur, hv, hB, hh, hsz, hc, hm, _⟩ := ho.fill
  rw [hlen] at hv hsz hc
  refine ⟨b, cap, hv, hc, ?_, ⟨cur, hh⟩, fun e => by have := h.gB; omega⟩
  rw [hv] at ho
  obtain ⟨b', off, e1, hr, _⟩ := ho.read.at (i := ms.length) (cs := m.cells) (by rw [← hlen]; simp)
  injection e1 with e1
  injection e1 with e1 e2
  subst e1 e2
  rw [Nat.zero_add] at hr
  exact hr
set_option maxHeartbeats 3200000 in
theorem pop_any (w : World) (g : Nat) (E : List Nat) (B : Nat) (s : ByteArray) (p n : Nat) (vo : Value) (m : Fm) (ms : List Fm) (h : St w g E B s p n vo (m :: ms)) :
    Calls Tryd.prog 70 #[.pointer (some ⟨g, 3, none⟩)] w fun e w' => e = .returned (.agg m.cells.toArray) ∧ ∃ vo', St w' g E B s p n vo' ms ∧ Turn (live g [] vo (m :: ms)) (live g [] vo' ms) w w' ∧ ∃ d, IsVX (live g E vo' ms) w' d m.cells m.vt := by
  obtain ⟨sb, cap, hvo, hcap, hr, ⟨C, hC⟩, hne⟩ := below_top h
  have hms := h.hms
  rw [List.length_cons] at hms
  have hgw := h.rd.lt
  have hfm := h.fm m (by simp)
  obtain ⟨ics, hio, _⟩ := hfm.items
  obtain ⟨ai, ci, hvi, _⟩ := hio.form
  obtain ⟨ak, ck, hvk, _⟩ := hfm.keys.form
  generalize ics.length = ni at hvi
  generalize (m.fr.keys.map fun k => [str k]).length = nk at hvk
  clear hio hfm
  obtain ⟨kd, hkd⟩ : ∃ v, m.fr.kind = v := ⟨_, rfl⟩
  have hcs : m.cells = [.int .i64 kd, .int .i64 0, .string ⟨#[]⟩, .slice ai ni ci, .slice ak nk ck] := by unfold Fm.cells; rw [hvi, hvk, hkd]
  have hba := (RowKit.Below.refl w.heap.size w).alloc (Nat.le_refl _) (.cells valZ 25)
  have lA := Lies.new w 25 valZ
  obtain ⟨h1, ht1⟩ := h.below hba
  have r1 := range_below hba hr
  rw [hcs] at r1
  clear hr
  go_enter Tryd.func70, Tryd.ntmps70
  go_upto_region 1 with fail
  generalize World.alloc w _ = wa at *
  have c3 := rd_c3 h1.rd
  rw [hvo] at c3
  go_upto_region 2 with (first
    | (go_at_call 66; refine (top_any _ g sb ms.length cap c3 (by omega)).mono ?_; rintro e w2 ⟨rfl, hb2⟩; replace r1 := range_below hb2 r1; obtain ⟨h2, ht2⟩ := h1.below hb2)
    | ((with_reducible refine wpL_loadMid sb (ms.length * 5) _ 5 rowVal rfl r1 ?_ ?_); rfl)
    | ((with_reducible refine wpL_store w2.heap.size 25 valZ #[.int .i64 kd, .int .i64 0, .string ⟨#[]⟩, .slice ai ni ci, .slice ak nk ck] 5 rowVal rfl rfl (valC_one _ _ _ _ _ _ _ _ _) (Lies.new w2 _ _) ?_ ?_ ?_); rfl; rfl))
  have hb3 : RowKit.Below w2.heap.size w2 ((w2.alloc (.cells valZ 25)).setRow w2.heap.size #[.int .i64 kd, .int .i64 0, .string ⟨#[]⟩, .slice ai ni ci, .slice ak nk ck]) := below_rowSet ((RowKit.Below.refl _ _).alloc (Nat.le_refl _) _) (Nat.le_refl _) _
  have lB : Lies ((w2.alloc (.cells valZ 25)).setRow w2.heap.size #[.int .i64 kd, .int .i64 0, .string ⟨#[]⟩, .slice ai ni ci, .slice ak nk ck]) w2.heap.size 25 #[.int .i64 kd, .int .i64 0, .string ⟨#[]⟩, .slice ai ni ci, .slice ak nk ck] := (Lies.new w2 _ _).row _
  obtain ⟨h3, ht3⟩ := h2.below hb3
  have lA3 := (lA.on hb2).on hb3
  have hAB : w.heap.size ≠ w2.heap.size := fun e => by have := (lA.on hb2).lt; omega
  have hgB : g ≠ w2.heap.size := fun e => by have := (h2.rd).lt; omega
  have hgA : g ≠ w.heap.size := by omega
  have hw3 := grown_of g ((hba.trans (hb2.mono hba.size)).trans (hb3.mono (Nat.le_trans hba.size hb2.size)))
  simp only [Act.put]
  generalize World.setRow _ _ _ = w3 at *
  generalize w2.heap.size = bB at *
  have d3 := rd_c3 h3.rd
  rw [hvo] at d3
  have f3 := h3.rd.frozen 3
  clear c3 r1 lA hb2 hb3 hba h1 h2 ht1 ht2 ht3
  generalize hbA : w.heap.size = bA at *
  go_region
  have hgr : w3.grownBy ((w3.setCell ⟨g, 3, none⟩ (.slice (some ⟨sb, 0, none⟩) ms.length cap)).drew) (some g) := grown_two (grown_set g (RowKit.Below.refl _ _) 3 _) (grown_of g (RowKit.Below.refl _ _).drew)
  have l4 := (rd_o h3.rd (.slice (some ⟨sb, 0, none⟩) ms.length cap)).drew
  replace lB := lB.only hgr (by intro e; injection e with e; exact hgB e.symm)
  replace lA3 := lA3.only hgr (by intro e; injection e with e; exact hgA e.symm)
  have hw4 := grown_two hw3 hgr
  clear d3 f3 hgr h3 hw3
  generalize World.drew _ = w4 at *
  go_wp2_with (first
    | ((with_reducible refine wpL_load bB 25 _ 5 rowVal rfl lB ?_ ?_); rfl)
    | ((with_reducible refine wpL_store bA 25 valZ #[.int .i64 kd, .int .i64 0, .string ⟨#[]⟩, .slice ai ni ci, .slice ak nk ck] 5 rowVal rfl rfl (valC_one _ _ _ _ _ _ _ _ _) lA3 ?_ ?_ ?_); rfl; rfl))
  have hw5 : w4.grownBy (w4.setRow bA #[.int .i64 kd, .int .i64 0, .string ⟨#[]⟩, .slice ai ni ci, .slice ak nk ck]) (some bA) := grown_row bA _
  obtain ⟨h6, _, hx6⟩ := h.pop (l4.rowFar hgA _) (grown_own hw4 hw5 (fun j hj => by injection hj with hj; omega)) hvo
  have ht6 := (h.drop.pop (l4.rowFar hgA _) (grown_own hw4 hw5 (fun j hj => by injection hj with hj; omega)) hvo).2.1
  refine bodyPost_ret (results_row Tryd.results70 rowVal rfl (lA3.row _) rfl) rfl ?_
  exact ⟨by rw [hcs], _, h6, ht6, hx6⟩
end Go.Proofs.YtnloimanklkigaaDoor.V
