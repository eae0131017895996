/- An item put into the innermost list or map that is open. -/
import Derived.Test.YtnloimanklkigaaDoorYRow
namespace Go.Proofs.YtnloimanklkigaaDoor.V
set_option maxRecDepth 100000
open Go.RowKit Go.Sort Go.Joins

section
variable {w w' : World} {g B p n : Nat} {E : List Nat} {s : ByteArray} {vo : Value} {m : Fm} {ms : List Fm}
theorem dropT (w : World) (g : Nat) (E : List Nat) (vo : Value) (ms : List Fm) : Turn (live g E vo ms) (live g [] vo ms) w w := (Turn.refl _ w).wide (fun k hk => hk) (fun k hk => .inl (by
  simp only [live, List.mem_cons, List.mem_append, List.nil_append] at hk ⊢
  rcases hk with hk | hk
  · exact .inl hk
  · exact .inr (.inr hk)))
theorem St.less (h : St w g E B s p n vo (m :: ms)) (f : Nat) (hf : s.size - p ≤ f) : St w g E B s p n vo (⟨⟨m.fr.map, m.fr.items, m.fr.keys, f⟩, m.vi, m.vk⟩ :: ms) := by
  have hm := h.fm m (by simp)
  refine ⟨h.rd, h.gB, h.Bw, h.er, h.hE, h.own, h.nd, fun m' hm' => ?_, h.hp, h.hs, h.hms, h.hn, fun m' hm' => ?_⟩
  · rcases List.mem_cons.1 hm' with rfl | hm'
    · exact ⟨hm.items, hm.keys, hm.none, hm.few, hm.fewk, hm.short⟩
    · exact h.fm m' (by simp [hm'])
  · rcases List.mem_cons.1 hm' with rfl | hm'
    · exact hf
    · exact h.hf m' (by simp [hm'])
end
theorem after_list' (L : Nat) (fr : Fr) (x : VT) (n : Nat) (r : List UInt8) (hm : fr.map = false) (hk : fr.keys = []) (hf : 0 < fr.f) : fr.after L (.ok (x, n) (44 :: r)) = (Fr.mk fr.map (fr.items ++ [x]) fr.keys (fr.f - 1)).after L (rdV L n r) := by
  obtain ⟨mp, it, ks, f⟩ := fr
  obtain ⟨f, rfl⟩ : ∃ k, f = k + 1 := ⟨f - 1, by simp only at hf; omega⟩
  simp only at hm hk
  subst hm hk
  exact after_list L it f x n r
theorem after_map' (L : Nat) (fr : Fr) (x : VT) (n : Nat) (r : List UInt8) (hm : fr.map = true) (hf : 0 < fr.f) : fr.after L (.ok (x, n) (44 :: r)) = keyed L (fr.items ++ [x]) fr.keys (fr.f - 1) n (rdK fr.keys.getLast? r) := by
  obtain ⟨mp, it, ks, f⟩ := fr
  obtain ⟨f, rfl⟩ : ∃ k, f = k + 1 := ⟨f - 1, by simp only at hf; omega⟩
  simp only at hm
  subst hm
  exact after_map L it ks f x n r
def PutPost (w : World) (g : Nat) (E : List Nat) (B : Nat) (s : ByteArray) (p n : Nat) (vo : Value) (m : Fm) (ms : List Fm) (x : VT) (e : Ending) (w' : World) : Prop :=
  (∃ er, m.fr.after (11 - ms.length) (.ok (x, n) (rest s p)) = .bad er ∧ e = errP er ∧ RowKit.Below g w w') ∨
  (∃ cs t d q vo', m.fr.after (11 - ms.length) (.ok (x, n) (rest s p)) = .ok (t, n) (rest s q) ∧ e = .returned (.tuple #[.agg (List.toArray cs), .bool true]) ∧ p < q ∧ q ≤ s.size ∧ St w' g E B s q n vo' ms ∧ IsVX (live g E vo' ms) w' d cs t ∧ Turn (live g [] vo (m :: ms)) (live g [] vo' ms) w w') ∨
  (∃ m' q, m.fr.after (11 - ms.length) (.ok (x, n) (rest s p)) = m'.fr.after (11 - ms.length) (rdV (11 - ms.length) n (rest s q)) ∧ e = .returned (.tuple #[.agg valZ, .bool false]) ∧ p < q ∧ q ≤ s.size ∧ St w' g E B s q n vo (m' :: ms) ∧ Turn (live g [] vo (m :: ms)) (live g [] vo (m' :: ms)) w w')
set_option maxHeartbeats 12800000 in
theorem putIn_any (w : World) (g : Nat) (E : List Nat) (B : Nat) (s : ByteArray) (p n : Nat) (vo : Value) (m : Fm) (ms : List Fm) (h : St w g E B s p n vo (m :: ms)) (few : m.fr.items.length + 1 ≤ p) (d : Nat) (cs : List Value) (x : VT) (hx : IsVX (live g E vo (m :: ms)) w d cs x) :
    Calls Tryd.prog 53 #[.pointer (some ⟨g, 0, none⟩), .agg cs.toArray] w fun e w' => PutPost w g E B s p n vo m ms x e w' := by
  obtain ⟨sb, cap, hvo, hcap, hr, ⟨C, hC⟩, hne⟩ := below_top h
  have hms := h.hms
  rw [List.length_cons] at hms
  have hs := h.hs
  have hgw : g ≤ w.heap.size := Nat.le_of_lt h.rd.lt
  obtain ⟨ai, ci, ak, ck, hcs⟩ := hx.isV.form
  have hcs5 : cs.length = 5 := by rw [hcs]; rfl
  have hone : ∀ u ∈ cs, u.oneCell' = true := by
    rw [hcs]
    intro u hu
    simp only [List.mem_cons, List.not_mem_nil, or_false] at hu
    rcases hu with rfl | rfl | rfl | rfl | rfl <;> rfl
  -- the box, the variable
  have hb1 := (RowKit.Below.refl w.heap.size w).alloc (Nat.le_refl _) (.cells cs.toArray 25)
  have lX := Lies.new w 25 cs.toArray
  have h1 := (h.enter hb1 (Nat.le_refl _) lX.lt).1
  have T1 := (h.enter hb1 (Nat.le_refl _) lX.lt).2
  have t1 := (h.drop.below hb1).2
  rw [hcs] at h1 T1 t1 lX hb1 ⊢
  go_enter Tryd.func53, Tryd.ntmps53
  go_upto_region 1 with fail
  have hbs : w.heap.size + 1 = (w.alloc (.cells #[.int .i64 x.kind, .int .i64 x.num, .string ⟨x.txt.toArray⟩, .slice ai x.items.length ci, .slice ak x.keys.length ck] 25)).heap.size := by simp
  rw [hbs]
  generalize World.alloc w _ = w1 at *
  have hb2 := (RowKit.Below.refl w1.heap.size w1).alloc (Nat.le_refl _) (.cells valZ 25)
  have lV := Lies.new w1 25 valZ
  have h2 := (h1.enter hb2 (Nat.le_refl _) lV.lt).1
  have T2 := T1.trans (h1.enter hb2 (Nat.le_refl _) lV.lt).2
  have t2 := t1.trans (h1.drop.below hb2).2
  have lX2 := lX.on hb2
  generalize World.alloc w1 _ = w2 at *
  have hbv0 : w.heap.size ≤ w1.heap.size := hb1.size
  have hbxv0 : w.heap.size ≠ w1.heap.size := fun e => by have := lX.lt; omega
  obtain ⟨bv, hbv⟩ : ∃ b, w1.heap.size = b := ⟨_, rfl⟩
  rw [hbv] at h2 T2 lV hbxv0 hbv0 ⊢
  obtain ⟨bx, hbx⟩ : ∃ b, w.heap.size = b := ⟨_, rfl⟩
  rw [hbx] at h2 T2 lX2 hbxv0 hbv0 ⊢
  clear hb1 hb2 h1 T1 t1 lX hbs
  have c3 := rd_c3 h2.rd
  rw [hvo] at c3
  go_upto_region 2 with (go_at_call 66; refine (top_any _ g sb ms.length cap c3 (by omega)).mono ?_; rintro e w3 ⟨rfl, hb3⟩)
  have h3 := (h2.below hb3).1
  have T3 := T2.trans (h2.below hb3).2
  have t3 := t2.trans (h2.drop.below hb3).2
  have lV3 := lV.on hb3
  have lX3 := lX2.on hb3
  have hx3 := hx.turn T3
  obtain ⟨css, hO3, hi3⟩ := (h3.fm m (by simp)).items
  obtain ⟨a, c, hvi, hc1, _⟩ := hO3.form
  rw [hvi] at hO3
  obtain ⟨sb', cap', e3, _, hr3, ⟨C3, hL3⟩, _⟩ := below_top h3
  rw [hvo] at e3
  obtain ⟨rfl, rfl⟩ := slice_inj e3
  have hn : css.length ≤ 100000 := by rw [hi3.1]; have := h.hp; omega
  have hCi : C3[ms.length * 5 + 3]? = some (.slice a css.length c) := by
    have q := hr3 3 (.slice a css.length c) (by unfold Fm.cells; rw [hvi]; rfl)
    exact (hL3.cell _).symm.trans q
  rw [← hcs] at lX3
  have hXE : ∀ b ∈ blks vo ++ (m :: ms).flatMap Fm.blks, b ∉ bv :: bx :: E := h3.sepE
  have hviX : ∀ b ∈ blks (.slice a css.length c), b ∉ bv :: bx :: E := fun b hb => hXE b (List.mem_append_right _ (List.mem_flatMap.2 ⟨m, by simp, List.mem_append_left _ (by rw [hvi]; exact hb)⟩))
  have hbxv : bx ∉ blks (.slice a css.length c) := fun hb => hviX bx hb (by simp)
  have hsbX : sb ∉ bv :: bx :: E := hXE sb (List.mem_append_left _ (by rw [hvo]; simp [blks, Value.ownBlock]))
  have hbxh : bx ≠ sb := fun e => hsbX (by rw [← e]; simp)
  have hbvh : bv ≠ sb := fun e => hsbX (by rw [← e]; simp)
  have hhv : sb ∉ blks (.slice a css.length c) := fun hb => ((h3.sepTop).1 sb (by rw [hvi]; exact hb)).1 (List.mem_cons_of_mem _ (by rw [hvo]; simp [blks, Value.ownBlock]))
  have hbvn : bv ∉ sb :: blks (.slice a css.length c) := fun hb => by
    rcases List.mem_cons.1 hb with hb | hb
    · exact hbvh hb
    · exact hviX bv hb (by simp)
  go_cut [11] from 11 to 21 (fun _ wx => ∃ vi', St wx g (bv :: bx :: E) B s p n vo (⟨⟨m.fr.map, m.fr.items ++ [x], m.fr.keys, m.fr.f⟩, vi', m.vk⟩ :: ms) ∧ Turn (live g [] vo (m :: ms)) (live g [] vo (⟨⟨m.fr.map, m.fr.items ++ [x], m.fr.keys, m.fr.f⟩, vi', m.vk⟩ :: ms)) w wx ∧ Lies wx bv 25 valZ)
  case first =>
    rename_i J1 K1 hJ1 hK1
    refine wp_held_any (S := fun w => Lies w bx 25 cs.toArray) 13 rfl (by kernel_rfl) ?_
    have hdr : RowKit.Below w3.heap.size w3 { w3 with drawn := w3.drawn + 1 } := (RowKit.Below.refl _ _).drew
    have h4 := (h3.below hdr).1
    have t4 := t3.trans (h3.drop.below hdr).2
    have lV4 := lV3.on hdr
    have hS0 := lX3.on hdr
    have hL := hL3.on hdr
    have hO := hO3.on hdr
    have hBw := h4.Bw
    have hiX := hi3.turn (h3.below hdr).2
    have hxX := hx3.turn (h3.below hdr).2
    clear hdr
    generalize ({ w3 with drawn := w3.drawn + 1 } : World) = wd at *
    refine held_put 0 11 (.pointer (some ⟨sb, ms.length * 5, none⟩)) rfl rfl (by kernel_rfl) (by kernel_rfl) (by kernel_rfl) (by kernel_rfl) (fun w hS => rfl) hS0 ?_
    simp only [List.setIfInBounds_toArray, List.set_cons_succ, List.set_cons_zero]
    refine held_put 1 12 (.pointer (some ⟨sb, ms.length * 5, none⟩)) rfl rfl (by kernel_rfl) (by kernel_rfl) (by kernel_rfl) (by kernel_rfl) (fun w hS => rfl) hS0 ?_
    simp only [List.setIfInBounds_toArray, List.set_cons_succ, List.set_cons_zero]
    refine held_put 2 13 (.pointer (some ⟨sb, ms.length * 5 + 3, none⟩)) rfl rfl (by kernel_rfl) (by kernel_rfl) (by kernel_rfl) (by kernel_rfl) (fun w hS => rfl) hS0 ?_
    simp only [List.setIfInBounds_toArray, List.set_cons_succ, List.set_cons_zero]
    refine held_put 4 15 (.agg cs.toArray) rfl rfl (by kernel_rfl) (by kernel_rfl) (by kernel_rfl) (by kernel_rfl) (fun w hS => run_ldV bx _ _ (by simpa using hcs5) hS rfl) hS0 ?_
    simp only [List.setIfInBounds_toArray, List.set_cons_succ, List.set_cons_zero]
    have zA := Lies.new wd 25 #[.int .i64 0, .int .i64 0, .string ⟨#[]⟩, .slice none 0 0, .slice none 0 0]
    have zb : RowKit.Below wd.heap.size wd (wd.alloc (.cells #[.int .i64 0, .int .i64 0, .string ⟨#[]⟩, .slice none 0 0, .slice none 0 0] 25)) := (RowKit.Below.refl _ _).alloc (Nat.le_refl _) _
    refine held_two 3 6 (by kernel_rfl) (wpOp_put 14 (w' := wd) (v := (.slice a css.length c)) rfl rfl (by kernel_rfl) (run_ldR _ _ ((hL.cell (ms.length * 5 + 3)).trans hCi) rfl) ⟨hS0, ?_⟩) (wpOp_put 17 (w' := (wd.alloc (.cells #[.int .i64 0, .int .i64 0, .string ⟨#[]⟩, .slice none 0 0, .slice none 0 0] 25))) (v := .slice (some ⟨wd.heap.size, 0, none⟩) 1 1) rfl rfl (by kernel_rfl) (by kernel_rfl) ⟨hS0.alloc _, ?_⟩)
    focus
      simp only [List.setIfInBounds_toArray, List.set_cons_succ, List.set_cons_zero]
      refine held_put 5 16 (.int .i64 (css.length : Int)) rfl rfl (by kernel_rfl) (by kernel_rfl) (by kernel_rfl) (by kernel_rfl) (fun w hS => run_lenR _ _ _ rfl w) hS0 ?_
      simp only [List.setIfInBounds_toArray, List.set_cons_succ, List.set_cons_zero]
      refine held_one 6 (by kernel_rfl) (wpOp_put 17 (w' := (wd.alloc (.cells #[.int .i64 0, .int .i64 0, .string ⟨#[]⟩, .slice none 0 0, .slice none 0 0] 25))) (v := .slice (some ⟨wd.heap.size, 0, none⟩) 1 1) rfl rfl (by kernel_rfl) (by kernel_rfl) ⟨hS0.alloc _, ?_⟩)
      simp only [List.setIfInBounds_toArray, List.set_cons_succ, List.set_cons_zero]
    rotate_left
    focus
      simp only [List.setIfInBounds_toArray, List.set_cons_succ, List.set_cons_zero]
      refine held_one 3 (by kernel_rfl) (wpOp_put 14 (w' := (wd.alloc (.cells #[.int .i64 0, .int .i64 0, .string ⟨#[]⟩, .slice none 0 0, .slice none 0 0] 25))) (v := (.slice a css.length c)) rfl rfl (by kernel_rfl) (run_ldR _ _ (((hL.alloc _).cell (ms.length * 5 + 3)).trans hCi) rfl) ⟨hS0.alloc _, ?_⟩)
      simp only [List.setIfInBounds_toArray, List.set_cons_succ, List.set_cons_zero]
      refine held_put 5 16 (.int .i64 (css.length : Int)) rfl rfl (by kernel_rfl) (by kernel_rfl) (by kernel_rfl) (by kernel_rfl) (fun w hS => run_lenR _ _ _ rfl w) (hS0.alloc _) ?_
      simp only [List.setIfInBounds_toArray, List.set_cons_succ, List.set_cons_zero]
    all_goals
      have hSz := hS0.alloc (.cells #[.int .i64 0, .int .i64 0, .string ⟨#[]⟩, .slice none 0 0, .slice none 0 0] 25)
      have hOz := hO.on zb
      have hLz := hL.alloc (.cells #[.int .i64 0, .int .i64 0, .string ⟨#[]⟩, .slice none 0 0, .slice none 0 0] 25)
      have hBz : B ≤ (wd.alloc (.cells #[.int .i64 0, .int .i64 0, .string ⟨#[]⟩, .slice none 0 0, .slice none 0 0] 25)).heap.size := Nat.le_trans hBw zb.size
      have hgz := World.grownBy_alloc wd (.cells #[.int .i64 0, .int .i64 0, .string ⟨#[]⟩, .slice none 0 0, .slice none 0 0] 25) (Value.slice a css.length c).ownBlock
      generalize (wd.alloc (.cells #[.int .i64 0, .int .i64 0, .string ⟨#[]⟩, .slice none 0 0, .slice none 0 0] 25)) = wz at *
      refine held_one 7 (by kernel_rfl) (wpOp_lawD 18 rfl rfl (by kernel_rfl) (wpL_roomV B _ css wd.heap.size hOz zA hn hBz rfl rfl ?_))
      intro b cap w7 hown7 hgr7 hloc7
      have hloc := loc_of (n := css.length + 1) (cap := cap) hloc7 zb.size
      have hbb : bx ≠ b := loc_ne hloc hbxv hS0.lt
      have hhb : sb ≠ b := loc_ne hloc hhv hL.lt
      have hS7 := hSz.only hgr7 (own_ne hbxv)
      have hL7 := hLz.only hgr7 (own_ne hhv)
      have hg7 := grown_two hgz hgr7
      refine ⟨hS7, ?_⟩
      simp only [Act.put, List.setIfInBounds_toArray, List.set_cons_succ, List.set_cons_zero]
      refine held_put 8 19 (.pointer (some ⟨b, css.length * 5, none⟩)) rfl rfl (by kernel_rfl) (by kernel_rfl) (by kernel_rfl) (by kernel_rfl) (fun w hS => run_idxV b _ _ _ (by omega) rfl rfl) hS7 ?_
      simp only [List.setIfInBounds_toArray, List.set_cons_succ, List.set_cons_zero]
      refine held_put 10 20 (.pointer (some ⟨sb, ms.length * 5, none⟩)) rfl rfl (by kernel_rfl) (by kernel_rfl) (by kernel_rfl) (by kernel_rfl) (fun w hS => rfl) hS7 ?_
      simp only [List.setIfInBounds_toArray, List.set_cons_succ, List.set_cons_zero]
      refine held_put 11 21 (.pointer (some ⟨sb, ms.length * 5 + 3, none⟩)) rfl rfl (by kernel_rfl) (by kernel_rfl) (by kernel_rfl) (by kernel_rfl) (fun w hS => rfl) hS7 ?_
      simp only [List.setIfInBounds_toArray, List.set_cons_succ, List.set_cons_zero]
      obtain ⟨b2, cap2, cur, e2, hB2, hh7, hsz7, hcap7, _, hfill⟩ := hown7.fill
      obtain ⟨rfl, rfl⟩ := slice_inj e2
      refine held_two 9 12 (by kernel_rfl) (wpOp_skpN rfl rfl (by kernel_rfl) (run_stV cs (hh7) hcs5 (by omega) hone rfl rfl) ⟨hS7.rowFar hbb _, ?_⟩) (wpOp_skpN rfl rfl (by kernel_rfl) (run_stR _ _ _ _ _ ((hL7.cell (ms.length * 5 + 3)).trans hCi) (hL7.frozen (ms.length * 5 + 3)) rfl rfl) ⟨hS7.far hbxh _, ?_⟩)
      focus
        refine held_one 12 (by kernel_rfl) (wpOp_skpN rfl rfl (by kernel_rfl) (run_stR _ _ _ _ _ (((hL7.rowFar hhb _).cell (ms.length * 5 + 3)).trans hCi) ((hL7.rowFar hhb _).frozen (ms.length * 5 + 3)) rfl rfl) ⟨(hS7.rowFar hbb _).far hbxh _, ?_⟩)
        have PD := put_first (i := (ms.length * 5 + 3)) hg7 rfl hloc hL.lt hhv hhb hh7 (fun w2 h2 => hfill w2 cs hcs5 h2)
      rotate_left
      focus
        refine held_one 9 (by kernel_rfl) (wpOp_skpN rfl rfl (by kernel_rfl) (run_stV cs ((heap_setCell_other _ ⟨sb, (ms.length * 5 + 3), none⟩ _ _ (fun e => hhb e.symm)).trans hh7) hcs5 (by omega) hone rfl rfl) ⟨(hS7.far hbxh _).rowFar hbb _, ?_⟩)
        have PD := put_last (i := (ms.length * 5 + 3)) hg7 rfl hloc hL.lt hhv hhb hh7 (fun w2 h2 => hfill w2 cs hcs5 h2)
      all_goals
        refine held_done (by kernel_rfl) ?_
        simp only [Exit.then]
        refine hK1 _ _ (Met.intro (hJ1 _ _ ⟨_, _, _, _, _, _, _, _, _, _, _, ?_, rfl⟩))
        rw [← hvi] at PD
        have h5 := (h4.item hiX hxX hvo few PD).1
        have t5 := t4.trans (h4.drop.item (hiX.turn (dropT wd g _ vo (m :: ms))) (hxX.turn (dropT wd g _ vo (m :: ms))) hvo few PD).2
        have lV5 := PD.turn.lies (by rw [hvi]; exact hbvn) lV4
        exact ⟨_, h5, t5, lV5⟩
  obtain ⟨vi', h5, t5, lV5⟩ := hcut
  clear hcs T2 T3 h2 h3 lX2 lX3 lV lV3 hx3 hO3 hi3 hL3 hr3 hCi hXE hviX hbxv hsbX hhv hbvn t2 t3 hb3 c3
  have hpos : p < s.size → 0 < m.fr.f := fun hlt => by have := h.hf m (by simp); omega
  have hgb : g ≠ bv := fun e => h5.out (by rw [← e]; simp [live])
  have fin : ∀ (w6 : World) (vo' : Value) (ms' : List Fm) (q : Nat) (C6 cc : Array Value), St w6 g (bv :: bx :: E) B s q n vo' ms' → Turn (live g [] vo (m :: ms)) (live g [] vo' ms') w w6 → Lies w6 bv 25 C6 →
      St (w6.setRow bv cc) g E B s q n vo' ms' ∧ Turn (live g [] vo (m :: ms)) (live g [] vo' ms') w (w6.setRow bv cc) ∧ Turn (live g (bv :: bx :: E) vo' ms') (live g E vo' ms') w6 (w6.setRow bv cc) := by
    intro w6 vo' ms' q C6 cc h6 t6 _
    have h7 := h6.local (grown_row bv cc)
    have h8 := h7.1.leave
    have h9 := h8.1.leave
    exact ⟨h9.1, t6.local (grown_row bv cc) (by omega), (h7.2.trans h8.2).trans h9.2⟩
  by_cases hlt : p < s.size
  case neg =>
    obtain rfl : p = s.size := by have := h.hp; omega
    have HX := Lib.hid (show m.fr.after (11 - ms.length) (.ok (x, n) (rest s s.size)) = .bad 3 by rw [rest_none, after_end])
    go_wp2_with (go_at_call 67; refine (take_short _ g s n vo h5.rd).mono ?_; rintro e w6 ⟨rfl, hb6⟩)
    refine ⟨rfl, ?_⟩
    unfold PutPost
    exact .inl ⟨3, HX.out, rfl, (t5.below (fun k hk => (h.core_lt k hk).1) hgw).trans (hb6.mono (Nat.le_trans hgw t5.size))⟩
  obtain ⟨c0, hc0⟩ : ∃ c, s[p] = c := ⟨_, rfl⟩
  have hrc := rest_cons hlt
  rw [hc0] at hrc
  have HT := take_ok wc g s p n vo h5.rd hlt hs
  rw [hc0] at HT
  clear hc0
  by_cases h44 : c0 = 44
  · subst h44
    have HT : Calls Tryd.prog 67 #[.pointer (some ⟨g, 0, none⟩)] wc fun e w' => e = .returned (.int .u8 44) ∧ Lies w' g 77 (rdC s (p + 1) n vo) ∧ wc.grownBy w' (some g) := HT
    go_upto_region 5 with (go_at_call 67; refine HT.mono ?_; rintro e w6 ⟨rfl, hl6, hg6⟩)
    have h6 := (h5.seek hg6 hl6 (by omega) (by omega) h.hn).1
    have t6 := t5.trans (h5.drop.seek hg6 hl6 (by omega) (by omega) h.hn).2
    have lV6 := lV5.only hg6 (by intro e; injection e with e; exact hgb e.symm)
    have h6 := h6.less (m.fr.f - 1) (by have := h.hf m (by simp); omega)
    cases hmap : m.fr.map with
    | false =>
      have hkn := (h.fm m (by simp)).none hmap
      have HX := Lib.hid (show m.fr.after (11 - ms.length) (.ok (x, n) (rest s p)) = (Fr.mk m.fr.map (m.fr.items ++ [x]) m.fr.keys (m.fr.f - 1)).after (11 - ms.length) (rdV (11 - ms.length) n (rest s (p + 1))) by rw [hrc]; exact after_list' _ _ _ _ _ hmap hkn (hpos hlt))
      have HK := key_list w6 g (bv :: bx :: E) B s (p + 1) n vo _ ms h6 hmap
      clear hrc HT hkn
      go_wp2_with (first
        | (go_at_call 68; refine HK.mono ?_; rintro e w7 ⟨rfl, hb7⟩; have h7 := (h6.below hb7).1; have t7 := t6.trans (h6.drop.below hb7).2; have lV7 := lV6.on hb7)
        | ((with_reducible refine wpL_store bv 25 valZ valZ 5 rowVal rfl rfl (valC_one _ _ _ _ _ _ _ _ _) lV7 ?_ ?_ ?_); rfl; rfl))
      obtain ⟨h8, t8, _⟩ := fin _ _ _ _ _ valZ h7 t7 lV7
      refine bodyPost_ret (results_row_tmp Tryd.results53 rowVal rfl (lV7.row _) rfl rfl) rfl ?_
      unfold PutPost
      exact .inr (.inr ⟨_, p + 1, HX.out, rfl, by omega, by omega, h8, t8⟩)
    | true =>
      have HX := Lib.hid (show m.fr.after (11 - ms.length) (.ok (x, n) (rest s p)) = keyed (11 - ms.length) (m.fr.items ++ [x]) m.fr.keys (m.fr.f - 1) n (rdK m.fr.keys.getLast? (rest s (p + 1))) by rw [hrc]; exact after_map' _ _ _ _ _ hmap (hpos hlt))
      cases hR : rdK m.fr.keys.getLast? (rest s (p + 1)) with
      | bad er =>
        have HX := Lib.hid (HX.out.trans (by rw [hR]; rfl) : m.fr.after (11 - ms.length) (.ok (x, n) (rest s p)) = .bad er)
        have HK := key_bad h6 hmap (er := er) hR
        clear hrc HT hR
        go_wp2_with (go_at_call 68; refine HK.mono ?_; rintro e w7 ⟨rfl, hb7⟩)
        refine ⟨rfl, ?_⟩
        unfold PutPost
        exact .inl ⟨er, HX.out, rfl, (t6.below (fun k hk => (h.core_lt k hk).1) hgw).trans hb7⟩
      | ok k r =>
        have HK := key_good h6 hmap (k := k) (r := r) hR
        have HX := Lib.hid (HX.out.trans (by rw [hR]; rfl) : m.fr.after (11 - ms.length) (.ok (x, n) (rest s p)) = (Fr.mk true (m.fr.items ++ [x]) (m.fr.keys ++ [k]) (m.fr.f - 1)).after (11 - ms.length) (rdV (11 - ms.length) n r))
        clear hrc HT hR
        go_wp2_with (first
          | (go_at_call 68; refine HK.mono ?_; rintro e w7 ⟨rfl, q, vk, hrq, hpq, hq, h7, t7⟩; have lV7 := t7.lies h6.out lV6; replace t7 := t6.trans t7)
          | ((with_reducible refine wpL_store bv 25 valZ valZ 5 rowVal rfl rfl (valC_one _ _ _ _ _ _ _ _ _) lV7 ?_ ?_ ?_); rfl; rfl))
        obtain ⟨h8, t8, _⟩ := fin _ _ _ _ _ valZ h7 t7 lV7
        refine bodyPost_ret (results_row_tmp Tryd.results53 rowVal rfl (lV7.row _) rfl rfl) rfl ?_
        unfold PutPost
        exact .inr (.inr ⟨_, q, by rw [HX.out, hrq, hmap], rfl, by omega, hq, h8, t8⟩)
  · have e44 : ((c0.toNat : Int) == 44) = false := by rw [beq_eq_false_iff_ne]; exact byte_ne h44
    obtain ⟨kd, hkd⟩ : ∃ kd, m.fr.kind = kd := ⟨_, rfl⟩
    have HE : ∀ w, Calls Tryd.prog 69 #[.int .i64 kd] w fun e w' => e = .returned (.int .u8 ((endC m.fr.map).toNat : Int)) ∧ w' = w := by
      rw [← hkd]; exact endOf_any m.fr.map
    have hlast : m.fr.last = endC m.fr.map := rfl
    have hkr : ∀ w6 q (h6 : St w6 g (bv :: bx :: E) B s q n vo (⟨⟨m.fr.map, m.fr.items ++ [x], m.fr.keys, m.fr.f⟩, vi', m.vk⟩ :: ms)), w6.cell? ⟨sb, ms.length * 5, none⟩ = some (.int .i64 kd) := by
      intro w6 q h6
      obtain ⟨sb', cap', e3, _, hr6, _, _⟩ := below_top h6
      rw [hvo] at e3
      obtain ⟨rfl, rfl⟩ := slice_inj e3
      have q0 := hr6 0 (.int .i64 kd) (by unfold Fm.cells; rw [← hkd]; rfl)
      rwa [Nat.add_zero] at q0
    by_cases hl : c0 = endC m.fr.map
    · have HX := Lib.hid (show m.fr.after (11 - ms.length) (.ok (x, n) (rest s p)) = .ok (.mk m.fr.kind 0 [] (m.fr.items ++ [x]) m.fr.keys, n) (rest s (p + 1)) by rw [hrc, hl, ← hlast]; exact after_close _ _ _ _ _)
      have eL : ((c0.toNat : Int) == ((endC m.fr.map).toNat : Int)) = true := by rw [hl]; simp
      generalize ((endC m.fr.map).toNat : Int) = ec at *
      clear hrc hl hlast
      go_upto_region 7 with (go_at_call 67; refine HT.mono ?_; rintro e w6 ⟨rfl, hl6, hg6⟩; have h6 := (h5.seek hg6 hl6 (by omega) (by omega) h.hn).1; have t6 := t5.trans (h5.drop.seek hg6 hl6 (by omega) (by omega) h.hn).2; have lV6 := lV5.only hg6 (by intro e; injection e with e; exact hgb e.symm))
      have q6 := hkr _ _ h6
      have HPo := pop_any w6 g (bv :: bx :: E) B s (p + 1) n vo _ ms h6
      have hfm := h6.fm _ (List.mem_cons_self ..)
      obtain ⟨ics', hio', _⟩ := hfm.items
      obtain ⟨ai', ci', hvi', _⟩ := hio'.form
      obtain ⟨ak', ck', hvk', _⟩ := hfm.keys.form
      have hvi' : vi' = .slice ai' ics'.length ci' := hvi'
      have hcc : (Fm.mk ⟨m.fr.map, m.fr.items ++ [x], m.fr.keys, m.fr.f⟩ vi' m.vk).cells = [.int .i64 kd, .int .i64 0, .string ⟨#[]⟩, vi', m.vk] := by unfold Fm.cells; rw [← hkd]; rfl
      have hon : Ones (Fm.mk ⟨m.fr.map, m.fr.items ++ [x], m.fr.keys, m.fr.f⟩ vi' m.vk).cells.toArray := by
        rw [hcc, hvi', hvk']
        exact valC_one _ _ _ _ _ _ _ _ _
      have hc5 : (Fm.mk ⟨m.fr.map, m.fr.items ++ [x], m.fr.keys, m.fr.f⟩ vi' m.vk).cells.toArray.size = 5 := rfl
      generalize hcv : (Fm.mk ⟨m.fr.map, m.fr.items ++ [x], m.fr.keys, m.fr.f⟩ vi' m.vk).cells = cv at *
      clear hcc hio' hfm HT hkr hvi' hvk'
      go_wp2_with (first
        | (go_at_call 69; refine (HE _).mono ?_; rintro e w7 ⟨rfl, hw7⟩; subst hw7)
        | (go_at_call 70; refine HPo.mono ?_; rintro e w8 ⟨rfl, vo', h8, t8, d8, hx8⟩; have lV8 := t8.lies h6.out lV6; replace t8 := t6.trans t8)
        | ((with_reducible refine wpL_store bv 25 valZ cv.toArray 5 rowVal rfl hc5 hon lV8 ?_ ?_ ?_); rfl; rfl))
      obtain ⟨h9, t9, T9⟩ := fin _ _ _ _ _ cv.toArray h8 t8 lV8
      refine bodyPost_ret (results_row_tmp Tryd.results53 rowVal hc5 (lV8.row _) rfl rfl) rfl ?_
      unfold PutPost
      exact .inr (.inl ⟨cv, _, d8, p + 1, vo', HX.out, rfl, by omega, by omega, h9, hx8.turn T9, t9⟩)
    · have HX := Lib.hid (show m.fr.after (11 - ms.length) (.ok (x, n) (rest s p)) = .bad 20 by rw [hrc]; exact after_odd _ _ _ _ _ (by rw [hlast]; exact hl) h44)
      have eL : ((c0.toNat : Int) == ((endC m.fr.map).toNat : Int)) = false := by rw [beq_eq_false_iff_ne]; exact byte_ne hl
      generalize ((endC m.fr.map).toNat : Int) = ec at *
      clear hrc hl hlast
      go_upto_region 7 with (go_at_call 67; refine HT.mono ?_; rintro e w6 ⟨rfl, hl6, hg6⟩; have h6 := (h5.seek hg6 hl6 (by omega) (by omega) h.hn).1; have t6 := t5.trans (h5.drop.seek hg6 hl6 (by omega) (by omega) h.hn).2)
      have q6 := hkr _ _ h6
      clear HT hkr
      go_wp2_with (go_at_call 69; refine (HE _).mono ?_; rintro e w7 ⟨rfl, hw7⟩; subst hw7)
      refine ⟨rfl, ?_⟩
      unfold PutPost
      exact .inl ⟨20, HX.out, rfl, t6.below (fun k hk => (h.core_lt k hk).1) hgw⟩
end Go.Proofs.YtnloimanklkigaaDoor.V
