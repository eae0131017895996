/- What is open: an item put into it, a key, one more opened, the innermost one ended. -/
import Derived.Test.YtnloimanklkigaaDoorYPut
import Derived.Deep.Slices
namespace Go.Proofs.YtnloimanklkigaaDoor.V
set_option maxRecDepth 100000
open Go.RowKit Go.Sort Go.Joins

theorem OwnL.setAt {w w2 : World} {B k b j : Nat} {e : TypeId} {n cap : Nat} {css : List (List Value)} {z : List Value} {u : Value} (h : OwnL w B e k (.slice (some ⟨b, 0, none⟩) n cap) (css ++ [z]))
    (h2 : ∀ cur t fr, w.heap[b]? = some (.cells cur t fr) → w2.heap[b]? = some (.cells (cur.setIfInBounds (css.length * k + j) u) t fr)) : OwnL w2 B e k (.slice (some ⟨b, 0, none⟩) n cap) (css ++ [z.set j u]) := by
  obtain ⟨h0, hl, h1⟩ := h
  have hz : z.length = k := h0 z (by simp)
  have hcl : css.flatten.length = css.length * k := flat_len (fun c hc => h0 c (by simp [hc]))
  rcases h1 with ⟨h, _⟩ | ⟨b', cap', cur, hv, hB, hh, hc, hm, hs, ht⟩
  · cases h
  · injection hv with e1 e2 e3
    injection e1 with e1
    injection e1 with e1
    subst e1 e3
    have hh2 := h2 _ _ _ hh
    refine ⟨fun c hx => ?_, ?_, .inr ⟨b, cap, _, by simp [e2], hB, hh2, ?_, hm, by simpa using hs, ?_⟩⟩
    · rcases List.mem_append.1 hx with hx | hx
      · exact h0 c (by simp [hx])
      · rw [List.mem_singleton.1 hx, List.length_set]; exact hz
    · simp [hcl, hz, Nat.add_mul]
    · simpa using hc
    · rw [List.length_append, List.length_singleton] at ht ⊢
      rw [Array.toList_setIfInBounds, List.take_set, ht, List.flatten_append, List.flatten_append]
      have e4 : [z].flatten = z := by simp
      have e5 : [z.set j u].flatten = z.set j u := by simp
      rw [e4, e5, List.set_append_right _ _ (by omega)]
      congr 2
      omega
theorem OwnL.front {w : World} {B k b cap : Nat} {e : TypeId} {css : List (List Value)} {z : List Value} (h : OwnL w B e k (.slice (some ⟨b, 0, none⟩) (css.length + 1) cap) (css ++ [z])) : OwnL w B e k (.slice (some ⟨b, 0, none⟩) css.length cap) css := by
  obtain ⟨h0, hl, h1⟩ := h
  have hcl : css.flatten.length = css.length * k := flat_len (fun c hc => h0 c (by simp [hc]))
  rcases h1 with ⟨h, _⟩ | ⟨b', cap', cur, hv, hB, hh, hc, hm, hs, ht⟩
  · cases h
  · injection hv with e1 e2 e3
    injection e1 with e1
    injection e1 with e1
    subst e1 e3
    rw [List.length_append, List.length_singleton] at hc ht
    refine ⟨fun c hx => h0 c (by simp [hx]), hcl, .inr ⟨b, cap, cur, rfl, hB, hh, by omega, hm, hs, ?_⟩⟩
    have := congrArg (List.take (css.length * k)) ht
    rw [List.take_take, Nat.min_eq_left (by rw [Nat.add_mul]; omega), List.flatten_append, List.take_append_of_le_length (by omega), List.take_of_length_le (l := css.flatten) (by omega)] at this
    exact this
section
variable {w wf : World} {g B p n : Nat} {E : List Nat} {s : ByteArray} {vo : Value} {ms : List Fm} {m : Fm}
theorem St.sepE (h : St w g E B s p n vo ms) : ∀ b ∈ blks vo ++ ms.flatMap Fm.blks, b ∉ E := by
  intro b hb hx
  have hn : (E ++ (blks vo ++ ms.flatMap Fm.blks)).Nodup := (List.nodup_cons.1 h.nd).2
  exact (List.nodup_append.1 hn).2.2 b hx b hb rfl
theorem St.sep (h : St w g E B s p n vo ms) : ∀ m ∈ ms, ∀ b ∈ m.blks, b ∉ g :: blks vo := by
  intro m hm b hb hx
  have hn : ((g :: blks vo) ++ ms.flatMap Fm.blks).Nodup := h.nd'
  exact (List.nodup_append.1 hn).2.2 b hx b (List.mem_flatMap.2 ⟨m, hm, hb⟩) rfl
/-- the innermost one's own rows are apart from all others -/
theorem St.sepTop (h : St w g E B s p n vo (m :: ms)) : (∀ b ∈ blks m.vi, b ∉ g :: blks vo ∧ b ∉ blks m.vk) ∧ (∀ b ∈ blks m.vk, b ∉ g :: blks vo) ∧ ∀ m' ∈ ms, ∀ b ∈ m'.blks, b ∉ blks m.vi ∧ b ∉ blks m.vk := by
  have hn : ((g :: blks vo) ++ (m :: ms).flatMap Fm.blks).Nodup := h.nd'
  rw [List.flatMap_cons] at hn
  have h1 := (List.nodup_append.1 hn).2.1
  have h2 := List.nodup_append.1 h1
  have h3 : (blks m.vi ++ blks m.vk).Nodup := h2.1
  have h4 := List.nodup_append.1 h3
  refine ⟨fun b hb => ⟨h.sep m (by simp) b (List.mem_append_left _ hb), fun hx => h4.2.2 b hb b hx rfl⟩, fun b hb => h.sep m (by simp) b (List.mem_append_right _ hb), fun m' hm b hb => ⟨fun hx => ?_, fun hx => ?_⟩⟩
  · exact h2.2.2 b (List.mem_append_left _ hx) b (List.mem_flatMap.2 ⟨m', hm, hb⟩) rfl
  · exact h2.2.2 b (List.mem_append_right _ hx) b (List.mem_flatMap.2 ⟨m', hm, hb⟩) rfl
theorem St.push (h : St w g E B s p n vo ms) {v'' : Value} (map : Bool) (f : Nat) (hf : s.size - p ≤ f) (hms : ms.length < 12) (hp : PutDone 25 5 w wf B g 3 vo v'' (ms.map Fm.cells).reverse (Fm.mk ⟨map, [], [], f⟩ (.slice none 0 0) (.slice none 0 0)).cells) :
    St wf g E B s p n v'' (⟨⟨map, [], [], f⟩, .slice none 0 0, .slice none 0 0⟩ :: ms) ∧ Turn (live g E vo ms) (live g E v'' (⟨⟨map, [], [], f⟩, .slice none 0 0, .slice none 0 0⟩ :: ms)) w wf := by
  have hX : Turn (live g E vo ms) (live g E v'' (⟨⟨map, [], [], f⟩, .slice none 0 0, .slice none 0 0⟩ :: ms)) w wf := by
    refine hp.turn.wide (fun k hk => ?_) (fresh_put (A := g :: E) (C := ms.flatMap Fm.blks) hp.loc)
    rcases List.mem_cons.1 hk with rfl | hk
    · exact List.mem_cons_self ..
    · exact List.mem_cons_of_mem _ (List.mem_append_right _ (List.mem_append_left _ hk))
  have hCl : ∀ k ∈ ms.flatMap Fm.blks, k < w.heap.size := fun k hk => (h.tail_lt k (List.mem_append_right _ hk)).2
  refine ⟨⟨?_, h.gB, Nat.le_trans h.Bw hX.size, ⟨h.er.1.turn hX h.erX, h.er.2⟩, fun b hb => ⟨(h.hE b hb).1, Nat.lt_of_lt_of_le (h.hE b hb).2 hX.size⟩, ?_, ?_, fun m hm => ?_, h.hp, h.hs, ?_, h.hn, fun m hm => ?_⟩, hX⟩
  · exact hp.cell _ _ _ h.rd
  · rw [List.map_cons, List.reverse_cons]; exact hp.own
  · exact nodup_put (A := g :: E) (C := ms.flatMap Fm.blks) (N := w.heap.size) h.nd (fun k hk => by
      rcases List.mem_cons.1 hk with rfl | hk
      · exact Nat.lt_of_lt_of_le h.gB h.Bw
      · exact (h.hE k hk).2) hCl hp.loc
  · rcases List.mem_cons.1 hm with rfl | hm
    · exact ⟨⟨[], OwnL.nil _ _ _ _, rfl, fun i cs x h1 => by simp at h1⟩, OwnL.nil _ _ _ _, fun _ => rfl, Nat.zero_le _, Nat.zero_le _, fun k hk => by cases hk⟩
    · exact (h.fm m hm).turn hX hp.turn (h.sep m hm) (Nat.le_refl _)
  · rw [List.length_cons]; omega
  · rcases List.mem_cons.1 hm with rfl | hm
    · exact hf
    · exact h.hf m hm
/-- an item goes into the innermost one -/
theorem St.item (h : St w g E B s p n vo (m :: ms)) {ics : List (List Value)} (hi : ItemsX (live g E vo (m :: ms)) w ics m.fr.items) {cs : List Value} {x : VT} {d sb cap : Nat} {v'' : Value} (hx : IsVX (live g E vo (m :: ms)) w d cs x) (hvo : vo = .slice (some ⟨sb, 0, none⟩) (ms.length + 1) cap) (few : m.fr.items.length + 1 ≤ p)
    (hp : PutDone 25 5 w wf B sb (ms.length * 5 + 3) m.vi v'' ics cs) :
    St wf g E B s p n vo (⟨⟨m.fr.map, m.fr.items ++ [x], m.fr.keys, m.fr.f⟩, v'', m.vk⟩ :: ms) ∧ Turn (live g E vo (m :: ms)) (live g E vo (⟨⟨m.fr.map, m.fr.items ++ [x], m.fr.keys, m.fr.f⟩, v'', m.vk⟩ :: ms)) w wf := by
  have hbv : blks vo = [sb] := by rw [hvo]; rfl
  obtain ⟨s1, s2, s3⟩ := h.sepTop
  rw [hbv] at s1 s2
  have hX : Turn (live g E vo (m :: ms)) (live g E vo (⟨⟨m.fr.map, m.fr.items ++ [x], m.fr.keys, m.fr.f⟩, v'', m.vk⟩ :: ms)) w wf := by
    refine hp.turn.wide (fun k hk => ?_) (fun k hk => ?_)
    · rcases List.mem_cons.1 hk with rfl | hk
      · exact List.mem_cons_of_mem _ (List.mem_append_right _ (List.mem_append_left _ (by rw [hbv]; simp)))
      · exact List.mem_cons_of_mem _ (List.mem_append_right _ (List.mem_append_right _ (List.mem_flatMap.2 ⟨m, by simp, List.mem_append_left _ hk⟩)))
    · have := fresh_put (A := g :: (E ++ blks vo)) (C := blks m.vk ++ ms.flatMap Fm.blks) hp.loc k (by simpa [live, Fm.blks, List.append_assoc] using hk)
      simpa [live, Fm.blks, List.append_assoc] using this
  have hlt : ∀ k ∈ live g E vo (m :: ms), k < w.heap.size := fun k hk => (h.live_lt k hk).2
  have hmo := h.fm m (by simp)
  refine ⟨⟨?_, h.gB, Nat.le_trans h.Bw hX.size, ⟨h.er.1.turn hX h.erX, h.er.2⟩, fun b hb => ⟨(h.hE b hb).1, Nat.lt_of_lt_of_le (h.hE b hb).2 hX.size⟩, ?_, ?_, fun m' hm => ?_, h.hp, h.hs, h.hms, h.hn, fun m' hm => ?_⟩, hX⟩
  · refine hp.turn.lies (fun hk => ?_) h.rd
    rcases List.mem_cons.1 hk with e | hk
    · have := (h.own.blk_lt sb (by rw [hbv]; simp)).1
      have h2 := h.gB
      omega
    · exact (s1 g hk).1 (by simp)
  · have ho := h.own
    rw [List.map_cons, List.reverse_cons, hvo] at ho
    rw [List.map_cons, List.reverse_cons, hvo]
    refine ho.setAt (j := 3) (u := v'') (fun cur t fr hc => ?_)
    rw [List.length_reverse, List.length_map]
    exact hp.cell cur t fr hc
  · have := nodup_put (A := g :: (E ++ blks vo)) (Y' := blks v'') (C := blks m.vk ++ ms.flatMap Fm.blks) (N := w.heap.size) (by simpa [live, Fm.blks, List.append_assoc] using h.nd) (fun k hk => hlt k (by
      simp only [live, List.mem_cons, List.mem_append] at hk ⊢
      rcases hk with hk | hk | hk
      · exact .inl hk
      · exact .inr (.inl hk)
      · exact .inr (.inr (.inl hk)))) (fun k hk => hlt k (by
      simp only [live, Fm.blks, List.flatMap_cons, List.mem_cons, List.mem_append] at hk ⊢
      rcases hk with hk | hk
      · exact .inr (.inr (.inr (.inl (.inr hk))))
      · exact .inr (.inr (.inr (.inr hk))))) hp.loc
    simpa [live, Fm.blks, List.append_assoc] using this
  · rcases List.mem_cons.1 hm with rfl | hm
    · refine ⟨⟨_, hp.own, (hi.turn hX).snoc (hx.turn hX)⟩, hmo.keys.turn hp.turn (fun b hb hk => ?_), hmo.none, ?_, hmo.fewk, hmo.short⟩
      · rcases List.mem_cons.1 hk with e | hk
        · exact s2 b hb (by rw [e]; simp)
        · exact (s1 b hk).2 hb
      · rw [List.length_append, List.length_singleton]; exact few
    · refine (h.fm m' (by simp [hm])).turn hX hp.turn (fun b hb hk => ?_) (Nat.le_refl _)
      rcases List.mem_cons.1 hk with e | hk
      · exact h.sep m' (by simp [hm]) b hb (by rw [hbv, e]; simp)
      · exact (s3 m' hm b hb).1 hk
  · rcases List.mem_cons.1 hm with rfl | hm
    · exact h.hf m (by simp)
    · exact h.hf m' (by simp [hm])
/-- a key goes into the innermost one -/
theorem St.key (h : St w g E B s p n vo (m :: ms)) {key : List UInt8} {sb cap : Nat} {v'' : Value} (hk4 : key.length ≤ 4000) (hmap : m.fr.map = true) (hvo : vo = .slice (some ⟨sb, 0, none⟩) (ms.length + 1) cap) (few : m.fr.keys.length + 1 ≤ p)
    (hp : PutDone 9 1 w wf B sb (ms.length * 5 + 4) m.vk v'' (m.fr.keys.map fun k => [str k]) [str key]) :
    St wf g E B s p n vo (⟨⟨m.fr.map, m.fr.items, m.fr.keys ++ [key], m.fr.f⟩, m.vi, v''⟩ :: ms) ∧ Turn (live g E vo (m :: ms)) (live g E vo (⟨⟨m.fr.map, m.fr.items, m.fr.keys ++ [key], m.fr.f⟩, m.vi, v''⟩ :: ms)) w wf := by
  have hbv : blks vo = [sb] := by rw [hvo]; rfl
  obtain ⟨s1, s2, s3⟩ := h.sepTop
  rw [hbv] at s1 s2
  have hX : Turn (live g E vo (m :: ms)) (live g E vo (⟨⟨m.fr.map, m.fr.items, m.fr.keys ++ [key], m.fr.f⟩, m.vi, v''⟩ :: ms)) w wf := by
    refine hp.turn.wide (fun k hk => ?_) (fun k hk => ?_)
    · rcases List.mem_cons.1 hk with rfl | hk
      · exact List.mem_cons_of_mem _ (List.mem_append_right _ (List.mem_append_left _ (by rw [hbv]; simp)))
      · exact List.mem_cons_of_mem _ (List.mem_append_right _ (List.mem_append_right _ (List.mem_flatMap.2 ⟨m, by simp, List.mem_append_right _ hk⟩)))
    · have := fresh_put (A := g :: (E ++ (blks vo ++ blks m.vi))) (C := ms.flatMap Fm.blks) hp.loc k (by simpa [live, Fm.blks, List.append_assoc] using hk)
      simpa [live, Fm.blks, List.append_assoc] using this
  have hlt : ∀ k ∈ live g E vo (m :: ms), k < w.heap.size := fun k hk => (h.live_lt k hk).2
  have hmo := h.fm m (by simp)
  refine ⟨⟨?_, h.gB, Nat.le_trans h.Bw hX.size, ⟨h.er.1.turn hX h.erX, h.er.2⟩, fun b hb => ⟨(h.hE b hb).1, Nat.lt_of_lt_of_le (h.hE b hb).2 hX.size⟩, ?_, ?_, fun m' hm => ?_, h.hp, h.hs, h.hms, h.hn, fun m' hm => ?_⟩, hX⟩
  · refine hp.turn.lies (fun hk => ?_) h.rd
    rcases List.mem_cons.1 hk with e | hk
    · have := (h.own.blk_lt sb (by rw [hbv]; simp)).1
      have h2 := h.gB
      omega
    · exact s2 g hk (by simp)
  · have ho := h.own
    rw [List.map_cons, List.reverse_cons, hvo] at ho
    rw [List.map_cons, List.reverse_cons, hvo]
    refine ho.setAt (j := 4) (u := v'') (fun cur t fr hc => ?_)
    rw [List.length_reverse, List.length_map]
    exact hp.cell cur t fr hc
  · have := nodup_put (A := g :: (E ++ (blks vo ++ blks m.vi))) (Y' := blks v'') (C := ms.flatMap Fm.blks) (N := w.heap.size) (by simpa [live, Fm.blks, List.append_assoc] using h.nd) (fun k hk => hlt k (by
      simp only [live, Fm.blks, List.flatMap_cons, List.mem_cons, List.mem_append] at hk ⊢
      rcases hk with hk | hk | hk | hk
      · exact .inl hk
      · exact .inr (.inl hk)
      · exact .inr (.inr (.inl hk))
      · exact .inr (.inr (.inr (.inl (.inl hk)))))) (fun k hk => hlt k (by
      simp only [live, List.flatMap_cons, List.mem_cons, List.mem_append] at hk ⊢
      exact .inr (.inr (.inr (.inr hk))))) hp.loc
    simpa [live, Fm.blks, List.append_assoc] using this
  · rcases List.mem_cons.1 hm with rfl | hm
    · obtain ⟨ics, i1, i2⟩ := hmo.items
      refine ⟨⟨ics, i1.turn hp.turn (fun b hb hk => ?_), i2.turn hX⟩, ?_, fun e => ?_, hmo.few, ?_, fun k hk => ?_⟩
      · rcases List.mem_cons.1 hk with e | hk
        · exact (s1 b hb).1 (by rw [e]; simp)
        · exact (s1 b hb).2 hk
      · rw [List.map_append]; exact hp.own
      · rw [hmap] at e; cases e
      · rw [List.length_append, List.length_singleton]; exact few
      · rcases List.mem_append.1 hk with hk | hk
        · exact hmo.short k hk
        · rw [List.mem_singleton.1 hk]; exact hk4
    · refine (h.fm m' (by simp [hm])).turn hX hp.turn (fun b hb hk => ?_) (Nat.le_refl _)
      rcases List.mem_cons.1 hk with e | hk
      · exact h.sep m' (by simp [hm]) b hb (by rw [hbv, e]; simp)
      · exact (s3 m' hm b hb).2 hk
  · rcases List.mem_cons.1 hm with rfl | hm
    · exact h.hf m (by simp)
    · exact h.hf m' (by simp [hm])
theorem ItemsX.deep {X : List Nat} {w : World} {ics : List (List Value)} {l : List VT} (h : ItemsX X w ics l) : ∃ d, ∀ (i : Nat) (cs : List Value) (x : VT), ics[i]? = some cs → l[i]? = some x → IsVX X w d cs x := by
  obtain ⟨d, hd⟩ := Go.Deep.fuel_lt (n := l.length) (q := fun i d => ∀ (cs : List Value) (x : VT), ics[i]? = some cs → l[i]? = some x → IsVX X w d cs x) (fun i a b hab h cs x h1 h2 => (h cs x h1 h2).mono hab) (fun i hi => by
    have h1 : ics[i]? = some (ics[i]'(by rw [h.1]; exact hi)) := List.getElem?_eq_getElem _
    have h2 : l[i]? = some (l[i]) := List.getElem?_eq_getElem _
    obtain ⟨d, hd⟩ := h.2 i _ _ h1 h2
    refine ⟨d, fun cs x g1 g2 => ?_⟩
    rw [h1] at g1
    rw [h2] at g2
    cases g1
    cases g2
    exact hd)
  exact ⟨d, fun i cs x h1 h2 => hd i (List.getElem?_eq_some_iff.1 h2).1 cs x h1 h2⟩
theorem keys_flat : ∀ l : List (List UInt8), (l.map fun k => [str k]).flatten = l.map str := by
  intro l
  induction l with
  | nil => rfl
  | cons k l ih => simp [ih]
/-- the innermost one is a value, apart from what is open still -/
theorem FmOk.value {X X' : List Nat} (h : FmOk w B X p m) (hX : ∀ b, b ∈ X' → b ∈ X) (hi : ∀ b ∈ blks m.vi, b ∉ X') (hk : ∀ b ∈ blks m.vk, b ∉ X') : ∃ d, IsVX X' w d m.cells m.vt := by
  have hX' : Turn X X' w w := (Turn.refl X w).wide (fun k hk => hk) (fun k hk => .inl (hX k hk))
  obtain ⟨⟨ics, h1, h2⟩, h3, h4, h5, h6, h7⟩ := h
  obtain ⟨d, hd⟩ := (h2.turn hX').deep
  obtain ⟨r0, a, c, hv, hc, hm, hn, hl⟩ := h1.read
  refine ⟨d + 1, m.vi, m.vk, rfl, ⟨?_, (show (-9223372036854775808 : Int) ≤ 0 ∧ (0 : Int) ≤ 9223372036854775807 by decide), Nat.zero_le _, fun k hk => ?_⟩, ?_, ⟨a, c, ?_, ?_, hm, hn, fun hpos => ?_⟩, fun _ b hb => hk b ?_, fun _ b hb => hi b ?_⟩
  · show -9223372036854775808 ≤ m.fr.kind ∧ m.fr.kind ≤ _
    unfold Fr.kind
    cases m.fr.map <;> decide
  · have := h7 k hk
    unfold maxLen
    omega
  · have := h3.2
    rw [keys_flat] at this
    exact Strs.owned this
  · rw [hv, h2.1]; rfl
  · rw [h2.1] at hc; exact hc
  · have hpos : 0 < m.fr.items.length := hpos
    obtain ⟨b, off, ha, hx⟩ := hl (by rw [h2.1]; exact hpos)
    refine ⟨b, off, ha, fun i hi => ?_⟩
    have hi : i < m.fr.items.length := hi
    have g1 : ics[i]? = some (ics[i]'(by rw [h2.1]; exact hi)) := List.getElem?_eq_getElem _
    have g2 : m.fr.items[i]? = some (m.fr.items[i]) := List.getElem?_eq_getElem _
    exact ⟨_, r0 _ (List.mem_of_getElem? g1), hx i _ g1, _, g2, hd i _ _ g1 g2⟩
  · unfold blks; rw [hb]; simp
  · unfold blks; rw [hb]; simp
/-- the innermost one ends -/
theorem St.pop (h : St w g E B s p n vo (m :: ms)) {sb cap : Nat} (hl : Lies wf g 77 (rdC s p n (.slice (some ⟨sb, 0, none⟩) ms.length cap))) (hg : w.grownBy wf (some g)) (hvo : vo = .slice (some ⟨sb, 0, none⟩) (ms.length + 1) cap) :
    St wf g E B s p n (.slice (some ⟨sb, 0, none⟩) ms.length cap) ms ∧ Turn (live g E vo (m :: ms)) (live g E (.slice (some ⟨sb, 0, none⟩) ms.length cap) ms) w wf ∧ ∃ d, IsVX (live g E (.slice (some ⟨sb, 0, none⟩) ms.length cap) ms) wf d m.cells m.vt := by
  have hbv : blks vo = [sb] := by rw [hvo]; rfl
  have hY : Turn [g] [g] w wf := Turn.of_grown hg (List.mem_singleton.2 rfl)
  have hsub : ∀ k, k ∈ live g E (.slice (some ⟨sb, 0, none⟩) ms.length cap) ms → k ∈ live g E vo (m :: ms) := by
    intro k hk
    simp only [live, List.flatMap_cons, List.mem_cons, List.mem_append] at hk ⊢
    rcases hk with hk | hk | hk | hk
    · exact .inl hk
    · exact .inr (.inl hk)
    · exact .inr (.inr (.inl (by rw [hbv]; exact hk)))
    · exact .inr (.inr (.inr (.inr hk)))
  have hX : Turn (live g E vo (m :: ms)) (live g E (.slice (some ⟨sb, 0, none⟩) ms.length cap) ms) w wf := hY.wide (fun k hk => by rw [List.mem_singleton.1 hk]; exact List.mem_cons_self ..) (fun k hk => .inl (hsub k hk))
  have hgn : ∀ b ∈ blks vo ++ (m :: ms).flatMap Fm.blks, b ∉ [g] := fun b hb e => by
    have h1 := (h.tail_lt b hb).1
    have h2 := h.gB
    rw [List.mem_singleton] at e
    omega
  have hfl : ∀ m' ∈ m :: ms, ∀ b ∈ m'.blks, b ∈ blks vo ++ (m :: ms).flatMap Fm.blks := fun m' hm b hb => List.mem_append_right _ (List.mem_flatMap.2 ⟨m', hm, hb⟩)
  obtain ⟨s1, s2, s3⟩ := h.sepTop
  have hmo : FmOk wf B (live g E (.slice (some ⟨sb, 0, none⟩) ms.length cap) ms) p m := (h.fm m (by simp)).turn hX hY (fun b hb => hgn b (hfl m (by simp) b hb)) (Nat.le_refl _)
  refine ⟨⟨hl, h.gB, Nat.le_trans h.Bw hX.size, ⟨h.er.1.turn hX h.erX, h.er.2⟩, fun b hb => ⟨(h.hE b hb).1, Nat.lt_of_lt_of_le (h.hE b hb).2 hX.size⟩, ?_, ?_, fun m' hm => (h.fm m' (by simp [hm])).turn hX hY (fun b hb => hgn b (hfl m' (by simp [hm]) b hb)) (Nat.le_refl _), h.hp, h.hs, ?_, h.hn, fun m' hm => h.hf m' (by simp [hm])⟩, hX, ?_⟩
  · have ho := h.own
    rw [List.map_cons, List.reverse_cons, hvo] at ho
    have hl2 : ms.length = (ms.map Fm.cells).reverse.length := by simp
    rw [hl2] at ho ⊢
    exact ho.front.turn hY (fun b hb => hgn b (List.mem_append_left _ (by rw [hbv]; exact hb)))
  · refine h.nd.sublist ?_
    unfold live
    rw [hbv, List.flatMap_cons]
    exact ((List.Sublist.refl E).append ((List.Sublist.refl [sb]).append (List.sublist_append_right _ _))).cons_cons g
  · have := h.hms
    rw [List.length_cons] at this
    omega
  · refine hmo.value (fun b hb => hb) (fun b hb hx => ?_) (fun b hb hx => ?_)
    · simp only [live, List.mem_cons, List.mem_append] at hx
      rcases hx with hx | hx | hx | hx
      · exact (s1 b hb).1 (by rw [hx]; simp)
      · exact h.sepE b (List.mem_append_right _ (List.mem_flatMap.2 ⟨m, by simp, List.mem_append_left _ hb⟩)) hx
      · exact (s1 b hb).1 (by rw [hbv]; exact List.mem_cons_of_mem _ hx)
      · obtain ⟨m', hm, hb'⟩ := List.mem_flatMap.1 hx
        exact (s3 m' hm b hb').1 hb
    · simp only [live, List.mem_cons, List.mem_append] at hx
      rcases hx with hx | hx | hx | hx
      · exact s2 b hb (by rw [hx]; simp)
      · exact h.sepE b (List.mem_append_right _ (List.mem_flatMap.2 ⟨m, by simp, List.mem_append_right _ hb⟩)) hx
      · exact s2 b hb (by rw [hbv]; exact List.mem_cons_of_mem _ hx)
      · obtain ⟨m', hm, hb'⟩ := List.mem_flatMap.1 hx
        exact (s3 m' hm b hb').2 hb
end
end Go.Proofs.YtnloimanklkigaaDoor.V
