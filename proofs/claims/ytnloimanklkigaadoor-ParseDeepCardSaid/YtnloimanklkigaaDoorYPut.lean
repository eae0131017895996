/- A thing put behind a row that the call owns: room is made by 'append', then the thing is stored there and the row's value where it stands. -/
import Derived.Test.YtnloimanklkigaaDoorYStack
import Derived.Test.YtnloimanklkigaaDoorYQuoted
import Derived.Laws.CopyRow
namespace Go.Proofs.YtnloimanklkigaaDoor.V
set_option maxRecDepth 100000
open Go.RowKit Go.Sort Go.Joins

abbrev zero5 : List Value := [.int .i64 0, .int .i64 0, .string ⟨#[]⟩, .slice none 0 0, .slice none 0 0]
theorem take_fill {α : Type} (cur : List α) (xs z cs : List α) (hz : cs.length = z.length) (h : cur.take (xs.length + z.length) = xs ++ z) : (cur.take xs.length ++ cs ++ cur.drop (xs.length + cs.length)).take (xs.length + z.length) = xs ++ cs := by
  have h1 : cur.take xs.length = xs := by
    have := congrArg (List.take xs.length) h
    rw [List.take_take, List.take_left, Nat.min_eq_left (by omega)] at this
    exact this
  rw [h1, ← hz, ← List.length_append, List.take_left]
/-- what an own row is when its last element's cells are others -/
theorem OwnL.fill {w : World} {B k : Nat} {e : TypeId} {v : Value} {css : List (List Value)} {z : List Value} (h : OwnL w B e k v (css ++ [z])) :
    ∃ b cap cur, v = .slice (some ⟨b, 0, none⟩) (css.length + 1) cap ∧ B ≤ b ∧ w.heap[b]? = some (.cells cur e (0, 0)) ∧ (css.length + 1) * k ≤ cur.size ∧ css.length + 1 ≤ cap ∧ cap ≤ maxLen ∧
      ∀ (w2 : World) (cs : List Value), cs.length = k → w2.heap[b]? = some (.cells (cur.toList.take (css.length * k) ++ cs ++ cur.toList.drop (css.length * k + cs.length)).toArray e (0, 0)) → OwnL w2 B e k v (css ++ [cs]) := by
  obtain ⟨h0, hl, h1⟩ := h
  rw [List.length_append, List.length_singleton] at hl h1
  have hz : z.length = k := h0 z (by simp)
  have hcl : css.flatten.length = css.length * k := flat_len (fun c hc => h0 c (by simp [hc]))
  rcases h1 with ⟨_, h⟩ | ⟨b, cap, cur, hv, hB, hh, hc, hm, hs, ht⟩
  · omega
  · have hle : (css.length + 1) * k ≤ cap * k := Nat.mul_le_mul_right k hc
    refine ⟨b, cap, cur, hv, hB, hh, by omega, hc, hm, fun w2 cs hk h2 => ⟨fun c hx => ?_, ?_, .inr ⟨b, cap, _, ?_, hB, h2, ?_, hm, ?_, ?_⟩⟩⟩
    · rcases List.mem_append.1 hx with hx | hx
      · exact h0 c (by simp [hx])
      · rw [List.mem_singleton.1 hx]; exact hk
    · rw [List.flatten_append, List.length_append, hcl]
      simp [hk, Nat.add_mul]
    · rw [hv]; simp
    · simpa using hc
    · have e1 : cur.toList.length = cap * k := by rw [Array.length_toList]; exact hs
      rw [Nat.add_mul, Nat.one_mul] at hle
      simp only [List.size_toArray, List.length_append, List.length_take, List.length_drop, e1, hk]
      omega
    · rw [List.length_append, List.length_singleton, List.flatten_append]
      have e2 : [z].flatten = z := by simp
      have e3 : [cs].flatten = cs := by simp
      rw [List.flatten_append, e2] at ht
      rw [e3]
      have := take_fill cur.toList css.flatten z cs (by rw [hk, hz]) (by rw [hcl, hz, ← ht, Nat.add_mul, Nat.one_mul])
      rw [hcl, hz] at this
      rw [Nat.add_mul, Nat.one_mul]
      exact this
section
variable {a : Act} {x y : Operand} {t' : TypeId} {pos : String} {after : Array Edge} {gd : Option (Nat × Bool)}
theorem run_stV {w : World} {b o : Nat} {cur : Array Value} {e : TypeId} (cs : List Value) (hh : w.heap[b]? = some (.cells cur e (0, 0))) (hk : cs.length = 5) (ho : o + 5 ≤ cur.size) (h1 : ∀ u ∈ cs, u.oneCell' = true) (hx : a.eval x = .pointer (some ⟨b, o, none⟩)) (hy : a.eval y = .agg cs.toArray) :
    (execOp a.eval ⟨none, .store 25 x y, t', pos, after, gd⟩).run Tryd.prog w = .ok .skip (w.setRow b (cur.toList.take o ++ cs ++ cur.toList.drop (o + cs.length)).toArray) := by
  have h2 := run_storeCells_at (P := Tryd.prog) b o e cs 0 cur w hh (by omega) h1
  rw [Nat.add_zero] at h2
  have h3 : (storeVar 25 ⟨b, o, none⟩ (.agg cs.toArray)).run Tryd.prog w = .ok () (w.setRow b (cur.toList.take o ++ cs ++ cur.toList.drop (o + cs.length)).toArray) := by
    have hi : (Tryd.prog.info? 25).map (·.size) = some 5 := rowVal.2
    cases hq : Tryd.prog.info? 25 with
    | none => rw [hq] at hi; cases hi
    | some i =>
      have hs : i.size = 5 := by rw [hq] at hi; simpa using hi
      simp [storeVar, sizeOf, typeInfo, hq, Value.cells, hs, hk, h2]
  unfold execOp
  simp only [hx, hy, Instr.storeAt, Instr.sureAddr, Sem.run_bind, Sem.run_pure, Result.andThen_ok, h3]
theorem run_stR {w : World} (p : Addr) (old : Value) (aa : Option Addr) (n c : Nat) (hc : w.cell? p = some old) (hz : w.frozen? p = false) (hx : a.eval x = .pointer (some p)) (hy : a.eval y = .slice aa n c) :
    (execOp a.eval ⟨none, .store 22 x y, t', pos, after, gd⟩).run Tryd.prog w = .ok .skip (w.setCell p (.slice aa n c)) := by
  unfold execOp
  simp only [hx, hy]
  simp [Instr.storeAt, go_sem, hc, hz]
end
/-- cs was put behind the row v, that is v'' now, and stands in cell i of block h -/
structure PutDone (e : TypeId) (k : Nat) (w wf : World) (B h i : Nat) (v v'' : Value) (css : List (List Value)) (cs : List Value) : Prop where
  own : OwnL wf B e k v'' (css ++ [cs])
  cell : ∀ cur t fr, w.heap[h]? = some (.cells cur t fr) → wf.heap[h]? = some (.cells (cur.setIfInBounds i v'') t fr)
  turn : Turn (h :: blks v) [] w wf
  loc : blks v'' = blks v ∨ ∃ b, blks v'' = [b] ∧ w.heap.size ≤ b
section
variable {w w7 : World} {B h i b : Nat} {v v'' : Value} {css : List (List Value)} {cs : List Value} {cur : Array Value} {t7 e : TypeId} {k : Nat} {fr7 : Nat × Nat} {new : Array Value}
theorem turn_grown (hg : w.grownBy w7 v.ownBlock) : Turn (blks v) [] w w7 := ⟨hg.os, hg.tape, hg.output, hg.size, fun k hk hx => hg.block k hk (fun e => hx (by unfold blks; rw [← e]; simp)), fun _ h => by cases h⟩
theorem setRow_size (w : World) (g : Nat) (cs : Array Value) : (w.setRow g cs).heap.size = w.heap.size := by simp [World.setRow]
/-- the thing is stored first -/
theorem put_first (hg : w.grownBy w7 v.ownBlock) (hv : blks v'' = [b]) (hloc : blks v'' = blks v ∨ ∃ b, blks v'' = [b] ∧ w.heap.size ≤ b) (hh : h < w.heap.size) (hhv : h ∉ blks v) (hhb : h ≠ b)
    (h7 : w7.heap[b]? = some (.cells cur t7 fr7)) (hO : ∀ w2 : World, w2.heap[b]? = some (.cells new t7 fr7) → OwnL w2 B e k v'' (css ++ [cs])) :
    PutDone e k w ((w7.setRow b new).setCell ⟨h, i, none⟩ v'') B h i v v'' css cs := by
  have e1 : ((w7.setRow b new).setCell ⟨h, i, none⟩ v'').heap[b]? = some (.cells new t7 fr7) := (heap_setCell_other _ ⟨h, i, none⟩ b _ (fun e => hhb e.symm)).trans (setRow_heap w7 b cur new t7 fr7 h7)
  refine ⟨hO _ e1, fun c t fr hc => ?_, ?_, hloc⟩
  · have h1 : w7.heap[h]? = some (.cells c t fr) := (hg.block h hh (fun e => hhv (by unfold blks; rw [← e]; simp))).trans hc
    have h2 : (w7.setRow b new).heap[h]? = some (.cells c t fr) := (setRow_other w7 b h new hhb).trans h1
    rw [setCell_eq_setRow _ h i c t fr v'' h2]
    exact setRow_heap _ h c _ t fr h2
  · refine ⟨hg.os, hg.tape, hg.output, ?_, fun k hk hx => ?_, fun _ h => by cases h⟩
    · have : ((w7.setRow b new).setCell ⟨h, i, none⟩ v'').heap.size = w7.heap.size := by rw [show ((w7.setRow b new).setCell ⟨h, i, none⟩ v'').heap.size = (w7.setRow b new).heap.size by simp, setRow_size]
      rw [this]; exact hg.size
    · have hk1 : k ≠ h := fun e => hx (by rw [e]; exact List.mem_cons_self ..)
      have hk2 : k ≠ b := fun e => by
        rcases hloc with hl | ⟨b', hl, hlt⟩
        · exact hx (List.mem_cons_of_mem _ (by rw [← hl, hv, e]; simp))
        · rw [hv] at hl; simp at hl; omega
      exact ((heap_setCell_other _ ⟨h, i, none⟩ k _ hk1).trans (setRow_other w7 b k new hk2)).trans ((turn_grown hg).block k hk (fun e => hx (List.mem_cons_of_mem _ e)))
/-- the row's value is stored first -/
theorem put_last (hg : w.grownBy w7 v.ownBlock) (hv : blks v'' = [b]) (hloc : blks v'' = blks v ∨ ∃ b, blks v'' = [b] ∧ w.heap.size ≤ b) (hh : h < w.heap.size) (hhv : h ∉ blks v) (hhb : h ≠ b)
    (h7 : w7.heap[b]? = some (.cells cur t7 fr7)) (hO : ∀ w2 : World, w2.heap[b]? = some (.cells new t7 fr7) → OwnL w2 B e k v'' (css ++ [cs])) :
    PutDone e k w ((w7.setCell ⟨h, i, none⟩ v'').setRow b new) B h i v v'' css cs := by
  have e0 : (w7.setCell ⟨h, i, none⟩ v'').heap[b]? = some (.cells cur t7 fr7) := (heap_setCell_other _ ⟨h, i, none⟩ b _ (fun e => hhb e.symm)).trans h7
  refine ⟨hO _ (setRow_heap _ b cur new t7 fr7 e0), fun c t fr hc => ?_, ?_, hloc⟩
  · have h1 : w7.heap[h]? = some (.cells c t fr) := (hg.block h hh (fun e => hhv (by unfold blks; rw [← e]; simp))).trans hc
    refine (setRow_other _ b h new hhb).trans ?_
    rw [setCell_eq_setRow _ h i c t fr v'' h1]
    exact setRow_heap _ h c _ t fr h1
  · refine ⟨hg.os, hg.tape, hg.output, ?_, fun k hk hx => ?_, fun _ h => by cases h⟩
    · rw [setRow_size, show (w7.setCell ⟨h, i, none⟩ v'').heap.size = w7.heap.size by simp]; exact hg.size
    · have hk1 : k ≠ h := fun e => hx (by rw [e]; exact List.mem_cons_self ..)
      have hk2 : k ≠ b := fun e => by
        rcases hloc with hl | ⟨b', hl, hlt⟩
        · exact hx (List.mem_cons_of_mem _ (by rw [← hl, hv, e]; simp))
        · rw [hv] at hl; simp at hl; omega
      exact ((setRow_other _ b k new hk2).trans (heap_setCell_other _ ⟨h, i, none⟩ k _ hk1)).trans ((turn_grown hg).block k hk (fun e => hx (List.mem_cons_of_mem _ e)))
end
/-- what was put is in the row already; the row's value is stored -/
theorem put_value {w w7 : World} {B h i k : Nat} {e : TypeId} {v v'' : Value} {css : List (List Value)} {cs : List Value} (hg : w.grownBy w7 v.ownBlock) (hloc : blks v'' = blks v ∨ ∃ b, blks v'' = [b] ∧ w.heap.size ≤ b) (hh : h < w.heap.size) (hhv : h ∉ blks v)
    (hO : OwnL w7 B e k v'' (css ++ [cs])) : PutDone e k w (w7.setCell ⟨h, i, none⟩ v'') B h i v v'' css cs := by
  have hhb : ∀ b ∈ blks v'', b ≠ h := by
    intro b hb e
    rcases hloc with hl | ⟨b', hl, hlt⟩
    · exact hhv (by rw [← e, ← hl]; exact hb)
    · rw [hl, List.mem_singleton] at hb; omega
  refine ⟨⟨hO.1, hO.2.1, ?_⟩, fun c t fr hc => ?_, ?_, hloc⟩
  · rcases hO.2.2 with hv | ⟨b, cap, cur, hv, hB, hx, hr⟩
    · exact .inl hv
    · exact .inr ⟨b, cap, cur, hv, hB, (heap_setCell_other _ ⟨h, i, none⟩ b _ (hhb b (by rw [hv]; simp [blks, Value.ownBlock]))).trans hx, hr⟩
  · have h1 : w7.heap[h]? = some (.cells c t fr) := (hg.block h hh (fun e => hhv (by unfold blks; rw [← e]; simp))).trans hc
    rw [setCell_eq_setRow _ h i c t fr v'' h1]
    exact setRow_heap _ h c _ t fr h1
  · refine ⟨hg.os, hg.tape, hg.output, ?_, fun k hk hx => ?_, fun _ h => by cases h⟩
    · rw [show (w7.setCell ⟨h, i, none⟩ v'').heap.size = w7.heap.size by simp]; exact hg.size
    · have hk1 : k ≠ h := fun e => hx (by rw [e]; exact List.mem_cons_self ..)
      exact (heap_setCell_other _ ⟨h, i, none⟩ k _ hk1).trans ((turn_grown hg).block k hk (fun e => hx (List.mem_cons_of_mem _ e)))
section
variable {ops : Array Oper} {rest : List Oper} {a : Act} {w : World} {Q : Exit → Act → World → Prop} {t' : TypeId} {pos : String} {after : Array Edge}
theorem zero_one : ∀ u ∈ zero5, u.oneCell' = true := by
  intro u hu
  simp only [List.mem_cons, List.not_mem_nil, or_false] at hu
  rcases hu with rfl | rfl | rfl | rfl | rfl <;> rfl
/-- room for a value behind a row that the call owns -/
theorem wpL_roomV {d : Option Tmp} {x y : Tmp} (B : Nat) (v : Value) (css : List (List Value)) (bn : Nat) (hown : OwnL w B 25 5 v css) (hzl : Lies w bn 25 zero5.toArray) (hn : css.length ≤ 100000) (hbase : B ≤ w.heap.size)
    (hs : a.eval (.tmp x) = v) (hx : a.eval (.tmp y) = .slice (some ⟨bn, 0, none⟩) 1 1)
    (h : ∀ g cap w', OwnL w' B 25 5 (.slice (some ⟨g, 0, none⟩) (css.length + 1) cap) (css ++ [zero5]) → w.grownBy w' v.ownBlock → (v.ownBlock = some g ∨ g = w.heap.size) → wpList Tryd.prog ops Q rest (a.put d (.slice (some ⟨g, 0, none⟩) (css.length + 1) cap)) w') :
    wpList Tryd.prog ops Q (⟨d, .call { callee := .builtin .append, args := #[.tmp x, .tmp y], argTypes := #[22, 22] }, t', pos, after, none⟩ :: rest) a w := by
  obtain ⟨i0, hi, hz0, hz1, hz2⟩ := info_parts infoV
  refine wpList_append_lies (o := ⟨d, .call { callee := .builtin .append, args := #[.tmp x, .tmp y], argTypes := #[22, 22] }, t', pos, after, none⟩) w rfl _ _ 22 rfl B 25 i0 _ 5 80 Tryd.underlying22 hi hz0 hz1 hz2 rfl (by decide) v css.length css.flatten hs hown.2 ⟨bn, 0, none⟩ 1 1 zero5 hx rfl (fun j u hj => ?_) zero_one (by decide) (by unfold maxLen; omega) (by omega) hbase w.heap.size rfl (fun g cap w' h1 h2 h3 _ => h g cap w' ⟨fun c hc => ?_, ?_⟩ h2 h3)
  · rw [Addr.add_mid, Nat.zero_add, hzl.cell]
    simpa using hj
  · rcases List.mem_append.1 hc with hc | hc
    · exact hown.1 c hc
    · rw [List.mem_singleton.1 hc]; rfl
  · rw [List.length_append, List.length_singleton, List.flatten_append]
    simpa using h1
theorem infoT : (Tryd.prog.info? 9).map (fun i => (i.zero, i.size, i.bytes)) = some (some (.string ⟨#[]⟩), 1, 16) := by kernel_rfl
/-- a text behind a row of texts that the call owns -/
theorem wpL_putS {d : Option Tmp} {x y : Tmp} (B : Nat) (v : Value) (css : List (List Value)) (u : Value) (bn : Nat) (hown : OwnL w B 9 1 v css) (hu : u.oneCell' = true) (hzl : Lies w bn 9 #[u]) (hn : css.length ≤ 100000) (hbase : B ≤ w.heap.size)
    (hs : a.eval (.tmp x) = v) (hx : a.eval (.tmp y) = .slice (some ⟨bn, 0, none⟩) 1 1)
    (h : ∀ g cap w', OwnL w' B 9 1 (.slice (some ⟨g, 0, none⟩) (css.length + 1) cap) (css ++ [[u]]) → w.grownBy w' v.ownBlock → (v.ownBlock = some g ∨ g = w.heap.size) → wpList Tryd.prog ops Q rest (a.put d (.slice (some ⟨g, 0, none⟩) (css.length + 1) cap)) w') :
    wpList Tryd.prog ops Q (⟨d, .call { callee := .builtin .append, args := #[.tmp x, .tmp y], argTypes := #[23, 23] }, t', pos, after, none⟩ :: rest) a w := by
  obtain ⟨i0, hi, hz0, hz1, hz2⟩ := info_parts infoT
  refine wpList_append_lies (o := ⟨d, .call { callee := .builtin .append, args := #[.tmp x, .tmp y], argTypes := #[23, 23] }, t', pos, after, none⟩) w rfl _ _ 23 rfl B 9 i0 _ 1 16 Tryd.underlying23 hi hz0 hz1 hz2 rfl (by decide) v css.length css.flatten hs hown.2 ⟨bn, 0, none⟩ 1 1 [u] hx rfl (fun j x hj => ?_) (fun x hx => by rw [List.mem_singleton.1 hx]; exact hu) (by decide) (by unfold maxLen; omega) (by omega) hbase w.heap.size rfl (fun g cap w' h1 h2 h3 _ => h g cap w' ⟨fun c hc => ?_, ?_⟩ h2 h3)
  · rw [Addr.add_mid, Nat.zero_add, hzl.cell]
    simpa using hj
  · rcases List.mem_append.1 hc with hc | hc
    · exact hown.1 c hc
    · rw [List.mem_singleton.1 hc]; rfl
  · rw [List.length_append, List.length_singleton, List.flatten_append]
    simpa using h1
end
end Go.Proofs.YtnloimanklkigaaDoor.V
