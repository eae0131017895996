/- Two rows of texts that the call owns, side by side. -/
import Derived.Test.YtaliafeekadecaaDoorZRows
import Derived.Test.YtaliafeekadecaaDoorVHeld
import Derived.Maps.AppendAt
namespace Go.Proofs.YtaliafeekadecaaDoor.Z
open Go.RowKit Go.Sort
open V (Lies OwnL RowL)
set_option maxRecDepth 100000

theorem own_kept {w w' : World} {B : Nat} {e : TypeId} {k : Nat} {v : Value} {css : List (List Value)} {row : Option Nat} (h : OwnL w B e k v css) (hg : w.grownBy w' row) (hne : v.ownBlock ≠ row) : OwnL w' B e k v css := ⟨h.1, h.2.kept hg (.inr hne)⟩
theorem own_apart {w : World} {B g : Nat} {e : TypeId} {k : Nat} {v : Value} {css : List (List Value)} (h : OwnL w B e k v css) (hne : v.ownBlock ≠ some g) (i : Nat) (u : Value) : OwnL (w.setCell ⟨g, i, none⟩ u) B e k v css := by
  refine ⟨h.1, h.2.1, ?_⟩
  rcases h.2.2 with hv | ⟨b, cap, cur, hv, hB, hh, hr⟩
  · exact .inl hv
  · refine .inr ⟨b, cap, cur, hv, hB, (Below.heap_setCell _ _ _ _ (show b ≠ g from fun e => hne ?_)).trans hh, hr⟩
    rw [hv, ← e]
    rfl
theorem own_in {w : World} {B : Nat} {e : TypeId} {k : Nat} {v : Value} {css : List (List Value)} (h : OwnL w B e k v css) : v.ownBlock ≠ some w.heap.size := fun e => by
  have := (h.2.lt _ e).2
  omega
theorem sep_app {w : World} {B : Nat} {e : TypeId} {k : Nat} {u v v' : Value} {css : List (List Value)} (hu : OwnL w B e k u css) (hne : u.ownBlock ≠ v.ownBlock) (hat : v'.ownBlock = v.ownBlock ∨ v'.ownBlock = some w.heap.size) : u.ownBlock ≠ v'.ownBlock := by
  rcases hat with h | h
  · rw [h]; exact hne
  · rw [h]; exact own_in hu
section
variable {P : Program} {ops : Array Oper} {rest : List Oper} {a : Act} {w : World} {Q : Exit → Act → World → Prop} {t' : TypeId} {pos : String} {after : Array Edge}
/-- elements go behind a row that the call owns: and where it lies then -/
theorem wpL_appendAt {d : Option Tmp} {x y : Tmp} {ty : TypeId} (B : Nat) (e : TypeId) (i : TypeInfo) (z : Value) (k bytes : Nat) (ht : P.underlying ty = some (.slice e)) (hi : P.info? e = some i) (hz : i.zero = some z) (hsize : i.size = k) (hby : i.bytes = bytes) (hzs : z.cells.size = k) (hk : 0 < k)
    (v : Value) (css : List (List Value)) (hown : OwnL w B e k v css) (v' : Value) (css' : List (List Value)) (hrow : RowL w k v' css') (hu : ∀ u ∈ css'.flatten, u.oneCell' = true) (h63 : css.length + css'.length ≤ maxLen) (hbytes : (css.length + css'.length) * bytes ≤ 140737488355328) (hbase : B ≤ w.heap.size)
    (hs : a.eval (.tmp x) = v) (hx : a.eval (.tmp y) = v')
    (h : ∀ v'' w', OwnL w' B e k v'' (css ++ css') → w.grownBy w' v.ownBlock → (v''.ownBlock = v.ownBlock ∨ v''.ownBlock = some w.heap.size) → wpList P ops Q rest (a.put d v'') w') :
    wpList P ops Q (⟨d, .call { callee := .builtin .append, args := #[.tmp x, .tmp y], argTypes := #[ty, ty] }, t', pos, after, none⟩ :: rest) a w := by
  obtain ⟨h0, ho⟩ := hown
  obtain ⟨h0', av, cv, rfl, hc, hm, hn, hl⟩ := hrow
  have hall : ∀ cs ∈ css ++ css', cs.length = k := fun cs hcs => (List.mem_append.1 hcs).elim (h0 cs) (h0' cs)
  rcases Nat.eq_zero_or_pos css'.length with hz0 | hpos
  · obtain rfl := List.eq_nil_of_length_eq_zero hz0
    cases av with
    | none =>
      obtain rfl := hn rfl
      refine wpList_append_own_none (o := ⟨d, .call { callee := .builtin .append, args := #[.tmp x, .tmp y], argTypes := #[ty, ty] }, t', pos, after, none⟩) rfl _ _ ty rfl B e i k ht hi v css.length css.flatten hs ho hx (h v w ⟨hall, ?_⟩ (World.grownBy.refl w _) (.inl rfl))
      rw [List.append_nil]; exact ho
    | some ad =>
      refine wpList_append_own_at (o := ⟨d, .call { callee := .builtin .append, args := #[.tmp x, .tmp y], argTypes := #[ty, ty] }, t', pos, after, none⟩) w rfl _ _ ty rfl B e i z k bytes ht hi hz hsize hby hzs hk v css.length css.flatten hs ho ad 0 cv [] hx (by simp) (fun j u h => by simp at h) (fun u h => by cases h) (by simpa using h63) (by simpa using hbytes) hbase (fun v'' w' h1 h2 _ h4 => h v'' w' ⟨hall, ?_⟩ h2 h4)
      simpa using h1
  · obtain ⟨b, off, rfl, hx2⟩ := hl hpos
    refine wpList_append_own_at (o := ⟨d, .call { callee := .builtin .append, args := #[.tmp x, .tmp y], argTypes := #[ty, ty] }, t', pos, after, none⟩) w rfl _ _ ty rfl B e i z k bytes ht hi hz hsize hby hzs hk v css.length css.flatten hs ho ⟨b, off, none⟩ css'.length cv css'.flatten hx (V.flat_len h0') (fun j u hj => ?_) hu h63 hbytes hbase (fun v'' w' h1 h2 _ h4 => h v'' w' ⟨hall, ?_⟩ h2 h4)
    · rw [Addr.add_mid]
      exact V.flat_cells h0' hx2 j u hj
    · rw [List.length_append, List.flatten_append]; exact h1
end
section
variable {a : Act} {d : Option Tmp} {t' : TypeId} {pos : String} {after : Array Edge} {gd : Option (Nat × Bool)} {x : Operand}
theorem run_lenP (s : Option Addr) (n c : Nat) (hx : a.eval x = .slice s n c) (w : World) :
    (execOp a.eval ⟨d, .call { callee := .builtin .len, args := #[x], argTypes := #[22] }, t', pos, after, gd⟩).run Tryd.prog w = .ok (.value (.int .i64 (n : Int))) w := by
  have hr : (Builtin.len_ #[22] t' #[.slice s n c]).run Tryd.prog w = .ok (.int .i64 (n : Int)) w := by simp [go_sem]
  simp [execOp, resolve, invoke, builtin, hx, hr, Result.andThen]
theorem run_minP (n m r : Int) (hx : a.eval x = .int .i64 n) (hr0 : min n m = r) (w : World) :
    (execOp a.eval ⟨d, .call { callee := .builtin .min, args := #[x, .const (.int .i64 m)], argTypes := #[3, 3] }, t', pos, after, gd⟩).run Tryd.prog w = .ok (.value (.int .i64 r)) w := by
  have h2 : a.eval (.const (.int .i64 m)) = .int .i64 m := rfl
  have hr : (Builtin.min_ #[3, 3] t' #[.int .i64 n, .int .i64 m]).run Tryd.prog w = .ok (.int .i64 r) w := by rw [← hr0]; simp [go_sem]
  simp [execOp, resolve, invoke, builtin, hx, h2, hr, Result.andThen]
end
/-! ### what Any tells of a row, and of it and another behind it -/
theorem fIdx_app (q : ByteArray → Bool) (l2 : List ByteArray) : ∀ (l : List ByteArray) (j : Nat), fIdx q (l ++ l2) j = if fIdx q l j < 0 then fIdx q l2 (j + l.length) else fIdx q l j := by
  intro l
  induction l with
  | nil =>
    intro j
    rw [List.nil_append, fIdx, if_pos (by decide)]
    simp
  | cons y l ih =>
    intro j
    rw [List.cons_append, fIdx, fIdx]
    by_cases h : q y = true
    · rw [if_pos h, if_pos h, if_neg (by omega)]
    · rw [if_neg h, if_neg h, ih (j + 1), List.length_cons, show j + 1 + l.length = j + (l.length + 1) by omega]
theorem fIdx_hit (q : ByteArray → Bool) : ∀ (l : List ByteArray) (j : Nat), ¬ fIdx q l j < 0 → ∃ n x, fIdx q l j = ((j + n : Nat) : Int) ∧ l[n]? = some x ∧ q x = true := by
  intro l
  induction l with
  | nil => intro j h; exact absurd (show fIdx q [] j < 0 by rw [fIdx]; decide) h
  | cons y l ih =>
    intro j h
    rw [fIdx] at h ⊢
    by_cases hq : q y = true
    · rw [if_pos hq]
      exact ⟨0, y, by simp, rfl, hq⟩
    · rw [if_neg hq] at h ⊢
      obtain ⟨n, x, h1, h2, h3⟩ := ih (j + 1) h
      exact ⟨n + 1, x, by rw [h1]; congr 1; omega, by simpa using h2, h3⟩
theorem any_two (P : ByteArray) (L1 L2 : List ByteArray) :
    ((L2.all fun x => rightG true x.data.toList) = false → anyE P.data.toList (L1 ++ L2) = 1) ∧
    ((∃ n x, anyE P.data.toList L1 = 0 ∧ anyV P.data.toList L1 = ((n : Nat) : Int) ∧ L1[n]? = some x ∧ matchP x.data.toList P.data.toList = true ∧ ((L2.all fun x => rightG true x.data.toList) = true → anyE P.data.toList (L1 ++ L2) = 0 ∧ anyV P.data.toList (L1 ++ L2) = ((n : Nat) : Int))) ∨
     (anyE P.data.toList L1 = 1 ∧ anyE P.data.toList (L1 ++ L2) = 1) ∨
     (anyE P.data.toList L1 = 36 ∧ ((L2.all fun x => rightG true x.data.toList) = true → (anyE P.data.toList (L1 ++ L2) = 36 ∨ (anyE P.data.toList (L1 ++ L2) = 0 ∧ ((L1.length : Nat) : Int) ≤ anyV P.data.toList (L1 ++ L2)))))) := by
  have hok : anyOk P.data.toList (L1 ++ L2) = (anyOk P.data.toList L1 && L2.all fun x => rightG true x.data.toList) := by
    unfold anyOk
    rw [List.all_append, Bool.and_assoc]
  refine ⟨fun h => ?_, ?_⟩
  · unfold anyE
    rw [hok, h, Bool.and_false, if_neg (by simp)]
  cases h1 : anyOk P.data.toList L1 with
  | false =>
    refine .inr (.inl ⟨?_, ?_⟩)
    · unfold anyE
      rw [h1, if_neg (by simp)]
    · unfold anyE
      rw [hok, h1, Bool.false_and, if_neg (by simp)]
  | true =>
    by_cases hn : anyK P.data.toList L1 < 0
    · refine .inr (.inr ⟨?_, fun h2 => ?_⟩)
      · unfold anyE
        rw [h1, if_pos rfl, if_pos hn]
      · have hk : anyK P.data.toList (L1 ++ L2) = fIdx (fun m => matchG m.data.toList P.data.toList) L2 (0 + L1.length) := by
          unfold anyK at hn ⊢
          rw [fIdx_app, if_pos hn]
        unfold anyE anyV
        rw [hok, h1, h2, hk, Bool.true_and, if_pos rfl, if_pos rfl]
        rcases fIdx_lt (fun m => matchG m.data.toList P.data.toList) L2 (0 + L1.length) with h | h
        · left
          rw [h]
          rfl
        · right
          rw [if_neg (by omega), if_neg (by omega)]
          exact ⟨rfl, by omega⟩
    · left
      obtain ⟨n, x, hx1, hx2, hx3⟩ := fIdx_hit _ _ _ (show ¬ fIdx (fun m => matchG m.data.toList P.data.toList) L1 0 < 0 from hn)
      rw [Nat.zero_add] at hx1
      have hk1 : anyK P.data.toList L1 = (n : Int) := hx1
      refine ⟨n, x, ?_, ?_, hx2, ?_, fun h2 => ?_⟩
      · unfold anyE
        rw [h1, if_pos rfl, if_neg hn]
      · unfold anyV
        rw [h1, if_pos rfl, if_neg hn, hk1]
      · have h4 := (Bool.and_eq_true _ _).mp h1
        unfold matchP
        rw [h4.1, List.all_eq_true.1 h4.2 x (List.mem_of_getElem? hx2)]
        simpa using hx3
      · have hk : anyK P.data.toList (L1 ++ L2) = (n : Int) := by
          unfold anyK at hn ⊢
          rw [fIdx_app, if_neg hn]
          exact hx1
        unfold anyE anyV
        rw [hok, h1, h2, hk, Bool.true_and, if_pos rfl, if_pos rfl, if_neg (by omega), if_neg (by omega)]
        exact ⟨rfl, rfl⟩
end Go.Proofs.YtaliafeekadecaaDoor.Z
