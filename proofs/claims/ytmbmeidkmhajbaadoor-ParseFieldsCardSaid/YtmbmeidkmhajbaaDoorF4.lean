/- Texts that stand on one another, put together: YSt, VHeld, YHere, YRun, YStack, YDigits. -/
import Derived.Test.YtmbmeidkmhajbaaDoorF3
import Derived.BigQuiet
import Derived.Deep.CutBlock
import Derived.Deep.CutRange
import Derived.Deep.QuietTactic
import Derived.Lib.Hide
import Derived.Lib.QuietBelow
import Derived.Maps.AppendAt
import Derived.OrdersHeld
/- The reader's memory: what is open on its stack, each row its own; and what stays of memory but for these. -/
namespace Go.Proofs.YtmbmeidkmhajbaaDoor.V
set_option maxRecDepth 100000
open Go.RowKit

/-- all stays but for the blocks of X; those of X' are of X, or new -/
structure Turn (X X' : List Nat) (w w' : World) : Prop where
  os : w'.os = w.os
  tape : w'.tape = w.tape
  output : w'.output = w.output
  size : w.heap.size ≤ w'.heap.size
  block : ∀ k, k < w.heap.size → k ∉ X → w'.heap[k]? = w.heap[k]?
  fresh : ∀ k, k ∈ X' → k ∈ X ∨ w.heap.size ≤ k
theorem Turn.refl (X : List Nat) (w : World) : Turn X X w w := ⟨rfl, rfl, rfl, Nat.le_refl _, fun _ _ _ => rfl, fun _ h => .inl h⟩
theorem Turn.trans {X X1 X2 : List Nat} {w w1 w2 : World} (h : Turn X X1 w w1) (k : Turn X1 X2 w1 w2) : Turn X X2 w w2 :=
  ⟨k.os.trans h.os, k.tape.trans h.tape, k.output.trans h.output, Nat.le_trans h.size k.size,
   fun j hj hx => (k.block j (Nat.lt_of_lt_of_le hj h.size) (fun h1 => (h.fresh j h1).elim hx (fun h2 => absurd hj (Nat.not_lt.2 h2)))).trans (h.block j hj hx),
   fun j hj => (k.fresh j hj).elim (h.fresh j) (fun h2 => .inr (Nat.le_trans h.size h2))⟩
theorem Turn.of_below {X : List Nat} {w w' : World} (h : Below w.heap.size w w') : Turn X X w w' := ⟨h.os, h.tape, h.output, h.size, fun k hk _ => h.block k hk, fun _ h => .inl h⟩
theorem Turn.of_grown {X : List Nat} {g : Nat} {w w' : World} (h : w.grownBy w' (some g)) (hg : g ∈ X) : Turn X X w w' := ⟨h.os, h.tape, h.output, h.size, fun k hk hx => h.block k hk (fun e => hx (by injection e with e; rw [e]; exact hg)), fun _ h => .inl h⟩
theorem Turn.below {X X' : List Nat} {B : Nat} {w w' : World} (h : Turn X X' w w') (hX : ∀ k ∈ X, B ≤ k) (hB : B ≤ w.heap.size) : Below B w w' := ⟨h.os, h.tape, h.output, h.size, fun k hk => h.block k (by omega) (fun hx => by have := hX k hx; omega)⟩
theorem Turn.wide {Y Y' X X' : List Nat} {w w' : World} (h : Turn Y Y' w w') (hY : ∀ k ∈ Y, k ∈ X) (hX : ∀ k, k ∈ X' → k ∈ X ∨ w.heap.size ≤ k) : Turn X X' w w' := ⟨h.os, h.tape, h.output, h.size, fun k hk hx => h.block k hk (fun h1 => hx (hY k h1)), hX⟩
theorem Turn.lies {X X' : List Nat} {w w' : World} {g : Nat} {t : TypeId} {cs : Array Value} (h : Turn X X' w w') (hg : g ∉ X) (hl : Lies w g t cs) : Lies w' g t cs := (h.block g hl.lt hg).trans hl
def blks (v : Value) : List Nat := v.ownBlock.toList
theorem mem_blks {v : Value} {b : Nat} (h : b ∈ blks v) : v.ownBlock = some b := by
  unfold blks at h
  cases hv : v.ownBlock with
  | none => rw [hv] at h; cases h
  | some c => rw [hv] at h; simp at h; rw [h]
theorem blks_some {v : Value} {b : Nat} (h : v.ownBlock = some b) : blks v = [b] := by unfold blks; rw [h]; rfl
theorem OwnL.turn {Y Y' : List Nat} {w w' : World} {B : Nat} {e : TypeId} {k : Nat} {v : Value} {css : List (List Value)} (h : OwnL w B e k v css) (ht : Turn Y Y' w w') (hY : ∀ b ∈ blks v, b ∉ Y) : OwnL w' B e k v css := by
  refine ⟨h.1, h.2.1, ?_⟩
  rcases h.2.2 with hv | ⟨b, cap, cur, hv, hB, hh, hr⟩
  · exact .inl hv
  · have hlt : b < w.heap.size := (Array.getElem?_eq_some_iff.1 hh).1
    exact .inr ⟨b, cap, cur, hv, hB, (ht.block b hlt (hY b (by rw [hv]; simp [blks, Value.ownBlock]))).trans hh, hr⟩
theorem OwnL.blk_lt {w : World} {B : Nat} {e : TypeId} {k : Nat} {v : Value} {css : List (List Value)} (h : OwnL w B e k v css) : ∀ b ∈ blks v, B ≤ b ∧ b < w.heap.size := fun b hb => h.2.lt b (mem_blks hb)

/-- the five cells cs are the value t, in none of the blocks of X -/
def IsVX (X : List Nat) (w : World) : Nat → List Value → VT → Prop
  | 0, _, _ => False
  | d + 1, cs, t => ∃ vi vk, cs = [.int .i64 t.kind, .int .i64 t.num, str t.txt, vi, vk] ∧ VFit t ∧ Strs w vk t.keys ∧ RowC w 5 vi t.items.length (fun i cs' => ∃ x, t.items[i]? = some x ∧ IsVX X w d cs' x) ∧ (0 < t.keys.length → ∀ b, vk.ownBlock = some b → b ∉ X) ∧ (0 < t.items.length → ∀ b, vi.ownBlock = some b → b ∉ X)
theorem IsVX.isV {X : List Nat} {w : World} : ∀ {d : Nat} {cs : List Value} {t : VT}, IsVX X w d cs t → IsV w d cs t := by
  intro d
  induction d with
  | zero => intro cs t h; exact h.elim
  | succ d ih =>
    intro cs t h
    obtain ⟨vi, vk, h1, h2, h3, h4, _, _⟩ := h
    exact ⟨vi, vk, h1, h2, h3, h4.mono fun i cs _ ⟨x, hx, hv⟩ => ⟨x, hx, ih hv⟩⟩
theorem IsVX.mono {X : List Nat} {w : World} : ∀ {d d' : Nat} {cs : List Value} {t : VT}, IsVX X w d cs t → d ≤ d' → IsVX X w d' cs t := by
  intro d
  induction d with
  | zero => intro d' cs t h; exact h.elim
  | succ d ih =>
    intro d' cs t h hd
    obtain ⟨e, rfl⟩ : ∃ e, d' = e + 1 := ⟨d' - 1, by omega⟩
    obtain ⟨vi, vk, h1, h2, h3, h4, h5, h6⟩ := h
    exact ⟨vi, vk, h1, h2, h3, h4.mono fun i cs _ ⟨x, hx, hv⟩ => ⟨x, hx, ih hv (by omega)⟩, h5, h6⟩
theorem range_turn {X X' : List Nat} {w w' : World} {b o : Nat} {cs : List Value} (ht : Turn X X' w w') (hb : b ∉ X) (h : w.rangeAt b o cs) : w'.rangeAt b o cs := fun j v hv => by
  have h4 := h j v hv
  exact (World.cell?_of_block (ht.block b (World.block_lt_of_cell? w _ h4) hb)).trans h4
theorem IsVX.turn {X X' : List Nat} {w w' : World} (ht : Turn X X' w w') : ∀ {d : Nat} {cs : List Value} {t : VT}, IsVX X w d cs t → IsVX X' w' d cs t := by
  intro d
  induction d with
  | zero => intro cs t h; exact h.elim
  | succ d ih =>
    intro cs t h
    obtain ⟨vi, vk, h1, h2, h3, h4, h5, h6⟩ := h
    obtain ⟨a, c, hv, hc, hm, hn, hl⟩ := h3
    obtain ⟨a', c', hv', hc', hm', hn', hl'⟩ := h4
    refine ⟨vi, vk, h1, h2, ⟨a, c, hv, hc, hm, hn, fun hne => ?_⟩, ⟨a', c', hv', hc', hm', hn', fun hpos => ?_⟩, fun hpos b hb hx => ?_, fun hpos b hb hx => ?_⟩
    · obtain ⟨b, off, ha, hx⟩ := hl hne
      refine ⟨b, off, ha, fun i x hi => ?_⟩
      have h7 := hx i x hi
      exact (World.cell?_of_block (ht.block b (World.block_lt_of_cell? w _ h7) (h5 (List.length_pos_iff.2 hne) b (by rw [hv, ha]; rfl)))).trans h7
    · obtain ⟨b, off, ha, hx⟩ := hl' hpos
      refine ⟨b, off, ha, fun i hi => ?_⟩
      obtain ⟨cs', g1, g2, x, g3, g4⟩ := hx i hi
      exact ⟨cs', g1, range_turn ht (h6 hpos b (by rw [hv', ha]; rfl)) g2, x, g3, ih g4⟩
    · rcases ht.fresh b hx with h | h
      · exact h5 hpos b hb h
      · obtain ⟨b2, off, ha, hy⟩ := hl (List.length_pos_iff.1 hpos)
        have e : b2 = b := by rw [hv, ha] at hb; simpa [Value.ownBlock] using hb
        have h7 := World.block_lt_of_cell? w _ (hy 0 _ (List.getElem?_eq_getElem hpos))
        simp only at h7
        omega
    · rcases ht.fresh b hx with h | h
      · exact h6 hpos b hb h
      · obtain ⟨b2, off, ha, hy⟩ := hl' hpos
        have e : b2 = b := by rw [hv', ha] at hb; simpa [Value.ownBlock] using hb
        obtain ⟨cs', g1, g2, _⟩ := hy 0 hpos
        have h7 := World.block_lt_of_cell? w _ (g2 0 _ (List.getElem?_eq_getElem (by omega)))
        simp only at h7
        omega

/-! ### what is open -/
structure Fm where
  fr : Fr
  vi : Value
  vk : Value
def Fm.cells (m : Fm) : List Value := [.int .i64 m.fr.kind, .int .i64 0, .string ⟨#[]⟩, m.vi, m.vk]
def Fm.blks (m : Fm) : List Nat := V.blks m.vi ++ V.blks m.vk
def Fm.vt (m : Fm) : VT := .mk m.fr.kind 0 [] m.fr.items m.fr.keys
/-- the reader's own block, those of variables that callers hold (E), the rows that what is open owns -/
def live (g : Nat) (E : List Nat) (vo : Value) (ms : List Fm) : List Nat := g :: (E ++ (blks vo ++ ms.flatMap Fm.blks))
def ItemsX (X : List Nat) (w : World) (ics : List (List Value)) (l : List VT) : Prop := ics.length = l.length ∧ ∀ (i : Nat) (cs : List Value) (x : VT), ics[i]? = some cs → l[i]? = some x → ∃ d, IsVX X w d cs x
theorem ItemsX.turn {X X' : List Nat} {w w' : World} {ics : List (List Value)} {l : List VT} (h : ItemsX X w ics l) (ht : Turn X X' w w') : ItemsX X' w' ics l := ⟨h.1, fun i cs x h1 h2 => let ⟨d, hd⟩ := h.2 i cs x h1 h2; ⟨d, hd.turn ht⟩⟩
theorem ItemsX.snoc {X : List Nat} {w : World} {ics : List (List Value)} {l : List VT} {cs : List Value} {x : VT} {d : Nat} (h : ItemsX X w ics l) (hx : IsVX X w d cs x) : ItemsX X w (ics ++ [cs]) (l ++ [x]) := by
  refine ⟨by simp [h.1], fun i c y h1 h2 => ?_⟩
  by_cases hi : i < l.length
  · rw [List.getElem?_append_left (by rw [h.1]; exact hi)] at h1
    rw [List.getElem?_append_left hi] at h2
    exact h.2 i c y h1 h2
  · have hlt := (List.getElem?_eq_some_iff.1 h2).1
    rw [List.length_append, List.length_singleton] at hlt
    obtain rfl : i = l.length := by omega
    rw [List.getElem?_concat_length] at h2
    rw [← h.1, List.getElem?_concat_length] at h1
    cases h1
    cases h2
    exact ⟨d, hx⟩
structure FmOk (w : World) (B : Nat) (X : List Nat) (at' : Nat) (m : Fm) : Prop where
  items : ∃ ics, OwnL w B 25 5 m.vi ics ∧ ItemsX X w ics m.fr.items
  keys : OwnL w B 9 1 m.vk (m.fr.keys.map fun k => [str k])
  none : m.fr.map = false → m.fr.keys = []
  few : m.fr.items.length ≤ at'
  fewk : m.fr.keys.length ≤ at'
  short : ∀ k ∈ m.fr.keys, k.length ≤ 4000
theorem FmOk.turn {w w' : World} {B : Nat} {X X' Y Y' : List Nat} {p p' : Nat} {m : Fm} (h : FmOk w B X p m) (hX : Turn X X' w w') (hY : Turn Y Y' w w') (hm : ∀ b ∈ m.blks, b ∉ Y) (hp : p ≤ p') : FmOk w' B X' p' m := by
  obtain ⟨⟨ics, h1, h2⟩, h3, h4, h5, h6, h7⟩ := h
  exact ⟨⟨ics, h1.turn hY (fun b hb => hm b (List.mem_append_left _ hb)), h2.turn hX⟩, h3.turn hY (fun b hb => hm b (List.mem_append_right _ hb)), h4, Nat.le_trans h5 hp, Nat.le_trans h6 hp, h7⟩
def rdC (s : ByteArray) (p n : Nat) (vo : Value) : Array Value := #[.string s, .int .i64 p, .int .i64 n, vo]
/-- the variable of a library's error is there -/
def ErrAt (w : World) : Prop := ∃ t fr tp p, w.heap[2]? = some (.cells #[.iface tp p] t fr)
theorem err_named : Tryd.prog.globalNamed "strconv.ErrRange" = some 2 := by kernel_rfl
theorem ErrAt.var {w : World} (h : ErrAt w) : ∃ tp p, w.var? Tryd.prog "strconv.ErrRange" = some #[.iface tp p] := by
  obtain ⟨t, fr, tp, p, h1⟩ := h
  refine ⟨tp, p, ?_⟩
  unfold World.var?
  rw [err_named]
  simp only [Option.bind_some, h1]
theorem ErrAt.of_var {w : World} {tp : TypeId} {p : Value} (h : w.var? Tryd.prog "strconv.ErrRange" = some #[.iface tp p]) : ErrAt w := by
  unfold World.var? at h
  rw [err_named] at h
  simp only [Option.bind_some] at h
  split at h
  · rename_i cs t fr hh
    simp only [Option.some.injEq] at h
    exact ⟨t, fr, tp, p, by rw [hh, h]⟩
  · cases h
theorem ErrAt.lt {w : World} (h : ErrAt w) : 2 < w.heap.size := by
  obtain ⟨t, fr, tp, p, h1⟩ := h
  exact (Array.getElem?_eq_some_iff.1 h1).1
structure St (w : World) (g : Nat) (E : List Nat) (B : Nat) (s : ByteArray) (p n : Nat) (vo : Value) (ms : List Fm) : Prop where
  rd : Lies w g 55 (rdC s p n vo)
  gB : g < B
  Bw : B ≤ w.heap.size
  er : ErrAt w ∧ 2 < g
  hE : ∀ b ∈ E, 2 < b ∧ b < w.heap.size
  own : OwnL w B 25 5 vo (ms.map Fm.cells).reverse
  nd : (live g E vo ms).Nodup
  fm : ∀ m ∈ ms, FmOk w B (live g E vo ms) p m
  hp : p ≤ s.size
  hs : s.size ≤ 65536
  hms : ms.length ≤ 12
  hn : n ≤ 2000
  hf : ∀ m ∈ ms, s.size - p ≤ m.fr.f
theorem FmOk.blk_lt {w : World} {B p : Nat} {X : List Nat} {m : Fm} (h : FmOk w B X p m) : ∀ b ∈ m.blks, B ≤ b ∧ b < w.heap.size := by
  obtain ⟨⟨ics, h1, _⟩, h3, _⟩ := h
  intro b hb
  rcases List.mem_append.1 hb with hb | hb
  · exact h1.blk_lt b hb
  · exact h3.blk_lt b hb
section
variable {w w' : World} {g B : Nat} {E : List Nat} {s : ByteArray} {p n : Nat} {vo : Value} {ms : List Fm}
theorem St.tail_lt (h : St w g E B s p n vo ms) : ∀ b ∈ blks vo ++ ms.flatMap Fm.blks, B ≤ b ∧ b < w.heap.size := by
  intro b hb
  rcases List.mem_append.1 hb with hb | hb
  · exact h.own.blk_lt b hb
  · obtain ⟨m, hm, hb⟩ := List.mem_flatMap.1 hb
    exact (h.fm m hm).blk_lt b hb
theorem St.live_lt (h : St w g E B s p n vo ms) : ∀ b ∈ live g E vo ms, 2 < b ∧ b < w.heap.size := by
  intro b hb
  have h3 := h.er.2
  rcases List.mem_cons.1 hb with rfl | hb
  · exact ⟨h3, Nat.lt_of_lt_of_le h.gB h.Bw⟩
  · rcases List.mem_append.1 hb with hb | hb
    · exact h.hE b hb
    · have := h.tail_lt b hb
      have h2 := h.gB
      omega
theorem St.core_lt (h : St w g E B s p n vo ms) : ∀ b ∈ live g [] vo ms, g ≤ b ∧ b < w.heap.size := by
  intro b hb
  rcases List.mem_cons.1 hb with rfl | hb
  · exact ⟨Nat.le_refl _, Nat.lt_of_lt_of_le h.gB h.Bw⟩
  · have := h.tail_lt b hb
    have h2 := h.gB
    omega
theorem ErrAt.turn {X X' : List Nat} (h : ErrAt w) (ht : Turn X X' w w') (hX : 2 ∉ X) : ErrAt w' := by
  have hlt := h.lt
  obtain ⟨t, fr, tp, p, h1⟩ := h
  exact ⟨t, fr, tp, p, (ht.block _ hlt hX).trans h1⟩
theorem ErrAt.below (h : ErrAt w) (hb : Below w.heap.size w w') : ErrAt w' := by
  have hlt := h.lt
  obtain ⟨t, fr, tp, p, h1⟩ := h
  exact ⟨t, fr, tp, p, (hb.block _ hlt).trans h1⟩
theorem ErrAt.grown (h : ErrAt w) (hb : w.grownBy w' (some g)) (hg : 2 < g) : ErrAt w' := by
  have hlt := h.lt
  obtain ⟨t, fr, tp, p, h1⟩ := h
  exact ⟨t, fr, tp, p, (hb.block _ hlt (by intro e; injection e; omega)).trans h1⟩
theorem St.erX (h : St w g E B s p n vo ms) : 2 ∉ live g E vo ms := fun hx => by
  have h1 := (h.live_lt _ hx).1
  omega
/-- the reader's own block alone has turned -/
theorem St.seek (h : St w g E B s p n vo ms) {p' n' : Nat} (ht : w.grownBy w' (some g)) (hl : Lies w' g 55 (rdC s p' n' vo)) (hp : p ≤ p') (hp' : p' ≤ s.size) (hn : n' ≤ 2000) : St w' g E B s p' n' vo ms ∧ Turn (live g E vo ms) (live g E vo ms) w w' := by
  have hX : Turn (live g E vo ms) (live g E vo ms) w w' := Turn.of_grown ht (List.mem_cons_self ..)
  have hY : Turn [g] [g] w w' := Turn.of_grown ht (List.mem_singleton.2 rfl)
  have hgn : ∀ b ∈ blks vo ++ ms.flatMap Fm.blks, b ∉ [g] := fun b hb e => by
    have h1 := (h.tail_lt b hb).1
    have h2 := h.gB
    rw [List.mem_singleton] at e
    omega
  exact ⟨⟨hl, h.gB, Nat.le_trans h.Bw ht.size, ⟨h.er.1.turn hX h.erX, h.er.2⟩, fun b hb => ⟨(h.hE b hb).1, Nat.lt_of_lt_of_le (h.hE b hb).2 ht.size⟩, h.own.turn hY (fun b hb => hgn b (List.mem_append_left _ hb)), h.nd,
    fun m hm => (h.fm m hm).turn hX hY (fun b hb => hgn b (List.mem_append_right _ (List.mem_flatMap.2 ⟨m, hm, hb⟩))) hp, hp', h.hs, h.hms, hn, fun m hm => by have := h.hf m hm; omega⟩, hX⟩
theorem St.below (h : St w g E B s p n vo ms) (hb : Below w.heap.size w w') : St w' g E B s p n vo ms ∧ Turn (live g E vo ms) (live g E vo ms) w w' :=
  h.seek ⟨hb.os, hb.tape, hb.output, hb.size, fun k hk _ => hb.block k hk⟩ (h.rd.on hb) (Nat.le_refl _) h.hp h.hn
theorem St.nd' (h : St w g E B s p n vo ms) : (g :: (blks vo ++ ms.flatMap Fm.blks)).Nodup := h.nd.sublist ((List.sublist_append_right E _).cons_cons g)
/-- a new variable of the caller's -/
theorem St.enter (h : St w g E B s p n vo ms) {b : Nat} (hb : RowKit.Below w.heap.size w w') (hbl : w.heap.size ≤ b) (hbr : b < w'.heap.size) : St w' g (b :: E) B s p n vo ms ∧ Turn (live g E vo ms) (live g (b :: E) vo ms) w w' := by
  obtain ⟨h1, ht⟩ := h.below hb
  have hX : Turn (live g E vo ms) (live g (b :: E) vo ms) w w' := ht.wide (fun k hk => hk) (fun k hk => by
    simp only [live, List.mem_cons, List.cons_append] at hk ⊢
    rcases hk with hk | hk | hk
    · exact .inl (.inl hk)
    · exact .inr (by omega)
    · exact .inl (.inr hk))
  have hno : b ∉ g :: (E ++ (blks vo ++ ms.flatMap Fm.blks)) := fun hx => by have := (h.live_lt b hx).2; omega
  have hX0 : Turn (live g E vo ms) (live g E vo ms) w w' := ht
  refine ⟨⟨h1.rd, h1.gB, h1.Bw, h1.er, fun c hc => ?_, h1.own, ?_, fun m hm => ?_, h1.hp, h1.hs, h1.hms, h1.hn, h1.hf⟩, hX⟩
  · rcases List.mem_cons.1 hc with rfl | hc
    · have := h.er.1.lt; exact ⟨by omega, hbr⟩
    · exact h1.hE c hc
  · have h2 : (b :: (g :: (E ++ (blks vo ++ ms.flatMap Fm.blks)))).Nodup := List.nodup_cons.2 ⟨hno, h.nd⟩
    exact (List.Perm.swap b g _).nodup_iff.2 h2
  · exact (h.fm m hm).turn hX (Turn.of_below (X := []) hb) (fun b hb => by simp) (Nat.le_refl _)
/-- .. is left behind -/
theorem St.leave {b : Nat} (h : St w g (b :: E) B s p n vo ms) : St w g E B s p n vo ms ∧ Turn (live g (b :: E) vo ms) (live g E vo ms) w w := by
  have hsub : ∀ k, k ∈ live g E vo ms → k ∈ live g (b :: E) vo ms := by
    intro k hk
    simp only [live, List.mem_cons, List.cons_append] at hk ⊢
    rcases hk with hk | hk
    · exact .inl hk
    · exact .inr (.inr hk)
  have hX : Turn (live g (b :: E) vo ms) (live g E vo ms) w w := (Turn.refl _ w).wide (fun k hk => hk) (fun k hk => .inl (hsub k hk))
  refine ⟨⟨h.rd, h.gB, h.Bw, h.er, fun c hc => h.hE c (by simp [hc]), h.own, ?_, fun m hm => (h.fm m hm).turn hX (Turn.refl [] w) (fun b hb => by simp) (Nat.le_refl _), h.hp, h.hs, h.hms, h.hn, h.hf⟩, hX⟩
  exact h.nd.sublist ((List.sublist_cons_self b _).cons_cons g)
/-- .. is written -/
theorem St.local {b : Nat} (h : St w g (b :: E) B s p n vo ms) (ht : w.grownBy w' (some b)) : St w' g (b :: E) B s p n vo ms ∧ Turn (live g (b :: E) vo ms) (live g (b :: E) vo ms) w w' := by
  have hX : Turn (live g (b :: E) vo ms) (live g (b :: E) vo ms) w w' := Turn.of_grown ht (by simp [live])
  have hY : Turn [b] [b] w w' := Turn.of_grown ht (List.mem_singleton.2 rfl)
  have hn : (g :: b :: (E ++ (blks vo ++ ms.flatMap Fm.blks))).Nodup := h.nd
  have h1 := List.nodup_cons.1 hn
  have h2 := List.nodup_cons.1 h1.2
  have hbn : ∀ c ∈ blks vo ++ ms.flatMap Fm.blks, c ∉ [b] := fun c hc e => by
    rw [List.mem_singleton] at e
    exact h2.1 (by rw [← e]; exact List.mem_append_right _ hc)
  have hgb : g ≠ b := fun e => h1.1 (by rw [e]; simp)
  exact ⟨⟨h.rd.only ht (by intro e; injection e with e; exact hgb e), h.gB, Nat.le_trans h.Bw ht.size, ⟨h.er.1.turn hX h.erX, h.er.2⟩, fun c hc => ⟨(h.hE c hc).1, Nat.lt_of_lt_of_le (h.hE c hc).2 ht.size⟩, h.own.turn hY (fun c hc => hbn c (List.mem_append_left _ hc)), h.nd,
    fun m hm => (h.fm m hm).turn hX hY (fun c hc => hbn c (List.mem_append_right _ (List.mem_flatMap.2 ⟨m, hm, hc⟩))) (Nat.le_refl _), h.hp, h.hs, h.hms, h.hn, h.hf⟩, hX⟩
/-- without what callers hold -/
theorem St.drop (h : St w g E B s p n vo ms) : St w g [] B s p n vo ms := by
  have hsub : ∀ k, k ∈ live g [] vo ms → k ∈ live g E vo ms := by
    intro k hk
    simp only [live, List.mem_cons, List.mem_append, List.nil_append] at hk ⊢
    rcases hk with hk | hk
    · exact .inl hk
    · exact .inr (.inr hk)
  have hX : Turn (live g E vo ms) (live g [] vo ms) w w := (Turn.refl _ w).wide (fun k hk => hk) (fun k hk => .inl (hsub k hk))
  exact ⟨h.rd, h.gB, h.Bw, h.er, fun c hc => (by cases hc), h.own, h.nd', fun m hm => (h.fm m hm).turn hX (Turn.refl [] w) (fun b hb => by simp) (Nat.le_refl _), h.hp, h.hs, h.hms, h.hn, h.hf⟩
/-- a new block is written -/
theorem Turn.local {C C' : List Nat} {wk : World} {b : Nat} (h : Turn C C' w wk) (hk : wk.grownBy w' (some b)) (hb : w.heap.size ≤ b) : Turn C C' w w' :=
  ⟨hk.os.trans h.os, hk.tape.trans h.tape, hk.output.trans h.output, Nat.le_trans h.size hk.size, fun k hlt hx => (hk.block k (Nat.lt_of_lt_of_le hlt h.size) (by intro e; injection e; omega)).trans (h.block k hlt hx), h.fresh⟩
theorem St.out {b : Nat} (h : St w g (b :: E) B s p n vo ms) : b ∉ live g [] vo ms := by
  have hn : (g :: b :: (E ++ (blks vo ++ ms.flatMap Fm.blks))).Nodup := h.nd
  have h1 := List.nodup_cons.1 hn
  have h2 := List.nodup_cons.1 h1.2
  intro hx
  simp only [live, List.mem_cons, List.nil_append] at hx
  rcases hx with hx | hx
  · exact h1.1 (by rw [hx]; simp)
  · exact h2.1 (List.mem_append_right _ hx)
theorem Turn.out {X X' : List Nat} {b : Nat} (h : Turn X X' w w') (hb : b ∉ X) (hlt : b < w.heap.size) : b ∉ X' := fun hx => (h.fresh b hx).elim hb (fun h2 => by omega)
end
theorem nodup_put {A Y Y' C : List Nat} {N : Nat} (h : (A ++ (Y ++ C)).Nodup) (hA : ∀ k ∈ A, k < N) (hC : ∀ k ∈ C, k < N) (hY : Y' = Y ∨ ∃ b, Y' = [b] ∧ N ≤ b) : (A ++ (Y' ++ C)).Nodup := by
  rcases hY with rfl | ⟨b, rfl, hb⟩
  · exact h
  · have h1 : (A ++ C).Nodup := h.sublist ((List.Sublist.refl A).append (List.sublist_append_right Y C))
    refine (List.perm_middle (a := b) (l₁ := A) (l₂ := C)).nodup_iff.2 (List.nodup_cons.2 ⟨fun hx => ?_, h1⟩)
    rcases List.mem_append.1 hx with hx | hx
    · have := hA b hx; omega
    · have := hC b hx; omega
theorem fresh_put {A Y Y' C : List Nat} {N : Nat} (hY : Y' = Y ∨ ∃ b, Y' = [b] ∧ N ≤ b) : ∀ k, k ∈ A ++ (Y' ++ C) → k ∈ A ++ (Y ++ C) ∨ N ≤ k := by
  intro k hk
  rcases hY with rfl | ⟨b, rfl, hb⟩
  · exact .inl hk
  · rcases List.mem_append.1 hk with hk | hk
    · exact .inl (List.mem_append_left _ hk)
    · rcases List.mem_append.1 hk with hk | hk
      · rw [List.mem_singleton] at hk; rw [hk]; exact .inr hb
      · exact .inl (List.mem_append_right _ (List.mem_append_right _ hk))
end Go.Proofs.YtmbmeidkmhajbaaDoor.V

/- Operations of a region that draws its order, taken one by one. Nothing of the program is named here. -/
namespace Go.Proofs.YtmbmeidkmhajbaaDoor.V
open Go.Sort Go.RowKit
def Still (Q : Exit → Act → World → Prop) : Exit → Act → World → Prop
  | .panic _, _, _ => False
  | e, a, w => Q e a w
theorem calm_panic {K : Act → World → Prop} {Q : Exit → Act → World → Prop} : ∀ c d v (a : Act) (w : World), Exit.then K (Still Q) (.panic c) (a.put d v) w → Exit.then K (Still Q) (.panic c) a w := fun _ _ _ _ _ h => (h : False).elim

/-! ### operations of a region that draws its order, taken one by one -/
section
variable {P : Program} {md : Region.Mode} {ops : Array Oper} {Q : Exit → Act → World → Prop} {S : World → Prop} {a : Act} {w w' : World}
theorem wpOp_val {i : Nat} {o : Oper} {v : Value} {K : Act → World → Prop} (hi : ops[i]? = some o) (hw : Region.wanted o (yielded ops a.tmps) = true) (hr : (execOp a.eval o).run P w = .ok (.value v) w') (h : K (a.put o.dst v) w') : wpOp P ops Q i K a w := by
  unfold Go.wpOp
  simp only [hi]
  simp only [hw, if_true, Oper.wp, hr, Oper.upon]
  exact .inl h
theorem wpOp_skp {i : Nat} {o : Oper} {K : Act → World → Prop} (hi : ops[i]? = some o) (hw : Region.wanted o (yielded ops a.tmps) = true) (hr : (execOp a.eval o).run P w = .ok .skip w') (h : K (a.put o.dst undef) w') : wpOp P ops Q i K a w := by
  unfold Go.wpOp
  simp only [hi]
  simp only [hw, if_true, Oper.wp, hr, Oper.upon]
  exact .inl h
theorem held_done {K : Act → World → Prop} {Q : Exit → Act → World → Prop} {listed : Array Bool} {fuel : Nat} (hr : Region.ready md ops listed = []) (h : Exit.then K Q .normal a w) : wpAnyH P md ops (Exit.then K (Still Q)) S fuel listed a w := wpAnyH_done hr (show Exit.then K (Still Q) .normal a w from h) fuel
theorem held_take {K : Act → World → Prop} {Q : Exit → Act → World → Prop} {fuel : Nat} {listed : Array Bool} (i : Nat) (v : Value) {oi : Oper} (hi : ops[i]? = some oi) (hs : Region.noSelect ops = true) (hf : Region.free md ops listed i = true) (hr : (Region.ready md ops listed).contains i = true)
    (hw : Region.wanted oi (yielded ops a.tmps) = true) (hy : ∀ w, S w → (execOp a.eval oi).run P w = .ok (.value v) w) (hS : S w) (h : wpAnyH P md ops (Exit.then K (Still Q)) S fuel (listed.setIfInBounds i true) (a.put oi.dst v) w) : wpAnyH P md ops (Exit.then K (Still Q)) S (fuel + 1) listed a w :=
  wpAnyH_take hi hs hf hr (fun c a w h => calm_panic c _ _ a w h) (.inl ⟨hw, hy⟩) hS h
/-- .. with the slot said -/
theorem held_put {K : Act → World → Prop} {Q : Exit → Act → World → Prop} {fuel : Nat} {listed : Array Bool} (i : Nat) (d : Tmp) (v : Value) {oi : Oper} (hi : ops[i]? = some oi) (hd : oi.dst = some d) (hs : Region.noSelect ops = true) (hf : Region.free md ops listed i = true) (hr : (Region.ready md ops listed).contains i = true)
    (hw : Region.wanted oi (yielded ops a.tmps) = true) (hy : ∀ w, S w → (execOp a.eval oi).run P w = .ok (.value v) w) (hS : S w) (h : wpAnyH P md ops (Exit.then K (Still Q)) S fuel (listed.setIfInBounds i true) ⟨a.tmps.setIfInBounds d v, a.defers⟩ w) : wpAnyH P md ops (Exit.then K (Still Q)) S (fuel + 1) listed a w :=
  held_take i v hi hs hf hr hw hy hS (by rw [hd]; exact h)
theorem wpOp_put {i : Nat} {o : Oper} (d : Tmp) {v : Value} {K : Act → World → Prop} (hi : ops[i]? = some o) (hd : o.dst = some d) (hw : Region.wanted o (yielded ops a.tmps) = true) (hr : (execOp a.eval o).run P w = .ok (.value v) w') (h : K ⟨a.tmps.setIfInBounds d v, a.defers⟩ w') : wpOp P ops Q i K a w :=
  wpOp_val hi hw hr (by rw [hd]; exact h)
theorem held_one {fuel : Nat} {listed : Array Bool} (i : Nat) (hr : Region.ready md ops listed = [i]) (h : wpOp P ops Q i (fun a' w' => S w' ∧ wpAnyH P md ops Q S fuel (listed.setIfInBounds i true) a' w') a w) : wpAnyH P md ops Q S (fuel + 1) listed a w :=
  wpAnyH_all hr (by simp) (fun j hj => by rw [List.mem_singleton.1 hj]; exact h)
theorem held_two {fuel : Nat} {listed : Array Bool} (i j : Nat) (hr : Region.ready md ops listed = [i, j]) (h : wpOp P ops Q i (fun a' w' => S w' ∧ wpAnyH P md ops Q S fuel (listed.setIfInBounds i true) a' w') a w) (k : wpOp P ops Q j (fun a' w' => S w' ∧ wpAnyH P md ops Q S fuel (listed.setIfInBounds j true) a' w') a w) : wpAnyH P md ops Q S (fuel + 1) listed a w :=
  wpAnyH_all hr (by simp) (fun l hl => by
    simp only [List.mem_cons, List.not_mem_nil, or_false] at hl
    rcases hl with rfl | rfl
    · exact h
    · exact k)
theorem wpOp_call {i : Nat} {o : Oper} (d : Tmp) {f : FuncId} {args : Array Value} {K : Act → World → Prop} (hi : ops[i]? = some o) (hd : o.dst = some d) (hw : Region.wanted o (yielded ops a.tmps) = true) (hr : (execOp a.eval o).run P w = .ok (.enter f args) w) (h : Calls P f args w fun e w'' => ∃ v, e = .returned v ∧ K ⟨a.tmps.setIfInBounds d v, a.defers⟩ w'') : wpOp P ops Q i K a w := by
  unfold Go.wpOp
  simp only [hi]
  simp only [hw, if_true, Oper.wp, hr, Oper.upon]
  refine .inl (h.mono ?_)
  rintro e w'' ⟨v, rfl, hk⟩
  rw [hd]
  exact hk
end

section
variable {P : Program} {md : Region.Mode} {ops : Array Oper} {Q : Exit → Act → World → Prop} {S : World → Prop} {a : Act} {w : World}
/-- an operation by a law of lists; its guard, if any, wants it -/
theorem wpOp_law {i : Nat} {o : Oper} {K : Act → World → Prop} (hi : ops[i]? = some o) (hw : Region.wanted o (yielded ops a.tmps) = true) (h : wpList P ops (Exit.then K Q) [⟨o.dst, o.op, o.type, o.pos, o.after, none⟩] a w) : wpOp P ops Q i K a w := by
  unfold Go.wpOp
  simp only [hi]
  simp only [hw, if_true]
  unfold wpList at h
  simp only [Region.wanted, if_true] at h
  rcases h with h | h
  · refine .inl ?_
    unfold Oper.wp at *
    have he : (execOp a.eval ⟨o.dst, o.op, o.type, o.pos, o.after, none⟩).run P w = (execOp a.eval o).run P w := rfl
    rw [he] at h
    generalize (execOp a.eval o).run P w = r at *
    cases r with
    | ok n w' =>
      cases n <;> simp only [Oper.upon] at h ⊢
      case value u => exact h
      case skip => exact h
      case defer d => exact h
      case enter f args =>
        refine Calls.mono h fun e w'' he => ?_
        cases e with
        | returned u => exact he
        | panicked c => exact he
        | outgrown => exact he
      case row row args => exact Rows.mono h fun u w'' he => he
    | halt x w' =>
      cases x <;> simp only [Oper.upon] at h ⊢
      case panic u => exact h
  · exact .inr h
end
/-- whatever comes behind: no panic, the normal way -/
theorem wp_held_any {P : Program} {ops : Array Oper} {S : World → Prop} {a : Act} {w : World} {id : Nat} {Q : Exit → Act → World → Prop} (n : Nat) (hn : ops.size = n) (hm : P.follows .mixedOrders = true)
    (h : wpAnyH P .any ops (Exit.then (fun a w => Q .normal a w) (Still fun _ _ _ => False)) S n (Array.replicate n false) a { w with drawn := w.drawn + 1 }) : (Code.region id ops true).wp P Q a w := by
  subst hn
  refine Code.wp_mono (Q := Exit.then (fun a w => Q .normal a w) (Still fun _ _ _ => False)) (fun e a w h => ?_) (wp_region_held hm h)
  cases e <;> first | exact h | exact (h : False).elim

theorem wpOp_lawD {P : Program} {ops : Array Oper} {Q : Exit → Act → World → Prop} {a : Act} {w : World} {i : Nat} {o : Oper} (d : Tmp) {K : Act → World → Prop} (hi : ops[i]? = some o) (hd : o.dst = some d) (hw : Region.wanted o (yielded ops a.tmps) = true) (h : wpList P ops (Exit.then K Q) [⟨some d, o.op, o.type, o.pos, o.after, none⟩] a w) : wpOp P ops Q i K a w := wpOp_law hi hw (by rw [hd]; exact h)
end Go.Proofs.YtmbmeidkmhajbaaDoor.V

/- The reader's small steps: the next byte, taken, passed over, marked; digits. -/
namespace Go.Proofs.YtmbmeidkmhajbaaDoor.V
set_option maxRecDepth 100000
open Go.RowKit

abbrev errP (e : Int) : Ending := .panicked [{ v := .iface 26 (.int .i64 e), recovered := false }]
theorem rd_c0 {w : World} {g : Nat} {s : ByteArray} {p n : Nat} {vo : Value} (h : Lies w g 55 (rdC s p n vo)) : w.cell? ⟨g, 0, none⟩ = some (.string s) := by rw [h.cell]; rfl
theorem rd_c1 {w : World} {g : Nat} {s : ByteArray} {p n : Nat} {vo : Value} (h : Lies w g 55 (rdC s p n vo)) : w.cell? ⟨g, 1, none⟩ = some (.int .i64 p) := by rw [h.cell]; rfl
theorem rd_c2 {w : World} {g : Nat} {s : ByteArray} {p n : Nat} {vo : Value} (h : Lies w g 55 (rdC s p n vo)) : w.cell? ⟨g, 2, none⟩ = some (.int .i64 n) := by rw [h.cell]; rfl
theorem rd_c3 {w : World} {g : Nat} {s : ByteArray} {p n : Nat} {vo : Value} (h : Lies w g 55 (rdC s p n vo)) : w.cell? ⟨g, 3, none⟩ = some vo := by rw [h.cell]; rfl
theorem here_short (w : World) (g : Nat) (s : ByteArray) (n : Nat) (vo : Value) (hl : Lies w g 55 (rdC s s.size n vo)) :
    Calls Tryd.prog 40 #[.pointer (some ⟨g, 0, none⟩)] w fun e w' => e = errP 3 ∧ Below w.heap.size w w' := by
  have c0 := rd_c0 hl
  have c1 := rd_c1 hl
  go_enter Tryd.func40, Tryd.ntmps40
  go_upto_region 1 with fail
  go_quiet (fail)
  go_wp2
  exact ⟨rfl, rfl, below_drawn (Below.refl _ _) _⟩
theorem here_ok (w : World) (g : Nat) (s : ByteArray) (p n : Nat) (vo : Value) (hl : Lies w g 55 (rdC s p n vo)) (hp : p < s.size) :
    Calls Tryd.prog 40 #[.pointer (some ⟨g, 0, none⟩)] w fun e w' => e = .returned (.int .u8 (s[p].toNat : Int)) ∧ Below w.heap.size w w' := by
  have c0 := rd_c0 hl
  have c1 := rd_c1 hl
  have hne : ¬ ((p : Int) = (s.size : Int)) := by omega
  go_enter Tryd.func40, Tryd.ntmps40
  go_upto_region 1 with fail
  go_quiet (fail)
  generalize hW : World.drewN _ _ = w1
  have hl1 : Lies w1 g 55 (rdC s p n vo) := by rw [← hW]; exact hl
  have hb1 : Below w.heap.size w w1 := by rw [← hW]; exact below_drawn (Below.refl _ _) _
  have d0 := rd_c0 hl1
  have d1 := rd_c1 hl1
  clear c0 c1
  go_upto_region 3 with fail
  go_quiet (fail)
  go_wp2
  go_ret
  exact ⟨rfl, below_drawn hb1 _⟩
/-- what stands behind -/
def rest (s : ByteArray) (p : Nat) : List UInt8 := s.data.toList.drop p
theorem rest_none (s : ByteArray) : rest s s.size = [] := by
  unfold rest
  rw [List.drop_eq_nil_iff]
  exact Nat.le_of_eq Array.length_toList
theorem rest_cons {s : ByteArray} {p : Nat} (h : p < s.size) : rest s p = s[p] :: rest s (p + 1) := by
  unfold rest
  rw [List.drop_eq_getElem_cons (h := by rw [Array.length_toList]; exact h)]
  congr 1
theorem rest_len {s : ByteArray} {p : Nat} : (rest s p).length = s.size - p := by
  unfold rest
  rw [List.length_drop, Array.length_toList]
  rfl
theorem grown_set {w w1 : World} (g : Nat) (h : Below w.heap.size w w1) (i : Nat) (v : Value) : w.grownBy (w1.setCell ⟨g, i, none⟩ v) (some g) :=
  ⟨h.os, h.tape, h.output, by rw [show (w1.setCell ⟨g, i, none⟩ v).heap.size = w1.heap.size by simp]; exact h.size, fun k hk hne => (heap_setCell_other w1 ⟨g, i, none⟩ k v (by intro e; exact hne (by rw [e]))).trans (h.block k hk)⟩
theorem grown_of {w w1 : World} (g : Nat) (h : Below w.heap.size w w1) : w.grownBy w1 (some g) := ⟨h.os, h.tape, h.output, h.size, fun k hk _ => h.block k hk⟩
theorem grown_two {w w1 w2 : World} {r : Option Nat} (h : w.grownBy w1 r) (k : w1.grownBy w2 r) : w.grownBy w2 r :=
  ⟨k.os.trans h.os, k.tape.trans h.tape, k.output.trans h.output, Nat.le_trans h.size k.size, fun j hj hr => (k.block j (Nat.lt_of_lt_of_le hj h.size) hr).trans (h.block j hj hr)⟩
theorem rd_at {w : World} {g : Nat} {s : ByteArray} {p n : Nat} {vo : Value} (h : Lies w g 55 (rdC s p n vo)) {z : Int} (q : Nat) (hz : z = (q : Int)) : Lies (w.setCell ⟨g, 1, none⟩ (.int .i64 z)) g 55 (rdC s q n vo) := by subst hz; exact h.put 1 _
theorem rd_n {w : World} {g : Nat} {s : ByteArray} {p n : Nat} {vo : Value} (h : Lies w g 55 (rdC s p n vo)) {z : Int} (q : Nat) (hz : z = (q : Int)) : Lies (w.setCell ⟨g, 2, none⟩ (.int .i64 z)) g 55 (rdC s p q vo) := by subst hz; exact h.put 2 _
theorem rd_o {w : World} {g : Nat} {s : ByteArray} {p n : Nat} {vo : Value} (h : Lies w g 55 (rdC s p n vo)) (v : Value) : Lies (w.setCell ⟨g, 3, none⟩ v) g 55 (rdC s p n v) := h.put 3 _
theorem take_short (w : World) (g : Nat) (s : ByteArray) (n : Nat) (vo : Value) (hl : Lies w g 55 (rdC s s.size n vo)) :
    Calls Tryd.prog 47 #[.pointer (some ⟨g, 0, none⟩)] w fun e w' => e = errP 3 ∧ Below w.heap.size w w' := by
  go_enter Tryd.func47, Tryd.ntmps47
  go_wp2_with (go_at_call 40; (with_reducible refine (here_short _ g s n vo hl).mono ?_); rintro e w1 ⟨rfl, hb1⟩)
  exact ⟨rfl, rfl, hb1⟩
theorem take_ok (w : World) (g : Nat) (s : ByteArray) (p n : Nat) (vo : Value) (hl : Lies w g 55 (rdC s p n vo)) (hp : p < s.size) (hs : s.size ≤ 65536) :
    Calls Tryd.prog 47 #[.pointer (some ⟨g, 0, none⟩)] w fun e w' => e = .returned (.int .u8 (s[p].toNat : Int)) ∧ Lies w' g 55 (rdC s (p + 1) n vo) ∧ w.grownBy w' (some g) := by
  have H := here_ok w g s p n vo hl hp
  generalize s[p] = b at H ⊢
  go_enter Tryd.func47, Tryd.ntmps47
  go_upto_region 2 with (go_at_call 40; refine H.mono ?_; rintro e w1 ⟨rfl, hb1⟩)
  have hl1 := hl.on hb1
  have d1 := rd_c1 hl1
  have f1 := hl1.frozen 1
  go_wp2
  go_ret
  exact ⟨rfl, rd_at hl1 (p + 1) (by omega), grown_set g hb1 1 _⟩
theorem isDigit_any (b : UInt8) (w : World) : Calls Tryd.prog 41 #[.int .u8 (b.toNat : Int)] w fun e w' => e = .returned (.bool (isDig b)) ∧ Below w.heap.size w w' := by
  have hd : isDig b = (decide (48 ≤ (b.toNat : Int)) && decide ((b.toNat : Int) ≤ 57)) := by
    unfold isDig
    congr 1 <;> exact decide_eq_decide.2 (by omega)
  rw [hd]
  generalize (b.toNat : Int) = z
  by_cases h1 : 48 ≤ z
  · by_cases h2 : z ≤ 57
    · rw [decide_eq_true h1, decide_eq_true h2]
      go_enter Tryd.func41, Tryd.ntmps41
      go_wp2
      go_ret
      exact ⟨rfl, Below.refl _ _⟩
    · rw [decide_eq_true h1, decide_eq_false h2]
      go_enter Tryd.func41, Tryd.ntmps41
      go_wp2
      go_ret
      exact ⟨rfl, Below.refl _ _⟩
  · rw [decide_eq_false h1]
    go_enter Tryd.func41, Tryd.ntmps41
    go_wp2
    go_ret
    exact ⟨rfl, Below.refl _ _⟩
theorem endOf_map (w : World) : Calls Tryd.prog 49 #[.int .i64 4] w fun e w' => e = .returned (.int .u8 125) ∧ w' = w := by
  go_enter Tryd.func49, Tryd.ntmps49
  go_wp2
  go_ret
  exact ⟨rfl, rfl⟩
theorem endOf_list (w : World) : Calls Tryd.prog 49 #[.int .i64 3] w fun e w' => e = .returned (.int .u8 93) ∧ w' = w := by
  go_enter Tryd.func49, Tryd.ntmps49
  go_wp2
  go_ret
  exact ⟨rfl, rfl⟩
theorem marked_short (w : World) (g : Nat) (s : ByteArray) (n : Nat) (vo : Value) (hl : Lies w g 55 (rdC s s.size n vo)) :
    Calls Tryd.prog 60 #[.pointer (some ⟨g, 0, none⟩)] w fun e w' => e = errP 3 ∧ Below w.heap.size w w' := by
  go_enter Tryd.func60, Tryd.ntmps60
  go_wp2_with (go_at_call 47; (with_reducible refine (take_short _ g s n vo hl).mono ?_); rintro e w1 ⟨rfl, hb1⟩)
  exact ⟨rfl, rfl, hb1⟩
theorem marked_ok (w : World) (g : Nat) (s : ByteArray) (p n : Nat) (vo : Value) (hl : Lies w g 55 (rdC s p n vo)) (hp : p < s.size) (hs : s.size ≤ 65536) (hc : s[p] = 34 ∨ s[p] = 92) :
    Calls Tryd.prog 60 #[.pointer (some ⟨g, 0, none⟩)] w fun e w' => e = .returned (.int .u8 (s[p].toNat : Int)) ∧ Lies w' g 55 (rdC s (p + 1) n vo) ∧ w.grownBy w' (some g) := by
  have H := take_ok w g s p n vo hl hp hs
  rcases hc with hc | hc
  · rw [hc] at H ⊢
    rw [show (((34 : UInt8).toNat : Nat) : Int) = 34 from rfl] at *
    go_enter Tryd.func60, Tryd.ntmps60
    go_wp2_with (go_at_call 47; refine H.mono ?_; rintro e w1 ⟨rfl, hl1, hb1⟩)
    go_ret
    exact ⟨rfl, hl1, hb1⟩
  · rw [hc] at H ⊢
    rw [show (((92 : UInt8).toNat : Nat) : Int) = 92 from rfl] at *
    go_enter Tryd.func60, Tryd.ntmps60
    go_wp2_with (go_at_call 47; refine H.mono ?_; rintro e w1 ⟨rfl, hl1, hb1⟩)
    go_ret
    exact ⟨rfl, hl1, hb1⟩
theorem byte_ne {b c : UInt8} (h : b ≠ c) : ¬ ((b.toNat : Int) = (c.toNat : Int)) := fun e => h (UInt8.toNat_inj.1 (by omega))
theorem marked_odd (w : World) (g : Nat) (s : ByteArray) (p n : Nat) (vo : Value) (hl : Lies w g 55 (rdC s p n vo)) (hp : p < s.size) (hs : s.size ≤ 65536) (hc : s[p] ≠ 34 ∧ s[p] ≠ 92) :
    Calls Tryd.prog 60 #[.pointer (some ⟨g, 0, none⟩)] w fun e w' => e = errP 20 ∧ w.grownBy w' (some g) := by
  have H := take_ok w g s p n vo hl hp hs
  have h1 := byte_ne hc.1
  have h2 := byte_ne hc.2
  rw [show (((34 : UInt8).toNat : Nat) : Int) = 34 from rfl] at h1
  rw [show (((92 : UInt8).toNat : Nat) : Int) = 92 from rfl] at h2
  generalize ((s[p].toNat : Nat) : Int) = z at *
  have h3 : (z != 34) = true := by simpa using h1
  have h4 : (z != 92) = true := by simpa using h2
  clear h1 h2
  go_enter Tryd.func60, Tryd.ntmps60
  go_wp2_with (go_at_call 47; refine H.mono ?_; rintro e w1 ⟨rfl, hl1, hb1⟩)
  exact ⟨rfl, rfl, hb1⟩
theorem skip_no (w : World) (g : Nat) (s : ByteArray) (p n : Nat) (vo : Value) (c : UInt8) (hl : Lies w g 55 (rdC s p n vo)) (hp : p ≤ s.size) (hc : (rest s p).head? ≠ some c) :
    Calls Tryd.prog 57 #[.pointer (some ⟨g, 0, none⟩), .int .u8 (c.toNat : Int)] w fun e w' => e = .returned (.bool false) ∧ Below w.heap.size w w' := by
  have c0 := rd_c0 hl
  have c1 := rd_c1 hl
  by_cases h : p < s.size
  · rw [rest_cons h, List.head?_cons] at hc
    have h1 := byte_ne (fun e => hc (by rw [e]) : s[p] ≠ c)
    have h2 : ((s[p].toNat : Int) == (c.toNat : Int)) = false := by simpa using h1
    generalize (c.toNat : Int) = z at *
    go_enter Tryd.func57, Tryd.ntmps57
    go_upto_region 1 with fail
    go_quiet (fail)
    go_wp2
    go_ret
    exact ⟨rfl, below_drawn (Below.refl _ _) _⟩
  · have h1 : ¬ ((p : Int) < (s.size : Int)) := by omega
    go_enter Tryd.func57, Tryd.ntmps57
    go_upto_region 1 with fail
    go_quiet (fail)
    go_wp2
    go_ret
    exact ⟨rfl, below_drawn (Below.refl _ _) _⟩
theorem skip_yes (w : World) (g : Nat) (s : ByteArray) (p n : Nat) (vo : Value) (c : UInt8) (hl : Lies w g 55 (rdC s p n vo)) (hs : s.size ≤ 65536) (hp : p < s.size) (hc : s[p] = c) :
    Calls Tryd.prog 57 #[.pointer (some ⟨g, 0, none⟩), .int .u8 (c.toNat : Int)] w fun e w' => e = .returned (.bool true) ∧ Lies w' g 55 (rdC s (p + 1) n vo) ∧ w.grownBy w' (some g) := by
  have c0 := rd_c0 hl
  have c1 := rd_c1 hl
  have h2 : ((s[p].toNat : Int) == (c.toNat : Int)) = true := by rw [hc]; simp
  generalize (c.toNat : Int) = z at *
  clear hc
  go_enter Tryd.func57, Tryd.ntmps57
  go_upto_region 1 with fail
  go_quiet (fail)
  generalize hW : World.drewN _ _ = w1
  have hl1 : Lies w1 g 55 (rdC s p n vo) := by rw [← hW]; exact hl
  have hb1 : Below w.heap.size w w1 := by rw [← hW]; exact below_drawn (Below.refl _ _) _
  have d1 := rd_c1 hl1
  have f1 := hl1.frozen 1
  clear c0 c1 hW
  go_wp2
  go_ret
  exact ⟨rfl, rd_at hl1 (p + 1) (by omega), grown_set g hb1 1 _⟩
end Go.Proofs.YtmbmeidkmhajbaaDoor.V

/- What single operations give. -/
namespace Go.Proofs.YtmbmeidkmhajbaaDoor.V
set_option maxRecDepth 100000
open Go.RowKit

section
variable {a : Act} {d : Option Tmp} {x y z : Operand} {t' : TypeId} {pos : String} {after : Array Edge} {gd : Option (Nat × Bool)} {w : World}
theorem run_ldI (p : Addr) (v : Value) (hc : w.cell? p = some v) (hx : a.eval x = .pointer (some p)) : (execOp a.eval ⟨d, .load 3 x, t', pos, after, gd⟩).run Tryd.prog w = .ok (.value v) w := by
  unfold execOp
  simp only [hx]
  simp [Instr.loadAt, go_sem, hc]
theorem run_ldS (p : Addr) (v : Value) (hc : w.cell? p = some v) (hx : a.eval x = .pointer (some p)) : (execOp a.eval ⟨d, .load 9 x, t', pos, after, gd⟩).run Tryd.prog w = .ok (.value v) w := by
  unfold execOp
  simp only [hx]
  simp [Instr.loadAt, go_sem, hc]
theorem run_ldR (p : Addr) (v : Value) (hc : w.cell? p = some v) (hx : a.eval x = .pointer (some p)) : (execOp a.eval ⟨d, .load 22 x, t', pos, after, gd⟩).run Tryd.prog w = .ok (.value v) w := by
  unfold execOp
  simp only [hx]
  simp [Instr.loadAt, go_sem, hc]
theorem run_cutS (s : ByteArray) (p q : Nat) (h : p ≤ q) (hq : q ≤ s.size) (hx : a.eval x = .string s) (hy : a.eval y = .int .i64 p) (hz : a.eval z = .int .i64 q) :
    (execOp a.eval ⟨d, .slice 9 x (some y) (some z) none, t', pos, after, gd⟩).run Tryd.prog w = .ok (.value (.string (s.extract p q))) w := by
  unfold execOp
  simp only [hx, hy, hz, Option.map_some, Option.map_none]
  simp [Instr.sliceAt, run_underlying Tryd.underlying9, go_sem, h, hq]
end
end Go.Proofs.YtmbmeidkmhajbaaDoor.V

/- The stack: how high it is, what stands at its top; whether a value may begin. -/
namespace Go.Proofs.YtmbmeidkmhajbaaDoor.V
set_option maxRecDepth 100000
open Go.RowKit Go.Sort Go.Joins

theorem size_any (w : World) (g : Nat) (a : Option Addr) (k c : Nat) (h : w.cell? ⟨g, 3, none⟩ = some (.slice a k c)) :
    Calls Tryd.prog 32 #[.pointer (some ⟨g, 3, none⟩)] w fun e w' => e = .returned (.int .i64 (k : Int)) ∧ w' = w := by
  go_enter Tryd.func32, Tryd.ntmps32
  go_wp2
  go_ret
  exact ⟨rfl, rfl⟩
theorem top_any (w : World) (g sb k c : Nat) (h : w.cell? ⟨g, 3, none⟩ = some (.slice (some ⟨sb, 0, none⟩) (k + 1) c)) (hk2 : k ≤ 100) :
    Calls Tryd.prog 46 #[.pointer (some ⟨g, 3, none⟩)] w fun e w' => e = .returned (.pointer (some ⟨sb, k * 5, none⟩)) ∧ RowKit.Below w.heap.size w w' := by
  go_enter Tryd.func46, Tryd.ntmps46
  go_upto_region 1 with fail
  go_quiet (fail)
  go_wp2
  go_ret
  exact ⟨rfl, below_drawn (RowKit.Below.refl _ _) _⟩
theorem may_deep (w : World) (g : Nat) (s : ByteArray) (p n : Nat) (a : Option Addr) (c : Nat) (hl : Lies w g 55 (rdC s p n (.slice a 12 c))) :
    Calls Tryd.prog 39 #[.pointer (some ⟨g, 0, none⟩)] w fun e w' => e = errP 21 ∧ w' = w := by
  have c3 := rd_c3 hl
  go_enter Tryd.func39, Tryd.ntmps39
  go_wp2_with (go_at_call 32; refine (size_any _ g _ _ _ c3).mono ?_; rintro e w1 ⟨rfl, rfl⟩)
  exact ⟨rfl, rfl, rfl⟩
theorem may_many (w : World) (g : Nat) (s : ByteArray) (p k : Nat) (a : Option Addr) (c : Nat) (hl : Lies w g 55 (rdC s p 2000 (.slice a k c))) (hk : k < 12) :
    Calls Tryd.prog 39 #[.pointer (some ⟨g, 0, none⟩)] w fun e w' => e = errP 22 ∧ w' = w := by
  have c2 := rd_c2 hl
  have c3 := rd_c3 hl
  have e1 : ((k : Int) == 12) = false := by rw [beq_eq_false_iff_ne]; omega
  have c2 : w.cell? ⟨g, 2, none⟩ = some (.int .i64 2000) := c2
  go_enter Tryd.func39, Tryd.ntmps39
  go_wp2_with (go_at_call 32; refine (size_any _ g _ _ _ c3).mono ?_; rintro e w1 ⟨rfl, hw⟩; subst hw)
  exact ⟨rfl, rfl, rfl⟩
theorem may_ok (w : World) (g : Nat) (s : ByteArray) (p n k : Nat) (a : Option Addr) (c : Nat) (hl : Lies w g 55 (rdC s p n (.slice a k c))) (hk : k < 12) (hn : n < 2000) :
    Calls Tryd.prog 39 #[.pointer (some ⟨g, 0, none⟩)] w fun e w' => e = .returned (.tuple #[]) ∧ Lies w' g 55 (rdC s p (n + 1) (.slice a k c)) ∧ w.grownBy w' (some g) := by
  have c2 := rd_c2 hl
  have c3 := rd_c3 hl
  have f2 := hl.frozen 2
  have e1 : ((k : Int) == 12) = false := by rw [beq_eq_false_iff_ne]; omega
  have e2 : ((n : Int) == 2000) = false := by rw [beq_eq_false_iff_ne]; omega
  go_enter Tryd.func39, Tryd.ntmps39
  go_wp2_with (go_at_call 32; refine (size_any _ g _ _ _ c3).mono ?_; rintro e w1 ⟨rfl, hw⟩; subst hw)
  first | go_end0 | refine bodyPost_ret (results_none rfl _ _ _) rfl ?_
  exact ⟨rfl, rd_n hl (n + 1) (by omega), grown_set g (RowKit.Below.refl _ _) 2 _⟩
end Go.Proofs.YtmbmeidkmhajbaaDoor.V

/- The reader's digits. -/
namespace Go.Proofs.YtmbmeidkmhajbaaDoor.V
set_option maxRecDepth 100000
open Go.RowKit Go.Sort Go.Joins

/-- the reader's place -/
def placeOf (w : World) (g : Nat) : Nat := match w.cell? ⟨g, 1, none⟩ with
  | some v => (intOf v).toNat
  | none => 0
theorem placeOf_rd {w : World} {g : Nat} {s : ByteArray} {p n : Nat} {vo : Value} (h : Lies w g 55 (rdC s p n vo)) : placeOf w g = p := by
  unfold placeOf
  rw [rd_c1 h]
  simp [intOf]
/-- all from p to q are digits -/
def DigTo (s : ByteArray) (p q : Nat) : Prop := p ≤ q ∧ q ≤ s.size ∧ ∃ d, rest s p = d ++ rest s q ∧ (∀ c ∈ d, isDig c = true) ∧ d.length = q - p
theorem DigTo.next {s : ByteArray} {p q : Nat} (h : DigTo s p q) (hq : q < s.size) (hd : isDig s[q] = true) : DigTo s p (q + 1) := by
  obtain ⟨h1, h2, d, h3, h4, h5⟩ := h
  refine ⟨by omega, by omega, d ++ [s[q]], ?_, fun c hc => ?_, by rw [List.length_append, List.length_singleton]; omega⟩
  · rw [h3, rest_cons hq]; simp
  · rcases List.mem_append.1 hc with hc | hc
    · exact h4 c hc
    · rw [List.mem_singleton.1 hc]; exact hd
theorem DigTo.done {s : ByteArray} {p q : Nat} (h : DigTo s p q) (hd : Delim (rest s q)) : (rest s p).takeWhile isDig = (s.extract p q).data.toList ∧ (rest s p).dropWhile isDig = rest s q := by
  obtain ⟨h1, h2, d, h3, h4, h5⟩ := h
  obtain ⟨w1, w2⟩ := while_append d (rest s q) h4 hd
  rw [h3, w1, w2]
  refine ⟨?_, rfl⟩
  have e1 : (s.extract p q).data.toList = (rest s p).take (q - p) := by
    unfold rest
    rw [ByteArray.data_extract, Array.toList_extract, List.extract_eq_take_drop]
  rw [e1, h3, List.take_append_of_le_length (by omega), List.take_of_length_le (by omega)]
set_option maxHeartbeats 3200000 in
theorem digits_any (w : World) (g : Nat) (s : ByteArray) (p n : Nat) (vo : Value) (hl : Lies w g 55 (rdC s p n vo)) (hp : p ≤ s.size) (hs : s.size ≤ 65536) :
    Calls Tryd.prog 58 #[.pointer (some ⟨g, 0, none⟩)] w fun e w' => ∃ q, e = .returned (.string (s.extract p q)) ∧ DigTo s p q ∧ Delim (rest s q) ∧ Lies w' g 55 (rdC s q n vo) ∧ w.grownBy w' (some g) := by
  have c1 := rd_c1 hl
  go_enter Tryd.func58, Tryd.ntmps58
  go_wp2_with fail
  go_loopw [29] (fun _ wr => ∃ q, Hid (DigTo s p q) ∧ Lies wr g 55 (rdC s q n vo) ∧ w.grownBy wr (some g)) (fun _ wr => s.size - placeOf wr g)
  case atStart => exact ⟨p, Lib.hid ⟨Nat.le_refl _, hp, [], rfl, (fun c h => by cases h), by simp⟩, hl, grown_of g (Below.refl _ _)⟩
  case round =>
    obtain ⟨q, HD, hl1, hb1⟩ := hrel
    have hl0 := hl1
    have hq := HD.out.2.1
    have hpq := HD.out.1
    have c0 := rd_c0 hl1
    have c1 := rd_c1 hl1
    have k0 := cell_regrown c0
    have k1 := cell_regrown c1
    by_cases hlt : q < s.size
    · have H := reg (W := wr) (fun w1 _ => isDigit_any s[q] w1)
      cases hd : isDig s[q] with
      | true =>
        rw [hd] at H
        have HD1 := Lib.hid (HD.out.next hlt hd)
        clear c0 c1
        go_upto_region 2 with fail
        refine wp_region_quiet_below (by kernel_rfl) (by kernel_rfl) ?_
        repeat (go_big_quiet_step (first | exact H _ _))
        refine wpQuiet_nil ?_
        intro w3 hw'
        obtain ⟨⟨dq, osq⟩, hw''⟩ := hw'
        subst hw''
        have hb3 := below_regrown wr dq osq
        replace hl1 := hl1.on hb3
        replace hb1 := grown_two hb1 (grown_of g hb3)
        clear hb3 k0 k1 H
        generalize grow _ _ = w3 at *
        have d1 := rd_c1 hl1
        have f1 := hl1.frozen 1
        go_wp2
        go_roundw
        case rel => exact ⟨q + 1, HD1, rd_at hl1 (q + 1) (by omega), grown_two hb1 (grown_set g (Below.refl _ _) 1 _)⟩
        case measure =>
          rw [placeOf_rd (rd_at hl1 (q + 1) (by omega)), placeOf_rd hl0]
          omega
      | false =>
        rw [hd] at H
        have HE := Lib.hid (show Delim (rest s q) by rw [rest_cons hlt]; exact delim_at hd)
        clear c0 c1
        go_upto_region 2 with fail
        refine wp_region_quiet_below (by kernel_rfl) (by kernel_rfl) ?_
        repeat (go_big_quiet_step (first | exact H _ _))
        refine wpQuiet_nil ?_
        intro w3 hw'
        obtain ⟨⟨dq, osq⟩, hw''⟩ := hw'
        subst hw''
        have hb3 := below_regrown wr dq osq
        replace hl1 := hl1.on hb3
        replace hb1 := grown_two hb1 (grown_of g hb3)
        clear hb3 k0 k1 H
        generalize grow _ _ = w3 at *
        have d0 := rd_c0 hl1
        have d1 := rd_c1 hl1
        go_upto_region 4 with fail
        go_quiet (fail)
        go_wp2
        go_ret
        exact ⟨q, rfl, HD.out, HE.out, hl1.drewN _, grown_two hb1 (grown_of g (below_drawn (Below.refl _ _) _))⟩
    · obtain rfl : q = s.size := by omega
      have HE := Lib.hid (show Delim (rest s s.size) by rw [rest_none]; exact fun c t e => by cases e)
      clear c0 c1
      go_upto_region 2 with fail
      refine wp_region_quiet_below (by kernel_rfl) (by kernel_rfl) ?_
      repeat (go_big_quiet_step (first | fail))
      refine wpQuiet_nil ?_
      intro w3 hw'
      obtain ⟨⟨dq, osq⟩, hw''⟩ := hw'
      subst hw''
      have hb3 := below_regrown wr dq osq
      replace hl1 := hl1.on hb3
      replace hb1 := grown_two hb1 (grown_of g hb3)
      clear hb3 k0 k1
      generalize grow _ _ = w3 at *
      have d0 := rd_c0 hl1
      have d1 := rd_c1 hl1
      go_upto_region 4 with fail
      go_quiet (fail)
      go_wp2
      go_ret
      exact ⟨s.size, rfl, HD.out, HE.out, hl1.drewN _, grown_two hb1 (grown_of g (below_drawn (Below.refl _ _) _))⟩
end Go.Proofs.YtmbmeidkmhajbaaDoor.V

