/- The reader's memory: what is open on its stack, each row its own; and what stays of memory but for these. -/
import Derived.Test.YtnloimanklkigaaDoorVSeq
import Derived.Test.YtnloimanklkigaaDoorVMake
import Derived.Test.YtnloimanklkigaaDoorYMach
import Derived.Maps.AppendAt
namespace Go.Proofs.YtnloimanklkigaaDoor.V
set_option maxRecDepth 100000
open Go.RowKit

/-- all stays but for the blocks of X; those of X' are of X, or new -/
structure Turn (X X' : List Nat) (w w' : World) : Prop where
  os : w'.os = w.os
  tape : w'.tape = w.tape
  output : w'.output = w.output
  size : w.heap.size ≤ w'.heap.size
  block : ∀ k, k < w.heap.size → k ∉ X → w'.heap[k]? = w.heap[k]?
  fresh : ∀ k, k ∈ X' → k ∈ X ∨ w.heap.size ≤ k
theorem Turn.refl (X : List Nat) (w : World) : Turn X X w w := ⟨rfl, rfl, rfl, Nat.le_refl _, fun _ _ _ => rfl, fun _ h => .inl h⟩
theorem Turn.trans {X X1 X2 : List Nat} {w w1 w2 : World} (h : Turn X X1 w w1) (k : Turn X1 X2 w1 w2) : Turn X X2 w w2 :=
  ⟨k.os.trans h.os, k.tape.trans h.tape, k.output.trans h.output, Nat.le_trans h.size k.size,
   fun j hj hx => (k.block j (Nat.lt_of_lt_of_le hj h.size) (fun h1 => (h.fresh j h1).elim hx (fun h2 => absurd hj (Nat.not_lt.2 h2)))).trans (h.block j hj hx),
   fun j hj => (k.fresh j hj).elim (h.fresh j) (fun h2 => .inr (Nat.le_trans h.size h2))⟩
theorem Turn.of_below {X : List Nat} {w w' : World} (h : Below w.heap.size w w') : Turn X X w w' := ⟨h.os, h.tape, h.output, h.size, fun k hk _ => h.block k hk, fun _ h => .inl h⟩
theorem Turn.of_grown {X : List Nat} {g : Nat} {w w' : World} (h : w.grownBy w' (some g)) (hg : g ∈ X) : Turn X X w w' := ⟨h.os, h.tape, h.output, h.size, fun k hk hx => h.block k hk (fun e => hx (by injection e with e; rw [e]; exact hg)), fun _ h => .inl h⟩
theorem Turn.below {X X' : List Nat} {B : Nat} {w w' : World} (h : Turn X X' w w') (hX : ∀ k ∈ X, B ≤ k) (hB : B ≤ w.heap.size) : Below B w w' := ⟨h.os, h.tape, h.output, h.size, fun k hk => h.block k (by omega) (fun hx => by have := hX k hx; omega)⟩
theorem Turn.wide {Y Y' X X' : List Nat} {w w' : World} (h : Turn Y Y' w w') (hY : ∀ k ∈ Y, k ∈ X) (hX : ∀ k, k ∈ X' → k ∈ X ∨ w.heap.size ≤ k) : Turn X X' w w' := ⟨h.os, h.tape, h.output, h.size, fun k hk hx => h.block k hk (fun h1 => hx (hY k h1)), hX⟩
theorem Turn.lies {X X' : List Nat} {w w' : World} {g : Nat} {t : TypeId} {cs : Array Value} (h : Turn X X' w w') (hg : g ∉ X) (hl : Lies w g t cs) : Lies w' g t cs := (h.block g hl.lt hg).trans hl
def blks (v : Value) : List Nat := v.ownBlock.toList
theorem mem_blks {v : Value} {b : Nat} (h : b ∈ blks v) : v.ownBlock = some b := by
  unfold blks at h
  cases hv : v.ownBlock with
  | none => rw [hv] at h; cases h
  | some c => rw [hv] at h; simp at h; rw [h]
theorem blks_some {v : Value} {b : Nat} (h : v.ownBlock = some b) : blks v = [b] := by unfold blks; rw [h]; rfl
theorem OwnL.turn {Y Y' : List Nat} {w w' : World} {B : Nat} {e : TypeId} {k : Nat} {v : Value} {css : List (List Value)} (h : OwnL w B e k v css) (ht : Turn Y Y' w w') (hY : ∀ b ∈ blks v, b ∉ Y) : OwnL w' B e k v css := by
  refine ⟨h.1, h.2.1, ?_⟩
  rcases h.2.2 with hv | ⟨b, cap, cur, hv, hB, hh, hr⟩
  · exact .inl hv
  · have hlt : b < w.heap.size := (Array.getElem?_eq_some_iff.1 hh).1
    exact .inr ⟨b, cap, cur, hv, hB, (ht.block b hlt (hY b (by rw [hv]; simp [blks, Value.ownBlock]))).trans hh, hr⟩
theorem OwnL.blk_lt {w : World} {B : Nat} {e : TypeId} {k : Nat} {v : Value} {css : List (List Value)} (h : OwnL w B e k v css) : ∀ b ∈ blks v, B ≤ b ∧ b < w.heap.size := fun b hb => h.2.lt b (mem_blks hb)

/-- the five cells cs are the value t, in none of the blocks of X -/
def IsVX (X : List Nat) (w : World) : Nat → List Value → VT → Prop
  | 0, _, _ => False
  | d + 1, cs, t => ∃ vi vk, cs = [.int .i64 t.kind, .int .i64 t.num, str t.txt, vi, vk] ∧ VFit t ∧ Strs w vk t.keys ∧ RowC w 5 vi t.items.length (fun i cs' => ∃ x, t.items[i]? = some x ∧ IsVX X w d cs' x) ∧ (0 < t.keys.length → ∀ b, vk.ownBlock = some b → b ∉ X) ∧ (0 < t.items.length → ∀ b, vi.ownBlock = some b → b ∉ X)
theorem IsVX.isV {X : List Nat} {w : World} : ∀ {d : Nat} {cs : List Value} {t : VT}, IsVX X w d cs t → IsV w d cs t := by
  intro d
  induction d with
  | zero => intro cs t h; exact h.elim
  | succ d ih =>
    intro cs t h
    obtain ⟨vi, vk, h1, h2, h3, h4, _, _⟩ := h
    exact ⟨vi, vk, h1, h2, h3, h4.mono fun i cs _ ⟨x, hx, hv⟩ => ⟨x, hx, ih hv⟩⟩
theorem IsVX.mono {X : List Nat} {w : World} : ∀ {d d' : Nat} {cs : List Value} {t : VT}, IsVX X w d cs t → d ≤ d' → IsVX X w d' cs t := by
  intro d
  induction d with
  | zero => intro d' cs t h; exact h.elim
  | succ d ih =>
    intro d' cs t h hd
    obtain ⟨e, rfl⟩ : ∃ e, d' = e + 1 := ⟨d' - 1, by omega⟩
    obtain ⟨vi, vk, h1, h2, h3, h4, h5, h6⟩ := h
    exact ⟨vi, vk, h1, h2, h3, h4.mono fun i cs _ ⟨x, hx, hv⟩ => ⟨x, hx, ih hv (by omega)⟩, h5, h6⟩
theorem range_turn {X X' : List Nat} {w w' : World} {b o : Nat} {cs : List Value} (ht : Turn X X' w w') (hb : b ∉ X) (h : w.rangeAt b o cs) : w'.rangeAt b o cs := fun j v hv => by
  have h4 := h j v hv
  exact (World.cell?_of_block (ht.block b (World.block_lt_of_cell? w _ h4) hb)).trans h4
theorem IsVX.turn {X X' : List Nat} {w w' : World} (ht : Turn X X' w w') : ∀ {d : Nat} {cs : List Value} {t : VT}, IsVX X w d cs t → IsVX X' w' d cs t := by
  intro d
  induction d with
  | zero => intro cs t h; exact h.elim
  | succ d ih =>
    intro cs t h
    obtain ⟨vi, vk, h1, h2, h3, h4, h5, h6⟩ := h
    obtain ⟨a, c, hv, hc, hm, hn, hl⟩ := h3
    obtain ⟨a', c', hv', hc', hm', hn', hl'⟩ := h4
    refine ⟨vi, vk, h1, h2, ⟨a, c, hv, hc, hm, hn, fun hne => ?_⟩, ⟨a', c', hv', hc', hm', hn', fun hpos => ?_⟩, fun hpos b hb hx => ?_, fun hpos b hb hx => ?_⟩
    · obtain ⟨b, off, ha, hx⟩ := hl hne
      refine ⟨b, off, ha, fun i x hi => ?_⟩
      have h7 := hx i x hi
      exact (World.cell?_of_block (ht.block b (World.block_lt_of_cell? w _ h7) (h5 (List.length_pos_iff.2 hne) b (by rw [hv, ha]; rfl)))).trans h7
    · obtain ⟨b, off, ha, hx⟩ := hl' hpos
      refine ⟨b, off, ha, fun i hi => ?_⟩
      obtain ⟨cs', g1, g2, x, g3, g4⟩ := hx i hi
      exact ⟨cs', g1, range_turn ht (h6 hpos b (by rw [hv', ha]; rfl)) g2, x, g3, ih g4⟩
    · rcases ht.fresh b hx with h | h
      · exact h5 hpos b hb h
      · obtain ⟨b2, off, ha, hy⟩ := hl (List.length_pos_iff.1 hpos)
        have e : b2 = b := by rw [hv, ha] at hb; simpa [Value.ownBlock] using hb
        have h7 := World.block_lt_of_cell? w _ (hy 0 _ (List.getElem?_eq_getElem hpos))
        simp only at h7
        omega
    · rcases ht.fresh b hx with h | h
      · exact h6 hpos b hb h
      · obtain ⟨b2, off, ha, hy⟩ := hl' hpos
        have e : b2 = b := by rw [hv', ha] at hb; simpa [Value.ownBlock] using hb
        obtain ⟨cs', g1, g2, _⟩ := hy 0 hpos
        have h7 := World.block_lt_of_cell? w _ (g2 0 _ (List.getElem?_eq_getElem (by omega)))
        simp only at h7
        omega

/-! ### what is open -/
structure Fm where
  fr : Fr
  vi : Value
  vk : Value
def Fm.cells (m : Fm) : List Value := [.int .i64 m.fr.kind, .int .i64 0, .string ⟨#[]⟩, m.vi, m.vk]
def Fm.blks (m : Fm) : List Nat := V.blks m.vi ++ V.blks m.vk
def Fm.vt (m : Fm) : VT := .mk m.fr.kind 0 [] m.fr.items m.fr.keys
/-- the reader's own block, those of variables that callers hold (E), the rows that what is open owns -/
def live (g : Nat) (E : List Nat) (vo : Value) (ms : List Fm) : List Nat := g :: (E ++ (blks vo ++ ms.flatMap Fm.blks))
def ItemsX (X : List Nat) (w : World) (ics : List (List Value)) (l : List VT) : Prop := ics.length = l.length ∧ ∀ (i : Nat) (cs : List Value) (x : VT), ics[i]? = some cs → l[i]? = some x → ∃ d, IsVX X w d cs x
theorem ItemsX.turn {X X' : List Nat} {w w' : World} {ics : List (List Value)} {l : List VT} (h : ItemsX X w ics l) (ht : Turn X X' w w') : ItemsX X' w' ics l := ⟨h.1, fun i cs x h1 h2 => let ⟨d, hd⟩ := h.2 i cs x h1 h2; ⟨d, hd.turn ht⟩⟩
theorem ItemsX.snoc {X : List Nat} {w : World} {ics : List (List Value)} {l : List VT} {cs : List Value} {x : VT} {d : Nat} (h : ItemsX X w ics l) (hx : IsVX X w d cs x) : ItemsX X w (ics ++ [cs]) (l ++ [x]) := by
  refine ⟨by simp [h.1], fun i c y h1 h2 => ?_⟩
  by_cases hi : i < l.length
  · rw [List.getElem?_append_left (by rw [h.1]; exact hi)] at h1
    rw [List.getElem?_append_left hi] at h2
    exact h.2 i c y h1 h2
  · have hlt := (List.getElem?_eq_some_iff.1 h2).1
    rw [List.length_append, List.length_singleton] at hlt
    obtain rfl : i = l.length := by omega
    rw [List.getElem?_concat_length] at h2
    rw [← h.1, List.getElem?_concat_length] at h1
    cases h1
    cases h2
    exact ⟨d, hx⟩
structure FmOk (w : World) (B : Nat) (X : List Nat) (at' : Nat) (m : Fm) : Prop where
  items : ∃ ics, OwnL w B 25 5 m.vi ics ∧ ItemsX X w ics m.fr.items
  keys : OwnL w B 9 1 m.vk (m.fr.keys.map fun k => [str k])
  none : m.fr.map = false → m.fr.keys = []
  few : m.fr.items.length ≤ at'
  fewk : m.fr.keys.length ≤ at'
  short : ∀ k ∈ m.fr.keys, k.length ≤ 4000
theorem FmOk.turn {w w' : World} {B : Nat} {X X' Y Y' : List Nat} {p p' : Nat} {m : Fm} (h : FmOk w B X p m) (hX : Turn X X' w w') (hY : Turn Y Y' w w') (hm : ∀ b ∈ m.blks, b ∉ Y) (hp : p ≤ p') : FmOk w' B X' p' m := by
  obtain ⟨⟨ics, h1, h2⟩, h3, h4, h5, h6, h7⟩ := h
  exact ⟨⟨ics, h1.turn hY (fun b hb => hm b (List.mem_append_left _ hb)), h2.turn hX⟩, h3.turn hY (fun b hb => hm b (List.mem_append_right _ hb)), h4, Nat.le_trans h5 hp, Nat.le_trans h6 hp, h7⟩
def rdC (s : ByteArray) (p n : Nat) (vo : Value) : Array Value := #[.string s, .int .i64 p, .int .i64 n, vo]
/-- the variable of a library's error is there -/
def ErrAt (w : World) : Prop := ∃ t fr tp p, w.heap[3]? = some (.cells #[.iface tp p] t fr)
theorem err_named : Tryd.prog.globalNamed "strconv.ErrRange" = some 3 := by kernel_rfl
theorem ErrAt.var {w : World} (h : ErrAt w) : ∃ tp p, w.var? Tryd.prog "strconv.ErrRange" = some #[.iface tp p] := by
  obtain ⟨t, fr, tp, p, h1⟩ := h
  refine ⟨tp, p, ?_⟩
  unfold World.var?
  rw [err_named]
  simp only [Option.bind_some, h1]
theorem ErrAt.of_var {w : World} {tp : TypeId} {p : Value} (h : w.var? Tryd.prog "strconv.ErrRange" = some #[.iface tp p]) : ErrAt w := by
  unfold World.var? at h
  rw [err_named] at h
  simp only [Option.bind_some] at h
  split at h
  · rename_i cs t fr hh
    simp only [Option.some.injEq] at h
    exact ⟨t, fr, tp, p, by rw [hh, h]⟩
  · cases h
theorem ErrAt.lt {w : World} (h : ErrAt w) : 3 < w.heap.size := by
  obtain ⟨t, fr, tp, p, h1⟩ := h
  exact (Array.getElem?_eq_some_iff.1 h1).1
structure St (w : World) (g : Nat) (E : List Nat) (B : Nat) (s : ByteArray) (p n : Nat) (vo : Value) (ms : List Fm) : Prop where
  rd : Lies w g 77 (rdC s p n vo)
  gB : g < B
  Bw : B ≤ w.heap.size
  er : ErrAt w ∧ 3 < g
  hE : ∀ b ∈ E, 3 < b ∧ b < w.heap.size
  own : OwnL w B 25 5 vo (ms.map Fm.cells).reverse
  nd : (live g E vo ms).Nodup
  fm : ∀ m ∈ ms, FmOk w B (live g E vo ms) p m
  hp : p ≤ s.size
  hs : s.size ≤ 65536
  hms : ms.length ≤ 12
  hn : n ≤ 2000
  hf : ∀ m ∈ ms, s.size - p ≤ m.fr.f
theorem FmOk.blk_lt {w : World} {B p : Nat} {X : List Nat} {m : Fm} (h : FmOk w B X p m) : ∀ b ∈ m.blks, B ≤ b ∧ b < w.heap.size := by
  obtain ⟨⟨ics, h1, _⟩, h3, _⟩ := h
  intro b hb
  rcases List.mem_append.1 hb with hb | hb
  · exact h1.blk_lt b hb
  · exact h3.blk_lt b hb
section
variable {w w' : World} {g B : Nat} {E : List Nat} {s : ByteArray} {p n : Nat} {vo : Value} {ms : List Fm}
theorem St.tail_lt (h : St w g E B s p n vo ms) : ∀ b ∈ blks vo ++ ms.flatMap Fm.blks, B ≤ b ∧ b < w.heap.size := by
  intro b hb
  rcases List.mem_append.1 hb with hb | hb
  · exact h.own.blk_lt b hb
  · obtain ⟨m, hm, hb⟩ := List.mem_flatMap.1 hb
    exact (h.fm m hm).blk_lt b hb
theorem St.live_lt (h : St w g E B s p n vo ms) : ∀ b ∈ live g E vo ms, 3 < b ∧ b < w.heap.size := by
  intro b hb
  have h3 := h.er.2
  rcases List.mem_cons.1 hb with rfl | hb
  · exact ⟨h3, Nat.lt_of_lt_of_le h.gB h.Bw⟩
  · rcases List.mem_append.1 hb with hb | hb
    · exact h.hE b hb
    · have := h.tail_lt b hb
      have h2 := h.gB
      omega
theorem St.core_lt (h : St w g E B s p n vo ms) : ∀ b ∈ live g [] vo ms, g ≤ b ∧ b < w.heap.size := by
  intro b hb
  rcases List.mem_cons.1 hb with rfl | hb
  · exact ⟨Nat.le_refl _, Nat.lt_of_lt_of_le h.gB h.Bw⟩
  · have := h.tail_lt b hb
    have h2 := h.gB
    omega
theorem ErrAt.turn {X X' : List Nat} (h : ErrAt w) (ht : Turn X X' w w') (hX : 3 ∉ X) : ErrAt w' := by
  have hlt := h.lt
  obtain ⟨t, fr, tp, p, h1⟩ := h
  exact ⟨t, fr, tp, p, (ht.block _ hlt hX).trans h1⟩
theorem ErrAt.below (h : ErrAt w) (hb : Below w.heap.size w w') : ErrAt w' := by
  have hlt := h.lt
  obtain ⟨t, fr, tp, p, h1⟩ := h
  exact ⟨t, fr, tp, p, (hb.block _ hlt).trans h1⟩
theorem ErrAt.grown (h : ErrAt w) (hb : w.grownBy w' (some g)) (hg : 3 < g) : ErrAt w' := by
  have hlt := h.lt
  obtain ⟨t, fr, tp, p, h1⟩ := h
  exact ⟨t, fr, tp, p, (hb.block _ hlt (by intro e; injection e; omega)).trans h1⟩
theorem St.erX (h : St w g E B s p n vo ms) : 3 ∉ live g E vo ms := fun hx => by
  have h1 := (h.live_lt _ hx).1
  omega
/-- the reader's own block alone has turned -/
theorem St.seek (h : St w g E B s p n vo ms) {p' n' : Nat} (ht : w.grownBy w' (some g)) (hl : Lies w' g 77 (rdC s p' n' vo)) (hp : p ≤ p') (hp' : p' ≤ s.size) (hn : n' ≤ 2000) : St w' g E B s p' n' vo ms ∧ Turn (live g E vo ms) (live g E vo ms) w w' := by
  have hX : Turn (live g E vo ms) (live g E vo ms) w w' := Turn.of_grown ht (List.mem_cons_self ..)
  have hY : Turn [g] [g] w w' := Turn.of_grown ht (List.mem_singleton.2 rfl)
  have hgn : ∀ b ∈ blks vo ++ ms.flatMap Fm.blks, b ∉ [g] := fun b hb e => by
    have h1 := (h.tail_lt b hb).1
    have h2 := h.gB
    rw [List.mem_singleton] at e
    omega
  exact ⟨⟨hl, h.gB, Nat.le_trans h.Bw ht.size, ⟨h.er.1.turn hX h.erX, h.er.2⟩, fun b hb => ⟨(h.hE b hb).1, Nat.lt_of_lt_of_le (h.hE b hb).2 ht.size⟩, h.own.turn hY (fun b hb => hgn b (List.mem_append_left _ hb)), h.nd,
    fun m hm => (h.fm m hm).turn hX hY (fun b hb => hgn b (List.mem_append_right _ (List.mem_flatMap.2 ⟨m, hm, hb⟩))) hp, hp', h.hs, h.hms, hn, fun m hm => by have := h.hf m hm; omega⟩, hX⟩
theorem St.below (h : St w g E B s p n vo ms) (hb : Below w.heap.size w w') : St w' g E B s p n vo ms ∧ Turn (live g E vo ms) (live g E vo ms) w w' :=
  h.seek ⟨hb.os, hb.tape, hb.output, hb.size, fun k hk _ => hb.block k hk⟩ (h.rd.on hb) (Nat.le_refl _) h.hp h.hn
theorem St.nd' (h : St w g E B s p n vo ms) : (g :: (blks vo ++ ms.flatMap Fm.blks)).Nodup := h.nd.sublist ((List.sublist_append_right E _).cons_cons g)
/-- a new variable of the caller's -/
theorem St.enter (h : St w g E B s p n vo ms) {b : Nat} (hb : RowKit.Below w.heap.size w w') (hbl : w.heap.size ≤ b) (hbr : b < w'.heap.size) : St w' g (b :: E) B s p n vo ms ∧ Turn (live g E vo ms) (live g (b :: E) vo ms) w w' := by
  obtain ⟨h1, ht⟩ := h.below hb
  have hX : Turn (live g E vo ms) (live g (b :: E) vo ms) w w' := ht.wide (fun k hk => hk) (fun k hk => by
    simp only [live, List.mem_cons, List.cons_append] at hk ⊢
    rcases hk with hk | hk | hk
    · exact .inl (.inl hk)
    · exact .inr (by omega)
    · exact .inl (.inr hk))
  have hno : b ∉ g :: (E ++ (blks vo ++ ms.flatMap Fm.blks)) := fun hx => by have := (h.live_lt b hx).2; omega
  have hX0 : Turn (live g E vo ms) (live g E vo ms) w w' := ht
  refine ⟨⟨h1.rd, h1.gB, h1.Bw, h1.er, fun c hc => ?_, h1.own, ?_, fun m hm => ?_, h1.hp, h1.hs, h1.hms, h1.hn, h1.hf⟩, hX⟩
  · rcases List.mem_cons.1 hc with rfl | hc
    · have := h.er.1.lt; exact ⟨by omega, hbr⟩
    · exact h1.hE c hc
  · have h2 : (b :: (g :: (E ++ (blks vo ++ ms.flatMap Fm.blks)))).Nodup := List.nodup_cons.2 ⟨hno, h.nd⟩
    exact (List.Perm.swap b g _).nodup_iff.2 h2
  · exact (h.fm m hm).turn hX (Turn.of_below (X := []) hb) (fun b hb => by simp) (Nat.le_refl _)
/-- .. is left behind -/
theorem St.leave {b : Nat} (h : St w g (b :: E) B s p n vo ms) : St w g E B s p n vo ms ∧ Turn (live g (b :: E) vo ms) (live g E vo ms) w w := by
  have hsub : ∀ k, k ∈ live g E vo ms → k ∈ live g (b :: E) vo ms := by
    intro k hk
    simp only [live, List.mem_cons, List.cons_append] at hk ⊢
    rcases hk with hk | hk
    · exact .inl hk
    · exact .inr (.inr hk)
  have hX : Turn (live g (b :: E) vo ms) (live g E vo ms) w w := (Turn.refl _ w).wide (fun k hk => hk) (fun k hk => .inl (hsub k hk))
  refine ⟨⟨h.rd, h.gB, h.Bw, h.er, fun c hc => h.hE c (by simp [hc]), h.own, ?_, fun m hm => (h.fm m hm).turn hX (Turn.refl [] w) (fun b hb => by simp) (Nat.le_refl _), h.hp, h.hs, h.hms, h.hn, h.hf⟩, hX⟩
  exact h.nd.sublist ((List.sublist_cons_self b _).cons_cons g)
/-- .. is written -/
theorem St.local {b : Nat} (h : St w g (b :: E) B s p n vo ms) (ht : w.grownBy w' (some b)) : St w' g (b :: E) B s p n vo ms ∧ Turn (live g (b :: E) vo ms) (live g (b :: E) vo ms) w w' := by
  have hX : Turn (live g (b :: E) vo ms) (live g (b :: E) vo ms) w w' := Turn.of_grown ht (by simp [live])
  have hY : Turn [b] [b] w w' := Turn.of_grown ht (List.mem_singleton.2 rfl)
  have hn : (g :: b :: (E ++ (blks vo ++ ms.flatMap Fm.blks))).Nodup := h.nd
  have h1 := List.nodup_cons.1 hn
  have h2 := List.nodup_cons.1 h1.2
  have hbn : ∀ c ∈ blks vo ++ ms.flatMap Fm.blks, c ∉ [b] := fun c hc e => by
    rw [List.mem_singleton] at e
    exact h2.1 (by rw [← e]; exact List.mem_append_right _ hc)
  have hgb : g ≠ b := fun e => h1.1 (by rw [e]; simp)
  exact ⟨⟨h.rd.only ht (by intro e; injection e with e; exact hgb e), h.gB, Nat.le_trans h.Bw ht.size, ⟨h.er.1.turn hX h.erX, h.er.2⟩, fun c hc => ⟨(h.hE c hc).1, Nat.lt_of_lt_of_le (h.hE c hc).2 ht.size⟩, h.own.turn hY (fun c hc => hbn c (List.mem_append_left _ hc)), h.nd,
    fun m hm => (h.fm m hm).turn hX hY (fun c hc => hbn c (List.mem_append_right _ (List.mem_flatMap.2 ⟨m, hm, hc⟩))) (Nat.le_refl _), h.hp, h.hs, h.hms, h.hn, h.hf⟩, hX⟩
/-- without what callers hold -/
theorem St.drop (h : St w g E B s p n vo ms) : St w g [] B s p n vo ms := by
  have hsub : ∀ k, k ∈ live g [] vo ms → k ∈ live g E vo ms := by
    intro k hk
    simp only [live, List.mem_cons, List.mem_append, List.nil_append] at hk ⊢
    rcases hk with hk | hk
    · exact .inl hk
    · exact .inr (.inr hk)
  have hX : Turn (live g E vo ms) (live g [] vo ms) w w := (Turn.refl _ w).wide (fun k hk => hk) (fun k hk => .inl (hsub k hk))
  exact ⟨h.rd, h.gB, h.Bw, h.er, fun c hc => (by cases hc), h.own, h.nd', fun m hm => (h.fm m hm).turn hX (Turn.refl [] w) (fun b hb => by simp) (Nat.le_refl _), h.hp, h.hs, h.hms, h.hn, h.hf⟩
theorem Turn.ext {vo' : Value} {ms' : List Fm} (h : Turn (live g [] vo ms) (live g [] vo' ms') w w') (E : List Nat) : Turn (live g E vo ms) (live g E vo' ms') w w' := by
  refine h.wide (fun k hk => ?_) (fun k hk => ?_)
  · simp only [live, List.mem_cons, List.mem_append, List.nil_append] at hk ⊢
    rcases hk with hk | hk
    · exact .inl hk
    · exact .inr (.inr hk)
  · simp only [live, List.mem_cons, List.mem_append] at hk ⊢
    rcases hk with hk | hk | hk
    · exact .inl (.inl hk)
    · exact .inl (.inr (.inl hk))
    · rcases h.fresh k (by simp only [live, List.mem_cons, List.mem_append, List.nil_append]; exact .inr hk) with h1 | h1
      · simp only [live, List.mem_cons, List.mem_append, List.nil_append] at h1
        rcases h1 with h1 | h1
        · exact .inl (.inl h1)
        · exact .inl (.inr (.inr h1))
      · exact .inr h1
/-- a new block is written -/
theorem Turn.local {C C' : List Nat} {wk : World} {b : Nat} (h : Turn C C' w wk) (hk : wk.grownBy w' (some b)) (hb : w.heap.size ≤ b) : Turn C C' w w' :=
  ⟨hk.os.trans h.os, hk.tape.trans h.tape, hk.output.trans h.output, Nat.le_trans h.size hk.size, fun k hlt hx => (hk.block k (Nat.lt_of_lt_of_le hlt h.size) (by intro e; injection e; omega)).trans (h.block k hlt hx), h.fresh⟩
theorem St.out {b : Nat} (h : St w g (b :: E) B s p n vo ms) : b ∉ live g [] vo ms := by
  have hn : (g :: b :: (E ++ (blks vo ++ ms.flatMap Fm.blks))).Nodup := h.nd
  have h1 := List.nodup_cons.1 hn
  have h2 := List.nodup_cons.1 h1.2
  intro hx
  simp only [live, List.mem_cons, List.nil_append] at hx
  rcases hx with hx | hx
  · exact h1.1 (by rw [hx]; simp)
  · exact h2.1 (List.mem_append_right _ hx)
theorem Turn.out {X X' : List Nat} {b : Nat} (h : Turn X X' w w') (hb : b ∉ X) (hlt : b < w.heap.size) : b ∉ X' := fun hx => (h.fresh b hx).elim hb (fun h2 => by omega)
end
theorem nodup_put {A Y Y' C : List Nat} {N : Nat} (h : (A ++ (Y ++ C)).Nodup) (hA : ∀ k ∈ A, k < N) (hC : ∀ k ∈ C, k < N) (hY : Y' = Y ∨ ∃ b, Y' = [b] ∧ N ≤ b) : (A ++ (Y' ++ C)).Nodup := by
  rcases hY with rfl | ⟨b, rfl, hb⟩
  · exact h
  · have h1 : (A ++ C).Nodup := h.sublist ((List.Sublist.refl A).append (List.sublist_append_right Y C))
    refine (List.perm_middle (a := b) (l₁ := A) (l₂ := C)).nodup_iff.2 (List.nodup_cons.2 ⟨fun hx => ?_, h1⟩)
    rcases List.mem_append.1 hx with hx | hx
    · have := hA b hx; omega
    · have := hC b hx; omega
theorem fresh_put {A Y Y' C : List Nat} {N : Nat} (hY : Y' = Y ∨ ∃ b, Y' = [b] ∧ N ≤ b) : ∀ k, k ∈ A ++ (Y' ++ C) → k ∈ A ++ (Y ++ C) ∨ N ≤ k := by
  intro k hk
  rcases hY with rfl | ⟨b, rfl, hb⟩
  · exact .inl hk
  · rcases List.mem_append.1 hk with hk | hk
    · exact .inl (List.mem_append_left _ hk)
    · rcases List.mem_append.1 hk with hk | hk
      · rw [List.mem_singleton] at hk; rw [hk]; exact .inr hb
      · exact .inl (List.mem_append_right _ (List.mem_append_right _ hk))
end Go.Proofs.YtnloimanklkigaaDoor.V
