/- Texts that stand on one another, put together: VRefQuoted, YQuoted, YPut, YFrame, YPush. -/
import Derived.Test.YtmbmeidkmhajbaaDoorF4
import Derived.BigQuiet
import Derived.Deep.AppendLies
import Derived.Deep.Slices
import Derived.Laws.CopyRow
import Derived.Laws.OwnMore
/- The reference's Quoted. -/
namespace Go.Proofs.YtmbmeidkmhajbaaDoor.V
open Go.RowKit Go.Sort
set_option maxRecDepth 100000

theorem quot_row {w : World} {B n : Nat} {v : Value} {acc : List UInt8} {x : Int} {c : UInt8} (hx : x = c.toNat) (hn : n = acc.length) (hown : w.ownsRow B 5 1 v (n + 1) (Lib.byteCells acc ++ #[Value.int .u8 x].toList)) : w.ownsRow B 5 1 v (acc ++ [c]).length (Lib.byteCells (acc ++ [c])) := by
  subst hx hn
  rw [Lib.byteCells_append, List.length_append]
  exact hown

end Go.Proofs.YtmbmeidkmhajbaaDoor.V

/- The reader's text in quotes. -/
namespace Go.Proofs.YtmbmeidkmhajbaaDoor.V
set_option maxRecDepth 100000
open Go.RowKit Go.Sort Go.Joins

theorem own_seek {w w1 : World} {g B : Nat} {e : TypeId} {k n : Nat} {v : Value} {xs : List Value} (h : w.ownsRow B e k v n xs) (hg : w.grownBy w1 (some g)) (hlt : g < B) : w1.ownsRow B e k v n xs := h.kept hg (by
  cases hv : v.ownBlock with
  | none => exact .inl rfl
  | some b =>
    refine .inr (fun e => ?_)
    have := (h.lt b hv).1
    injection e with e
    omega)
theorem grown_own {w wr w2 : World} {g : Nat} {r : Option Nat} (h : w.grownBy wr (some g)) (k : wr.grownBy w2 r) (hr : ∀ j, r = some j → w.heap.size ≤ j) : w.grownBy w2 (some g) :=
  ⟨k.os.trans h.os, k.tape.trans h.tape, k.output.trans h.output, Nat.le_trans h.size k.size, fun j hj hne => (k.block j (Nat.lt_of_lt_of_le hj h.size) (fun e => by have := hr j e.symm; omega)).trans (h.block j hj hne)⟩
theorem own_form {w : World} {B : Nat} {e : TypeId} {k n : Nat} {v : Value} {xs : List Value} (h : w.ownsRow B e k v n xs) : ∃ a c, v = .slice a n c := by
  rcases h.2 with ⟨rfl, rfl⟩ | ⟨g, cap, cur, rfl, _⟩
  · exact ⟨none, 0, rfl⟩
  · exact ⟨_, _, rfl⟩
theorem map_map (acc : List UInt8) (c : UInt8) (x : Rd (List UInt8)) : (x.map (c :: ·)).map (acc ++ ·) = x.map ((acc ++ [c]) ++ ·) := by
  cases x with
  | bad e => rfl
  | ok a r => simp [Rd.map]
/-- what the reader's text comes to, from the quote at p on -/
def TxtPost (w : World) (g : Nat) (s : ByteArray) (p n : Nat) (vo : Value) (e : Ending) (w' : World) : Prop := w.grownBy w' (some g) ∧
  ((∃ er, rdT 0 (rest s (p + 1)) = .bad er ∧ e = errP er) ∨ (∃ k q, rdT 0 (rest s (p + 1)) = .ok k (rest s q) ∧ e = .returned (.string ⟨k.toArray⟩) ∧ p + 1 < q ∧ q ≤ s.size ∧ Lies w' g 55 (rdC s q n vo)))
set_option maxHeartbeats 12800000 in
theorem quotedY_any (w : World) (g : Nat) (s : ByteArray) (p n : Nat) (vo : Value) (hl : Lies w g 55 (rdC s p n vo)) (hp : p < s.size) (hs : s.size ≤ 65536) :
    Calls Tryd.prog 44 #[.pointer (some ⟨g, 0, none⟩)] w fun e w' => TxtPost w g s p n vo e w' := by
  obtain ⟨i0, hi, hz0, hz1, hz2⟩ := info_parts info5
  have hgw := hl.lt
  have c1 := rd_c1 hl
  have f1 := hl.frozen 1
  have hl1 := rd_at hl (z := (p : Int) + 1) (p + 1) (by omega)
  go_enter Tryd.func44, Tryd.ntmps44
  go_wp2_with fail
  go_loopw [3] (fun o wr => ∃ (q : Nat) (acc : List UInt8), p + 1 ≤ q ∧ q ≤ s.size ∧ Hid (rdT 0 (rest s (p + 1)) = (rdT acc.length (rest s q)).map (acc ++ ·)) ∧ acc.length ≤ 4000 ∧ wr.ownsRow w.heap.size 5 1 o acc.length (Lib.byteCells acc) ∧ Lies wr g 55 (rdC s q n vo) ∧ w.grownBy wr (some g)) (fun _ wr => s.size - placeOf wr g)
  case atStart =>
    refine ⟨p + 1, [], Nat.le_refl _, by omega, Lib.hid ?_, by simp, World.ownsRow_nil _ _ _ _, hl1, grown_set g (RowKit.Below.refl _ _) 1 _⟩
    cases rdT 0 (rest s (p + 1)) <;> simp [Rd.map]
  case round =>
    obtain ⟨q, acc, hpq, hq, HR, hal, ho, hl0, hb⟩ := hrel
    obtain ⟨ao, cao, hfo⟩ := own_form ho
    subst hfo
    clear c1 f1 hl1
    by_cases hlt : q < s.size
    case neg =>
      obtain rfl : q = s.size := by omega
      have HX := Lib.hid (show rdT 0 (rest s (p + 1)) = .bad 3 by rw [HR.out, rest_none, rdT_nil]; rfl)
      clear HR
      go_wp2_with (go_at_call 47; refine (take_short _ g s n vo hl0).mono ?_; rintro e w1 ⟨rfl, hb1⟩)
      exact ⟨rfl, by unfold TxtPost; exact ⟨grown_two hb (grown_of g hb1), .inl ⟨3, HX.out, rfl⟩⟩⟩
    have HT := take_ok wr g s q n vo hl0 hlt hs
    have hrc := rest_cons hlt
    obtain ⟨c, hc⟩ : ∃ c, s[q] = c := ⟨_, rfl⟩
    rw [hc] at HT hrc
    by_cases h34 : c = 34
    · subst h34
      have HX := Lib.hid (show rdT 0 (rest s (p + 1)) = .ok acc (rest s (q + 1)) by rw [HR.out, hrc, rdT_end]; simp [Rd.map])
      have HT : Calls Tryd.prog 47 #[.pointer (some ⟨g, 0, none⟩)] wr fun e w' => e = .returned (.int .u8 34) ∧ Lies w' g 55 (rdC s (q + 1) n vo) ∧ wr.grownBy w' (some g) := HT
      clear HR hc hrc
      go_wp2_with (go_at_call 47; refine HT.mono ?_; rintro e w1 ⟨rfl, hl1, hb1⟩; have ho1 := own_seek ho hb1 hgw; have hcv := str_own ho1)
      go_wp2
      go_ret
      unfold TxtPost
      exact ⟨grown_two hb hb1, .inr ⟨acc, q + 1, HX.out, rfl, by omega, by omega, hl1⟩⟩
    have e34 : ((c.toNat : Int) == 34) = false := by rw [beq_eq_false_iff_ne]; exact byte_ne h34
    by_cases h92 : c = 92
    · subst h92
      have HT : Calls Tryd.prog 47 #[.pointer (some ⟨g, 0, none⟩)] wr fun e w' => e = .returned (.int .u8 92) ∧ Lies w' g 55 (rdC s (q + 1) n vo) ∧ wr.grownBy w' (some g) := HT
      clear hc e34
      by_cases hlt2 : q + 1 < s.size
      case neg =>
        obtain hqs : q + 1 = s.size := by omega
        have HX := Lib.hid (show rdT 0 (rest s (p + 1)) = .bad 3 by rw [HR.out, hrc, hqs, rest_none, rdT_bar]; rfl)
        rw [hqs] at HT
        clear HR hrc
        go_wp2_with (first
          | (go_at_call 47; refine HT.mono ?_; rintro e w1 ⟨rfl, hl1, hb1⟩)
          | (go_at_call 60; refine (marked_short _ g s n vo hl1).mono ?_; rintro e w2 ⟨rfl, hb2⟩))
        exact ⟨rfl, by unfold TxtPost; exact ⟨grown_two hb (grown_two hb1 (grown_of g hb2)), .inl ⟨3, HX.out, rfl⟩⟩⟩
      obtain ⟨d, hd⟩ : ∃ d, s[q + 1] = d := ⟨_, rfl⟩
      have hrd := rest_cons hlt2
      rw [hd] at hrd
      by_cases hm : d = 34 ∨ d = 92
      case neg =>
        have hm2 : d ≠ 34 ∧ d ≠ 92 := ⟨fun e => hm (.inl e), fun e => hm (.inr e)⟩
        have HX := Lib.hid (show rdT 0 (rest s (p + 1)) = .bad 20 by rw [HR.out, hrc, hrd, rdT_odd hm2]; rfl)
        have HM := fun w1 hl1 => marked_odd w1 g s (q + 1) n vo hl1 hlt2 hs (by rw [hd]; exact hm2)
        clear HR hrc hrd hd
        go_wp2_with (first
          | (go_at_call 47; refine HT.mono ?_; rintro e w1 ⟨rfl, hl1, hb1⟩)
          | (go_at_call 60; refine (HM _ hl1).mono ?_; rintro e w2 ⟨rfl, hb2⟩))
        exact ⟨rfl, by unfold TxtPost; exact ⟨grown_two hb (grown_two hb1 hb2), .inl ⟨20, HX.out, rfl⟩⟩⟩
      have HM := fun w1 hl1 => marked_ok w1 g s (q + 1) n vo hl1 hlt2 hs (by rw [hd]; exact hm)
      rw [hd] at HM
      clear hd
      go_upto_region 10 with (first
        | (go_at_call 47; refine HT.mono ?_; rintro e w1 ⟨rfl, hl1, hb1⟩; have ho1 := own_seek ho hb1 hgw)
        | (go_at_call 60; refine (HM _ hl1).mono ?_; rintro e w2 ⟨rfl, hl2, hb2⟩; have ho2 := own_seek ho1 hb2 hgw; replace hb2 := grown_two hb (grown_two hb1 hb2)))
      by_cases hk : acc.length = 4000
      · have hk1 : ((acc.length : Int) == 4000) = true := by rw [hk]; rfl
        have HX := Lib.hid (show rdT 0 (rest s (p + 1)) = .bad 2 by rw [HR.out, hrc, hrd, rdT_esc hm, if_pos hk]; rfl)
        clear HR hk
        go_wp2
        exact ⟨rfl, by unfold TxtPost; exact ⟨hb2, .inl ⟨2, HX.out, rfl⟩⟩⟩
      · have hk1 : ((acc.length : Int) == 4000) = false := by rw [beq_eq_false_iff_ne]; omega
        have HX := Lib.hid (show rdT 0 (rest s (p + 1)) = (rdT (acc ++ [d]).length (rest s (q + 1 + 1))).map ((acc ++ [d]) ++ ·) by rw [HR.out, hrc, hrd, rdT_esc hm, if_neg hk, List.length_append, List.length_singleton]; exact map_map acc d _)
        have hz : (((d).toNat : Nat) : Int) = ((d).toNat : Int) := rfl
        clear HR
        have hsz2 : w.heap.size ≤ w2.heap.size := hb2.size
        go_wp2_with (at_builtin; refine wpList_append_lies _ rfl _ _ 42 (by rfl) w.heap.size 5 i0 _ 1 1 Tryd.underlying42 hi hz0 hz1 hz2 rfl (by omega) _ acc.length _ (by rfl) (ho2.alloc _) ⟨w2.heap.size, 0, none⟩ 1 1 _ (by rfl) (by rfl) (World.news_of_block (t := 5) (fr := (0, 0)) (heap_alloc_new w2 _)) (by simp [Value.oneCell']) (by omega) (by unfold maxLen; omega) (by omega) (by simp; omega) (w2.heap.size + 1) (by simp) ?_; intro g1 cap1 w3 hown1 hgrow1 hat1 hlt1)
        have hg2 := grown_own hb2 (grown_two (World.grownBy_alloc w2 _ _) hgrow1) (fun j hj => (ho2.lt j hj).1)
        have hl3 : Lies w3 g 55 (rdC s (q + 1 + 1) n vo) := (hl2.alloc _).only hgrow1 (by intro e; have := (ho2.lt g e.symm).1; omega)
        go_wp2
        go_roundw
        case rel => exact ⟨q + 1 + 1, acc ++ [d], by omega, by omega, HX, by rw [List.length_append, List.length_singleton]; omega, quot_row rfl rfl hown1, hl3, hg2⟩
        case measure =>
          rw [placeOf_rd hl3, placeOf_rd hl0]
          omega
    have e92 : ((c.toNat : Int) == 92) = false := by rw [beq_eq_false_iff_ne]; exact byte_ne h92
    by_cases hlo : c.toNat < 32
    · have HX := Lib.hid (show rdT 0 (rest s (p + 1)) = .bad 20 by rw [HR.out, hrc, rdT_low hlo]; rfl)
      have e32 : (c.toNat : Int) < 32 := by omega
      clear HR hrc hc
      go_wp2_with (go_at_call 47; refine HT.mono ?_; rintro e w1 ⟨rfl, hl1, hb1⟩)
      exact ⟨rfl, by unfold TxtPost; exact ⟨grown_two hb hb1, .inl ⟨20, HX.out, rfl⟩⟩⟩
    have e32 : ¬ (c.toNat : Int) < 32 := by omega
    clear hc
    go_upto_region 10 with (go_at_call 47; refine HT.mono ?_; rintro e w2 ⟨rfl, hl2, hb2⟩; have ho2 := own_seek ho hb2 hgw; replace hb2 := grown_two hb hb2)
    by_cases hk : acc.length = 4000
    · have hk1 : ((acc.length : Int) == 4000) = true := by rw [hk]; rfl
      have HX := Lib.hid (show rdT 0 (rest s (p + 1)) = .bad 2 by rw [HR.out, hrc, rdT_char hlo h34 h92, if_pos hk]; rfl)
      clear HR hk
      go_wp2
      exact ⟨rfl, by unfold TxtPost; exact ⟨hb2, .inl ⟨2, HX.out, rfl⟩⟩⟩
    · have hk1 : ((acc.length : Int) == 4000) = false := by rw [beq_eq_false_iff_ne]; omega
      have HX := Lib.hid (show rdT 0 (rest s (p + 1)) = (rdT (acc ++ [c]).length (rest s (q + 1))).map ((acc ++ [c]) ++ ·) by rw [HR.out, hrc, rdT_char hlo h34 h92, if_neg hk, List.length_append, List.length_singleton]; exact map_map acc c _)
      have hz : (((c).toNat : Nat) : Int) = ((c).toNat : Int) := rfl
      clear HR
      have hsz2 : w.heap.size ≤ w2.heap.size := hb2.size
      go_wp2_with (at_builtin; refine wpList_append_lies _ rfl _ _ 42 (by rfl) w.heap.size 5 i0 _ 1 1 Tryd.underlying42 hi hz0 hz1 hz2 rfl (by omega) _ acc.length _ (by rfl) (ho2.alloc _) ⟨w2.heap.size, 0, none⟩ 1 1 _ (by rfl) (by rfl) (World.news_of_block (t := 5) (fr := (0, 0)) (heap_alloc_new w2 _)) (by simp [Value.oneCell']) (by omega) (by unfold maxLen; omega) (by omega) (by simp; omega) (w2.heap.size + 1) (by simp) ?_; intro g1 cap1 w3 hown1 hgrow1 hat1 hlt1)
      have hg2 := grown_own hb2 (grown_two (World.grownBy_alloc w2 _ _) hgrow1) (fun j hj => (ho2.lt j hj).1)
      have hl3 : Lies w3 g 55 (rdC s (q + 1) n vo) := (hl2.alloc _).only hgrow1 (by intro e; have := (ho2.lt g e.symm).1; omega)
      go_wp2
      go_roundw
      case rel => exact ⟨q + 1, acc ++ [c], by omega, by omega, HX, by rw [List.length_append, List.length_singleton]; omega, quot_row rfl rfl hown1, hl3, hg2⟩
      case measure =>
        rw [placeOf_rd hl3, placeOf_rd hl0]
        omega
end Go.Proofs.YtmbmeidkmhajbaaDoor.V

/- A thing put behind a row that the call owns: room is made by 'append', then the thing is stored there and the row's value where it stands. -/
namespace Go.Proofs.YtmbmeidkmhajbaaDoor.V
set_option maxRecDepth 100000
open Go.RowKit Go.Sort Go.Joins

abbrev zero5 : List Value := [.int .i64 0, .int .i64 0, .string ⟨#[]⟩, .slice none 0 0, .slice none 0 0]
theorem take_fill {α : Type} (cur : List α) (xs z cs : List α) (hz : cs.length = z.length) (h : cur.take (xs.length + z.length) = xs ++ z) : (cur.take xs.length ++ cs ++ cur.drop (xs.length + cs.length)).take (xs.length + z.length) = xs ++ cs := by
  have h1 : cur.take xs.length = xs := by
    have := congrArg (List.take xs.length) h
    rw [List.take_take, List.take_left, Nat.min_eq_left (by omega)] at this
    exact this
  rw [h1, ← hz, ← List.length_append, List.take_left]
/-- what an own row is when its last element's cells are others -/
theorem OwnL.fill {w : World} {B k : Nat} {e : TypeId} {v : Value} {css : List (List Value)} {z : List Value} (h : OwnL w B e k v (css ++ [z])) :
    ∃ b cap cur, v = .slice (some ⟨b, 0, none⟩) (css.length + 1) cap ∧ B ≤ b ∧ w.heap[b]? = some (.cells cur e (0, 0)) ∧ (css.length + 1) * k ≤ cur.size ∧ css.length + 1 ≤ cap ∧ cap ≤ maxLen ∧
      ∀ (w2 : World) (cs : List Value), cs.length = k → w2.heap[b]? = some (.cells (cur.toList.take (css.length * k) ++ cs ++ cur.toList.drop (css.length * k + cs.length)).toArray e (0, 0)) → OwnL w2 B e k v (css ++ [cs]) := by
  obtain ⟨h0, hl, h1⟩ := h
  rw [List.length_append, List.length_singleton] at hl h1
  have hz : z.length = k := h0 z (by simp)
  have hcl : css.flatten.length = css.length * k := flat_len (fun c hc => h0 c (by simp [hc]))
  rcases h1 with ⟨_, h⟩ | ⟨b, cap, cur, hv, hB, hh, hc, hm, hs, ht⟩
  · omega
  · have hle : (css.length + 1) * k ≤ cap * k := Nat.mul_le_mul_right k hc
    refine ⟨b, cap, cur, hv, hB, hh, by omega, hc, hm, fun w2 cs hk h2 => ⟨fun c hx => ?_, ?_, .inr ⟨b, cap, _, ?_, hB, h2, ?_, hm, ?_, ?_⟩⟩⟩
    · rcases List.mem_append.1 hx with hx | hx
      · exact h0 c (by simp [hx])
      · rw [List.mem_singleton.1 hx]; exact hk
    · rw [List.flatten_append, List.length_append, hcl]
      simp [hk, Nat.add_mul]
    · rw [hv]; simp
    · simpa using hc
    · have e1 : cur.toList.length = cap * k := by rw [Array.length_toList]; exact hs
      rw [Nat.add_mul, Nat.one_mul] at hle
      simp only [List.size_toArray, List.length_append, List.length_take, List.length_drop, e1, hk]
      omega
    · rw [List.length_append, List.length_singleton, List.flatten_append]
      have e2 : [z].flatten = z := by simp
      have e3 : [cs].flatten = cs := by simp
      rw [List.flatten_append, e2] at ht
      rw [e3]
      have := take_fill cur.toList css.flatten z cs (by rw [hk, hz]) (by rw [hcl, hz, ← ht, Nat.add_mul, Nat.one_mul])
      rw [hcl, hz] at this
      rw [Nat.add_mul, Nat.one_mul]
      exact this
section
variable {a : Act} {x y : Operand} {t' : TypeId} {pos : String} {after : Array Edge} {gd : Option (Nat × Bool)}
theorem run_stV {w : World} {b o : Nat} {cur : Array Value} {e : TypeId} (cs : List Value) (hh : w.heap[b]? = some (.cells cur e (0, 0))) (hk : cs.length = 5) (ho : o + 5 ≤ cur.size) (h1 : ∀ u ∈ cs, u.oneCell' = true) (hx : a.eval x = .pointer (some ⟨b, o, none⟩)) (hy : a.eval y = .agg cs.toArray) :
    (execOp a.eval ⟨none, .store 25 x y, t', pos, after, gd⟩).run Tryd.prog w = .ok .skip (w.setRow b (cur.toList.take o ++ cs ++ cur.toList.drop (o + cs.length)).toArray) := by
  have h2 := run_storeCells_at (P := Tryd.prog) b o e cs 0 cur w hh (by omega) h1
  rw [Nat.add_zero] at h2
  have h3 : (storeVar 25 ⟨b, o, none⟩ (.agg cs.toArray)).run Tryd.prog w = .ok () (w.setRow b (cur.toList.take o ++ cs ++ cur.toList.drop (o + cs.length)).toArray) := by
    have hi : (Tryd.prog.info? 25).map (·.size) = some 5 := rowVal.2
    cases hq : Tryd.prog.info? 25 with
    | none => rw [hq] at hi; cases hi
    | some i =>
      have hs : i.size = 5 := by rw [hq] at hi; simpa using hi
      simp [storeVar, sizeOf, typeInfo, hq, Value.cells, hs, hk, h2]
  unfold execOp
  simp only [hx, hy, Instr.storeAt, Instr.sureAddr, Sem.run_bind, Sem.run_pure, Result.andThen_ok, h3]
theorem run_stR {w : World} (p : Addr) (old : Value) (aa : Option Addr) (n c : Nat) (hc : w.cell? p = some old) (hz : w.frozen? p = false) (hx : a.eval x = .pointer (some p)) (hy : a.eval y = .slice aa n c) :
    (execOp a.eval ⟨none, .store 22 x y, t', pos, after, gd⟩).run Tryd.prog w = .ok .skip (w.setCell p (.slice aa n c)) := by
  unfold execOp
  simp only [hx, hy]
  simp [Instr.storeAt, go_sem, hc, hz]
end
/-- cs was put behind the row v, that is v'' now, and stands in cell i of block h -/
structure PutDone (e : TypeId) (k : Nat) (w wf : World) (B h i : Nat) (v v'' : Value) (css : List (List Value)) (cs : List Value) : Prop where
  own : OwnL wf B e k v'' (css ++ [cs])
  cell : ∀ cur t fr, w.heap[h]? = some (.cells cur t fr) → wf.heap[h]? = some (.cells (cur.setIfInBounds i v'') t fr)
  turn : Turn (h :: blks v) [] w wf
  loc : blks v'' = blks v ∨ ∃ b, blks v'' = [b] ∧ w.heap.size ≤ b
section
variable {w w7 : World} {B h i b : Nat} {v v'' : Value} {css : List (List Value)} {cs : List Value} {cur : Array Value} {t7 e : TypeId} {k : Nat} {fr7 : Nat × Nat} {new : Array Value}
theorem turn_grown (hg : w.grownBy w7 v.ownBlock) : Turn (blks v) [] w w7 := ⟨hg.os, hg.tape, hg.output, hg.size, fun k hk hx => hg.block k hk (fun e => hx (by unfold blks; rw [← e]; simp)), fun _ h => by cases h⟩
theorem setRow_size (w : World) (g : Nat) (cs : Array Value) : (w.setRow g cs).heap.size = w.heap.size := by simp [World.setRow]
/-- the thing is stored first -/
theorem put_first (hg : w.grownBy w7 v.ownBlock) (hv : blks v'' = [b]) (hloc : blks v'' = blks v ∨ ∃ b, blks v'' = [b] ∧ w.heap.size ≤ b) (hh : h < w.heap.size) (hhv : h ∉ blks v) (hhb : h ≠ b)
    (h7 : w7.heap[b]? = some (.cells cur t7 fr7)) (hO : ∀ w2 : World, w2.heap[b]? = some (.cells new t7 fr7) → OwnL w2 B e k v'' (css ++ [cs])) :
    PutDone e k w ((w7.setRow b new).setCell ⟨h, i, none⟩ v'') B h i v v'' css cs := by
  have e1 : ((w7.setRow b new).setCell ⟨h, i, none⟩ v'').heap[b]? = some (.cells new t7 fr7) := (heap_setCell_other _ ⟨h, i, none⟩ b _ (fun e => hhb e.symm)).trans (setRow_heap w7 b cur new t7 fr7 h7)
  refine ⟨hO _ e1, fun c t fr hc => ?_, ?_, hloc⟩
  · have h1 : w7.heap[h]? = some (.cells c t fr) := (hg.block h hh (fun e => hhv (by unfold blks; rw [← e]; simp))).trans hc
    have h2 : (w7.setRow b new).heap[h]? = some (.cells c t fr) := (setRow_other w7 b h new hhb).trans h1
    rw [setCell_eq_setRow _ h i c t fr v'' h2]
    exact setRow_heap _ h c _ t fr h2
  · refine ⟨hg.os, hg.tape, hg.output, ?_, fun k hk hx => ?_, fun _ h => by cases h⟩
    · have : ((w7.setRow b new).setCell ⟨h, i, none⟩ v'').heap.size = w7.heap.size := by rw [show ((w7.setRow b new).setCell ⟨h, i, none⟩ v'').heap.size = (w7.setRow b new).heap.size by simp, setRow_size]
      rw [this]; exact hg.size
    · have hk1 : k ≠ h := fun e => hx (by rw [e]; exact List.mem_cons_self ..)
      have hk2 : k ≠ b := fun e => by
        rcases hloc with hl | ⟨b', hl, hlt⟩
        · exact hx (List.mem_cons_of_mem _ (by rw [← hl, hv, e]; simp))
        · rw [hv] at hl; simp at hl; omega
      exact ((heap_setCell_other _ ⟨h, i, none⟩ k _ hk1).trans (setRow_other w7 b k new hk2)).trans ((turn_grown hg).block k hk (fun e => hx (List.mem_cons_of_mem _ e)))
/-- the row's value is stored first -/
theorem put_last (hg : w.grownBy w7 v.ownBlock) (hv : blks v'' = [b]) (hloc : blks v'' = blks v ∨ ∃ b, blks v'' = [b] ∧ w.heap.size ≤ b) (hh : h < w.heap.size) (hhv : h ∉ blks v) (hhb : h ≠ b)
    (h7 : w7.heap[b]? = some (.cells cur t7 fr7)) (hO : ∀ w2 : World, w2.heap[b]? = some (.cells new t7 fr7) → OwnL w2 B e k v'' (css ++ [cs])) :
    PutDone e k w ((w7.setCell ⟨h, i, none⟩ v'').setRow b new) B h i v v'' css cs := by
  have e0 : (w7.setCell ⟨h, i, none⟩ v'').heap[b]? = some (.cells cur t7 fr7) := (heap_setCell_other _ ⟨h, i, none⟩ b _ (fun e => hhb e.symm)).trans h7
  refine ⟨hO _ (setRow_heap _ b cur new t7 fr7 e0), fun c t fr hc => ?_, ?_, hloc⟩
  · have h1 : w7.heap[h]? = some (.cells c t fr) := (hg.block h hh (fun e => hhv (by unfold blks; rw [← e]; simp))).trans hc
    refine (setRow_other _ b h new hhb).trans ?_
    rw [setCell_eq_setRow _ h i c t fr v'' h1]
    exact setRow_heap _ h c _ t fr h1
  · refine ⟨hg.os, hg.tape, hg.output, ?_, fun k hk hx => ?_, fun _ h => by cases h⟩
    · rw [setRow_size, show (w7.setCell ⟨h, i, none⟩ v'').heap.size = w7.heap.size by simp]; exact hg.size
    · have hk1 : k ≠ h := fun e => hx (by rw [e]; exact List.mem_cons_self ..)
      have hk2 : k ≠ b := fun e => by
        rcases hloc with hl | ⟨b', hl, hlt⟩
        · exact hx (List.mem_cons_of_mem _ (by rw [← hl, hv, e]; simp))
        · rw [hv] at hl; simp at hl; omega
      exact ((setRow_other _ b k new hk2).trans (heap_setCell_other _ ⟨h, i, none⟩ k _ hk1)).trans ((turn_grown hg).block k hk (fun e => hx (List.mem_cons_of_mem _ e)))
end
/-- what was put is in the row already; the row's value is stored -/
theorem put_value {w w7 : World} {B h i k : Nat} {e : TypeId} {v v'' : Value} {css : List (List Value)} {cs : List Value} (hg : w.grownBy w7 v.ownBlock) (hloc : blks v'' = blks v ∨ ∃ b, blks v'' = [b] ∧ w.heap.size ≤ b) (hh : h < w.heap.size) (hhv : h ∉ blks v)
    (hO : OwnL w7 B e k v'' (css ++ [cs])) : PutDone e k w (w7.setCell ⟨h, i, none⟩ v'') B h i v v'' css cs := by
  have hhb : ∀ b ∈ blks v'', b ≠ h := by
    intro b hb e
    rcases hloc with hl | ⟨b', hl, hlt⟩
    · exact hhv (by rw [← e, ← hl]; exact hb)
    · rw [hl, List.mem_singleton] at hb; omega
  refine ⟨⟨hO.1, hO.2.1, ?_⟩, fun c t fr hc => ?_, ?_, hloc⟩
  · rcases hO.2.2 with hv | ⟨b, cap, cur, hv, hB, hx, hr⟩
    · exact .inl hv
    · exact .inr ⟨b, cap, cur, hv, hB, (heap_setCell_other _ ⟨h, i, none⟩ b _ (hhb b (by rw [hv]; simp [blks, Value.ownBlock]))).trans hx, hr⟩
  · have h1 : w7.heap[h]? = some (.cells c t fr) := (hg.block h hh (fun e => hhv (by unfold blks; rw [← e]; simp))).trans hc
    rw [setCell_eq_setRow _ h i c t fr v'' h1]
    exact setRow_heap _ h c _ t fr h1
  · refine ⟨hg.os, hg.tape, hg.output, ?_, fun k hk hx => ?_, fun _ h => by cases h⟩
    · rw [show (w7.setCell ⟨h, i, none⟩ v'').heap.size = w7.heap.size by simp]; exact hg.size
    · have hk1 : k ≠ h := fun e => hx (by rw [e]; exact List.mem_cons_self ..)
      exact (heap_setCell_other _ ⟨h, i, none⟩ k _ hk1).trans ((turn_grown hg).block k hk (fun e => hx (List.mem_cons_of_mem _ e)))
section
variable {ops : Array Oper} {rest : List Oper} {a : Act} {w : World} {Q : Exit → Act → World → Prop} {t' : TypeId} {pos : String} {after : Array Edge}
theorem zero_one : ∀ u ∈ zero5, u.oneCell' = true := by
  intro u hu
  simp only [List.mem_cons, List.not_mem_nil, or_false] at hu
  rcases hu with rfl | rfl | rfl | rfl | rfl <;> rfl
/-- room for a value behind a row that the call owns -/
theorem wpL_roomV {d : Option Tmp} {x y : Tmp} (B : Nat) (v : Value) (css : List (List Value)) (bn : Nat) (hown : OwnL w B 25 5 v css) (hzl : Lies w bn 25 zero5.toArray) (hn : css.length ≤ 100000) (hbase : B ≤ w.heap.size)
    (hs : a.eval (.tmp x) = v) (hx : a.eval (.tmp y) = .slice (some ⟨bn, 0, none⟩) 1 1)
    (h : ∀ g cap w', OwnL w' B 25 5 (.slice (some ⟨g, 0, none⟩) (css.length + 1) cap) (css ++ [zero5]) → w.grownBy w' v.ownBlock → (v.ownBlock = some g ∨ g = w.heap.size) → wpList Tryd.prog ops Q rest (a.put d (.slice (some ⟨g, 0, none⟩) (css.length + 1) cap)) w') :
    wpList Tryd.prog ops Q (⟨d, .call { callee := .builtin .append, args := #[.tmp x, .tmp y], argTypes := #[22, 22] }, t', pos, after, none⟩ :: rest) a w := by
  obtain ⟨i0, hi, hz0, hz1, hz2⟩ := info_parts infoV
  refine wpList_append_lies (o := ⟨d, .call { callee := .builtin .append, args := #[.tmp x, .tmp y], argTypes := #[22, 22] }, t', pos, after, none⟩) w rfl _ _ 22 rfl B 25 i0 _ 5 80 Tryd.underlying22 hi hz0 hz1 hz2 rfl (by decide) v css.length css.flatten hs hown.2 ⟨bn, 0, none⟩ 1 1 zero5 hx rfl (fun j u hj => ?_) zero_one (by decide) (by unfold maxLen; omega) (by omega) hbase w.heap.size rfl (fun g cap w' h1 h2 h3 _ => h g cap w' ⟨fun c hc => ?_, ?_⟩ h2 h3)
  · rw [Addr.add_mid, Nat.zero_add, hzl.cell]
    simpa using hj
  · rcases List.mem_append.1 hc with hc | hc
    · exact hown.1 c hc
    · rw [List.mem_singleton.1 hc]; rfl
  · rw [List.length_append, List.length_singleton, List.flatten_append]
    simpa using h1
theorem infoT : (Tryd.prog.info? 9).map (fun i => (i.zero, i.size, i.bytes)) = some (some (.string ⟨#[]⟩), 1, 16) := by kernel_rfl
/-- a text behind a row of texts that the call owns -/
theorem wpL_putS {d : Option Tmp} {x y : Tmp} (B : Nat) (v : Value) (css : List (List Value)) (u : Value) (bn : Nat) (hown : OwnL w B 9 1 v css) (hu : u.oneCell' = true) (hzl : Lies w bn 9 #[u]) (hn : css.length ≤ 100000) (hbase : B ≤ w.heap.size)
    (hs : a.eval (.tmp x) = v) (hx : a.eval (.tmp y) = .slice (some ⟨bn, 0, none⟩) 1 1)
    (h : ∀ g cap w', OwnL w' B 9 1 (.slice (some ⟨g, 0, none⟩) (css.length + 1) cap) (css ++ [[u]]) → w.grownBy w' v.ownBlock → (v.ownBlock = some g ∨ g = w.heap.size) → wpList Tryd.prog ops Q rest (a.put d (.slice (some ⟨g, 0, none⟩) (css.length + 1) cap)) w') :
    wpList Tryd.prog ops Q (⟨d, .call { callee := .builtin .append, args := #[.tmp x, .tmp y], argTypes := #[23, 23] }, t', pos, after, none⟩ :: rest) a w := by
  obtain ⟨i0, hi, hz0, hz1, hz2⟩ := info_parts infoT
  refine wpList_append_lies (o := ⟨d, .call { callee := .builtin .append, args := #[.tmp x, .tmp y], argTypes := #[23, 23] }, t', pos, after, none⟩) w rfl _ _ 23 rfl B 9 i0 _ 1 16 Tryd.underlying23 hi hz0 hz1 hz2 rfl (by decide) v css.length css.flatten hs hown.2 ⟨bn, 0, none⟩ 1 1 [u] hx rfl (fun j x hj => ?_) (fun x hx => by rw [List.mem_singleton.1 hx]; exact hu) (by decide) (by unfold maxLen; omega) (by omega) hbase w.heap.size rfl (fun g cap w' h1 h2 h3 _ => h g cap w' ⟨fun c hc => ?_, ?_⟩ h2 h3)
  · rw [Addr.add_mid, Nat.zero_add, hzl.cell]
    simpa using hj
  · rcases List.mem_append.1 hc with hc | hc
    · exact hown.1 c hc
    · rw [List.mem_singleton.1 hc]; rfl
  · rw [List.length_append, List.length_singleton, List.flatten_append]
    simpa using h1
end
end Go.Proofs.YtmbmeidkmhajbaaDoor.V

/- What is open: an item put into it, a key, one more opened, the innermost one ended. -/
namespace Go.Proofs.YtmbmeidkmhajbaaDoor.V
set_option maxRecDepth 100000
open Go.RowKit Go.Sort Go.Joins

theorem OwnL.setAt {w w2 : World} {B k b j : Nat} {e : TypeId} {n cap : Nat} {css : List (List Value)} {z : List Value} {u : Value} (h : OwnL w B e k (.slice (some ⟨b, 0, none⟩) n cap) (css ++ [z]))
    (h2 : ∀ cur t fr, w.heap[b]? = some (.cells cur t fr) → w2.heap[b]? = some (.cells (cur.setIfInBounds (css.length * k + j) u) t fr)) : OwnL w2 B e k (.slice (some ⟨b, 0, none⟩) n cap) (css ++ [z.set j u]) := by
  obtain ⟨h0, hl, h1⟩ := h
  have hz : z.length = k := h0 z (by simp)
  have hcl : css.flatten.length = css.length * k := flat_len (fun c hc => h0 c (by simp [hc]))
  rcases h1 with ⟨h, _⟩ | ⟨b', cap', cur, hv, hB, hh, hc, hm, hs, ht⟩
  · cases h
  · injection hv with e1 e2 e3
    injection e1 with e1
    injection e1 with e1
    subst e1 e3
    have hh2 := h2 _ _ _ hh
    refine ⟨fun c hx => ?_, ?_, .inr ⟨b, cap, _, by simp [e2], hB, hh2, ?_, hm, by simpa using hs, ?_⟩⟩
    · rcases List.mem_append.1 hx with hx | hx
      · exact h0 c (by simp [hx])
      · rw [List.mem_singleton.1 hx, List.length_set]; exact hz
    · simp [hcl, hz, Nat.add_mul]
    · simpa using hc
    · rw [List.length_append, List.length_singleton] at ht ⊢
      rw [Array.toList_setIfInBounds, List.take_set, ht, List.flatten_append, List.flatten_append]
      have e4 : [z].flatten = z := by simp
      have e5 : [z.set j u].flatten = z.set j u := by simp
      rw [e4, e5, List.set_append_right _ _ (by omega)]
      congr 2
      omega
theorem OwnL.front {w : World} {B k b cap : Nat} {e : TypeId} {css : List (List Value)} {z : List Value} (h : OwnL w B e k (.slice (some ⟨b, 0, none⟩) (css.length + 1) cap) (css ++ [z])) : OwnL w B e k (.slice (some ⟨b, 0, none⟩) css.length cap) css := by
  obtain ⟨h0, hl, h1⟩ := h
  have hcl : css.flatten.length = css.length * k := flat_len (fun c hc => h0 c (by simp [hc]))
  rcases h1 with ⟨h, _⟩ | ⟨b', cap', cur, hv, hB, hh, hc, hm, hs, ht⟩
  · cases h
  · injection hv with e1 e2 e3
    injection e1 with e1
    injection e1 with e1
    subst e1 e3
    rw [List.length_append, List.length_singleton] at hc ht
    refine ⟨fun c hx => h0 c (by simp [hx]), hcl, .inr ⟨b, cap, cur, rfl, hB, hh, by omega, hm, hs, ?_⟩⟩
    have := congrArg (List.take (css.length * k)) ht
    rw [List.take_take, Nat.min_eq_left (by rw [Nat.add_mul]; omega), List.flatten_append, List.take_append_of_le_length (by omega), List.take_of_length_le (l := css.flatten) (by omega)] at this
    exact this
section
variable {w wf : World} {g B p n : Nat} {E : List Nat} {s : ByteArray} {vo : Value} {ms : List Fm} {m : Fm}
theorem St.sepE (h : St w g E B s p n vo ms) : ∀ b ∈ blks vo ++ ms.flatMap Fm.blks, b ∉ E := by
  intro b hb hx
  have hn : (E ++ (blks vo ++ ms.flatMap Fm.blks)).Nodup := (List.nodup_cons.1 h.nd).2
  exact (List.nodup_append.1 hn).2.2 b hx b hb rfl
theorem St.sep (h : St w g E B s p n vo ms) : ∀ m ∈ ms, ∀ b ∈ m.blks, b ∉ g :: blks vo := by
  intro m hm b hb hx
  have hn : ((g :: blks vo) ++ ms.flatMap Fm.blks).Nodup := h.nd'
  exact (List.nodup_append.1 hn).2.2 b hx b (List.mem_flatMap.2 ⟨m, hm, hb⟩) rfl
/-- the innermost one's own rows are apart from all others -/
theorem St.sepTop (h : St w g E B s p n vo (m :: ms)) : (∀ b ∈ blks m.vi, b ∉ g :: blks vo ∧ b ∉ blks m.vk) ∧ (∀ b ∈ blks m.vk, b ∉ g :: blks vo) ∧ ∀ m' ∈ ms, ∀ b ∈ m'.blks, b ∉ blks m.vi ∧ b ∉ blks m.vk := by
  have hn : ((g :: blks vo) ++ (m :: ms).flatMap Fm.blks).Nodup := h.nd'
  rw [List.flatMap_cons] at hn
  have h1 := (List.nodup_append.1 hn).2.1
  have h2 := List.nodup_append.1 h1
  have h3 : (blks m.vi ++ blks m.vk).Nodup := h2.1
  have h4 := List.nodup_append.1 h3
  refine ⟨fun b hb => ⟨h.sep m (by simp) b (List.mem_append_left _ hb), fun hx => h4.2.2 b hb b hx rfl⟩, fun b hb => h.sep m (by simp) b (List.mem_append_right _ hb), fun m' hm b hb => ⟨fun hx => ?_, fun hx => ?_⟩⟩
  · exact h2.2.2 b (List.mem_append_left _ hx) b (List.mem_flatMap.2 ⟨m', hm, hb⟩) rfl
  · exact h2.2.2 b (List.mem_append_right _ hx) b (List.mem_flatMap.2 ⟨m', hm, hb⟩) rfl
theorem St.push (h : St w g E B s p n vo ms) {v'' : Value} (map : Bool) (f : Nat) (hf : s.size - p ≤ f) (hms : ms.length < 12) (hp : PutDone 25 5 w wf B g 3 vo v'' (ms.map Fm.cells).reverse (Fm.mk ⟨map, [], [], f⟩ (.slice none 0 0) (.slice none 0 0)).cells) :
    St wf g E B s p n v'' (⟨⟨map, [], [], f⟩, .slice none 0 0, .slice none 0 0⟩ :: ms) ∧ Turn (live g E vo ms) (live g E v'' (⟨⟨map, [], [], f⟩, .slice none 0 0, .slice none 0 0⟩ :: ms)) w wf := by
  have hX : Turn (live g E vo ms) (live g E v'' (⟨⟨map, [], [], f⟩, .slice none 0 0, .slice none 0 0⟩ :: ms)) w wf := by
    refine hp.turn.wide (fun k hk => ?_) (fresh_put (A := g :: E) (C := ms.flatMap Fm.blks) hp.loc)
    rcases List.mem_cons.1 hk with rfl | hk
    · exact List.mem_cons_self ..
    · exact List.mem_cons_of_mem _ (List.mem_append_right _ (List.mem_append_left _ hk))
  have hCl : ∀ k ∈ ms.flatMap Fm.blks, k < w.heap.size := fun k hk => (h.tail_lt k (List.mem_append_right _ hk)).2
  refine ⟨⟨?_, h.gB, Nat.le_trans h.Bw hX.size, ⟨h.er.1.turn hX h.erX, h.er.2⟩, fun b hb => ⟨(h.hE b hb).1, Nat.lt_of_lt_of_le (h.hE b hb).2 hX.size⟩, ?_, ?_, fun m hm => ?_, h.hp, h.hs, ?_, h.hn, fun m hm => ?_⟩, hX⟩
  · exact hp.cell _ _ _ h.rd
  · rw [List.map_cons, List.reverse_cons]; exact hp.own
  · exact nodup_put (A := g :: E) (C := ms.flatMap Fm.blks) (N := w.heap.size) h.nd (fun k hk => by
      rcases List.mem_cons.1 hk with rfl | hk
      · exact Nat.lt_of_lt_of_le h.gB h.Bw
      · exact (h.hE k hk).2) hCl hp.loc
  · rcases List.mem_cons.1 hm with rfl | hm
    · exact ⟨⟨[], OwnL.nil _ _ _ _, rfl, fun i cs x h1 => by simp at h1⟩, OwnL.nil _ _ _ _, fun _ => rfl, Nat.zero_le _, Nat.zero_le _, fun k hk => by cases hk⟩
    · exact (h.fm m hm).turn hX hp.turn (h.sep m hm) (Nat.le_refl _)
  · rw [List.length_cons]; omega
  · rcases List.mem_cons.1 hm with rfl | hm
    · exact hf
    · exact h.hf m hm
/-- an item goes into the innermost one -/
theorem St.item (h : St w g E B s p n vo (m :: ms)) {ics : List (List Value)} (hi : ItemsX (live g E vo (m :: ms)) w ics m.fr.items) {cs : List Value} {x : VT} {d sb cap : Nat} {v'' : Value} (hx : IsVX (live g E vo (m :: ms)) w d cs x) (hvo : vo = .slice (some ⟨sb, 0, none⟩) (ms.length + 1) cap) (few : m.fr.items.length + 1 ≤ p)
    (hp : PutDone 25 5 w wf B sb (ms.length * 5 + 3) m.vi v'' ics cs) :
    St wf g E B s p n vo (⟨⟨m.fr.map, m.fr.items ++ [x], m.fr.keys, m.fr.f⟩, v'', m.vk⟩ :: ms) ∧ Turn (live g E vo (m :: ms)) (live g E vo (⟨⟨m.fr.map, m.fr.items ++ [x], m.fr.keys, m.fr.f⟩, v'', m.vk⟩ :: ms)) w wf := by
  have hbv : blks vo = [sb] := by rw [hvo]; rfl
  obtain ⟨s1, s2, s3⟩ := h.sepTop
  rw [hbv] at s1 s2
  have hX : Turn (live g E vo (m :: ms)) (live g E vo (⟨⟨m.fr.map, m.fr.items ++ [x], m.fr.keys, m.fr.f⟩, v'', m.vk⟩ :: ms)) w wf := by
    refine hp.turn.wide (fun k hk => ?_) (fun k hk => ?_)
    · rcases List.mem_cons.1 hk with rfl | hk
      · exact List.mem_cons_of_mem _ (List.mem_append_right _ (List.mem_append_left _ (by rw [hbv]; simp)))
      · exact List.mem_cons_of_mem _ (List.mem_append_right _ (List.mem_append_right _ (List.mem_flatMap.2 ⟨m, by simp, List.mem_append_left _ hk⟩)))
    · have := fresh_put (A := g :: (E ++ blks vo)) (C := blks m.vk ++ ms.flatMap Fm.blks) hp.loc k (by simpa [live, Fm.blks, List.append_assoc] using hk)
      simpa [live, Fm.blks, List.append_assoc] using this
  have hlt : ∀ k ∈ live g E vo (m :: ms), k < w.heap.size := fun k hk => (h.live_lt k hk).2
  have hmo := h.fm m (by simp)
  refine ⟨⟨?_, h.gB, Nat.le_trans h.Bw hX.size, ⟨h.er.1.turn hX h.erX, h.er.2⟩, fun b hb => ⟨(h.hE b hb).1, Nat.lt_of_lt_of_le (h.hE b hb).2 hX.size⟩, ?_, ?_, fun m' hm => ?_, h.hp, h.hs, h.hms, h.hn, fun m' hm => ?_⟩, hX⟩
  · refine hp.turn.lies (fun hk => ?_) h.rd
    rcases List.mem_cons.1 hk with e | hk
    · have := (h.own.blk_lt sb (by rw [hbv]; simp)).1
      have h2 := h.gB
      omega
    · exact (s1 g hk).1 (by simp)
  · have ho := h.own
    rw [List.map_cons, List.reverse_cons, hvo] at ho
    rw [List.map_cons, List.reverse_cons, hvo]
    refine ho.setAt (j := 3) (u := v'') (fun cur t fr hc => ?_)
    rw [List.length_reverse, List.length_map]
    exact hp.cell cur t fr hc
  · have := nodup_put (A := g :: (E ++ blks vo)) (Y' := blks v'') (C := blks m.vk ++ ms.flatMap Fm.blks) (N := w.heap.size) (by simpa [live, Fm.blks, List.append_assoc] using h.nd) (fun k hk => hlt k (by
      simp only [live, List.mem_cons, List.mem_append] at hk ⊢
      rcases hk with hk | hk | hk
      · exact .inl hk
      · exact .inr (.inl hk)
      · exact .inr (.inr (.inl hk)))) (fun k hk => hlt k (by
      simp only [live, Fm.blks, List.flatMap_cons, List.mem_cons, List.mem_append] at hk ⊢
      rcases hk with hk | hk
      · exact .inr (.inr (.inr (.inl (.inr hk))))
      · exact .inr (.inr (.inr (.inr hk))))) hp.loc
    simpa [live, Fm.blks, List.append_assoc] using this
  · rcases List.mem_cons.1 hm with rfl | hm
    · refine ⟨⟨_, hp.own, (hi.turn hX).snoc (hx.turn hX)⟩, hmo.keys.turn hp.turn (fun b hb hk => ?_), hmo.none, ?_, hmo.fewk, hmo.short⟩
      · rcases List.mem_cons.1 hk with e | hk
        · exact s2 b hb (by rw [e]; simp)
        · exact (s1 b hk).2 hb
      · rw [List.length_append, List.length_singleton]; exact few
    · refine (h.fm m' (by simp [hm])).turn hX hp.turn (fun b hb hk => ?_) (Nat.le_refl _)
      rcases List.mem_cons.1 hk with e | hk
      · exact h.sep m' (by simp [hm]) b hb (by rw [hbv, e]; simp)
      · exact (s3 m' hm b hb).1 hk
  · rcases List.mem_cons.1 hm with rfl | hm
    · exact h.hf m (by simp)
    · exact h.hf m' (by simp [hm])
/-- a key goes into the innermost one -/
theorem St.key (h : St w g E B s p n vo (m :: ms)) {key : List UInt8} {sb cap : Nat} {v'' : Value} (hk4 : key.length ≤ 4000) (hmap : m.fr.map = true) (hvo : vo = .slice (some ⟨sb, 0, none⟩) (ms.length + 1) cap) (few : m.fr.keys.length + 1 ≤ p)
    (hp : PutDone 9 1 w wf B sb (ms.length * 5 + 4) m.vk v'' (m.fr.keys.map fun k => [str k]) [str key]) :
    St wf g E B s p n vo (⟨⟨m.fr.map, m.fr.items, m.fr.keys ++ [key], m.fr.f⟩, m.vi, v''⟩ :: ms) ∧ Turn (live g E vo (m :: ms)) (live g E vo (⟨⟨m.fr.map, m.fr.items, m.fr.keys ++ [key], m.fr.f⟩, m.vi, v''⟩ :: ms)) w wf := by
  have hbv : blks vo = [sb] := by rw [hvo]; rfl
  obtain ⟨s1, s2, s3⟩ := h.sepTop
  rw [hbv] at s1 s2
  have hX : Turn (live g E vo (m :: ms)) (live g E vo (⟨⟨m.fr.map, m.fr.items, m.fr.keys ++ [key], m.fr.f⟩, m.vi, v''⟩ :: ms)) w wf := by
    refine hp.turn.wide (fun k hk => ?_) (fun k hk => ?_)
    · rcases List.mem_cons.1 hk with rfl | hk
      · exact List.mem_cons_of_mem _ (List.mem_append_right _ (List.mem_append_left _ (by rw [hbv]; simp)))
      · exact List.mem_cons_of_mem _ (List.mem_append_right _ (List.mem_append_right _ (List.mem_flatMap.2 ⟨m, by simp, List.mem_append_right _ hk⟩)))
    · have := fresh_put (A := g :: (E ++ (blks vo ++ blks m.vi))) (C := ms.flatMap Fm.blks) hp.loc k (by simpa [live, Fm.blks, List.append_assoc] using hk)
      simpa [live, Fm.blks, List.append_assoc] using this
  have hlt : ∀ k ∈ live g E vo (m :: ms), k < w.heap.size := fun k hk => (h.live_lt k hk).2
  have hmo := h.fm m (by simp)
  refine ⟨⟨?_, h.gB, Nat.le_trans h.Bw hX.size, ⟨h.er.1.turn hX h.erX, h.er.2⟩, fun b hb => ⟨(h.hE b hb).1, Nat.lt_of_lt_of_le (h.hE b hb).2 hX.size⟩, ?_, ?_, fun m' hm => ?_, h.hp, h.hs, h.hms, h.hn, fun m' hm => ?_⟩, hX⟩
  · refine hp.turn.lies (fun hk => ?_) h.rd
    rcases List.mem_cons.1 hk with e | hk
    · have := (h.own.blk_lt sb (by rw [hbv]; simp)).1
      have h2 := h.gB
      omega
    · exact s2 g hk (by simp)
  · have ho := h.own
    rw [List.map_cons, List.reverse_cons, hvo] at ho
    rw [List.map_cons, List.reverse_cons, hvo]
    refine ho.setAt (j := 4) (u := v'') (fun cur t fr hc => ?_)
    rw [List.length_reverse, List.length_map]
    exact hp.cell cur t fr hc
  · have := nodup_put (A := g :: (E ++ (blks vo ++ blks m.vi))) (Y' := blks v'') (C := ms.flatMap Fm.blks) (N := w.heap.size) (by simpa [live, Fm.blks, List.append_assoc] using h.nd) (fun k hk => hlt k (by
      simp only [live, Fm.blks, List.flatMap_cons, List.mem_cons, List.mem_append] at hk ⊢
      rcases hk with hk | hk | hk | hk
      · exact .inl hk
      · exact .inr (.inl hk)
      · exact .inr (.inr (.inl hk))
      · exact .inr (.inr (.inr (.inl (.inl hk)))))) (fun k hk => hlt k (by
      simp only [live, List.flatMap_cons, List.mem_cons, List.mem_append] at hk ⊢
      exact .inr (.inr (.inr (.inr hk))))) hp.loc
    simpa [live, Fm.blks, List.append_assoc] using this
  · rcases List.mem_cons.1 hm with rfl | hm
    · obtain ⟨ics, i1, i2⟩ := hmo.items
      refine ⟨⟨ics, i1.turn hp.turn (fun b hb hk => ?_), i2.turn hX⟩, ?_, fun e => ?_, hmo.few, ?_, fun k hk => ?_⟩
      · rcases List.mem_cons.1 hk with e | hk
        · exact (s1 b hb).1 (by rw [e]; simp)
        · exact (s1 b hb).2 hk
      · rw [List.map_append]; exact hp.own
      · rw [hmap] at e; cases e
      · rw [List.length_append, List.length_singleton]; exact few
      · rcases List.mem_append.1 hk with hk | hk
        · exact hmo.short k hk
        · rw [List.mem_singleton.1 hk]; exact hk4
    · refine (h.fm m' (by simp [hm])).turn hX hp.turn (fun b hb hk => ?_) (Nat.le_refl _)
      rcases List.mem_cons.1 hk with e | hk
      · exact h.sep m' (by simp [hm]) b hb (by rw [hbv, e]; simp)
      · exact (s3 m' hm b hb).2 hk
  · rcases List.mem_cons.1 hm with rfl | hm
    · exact h.hf m (by simp)
    · exact h.hf m' (by simp [hm])
theorem ItemsX.deep {X : List Nat} {w : World} {ics : List (List Value)} {l : List VT} (h : ItemsX X w ics l) : ∃ d, ∀ (i : Nat) (cs : List Value) (x : VT), ics[i]? = some cs → l[i]? = some x → IsVX X w d cs x := by
  obtain ⟨d, hd⟩ := Go.Deep.fuel_lt (n := l.length) (q := fun i d => ∀ (cs : List Value) (x : VT), ics[i]? = some cs → l[i]? = some x → IsVX X w d cs x) (fun i a b hab h cs x h1 h2 => (h cs x h1 h2).mono hab) (fun i hi => by
    have h1 : ics[i]? = some (ics[i]'(by rw [h.1]; exact hi)) := List.getElem?_eq_getElem _
    have h2 : l[i]? = some (l[i]) := List.getElem?_eq_getElem _
    obtain ⟨d, hd⟩ := h.2 i _ _ h1 h2
    refine ⟨d, fun cs x g1 g2 => ?_⟩
    rw [h1] at g1
    rw [h2] at g2
    cases g1
    cases g2
    exact hd)
  exact ⟨d, fun i cs x h1 h2 => hd i (List.getElem?_eq_some_iff.1 h2).1 cs x h1 h2⟩
theorem keys_flat : ∀ l : List (List UInt8), (l.map fun k => [str k]).flatten = l.map str := by
  intro l
  induction l with
  | nil => rfl
  | cons k l ih => simp [ih]
/-- the innermost one is a value, apart from what is open still -/
theorem FmOk.value {X X' : List Nat} (h : FmOk w B X p m) (hX : ∀ b, b ∈ X' → b ∈ X) (hi : ∀ b ∈ blks m.vi, b ∉ X') (hk : ∀ b ∈ blks m.vk, b ∉ X') : ∃ d, IsVX X' w d m.cells m.vt := by
  have hX' : Turn X X' w w := (Turn.refl X w).wide (fun k hk => hk) (fun k hk => .inl (hX k hk))
  obtain ⟨⟨ics, h1, h2⟩, h3, h4, h5, h6, h7⟩ := h
  obtain ⟨d, hd⟩ := (h2.turn hX').deep
  obtain ⟨r0, a, c, hv, hc, hm, hn, hl⟩ := h1.read
  refine ⟨d + 1, m.vi, m.vk, rfl, ⟨?_, (show (-9223372036854775808 : Int) ≤ 0 ∧ (0 : Int) ≤ 9223372036854775807 by decide), Nat.zero_le _, fun k hk => ?_⟩, ?_, ⟨a, c, ?_, ?_, hm, hn, fun hpos => ?_⟩, fun _ b hb => hk b ?_, fun _ b hb => hi b ?_⟩
  · show -9223372036854775808 ≤ m.fr.kind ∧ m.fr.kind ≤ _
    unfold Fr.kind
    cases m.fr.map <;> decide
  · have := h7 k hk
    unfold maxLen
    omega
  · have := h3.2
    rw [keys_flat] at this
    exact Strs.owned this
  · rw [hv, h2.1]; rfl
  · rw [h2.1] at hc; exact hc
  · have hpos : 0 < m.fr.items.length := hpos
    obtain ⟨b, off, ha, hx⟩ := hl (by rw [h2.1]; exact hpos)
    refine ⟨b, off, ha, fun i hi => ?_⟩
    have hi : i < m.fr.items.length := hi
    have g1 : ics[i]? = some (ics[i]'(by rw [h2.1]; exact hi)) := List.getElem?_eq_getElem _
    have g2 : m.fr.items[i]? = some (m.fr.items[i]) := List.getElem?_eq_getElem _
    exact ⟨_, r0 _ (List.mem_of_getElem? g1), hx i _ g1, _, g2, hd i _ _ g1 g2⟩
  · unfold blks; rw [hb]; simp
  · unfold blks; rw [hb]; simp
/-- the innermost one ends -/
theorem St.pop (h : St w g E B s p n vo (m :: ms)) {sb cap : Nat} (hl : Lies wf g 55 (rdC s p n (.slice (some ⟨sb, 0, none⟩) ms.length cap))) (hg : w.grownBy wf (some g)) (hvo : vo = .slice (some ⟨sb, 0, none⟩) (ms.length + 1) cap) :
    St wf g E B s p n (.slice (some ⟨sb, 0, none⟩) ms.length cap) ms ∧ Turn (live g E vo (m :: ms)) (live g E (.slice (some ⟨sb, 0, none⟩) ms.length cap) ms) w wf ∧ ∃ d, IsVX (live g E (.slice (some ⟨sb, 0, none⟩) ms.length cap) ms) wf d m.cells m.vt := by
  have hbv : blks vo = [sb] := by rw [hvo]; rfl
  have hY : Turn [g] [g] w wf := Turn.of_grown hg (List.mem_singleton.2 rfl)
  have hsub : ∀ k, k ∈ live g E (.slice (some ⟨sb, 0, none⟩) ms.length cap) ms → k ∈ live g E vo (m :: ms) := by
    intro k hk
    simp only [live, List.flatMap_cons, List.mem_cons, List.mem_append] at hk ⊢
    rcases hk with hk | hk | hk | hk
    · exact .inl hk
    · exact .inr (.inl hk)
    · exact .inr (.inr (.inl (by rw [hbv]; exact hk)))
    · exact .inr (.inr (.inr (.inr hk)))
  have hX : Turn (live g E vo (m :: ms)) (live g E (.slice (some ⟨sb, 0, none⟩) ms.length cap) ms) w wf := hY.wide (fun k hk => by rw [List.mem_singleton.1 hk]; exact List.mem_cons_self ..) (fun k hk => .inl (hsub k hk))
  have hgn : ∀ b ∈ blks vo ++ (m :: ms).flatMap Fm.blks, b ∉ [g] := fun b hb e => by
    have h1 := (h.tail_lt b hb).1
    have h2 := h.gB
    rw [List.mem_singleton] at e
    omega
  have hfl : ∀ m' ∈ m :: ms, ∀ b ∈ m'.blks, b ∈ blks vo ++ (m :: ms).flatMap Fm.blks := fun m' hm b hb => List.mem_append_right _ (List.mem_flatMap.2 ⟨m', hm, hb⟩)
  obtain ⟨s1, s2, s3⟩ := h.sepTop
  have hmo : FmOk wf B (live g E (.slice (some ⟨sb, 0, none⟩) ms.length cap) ms) p m := (h.fm m (by simp)).turn hX hY (fun b hb => hgn b (hfl m (by simp) b hb)) (Nat.le_refl _)
  refine ⟨⟨hl, h.gB, Nat.le_trans h.Bw hX.size, ⟨h.er.1.turn hX h.erX, h.er.2⟩, fun b hb => ⟨(h.hE b hb).1, Nat.lt_of_lt_of_le (h.hE b hb).2 hX.size⟩, ?_, ?_, fun m' hm => (h.fm m' (by simp [hm])).turn hX hY (fun b hb => hgn b (hfl m' (by simp [hm]) b hb)) (Nat.le_refl _), h.hp, h.hs, ?_, h.hn, fun m' hm => h.hf m' (by simp [hm])⟩, hX, ?_⟩
  · have ho := h.own
    rw [List.map_cons, List.reverse_cons, hvo] at ho
    have hl2 : ms.length = (ms.map Fm.cells).reverse.length := by simp
    rw [hl2] at ho ⊢
    exact ho.front.turn hY (fun b hb => hgn b (List.mem_append_left _ (by rw [hbv]; exact hb)))
  · refine h.nd.sublist ?_
    unfold live
    rw [hbv, List.flatMap_cons]
    exact ((List.Sublist.refl E).append ((List.Sublist.refl [sb]).append (List.sublist_append_right _ _))).cons_cons g
  · have := h.hms
    rw [List.length_cons] at this
    omega
  · refine hmo.value (fun b hb => hb) (fun b hb hx => ?_) (fun b hb hx => ?_)
    · simp only [live, List.mem_cons, List.mem_append] at hx
      rcases hx with hx | hx | hx | hx
      · exact (s1 b hb).1 (by rw [hx]; simp)
      · exact h.sepE b (List.mem_append_right _ (List.mem_flatMap.2 ⟨m, by simp, List.mem_append_left _ hb⟩)) hx
      · exact (s1 b hb).1 (by rw [hbv]; exact List.mem_cons_of_mem _ hx)
      · obtain ⟨m', hm, hb'⟩ := List.mem_flatMap.1 hx
        exact (s3 m' hm b hb').1 hb
    · simp only [live, List.mem_cons, List.mem_append] at hx
      rcases hx with hx | hx | hx | hx
      · exact s2 b hb (by rw [hx]; simp)
      · exact h.sepE b (List.mem_append_right _ (List.mem_flatMap.2 ⟨m, by simp, List.mem_append_right _ hb⟩)) hx
      · exact s2 b hb (by rw [hbv]; exact List.mem_cons_of_mem _ hx)
      · obtain ⟨m', hm, hb'⟩ := List.mem_flatMap.1 hx
        exact (s3 m' hm b hb').2 hb
end
end Go.Proofs.YtmbmeidkmhajbaaDoor.V

/- The stack's push and pop. -/
namespace Go.Proofs.YtmbmeidkmhajbaaDoor.V
set_option maxRecDepth 100000
open Go.RowKit Go.Sort Go.Joins

theorem St.form {w : World} {g B p n : Nat} {E : List Nat} {s : ByteArray} {vo : Value} {ms : List Fm} (h : St w g E B s p n vo ms) : ∃ a c, vo = .slice a ms.length c ∧ ms.length ≤ c := by
  obtain ⟨a, c, hv, hc, _⟩ := h.own.form
  rw [List.length_reverse, List.length_map] at hv hc
  exact ⟨a, c, hv, hc⟩
section
variable {a : Act} {d : Option Tmp} {x y : Operand} {t' : TypeId} {pos : String} {after : Array Edge} {gd : Option (Nat × Bool)} {w : World}
theorem run_idxV (b n c k : Nat) (hk : k < n) (hx : a.eval x = .slice (some ⟨b, 0, none⟩) n c) (hy : a.eval y = .int .i64 (k : Int)) :
    (execOp a.eval ⟨d, .indexAddr 22 x y, t', pos, after, gd⟩).run Tryd.prog w = .ok (.value (.pointer (some ⟨b, k * 5, none⟩))) w := by
  unfold execOp
  simp only [hx, hy]
  simp [Instr.indexAt, run_underlying Tryd.underlying22, go_sem]
  omega
end
section
variable {a : Act} {d : Option Tmp} {x : Operand} {t' : TypeId} {pos : String} {after : Array Edge} {gd : Option (Nat × Bool)}
theorem run_lenR (s : Option Addr) (n c : Nat) (hx : a.eval x = .slice s n c) (w : World) : (execOp a.eval ⟨d, .call { callee := .builtin .len, args := #[x], argTypes := #[22] }, t', pos, after, gd⟩).run Tryd.prog w = .ok (.value (.int .i64 (n : Int))) w := by
  have hr : (Builtin.len_ #[22] t' #[.slice s n c]).run Tryd.prog w = .ok (.int .i64 (n : Int)) w := by simp [go_sem]
  simp [execOp, resolve, invoke, builtin, hx, hr, Result.andThen]
end
theorem wpOp_skpN {P : Program} {ops : Array Oper} {Q : Exit → Act → World → Prop} {a : Act} {w w' : World} {i : Nat} {o : Oper} {K : Act → World → Prop} (hi : ops[i]? = some o) (hd : o.dst = none) (hw : Region.wanted o (yielded ops a.tmps) = true) (hr : (execOp a.eval o).run P w = .ok .skip w') (h : K a w') : wpOp P ops Q i K a w :=
  wpOp_skp hi hw hr (by rw [hd]; exact h)
theorem slice_inj {b b2 n cap cap2 : Nat} (h : Value.slice (some ⟨b, 0, none⟩) n cap = .slice (some ⟨b2, 0, none⟩) n cap2) : b = b2 ∧ cap = cap2 := by
  injection h with h1 _ h3
  injection h1 with h1
  injection h1 with h1
  exact ⟨h1, h3⟩
theorem live_len (g : Nat) (E : List Nat) (a : Option Addr) (n n' c c' : Nat) (ms : List Fm) : live g E (.slice a n c) ms = live g E (.slice a n' c') ms := by cases a <;> rfl
theorem loc_of {v : Value} {b n cap N M : Nat} (h : v.ownBlock = some b ∨ b = M) (hle : N ≤ M) : blks (.slice (some ⟨b, 0, none⟩) n cap) = blks v ∨ ∃ b', blks (.slice (some ⟨b, 0, none⟩) n cap) = [b'] ∧ N ≤ b' := by
  rcases h with h | h
  · exact .inl (blks_some h).symm
  · exact .inr ⟨b, rfl, by omega⟩
theorem loc_ne {v : Value} {b n cap N x : Nat} (h : blks (.slice (some ⟨b, 0, none⟩) n cap) = blks v ∨ ∃ b', blks (.slice (some ⟨b, 0, none⟩) n cap) = [b'] ∧ N ≤ b') (hx : x ∉ blks v) (hlt : x < N) : x ≠ b := by
  rintro rfl
  rcases h with h | ⟨b', h, hb⟩
  · exact hx (by rw [← h]; simp [blks, Value.ownBlock])
  · have : x = b' := by simpa [blks, Value.ownBlock] using h
    omega
theorem own_ne {v : Value} {x : Nat} (hx : x ∉ blks v) : some x ≠ v.ownBlock := fun e => hx (by unfold blks; rw [← e]; simp)
section
variable {a : Act} {d : Option Tmp} {x : Operand} {t' : TypeId} {pos : String} {after : Array Edge} {gd : Option (Nat × Bool)}
theorem run_ldV {w : World} (b n : Nat) (cs : Array Value) (hs : cs.size = 5) (hg : Lies w b n cs) (hx : a.eval x = .pointer (some ⟨b, 0, none⟩)) :
    (execOp a.eval ⟨d, .load 25 x, t', pos, after, gd⟩).run Tryd.prog w = .ok (.value (.agg cs)) w := by
  unfold execOp
  simp only [hx, Instr.loadAt, Instr.sureAddr, Sem.run_bind, Sem.run_pure, Result.andThen_ok, run_loadVar_row w b n 25 cs (0, 0) _ hg Tryd.underlying25 rfl (by rw [hs]; exact rowVal.2)]
end
theorem St.push2 {w wf : World} {g B p n : Nat} {E : List Nat} {s : ByteArray} {vo : Value} {ms : List Fm} (h : St w g E B s p n vo ms) {v'' : Value} (map : Bool) (f : Nat) (hf : s.size - p ≤ f) (hms : ms.length < 12) {css : List (List Value)} {cs : List Value} (hcss : (ms.map Fm.cells).reverse = css) (hcs : cs = (Fm.mk ⟨map, [], [], f⟩ (.slice none 0 0) (.slice none 0 0)).cells) (hp : PutDone 25 5 w wf B g 3 vo v'' css cs) :
    St wf g E B s p n v'' (⟨⟨map, [], [], f⟩, .slice none 0 0, .slice none 0 0⟩ :: ms) ∧ Turn (live g E vo ms) (live g E v'' (⟨⟨map, [], [], f⟩, .slice none 0 0, .slice none 0 0⟩ :: ms)) w wf := by
  subst hcss hcs
  exact h.push map f hf hms hp
set_option maxHeartbeats 3200000 in
theorem push_any (w : World) (g : Nat) (E : List Nat) (B : Nat) (s : ByteArray) (p n : Nat) (vo : Value) (ms : List Fm) (h : St w g E B s p n vo ms) (map : Bool) (f : Nat) (hf : s.size - p ≤ f) (hms : ms.length < 12) :
    Calls Tryd.prog 61 #[.pointer (some ⟨g, 3, none⟩), .agg #[.int .i64 (Fr.kind ⟨map, [], [], f⟩), .int .i64 0, .string ⟨#[]⟩, .slice none 0 0, .slice none 0 0]] w fun e w' =>
      e = .returned (.tuple #[]) ∧ ∃ v'', St w' g E B s p n v'' (⟨⟨map, [], [], f⟩, .slice none 0 0, .slice none 0 0⟩ :: ms) ∧ Turn (live g [] vo ms) (live g [] v'' (⟨⟨map, [], [], f⟩, .slice none 0 0, .slice none 0 0⟩ :: ms)) w w' := by
  obtain ⟨kd, hkd⟩ : ∃ kd, Fr.kind ⟨map, [], [], f⟩ = kd := ⟨_, rfl⟩
  rw [hkd]
  have hba := (RowKit.Below.refl w.heap.size w).alloc (Nat.le_refl _) (.cells #[.int .i64 kd, .int .i64 0, .string ⟨#[]⟩, .slice none 0 0, .slice none 0 0] 25)
  have lA := Lies.new w 25 #[.int .i64 kd, .int .i64 0, .string ⟨#[]⟩, .slice none 0 0, .slice none 0 0]
  have h1 := (h.below hba).1
  have ht1 := (h.drop.below hba).2
  have hbx : w.heap.size ∉ g :: blks vo := fun hx => by
    have := (h.live_lt w.heap.size (by
      rcases List.mem_cons.1 hx with hx | hx
      · rw [hx]; exact List.mem_cons_self ..
      · exact List.mem_cons_of_mem _ (List.mem_append_right _ (List.mem_append_left _ hx)))).2
    omega
  go_enter Tryd.func61, Tryd.ntmps61
  go_upto_region 1 with fail
  have hBxB : g ≠ w.heap.size := fun e => hbx (by rw [← e]; exact List.mem_cons_self ..)
  have hbxv : w.heap.size ∉ blks vo := fun hx => hbx (List.mem_cons_of_mem _ hx)
  have hbxh : w.heap.size ≠ g := fun e => hBxB e.symm
  generalize World.alloc w _ = wa at *
  obtain ⟨cs, hcs⟩ : ∃ cs : List Value, cs = [.int .i64 kd, .int .i64 0, .string ⟨#[]⟩, .slice none 0 0, .slice none 0 0] := ⟨_, rfl⟩
  have hcs5 : cs.length = 5 := by rw [hcs]; rfl
  have hone : ∀ u ∈ cs, u.oneCell' = true := by
    rw [hcs]
    intro u hu
    simp only [List.mem_cons, List.not_mem_nil, or_false] at hu
    rcases hu with rfl | rfl | rfl | rfl | rfl <;> rfl
  have lA : Lies wa w.heap.size 25 cs.toArray := by rw [hcs]; exact lA
  generalize w.heap.size = bx at *
  refine wp_held_any (S := fun w => Lies w bx 25 cs.toArray) 13 rfl (by kernel_rfl) ?_
  have hdr : RowKit.Below wa.heap.size wa { wa with drawn := wa.drawn + 1 } := (RowKit.Below.refl _ _).drew
  have h2 := (h1.below hdr).1
  have ht2 := (h1.drop.below hdr).2
  have hT := ht1.trans ht2
  have hS0 := lA.on hdr
  clear hdr
  generalize ({ wa with drawn := wa.drawn + 1 } : World) = wd at *
  obtain ⟨a, c, hvo, hcc⟩ := h2.form
  have hL := h2.rd
  have hO := h2.own
  have hBw := h2.Bw
  have hlen : (ms.map Fm.cells).reverse.length = ms.length := by simp
  have hn : (ms.map Fm.cells).reverse.length ≤ 100000 := by omega
  have hhv : g ∉ blks vo := fun hx => by have := (h2.own.blk_lt g hx).1; have := h2.gB; omega
  generalize hcss : (ms.map Fm.cells).reverse = css at *
  subst hvo
  rw [← hlen] at *
  have hCi : (rdC s p n (.slice a css.length c))[3]? = some (.slice a css.length c) := rfl
  refine held_put 0 4 (.pointer (some ⟨g, 3, none⟩)) rfl rfl (by kernel_rfl) (by kernel_rfl) (by kernel_rfl) (by kernel_rfl) (fun w hS => rfl) hS0 ?_
  simp only [List.setIfInBounds_toArray, List.set_cons_succ, List.set_cons_zero]
  refine held_put 1 5 (.pointer (some ⟨g, 3, none⟩)) rfl rfl (by kernel_rfl) (by kernel_rfl) (by kernel_rfl) (by kernel_rfl) (fun w hS => rfl) hS0 ?_
  simp only [List.setIfInBounds_toArray, List.set_cons_succ, List.set_cons_zero]
  refine held_put 2 6 (.pointer (some ⟨g, 3, none⟩)) rfl rfl (by kernel_rfl) (by kernel_rfl) (by kernel_rfl) (by kernel_rfl) (fun w hS => rfl) hS0 ?_
  simp only [List.setIfInBounds_toArray, List.set_cons_succ, List.set_cons_zero]
  refine held_put 4 8 (.agg cs.toArray) rfl rfl (by kernel_rfl) (by kernel_rfl) (by kernel_rfl) (by kernel_rfl) (fun w hS => run_ldV bx _ _ (by simpa using hcs5) hS rfl) hS0 ?_
  simp only [List.setIfInBounds_toArray, List.set_cons_succ, List.set_cons_zero]
  have zA := Lies.new wd 25 #[.int .i64 0, .int .i64 0, .string ⟨#[]⟩, .slice none 0 0, .slice none 0 0]
  have zb : RowKit.Below wd.heap.size wd (wd.alloc (.cells #[.int .i64 0, .int .i64 0, .string ⟨#[]⟩, .slice none 0 0, .slice none 0 0] 25)) := (RowKit.Below.refl _ _).alloc (Nat.le_refl _) _
  refine held_two 3 6 (by kernel_rfl) (wpOp_put 7 (w' := wd) (v := (.slice a css.length c)) rfl rfl (by kernel_rfl) (run_ldR _ _ ((hL.cell 3).trans hCi) rfl) ⟨hS0, ?_⟩) (wpOp_put 10 (w' := (wd.alloc (.cells #[.int .i64 0, .int .i64 0, .string ⟨#[]⟩, .slice none 0 0, .slice none 0 0] 25))) (v := .slice (some ⟨wd.heap.size, 0, none⟩) 1 1) rfl rfl (by kernel_rfl) (by kernel_rfl) ⟨hS0.alloc _, ?_⟩)
  focus
    simp only [List.setIfInBounds_toArray, List.set_cons_succ, List.set_cons_zero]
    refine held_put 5 9 (.int .i64 (css.length : Int)) rfl rfl (by kernel_rfl) (by kernel_rfl) (by kernel_rfl) (by kernel_rfl) (fun w hS => run_lenR _ _ _ rfl w) hS0 ?_
    simp only [List.setIfInBounds_toArray, List.set_cons_succ, List.set_cons_zero]
    refine held_one 6 (by kernel_rfl) (wpOp_put 10 (w' := (wd.alloc (.cells #[.int .i64 0, .int .i64 0, .string ⟨#[]⟩, .slice none 0 0, .slice none 0 0] 25))) (v := .slice (some ⟨wd.heap.size, 0, none⟩) 1 1) rfl rfl (by kernel_rfl) (by kernel_rfl) ⟨hS0.alloc _, ?_⟩)
    simp only [List.setIfInBounds_toArray, List.set_cons_succ, List.set_cons_zero]
  rotate_left
  focus
    simp only [List.setIfInBounds_toArray, List.set_cons_succ, List.set_cons_zero]
    refine held_one 3 (by kernel_rfl) (wpOp_put 7 (w' := (wd.alloc (.cells #[.int .i64 0, .int .i64 0, .string ⟨#[]⟩, .slice none 0 0, .slice none 0 0] 25))) (v := (.slice a css.length c)) rfl rfl (by kernel_rfl) (run_ldR _ _ (((hL.alloc _).cell 3).trans hCi) rfl) ⟨hS0.alloc _, ?_⟩)
    simp only [List.setIfInBounds_toArray, List.set_cons_succ, List.set_cons_zero]
    refine held_put 5 9 (.int .i64 (css.length : Int)) rfl rfl (by kernel_rfl) (by kernel_rfl) (by kernel_rfl) (by kernel_rfl) (fun w hS => run_lenR _ _ _ rfl w) (hS0.alloc _) ?_
    simp only [List.setIfInBounds_toArray, List.set_cons_succ, List.set_cons_zero]
  all_goals
    have hSz := hS0.alloc (.cells #[.int .i64 0, .int .i64 0, .string ⟨#[]⟩, .slice none 0 0, .slice none 0 0] 25)
    have hOz := hO.on zb
    have hLz := hL.alloc (.cells #[.int .i64 0, .int .i64 0, .string ⟨#[]⟩, .slice none 0 0, .slice none 0 0] 25)
    have hBz : B ≤ (wd.alloc (.cells #[.int .i64 0, .int .i64 0, .string ⟨#[]⟩, .slice none 0 0, .slice none 0 0] 25)).heap.size := Nat.le_trans hBw zb.size
    have hgz := World.grownBy_alloc wd (.cells #[.int .i64 0, .int .i64 0, .string ⟨#[]⟩, .slice none 0 0, .slice none 0 0] 25) (Value.slice a css.length c).ownBlock
    generalize (wd.alloc (.cells #[.int .i64 0, .int .i64 0, .string ⟨#[]⟩, .slice none 0 0, .slice none 0 0] 25)) = wz at *
    refine held_one 7 (by kernel_rfl) (wpOp_lawD 11 rfl rfl (by kernel_rfl) (wpL_roomV B _ css wd.heap.size hOz zA hn hBz rfl rfl ?_))
    intro b cap w7 hown7 hgr7 hloc7
    have hloc := loc_of (n := css.length + 1) (cap := cap) hloc7 zb.size
    have hbb : bx ≠ b := loc_ne hloc hbxv hS0.lt
    have hhb : g ≠ b := loc_ne hloc hhv hL.lt
    have hS7 := hSz.only hgr7 (own_ne hbxv)
    have hL7 := hLz.only hgr7 (own_ne hhv)
    have hg7 := grown_two hgz hgr7
    refine ⟨hS7, ?_⟩
    simp only [Act.put, List.setIfInBounds_toArray, List.set_cons_succ, List.set_cons_zero]
    refine held_put 8 12 (.pointer (some ⟨b, css.length * 5, none⟩)) rfl rfl (by kernel_rfl) (by kernel_rfl) (by kernel_rfl) (by kernel_rfl) (fun w hS => run_idxV b _ _ _ (by omega) rfl rfl) hS7 ?_
    simp only [List.setIfInBounds_toArray, List.set_cons_succ, List.set_cons_zero]
    refine held_put 10 13 (.pointer (some ⟨g, 3, none⟩)) rfl rfl (by kernel_rfl) (by kernel_rfl) (by kernel_rfl) (by kernel_rfl) (fun w hS => rfl) hS7 ?_
    simp only [List.setIfInBounds_toArray, List.set_cons_succ, List.set_cons_zero]
    refine held_put 11 14 (.pointer (some ⟨g, 3, none⟩)) rfl rfl (by kernel_rfl) (by kernel_rfl) (by kernel_rfl) (by kernel_rfl) (fun w hS => rfl) hS7 ?_
    simp only [List.setIfInBounds_toArray, List.set_cons_succ, List.set_cons_zero]
    obtain ⟨b2, cap2, cur, e2, hB2, hh7, hsz7, hcap7, _, hfill⟩ := hown7.fill
    obtain ⟨rfl, rfl⟩ := slice_inj e2
    refine held_two 9 12 (by kernel_rfl) (wpOp_skpN rfl rfl (by kernel_rfl) (run_stV cs (hh7) hcs5 (by omega) hone rfl rfl) ⟨hS7.rowFar hbb _, ?_⟩) (wpOp_skpN rfl rfl (by kernel_rfl) (run_stR _ _ _ _ _ ((hL7.cell 3).trans hCi) (hL7.frozen 3) rfl rfl) ⟨hS7.far hbxh _, ?_⟩)
    focus
      refine held_one 12 (by kernel_rfl) (wpOp_skpN rfl rfl (by kernel_rfl) (run_stR _ _ _ _ _ (((hL7.rowFar hhb _).cell 3).trans hCi) ((hL7.rowFar hhb _).frozen 3) rfl rfl) ⟨(hS7.rowFar hbb _).far hbxh _, ?_⟩)
      have PD := put_first (i := 3) hg7 rfl hloc hL.lt hhv hhb hh7 (fun w2 h2 => hfill w2 cs hcs5 h2)
    rotate_left
    focus
      refine held_one 9 (by kernel_rfl) (wpOp_skpN rfl rfl (by kernel_rfl) (run_stV cs ((heap_setCell_other _ ⟨g, 3, none⟩ _ _ (fun e => hhb e.symm)).trans hh7) hcs5 (by omega) hone rfl rfl) ⟨(hS7.far hbxh _).rowFar hbb _, ?_⟩)
      have PD := put_last (i := 3) hg7 rfl hloc hL.lt hhv hhb hh7 (fun w2 h2 => hfill w2 cs hcs5 h2)
    all_goals
      refine held_done (by kernel_rfl) ?_
      simp only [Exit.then]
      have hS' := (h2.push2 map f hf (by omega) hcss (by rw [hcs]; unfold Fm.cells; rw [hkd]) PD).1
      have hT' := (h2.drop.push2 map f hf (by omega) hcss (by rw [hcs]; unfold Fm.cells; rw [hkd]) PD).2
      first | go_end0 | refine bodyPost_ret (results_none rfl _ _ _) rfl ?_
      exact ⟨rfl, _, hS', by rw [live_len g [] a ms.length css.length c c]; exact hT.trans hT'⟩
theorem grown_row {w : World} (b : Nat) (cs : Array Value) : w.grownBy (w.setRow b cs) (some b) := ⟨rfl, rfl, rfl, Nat.le_of_eq (setRow_size w b cs).symm, fun k _ hne => setRow_other w b k cs (fun e => hne (by rw [e]))⟩
theorem below_top {w : World} {g B p n : Nat} {E : List Nat} {s : ByteArray} {vo : Value} {m : Fm} {ms : List Fm} (h : St w g E B s p n vo (m :: ms)) : ∃ sb cap, vo = .slice (some ⟨sb, 0, none⟩) (ms.length + 1) cap ∧ ms.length + 1 ≤ cap ∧ w.rangeAt sb (ms.length * 5) m.cells ∧ (∃ C, Lies w sb 25 C) ∧ sb ≠ g := by
  have ho := h.own
  rw [List.map_cons, List.reverse_cons] at ho
  have hlen : (ms.map Fm.cells).reverse.length = ms.length := by simp
  obtain ⟨b, cap, cur, hv, hB, hh, hsz, hc, hm, _⟩ := ho.fill
  rw [hlen] at hv hsz hc
  refine ⟨b, cap, hv, hc, ?_, ⟨cur, hh⟩, fun e => by have := h.gB; omega⟩
  rw [hv] at ho
  obtain ⟨b', off, e1, hr, _⟩ := ho.read.at (i := ms.length) (cs := m.cells) (by rw [← hlen]; simp)
  injection e1 with e1
  injection e1 with e1 e2
  subst e1 e2
  rw [Nat.zero_add] at hr
  exact hr
set_option maxHeartbeats 3200000 in
theorem pop_any (w : World) (g : Nat) (E : List Nat) (B : Nat) (s : ByteArray) (p n : Nat) (vo : Value) (m : Fm) (ms : List Fm) (h : St w g E B s p n vo (m :: ms)) :
    Calls Tryd.prog 50 #[.pointer (some ⟨g, 3, none⟩)] w fun e w' => e = .returned (.agg m.cells.toArray) ∧ ∃ vo', St w' g E B s p n vo' ms ∧ Turn (live g [] vo (m :: ms)) (live g [] vo' ms) w w' ∧ ∃ d, IsVX (live g E vo' ms) w' d m.cells m.vt := by
  obtain ⟨sb, cap, hvo, hcap, hr, ⟨C, hC⟩, hne⟩ := below_top h
  have hms := h.hms
  rw [List.length_cons] at hms
  have hgw := h.rd.lt
  have hfm := h.fm m (by simp)
  obtain ⟨ics, hio, _⟩ := hfm.items
  obtain ⟨ai, ci, hvi, _⟩ := hio.form
  obtain ⟨ak, ck, hvk, _⟩ := hfm.keys.form
  generalize ics.length = ni at hvi
  generalize (m.fr.keys.map fun k => [str k]).length = nk at hvk
  clear hio hfm
  obtain ⟨kd, hkd⟩ : ∃ v, m.fr.kind = v := ⟨_, rfl⟩
  have hcs : m.cells = [.int .i64 kd, .int .i64 0, .string ⟨#[]⟩, .slice ai ni ci, .slice ak nk ck] := by unfold Fm.cells; rw [hvi, hvk, hkd]
  have hba := (RowKit.Below.refl w.heap.size w).alloc (Nat.le_refl _) (.cells valZ 25)
  have lA := Lies.new w 25 valZ
  obtain ⟨h1, ht1⟩ := h.below hba
  have r1 := range_below hba hr
  rw [hcs] at r1
  clear hr
  go_enter Tryd.func50, Tryd.ntmps50
  go_upto_region 1 with fail
  generalize World.alloc w _ = wa at *
  have c3 := rd_c3 h1.rd
  rw [hvo] at c3
  go_upto_region 2 with (first
    | (go_at_call 46; refine (top_any _ g sb ms.length cap c3 (by omega)).mono ?_; rintro e w2 ⟨rfl, hb2⟩; replace r1 := range_below hb2 r1; obtain ⟨h2, ht2⟩ := h1.below hb2)
    | ((with_reducible refine wpL_loadMid sb (ms.length * 5) _ 5 rowVal rfl r1 ?_ ?_); rfl)
    | ((with_reducible refine wpL_store w2.heap.size 25 valZ #[.int .i64 kd, .int .i64 0, .string ⟨#[]⟩, .slice ai ni ci, .slice ak nk ck] 5 rowVal rfl rfl (valC_one _ _ _ _ _ _ _ _ _) (Lies.new w2 _ _) ?_ ?_ ?_); rfl; rfl))
  have hb3 : RowKit.Below w2.heap.size w2 ((w2.alloc (.cells valZ 25)).setRow w2.heap.size #[.int .i64 kd, .int .i64 0, .string ⟨#[]⟩, .slice ai ni ci, .slice ak nk ck]) := below_rowSet ((RowKit.Below.refl _ _).alloc (Nat.le_refl _) _) (Nat.le_refl _) _
  have lB : Lies ((w2.alloc (.cells valZ 25)).setRow w2.heap.size #[.int .i64 kd, .int .i64 0, .string ⟨#[]⟩, .slice ai ni ci, .slice ak nk ck]) w2.heap.size 25 #[.int .i64 kd, .int .i64 0, .string ⟨#[]⟩, .slice ai ni ci, .slice ak nk ck] := (Lies.new w2 _ _).row _
  obtain ⟨h3, ht3⟩ := h2.below hb3
  have lA3 := (lA.on hb2).on hb3
  have hAB : w.heap.size ≠ w2.heap.size := fun e => by have := (lA.on hb2).lt; omega
  have hgB : g ≠ w2.heap.size := fun e => by have := (h2.rd).lt; omega
  have hgA : g ≠ w.heap.size := by omega
  have hw3 := grown_of g ((hba.trans (hb2.mono hba.size)).trans (hb3.mono (Nat.le_trans hba.size hb2.size)))
  simp only [Act.put]
  generalize World.setRow _ _ _ = w3 at *
  generalize w2.heap.size = bB at *
  have d3 := rd_c3 h3.rd
  rw [hvo] at d3
  have f3 := h3.rd.frozen 3
  clear c3 r1 lA hb2 hb3 hba h1 h2 ht1 ht2 ht3
  generalize hbA : w.heap.size = bA at *
  go_region
  have hgr : w3.grownBy ((w3.setCell ⟨g, 3, none⟩ (.slice (some ⟨sb, 0, none⟩) ms.length cap)).drew) (some g) := grown_two (grown_set g (RowKit.Below.refl _ _) 3 _) (grown_of g (RowKit.Below.refl _ _).drew)
  have l4 := (rd_o h3.rd (.slice (some ⟨sb, 0, none⟩) ms.length cap)).drew
  replace lB := lB.only hgr (by intro e; injection e with e; exact hgB e.symm)
  replace lA3 := lA3.only hgr (by intro e; injection e with e; exact hgA e.symm)
  have hw4 := grown_two hw3 hgr
  clear d3 f3 hgr h3 hw3
  generalize World.drew _ = w4 at *
  go_wp2_with (first
    | ((with_reducible refine wpL_load bB 25 _ 5 rowVal rfl lB ?_ ?_); rfl)
    | ((with_reducible refine wpL_store bA 25 valZ #[.int .i64 kd, .int .i64 0, .string ⟨#[]⟩, .slice ai ni ci, .slice ak nk ck] 5 rowVal rfl rfl (valC_one _ _ _ _ _ _ _ _ _) lA3 ?_ ?_ ?_); rfl; rfl))
  have hw5 : w4.grownBy (w4.setRow bA #[.int .i64 kd, .int .i64 0, .string ⟨#[]⟩, .slice ai ni ci, .slice ak nk ck]) (some bA) := grown_row bA _
  obtain ⟨h6, _, hx6⟩ := h.pop (l4.rowFar hgA _) (grown_own hw4 hw5 (fun j hj => by injection hj with hj; omega)) hvo
  have ht6 := (h.drop.pop (l4.rowFar hgA _) (grown_own hw4 hw5 (fun j hj => by injection hj with hj; omega)) hvo).2.1
  refine bodyPost_ret (results_row Tryd.results50 rowVal rfl (lA3.row _) rfl) rfl ?_
  exact ⟨by rw [hcs], _, h6, ht6, hx6⟩
end Go.Proofs.YtmbmeidkmhajbaaDoor.V

