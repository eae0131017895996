/- The contract of octet's Pack: the parts put together, or its error. -/
import Derived.Test.YtckamablodhecaaBuild
import Derived.Test.YtckamablodhecaaUnpack
import Derived.Test.YtckamablodhecaaBig
namespace Go.Proofs.Ytckamablodhecaa
open Go.RowKit

theorem builder_below {T e : TypeId} {B b : Nat} {bs : List Value} {w w1 : World} (h : Lib.IsBuilder T e B b bs w) (hb : Below w.heap.size w w1) : Lib.IsBuilder T e B b bs w1 := by
  have one : ∀ p, Lib.BuilderAt T e B b p bs w → Lib.BuilderAt T e B b p bs w1 := by
    intro p hp
    have hlt := hp.lt
    obtain ⟨hB, v, hh, ho, hne⟩ := hp
    exact ⟨hB, v, (hb.block b hlt).trans hh, own_below ho hb, hne⟩
  exact h.imp (one _) (one _)
theorem write_list (B b : Nat) (l x : List UInt8) (w : World) (h : Lib.IsBuilder 55 5 B b (Lib.byteCells l) w) (hlen : l.length + x.length ≤ 1000000) (hBw : B ≤ w.heap.size) :
    Calls Try.prog 27 #[.pointer (some ⟨b, 0, none⟩), .string ⟨x.toArray⟩] w fun e w' => e = .returned (.tuple #[.int .i64 x.length, .nilIface]) ∧ (Lib.IsBuilder 55 5 B b (Lib.byteCells (l ++ x)) w' ∧ Below B w w') := by
  have h1 := write_any B b (Lib.byteCells l) ⟨x.toArray⟩ w h (by rw [Lib.byteCells_length, str_size]; omega) hBw
  rw [str_size] at h1
  refine h1.mono fun e w' ⟨he, hat, hb⟩ => ⟨he, Or.inr ?_, hb⟩
  rw [Lib.byteCells_append]
  exact hat
theorem builder_new (w : World) : Lib.IsBuilder 55 5 w.heap.size w.heap.size (Lib.byteCells []) (w.alloc (.cells #[.pointer none, .slice none 0 0] 55)) :=
  Or.inl ⟨Nat.le_refl _, _, heap_alloc_new w _, World.ownsRow_nil _ _ _ _, by simp [Value.ownBlock]⟩

theorem fits_four (n : Nat) (h : n < 4294967296) : ((n : Int) / 2 ^ (8 * 4) != 0) = false := by
  have : (n : Int) / 2 ^ (8 * 4) = 0 := by omega
  rw [this]
  decide
theorem take_frames {l : List (List UInt8)} {k : Nat} {x : List UInt8} (h : l[k]? = some x) : packL (l.take (k + 1)) = packL (l.take k) ++ bigL x.length 4 ++ x := by
  rw [List.take_add_one, h, Option.toList_some, packL_snoc, frameL, List.append_assoc]
theorem take_packed (l : List (List UInt8)) (k : Nat) : (packL (l.take k)).length ≤ (packL l).length := by
  have e : packL l = packL (l.take k) ++ packL (l.drop k) := by rw [← packL_append, List.take_append_drop]
  rw [e, List.length_append]; omega

theorem pack_many (w : World) (v : Value) (l : List (List UInt8)) (hl : Strs w v l) (h : 64 < l.length) :
    Calls Try.prog 19 #[v] w fun e w' => e = .returned (.tuple #[.string ByteArray.empty, .int .i64 22]) ∧ Below w.heap.size w w' := by
  obtain ⟨a, c, rfl, hc, hm, hn, hl⟩ := hl
  unfold maxLen at hm
  go_enter Try.func19, Try.ntmps19
  go_wp2
  go_ret2
  exact ⟨rfl, Below.refl _ _⟩

theorem pack_long (w : World) (v : Value) (l : List (List UInt8)) (hl : Strs w v l) (hx : ∀ x ∈ l, x.length ≤ 1000000) (h : l.length ≤ 64) (hf : fitR 65536 l = false) :
    Calls Try.prog 19 #[v] w fun e w' => e = .returned (.tuple #[.string ByteArray.empty, .int .i64 2]) ∧ Below w.heap.size w w' := by
  have hfit := fit_any w v l hl hx
  rw [hf] at hfit
  have HF := Lib.hid hfit
  clear hfit hf hx
  obtain ⟨a, c, rfl, hc, hm, hn, hl⟩ := hl
  unfold maxLen at hm
  go_enter Try.func19, Try.ntmps19
  go_wp2_with (go_at_call 26; refine HF.out.mono ?_; rintro e w1 ⟨rfl, rfl⟩)
  go_ret2
  exact ⟨rfl, Below.refl _ _⟩

set_option maxRecDepth 100000 in
set_option maxHeartbeats 1600000 in
theorem pack_in (w : World) (v : Value) (l : List (List UInt8)) (hl : Strs w v l) (h : l.length ≤ 64) (hf : fitR 65536 l = true) :
    Calls Try.prog 19 #[v] w fun e w' => e = .returned (.tuple #[.string ⟨(packL l).toArray⟩, .int .i64 0]) ∧ Below w.heap.size w w' := by
  have hp : (packL l).length ≤ 65536 := by have := (fitR_iff l 65536 (by omega)).1 hf; omega
  have hfit := fit_any w v l hl (fun x hx => by have := part_lt hx; omega)
  rw [hf] at hfit
  have HF := Lib.hid hfit
  clear hfit hf
  obtain ⟨a, c, rfl, hc, hm, hn, hl⟩ := hl
  unfold maxLen at hm
  go_enter Try.func19, Try.ntmps19
  go_wp2_with (go_at_call 26; refine HF.out.mono ?_; rintro e w1 ⟨rfl, rfl⟩)
  go_loopw [17] (fun i wr => ∃ k : Nat, k ≤ l.length ∧ i = .int .i64 k ∧ Lib.IsBuilder 55 5 w.heap.size w.heap.size (Lib.byteCells (packL (l.take k))) wr ∧ Below w.heap.size w wr) (fun i _ => l.length - (intOf i).toNat)
  case atStart => exact ⟨0, Nat.zero_le _, rfl, builder_new w, (Below.refl _ w).alloc (Nat.le_refl _) _⟩
  case round =>
    obtain ⟨k, hk, rfl, hbu, hb⟩ := hrel
    have hB := hb.size
    by_cases hlt : k < l.length
    · obtain ⟨b, off, rfl, hcell⟩ := hl (by intro h; subst h; simp at hlt)
      obtain ⟨x, hxk⟩ : ∃ x, l[k]? = some x := ⟨l[k], List.getElem?_eq_getElem hlt⟩
      have g1 := hcell k x hxk
      have hc1 : wr.cell? ⟨b, off + k, none⟩ = some (.string ⟨x.toArray⟩) := (hb.cell (p := ⟨b, off + k, none⟩) (World.block_lt_of_cell? w _ g1)).trans g1
      have HT := Lib.hid (take_frames hxk)
      have hlen : (packL (l.take k)).length + 4 + x.length ≤ 65536 := by
        have h1 := take_packed l (k + 1)
        rw [HT.out, List.length_append, List.length_append, bigL_length] at h1
        omega
      have f1 := fits_four x.length (by omega)
      clear hxk hcell g1 hl
      go_wp2_with (first | (go_at_call 9; refine (big_yes _ _ _ (by decide) f1).mono ?_; rintro e w1 ⟨rfl, hb1⟩; replace hbu := builder_below hbu hb1; replace hb := below_on hb hb1; clear hb1; replace hB := hb.size) | (go_at_call 27; refine (write_list _ _ _ _ _ hbu (by simp only [List.length_append, bigL_length]; omega) hB).mono ?_; rintro e w1 ⟨rfl, hbu1, hb1⟩; replace hbu := hbu1; replace hb := hb.trans hb1; clear hbu1 hb1; replace hB := hb.size))
      go_roundw
      case rel => exact ⟨k + 1, by omega, by go_num, by rw [HT.out]; exact hbu, hb⟩
      case measure => simp [intOf]; omega
    · have HT := Lib.hid (show l.take k = l from List.take_of_length_le (by omega))
      go_wp2_with (go_at_call 28; refine (Try.Builder_String_any _ _ _ _ hbu hB).mono ?_; rintro e w1 ⟨rfl, hb1⟩)
      go_ret2
      exact ⟨ret2_of (val_str (by rw [HT.out])) rfl, hb.trans hb1⟩

/-- Pack: the text, or an error -/
theorem pack_any (w : World) (v : Value) (l : List (List UInt8)) (hl : Strs w v l) (hx : ∀ x ∈ l, x.length ≤ 1000000) :
    Calls Try.prog 19 #[v] w fun e w' => e = .returned (.tuple #[.string (packS l), .int .i64 (packE l)]) ∧ Below w.heap.size w w' := by
  by_cases h : 64 < l.length
  · rw [packS_no (by rw [packE_many h]; decide), packE_many h]
    exact pack_many w v l hl h
  · cases hf : fitR 65536 l
    · rw [packS_no (by rw [packE_long (by omega) hf]; decide), packE_long (by omega) hf]
      exact pack_long w v l hl hx (by omega) hf
    · have h0 : packE l = 0 := by unfold packE; rw [if_neg h, hf]; rfl
      rw [packS_ok h0, h0]
      exact pack_in w v l hl (by omega) hf
end Go.Proofs.Ytckamablodhecaa
