/- The reader's text in quotes. -/
import Derived.Test.YtnloimanklkigaaDoorYDigits
import Derived.Test.YtnloimanklkigaaDoorVRefQuoted
import Derived.Deep.AppendLies
namespace Go.Proofs.YtnloimanklkigaaDoor.V
set_option maxRecDepth 100000
open Go.RowKit Go.Sort Go.Joins

theorem own_seek {w w1 : World} {g B : Nat} {e : TypeId} {k n : Nat} {v : Value} {xs : List Value} (h : w.ownsRow B e k v n xs) (hg : w.grownBy w1 (some g)) (hlt : g < B) : w1.ownsRow B e k v n xs := h.kept hg (by
  cases hv : v.ownBlock with
  | none => exact .inl rfl
  | some b =>
    refine .inr (fun e => ?_)
    have := (h.lt b hv).1
    injection e with e
    omega)
theorem grown_own {w wr w2 : World} {g : Nat} {r : Option Nat} (h : w.grownBy wr (some g)) (k : wr.grownBy w2 r) (hr : ∀ j, r = some j → w.heap.size ≤ j) : w.grownBy w2 (some g) :=
  ⟨k.os.trans h.os, k.tape.trans h.tape, k.output.trans h.output, Nat.le_trans h.size k.size, fun j hj hne => (k.block j (Nat.lt_of_lt_of_le hj h.size) (fun e => by have := hr j e.symm; omega)).trans (h.block j hj hne)⟩
theorem own_form {w : World} {B : Nat} {e : TypeId} {k n : Nat} {v : Value} {xs : List Value} (h : w.ownsRow B e k v n xs) : ∃ a c, v = .slice a n c := by
  rcases h.2 with ⟨rfl, rfl⟩ | ⟨g, cap, cur, rfl, _⟩
  · exact ⟨none, 0, rfl⟩
  · exact ⟨_, _, rfl⟩
theorem map_map (acc : List UInt8) (c : UInt8) (x : Rd (List UInt8)) : (x.map (c :: ·)).map (acc ++ ·) = x.map ((acc ++ [c]) ++ ·) := by
  cases x with
  | bad e => rfl
  | ok a r => simp [Rd.map]
/-- what the reader's text comes to, from the quote at p on -/
def TxtPost (w : World) (g : Nat) (s : ByteArray) (p n : Nat) (vo : Value) (e : Ending) (w' : World) : Prop := w.grownBy w' (some g) ∧
  ((∃ er, rdT 0 (rest s (p + 1)) = .bad er ∧ e = errP er) ∨ (∃ k q, rdT 0 (rest s (p + 1)) = .ok k (rest s q) ∧ e = .returned (.string ⟨k.toArray⟩) ∧ p + 1 < q ∧ q ≤ s.size ∧ Lies w' g 77 (rdC s q n vo)))
set_option maxHeartbeats 12800000 in
theorem quoted_any (w : World) (g : Nat) (s : ByteArray) (p n : Nat) (vo : Value) (hl : Lies w g 77 (rdC s p n vo)) (hp : p < s.size) (hs : s.size ≤ 65536) :
    Calls Tryd.prog 64 #[.pointer (some ⟨g, 0, none⟩)] w fun e w' => TxtPost w g s p n vo e w' := by
  obtain ⟨i0, hi, hz0, hz1, hz2⟩ := info_parts info5
  have hgw := hl.lt
  have c1 := rd_c1 hl
  have f1 := hl.frozen 1
  have hl1 := rd_at hl (z := (p : Int) + 1) (p + 1) (by omega)
  go_enter Tryd.func64, Tryd.ntmps64
  go_wp2_with fail
  go_loopw [3] (fun o wr => ∃ (q : Nat) (acc : List UInt8), p + 1 ≤ q ∧ q ≤ s.size ∧ Hid (rdT 0 (rest s (p + 1)) = (rdT acc.length (rest s q)).map (acc ++ ·)) ∧ acc.length ≤ 4000 ∧ wr.ownsRow w.heap.size 5 1 o acc.length (Lib.byteCells acc) ∧ Lies wr g 77 (rdC s q n vo) ∧ w.grownBy wr (some g)) (fun _ wr => s.size - placeOf wr g)
  case atStart =>
    refine ⟨p + 1, [], Nat.le_refl _, by omega, Lib.hid ?_, by simp, World.ownsRow_nil _ _ _ _, hl1, grown_set g (RowKit.Below.refl _ _) 1 _⟩
    cases rdT 0 (rest s (p + 1)) <;> simp [Rd.map]
  case round =>
    obtain ⟨q, acc, hpq, hq, HR, hal, ho, hl0, hb⟩ := hrel
    obtain ⟨ao, cao, hfo⟩ := own_form ho
    subst hfo
    clear c1 f1 hl1
    by_cases hlt : q < s.size
    case neg =>
      obtain rfl : q = s.size := by omega
      have HX := Lib.hid (show rdT 0 (rest s (p + 1)) = .bad 3 by rw [HR.out, rest_none, rdT_nil]; rfl)
      clear HR
      go_wp2_with (go_at_call 67; refine (take_short _ g s n vo hl0).mono ?_; rintro e w1 ⟨rfl, hb1⟩)
      exact ⟨rfl, by unfold TxtPost; exact ⟨grown_two hb (grown_of g hb1), .inl ⟨3, HX.out, rfl⟩⟩⟩
    have HT := take_ok wr g s q n vo hl0 hlt hs
    have hrc := rest_cons hlt
    obtain ⟨c, hc⟩ : ∃ c, s[q] = c := ⟨_, rfl⟩
    rw [hc] at HT hrc
    by_cases h34 : c = 34
    · subst h34
      have HX := Lib.hid (show rdT 0 (rest s (p + 1)) = .ok acc (rest s (q + 1)) by rw [HR.out, hrc, rdT_end]; simp [Rd.map])
      have HT : Calls Tryd.prog 67 #[.pointer (some ⟨g, 0, none⟩)] wr fun e w' => e = .returned (.int .u8 34) ∧ Lies w' g 77 (rdC s (q + 1) n vo) ∧ wr.grownBy w' (some g) := HT
      clear HR hc hrc
      go_wp2_with (go_at_call 67; refine HT.mono ?_; rintro e w1 ⟨rfl, hl1, hb1⟩; have ho1 := own_seek ho hb1 hgw; have hcv := str_own ho1)
      go_wp2
      go_ret
      unfold TxtPost
      exact ⟨grown_two hb hb1, .inr ⟨acc, q + 1, HX.out, rfl, by omega, by omega, hl1⟩⟩
    have e34 : ((c.toNat : Int) == 34) = false := by rw [beq_eq_false_iff_ne]; exact byte_ne h34
    by_cases h92 : c = 92
    · subst h92
      have HT : Calls Tryd.prog 67 #[.pointer (some ⟨g, 0, none⟩)] wr fun e w' => e = .returned (.int .u8 92) ∧ Lies w' g 77 (rdC s (q + 1) n vo) ∧ wr.grownBy w' (some g) := HT
      clear hc e34
      by_cases hlt2 : q + 1 < s.size
      case neg =>
        obtain hqs : q + 1 = s.size := by omega
        have HX := Lib.hid (show rdT 0 (rest s (p + 1)) = .bad 3 by rw [HR.out, hrc, hqs, rest_none, rdT_bar]; rfl)
        rw [hqs] at HT
        clear HR hrc
        go_wp2_with (first
          | (go_at_call 67; refine HT.mono ?_; rintro e w1 ⟨rfl, hl1, hb1⟩)
          | (go_at_call 79; refine (marked_short _ g s n vo hl1).mono ?_; rintro e w2 ⟨rfl, hb2⟩))
        exact ⟨rfl, by unfold TxtPost; exact ⟨grown_two hb (grown_two hb1 (grown_of g hb2)), .inl ⟨3, HX.out, rfl⟩⟩⟩
      obtain ⟨d, hd⟩ : ∃ d, s[q + 1] = d := ⟨_, rfl⟩
      have hrd := rest_cons hlt2
      rw [hd] at hrd
      by_cases hm : d = 34 ∨ d = 92
      case neg =>
        have hm2 : d ≠ 34 ∧ d ≠ 92 := ⟨fun e => hm (.inl e), fun e => hm (.inr e)⟩
        have HX := Lib.hid (show rdT 0 (rest s (p + 1)) = .bad 20 by rw [HR.out, hrc, hrd, rdT_odd hm2]; rfl)
        have HM := fun w1 hl1 => marked_odd w1 g s (q + 1) n vo hl1 hlt2 hs (by rw [hd]; exact hm2)
        clear HR hrc hrd hd
        go_wp2_with (first
          | (go_at_call 67; refine HT.mono ?_; rintro e w1 ⟨rfl, hl1, hb1⟩)
          | (go_at_call 79; refine (HM _ hl1).mono ?_; rintro e w2 ⟨rfl, hb2⟩))
        exact ⟨rfl, by unfold TxtPost; exact ⟨grown_two hb (grown_two hb1 hb2), .inl ⟨20, HX.out, rfl⟩⟩⟩
      have HM := fun w1 hl1 => marked_ok w1 g s (q + 1) n vo hl1 hlt2 hs (by rw [hd]; exact hm)
      rw [hd] at HM
      clear hd
      go_upto_region 10 with (first
        | (go_at_call 67; refine HT.mono ?_; rintro e w1 ⟨rfl, hl1, hb1⟩; have ho1 := own_seek ho hb1 hgw)
        | (go_at_call 79; refine (HM _ hl1).mono ?_; rintro e w2 ⟨rfl, hl2, hb2⟩; have ho2 := own_seek ho1 hb2 hgw; replace hb2 := grown_two hb (grown_two hb1 hb2)))
      by_cases hk : acc.length = 4000
      · have hk1 : ((acc.length : Int) == 4000) = true := by rw [hk]; rfl
        have HX := Lib.hid (show rdT 0 (rest s (p + 1)) = .bad 2 by rw [HR.out, hrc, hrd, rdT_esc hm, if_pos hk]; rfl)
        clear HR hk
        go_wp2
        exact ⟨rfl, by unfold TxtPost; exact ⟨hb2, .inl ⟨2, HX.out, rfl⟩⟩⟩
      · have hk1 : ((acc.length : Int) == 4000) = false := by rw [beq_eq_false_iff_ne]; omega
        have HX := Lib.hid (show rdT 0 (rest s (p + 1)) = (rdT (acc ++ [d]).length (rest s (q + 1 + 1))).map ((acc ++ [d]) ++ ·) by rw [HR.out, hrc, hrd, rdT_esc hm, if_neg hk, List.length_append, List.length_singleton]; exact map_map acc d _)
        have hz : (((d).toNat : Nat) : Int) = ((d).toNat : Int) := rfl
        clear HR
        have hsz2 : w.heap.size ≤ w2.heap.size := hb2.size
        go_wp2_with (at_builtin; refine wpList_append_lies _ rfl _ _ 49 (by rfl) w.heap.size 5 i0 _ 1 1 Tryd.underlying49 hi hz0 hz1 hz2 rfl (by omega) _ acc.length _ (by rfl) (ho2.alloc _) ⟨w2.heap.size, 0, none⟩ 1 1 _ (by rfl) (by rfl) (World.news_of_block (t := 5) (fr := (0, 0)) (heap_alloc_new w2 _)) (by simp [Value.oneCell']) (by omega) (by unfold maxLen; omega) (by omega) (by simp; omega) (w2.heap.size + 1) (by simp) ?_; intro g1 cap1 w3 hown1 hgrow1 hat1 hlt1)
        have hg2 := grown_own hb2 (grown_two (World.grownBy_alloc w2 _ _) hgrow1) (fun j hj => (ho2.lt j hj).1)
        have hl3 : Lies w3 g 77 (rdC s (q + 1 + 1) n vo) := (hl2.alloc _).only hgrow1 (by intro e; have := (ho2.lt g e.symm).1; omega)
        go_wp2
        go_roundw
        case rel => exact ⟨q + 1 + 1, acc ++ [d], by omega, by omega, HX, by rw [List.length_append, List.length_singleton]; omega, quot_row rfl rfl hown1, hl3, hg2⟩
        case measure =>
          rw [placeOf_rd hl3, placeOf_rd hl0]
          omega
    have e92 : ((c.toNat : Int) == 92) = false := by rw [beq_eq_false_iff_ne]; exact byte_ne h92
    by_cases hlo : c.toNat < 32
    · have HX := Lib.hid (show rdT 0 (rest s (p + 1)) = .bad 20 by rw [HR.out, hrc, rdT_low hlo]; rfl)
      have e32 : (c.toNat : Int) < 32 := by omega
      clear HR hrc hc
      go_wp2_with (go_at_call 67; refine HT.mono ?_; rintro e w1 ⟨rfl, hl1, hb1⟩)
      exact ⟨rfl, by unfold TxtPost; exact ⟨grown_two hb hb1, .inl ⟨20, HX.out, rfl⟩⟩⟩
    have e32 : ¬ (c.toNat : Int) < 32 := by omega
    clear hc
    go_upto_region 10 with (go_at_call 67; refine HT.mono ?_; rintro e w2 ⟨rfl, hl2, hb2⟩; have ho2 := own_seek ho hb2 hgw; replace hb2 := grown_two hb hb2)
    by_cases hk : acc.length = 4000
    · have hk1 : ((acc.length : Int) == 4000) = true := by rw [hk]; rfl
      have HX := Lib.hid (show rdT 0 (rest s (p + 1)) = .bad 2 by rw [HR.out, hrc, rdT_char hlo h34 h92, if_pos hk]; rfl)
      clear HR hk
      go_wp2
      exact ⟨rfl, by unfold TxtPost; exact ⟨hb2, .inl ⟨2, HX.out, rfl⟩⟩⟩
    · have hk1 : ((acc.length : Int) == 4000) = false := by rw [beq_eq_false_iff_ne]; omega
      have HX := Lib.hid (show rdT 0 (rest s (p + 1)) = (rdT (acc ++ [c]).length (rest s (q + 1))).map ((acc ++ [c]) ++ ·) by rw [HR.out, hrc, rdT_char hlo h34 h92, if_neg hk, List.length_append, List.length_singleton]; exact map_map acc c _)
      have hz : (((c).toNat : Nat) : Int) = ((c).toNat : Int) := rfl
      clear HR
      have hsz2 : w.heap.size ≤ w2.heap.size := hb2.size
      go_wp2_with (at_builtin; refine wpList_append_lies _ rfl _ _ 49 (by rfl) w.heap.size 5 i0 _ 1 1 Tryd.underlying49 hi hz0 hz1 hz2 rfl (by omega) _ acc.length _ (by rfl) (ho2.alloc _) ⟨w2.heap.size, 0, none⟩ 1 1 _ (by rfl) (by rfl) (World.news_of_block (t := 5) (fr := (0, 0)) (heap_alloc_new w2 _)) (by simp [Value.oneCell']) (by omega) (by unfold maxLen; omega) (by omega) (by simp; omega) (w2.heap.size + 1) (by simp) ?_; intro g1 cap1 w3 hown1 hgrow1 hat1 hlt1)
      have hg2 := grown_own hb2 (grown_two (World.grownBy_alloc w2 _ _) hgrow1) (fun j hj => (ho2.lt j hj).1)
      have hl3 : Lies w3 g 77 (rdC s (q + 1) n vo) := (hl2.alloc _).only hgrow1 (by intro e; have := (ho2.lt g e.symm).1; omega)
      go_wp2
      go_roundw
      case rel => exact ⟨q + 1, acc ++ [c], by omega, by omega, HX, by rw [List.length_append, List.length_singleton]; omega, quot_row rfl rfl hown1, hl3, hg2⟩
      case measure =>
        rw [placeOf_rd hl3, placeOf_rd hl0]
        omega
end Go.Proofs.YtnloimanklkigaaDoor.V
