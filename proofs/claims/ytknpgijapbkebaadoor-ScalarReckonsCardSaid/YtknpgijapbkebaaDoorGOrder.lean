/- The contract of the reference's Order: L's digits. -/
import Derived.Test.YtknpgijapbkebaaDoorGMod
import Derived.Lib.OthersKept
import Derived.Laws.RangeString
namespace Go.Proofs.YtknpgijapbkebaaDoor.F
open Go.RowKit Go.Lib

/-- L, the order of the base point -/
def l25 : Nat := 7237005577332262213973186563042994240857116359379907606001950938285454250989
/-- the decimal digits of what stands behind 2^252 -/
def ordS : ByteArray := { data := #[50, 55, 55, 52, 50, 51, 49, 55, 55, 55, 55, 51, 55, 50, 51, 53, 51, 53, 51, 53, 56, 53, 49, 57, 51, 55, 55, 57, 48, 56, 56, 51, 54, 52, 56, 52, 57, 51] }
def decN (k : Nat) : Nat := (ordS.data.toList.take k).foldl (fun a b => a * 10 + (b.toNat - 48)) 0
theorem ordS_size : ordS.size = 38 := by decide
theorem dec_end : decN 38 = 27742317777372353535851937790883648493 := by decide +kernel
theorem dec_all : ∀ k : Fin 39, decN k.val < 65536 ^ 8 := by decide +kernel
theorem dig_all : ∀ k : Fin 38, 48 ≤ (ordS[k.val]'(by rw [ordS_size]; exact k.isLt)).toNat ∧ (ordS[k.val]'(by rw [ordS_size]; exact k.isLt)).toNat ≤ 57 := by decide +kernel
theorem dec_next (k : Nat) (h : k < ordS.size) : decN (k + 1) = decN k * 10 + ((ordS[k]'h).toNat - 48) := by
  unfold decN
  rw [take_snoc ordS k h, List.foldl_append]
  rfl
theorem dig_iter {w : World} {g o k pos pos' : Nat} {l : List Nat} {s : ByteArray} (h : Dig w g o l) (hk : w.heap[k]? = some (.stringIter s pos)) : Dig (w.iterAt k s pos') g o l := fun i hi => by
  have h1 := h i hi
  by_cases e : g = k
  · subst e
    simp [World.cell?, hk] at h1
  · exact (World.cell?_of_block (Lib.iterAt_other w k g s pos' e)).trans h1
theorem short_of {r : List Nat} (N : Nat) (hr : Tr r) (h : val r < 65536 ^ N) : r.length ≤ N := by
  rcases Nat.lt_or_ge N r.length with h1 | h1
  · obtain ⟨n, hn⟩ : ∃ n, r.length = n + 1 := ⟨r.length - 1, by omega⟩
    have h2 := hr.ge n hn
    have h3 : 65536 ^ N ≤ 65536 ^ n := Nat.pow_le_pow_right (by decide) (by omega)
    omega
  · exact h1
/-- one digit that was just laid -/
theorem one_new (w : World) (x : Nat) : Dig (w.alloc (.cells #[i64 x] 3)) w.heap.size 0 [x] := fun i hi => by
  obtain rfl : i = 0 := by simpa using hi
  exact (Lies.new w 3 #[i64 x]).cell 0

/-- where a text's iterator stands -/
def iterPos (w : World) (b : Nat) : Nat := match w.heap[b]? with
  | some (.stringIter _ p) => p
  | _ => 0
theorem iterPos_of {w : World} {b p : Nat} {s : ByteArray} (h : w.heap[b]? = some (.stringIter s p)) : iterPos w b = p := by unfold iterPos; rw [h]
theorem high_val : val ((List.replicate 16 0).set 15 4096) = 4096 * 65536 ^ 15 := by decide +kernel
theorem high_dg : Dg ((List.replicate 16 0).set 15 4096) := by unfold Dg; decide
theorem iter_on {w w' : World} {b p : Nat} {s : ByteArray} (h : w.heap[b]? = some (.stringIter s p)) (hb : Below w.heap.size w w') : w'.heap[b]? = some (.stringIter s p) := (hb.block b (Array.getElem?_eq_some_iff.1 h).1).trans h

set_option maxRecDepth 100000 in
set_option maxHeartbeats 1600000 in
theorem order_any (W : World) :
    Calls Tryd.prog 34 #[] W fun e W' => ∃ r g cap, e = .returned (.slice (some ⟨g, 0, none⟩) r.length cap) ∧ r.length ≤ 16 ∧ Dig W' g 0 r ∧ Dg r ∧ Tr r ∧ val r = l25 ∧ Below W.heap.size W W' := by
  obtain ⟨i0, hi, hz0, hz1, hz2⟩ := info_parts info3
  go_enter Tryd.func34, Tryd.ntmps34
  go_wp2_with fail
  go_loopw [1] (fun dx wr => ∃ (k : Nat) (l : List Nat) (g cap : Nat), k ≤ 38 ∧ wr.heap[W.heap.size + 1]? = some (.stringIter ordS k) ∧ dx = .slice (some ⟨g, 0, none⟩) l.length cap ∧ Dig wr g 0 l ∧ Dg l ∧ Tr l ∧ Hid (val l = decN k) ∧ Below W.heap.size W wr) (fun _ wr => 38 - iterPos wr (W.heap.size + 1))
  case atStart =>
    have h0 := World.iter_heap (W.alloc (.cells #[] 3)) ordS 0
    rw [show (W.alloc (.cells #[] 3)).heap.size = W.heap.size + 1 by simp] at h0
    exact ⟨0, [], _, _, by omega, h0, rfl, (fun i hi => by simp at hi), (fun d hd => by cases hd), (fun n hn => by simp at hn), Lib.hid rfl, ((Below.refl _ W).alloc (Nat.le_refl _) _).alloc (by simp) _⟩
  case round =>
    obtain ⟨k, l, g, cap, hk, hit, rfl, hd, dl, tl, HV, hB⟩ := hrel
    have hl8 := short_of 8 tl (by rw [HV.out]; exact dec_all ⟨k, by omega⟩)
    have hpos := iterPos_of hit
    by_cases hlt : k < 38
    · have hk2 : k < ordS.size := by rw [ordS_size]; exact hlt
      obtain ⟨hc1, hc2⟩ := dig_all ⟨k, hlt⟩
      have hnx := fun ty => run_next_ascii_at (P := Tryd.prog) wr (W.heap.size + 1) ordS k ty hit hk2 (by show (ordS[k]'hk2).toNat < 128; have : (ordS[k]'hk2).toNat ≤ 57 := hc2; omega)
      have HDN := Lib.hid (dec_next k hk2)
      obtain ⟨D, hD, hD10⟩ : ∃ D, (ordS[k]'hk2).toNat = D + 48 ∧ D < 10 := ⟨(ordS[k]'hk2).toNat - 48, by have : 48 ≤ (ordS[k]'hk2).toNat := hc1; omega, by have : (ordS[k]'hk2).toNat ≤ 57 := hc2; omega⟩
      clear hc1 hc2
      generalize (ordS[k]'hk2).toNat = c at *
      have e1 : IntKind.i32.wrap ((c : Int) - 48) = (D : Int) := by rw [IntKind.wrap_i32]; omega
      have e2 : (c : Int) - 48 = (D : Int) := by omega
      have hit1 := Lib.iterAt_heap wr (W.heap.size + 1) ordS k (k + 1) hit
      have hd1 := dig_iter (pos' := k + 1) hd hit
      have hB1 := Lib.below_iterAt hB (show W.heap.size ≤ W.heap.size + 1 by omega) ordS (k + 1)
      go_upto_region 5 with fail
      generalize World.iterAt wr _ _ _ = w1 at *
      have hba := (Below.refl w1.heap.size w1).alloc (Nat.le_refl _) (.cells #[Value.int .i64 10] 3)
      have hd10 : Dig (w1.alloc (.cells #[Value.int .i64 10] 3)) w1.heap.size 0 [10] := one_new w1 10
      clear hnx hd hB hit
      go_wp2_with (first
        | (go_at_call 27; refine (times_any l [10] g 0 cap w1.heap.size 0 1 _ (hd1.on hba) hd10 (by omega) (by decide) dl (by unfold Dg; simp)).mono ?_; rintro e v1 ⟨r1, g1, cap1, rfl, p1, p2, p3, p4, p5, p6, hb1⟩; replace p2 : r1.length ≤ l.length + 1 + 4 := p2; replace hit1 := iter_on hit1 (below_on hba hb1); replace hB1 := below_on hB1 (below_on hba hb1); clear hb1)
        | (go_at_call 25; refine (plus_any r1 [D] g1 0 cap1 v1.heap.size 0 1 _ (p3.on ((Below.refl _ v1).alloc (Nat.le_refl _) _)) (one_new v1 D) (by omega) (by simp) p4 (by unfold Dg; simp; omega)).mono ?_; rintro e v2 ⟨r2, g2, cap2, rfl, q1, q2, q3, q4, q5, q6, hb2⟩; replace hit1 := iter_on hit1 (below_on ((Below.refl _ v1).alloc (Nat.le_refl _) (.cells #[i64 D] 3)) hb2); replace hB1 := below_on hB1 (below_on ((Below.refl _ v1).alloc (Nat.le_refl _) (.cells #[i64 D] 3)) hb2); clear hb2))
      have hv2 : val r2 = decN (k + 1) := by
        rw [q6, p6, HV.out, HDN.out, hD]
        simp only [val, Nat.mul_zero, Nat.add_zero, Nat.add_sub_cancel]
      go_roundw
      case rel => exact ⟨k + 1, r2, g2, cap2, by omega, hit1, rfl, q3, q4, q5, Lib.hid hv2, hB1⟩
      case measure => rw [iterPos_of hit1, hpos]; omega
    · obtain rfl : k = 38 := by omega
      have hnx := fun ty => run_next_end_at (P := Tryd.prog) wr (W.heap.size + 1) ordS 38 ty hit (by rw [ordS_size]; decide)
      rw [dec_end] at HV
      have HP := Lib.hid (fun w (hd : Dig w g 0 l) gh ch (hh : Dig w gh 0 ((List.replicate 16 0).set 15 4096)) => plus_any l ((List.replicate 16 0).set 15 4096) g 0 cap gh 0 ch w hd hh (by omega) (by decide) dl high_dg)
      rw [show ((List.replicate 16 0).set 15 4096).length = 16 from rfl, high_val, HV.out] at HP
      have hBs := hB.size
      go_upto_region 6 with fail
      go_wp2_with (at_make; refine wpList_make_full _ rfl _ _ 41 rfl wr.heap.size 3 i0 (.int .i64 0) 1 Tryd.underlying41 hi hz0 hz1 _ _ _ _ 16 rfl rfl ?e1 ?e2 ?b2 ?b3 (Nat.le_refl _) ?_)
      case e1 => omega
      case e2 => omega
      case b2 => rw [hz2]; omega
      case b3 => unfold maxLen; omega
      intro w5 hown hgrow
      have hb5 : Below wr.heap.size wr w5 := (Below.refl _ _).grown hgrow (Nat.le_refl _) (fun k hk => by cases hk)
      rw [made_zeros] at hown
      have hf := hown.frozenAt 15
      have hc := own_at hown 15 (by decide)
      have hd5 := hd.on hb5
      have hB5 := below_on hB hb5
      have hst := own_putv hown 15 4096 (.int .i64 4096) rfl
      have hlt5 : W.heap.size ≤ wr.heap.size := hBs
      have hgne : g ≠ wr.heap.size ∨ l.length = 0 := by
        rcases Nat.eq_zero_or_pos l.length with h0 | h0
        · exact .inr h0
        · have := World.block_lt_of_cell? wr _ (hd 0 h0)
          exact .inl (by simp only at this; omega)
      have hd6 : ∀ v, Dig (w5.setCell ⟨wr.heap.size, 15, none⟩ v) g 0 l := fun v i hi => by
        rcases hgne with h | h
        · exact (World.cell?_setCell_other w5 ⟨wr.heap.size, 15, none⟩ ⟨g, 0 + i, none⟩ v (fun e => h (by injection e with e1; exact e1.symm))).trans (hd5 i hi)
        · omega
      clear hgrow hown hnx
      generalize (List.replicate 16 0).getD 15 0 = z at hc
      go_wp2_with (go_at_call 25; refine (HP.out _ (hd6 _) _ _ (own_dig hst)).mono ?_; rintro e w6 ⟨r, g6, cap6, rfl, q1, q2, q3, q4, q5, q6, hb6⟩)
      go_ret
      exact ⟨r, g6, cap6, rfl, short_of 16 q5 (by rw [q6]; decide), q3, q4, q5, q6, below_on (below_put hB5 hlt5 _ _) hb6⟩
end Go.Proofs.YtknpgijapbkebaaDoor.F
