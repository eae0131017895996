/- The developers' write, writeItems, textOf and Print. -/
import Derived.Test.YtdfdpckcemdimaaDoorVBuild
import Derived.Test.YtdfdpckcemdimaaDoorVQuote
import Derived.Test.YtdfdpckcemdimaaDoorVFmt
import Derived.Test.YtdfdpckcemdimaaDoorVRoom
namespace Go.Proofs.YtdfdpckcemdimaaDoor.V
open Go.RowKit Go.Sort Go.Joins
set_option maxRecDepth 100000

def WriteSays (W0 : World) (b d : Nat) : Prop := ∀ (cs : List Value) (t : VT) (acc : List UInt8) (w : World), IsV W0 d cs t → t.each = true → t.count ≤ 2000 → Below W0.heap.size W0 w → IsB W0.heap.size b acc w → acc.length + t.wr.length ≤ 100000000 →
    Calls Tryd.prog 41 #[.pointer (some ⟨b, 0, none⟩), .agg cs.toArray] w fun e w' => e = .returned (.tuple #[]) ∧ (IsB W0.heap.size b (acc ++ t.wr) w' ∧ Below W0.heap.size w w' ∧ Calm b w w')
theorem IsB.lt {B b : Nat} {l : List UInt8} {w : World} (h : IsB B b l w) : b < w.heap.size := by
  rcases h with h | h <;> exact h.lt
theorem cat_list (a : List UInt8) (c : UInt8) : ((⟨a.toArray⟩ : ByteArray) ++ ⟨#[c]⟩).data.toList = a ++ [c] := by rw [cat2]; simp
set_option maxHeartbeats 6400000 in
theorem items_bare (W0 : World) (b d : Nat) (hI : WriteSays W0 b d) (o e : UInt8) (k n : Int) (s : List UInt8) (l : List VT) (a ka : Option Addr) (c kc : Nat) (acc : List UInt8) (W : World)
    (hc : l.length ≤ c) (hm : c ≤ maxLen) 
    (hx : 0 < l.length → ∃ b off, a = some ⟨b, off, none⟩ ∧ ∀ i, i < l.length → ∃ cs, cs.length = 5 ∧ W0.rangeAt b (off + i * 5) cs ∧ ∃ x, l[i]? = some x ∧ IsV W0 d cs x)
    (he : eachL l = true) (hcn : countL l ≤ 2000) (hb0 : Below W0.heap.size W0 W) (hbu : IsB W0.heap.size b acc W) (hlen : acc.length + (wrI false true l []).length + 2 ≤ 100000000) :
    Calls Tryd.prog 54 #[.pointer (some ⟨b, 0, none⟩), .string ⟨#[o]⟩, .agg #[.int .i64 k, .int .i64 n, .string ⟨s.toArray⟩, .slice a l.length c, .slice ka 0 kc], .string ⟨#[e]⟩] W fun r w' => r = .returned (.tuple #[]) ∧ (IsB W0.heap.size b (acc ++ (o :: (wrI false true l [] ++ [e]))) w' ∧ Below W0.heap.size W w' ∧ Calm b W w') := by
  have HI := Lib.hid hI
  have HX := Lib.hid hx
  have HE := Lib.hid (fun (x : VT) (h : x ∈ l) => eachL_mem he h)
  have HCN := Lib.hid (fun (x : VT) (h : x ∈ l) => countL_mem h)
  clear hI hx he
  unfold maxLen at hm
  have hbl := hbu.lt
  have hB := hb0.size
  have hb1 : Below W.heap.size W (W.alloc (.cells #[.int .i64 k, .int .i64 n, .string ⟨s.toArray⟩, .slice a l.length c, .slice ka 0 kc] 25)) := (Below.refl W.heap.size W).alloc (Nat.le_refl _) _
  have lA : Lies (W.alloc (.cells #[.int .i64 k, .int .i64 n, .string ⟨s.toArray⟩, .slice a l.length c, .slice ka 0 kc] 25)) W.heap.size 25 #[.int .i64 k, .int .i64 n, .string ⟨s.toArray⟩, .slice a l.length c, .slice ka 0 kc] := Lies.new W _ _
  have hbW : Below W0.heap.size W (W.alloc (.cells #[.int .i64 k, .int .i64 n, .string ⟨s.toArray⟩, .slice a l.length c, .slice ka 0 kc] 25)) := hb1.mono hB
  have hcW : Calm b W (W.alloc (.cells #[.int .i64 k, .int .i64 n, .string ⟨s.toArray⟩, .slice a l.length c, .slice ka 0 kc] 25)) := Calm.below hb1
  replace hB : W0.heap.size ≤ (W.alloc (.cells #[.int .i64 k, .int .i64 n, .string ⟨s.toArray⟩, .slice a l.length c, .slice ka 0 kc] 25)).heap.size := Nat.le_trans hB hb1.size
  replace hbu := hbu.below hb1
  clear hb1
  obtain ⟨T, hT⟩ : ∃ T, acc ++ o :: wrI false true l [] = T := ⟨_, rfl⟩
  have hTl : T.length + 1 ≤ 100000000 := by rw [← hT, List.length_append, List.length_cons]; omega
  have HT := Lib.hid hT
  have hal : acc.length + 2 ≤ 100000000 := by omega
  rw [show acc ++ (o :: (wrI false true l [] ++ [e])) = T ++ [e] by rw [← hT]; simp]
  have HST := Lib.hid (show (acc ++ [o]) ++ wrI false true l [] = T by rw [← hT]; simp)
  clear hT hlen
  go_enter Tryd.func54, Tryd.ntmps54
  go_wp2_with (go_at_call 52; (with_reducible refine (write_s _ _ acc [o] ⟨#[o]⟩ _ rfl hbu (by simp only [List.length_cons, List.length_nil]; omega) hB).mono ?_); rintro e w1 ⟨rfl, hbu1, hb1, hc1⟩; replace hbu := hbu1; replace hbW := hbW.trans hb1; replace hcW := hcW.trans hc1; replace hB : W0.heap.size ≤ w1.heap.size := Nat.le_trans hB hb1.size; replace lA := hc1.lies (by omega) (by decide) lA; have q3 := lA.cell 3; have q4 := lA.cell 4; simp only [List.getElem?_toArray, List.getElem?_cons_succ, List.getElem?_cons_zero] at q3 q4)
  go_loopw [16] (fun iv wr => ∃ (j : Nat) (S : List UInt8), iv = .int .i64 j ∧ j ≤ l.length ∧ Hid (S ++ wrI false (decide (j = 0)) (l.drop j) (List.drop j []) = T) ∧ IsB W0.heap.size b S wr ∧ Below W0.heap.size W wr ∧ Calm b W wr ∧ W0.heap.size ≤ wr.heap.size ∧ Lies wr W.heap.size 25 #[.int .i64 k, .int .i64 n, .string ⟨s.toArray⟩, .slice a l.length c, .slice ka 0 kc]) (fun iv _ => l.length - (intOf iv).toNat)
  case atStart => exact ⟨0, acc ++ [o], rfl, by omega, Lib.hid HST.out, hbu, hbW, hcW, hB, lA⟩
  case round =>
    clear hbu hbW hcW hB lA q3 q4 HST hb1 hc1 hbu1
    obtain ⟨j, S, rfl, hj, HS, hbu, hbW, hcW, hB, lA⟩ := hrel
    have hcW0 := hcW.1
    have hbl2 := hbu.lt
    by_cases hlt : j < l.length
    · obtain ⟨b2, off, rfl, hx⟩ := HX.out (by omega)
      obtain ⟨cs', hlen, hr, x, hxi, hv⟩ := hx j hlt
      obtain ⟨ai, ci, ak, ck, rfl⟩ := hv.form
      obtain ⟨k0, k1, k2, k3, k4⟩ := range5 (range_below (hb0.trans hbW) hr)
      have hxm := List.mem_of_getElem? hxi
      have hxc := HCN.out x hxm
      have HC := Lib.hid (fun (S2 : List UInt8) (w1 : World) (hb1 : Below W0.heap.size W w1) (hbu : IsB W0.heap.size b S2 w1) (hl : S2.length + x.wr.length ≤ 100000000) => HI.out _ x S2 w1 hv (HE.out x hxm) (by omega) (hb0.trans hb1) hbu hl)
      have HW := Lib.hid (wrI_at (m := false) (first := decide (j = 0)) (ks := []) (y := []) hxi (fun h => by cases h))
      have lX : Lies (wr.alloc (.cells #[.int .i64 x.kind, .int .i64 x.num, .string ⟨x.txt.toArray⟩, .slice ai x.items.length ci, .slice ak x.keys.length ck] 25)) wr.heap.size 25 #[.int .i64 x.kind, .int .i64 x.num, .string ⟨x.txt.toArray⟩, .slice ai x.items.length ci, .slice ak x.keys.length ck] := Lies.new wr _ _
      have hba : Below wr.heap.size wr (wr.alloc (.cells #[.int .i64 x.kind, .int .i64 x.num, .string ⟨x.txt.toArray⟩, .slice ai x.items.length ci, .slice ak x.keys.length ck] 25)) := (Below.refl wr.heap.size wr).alloc (Nat.le_refl _) _
      replace lA : Lies (wr.alloc (.cells #[.int .i64 x.kind, .int .i64 x.num, .string ⟨x.txt.toArray⟩, .slice ai x.items.length ci, .slice ak x.keys.length ck] 25)) W.heap.size 25 #[.int .i64 k, .int .i64 n, .string ⟨s.toArray⟩, .slice (some ⟨b2, off, none⟩) l.length c, .slice ka 0 kc] := lA.on hba
      replace hbu := hbu.below hba
      replace hbW : Below W0.heap.size W (wr.alloc (.cells #[.int .i64 x.kind, .int .i64 x.num, .string ⟨x.txt.toArray⟩, .slice ai x.items.length ci, .slice ak x.keys.length ck] 25)) := hbW.trans (hba.mono hB)
      replace hcW : Calm b W (wr.alloc (.cells #[.int .i64 x.kind, .int .i64 x.num, .string ⟨x.txt.toArray⟩, .slice ai x.items.length ci, .slice ak x.keys.length ck] 25)) := hcW.trans (Calm.below hba)
      replace hB : W0.heap.size ≤ (wr.alloc (.cells #[.int .i64 x.kind, .int .i64 x.num, .string ⟨x.txt.toArray⟩, .slice ai x.items.length ci, .slice ak x.keys.length ck] 25)).heap.size := Nat.le_trans hB hba.size
      have q3 := lA.cell 3; have q4 := lA.cell 4; simp only [List.getElem?_toArray, List.getElem?_cons_succ, List.getElem?_cons_zero] at q3 q4
      have p0 := lX.cell 0; have p1 := lX.cell 1; have p2 := lX.cell 2; have p3 := lX.cell 3; have p4 := lX.cell 4; simp only [List.getElem?_toArray, List.getElem?_cons_succ, List.getElem?_cons_zero] at p0 p1 p2 p3 p4
      clear hr hv hx HX HI hlen hxm HE HCN hxi hba
      rcases Nat.eq_zero_or_pos j with hz | hz
      · have hz0 : decide (j = 0) = true := decide_eq_true hz
        subst hz
        simp only [Nat.zero_mul, Nat.add_zero] at k0 k1 k2 k3 k4
        have HS2 := Lib.hid (show S ++ ([] ++ ([] ++ (x.wr ++ wrI false false (l.drop (0 + 1)) (List.drop (0 + 1) [])))) = T by
          have h1 := HS.out
          rw [HW.out, hz0] at h1
          simpa using h1)
        have hSz : S.length + x.wr.length ≤ 100000000 := by
          have h1 := congrArg List.length HS2.out
          simp only [List.length_append, List.length_nil] at h1 ⊢
          omega
        have hSz2 : S.length ≤ 100000000 := by omega
        clear HS HW hTl
        go_wp2_with (go_at_call 41; (with_reducible refine (HC.out S _ hbW hbu hSz).mono ?_); rintro e w5 ⟨rfl, hbu5, hb5, hc5⟩)
        go_roundw
        case rel => exact ⟨0 + 1, S ++ x.wr, by go_num, by omega, Lib.hid (by rw [← HS2.out]; simp), hbu5, hbW.trans hb5, hcW.trans hc5, Nat.le_trans hB hb5.size, hc5.lies (by omega) (by decide) lA⟩
        case measure => simp [intOf]; omega
      · have hz0 : decide (j = 0) = false := decide_eq_false (by omega)
        have hz1 : (j : Int) > 0 := by omega
        have HS2 := Lib.hid (show S ++ ([44] ++ ([] ++ (x.wr ++ wrI false false (l.drop (j + 1)) (List.drop (j + 1) [])))) = T by
          have h1 := HS.out
          rw [HW.out, hz0] at h1
          simpa using h1)
        have hSz : (S ++ [44]).length + x.wr.length ≤ 100000000 := by
          have h1 := congrArg List.length HS2.out
          simp only [List.length_append, List.length_cons, List.length_nil] at h1 ⊢
          omega
        have hSz2 : (S ++ [44]).length ≤ 100000000 := by omega
        simp only [List.length_append, List.length_cons, List.length_nil] at hSz2
        clear HS HW hTl
        go_wp2_with (first | (go_at_call 52; (with_reducible refine (write_s _ _ S [44] ⟨#[44]⟩ _ rfl hbu (by simp only [List.length_cons, List.length_nil]; omega) hB).mono ?_); rintro e w2 ⟨rfl, hbu2, hb2, hc2⟩; replace hbu := hbu2; replace hbW := hbW.trans hb2; replace hcW := hcW.trans hc2; replace hB : W0.heap.size ≤ w2.heap.size := Nat.le_trans hB hb2.size; replace lA := hc2.lies (by omega) (by decide) lA; replace lX := hc2.lies (by omega) (by decide) lX; have q3 := lA.cell 3; have q4 := lA.cell 4; simp only [List.getElem?_toArray, List.getElem?_cons_succ, List.getElem?_cons_zero] at q3 q4; have p0 := lX.cell 0; have p1 := lX.cell 1; have p2 := lX.cell 2; have p3 := lX.cell 3; have p4 := lX.cell 4; simp only [List.getElem?_toArray, List.getElem?_cons_succ, List.getElem?_cons_zero] at p0 p1 p2 p3 p4) | (go_at_call 41; (with_reducible refine (HC.out (S ++ [44]) _ hbW hbu hSz).mono ?_); rintro e w5 ⟨rfl, hbu5, hb5, hc5⟩))
        go_roundw
        case rel => exact ⟨j + 1, (S ++ [44]) ++ x.wr, by go_num, by omega, Lib.hid (by rw [← HS2.out]; simp), hbu5, hbW.trans hb5, hcW.trans hc5, Nat.le_trans hB hb5.size, hc5.lies (by omega) (by decide) lA⟩
        case measure => simp [intOf]; omega
    · have hS := HS.out
      rw [wrI_nil _ _ _ _ _ (by omega), List.append_nil] at hS
      subst hS
      clear HS HX HI HE HCN
      go_wp2_with (go_at_call 52; (with_reducible refine (write_s _ _ S [e] ⟨#[e]⟩ _ rfl hbu (by simp only [List.length_cons, List.length_nil]; omega) hB).mono ?_); rintro e w2 ⟨rfl, hbu2, hb2, hc2⟩)
      go_end0
      exact ⟨rfl, hbu2, hbW.trans hb2, hcW.trans hc2⟩
set_option maxHeartbeats 6400000 in
theorem items_with (W0 : World) (b d : Nat) (hI : WriteSays W0 b d) (o e : UInt8) (k n : Int) (s : List UInt8) (l : List VT) (ks : List (List UInt8)) (a ka : Option Addr) (c kc : Nat) (acc : List UInt8) (W : World)
    (hc : l.length ≤ c) (hm : c ≤ maxLen) (hkl : ks.length = l.length) (hkp : 0 < ks.length) (hko : ∀ y ∈ ks, y.length ≤ 4000) (hkx : ks ≠ [] → ∃ b off, ka = some ⟨b, off, none⟩ ∧ ∀ i x, ks[i]? = some x → W0.cell? ⟨b, off + i, none⟩ = some (str x))
    (hx : 0 < l.length → ∃ b off, a = some ⟨b, off, none⟩ ∧ ∀ i, i < l.length → ∃ cs, cs.length = 5 ∧ W0.rangeAt b (off + i * 5) cs ∧ ∃ x, l[i]? = some x ∧ IsV W0 d cs x)
    (he : eachL l = true) (hcn : countL l ≤ 2000) (hM : MaxAt W0) (hb0 : Below W0.heap.size W0 W) (hbu : IsB W0.heap.size b acc W) (hlen : acc.length + (wrI true true l ks).length + 2 ≤ 100000000) :
    Calls Tryd.prog 54 #[.pointer (some ⟨b, 0, none⟩), .string ⟨#[o]⟩, .agg #[.int .i64 k, .int .i64 n, .string ⟨s.toArray⟩, .slice a l.length c, .slice ka ks.length kc], .string ⟨#[e]⟩] W fun r w' => r = .returned (.tuple #[]) ∧ (IsB W0.heap.size b (acc ++ (o :: (wrI true true l ks ++ [e]))) w' ∧ Below W0.heap.size W w' ∧ Calm b W w') := by
  have HI := Lib.hid hI
  have HX := Lib.hid hx
  have HE := Lib.hid (fun (x : VT) (h : x ∈ l) => eachL_mem he h)
  have HCN := Lib.hid (fun (x : VT) (h : x ∈ l) => countL_mem h)
  have HK := Lib.hid hkx
  have HKO := Lib.hid hko
  have HKL := Lib.hid hkl
  clear hI hx he hkx hko hkl
  unfold maxLen at hm
  have hbl := hbu.lt
  have hB := hb0.size
  have hb1 : Below W.heap.size W (W.alloc (.cells #[.int .i64 k, .int .i64 n, .string ⟨s.toArray⟩, .slice a l.length c, .slice ka ks.length kc] 25)) := (Below.refl W.heap.size W).alloc (Nat.le_refl _) _
  have lA : Lies (W.alloc (.cells #[.int .i64 k, .int .i64 n, .string ⟨s.toArray⟩, .slice a l.length c, .slice ka ks.length kc] 25)) W.heap.size 25 #[.int .i64 k, .int .i64 n, .string ⟨s.toArray⟩, .slice a l.length c, .slice ka ks.length kc] := Lies.new W _ _
  have hbW : Below W0.heap.size W (W.alloc (.cells #[.int .i64 k, .int .i64 n, .string ⟨s.toArray⟩, .slice a l.length c, .slice ka ks.length kc] 25)) := hb1.mono hB
  have hcW : Calm b W (W.alloc (.cells #[.int .i64 k, .int .i64 n, .string ⟨s.toArray⟩, .slice a l.length c, .slice ka ks.length kc] 25)) := Calm.below hb1
  replace hB : W0.heap.size ≤ (W.alloc (.cells #[.int .i64 k, .int .i64 n, .string ⟨s.toArray⟩, .slice a l.length c, .slice ka ks.length kc] 25)).heap.size := Nat.le_trans hB hb1.size
  replace hbu := hbu.below hb1
  clear hb1
  obtain ⟨T, hT⟩ : ∃ T, acc ++ o :: wrI true true l ks = T := ⟨_, rfl⟩
  have hTl : T.length + 1 ≤ 100000000 := by rw [← hT, List.length_append, List.length_cons]; omega
  have HT := Lib.hid hT
  have hal : acc.length + 2 ≤ 100000000 := by omega
  rw [show acc ++ (o :: (wrI true true l ks ++ [e])) = T ++ [e] by rw [← hT]; simp]
  have HST := Lib.hid (show (acc ++ [o]) ++ wrI true true l ks = T by rw [← hT]; simp)
  clear hT hlen
  go_enter Tryd.func54, Tryd.ntmps54
  go_wp2_with (go_at_call 52; (with_reducible refine (write_s _ _ acc [o] ⟨#[o]⟩ _ rfl hbu (by simp only [List.length_cons, List.length_nil]; omega) hB).mono ?_); rintro e w1 ⟨rfl, hbu1, hb1, hc1⟩; replace hbu := hbu1; replace hbW := hbW.trans hb1; replace hcW := hcW.trans hc1; replace hB : W0.heap.size ≤ w1.heap.size := Nat.le_trans hB hb1.size; replace lA := hc1.lies (by omega) (by decide) lA; have q3 := lA.cell 3; have q4 := lA.cell 4; simp only [List.getElem?_toArray, List.getElem?_cons_succ, List.getElem?_cons_zero] at q3 q4)
  go_loopw [16] (fun iv wr => ∃ (j : Nat) (S : List UInt8), iv = .int .i64 j ∧ j ≤ l.length ∧ Hid (S ++ wrI true (decide (j = 0)) (l.drop j) (List.drop j ks) = T) ∧ IsB W0.heap.size b S wr ∧ Below W0.heap.size W wr ∧ Calm b W wr ∧ W0.heap.size ≤ wr.heap.size ∧ Lies wr W.heap.size 25 #[.int .i64 k, .int .i64 n, .string ⟨s.toArray⟩, .slice a l.length c, .slice ka ks.length kc]) (fun iv _ => l.length - (intOf iv).toNat)
  case atStart => exact ⟨0, acc ++ [o], rfl, by omega, Lib.hid HST.out, hbu, hbW, hcW, hB, lA⟩
  case round =>
    clear hbu hbW hcW hB lA q3 q4 HST hb1 hc1 hbu1
    obtain ⟨j, S, rfl, hj, HS, hbu, hbW, hcW, hB, lA⟩ := hrel
    have hcW0 := hcW.1
    have hbl2 := hbu.lt
    by_cases hlt : j < l.length
    · obtain ⟨b2, off, rfl, hx⟩ := HX.out (by omega)
      obtain ⟨cs', hlen, hr, x, hxi, hv⟩ := hx j hlt
      obtain ⟨ai, ci, ak, ck, rfl⟩ := hv.form
      obtain ⟨k0, k1, k2, k3, k4⟩ := range5 (range_below (hb0.trans hbW) hr)
      have hxm := List.mem_of_getElem? hxi
      have hxc := HCN.out x hxm
      have HC := Lib.hid (fun (S2 : List UInt8) (w1 : World) (hb1 : Below W0.heap.size W w1) (hbu : IsB W0.heap.size b S2 w1) (hl : S2.length + x.wr.length ≤ 100000000) => HI.out _ x S2 w1 hv (HE.out x hxm) (by omega) (hb0.trans hb1) hbu hl)
      obtain ⟨b3, off3, rfl, hkx⟩ := HK.out (by intro h; rw [h] at hkp; simp at hkp)
      obtain ⟨y, hyi⟩ : ∃ y, ks[j]? = some y := ⟨ks[j]'(by rw [HKL.out]; exact hlt), List.getElem?_eq_getElem _⟩
      have hyl := HKO.out y (List.mem_of_getElem? hyi)
      have HKC := Lib.hid (fun (w1 : World) (hb1 : Below W0.heap.size W w1) => ((hb0.trans hb1).cell (p := ⟨b3, off3 + j, none⟩) (World.block_lt_of_cell? W0 _ (hkx j y hyi))).trans (show W0.cell? ⟨b3, off3 + j, none⟩ = some (.string ⟨y.toArray⟩) from hkx j y hyi))
      have HQ := Lib.hid (fun (w1 : World) (hb1 : Below W0.heap.size W w1) => quoted_any y w1 (by omega) (hM.below (hb0.trans hb1)))
      have hqy := quot_len y
      have hjk : (j : Int) < (ks.length : Int) := by rw [HKL.out]; omega
      have hkp2 : (ks.length : Int) > 0 := by omega
      have HW := Lib.hid (wrI_at (m := true) (first := decide (j = 0)) hxi (fun _ => hyi))
      have lX : Lies (wr.alloc (.cells #[.int .i64 x.kind, .int .i64 x.num, .string ⟨x.txt.toArray⟩, .slice ai x.items.length ci, .slice ak x.keys.length ck] 25)) wr.heap.size 25 #[.int .i64 x.kind, .int .i64 x.num, .string ⟨x.txt.toArray⟩, .slice ai x.items.length ci, .slice ak x.keys.length ck] := Lies.new wr _ _
      have hba : Below wr.heap.size wr (wr.alloc (.cells #[.int .i64 x.kind, .int .i64 x.num, .string ⟨x.txt.toArray⟩, .slice ai x.items.length ci, .slice ak x.keys.length ck] 25)) := (Below.refl wr.heap.size wr).alloc (Nat.le_refl _) _
      replace lA : Lies (wr.alloc (.cells #[.int .i64 x.kind, .int .i64 x.num, .string ⟨x.txt.toArray⟩, .slice ai x.items.length ci, .slice ak x.keys.length ck] 25)) W.heap.size 25 #[.int .i64 k, .int .i64 n, .string ⟨s.toArray⟩, .slice (some ⟨b2, off, none⟩) l.length c, .slice (some ⟨b3, off3, none⟩) ks.length kc] := lA.on hba
      replace hbu := hbu.below hba
      replace hbW : Below W0.heap.size W (wr.alloc (.cells #[.int .i64 x.kind, .int .i64 x.num, .string ⟨x.txt.toArray⟩, .slice ai x.items.length ci, .slice ak x.keys.length ck] 25)) := hbW.trans (hba.mono hB)
      replace hcW : Calm b W (wr.alloc (.cells #[.int .i64 x.kind, .int .i64 x.num, .string ⟨x.txt.toArray⟩, .slice ai x.items.length ci, .slice ak x.keys.length ck] 25)) := hcW.trans (Calm.below hba)
      replace hB : W0.heap.size ≤ (wr.alloc (.cells #[.int .i64 x.kind, .int .i64 x.num, .string ⟨x.txt.toArray⟩, .slice ai x.items.length ci, .slice ak x.keys.length ck] 25)).heap.size := Nat.le_trans hB hba.size
      have q3 := lA.cell 3; have q4 := lA.cell 4; simp only [List.getElem?_toArray, List.getElem?_cons_succ, List.getElem?_cons_zero] at q3 q4
      have p0 := lX.cell 0; have p1 := lX.cell 1; have p2 := lX.cell 2; have p3 := lX.cell 3; have p4 := lX.cell 4; simp only [List.getElem?_toArray, List.getElem?_cons_succ, List.getElem?_cons_zero] at p0 p1 p2 p3 p4
      clear hr hv hx HX HI hlen hxm HE HCN hxi hba hkx HK HKO
      rcases Nat.eq_zero_or_pos j with hz | hz
      · have hz0 : decide (j = 0) = true := decide_eq_true hz
        subst hz
        simp only [Nat.zero_mul, Nat.add_zero] at k0 k1 k2 k3 k4 HKC
        have HS2 := Lib.hid (show S ++ ([] ++ ((quotL y ++ [58]) ++ (x.wr ++ wrI true false (l.drop (0 + 1)) (List.drop (0 + 1) ks)))) = T by
          have h1 := HS.out
          rw [HW.out, hz0] at h1
          simpa using h1)
        have hSz : (S ++ (quotL y ++ [58])).length + x.wr.length ≤ 100000000 := by
          have h1 := congrArg List.length HS2.out
          simp only [List.length_append, List.length_cons, List.length_nil] at h1 ⊢
          omega
        have hSz2 : (S ++ (quotL y ++ [58])).length ≤ 100000000 := by omega
        simp only [List.length_append, List.length_cons, List.length_nil] at hSz2
        clear HS HW hTl
        have g9 := HKC.out _ hbW
        go_wp2_with (first | (go_at_call 53; (with_reducible refine (HQ.out _ hbW).mono ?_); rintro e w3 ⟨rfl, hb3⟩; replace lA := lA.on hb3; replace lX := lX.on hb3; replace hbu := hbu.below hb3; replace hbW := hbW.trans (hb3.mono hB); replace hcW := hcW.trans (Calm.below hb3); replace hB : W0.heap.size ≤ w3.heap.size := Nat.le_trans hB hb3.size; have q3 := lA.cell 3; have q4 := lA.cell 4; simp only [List.getElem?_toArray, List.getElem?_cons_succ, List.getElem?_cons_zero] at q3 q4; have p0 := lX.cell 0; have p1 := lX.cell 1; have p2 := lX.cell 2; have p3 := lX.cell 3; have p4 := lX.cell 4; simp only [List.getElem?_toArray, List.getElem?_cons_succ, List.getElem?_cons_zero] at p0 p1 p2 p3 p4) | (go_at_call 52; (with_reducible refine (write_s _ _ S (quotL y ++ [58]) _ _ (cat_list _ _) hbu (by simp only [List.length_append, List.length_cons, List.length_nil]; omega) hB).mono ?_); rintro e w4 ⟨rfl, hbu4, hb4, hc4⟩; replace hbu := hbu4; replace hbW := hbW.trans hb4; replace hcW := hcW.trans hc4; replace hB : W0.heap.size ≤ w4.heap.size := Nat.le_trans hB hb4.size; replace lA := hc4.lies (by omega) (by decide) lA; replace lX := hc4.lies (by omega) (by decide) lX; have q3 := lA.cell 3; have q4 := lA.cell 4; simp only [List.getElem?_toArray, List.getElem?_cons_succ, List.getElem?_cons_zero] at q3 q4; have p0 := lX.cell 0; have p1 := lX.cell 1; have p2 := lX.cell 2; have p3 := lX.cell 3; have p4 := lX.cell 4; simp only [List.getElem?_toArray, List.getElem?_cons_succ, List.getElem?_cons_zero] at p0 p1 p2 p3 p4) | (go_at_call 41; (with_reducible refine (HC.out (S ++ (quotL y ++ [58])) _ hbW hbu hSz).mono ?_); rintro e w5 ⟨rfl, hbu5, hb5, hc5⟩))
        go_roundw
        case rel => exact ⟨0 + 1, (S ++ (quotL y ++ [58])) ++ x.wr, by go_num, by omega, Lib.hid (by rw [← HS2.out]; simp), hbu5, hbW.trans hb5, hcW.trans hc5, Nat.le_trans hB hb5.size, hc5.lies (by omega) (by decide) lA⟩
        case measure => simp [intOf]; omega
      · have hz0 : decide (j = 0) = false := decide_eq_false (by omega)
        have hz1 : (j : Int) > 0 := by omega
        have HS2 := Lib.hid (show S ++ ([44] ++ ((quotL y ++ [58]) ++ (x.wr ++ wrI true false (l.drop (j + 1)) (List.drop (j + 1) ks)))) = T by
          have h1 := HS.out
          rw [HW.out, hz0] at h1
          simpa using h1)
        have hSz : ((S ++ [44]) ++ (quotL y ++ [58])).length + x.wr.length ≤ 100000000 := by
          have h1 := congrArg List.length HS2.out
          simp only [List.length_append, List.length_cons, List.length_nil] at h1 ⊢
          omega
        have hSz2 : ((S ++ [44]) ++ (quotL y ++ [58])).length ≤ 100000000 := by omega
        simp only [List.length_append, List.length_cons, List.length_nil] at hSz2
        clear HS HW hTl
        go_wp2_with (first | (go_at_call 52; (with_reducible refine (write_s _ _ S [44] ⟨#[44]⟩ _ rfl hbu (by simp only [List.length_cons, List.length_nil]; omega) hB).mono ?_); rintro e w2 ⟨rfl, hbu2, hb2, hc2⟩; replace hbu := hbu2; replace hbW := hbW.trans hb2; replace hcW := hcW.trans hc2; replace hB : W0.heap.size ≤ w2.heap.size := Nat.le_trans hB hb2.size; replace lA := hc2.lies (by omega) (by decide) lA; replace lX := hc2.lies (by omega) (by decide) lX; have q3 := lA.cell 3; have q4 := lA.cell 4; simp only [List.getElem?_toArray, List.getElem?_cons_succ, List.getElem?_cons_zero] at q3 q4; have p0 := lX.cell 0; have p1 := lX.cell 1; have p2 := lX.cell 2; have p3 := lX.cell 3; have p4 := lX.cell 4; simp only [List.getElem?_toArray, List.getElem?_cons_succ, List.getElem?_cons_zero] at p0 p1 p2 p3 p4; have g9 := HKC.out _ hbW) | (go_at_call 53; (with_reducible refine (HQ.out _ hbW).mono ?_); rintro e w3 ⟨rfl, hb3⟩; replace lA := lA.on hb3; replace lX := lX.on hb3; replace hbu := hbu.below hb3; replace hbW := hbW.trans (hb3.mono hB); replace hcW := hcW.trans (Calm.below hb3); replace hB : W0.heap.size ≤ w3.heap.size := Nat.le_trans hB hb3.size; have q3 := lA.cell 3; have q4 := lA.cell 4; simp only [List.getElem?_toArray, List.getElem?_cons_succ, List.getElem?_cons_zero] at q3 q4; have p0 := lX.cell 0; have p1 := lX.cell 1; have p2 := lX.cell 2; have p3 := lX.cell 3; have p4 := lX.cell 4; simp only [List.getElem?_toArray, List.getElem?_cons_succ, List.getElem?_cons_zero] at p0 p1 p2 p3 p4) | (go_at_call 52; (with_reducible refine (write_s _ _ (S ++ [44]) (quotL y ++ [58]) _ _ (cat_list _ _) hbu (by simp only [List.length_append, List.length_cons, List.length_nil]; omega) hB).mono ?_); rintro e w4 ⟨rfl, hbu4, hb4, hc4⟩; replace hbu := hbu4; replace hbW := hbW.trans hb4; replace hcW := hcW.trans hc4; replace hB : W0.heap.size ≤ w4.heap.size := Nat.le_trans hB hb4.size; replace lA := hc4.lies (by omega) (by decide) lA; replace lX := hc4.lies (by omega) (by decide) lX; have q3 := lA.cell 3; have q4 := lA.cell 4; simp only [List.getElem?_toArray, List.getElem?_cons_succ, List.getElem?_cons_zero] at q3 q4; have p0 := lX.cell 0; have p1 := lX.cell 1; have p2 := lX.cell 2; have p3 := lX.cell 3; have p4 := lX.cell 4; simp only [List.getElem?_toArray, List.getElem?_cons_succ, List.getElem?_cons_zero] at p0 p1 p2 p3 p4) | (go_at_call 41; (with_reducible refine (HC.out ((S ++ [44]) ++ (quotL y ++ [58])) _ hbW hbu hSz).mono ?_); rintro e w5 ⟨rfl, hbu5, hb5, hc5⟩))
        go_roundw
        case rel => exact ⟨j + 1, ((S ++ [44]) ++ (quotL y ++ [58])) ++ x.wr, by go_num, by omega, Lib.hid (by rw [← HS2.out]; simp), hbu5, hbW.trans hb5, hcW.trans hc5, Nat.le_trans hB hb5.size, hc5.lies (by omega) (by decide) lA⟩
        case measure => simp [intOf]; omega
    · have hS := HS.out
      rw [wrI_nil _ _ _ _ _ (by omega), List.append_nil] at hS
      subst hS
      clear HS HX HI HE HCN
      go_wp2_with (go_at_call 52; (with_reducible refine (write_s _ _ S [e] ⟨#[e]⟩ _ rfl hbu (by simp only [List.length_cons, List.length_nil]; omega) hB).mono ?_); rintro e w2 ⟨rfl, hbu2, hb2, hc2⟩)
      go_end0
      exact ⟨rfl, hbu2, hbW.trans hb2, hcW.trans hc2⟩
theorem nil_toArray : ([] : List UInt8).toArray = #[] := rfl
set_option maxHeartbeats 6400000 in
theorem write_says (W0 : World) (b : Nat) (hM : MaxAt W0) (hT : Tab W0) : ∀ d, WriteSays W0 b d := by
  intro d
  induction d with
  | zero => intro cs t acc w h; exact h.elim
  | succ d ih =>
    intro cs t acc w h he hct hb0 hbu hlen
    obtain ⟨k, n, s, l, ks⟩ := t
    obtain ⟨vi, vk, rfl, hfit, hks, a, c, rfl, hc, hm, hna, hx⟩ := h
    obtain ⟨ka, kc, rfl, hkc, hkm, hkn, hkx⟩ := hks
    rw [each_eq, Bool.and_eq_true] at he
    rw [count_eq] at hct
    rw [wr_eq] at hlen ⊢
    have htx := one_txt he.2
    have hbl := hbu.lt
    simp only [VT.items, VT.kind, VT.num, VT.txt, VT.keys, str] at *
    rcases one_of he.2 with ⟨rfl, rfl, hl0, rfl⟩ | ⟨rfl, rfl, hl0, rfl⟩ | ⟨rfl, rfl, rfl, rfl⟩ | ⟨rfl, rfl, rfl, hkl⟩
    · obtain rfl := List.eq_nil_of_length_eq_zero hl0
      rw [if_pos rfl] at hlen ⊢
      have hn := htx.2.2
      have HF := Lib.hid (fun (w1 : World) (hb1 : Below W0.heap.size W0 w1) => fmt_says n w1 (by omega) (by omega) (hT.below hb1))
      clear hfit hx hkx he htx ih hM hT
      have hb1 : Below w.heap.size w (w.alloc (.cells #[.int .i64 1, .int .i64 n, .string ⟨#[]⟩, .slice a 0 c, .slice ka 0 kc] 25)) := (Below.refl w.heap.size w).alloc (Nat.le_refl _) _
      have lA : Lies (w.alloc (.cells #[.int .i64 1, .int .i64 n, .string ⟨#[]⟩, .slice a 0 c, .slice ka 0 kc] 25)) w.heap.size 25 #[.int .i64 1, .int .i64 n, .string ⟨#[]⟩, .slice a 0 c, .slice ka 0 kc] := Lies.new w _ _
      have q0 := lA.cell 0; have q1 := lA.cell 1; have q2 := lA.cell 2; have q3 := lA.cell 3; have q4 := lA.cell 4; simp only [List.getElem?_toArray, List.getElem?_cons_succ, List.getElem?_cons_zero] at q0 q1 q2 q3 q4
      have hB0 := hb0.size
      have hb0 : Below W0.heap.size W0 (w.alloc (.cells #[.int .i64 1, .int .i64 n, .string ⟨#[]⟩, .slice a 0 c, .slice ka 0 kc] 25)) := hb0.trans (hb1.mono hB0)
      have hcW : Calm b w (w.alloc (.cells #[.int .i64 1, .int .i64 n, .string ⟨#[]⟩, .slice a 0 c, .slice ka 0 kc] 25)) := Calm.below hb1
      have hbW : Below W0.heap.size w (w.alloc (.cells #[.int .i64 1, .int .i64 n, .string ⟨#[]⟩, .slice a 0 c, .slice ka 0 kc] 25)) := hb1.mono hB0
      have hB : W0.heap.size ≤ (w.alloc (.cells #[.int .i64 1, .int .i64 n, .string ⟨#[]⟩, .slice a 0 c, .slice ka 0 kc] 25)).heap.size := Nat.le_trans hB0 hb1.size
      replace hbu := hbu.below hb1
      generalize Lib.itoa n = tx at *
      go_enter Tryd.func41, Tryd.ntmps41
      go_wp2_with (first | (go_at_call 31; (with_reducible refine (HF.out _ hb0).mono ?_); rintro e w2 ⟨rfl, hb2⟩; replace hbu := hbu.below hb2; replace hbW := hbW.trans (hb2.mono hB); replace hcW := hcW.trans (Calm.below hb2); replace hB : W0.heap.size ≤ w2.heap.size := Nat.le_trans hB hb2.size) | (go_at_call 52; (with_reducible refine (write_s _ _ acc tx ⟨tx.toArray⟩ _ (by simp) hbu (by omega) hB).mono ?_); rintro e w3 ⟨rfl, hbu3, hb3, hc3⟩))
      go_end0
      exact ⟨rfl, hbu3, (hbW.trans hb3), (hcW.trans hc3)⟩
    · obtain rfl := List.eq_nil_of_length_eq_zero hl0
      rw [if_neg (by decide), if_pos rfl] at hlen ⊢
      have hsl := text_len htx.1
      have HQ := Lib.hid (fun (w1 : World) (hb1 : Below W0.heap.size W0 w1) => quoted_any s w1 (by omega) (hM.below hb1))
      clear hfit hx hkx he htx ih hM hT
      have hb1 : Below w.heap.size w (w.alloc (.cells #[.int .i64 2, .int .i64 0, .string ⟨s.toArray⟩, .slice a 0 c, .slice ka 0 kc] 25)) := (Below.refl w.heap.size w).alloc (Nat.le_refl _) _
      have lA : Lies (w.alloc (.cells #[.int .i64 2, .int .i64 0, .string ⟨s.toArray⟩, .slice a 0 c, .slice ka 0 kc] 25)) w.heap.size 25 #[.int .i64 2, .int .i64 0, .string ⟨s.toArray⟩, .slice a 0 c, .slice ka 0 kc] := Lies.new w _ _
      have q0 := lA.cell 0; have q1 := lA.cell 1; have q2 := lA.cell 2; have q3 := lA.cell 3; have q4 := lA.cell 4; simp only [List.getElem?_toArray, List.getElem?_cons_succ, List.getElem?_cons_zero] at q0 q1 q2 q3 q4
      have hB0 := hb0.size
      have hb0 : Below W0.heap.size W0 (w.alloc (.cells #[.int .i64 2, .int .i64 0, .string ⟨s.toArray⟩, .slice a 0 c, .slice ka 0 kc] 25)) := hb0.trans (hb1.mono hB0)
      have hcW : Calm b w (w.alloc (.cells #[.int .i64 2, .int .i64 0, .string ⟨s.toArray⟩, .slice a 0 c, .slice ka 0 kc] 25)) := Calm.below hb1
      have hbW : Below W0.heap.size w (w.alloc (.cells #[.int .i64 2, .int .i64 0, .string ⟨s.toArray⟩, .slice a 0 c, .slice ka 0 kc] 25)) := hb1.mono hB0
      have hB : W0.heap.size ≤ (w.alloc (.cells #[.int .i64 2, .int .i64 0, .string ⟨s.toArray⟩, .slice a 0 c, .slice ka 0 kc] 25)).heap.size := Nat.le_trans hB0 hb1.size
      replace hbu := hbu.below hb1
      generalize quotL s = tx at *
      go_enter Tryd.func41, Tryd.ntmps41
      go_wp2_with (first | (go_at_call 53; (with_reducible refine (HQ.out _ hb0).mono ?_); rintro e w2 ⟨rfl, hb2⟩; replace hbu := hbu.below hb2; replace hbW := hbW.trans (hb2.mono hB); replace hcW := hcW.trans (Calm.below hb2); replace hB : W0.heap.size ≤ w2.heap.size := Nat.le_trans hB hb2.size) | (go_at_call 52; (with_reducible refine (write_s _ _ acc tx ⟨tx.toArray⟩ _ (by simp) hbu (by omega) hB).mono ?_); rintro e w3 ⟨rfl, hbu3, hb3, hc3⟩))
      go_end0
      exact ⟨rfl, hbu3, (hbW.trans hb3), (hcW.trans hc3)⟩
    · rw [if_neg (by decide), if_neg (by decide), if_neg (by decide)] at hlen ⊢
      have HIT := Lib.hid (fun (w1 : World) (hb1 : Below W0.heap.size W0 w1) (hbu1 : IsB W0.heap.size b acc w1) => items_bare W0 b d ih 91 93 3 0 [] l a ka c kc acc w1 hc hm hx he.1 (by omega) hb1 hbu1 (by
        simp only [List.length_append, List.length_cons, List.length_nil] at hlen
        show acc.length + (wrL true l).length + 2 ≤ _
        omega))
      clear hfit hx hkx he htx ih hM hT hlen
      have hb1 : Below w.heap.size w (w.alloc (.cells #[.int .i64 3, .int .i64 0, .string ⟨#[]⟩, .slice a l.length c, .slice ka 0 kc] 25)) := (Below.refl w.heap.size w).alloc (Nat.le_refl _) _
      have lA : Lies (w.alloc (.cells #[.int .i64 3, .int .i64 0, .string ⟨#[]⟩, .slice a l.length c, .slice ka 0 kc] 25)) w.heap.size 25 #[.int .i64 3, .int .i64 0, .string ⟨#[]⟩, .slice a l.length c, .slice ka 0 kc] := Lies.new w _ _
      have q0 := lA.cell 0; have q1 := lA.cell 1; have q2 := lA.cell 2; have q3 := lA.cell 3; have q4 := lA.cell 4; simp only [List.getElem?_toArray, List.getElem?_cons_succ, List.getElem?_cons_zero] at q0 q1 q2 q3 q4
      have hB0 := hb0.size
      have hb0 : Below W0.heap.size W0 (w.alloc (.cells #[.int .i64 3, .int .i64 0, .string ⟨#[]⟩, .slice a l.length c, .slice ka 0 kc] 25)) := hb0.trans (hb1.mono hB0)
      have hcW : Calm b w (w.alloc (.cells #[.int .i64 3, .int .i64 0, .string ⟨#[]⟩, .slice a l.length c, .slice ka 0 kc] 25)) := Calm.below hb1
      have hbW : Below W0.heap.size w (w.alloc (.cells #[.int .i64 3, .int .i64 0, .string ⟨#[]⟩, .slice a l.length c, .slice ka 0 kc] 25)) := hb1.mono hB0
      have hB : W0.heap.size ≤ (w.alloc (.cells #[.int .i64 3, .int .i64 0, .string ⟨#[]⟩, .slice a l.length c, .slice ka 0 kc] 25)).heap.size := Nat.le_trans hB0 hb1.size
      replace hbu := hbu.below hb1
      go_enter Tryd.func41, Tryd.ntmps41
      go_wp2_with (go_at_call 54; (with_reducible refine (HIT.out _ hb0 hbu).mono ?_); rintro e w3 ⟨rfl, hbu3, hb3, hc3⟩)
      go_end0
      exact ⟨rfl, hbu3, (hbW.trans hb3), (hcW.trans hc3)⟩
    · rw [if_neg (by decide), if_neg (by decide), if_pos rfl] at hlen ⊢
      by_cases hk0 : ks = []
      case pos =>
        subst hk0
        obtain rfl : l = [] := List.eq_nil_of_length_eq_zero (by simpa using hkl.symm)
        have HIT := Lib.hid (fun (w1 : World) (hb1 : Below W0.heap.size W0 w1) (hbu1 : IsB W0.heap.size b acc w1) => items_bare W0 b d ih 123 125 4 0 [] [] a ka c kc acc w1 (by simp) hm (fun h => absurd h (by simp)) eachL_nil (by omega) hb1 hbu1 (by
          simp only [List.length_append, List.length_cons, List.length_nil] at hlen
          show acc.length + (wrL true []).length + 2 ≤ _
          rw [wrL_nil]
          rw [wrM_nil] at hlen
          simpa using hlen))
        have e0 : wrI false true [] [] = [] := by show wrL true [] = []; rw [wrL_nil]
        rw [e0, show ([] : List VT).length = 0 from rfl] at HIT
        rw [wrM_nil]
        clear hfit hx hkx he htx ih hM hT hlen
        have hb1 : Below w.heap.size w (w.alloc (.cells #[.int .i64 4, .int .i64 0, .string ⟨#[]⟩, .slice a 0 c, .slice ka 0 kc] 25)) := (Below.refl w.heap.size w).alloc (Nat.le_refl _) _
        have lA : Lies (w.alloc (.cells #[.int .i64 4, .int .i64 0, .string ⟨#[]⟩, .slice a 0 c, .slice ka 0 kc] 25)) w.heap.size 25 #[.int .i64 4, .int .i64 0, .string ⟨#[]⟩, .slice a 0 c, .slice ka 0 kc] := Lies.new w _ _
        have q0 := lA.cell 0; have q1 := lA.cell 1; have q2 := lA.cell 2; have q3 := lA.cell 3; have q4 := lA.cell 4; simp only [List.getElem?_toArray, List.getElem?_cons_succ, List.getElem?_cons_zero] at q0 q1 q2 q3 q4
        have hB0 := hb0.size
        have hb0 : Below W0.heap.size W0 (w.alloc (.cells #[.int .i64 4, .int .i64 0, .string ⟨#[]⟩, .slice a 0 c, .slice ka 0 kc] 25)) := hb0.trans (hb1.mono hB0)
        have hcW : Calm b w (w.alloc (.cells #[.int .i64 4, .int .i64 0, .string ⟨#[]⟩, .slice a 0 c, .slice ka 0 kc] 25)) := Calm.below hb1
        have hbW : Below W0.heap.size w (w.alloc (.cells #[.int .i64 4, .int .i64 0, .string ⟨#[]⟩, .slice a 0 c, .slice ka 0 kc] 25)) := hb1.mono hB0
        have hB : W0.heap.size ≤ (w.alloc (.cells #[.int .i64 4, .int .i64 0, .string ⟨#[]⟩, .slice a 0 c, .slice ka 0 kc] 25)).heap.size := Nat.le_trans hB0 hb1.size
        replace hbu := hbu.below hb1
        go_enter Tryd.func41, Tryd.ntmps41
        go_wp2_with (go_at_call 54; (with_reducible refine (HIT.out _ hb0 hbu).mono ?_); rintro e w3 ⟨rfl, hbu3, hb3, hc3⟩)
        go_end0
        exact ⟨rfl, hbu3, (hbW.trans hb3), (hcW.trans hc3)⟩
      have hkp : 0 < ks.length := List.length_pos_iff.2 hk0
      have HIT := Lib.hid (fun (w1 : World) (hb1 : Below W0.heap.size W0 w1) (hbu1 : IsB W0.heap.size b acc w1) => items_with W0 b d ih 123 125 4 0 [] l ks a ka c kc acc w1 hc hm hkl hkp (fun y hy => text_len (keys_mem htx.2.1 y hy)) hkx hx he.1 (by omega) hM hb1 hbu1 (by
        simp only [List.length_append, List.length_cons, List.length_nil] at hlen
        show acc.length + (wrM true l ks).length + 2 ≤ _
        omega))
      clear hfit hx hkx he htx ih hM hT hlen hk0 hkl
      have hb1 : Below w.heap.size w (w.alloc (.cells #[.int .i64 4, .int .i64 0, .string ⟨#[]⟩, .slice a l.length c, .slice ka ks.length kc] 25)) := (Below.refl w.heap.size w).alloc (Nat.le_refl _) _
      have lA : Lies (w.alloc (.cells #[.int .i64 4, .int .i64 0, .string ⟨#[]⟩, .slice a l.length c, .slice ka ks.length kc] 25)) w.heap.size 25 #[.int .i64 4, .int .i64 0, .string ⟨#[]⟩, .slice a l.length c, .slice ka ks.length kc] := Lies.new w _ _
      have q0 := lA.cell 0; have q1 := lA.cell 1; have q2 := lA.cell 2; have q3 := lA.cell 3; have q4 := lA.cell 4; simp only [List.getElem?_toArray, List.getElem?_cons_succ, List.getElem?_cons_zero] at q0 q1 q2 q3 q4
      have hB0 := hb0.size
      have hb0 : Below W0.heap.size W0 (w.alloc (.cells #[.int .i64 4, .int .i64 0, .string ⟨#[]⟩, .slice a l.length c, .slice ka ks.length kc] 25)) := hb0.trans (hb1.mono hB0)
      have hcW : Calm b w (w.alloc (.cells #[.int .i64 4, .int .i64 0, .string ⟨#[]⟩, .slice a l.length c, .slice ka ks.length kc] 25)) := Calm.below hb1
      have hbW : Below W0.heap.size w (w.alloc (.cells #[.int .i64 4, .int .i64 0, .string ⟨#[]⟩, .slice a l.length c, .slice ka ks.length kc] 25)) := hb1.mono hB0
      have hB : W0.heap.size ≤ (w.alloc (.cells #[.int .i64 4, .int .i64 0, .string ⟨#[]⟩, .slice a l.length c, .slice ka ks.length kc] 25)).heap.size := Nat.le_trans hB0 hb1.size
      replace hbu := hbu.below hb1
      go_enter Tryd.func41, Tryd.ntmps41
      go_wp2_with (go_at_call 54; (with_reducible refine (HIT.out _ hb0 hbu).mono ?_); rintro e w3 ⟨rfl, hbu3, hb3, hc3⟩)
      go_end0
      exact ⟨rfl, hbu3, (hbW.trans hb3), (hcW.trans hc3)⟩
set_option maxHeartbeats 1600000 in
theorem textOf_any (d : Nat) (cs : List Value) (t : VT) (W : World) (h : IsV W d cs t) (he : t.each = true) (hc : t.count ≤ 2000) (hM : MaxAt W) (hT : Tab W) :
    Calls Tryd.prog 27 #[.agg cs.toArray] W fun e w' => e = .returned (.string ⟨t.wr.toArray⟩) ∧ Below W.heap.size W w' := by
  have hwl := wr_len t.count t (Nat.le_refl _) he
  obtain ⟨ai, ci, ak, ck, rfl⟩ := h.form
  have hb1 : Below W.heap.size W (W.alloc (.cells #[.int .i64 t.kind, .int .i64 t.num, .string ⟨t.txt.toArray⟩, .slice ai t.items.length ci, .slice ak t.keys.length ck] 25)) := (Below.refl W.heap.size W).alloc (Nat.le_refl _) _
  have hsz : (W.alloc (.cells #[.int .i64 t.kind, .int .i64 t.num, .string ⟨t.txt.toArray⟩, .slice ai t.items.length ci, .slice ak t.keys.length ck] 25)).heap.size = W.heap.size + 1 := by simp
  have HW := Lib.hid (fun (w1 : World) (hb : Below (W.alloc (.cells #[.int .i64 t.kind, .int .i64 t.num, .string ⟨t.txt.toArray⟩, .slice ai t.items.length ci, .slice ak t.keys.length ck] 25)).heap.size (W.alloc (.cells #[.int .i64 t.kind, .int .i64 t.num, .string ⟨t.txt.toArray⟩, .slice ai t.items.length ci, .slice ak t.keys.length ck] 25)) w1) (hbu : IsB (W.alloc (.cells #[.int .i64 t.kind, .int .i64 t.num, .string ⟨t.txt.toArray⟩, .slice ai t.items.length ci, .slice ak t.keys.length ck] 25)).heap.size (W.alloc (.cells #[.int .i64 t.kind, .int .i64 t.num, .string ⟨t.txt.toArray⟩, .slice ai t.items.length ci, .slice ak t.keys.length ck] 25)).heap.size [] w1) =>
    write_says (W.alloc (.cells #[.int .i64 t.kind, .int .i64 t.num, .string ⟨t.txt.toArray⟩, .slice ai t.items.length ci, .slice ak t.keys.length ck] 25)) (W.alloc (.cells #[.int .i64 t.kind, .int .i64 t.num, .string ⟨t.txt.toArray⟩, .slice ai t.items.length ci, .slice ak t.keys.length ck] 25)).heap.size (hM.below hb1) (hT.below hb1) d _ t [] w1 (h.below hb1) he hc hb hbu (by simp; omega))
  have hbu := builder_new (W.alloc (.cells #[.int .i64 t.kind, .int .i64 t.num, .string ⟨t.txt.toArray⟩, .slice ai t.items.length ci, .slice ak t.keys.length ck] 25))
  have lA : Lies (W.alloc (.cells #[.int .i64 t.kind, .int .i64 t.num, .string ⟨t.txt.toArray⟩, .slice ai t.items.length ci, .slice ak t.keys.length ck] 25)) W.heap.size 25 #[.int .i64 t.kind, .int .i64 t.num, .string ⟨t.txt.toArray⟩, .slice ai t.items.length ci, .slice ak t.keys.length ck] := Lies.new W _ _
  have hbv : Below (W.alloc (.cells #[.int .i64 t.kind, .int .i64 t.num, .string ⟨t.txt.toArray⟩, .slice ai t.items.length ci, .slice ak t.keys.length ck] 25)).heap.size (W.alloc (.cells #[.int .i64 t.kind, .int .i64 t.num, .string ⟨t.txt.toArray⟩, .slice ai t.items.length ci, .slice ak t.keys.length ck] 25)) ((W.alloc (.cells #[.int .i64 t.kind, .int .i64 t.num, .string ⟨t.txt.toArray⟩, .slice ai t.items.length ci, .slice ak t.keys.length ck] 25)).alloc (.cells #[.pointer none, .slice none 0 0] 67)) := (Below.refl _ _).alloc (Nat.le_refl _) _
  have lB := lA.on hbv
  have q0 := lB.cell 0; have q1 := lB.cell 1; have q2 := lB.cell 2; have q3 := lB.cell 3; have q4 := lB.cell 4; simp only [List.getElem?_toArray, List.getElem?_cons_succ, List.getElem?_cons_zero] at q0 q1 q2 q3 q4
  rw [hsz] at HW hbu hbv
  have hB1 : W.heap.size ≤ W.heap.size + 1 := Nat.le_succ _
  clear h he hc hM hT lA lB
  simp only [List.nil_append] at HW
  generalize t.wr = tx at *
  go_enter Tryd.func27, Tryd.ntmps27
  go_wp2_with (first | (go_at_call 41; (with_reducible refine (HW.out _ hbv hbu).mono ?_); rintro e w3 ⟨rfl, hbu3, hb3, hc3⟩; replace hbv := hbv.trans hb3; clear hb3 hc3) | (go_at_call 42; (with_reducible refine (string_b _ _ _ _ hbu3 (Nat.le_trans (Nat.le_of_eq hsz.symm) hbv.size)).mono ?_); rintro e w4 ⟨rfl, hb4⟩))
  go_ret
  exact ⟨rfl, (hb1.trans ((hbv.trans hb4).mono hB1))⟩
set_option maxHeartbeats 1600000 in
theorem print_yes (d : Nat) (cs : List Value) (t : VT) (W : World) (h : IsV W d cs t) (ho : t.okB = true) (hM : MaxAt W) (hT : Tab W) :
    Calls Tryd.prog 11 #[.agg cs.toArray] W fun e w' => e = .returned (.tuple #[.string ⟨t.wr.toArray⟩, .int .i64 0]) ∧ Below W.heap.size W w' := by
  have ho2 := ho
  unfold VT.okB at ho2
  rw [Bool.and_eq_true, Bool.and_eq_true, decide_eq_true_eq] at ho2
  have HR := Lib.hid (fun (w1 : World) (hb : Below W.heap.size W w1) => right_any d cs t w1 (h.below hb))
  have HX := Lib.hid (fun (w1 : World) (hb : Below W.heap.size W w1) => textOf_any d cs t w1 (h.below hb) ho2.2 ho2.1.1 (hM.below hb) (hT.below hb))
  rw [ho] at HR
  obtain ⟨ai, ci, ak, ck, rfl⟩ := h.form
  have hbW : Below W.heap.size W (W.alloc (.cells #[.int .i64 t.kind, .int .i64 t.num, .string ⟨t.txt.toArray⟩, .slice ai t.items.length ci, .slice ak t.keys.length ck] 25)) := (Below.refl W.heap.size W).alloc (Nat.le_refl _) _
  have lA : Lies (W.alloc (.cells #[.int .i64 t.kind, .int .i64 t.num, .string ⟨t.txt.toArray⟩, .slice ai t.items.length ci, .slice ak t.keys.length ck] 25)) W.heap.size 25 #[.int .i64 t.kind, .int .i64 t.num, .string ⟨t.txt.toArray⟩, .slice ai t.items.length ci, .slice ak t.keys.length ck] := Lies.new W _ _
  have q0 := lA.cell 0; have q1 := lA.cell 1; have q2 := lA.cell 2; have q3 := lA.cell 3; have q4 := lA.cell 4; simp only [List.getElem?_toArray, List.getElem?_cons_succ, List.getElem?_cons_zero] at q0 q1 q2 q3 q4
  clear h ho ho2 hM hT
  generalize t.wr = tx at *
  go_enter Tryd.func11, Tryd.ntmps11
  go_wp2_with (first | (go_at_call 16; (with_reducible refine (HR.out _ hbW).mono ?_); rintro e w1 ⟨rfl, hb1⟩; replace hbW := below_on hbW hb1; replace lA := lA.on hb1; have q0 := lA.cell 0; have q1 := lA.cell 1; have q2 := lA.cell 2; have q3 := lA.cell 3; have q4 := lA.cell 4; simp only [List.getElem?_toArray, List.getElem?_cons_succ, List.getElem?_cons_zero] at q0 q1 q2 q3 q4) | (go_at_call 27; (with_reducible refine (HX.out _ hbW).mono ?_); rintro e w2 ⟨rfl, hb2⟩))
  go_ret2
  exact ⟨rfl, below_on hbW hb2⟩
set_option maxHeartbeats 1600000 in
theorem print_no (d : Nat) (cs : List Value) (t : VT) (W : World) (h : IsV W d cs t) (ho : t.okB = false) :
    Calls Tryd.prog 11 #[.agg cs.toArray] W fun e w' => e = .returned (.tuple #[.string ⟨#[]⟩, .int .i64 1]) ∧ Below W.heap.size W w' := by
  have HR := Lib.hid (fun (w1 : World) (hb : Below W.heap.size W w1) => right_any d cs t w1 (h.below hb))
  rw [ho] at HR
  obtain ⟨ai, ci, ak, ck, rfl⟩ := h.form
  have hbW : Below W.heap.size W (W.alloc (.cells #[.int .i64 t.kind, .int .i64 t.num, .string ⟨t.txt.toArray⟩, .slice ai t.items.length ci, .slice ak t.keys.length ck] 25)) := (Below.refl W.heap.size W).alloc (Nat.le_refl _) _
  have lA : Lies (W.alloc (.cells #[.int .i64 t.kind, .int .i64 t.num, .string ⟨t.txt.toArray⟩, .slice ai t.items.length ci, .slice ak t.keys.length ck] 25)) W.heap.size 25 #[.int .i64 t.kind, .int .i64 t.num, .string ⟨t.txt.toArray⟩, .slice ai t.items.length ci, .slice ak t.keys.length ck] := Lies.new W _ _
  have q0 := lA.cell 0; have q1 := lA.cell 1; have q2 := lA.cell 2; have q3 := lA.cell 3; have q4 := lA.cell 4; simp only [List.getElem?_toArray, List.getElem?_cons_succ, List.getElem?_cons_zero] at q0 q1 q2 q3 q4
  clear h ho
  go_enter Tryd.func11, Tryd.ntmps11
  go_wp2_with (go_at_call 16; (with_reducible refine (HR.out _ hbW).mono ?_); rintro e w1 ⟨rfl, hb1⟩)
  go_ret2
  exact ⟨rfl, below_on hbW hb1⟩
end Go.Proofs.YtdfdpckcemdimaaDoor.V
