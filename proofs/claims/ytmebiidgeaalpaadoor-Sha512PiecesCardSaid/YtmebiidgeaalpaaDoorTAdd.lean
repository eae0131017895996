/- The contract of the program's add: a block's words go into the sum's. -/
import Derived.Test.YtmebiidgeaalpaaDoorTSpread
namespace Go.Proofs.YtmebiidgeaalpaaDoor.T
open Go.RowKit

/-- the cells of a sum while its words are added up, i of them done -/
def partA (s v : H8) (buf : ByteArray) (n i : Nat) : Array Value :=
  let f := fun (j x y : Nat) => w64 (if j < i then (x + y) % 18446744073709551616 else x)
  #[f 0 s.a v.a, f 1 s.b v.b, f 2 s.c v.c, f 3 s.d v.d, f 4 s.e v.e, f 5 s.f v.f, f 6 s.g v.g, f 7 s.h v.h, .string buf, .int .u64 (n : Int)]
theorem partA_zero (s v : H8) (buf : ByteArray) (n : Nat) : partA s v buf n 0 = sumA s buf n := rfl
theorem partA_end (s v : H8) (buf : ByteArray) (n : Nat) : partA s v buf n 8 = sumA (s.plus v) buf n := rfl
theorem partA_at (s v : H8) (buf : ByteArray) (n i : Nat) (h : i < 8) : (partA s v buf n i)[i]? = some (w64 (s.at i)) := by
  match i, h with
  | 0, _ | 1, _ | 2, _ | 3, _ | 4, _ | 5, _ | 6, _ | 7, _ => rfl
theorem partA_set (s v : H8) (buf : ByteArray) (n i : Nat) (h : i < 8) : (partA s v buf n i).setIfInBounds i (w64 ((s.at i + v.at i) % 18446744073709551616)) = partA s v buf n (i + 1) := by
  match i, h with
  | 0, _ | 1, _ | 2, _ | 3, _ | 4, _ | 5, _ | 6, _ | 7, _ => rfl
theorem index_eight (v : H8) (i : Nat) (h : i < 8) (W : World) : (Instr.index 26 (.agg #[w64 v.a, w64 v.b, w64 v.c, w64 v.d, w64 v.e, w64 v.f, w64 v.g, w64 v.h]) (.int .i64 (i : Int))).run Tryd.prog W = .ok (w64 (v.at i)) W := by
  match i, h with
  | 0, _ | 1, _ | 2, _ | 3, _ | 4, _ | 5, _ | 6, _ | 7, _ => (show _ = _; kernel_rfl)

theorem plus_cast (a b : Nat) : IntKind.u64.wrap ((a : Int) + (b : Int)) = (((a + b) % 18446744073709551616 : Nat) : Int) := by
  rw [IntKind.wrap_u64]
  omega
theorem ones_xor (e : Nat) (he : e < 18446744073709551616) : 18446744073709551615 ^^^ e = 18446744073709551615 - e := by
  have h := BitVec.toNat_not (x := BitVec.ofNat 64 e)
  rw [BitVec.not_def, BitVec.toNat_xor, BitVec.toNat_allOnes, BitVec.toNat_ofNat, Nat.mod_eq_of_lt (show e < 2 ^ 64 from he)] at h
  exact h
theorem ch_walk (e f g : Nat) (he : e < 18446744073709551616) (hf : f < 18446744073709551616) (hg : g < 18446744073709551616) :
    bits BinOp.xor IntKind.u64 (bits BinOp.and IntKind.u64 (e : Int) (f : Int)) (bits BinOp.and IntKind.u64 (bits BinOp.xor IntKind.u64 (if IntKind.u64.signed = true then -1 else IntKind.u64.max) (e : Int)) (g : Int)) = ((chs e f g : Nat) : Int) := by
  rw [show (if IntKind.u64.signed = true then (-1 : Int) else IntKind.u64.max) = ((18446744073709551615 : Nat) : Int) from rfl, u64_xor_nat _ _ (by decide) he, ones_xor e he, u64_and_nat _ _ he hf, u64_and_nat _ _ (by omega) hg, u64_xor_nat _ _ (and_lt _ _ hf) (and_lt _ _ hg)]
  rfl
theorem maj_walk (a b c : Nat) (ha : a < 18446744073709551616) (hb : b < 18446744073709551616) (hc : c < 18446744073709551616) :
    bits BinOp.xor IntKind.u64 (bits BinOp.xor IntKind.u64 (bits BinOp.and IntKind.u64 (a : Int) (b : Int)) (bits BinOp.and IntKind.u64 (a : Int) (c : Int))) (bits BinOp.and IntKind.u64 (b : Int) (c : Int)) = ((maj a b c : Nat) : Int) := by
  rw [u64_and_nat _ _ ha hb, u64_and_nat _ _ ha hc, u64_and_nat _ _ hb hc, u64_xor_nat _ _ (and_lt _ _ hb) (and_lt _ _ hc), u64_xor_nat _ _ (xor_lt _ _ (and_lt _ _ hb) (and_lt _ _ hc)) (and_lt _ _ hc)]
  rfl

set_option maxRecDepth 100000 in
set_option maxHeartbeats 1600000 in
theorem add_any (s : ByteArray) (g : Nat) (H : H8) (buf : ByteArray) (n : Nat) (w : World) (hs : s.size = 128) (hT : Tab w) (hl : Lies w g 58 (sumA H buf n)) (hok : H.Ok) :
    Calls Tryd.prog 31 #[.pointer (some ⟨g, 0, none⟩), .string s] w fun e w' => e = .returned (.tuple #[]) ∧ Lies w' g 58 (sumA (mix H s.data.toList) buf n) ∧ Only g w w' := by
  have HN := Lib.hid (allA_size s.data.toList 80 (by omega))
  have HO := Lib.hid (allA_one s.data.toList 80)
  have HS := Lib.hid (spread_any s w hs)
  clear hs
  have hz80 := fun w : World => zero80 s.data.toList w
  go_enter Tryd.func31, Tryd.ntmps31
  go_wp2_with (first | (go_at_call 39; refine HS.out.mono ?_; rintro e w1 ⟨rfl, hb1⟩) | ((with_reducible refine wpL_store w1.heap.size 63 _ (allA s.data.toList 80) 80 row80 ?_ HN.out HO.out (Lies.new _ _ _) ?_ ?_ ?_); rfl; rfl; rfl))
  generalize hW : World.setRow _ _ _ = W2
  have hb2 : Below w.heap.size w W2 := by rw [← hW]; exact below_rowSet (hb1.alloc hb1.size _) hb1.size _
  have hA : Lies W2 w1.heap.size 63 (allA s.data.toList 80) := by rw [← hW]; exact (Lies.new _ _ _).row _
  have hl2 := hl.on hb2
  have hT2 := hT.below hb2
  have hO2 := Only.of_below hb2 g
  have hne : g ≠ w1.heap.size := by have := hl.lt; have := hb1.size; omega
  have HNE := Lib.hid hne
  have HB := Lib.hid (show w.heap.size ≤ w1.heap.size from hb1.size)
  clear hW hb1 hb2 hl hT hne
  have c0 := hl2.cell 0
  have c1 := hl2.cell 1
  have c2 := hl2.cell 2
  have c3 := hl2.cell 3
  have c4 := hl2.cell 4
  have c5 := hl2.cell 5
  have c6 := hl2.cell 6
  have c7 := hl2.cell 7
  simp only [sumA, List.getElem?_toArray, List.getElem?_cons_zero, List.getElem?_cons_succ] at c0 c1 c2 c3 c4 c5 c6 c7
  go_quiet (fail)
  go_wp2_with fail
  clear c0 c1 c2 c3 c4 c5 c6 c7
  go_loopw [5, 6, 7, 8, 9, 10, 11, 12, 68] (fun a b c d e f gg h i wr => ∃ (t : Nat) (v : H8), t ≤ 80 ∧ i = .int .i64 t ∧ a = w64 v.a ∧ b = w64 v.b ∧ c = w64 v.c ∧ d = w64 v.d ∧ e = w64 v.e ∧ f = w64 v.f ∧ gg = w64 v.g ∧ h = w64 v.h ∧ v.Ok ∧ Hid (v = rnds (sched s.data.toList 80) H t) ∧ Lies wr w1.heap.size 63 (allA s.data.toList 80) ∧ Lies wr g 58 (sumA H buf n) ∧ Tab wr ∧ Only g w wr) (fun _ _ _ _ _ _ _ _ i _ => 80 - (intOf i).toNat)
  case atStart => exact ⟨0, H, by omega, rfl, rfl, rfl, rfl, rfl, rfl, rfl, rfl, rfl, hok, Lib.hid rfl, hA, hl2, hT2, hO2.drewN _⟩
  case round =>
    clear hA hl2 hT2 hO2
    obtain ⟨t, v, ht, rfl, rfl, rfl, rfl, rfl, rfl, rfl, rfl, rfl, hv, HV, hA, hl, hT, hO⟩ := hrel
    by_cases hlt : t < 80
    · have kT : wr.cell? ⟨1, t, none⟩ = some (w64 (kAt t)) := hT.2 t hlt
      have wT : wr.cell? ⟨w1.heap.size, t, none⟩ = some (w64 ((sched s.data.toList 80).getD t 0)) := (hA.cell t).trans (allA_at _ _ _ hlt)
      have HR := Lib.hid (show rnds (sched s.data.toList 80) H (t + 1) = rnd v (kAt t) ((sched s.data.toList 80).getD t 0) by rw [rnds, HV.out])
      have lk := kAt_lt t hlt
      have lw := sched_at_lt s.data.toList 80 t
      have HK := Lib.hid hv
      obtain ⟨va, vb, vc, vd, ve, vf, vg, vh⟩ := hv
      generalize kAt t = k at kT HR lk
      generalize (sched s.data.toList 80).getD t 0 = x at wT HR lw
      have hi : (t : Int) < 80 := by omega
      go_wp2_with fail
      go_quiet ((go_at_call 40; exact Calls.quiet_of_same (turned_e _ _ ve)))
      go_wp2_with (go_at_call 40; refine (turned_a _ _ va).mono ?_; rintro e w3 ⟨rfl, rfl⟩)
      go_roundw
      case rel =>
        refine ⟨t + 1, rnd v k x, by omega, by go_num, ?_, rfl, rfl, rfl, ?_, rfl, rfl, rfl, rnd_ok HK.out _ _, Lib.hid HR.out.symm, hA, hl, hT, hO.drewN _⟩
        · rw [ch_walk _ _ _ ve vf vg, maj_walk _ _ _ va vb vc]
          exact val_int (by simp only [rnd, tmp1, tmp2, IntKind.wrap_u64]; omega)
        · rw [ch_walk _ _ _ ve vf vg]
          exact val_int (by simp only [rnd, tmp1, IntKind.wrap_u64]; omega)
      case measure => simp [intOf]; omega
    · obtain rfl : t = 80 := by omega
      rw [show ((80 : Nat) : Int) = 80 from rfl]
      have hix := index_eight v
      go_wp2_with fail
      go_loopw [128] (fun i wr => ∃ t : Nat, t ≤ 8 ∧ i = .int .i64 t ∧ Lies wr g 58 (partA H v buf n t) ∧ Only g w wr) (fun i _ => 8 - (intOf i).toNat)
      case atStart => exact ⟨0, by omega, rfl, hl, hO⟩
      case round =>
        clear hA hl hT hO
        obtain ⟨t, ht, rfl, hl, hO⟩ := hrel
        by_cases hlt : t < 8
        · have hx := hix t hlt
          clear hix
          have hc := (hl.cell t).trans (partA_at H v buf n t hlt)
          have hf := hl.frozen t
          have hi : (t : Int) < 8 := by omega
          have HP := Lib.hid (partA_set H v buf n t hlt)
          go_wp2_with fail
          refine wp_region_still_tail 13 (by kernel_rfl) (by kernel_rfl) ?_
          simp only [List.take_succ_cons, List.take_zero, List.drop_succ_cons, List.drop_zero]
          change wpStill _ _ wr.drew _ _ _
          repeat still_step
          refine wpStill_nil ?_
          change wpList _ _ _ _ _ wr.drew
          go_wp2
          go_roundw
          case rel =>
            exact ⟨t + 1, by omega, by go_num, by rw [← HP.out, plus_cast]; exact (hl.put t _).drew, (hO.put (Or.inl rfl) _).drew⟩
          case measure => simp [intOf]; omega
        · obtain rfl : t = 8 := by omega
          clear hix
          go_wp2
          go_end0
          exact ⟨rfl, by rw [mix, ← HV.out]; exact hl, hO⟩

end Go.Proofs.YtmebiidgeaalpaaDoor.T
