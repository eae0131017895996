/- The contract of the reference's fold: what digits leave, divided by p. -/
import Derived.Test.YtlbhlklgliblgaaDoorFTimes
import Derived.Test.YtlbhlklgliblgaaDoorFReck
import Derived.Test.YtlbhlklgliblgaaDoorFPrimeC
import Derived.Test.YtlbhlklgliblgaaDoorFWords
namespace Go.Proofs.YtlbhlklgliblgaaDoor.F
open Go.RowKit

theorem fold_step (l : List Nat) (r : List Nat) (h16 : 16 < l.length) (ht : Tr l) (hr : val r = val (l.take 16) + val (l.drop 16) * 38) : val r % p25 = val l % p25 ∧ val r < val l := by
  have h1 := val_split l 16 (by omega)
  obtain ⟨n, hn⟩ : ∃ n, l.length = n + 1 := ⟨l.length - 1, by omega⟩
  have h2 : Tr (l.drop 16) := fun k hk => by
    rw [List.length_drop] at hk
    rw [List.getD_eq_getElem?_getD, List.getElem?_drop, ← List.getD_eq_getElem?_getD]
    exact ht (16 + k) (by omega)
  have h3 := h2.ge (n - 16) (by rw [List.length_drop]; omega)
  have h4 : 1 ≤ 65536 ^ (n - 16) := Nat.pow_pos (by decide)
  have e : (65536 : Nat) ^ 16 = 38 + 2 * p25 := by decide +kernel
  rw [e, Nat.add_mul] at h1
  generalize val (l.drop 16) = H at *
  generalize val (l.take 16) = L at *
  have hp : 1 ≤ p25 := by decide
  have h5 : 2 * p25 * H = p25 * (2 * H) := by rw [Nat.mul_comm 2 p25, Nat.mul_assoc]
  rw [h5] at h1
  refine ⟨?_, ?_⟩
  · rw [hr, h1, show L + (38 * H + p25 * (2 * H)) = (L + H * 38) + p25 * (2 * H) by rw [Nat.mul_comm 38 H]; omega, Nat.add_mul_mod_self_left]
  · have h6 : p25 * 1 ≤ p25 * (2 * H) := Nat.mul_le_mul_left _ (by omega)
    omega

set_option maxRecDepth 100000 in
set_option maxHeartbeats 1600000 in
theorem fold_any (d : List Nat) (g o cap : Nat) (W : World) (hd : Dig W g o d) (hl : d.length ≤ 100) (hc : d.length ≤ cap) (dd : Dg d) :
    Calls Tryd.prog 26 #[.slice (some ⟨g, o, none⟩) d.length cap] W fun e W' => e = .returned (fe (val d % p25)) ∧ Below W.heap.size W W' := by
  have HT := Lib.hid (fun w hd => trim_any d g o cap w hd (by omega) hc)
  have HD := Lib.hid dd
  go_enter Tryd.func26, Tryd.ntmps26
  go_wp2_with (go_at_call 33; refine (HT.out _ (hd.on ((Below.refl _ W).alloc (Nat.le_refl _) _))).mono ?_; rintro e w1 ⟨rfl, rfl⟩)
  go_loopw [0] (fun dx wr => ∃ (l : List Nat) (g o cap : Nat), dx = .slice (some ⟨g, o, none⟩) l.length cap ∧ l.length ≤ cap ∧ l.length ≤ 100 ∧ Dig wr g o l ∧ Dg l ∧ Tr l ∧ Hid (val l % p25 = val d % p25) ∧ Lies wr W.heap.size 23 #[w64 0, w64 0, w64 0, w64 0] ∧ Below W.heap.size W wr) (fun dx wr => readV dx wr)
  case atStart => exact ⟨trimL d, g, o, cap, rfl, Nat.le_trans (trimL_le d) hc, Nat.le_trans (trimL_le d) hl, (hd.on ((Below.refl _ W).alloc (Nat.le_refl _) _)).take _, HD.out.trim, trim_tr d, Lib.hid (by rw [val_trim]), heap_alloc_new W _, (Below.refl _ W).alloc (Nat.le_refl _) _⟩
  case round =>
    clear hd HT
    obtain ⟨l, g, o, cap, rfl, hc, hl, hd, dl, tl, HV, hr, hB⟩ := hrel
    have hsz := hB.size
    by_cases h16 : 16 < l.length
    · have hl16 : (l.drop 16).length = l.length - 16 := List.length_drop
      have ht16 : (l.take 16).length = 16 := by rw [List.length_take]; omega
      have hba : Below wr.heap.size wr (wr.alloc (.cells #[Value.int .i64 38] 3)) := (Below.refl _ wr).alloc (Nat.le_refl _) _
      have hd38 : Dig (wr.alloc (.cells #[Value.int .i64 38] 3)) wr.heap.size 0 [38] := fun i hi => by
        obtain rfl : i = 0 := by simpa using hi
        exact (Lies.new wr 3 #[Value.int .i64 38]).cell 0
      have HT1 := Lib.hid (times_any (l.drop 16) [38] g (o + 16) (cap - 16) wr.heap.size 0 1 _ ((hd.on hba).drop 16) hd38 (by omega) (by decide) (dl.drop 16) (by unfold Dg; simp))
      rw [hl16] at HT1
      have HT2 := Lib.hid (fun w (h : Dig w g o l) => trim_any (l.take 16) g o cap w (h.take 16) (by omega) (by omega))
      rw [ht16] at HT2
      have hlt := trimL_le (l.take 16)
      rw [ht16] at hlt
      have hrd := readV_dig (cap := cap) hd
      have HF := Lib.hid (fun r => fold_step l r h16 tl)
      have HTr := Lib.hid (val_trim (l.take 16))
      have HDt := Lib.hid ((dl.take 16).trim)
      have HDl := Lib.hid dl
      clear dl tl
      go_wp2_with (first
        | (go_at_call 35; refine HT1.out.mono ?_; rintro e w1 ⟨r1, g1, cap1, rfl, a1, a2, a3, a4, a5, a6, hb1⟩; replace a2 : r1.length ≤ l.length - 16 + 1 + 4 := a2)
        | (go_at_call 33; refine (HT2.out _ (hd.on (hba.trans (hb1.mono hba.size)))).mono ?_; rintro e w2 ⟨rfl, rfl⟩)
        | (go_at_call 30; refine (plus_any (trimL (l.take 16)) r1 g o cap g1 0 cap1 _ (((hd.on (hba.trans (hb1.mono hba.size))).take 16).take _) a3 (by omega) (by omega) HDt.out a4).mono ?_; rintro e w3 ⟨r3, g3, cap3, rfl, c1, c2, c3, c4, c5, c6, hb3⟩))
      have hv3 : val r3 = val (l.take 16) + val (l.drop 16) * 38 := by rw [c6, a6, HTr.out]; rfl
      have hf3 := HF.out r3 hv3
      have hb4 : Below wr.heap.size wr w3 := below_on (below_on hba hb1) hb3
      have hl3 := shorter c5 HDl.out (Nat.le_of_lt hf3.2)
      go_roundw
      case rel => exact ⟨r3, g3, 0, cap3, rfl, c1, by omega, c3, c4, c5, Lib.hid (hf3.1.trans HV.out), hr.on hb4, below_on hB hb4⟩
      case measure => rw [readV_dig c3, hrd]; exact hf3.2
    · have HDl := Lib.hid dl
      have HTl := Lib.hid tl
      clear dl tl
      go_wp2_with (go_at_call 32; refine (prime_any _).mono ?_; rintro e w1 ⟨gp, capp, rfl, p1, hp, hb1⟩)
      go_loopw [0] (fun dx wr => ∃ (l : List Nat) (g o cap : Nat), dx = .slice (some ⟨g, o, none⟩) l.length cap ∧ l.length ≤ 16 ∧ Dig wr g o l ∧ Dg l ∧ Tr l ∧ Hid (val l % p25 = val d % p25) ∧ Dig wr gp 0 primeL ∧ Lies wr W.heap.size 23 #[w64 0, w64 0, w64 0, w64 0] ∧ Below W.heap.size W wr) (fun dx wr => readV dx wr)
      case atStart => exact ⟨l, g, o, cap, rfl, by omega, hd.on hb1, HDl.out, HTl.out, HV, hp, hr.on hb1, below_on hB hb1⟩
      case round =>
        clear hd hr hB HV HDl HTl hp hb1 hsz
        obtain ⟨l, g, o, cap, rfl, hl, hd, dl, tl, HV, hp, hr, hB⟩ := hrel
        have hrd := readV_dig (cap := cap) hd
        have HLs := Lib.hid (less_any l primeL g o cap gp 0 capp wr hd hp (by omega) dl prime_dg tl prime_tr)
        have hpp : primeL.length = 16 := rfl
        rw [hpp, prime_val] at HLs
        by_cases hlt : val l < p25
        · rw [decide_eq_true hlt] at HLs
          have HVal := Lib.hid (Nat.mod_eq_of_lt hlt ▸ HV.out : val l = val d % p25)
          have HW := Lib.hid (fun w (h : Dig w g o l) => words_any l g o cap w h hl dl)
          clear hlt dl tl
          go_wp2_with (first
            | (go_at_call 39; refine HLs.out.mono ?_; rintro e w2 ⟨rfl, hb2⟩)
            | (go_at_call 38; refine (HW.out _ (hd.on hb2)).mono ?_; rintro e w3 ⟨rfl, hb3⟩; have hr3 := (hr.on hb2).on hb3)
            | ((with_reducible refine wpL_store W.heap.size 23 _ (feA (val l)) 4 row4 rfl (feA_size _) (feA_one _) hr3 ?_ ?_ ?_); rfl; rfl))
          exact bodyPost_ret (results_row Tryd.results26 row4 (feA_size _) (hr3.row _) rfl) rfl ⟨by rw [HVal.out], below_rowSet (below_on (below_on hB hb2) hb3) (Nat.le_refl _) _⟩
        · rw [decide_eq_false hlt] at HLs
          have HM := Lib.hid (fun w (h : Dig w g o l) (hp : Dig w gp 0 primeL) => minus_any l primeL g o cap gp 0 capp w h hp (by omega) dl prime_dg (by rw [prime_val]; omega))
          rw [hpp, prime_val] at HM
          clear dl tl
          go_wp2_with (first
            | (go_at_call 39; refine HLs.out.mono ?_; rintro e w2 ⟨rfl, hb2⟩)
            | (go_at_call 31; refine (HM.out _ (hd.on hb2) (hp.on hb2)).mono ?_; rintro e w3 ⟨r3, g3, cap3, rfl, c1, c2, c3, c4, c5, c6, hb3⟩))
          have hp25 : 0 < p25 := by decide
          have hb4 := below_on hb2 hb3
          have hv4 : val r3 % p25 = val l % p25 := by rw [c6, ← Nat.mod_eq_sub_mod (by omega)]
          go_roundw
          case rel => exact ⟨r3, g3, 0, cap3, rfl, by omega, c3, c4, c5, Lib.hid (hv4.trans HV.out), hp.on hb4, hr.on hb4, below_on hB hb4⟩
          case measure => rw [readV_dig c3, hrd, c6]; omega
end Go.Proofs.YtlbhlklgliblgaaDoor.F
