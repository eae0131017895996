/- What is proved: whatever bytes the statement of sums is called with, it answers true; no condition. -/
import Derived.Test.YtmebiidgeaalpaaDoorTRefRows
import Derived.Test.YtmebiidgeaalpaaDoorTRootVals
import Derived.Test.YtmebiidgeaalpaaDoorTRefEnd
import Derived.Test.YtmebiidgeaalpaaDoorTAlive
import Derived.Test.YtmebiidgeaalpaaDoorTGoes
namespace Go.Proofs.YtmebiidgeaalpaaDoor.T
open Go.RowKit

theorem eql_new (w : World) : (binOp .eql 28 (.agg (sumA h0 noBytes 0)) (.agg (sumA h0 noBytes 0))).run Tryd.prog w = .ok (.bool true) w := by
  have h := eql_sums w h0 h0 noBytes noBytes 0 0
  rw [show (decide (h0 = h0) && (noBytes.toList == noBytes.toList && ((0 : Nat) : Int) == ((0 : Nat) : Int))) = true by simp] at h
  exact h
/-- a new sum, of so many words -/
def newA (i : Nat) : Array Value :=
  let f := fun (j x : Nat) => w64 (if j < i then x else 0)
  #[f 0 h0.a, f 1 h0.b, f 2 h0.c, f 3 h0.d, f 4 h0.e, f 5 h0.f, f 6 h0.g, f 7 h0.h, .string noBytes, .int .u64 0]
theorem newA_at (i : Nat) (h : i < 8) : (newA i)[i]? = some (w64 0) := by
  match i, h with
  | 0, _ | 1, _ | 2, _ | 3, _ | 4, _ | 5, _ | 6, _ | 7, _ => rfl
theorem newA_set (i : Nat) (h : i < 8) : (newA i).setIfInBounds i (w64 (h0L.getD i 0)) = newA (i + 1) := by
  match i, h with
  | 0, _ | 1, _ | 2, _ | 3, _ | 4, _ | 5, _ | 6, _ | 7, _ => rfl
theorem newA_end : newA 8 = sumA h0 noBytes 0 := rfl

theorem Row32.far {w : World} {g : Nat} {l : List Nat} (h : Row32 w g l) {p : Addr} (hp : p.block ≠ g) (v : Value) : Row32 (w.setCell p v) g l := fun i hi => by
  rw [World.cell?_setCell_other w p ⟨g, i, none⟩ v (fun e => hp (by rw [e]))]
  exact h i hi

set_option maxRecDepth 100000 in
set_option maxHeartbeats 800000 in
theorem refNew_any (w : World) :
    Calls Tryd.prog 11 #[] w fun e w' => e = .returned (.agg (sumA h0 noBytes 0)) ∧ Below w.heap.size w w' := by
  go_enter Tryd.func11, Tryd.ntmps11
  go_upto_region 2 with fail
  generalize hW : World.alloc (World.alloc w _) _ = w2
  have hz : Lies w2 w.heap.size 28 (sumA h8zero noBytes 0) := by rw [← hW]; exact heap_alloc2_old w _ _
  have hx : Lies w2 (w.heap.size + 1) 28 (newA 0) := by rw [← hW]; exact heap_alloc2_new w _ _
  have hb : Below w.heap.size w w2 := by rw [← hW]; exact ((Below.refl w.heap.size w).alloc (Nat.le_refl _) _).alloc (by simp) _
  clear hW
  go_wp2_with (go_at_call 15; refine (first_any _).mono ?_; rintro e w3 ⟨gf, rfl, hgf, hf, hb3⟩; replace hz := hz.on hb3; replace hgf := Nat.lt_of_lt_of_le (Lies.lt hx) hgf; replace hx := hx.on hb3; replace hb := below_on hb hb3; clear hb3)
  go_loopw [7] (fun ix wr => ∃ k : Nat, k ≤ 8 ∧ ix = .int .i64 k ∧ Lies wr w.heap.size 28 (sumA h8zero noBytes 0) ∧ Lies wr (w.heap.size + 1) 28 (newA k) ∧ Row32 wr gf h0L ∧ Below w.heap.size w wr) (fun ix _ => 8 - (intOf ix).toNat)
  case atStart => exact ⟨0, by omega, rfl, hz, hx, hf, hb⟩
  case round =>
    clear hz hx hf hb
    obtain ⟨k, hk, rfl, hz, hx, hf, hb⟩ := hrel
    by_cases hlk : k < 8
    · have hX := hf k hlk
      have HP := Lib.hid (newA_set k hlk)
      have hc := (hx.cell k).trans (newA_at k hlk)
      have hfz := hx.frozen k
      generalize h0L.getD k 0 = X at hX HP
      have b1 : (k : Int) < 8 := by omega
      go_wp2_with fail
      go_roundw
      case rel => exact ⟨k + 1, by omega, by go_num, hz.far (by simp only; omega) _, by rw [← HP.out]; exact hx.put k _, hf.far (by simp only; omega) _, hb.setCell (p := ⟨w.heap.size + 1, k, none⟩) (by simp only; omega) _⟩
      case measure => simp [intOf]; omega
    · obtain rfl : k = 8 := by omega
      rw [newA_end] at hx
      go_wp2_with (first | ((with_reducible refine wpL_load (w.heap.size + 1) 28 (sumA h0 noBytes 0) 10 row29 rfl hx ?_ ?_); rfl) | ((with_reducible refine wpL_store w.heap.size 28 _ (sumA h0 noBytes 0) 10 row29 rfl rfl (sumA_one _ _ _) hz ?_ ?_ ?_); rfl; rfl))
      exact bodyPost_ret (results_row Tryd.results11 row29 rfl (hz.row _) rfl) rfl ⟨rfl, below_rowSet hb (Nat.le_refl _) _⟩

set_option maxHeartbeats 800000 in
theorem refSum_any (s : ByteArray) (w : World) (hs : s.size ≤ 1000) :
    Calls Tryd.prog 9 #[.string s] w fun e w' => e = .returned (.string (bytesOf (sumT s.data.toList))) ∧ Below w.heap.size w w' := by
  have hz : s.data.toList.length = s.size := (Lib.size_eq s).symm
  have hW := fun w => refWrite_any h0 noBytes s 0 w (by decide) hs (by omega) h0_ok
  rw [show noBytes.data.toList ++ s.data.toList = s.data.toList from rfl, Nat.zero_add] at hW
  have hE := fun w => refEnd_any (feed h0 s.data.toList) (bytesOf (tailB s.data.toList)) s.size w (by unfold rightB; rw [bytes_size, tail_length]; simp; omega) (feed_ok' h0_ok _)
  rw [show (bytesOf (tailB s.data.toList)).data.toList = tailB s.data.toList from rfl, ← hz, end_sum] at hE
  rw [← hz] at hW
  have HW := Lib.hid hW
  have HE := Lib.hid hE
  clear hW hE
  go_enter Tryd.func9, Tryd.ntmps9
  go_wp2_with (first | (go_at_call 11; refine (refNew_any _).mono ?_; rintro e w1 ⟨rfl, hb1⟩) | (go_at_call 23; refine (HW.out _).mono ?_; rintro e w2 ⟨rfl, hb2⟩; replace hb1 := below_on hb1 hb2) | (go_at_call 22; refine (HE.out _).mono ?_; rintro e w3 ⟨rfl, hb3⟩; replace hb1 := below_on hb1 hb3))
  go_ret
  exact ⟨rfl, hb1⟩

/-- the sum of one text -/
theorem sum_text (t : ByteArray) (w : World) (h : t.size ≤ 1000) (hw : Tab w) :
    Calls Tryd.prog 8 #[.slice (some ⟨w.heap.size, 0, none⟩) 1 1] (w.alloc (.cells #[.string t] 9)) fun e w' => e = .returned (.string (bytesOf (sumT t.data.toList))) ∧ Below w.heap.size w w' := by
  have hs := sum_one w t.data.toList (by rw [← Lib.size_eq]; omega) hw
  rw [show (⟨t.data.toList.toArray⟩ : ByteArray) = t from Lib.mk_data t] at hs
  exact hs
theorem rows_cubes {w : World} {g : Nat} (h : Keysat w g) : Row32 w g ks := lies_row32 h
theorem ks_length : ks.length = 80 := rfl
theorem first_squares : (sieveL 18).map (fun p => rootL p 2) = h0L := squares

set_option maxRecDepth 100000 in
set_option maxHeartbeats 1600000 in
theorem sums_walk (s : ByteArray) (W : World) (hs : s.size ≤ maxLen) (hT : Tab W) :
    Calls Tryd.prog 3 #[.string s] W fun e W' => e = .returned (.bool true) ∧ Below W.heap.size W W' := by
  unfold maxLen at hs
  have hR := fun w => roots_any w (sieveL 408) rfl (by rw [sieve80]; rfl) (by rw [sieve79]; decide)
  rw [cubes] at hR
  have HR := Lib.hid hR
  have hB := fun w => begins_any w (sieveL 18) rfl (by rw [sieve8]; rfl) (by rw [sieve7]; decide)
  rw [first_squares] at hB
  have HB := Lib.hid hB
  clear hR hB
  go_enter Tryd.func3, Tryd.ntmps3
  go_upto_region 2 with fail
  have hr : (s.extract 0 (min (s.size : Int) 400).toNat).size ≤ 400 := by rw [ByteArray.size_extract]; omega
  generalize s.extract 0 (min (s.size : Int) 400).toNat = r at hr ⊢
  have HS := Lib.hid (fun w hw => sum_text r w (by omega) hw)
  have HRS := Lib.hid (fun w => refSum_any r w (by omega))
  obtain ⟨S, hS⟩ : ∃ S, bytesOf (sumT r.data.toList) = S := ⟨_, rfl⟩
  rw [hS] at HS HRS
  clear hS
  have heq := fun w => eql_new w
  have hs1 := fun w ga gb ca cb ha hb => same_any ks ga gb ca cb w ha hb (by decide)
  rw [show ks.length = 80 from rfl] at hs1
  have hSm1 := Lib.hid hs1
  have hs2 := fun w ga gb ca cb ha hb => same_any h0L ga gb ca cb w ha hb (by decide)
  rw [show h0L.length = 8 from rfl] at hs2
  have hSm2 := Lib.hid hs2
  clear hs1 hs2
  go_wp2_with (first | (go_at_call 7; refine (alive_any _ hT).mono ?_; rintro e w1 ⟨rfl, hb1⟩; have hT1 := hT.below hb1) | (go_at_call 8; refine (HS.out w1 hT1).mono ?_; rintro e w2 ⟨rfl, hb2⟩; have hb2 := below_on hb1 hb2) | (go_at_call 9; refine (HRS.out w2).mono ?_; rintro e w3 ⟨rfl, hb3⟩; have hb3 := below_on hb2 hb3; have hT3 := hT.below hb3) | (go_at_call 10; refine (new_any w3 hT3).mono ?_; rintro e w4 ⟨rfl, hb4⟩; have hb4 := below_on hb3 hb4) | (go_at_call 11; refine (refNew_any w4).mono ?_; rintro e w5 ⟨rfl, hb5⟩; have hb5 := below_on hb4 hb5) | (go_at_call 13; refine (keys_any w5).mono ?_; rintro e w6 ⟨gk, rfl, _, hk, hb6⟩; have hb6 := below_on hb5 hb6; have hk := rows_cubes hk) | (go_at_call 14; refine (HR.out w6).mono ?_; rintro e w7 ⟨gr, cr, rfl, hr7, hb7⟩; have hk := hk.on hb7; have hb7 := below_on hb6 hb7) | (go_at_call 15; refine (first_any w8).mono ?_; rintro e w9 ⟨gf, rfl, _, hf, hb9⟩; have hb9 := below_on hb8 hb9) | (go_at_call 16; refine (HB.out w9).mono ?_; rintro e w10 ⟨gb, cb, rfl, hf10, hb10⟩; have hf := hf.on hb10; have hb10 := below_on hb9 hb10) | (go_at_call 12; first | ((with_reducible refine (hSm1.out w7 gk gr 80 cr hk hr7).mono ?_); rintro e w8 ⟨rfl, hb8⟩; have hb8 := below_on hb7 hb8) | ((with_reducible refine (hSm2.out w10 gf gb 8 cb hf hf10).mono ?_); rintro e w11 ⟨rfl, hb11⟩; have hb11 := below_on hb10 hb11)))
  go_ret
  exact ⟨ret1_of rfl, hb11⟩
end Go.Proofs.YtmebiidgeaalpaaDoor.T
