/- What is proved: whatever sum that goes on and whatever bytes the statement of sums that go on is called with, it answers true; no condition. -/
import Derived.Test.YtmebiidgeaalpaaDoorTRefEnd
import Derived.Test.YtmebiidgeaalpaaDoorTWrite
import Derived.Test.YtmebiidgeaalpaaDoorTAlive
import Derived.Test.YtmebiidgeaalpaaDoorTEq
import Derived.Deep.RegionWith
import Derived.Deep.CutRange
namespace Go.Proofs.YtmebiidgeaalpaaDoor.T
open Go.RowKit

theorem sums_size (K : H8) (b : ByteArray) (n : Nat) : (sumA K b n).size = 10 := rfl
/-- a sum goes into a variable that holds one -/
theorem store_over {K L : H8} {b c : ByteArray} {n m : Nat} {w : World} {g : Nat} (hl : Lies w g 28 (sumA L c m)) :
    (storeCells ⟨g, 0, none⟩ (sumA K b n).toList).run Tryd.prog w = .ok () (w.setRow g (sumA K b n)) := by
  have h := run_storeCells_from (P := Tryd.prog) g 28 (sumA K b n).toList 0 _ w hl rfl (fun v hv => (Array.all_eq_true_iff_forall_mem.1 (sumA_one K b n)) v (by simpa using hv))
  rw [List.take_zero, List.nil_append, Array.toArray_toList] at h
  exact h
theorem Lies.zeros {w : World} {g : Nat} {t : TypeId} (h : Lies w g t (sumA h8zero noBytes 0)) :
    w.cell? ⟨g, 0, none⟩ = some (.int .u64 0) ∧ w.cell? ⟨g, 1, none⟩ = some (.int .u64 0) ∧ w.cell? ⟨g, 2, none⟩ = some (.int .u64 0) ∧ w.cell? ⟨g, 3, none⟩ = some (.int .u64 0) ∧ w.cell? ⟨g, 4, none⟩ = some (.int .u64 0) ∧ w.cell? ⟨g, 5, none⟩ = some (.int .u64 0) ∧ w.cell? ⟨g, 6, none⟩ = some (.int .u64 0) ∧ w.cell? ⟨g, 7, none⟩ = some (.int .u64 0) ∧ w.cell? ⟨g, 8, none⟩ = some (.string { data := #[] }) ∧ w.cell? ⟨g, 9, none⟩ = some (.int .u64 0) :=
  ⟨h.cell 0, h.cell 1, h.cell 2, h.cell 3, h.cell 4, h.cell 5, h.cell 6, h.cell 7, h.cell 8, h.cell 9⟩

theorem eql_zero (w : World) : (binOp .eql 28 (.agg #[.int .u64 0, .int .u64 0, .int .u64 0, .int .u64 0, .int .u64 0, .int .u64 0, .int .u64 0, .int .u64 0, .string { data := #[] }, .int .u64 0]) (.agg #[.int .u64 0, .int .u64 0, .int .u64 0, .int .u64 0, .int .u64 0, .int .u64 0, .int .u64 0, .int .u64 0, .string { data := #[] }, .int .u64 0])).run Tryd.prog w = .ok (.bool true) w := by
  have h := eql_sums w h8zero h8zero noBytes noBytes 0 0
  rw [show (decide (h8zero = h8zero) && (noBytes.toList == noBytes.toList && ((0 : Nat) : Int) == ((0 : Nat) : Int))) = true by simp] at h
  exact h

theorem eql_self (F : H8) (B : ByteArray) (M : Nat) (w : World) : (binOp .eql 28 (.agg #[w64 F.a, w64 F.b, w64 F.c, w64 F.d, w64 F.e, w64 F.f, w64 F.g, w64 F.h, .string B, .int .u64 (M : Int)]) (.agg (sumA F B M))).run Tryd.prog w = .ok (.bool true) w := by
  have h := eql_sums w F F B B M M
  rw [show (decide (F = F) && (B.toList == B.toList && (M : Int) == (M : Int))) = true by simp] at h
  exact h

set_option maxRecDepth 100000 in
set_option maxHeartbeats 3200000 in
theorem goes_walk (H : H8) (buf s : ByteArray) (n : Nat) (W : World) (hok : H.Ok) (hn : n < 18446744073709551616) (hb : buf.size ≤ maxLen) (hs : s.size ≤ maxLen) (hT : Tab W) :
    Calls Tryd.prog 4 #[.agg (sumA H buf n), .string s] W fun e W' => e = .returned (.bool true) ∧ Below W.heap.size W W' := by
  unfold maxLen at hb hs
  have HF := Lib.hid (fun w => few_any H buf n w (by omega))
  have hx : Lies (W.alloc (.cells (sumA H buf n) 28)) W.heap.size 28 (sumA H buf n) := Lies.new W _ _
  have hbw := (Below.refl W.heap.size W).alloc (Nat.le_refl _) (.cells (sumA H buf n) 28)
  unfold sumA
  go_enter Tryd.func4, Tryd.ntmps4
  go_upto_region 1 with fail
  unfold sumA at hx hbw
  generalize World.alloc W _ = w1 at *
  have hx1 : Lies w1 W.heap.size 28 (sumA H buf n) := hx
  clear hx
  have k8 := hx1.c8
  have k9 := hx1.c9
  obtain ⟨c0, c1, c2, c3, c4, c5, c6, c7⟩ := hx1.eight
  go_cut [1] from 9 to 15 (fun s1 wx => ∃ r b : ByteArray, s1 = .string r ∧ r.size ≤ 300 ∧ b.size ≤ 200 ∧ Lies wx W.heap.size 28 (sumA H b n) ∧ Below W.heap.size W wx)
  case first =>
    go_region_with (go_at_call 17; refine (HF.out w1.drew).mono ?_; rintro e w3 ⟨b, hbs, rfl, hb3⟩; have hx3 := Lies.on hx1.drew hb3; have hst := store_over (K := H) (b := b) (n := n) hx3; have hB3 := below_on hbw.drew hb3; have hsz := sums_size H b n)
    all_goals
      go_wp2_with fail
      go_meet
      exact ⟨_, b, rfl, by rw [ByteArray.size_extract]; omega, hbs, hx3.row _, below_rowSet hB3 (Nat.le_refl _) _⟩
  case rest =>
    clear hx1 k8 k9 c0 c1 c2 c3 c4 c5 c6 c7 hbw HF
    obtain ⟨r, b, rfl, hr, hbs, hx, hbw⟩ := hcut
    have hT2 := hT.below hbw
    obtain ⟨R, hR⟩ : ∃ R, rightB b.size n = R := ⟨_, rfl⟩
    obtain ⟨F, B, M, ec, S, fc, HW, HE, HD⟩ : ∃ (F : H8) (B : ByteArray) (M : Nat) (ec : Int) (S : ByteArray) (fc : Int),
        Hid (∀ w, Tab w → Calls Tryd.prog 18 #[.agg (sumA H b n), .string r] w fun e w' => e = .returned (.tuple #[.agg (sumA F B M), .int .i64 ec]) ∧ Below w.heap.size w w') ∧
        Hid (∀ w, Tab w → Calls Tryd.prog 19 #[.agg (sumA H b n)] w fun e w' => e = .returned (.tuple #[.string S, .int .i64 fc]) ∧ Below w.heap.size w w') ∧
        Hid ((R = false ∧ F = h8zero ∧ B = noBytes ∧ M = 0 ∧ ec = 1 ∧ S = noBytes ∧ fc = 1) ∨
          (R = true ∧ 1099511627776 < n + r.size ∧ F = h8zero ∧ B = noBytes ∧ M = 0 ∧ ec = 2 ∧ fc = 0 ∧ bytesOf (endT H b.data.toList n) = S) ∨
          (R = true ∧ ¬ 1099511627776 < n + r.size ∧ feed H (b.data.toList ++ r.data.toList) = F ∧ bytesOf (tailB (b.data.toList ++ r.data.toList)) = B ∧ n + r.size = M ∧ ec = 0 ∧ fc = 0 ∧ bytesOf (endT H b.data.toList n) = S)) := by
      cases hR2 : R with
      | false =>
        rw [hR2] at hR
        exact ⟨_, _, _, _, _, _, Lib.hid (fun w _ => write_no H b r n w (by omega) hR), Lib.hid (fun w _ => end2_no H b n w (by omega) hR), Lib.hid (.inl ⟨rfl, rfl, rfl, rfl, rfl, rfl, rfl⟩)⟩
      | true =>
        rw [hR2] at hR
        by_cases hlong : 1099511627776 < n + r.size
        · exact ⟨_, _, _, _, _, _, Lib.hid (fun w _ => write_long H b r n w hR (by omega) hlong), Lib.hid (fun w hw => end2_yes H b n w hR hw hok), Lib.hid (.inr (.inl ⟨rfl, hlong, rfl, rfl, rfl, rfl, rfl, rfl⟩))⟩
        · exact ⟨_, _, _, _, _, _, Lib.hid (fun w hw => write_yes H b r n w hR (by omega) hw hok), Lib.hid (fun w hw => end2_yes H b n w hR hw hok), Lib.hid (.inr (.inr ⟨rfl, hlong, rfl, rfl, rfl, rfl, rfl, rfl⟩))⟩
    have HR1 := Lib.hid (fun w => right2_any H b n w (by omega))
    have HR2 := Lib.hid (fun w => refRight_any H b n w (by omega))
    rw [hR] at HR1 HR2
    have HRd := Lib.hid hR
    clear hR
    go_upto_region 4 with (first | ((with_reducible refine wpL_load W.heap.size 28 (sumA H b n) 10 row29 rfl hx ?_ ?_); rfl) | (go_at_call 18; refine (HW.out _ hT2).mono ?_; rintro e w3 ⟨rfl, hb3⟩; replace hx := hx.on hb3; replace hbw := below_on hbw hb3; clear hb3; have hne := hx.lt) | ((with_reducible refine wpL_store w3.heap.size 28 _ (sumA F B M) 10 row29 ?_ ?_ ?_ (Lies.new w3 _ _) ?_ ?_ ?_); rfl; rfl; exact sumA_one _ _ _; rfl; rfl; generalize hW4 : World.setRow _ _ _ = w4; replace hx : Lies w4 W.heap.size 28 (sumA H b n) := (by rw [← hW4]; exact (hx.alloc _).rowFar (by omega) _); have hz : Lies w4 w3.heap.size 28 (sumA F B M) := (by rw [← hW4]; exact (Lies.new w3 _ _).row _); replace hbw : Below W.heap.size W w4 := (by rw [← hW4]; exact below_rowSet (hbw.alloc hbw.size _) hbw.size _); clear hW4) | (go_at_call 19; refine (HE.out _ (hT.below hbw)).mono ?_; rintro e w5 ⟨rfl, hb5⟩; replace hx := hx.on hb5; replace hz := hz.on hb5; replace hbw := below_on hbw hb5; clear hb5))
    have hT5 := (hT.below hbw).drew
    replace hx := hx.drew
    replace hz := hz.drew
    replace hbw := hbw.drew
    have k8 := hx.c8
    have k9 := hx.c9
    obtain ⟨c0, c1, c2, c3, c4, c5, c6, c7⟩ := hx.eight
    generalize w3.heap.size = g5 at *
    go_cut [35] from 27 to 35 (fun s35 wx => s35 = .bool false ∧ Lies wx W.heap.size 28 (sumA H b n) ∧ Lies wx g5 28 (sumA F B M) ∧ Below W.heap.size W wx)
    case first =>
      go_region_with (first | (go_at_call 20; refine (HR1.out _).mono ?_; rintro e w6 ⟨rfl, hb6⟩; replace hx := hx.on hb6; replace hz := hz.on hb6; replace hT5 := hT5.below hb6; replace hbw := below_on hbw hb6; clear hb6; have k8 := hx.c8; have k9 := hx.c9; obtain ⟨c0, c1, c2, c3, c4, c5, c6, c7⟩ := hx.eight) | (go_at_call 21; refine (HR2.out _).mono ?_; rintro e w6 ⟨rfl, hb6⟩; replace hx := hx.on hb6; replace hz := hz.on hb6; replace hT5 := hT5.below hb6; replace hbw := below_on hbw hb6; clear hb6; have k8 := hx.c8; have k9 := hx.c9; obtain ⟨c0, c1, c2, c3, c4, c5, c6, c7⟩ := hx.eight) | (go_at_call 7; refine (alive_any _ hT5).mono ?_; rintro e w6 ⟨rfl, hb6⟩; replace hx := hx.on hb6; replace hz := hz.on hb6; replace hbw := below_on hbw hb6; clear hb6))
      all_goals
        go_wp2_with fail
        go_meet
        exact ⟨rfl, hx, hz, hbw⟩
    case rest =>
      clear hx hz hbw hT5 k8 k9 c0 c1 c2 c3 c4 c5 c6 c7 HW HE HR1
      obtain ⟨rfl, hx, hz, hbw⟩ := hcut
      have HRd := HRd.out
      rcases HD.out with ⟨rfl, rfl, rfl, rfl, rfl, rfl, rfl⟩ | ⟨rfl, hlong, rfl, rfl, rfl, rfl, rfl, hS⟩ | ⟨rfl, hlong, hF, hB, hM, rfl, rfl, hS⟩
      · clear HRd HD
        have heq := fun w => eql_zero w
        go_wp2_with (first | ((with_reducible refine wpL_load W.heap.size 28 (sumA H b n) 10 row29 rfl hx ?_ ?_); rfl) | (go_at_call 21; refine (HR2.out _).mono ?_; rintro e w8 ⟨rfl, hb8⟩; replace hz := hz.on hb8; replace hbw := below_on hbw hb8; clear hb8; obtain ⟨z0, z1, z2, z3, z4, z5, z6, z7, z8, z9⟩ := hz.zeros))
        go_ret
        exact ⟨ret1_of rfl, hbw⟩
      · obtain ⟨hn40, hn64, hb64⟩ := right_of HRd
        have hE := fun w => refEnd_any H b n w HRd hok
        rw [hS] at hE
        have HRE := Lib.hid hE
        clear HRd HD hn64 hS hE
        have heq := fun w => eql_zero w
        go_wp2_with (first | ((with_reducible refine wpL_load W.heap.size 28 (sumA H b n) 10 row29 rfl hx ?_ ?_); rfl) | (go_at_call 21; refine (HR2.out _).mono ?_; rintro e w8 ⟨rfl, hb8⟩; replace hx := hx.on hb8; replace hz := hz.on hb8; replace hbw := below_on hbw hb8; clear hb8; have k8 := hx.c8; have k9 := hx.c9; obtain ⟨c0, c1, c2, c3, c4, c5, c6, c7⟩ := hx.eight) | (go_at_call 22; refine (HRE.out _).mono ?_; rintro e w9 ⟨rfl, hb9⟩; clear k8 k9 c0 c1 c2 c3 c4 c5 c6 c7; replace hx := hx.on hb9; replace hz := hz.on hb9; replace hbw := below_on hbw hb9; clear hb9; have k9 := hx.c9; obtain ⟨z0, z1, z2, z3, z4, z5, z6, z7, z8, z9⟩ := hz.zeros))
        go_ret
        exact ⟨ret1_of rfl, hbw⟩
      · obtain ⟨hn40, hn64, hb64⟩ := right_of HRd
        have hE := fun w => refEnd_any H b n w HRd hok
        rw [hS] at hE
        have HRE := Lib.hid hE
        have hRW := fun w => refWrite_any H b r n w (by omega) (by omega) (by omega) hok
        rw [hF, hB, hM] at hRW
        have HRW := Lib.hid hRW
        clear HRd HD hn64 hS hE hRW hF hB hM
        have heq := fun w => eql_self F B M w
        go_upto_region 12 with (first | ((with_reducible refine wpL_load W.heap.size 28 (sumA H b n) 10 row29 rfl hx ?_ ?_); rfl) | (go_at_call 21; refine (HR2.out _).mono ?_; rintro e w8 ⟨rfl, hb8⟩; replace hx := hx.on hb8; replace hz := hz.on hb8; replace hbw := below_on hbw hb8; clear hb8; have k8 := hx.c8; have k9 := hx.c9; obtain ⟨c0, c1, c2, c3, c4, c5, c6, c7⟩ := hx.eight) | (go_at_call 22; refine (HRE.out _).mono ?_; rintro e w9 ⟨rfl, hb9⟩; clear k8 k9 c0 c1 c2 c3 c4 c5 c6 c7; replace hx := hx.on hb9; replace hz := hz.on hb9; replace hbw := below_on hbw hb9; clear hb9; have k8 := hx.c8; have k9 := hx.c9; obtain ⟨c0, c1, c2, c3, c4, c5, c6, c7⟩ := hx.eight))
        have f8 := hz.c8
        have f9 := hz.c9
        obtain ⟨f0, f1, f2, f3, f4, f5, f6, f7⟩ := hz.eight
        replace hz := hz.drew
        replace hbw := hbw.drew
        go_region_with (go_at_call 23; refine (HRW.out _).mono ?_; rintro e wa ⟨rfl, hba⟩; replace hz := hz.on hba; replace hbw := below_on hbw hba; clear hba; have f8 := hz.c8; have f9 := hz.c9; obtain ⟨f0, f1, f2, f3, f4, f5, f6, f7⟩ := hz.eight)
        all_goals
          go_wp2_with fail
          go_ret
          exact ⟨ret1_of rfl, hbw⟩
end Go.Proofs.YtmebiidgeaalpaaDoor.T
