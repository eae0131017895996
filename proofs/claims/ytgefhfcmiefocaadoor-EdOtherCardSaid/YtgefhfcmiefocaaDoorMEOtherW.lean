/- The walk of the statement of what is told of signatures that are none: whatever message and signature, it answers true. -/
import Derived.Test.YtgefhfcmiefocaaDoorLot13
import Derived.Deep.CutRange
namespace Go.Proofs.YtgefhfcmiefocaaDoor.E
open Go.RowKit Go.Sort Go.Proofs.YtgefhfcmiefocaaDoor.F Go.Proofs.YtgefhfcmiefocaaDoor.C
set_option maxRecDepth 100000

/-! ### the texts -/
def ffS (n : Nat) : ByteArray := ⟨(List.replicate n 255).toArray⟩
theorem rep_ff (n : Nat) (h : n = 30 ∨ n = 32) : (⟨(Lib.repeatL (⟨#[255]⟩ : ByteArray).data.toList n).toArray⟩ : ByteArray) = ffS n := by
  rcases h with rfl | rfl <;> decide +kernel
def zzS : ByteArray := ⟨(List.replicate 32 0).toArray⟩
/-- no point's bytes -/
def offS : ByteArray := (⟨#[237]⟩ ++ ffS 30) ++ ⟨#[127]⟩
theorem off_size : offS.size = 32 := by decide +kernel
theorem off_num : numLE offS.data.toList = p25 := by decide +kernel
theorem off_key : keyB offS = false := by
  unfold keyB parseB keyY
  rw [off_num, show p25 % two255 = p25 by decide, decide_eq_false (Nat.lt_irrefl _)]
  rfl
/-- a number that is too great -/
def greatS : ByteArray := zzS ++ ffS 32
theorem great_size : greatS.size = 64 := by decide +kernel
theorem great_num : ¬ sigN greatS < l25 := by
  have h : sigN greatS = 115792089237316195423570985008687907853269984665640564039457584007913129639935 := by unfold sigN; decide +kernel
  rw [h]
  decide
theorem first_keyB : keyB firstT = true := by
  rw [← first_text]
  exact (key_text (P := keyP firstL) (Pt.smul_on Bp_on _)).1
theorem firstT_size : firstT.size = 32 := by decide
theorem off_verify (m : ByteArray) : verifyE offS m greatS = 10 := by
  unfold verifyE
  rw [if_pos ⟨off_size, great_size⟩, if_neg (by rw [off_key]; decide)]
theorem great_verify (m : ByteArray) : verifyE firstT m greatS = 11 := by
  unfold verifyE
  rw [if_pos ⟨firstT_size, great_size⟩, if_pos first_keyB, if_neg great_num]
theorem none_verify (m : ByteArray) : verifyE ⟨#[]⟩ m greatS = 1 := by
  unfold verifyE
  rw [if_neg]
  rintro ⟨h, _⟩
  exact absurd h (by decide)
theorem short_verify (m s : ByteArray) (h : s.size ≠ 64) : verifyE firstT m s = 1 := by
  unfold verifyE
  rw [if_neg]
  rintro ⟨_, h2⟩
  exact h h2
theorem firstS_le : firstS.size ≤ 1000 := by decide
theorem firstS_list : firstS.data.toList = firstL := rfl
theorem off_is : (({ data := #[237] } : ByteArray) ++ ffS 30) ++ { data := #[127] } = offS := rfl
theorem great_is : zzS ++ ffS 32 = greatS := rfl
theorem ff_size (n : Nat) : (ffS n).size = n := by unfold ffS; simp [ByteArray.size]
theorem zz_size : zzS.size = 32 := by decide
theorem zz_list : zzS.data.toList = List.replicate 32 0 := rfl
/-- a row of 32 bytes was just made -/
def sayZeros : Said := fun v w => ∃ g, v = .slice (some ⟨g, 0, none⟩) 32 32 ∧ Bys w g (List.replicate 32 0)
theorem sayZeros_mono : ∀ v w w', sayZeros v w → Below w.heap.size w w' → sayZeros v w' := fun _ _ _ ⟨g, e, h⟩ hb => ⟨g, e, h.on hb⟩
theorem zeros_new (w : World) : Bys (w.alloc (.cells (Array.replicate 32 (.int .u8 0)) 5)) w.heap.size (List.replicate 32 0) := fun j hj => by
  have hl := Lies.new w 5 (Array.replicate 32 (Value.int .u8 0))
  have hj2 : j < 32 := by simpa using hj
  refine ⟨?_, hl.frozen j⟩
  rw [hl.cell j, List.getElem_replicate, Array.getElem?_replicate, if_pos hj2]
  rfl
theorem run_zeros {a : Act} {d : Option Tmp} {x : Tmp} {t' : TypeId} {pos : String} {after : Array Edge} {gd : Option (Nat × Bool)} {g : Nat} (w : World) (hl : Bys w g (List.replicate 32 0)) (hx : a.eval (.tmp x) = .slice (some ⟨g, 0, none⟩) 32 32) :
    (execOp a.eval ⟨d, .convert 29 9 (.tmp x), t', pos, after, gd⟩).run Tryd.prog w = .ok (.value (.string zzS)) w := by
  have hr := run_convert_bytes_back (P := Tryd.prog) w 29 9 5 ⟨g, 0, none⟩ 32 (List.replicate 32 0) Tryd.underlying29 Tryd.underlying5 Tryd.underlying9 (fun j hj => by rw [Addr.add_mid, Nat.zero_add]; exact (hl j hj).1)
  rw [show (List.replicate 32 (0 : UInt8)).length = 32 from rfl] at hr
  unfold execOp
  simp only [hx, Sem.run_bind, Sem.run_pure]
  rw [hr]
  rfl
attribute [local irreducible] verifyE firstS firstT offS greatS zzS ffS

set_option maxHeartbeats 3200000 in
theorem other_walk (A : Pts EdTab) (msg sig : ByteArray) (hs : sig.size ≤ maxLen) (W : World) (hT : EdTab2 W) :
    Calls Tryd.prog 4 #[.string msg, .string sig] W fun e W' => e = .returned (.bool true) ∧ Below W.heap.size W W' := by
  have AL := Lib.hid (fun w (hb : Below W.heap.size W w) => alive_any A w (hT.on hb).1)
  have FI := Lib.hid (fun w => first_any w)
  have HP := Lib.hid (fun w (hb : Below W.heap.size W w) => public_any A firstS firstS_le w (hT.on hb).1)
  rw [if_pos firstS_size, firstS_list, first_text] at HP
  have H30 := Lib.hid (fun w => Tryd.strings_Repeat (⟨#[255]⟩ : ByteArray) 30 w (by decide) (by decide))
  rw [rep_ff 30 (.inl rfl)] at H30
  have H32 := Lib.hid (fun w => Tryd.strings_Repeat (⟨#[255]⟩ : ByteArray) 32 w (by decide) (by decide))
  rw [rep_ff 32 (.inr rfl)] at H32
  have cS : Hid (∀ d os, Calls Tryd.prog 5 #[.string msg] (grow (redrawn W d) os) fun e w'' => e = .returned (.string (msg.extract 0 (min (msg.size : Int) 300).toNat)) ∧ ∃ p : Regrown, w'' = grow (redrawn W p.d) p.os) :=
    Lib.hid (reg (fun w _ => (short_any msg w).mono fun e w' ⟨t, _, ht, he, hb⟩ => ⟨by rw [he, ht], hb⟩))
  have HT := Lib.hid hT
  have hB := Below.refl W.heap.size W
  have hsi : (sig.size : Int) ≤ 9223372036854775807 := by unfold maxLen at hs; omega
  clear hT hs
  go_enter Tryd.func4, Tryd.ntmps4
  go_upto_region 1 with fail
  refine wp_region_quiet_below (by kernel_rfl) (by kernel_rfl) ?_
  repeat (go_big_quiet_step (exact cS.out _ _))
  refine wpQuiet_nil ?_
  intro w0 hw'
  obtain ⟨⟨dq, osq⟩, hw''⟩ := hw'
  have hb2 : Below W.heap.size W w0 := by rw [hw'']; exact below_regrown W dq osq
  replace hB := below_on hB hb2
  clear hw'' hb2
  have hm1 : (msg.extract 0 (min (msg.size : Int) 300).toNat).size ≤ 300 := by rw [ByteArray.size_extract]; omega
  have hg1 : (sig.extract 0 (min (sig.size : Int) 70).toNat).size ≤ 70 := by rw [ByteArray.size_extract]; omega
  generalize msg.extract 0 (min (msg.size : Int) 300).toNat = m at *
  generalize sig.extract 0 (min (sig.size : Int) 70).toNat = g at *
  clear cS hsi
  have HVA := Lib.hid (fun w (hb : Below W.heap.size W w) => verify_any A offS m greatS (by omega) w (HT.out.on hb))
  rw [off_verify m] at HVA
  have HVB := Lib.hid (fun w (hb : Below W.heap.size W w) => verify_any A firstT m greatS (by omega) w (HT.out.on hb))
  rw [great_verify m] at HVB
  have HVC := Lib.hid (fun w (hb : Below W.heap.size W w) => verify_any A ⟨#[]⟩ m greatS (by omega) w (HT.out.on hb))
  rw [none_verify m] at HVC
  have HVS : Hid (g.size ≠ 64 → ∀ w, Below W.heap.size W w → Calls Tryd.prog 9 #[.string firstT, .string m, .string g] w fun e w' => e = .returned (.int .i64 1) ∧ Below w.heap.size w w') := Lib.hid (fun h w hb => by
    have h2 := verify_any A firstT m g (by omega) w (HT.out.on hb)
    rw [short_verify m g h] at h2
    exact h2)
  have HO := Lib.hid off_is
  have HG := Lib.hid great_is
  have HZS := Lib.hid zz_size
  have s30 := ff_size 30
  have s32 := Lib.hid (ff_size 32)
  have hgi : (g.size : Int) ≤ 70 := by omega
  generalize firstT = K at *
  generalize firstS = fs at *
  generalize greatS = G at *
  generalize offS = O at *
  generalize ffS 30 = F30 at *
  generalize ffS 32 = F32 at *
  obtain ⟨ZS, HZ0⟩ : ∃ ZS, zzS = ZS := ⟨_, rfl⟩
  rw [HZ0] at HG HZS
  have HZZ := Lib.hid HZ0
  clear HZ0
  clear hm1 hg1
  go_upto_region 4 with (first
    | (go_at_call 6; (with_reducible refine (FI.out _).mono ?_); rintro e w1 ⟨rfl, hb⟩; replace hB := below_on hB hb; clear hb)
    | (go_at_call 7; (with_reducible refine (HP.out _ hB).mono ?_); rintro e w2 ⟨rfl, hb⟩; replace hB := below_on hB hb; clear hb)
    | (go_at_call 11; (refine (H30.out _).mono ?_); rintro e w3 ⟨rfl, hb⟩; replace hB := below_on hB hb; clear hb))
  rw [HO.out]
  refine wp_region_rel 4 _ [sayZeros, sayFix (.string ZS), sayFix (.string F32), sayFix (.string G)] rfl rfl (by kernel_rfl) (by kernel_rfl) (fun r hr => by
    simp only [List.mem_cons, List.not_mem_nil, or_false] at hr
    rcases hr with rfl | rfl | rfl | rfl <;> first | exact sayFix_mono _ | exact sayZeros_mono) ?_
  simp only [List.take_succ_cons, List.take_zero, List.drop_succ_cons, List.drop_zero, List.zip_cons_cons, List.zip_nil_right]
  refine wpRel_step (fun w hb hG => does_made (.slice (some ⟨w.heap.size, 0, none⟩) 32 32) (w' := w.alloc (.cells (Array.replicate 32 (.int .u8 0)) 5)) (by kernel_rfl) (grown_row w _) ⟨w.heap.size, rfl, zeros_new w⟩) (fun v0 => ?_)
  simp only [Act.put, List.setIfInBounds_toArray, List.set_cons_succ, List.set_cons_zero, Option.getD_some]
  refine wpRel_step (fun w hb hG => ?_) (fun v1 => ?_)
  · obtain ⟨g0, rfl, hg⟩ := laid_at 0 hG rfl (by decide)
    exact does_run (.string ZS) ((run_zeros w hg rfl).trans (by rw [HZZ.out])) rfl
  simp only [Act.put, List.setIfInBounds_toArray, List.set_cons_succ, List.set_cons_zero, Option.getD_some]
  refine wpRel_step (fun w hb hG => ?_) (fun v2 => ?_)
  · refine does_call 11 #[.string ⟨#[255]⟩, .int .i64 32] (by kernel_rfl) ((H32.out w).mono ?_)
    rintro e w' ⟨rfl, h6⟩
    exact ⟨_, rfl, h6, rfl⟩
  simp only [Act.put, List.setIfInBounds_toArray, List.set_cons_succ, List.set_cons_zero, Option.getD_some]
  refine wpRel_step (fun w hb hG => ?_) (fun v3 => ?_)
  · obtain rfl := laid_at 1 hG rfl (by decide)
    obtain rfl := laid_at 0 hG rfl (by decide)
    exact does_run (.string G) (by rw [← HG.out]; exact run_cat ZS F32 (by rw [HZS.out, s32.out]; decide) rfl rfl w) rfl
  simp only [Act.put, List.setIfInBounds_toArray, List.set_cons_succ, List.set_cons_zero, Option.getD_some]
  refine wpRel_nil (fun w4 hb hG => ?_)
  obtain rfl := hG _ (List.mem_of_getElem? (i := 0) rfl)
  clear hG
  replace hB := below_on hB hb
  clear hb H30 H32 HO HG HZS s30 s32 HZZ
  by_cases h64 : g.size = 64
  · have hgi : (g.size : Int) = 64 := by omega
    clear HVS h64
    go_wp2_with (first | (go_at_call 10; (with_reducible refine (AL.out _ hB).mono ?_); rintro e w6 ⟨rfl, hb⟩; replace hB := below_on hB hb; clear hb) | (go_at_call 9; (with_reducible refine (HVA.out _ hB).mono ?_); rintro e w5 ⟨rfl, hb⟩; replace hB := below_on hB hb; clear hb) | (go_at_call 9; (with_reducible refine (HVB.out _ hB).mono ?_); rintro e w5 ⟨rfl, hb⟩; replace hB := below_on hB hb; clear hb) | (go_at_call 9; (with_reducible refine (HVC.out _ hB).mono ?_); rintro e w5 ⟨rfl, hb⟩; replace hB := below_on hB hb; clear hb))
    go_ret
    exact ⟨rfl, hB⟩
  · have hgi : ¬ (g.size : Int) = 64 := by omega
    have HVD := Lib.hid (HVS.out h64)
    clear HVS h64
    go_wp2_with (first | (go_at_call 10; (with_reducible refine (AL.out _ hB).mono ?_); rintro e w6 ⟨rfl, hb⟩; replace hB := below_on hB hb; clear hb) | (go_at_call 9; (with_reducible refine (HVA.out _ hB).mono ?_); rintro e w5 ⟨rfl, hb⟩; replace hB := below_on hB hb; clear hb) | (go_at_call 9; (with_reducible refine (HVB.out _ hB).mono ?_); rintro e w5 ⟨rfl, hb⟩; replace hB := below_on hB hb; clear hb) | (go_at_call 9; (with_reducible refine (HVC.out _ hB).mono ?_); rintro e w5 ⟨rfl, hb⟩; replace hB := below_on hB hb; clear hb) | (go_at_call 9; (with_reducible refine (HVD.out _ hB).mono ?_); rintro e w5 ⟨rfl, hb⟩; replace hB := below_on hB hb; clear hb))
    go_ret
    exact ⟨rfl, hB⟩
end Go.Proofs.YtgefhfcmiefocaaDoor.E
