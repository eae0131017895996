/- What is proved: whatever number the statement of roots is called with, it answers true, if the field's functions keep their contracts. -/
import Derived.Test.YtlbhlklgliblgaaDoorFInverts
import Derived.Deep.CutRange
namespace Go.Proofs.YtlbhlklgliblgaaDoor.F
open Go.RowKit Go.Sort
attribute [local irreducible] feA

theorem sq_mod (n : Nat) : Sq (n % p25) ↔ Sq n := by unfold Sq; rw [Nat.mod_mod]
theorem word_low (n : Nat) : ∃ a b c d : Nat, feA n = #[w64 a, w64 b, w64 c, w64 d] ∧ a % 2 = n % 2 ∧ a < 18446744073709551616 := by
  refine ⟨_, _, _, _, by unfold feA; rfl, ?_, Nat.mod_lt _ (by decide)⟩
  omega
theorem root_zero {r : Nat} (hr : r < p25) (h : r * r % p25 = 0) : r = 0 := by
  have h1 : p25 ∣ r * r := Nat.dvd_of_mod_eq_zero h
  rcases p25_prime.split h1 with h2 | h2 <;>
  · have h3 := Nat.mod_eq_zero_of_dvd h2
    rw [Nat.mod_eq_of_lt hr] at h3
    exact h3
/-- what the roots of a number's square, of the number, and of twice it are -/
theorem roots_facts (R : Nat → Nat) (B : Nat → Bool) (hs : ∀ n, n < K256 → R n < p25 ∧ R n % 2 = 0 ∧ (B n = true → R n * R n % p25 = n % p25) ∧ (B n = false → R n = 0) ∧ (B n = true ↔ Sq n)) (X : Nat) (hX : X < p25) :
    B (X * X % p25) = true ∧ (R (X * X % p25) = X ∨ (R (X * X % p25) + X) % p25 = 0) := by
  obtain ⟨h1, _, h3, _, h5⟩ := hs (X * X % p25) (mod_K _)
  have hb : B (X * X % p25) = true := h5.2 ((sq_mod _).2 ⟨X, rfl⟩)
  have h6 := h3 hb
  rw [Nat.mod_mod] at h6
  refine ⟨hb, ?_⟩
  rcases two_roots p25_prime _ _ h6 with h7 | h7
  · left
    rw [Nat.mod_eq_of_lt h1, Nat.mod_eq_of_lt hX] at h7
    exact h7
  · exact .inr h7

theorem two_facts (R : Nat → Nat) (B : Nat → Bool) (hs : ∀ n, n < K256 → R n < p25 ∧ R n % 2 = 0 ∧ (B n = true → R n * R n % p25 = n % p25) ∧ (B n = false → R n = 0) ∧ (B n = true ↔ Sq n)) (X : Nat) (hX : X < p25) :
    (X = 0 ∧ B X = true ∧ R X = 0 ∧ B ((X + X) % p25) = true ∧ R ((X + X) % p25) = 0) ∨
    (X ≠ 0 ∧ B X = true ∧ R X * R X % p25 = X ∧ B ((X + X) % p25) = false ∧ R ((X + X) % p25) = 0) ∨
    (X ≠ 0 ∧ B X = false ∧ R X = 0 ∧ B ((X + X) % p25) = true ∧ R ((X + X) % p25) * R ((X + X) % p25) % p25 = (X + X) % p25) := by
  obtain ⟨a1, _, a3, a4, a5⟩ := hs X (lt_K hX)
  obtain ⟨b1, _, b3, b4, b5⟩ := hs ((X + X) % p25) (mod_K _)
  rw [sq_mod] at b5
  rw [Nat.mod_eq_of_lt hX] at a3
  rw [Nat.mod_mod] at b3
  by_cases h0 : X = 0
  · left
    have hsq : Sq X := ⟨0, by rw [h0]⟩
    have hsq2 : Sq (X + X) := ⟨0, by rw [h0]⟩
    have ha := a3 (a5.2 hsq)
    have hb := b3 (b5.2 hsq2)
    rw [h0] at ha
    rw [show (X + X) % p25 = 0 by rw [h0]; rfl] at hb b1 ⊢
    refine ⟨h0, a5.2 hsq, root_zero a1 (by rw [h0]; exact ha), ?_, root_zero b1 hb⟩
    have := b5.2 hsq2
    rw [show (X + X) % p25 = 0 by rw [h0]; rfl] at this
    exact this
  · right
    have hnd : ¬ p25 ∣ X := fun hd => by
      have := Nat.le_of_dvd (by omega) hd
      omega
    rcases one_of_two X hnd with ⟨h1, h2⟩ | ⟨h1, h2⟩
    · left
      have hbf : B ((X + X) % p25) = false := by
        cases hb : B ((X + X) % p25)
        · rfl
        · exact absurd (b5.1 hb) h2
      exact ⟨h0, a5.2 h1, a3 (a5.2 h1), hbf, b4 hbf⟩
    · right
      have haf : B X = false := by
        cases ha : B X
        · rfl
        · exact absurd (a5.1 ha) h1
      exact ⟨h0, haf, a4 haf, b5.2 h2, b3 (b5.2 h2)⟩

set_option maxRecDepth 100000 in
set_option maxHeartbeats 1600000 in
theorem roots_walk (F : FieldOk) (n : Nat) (hn : n < K256) (W : World) (hT : Tab2 W) :
    Calls Tryd.prog 6 #[fe n] W fun e w' => e = .returned (.bool true) ∧ Below W.heap.size W w' := by
  obtain ⟨R, Bf, hS, hspec⟩ := F.sqrt
  have HL := Lib.hid (fun w => refLeast_any n w hn)
  obtain ⟨X, hX⟩ : ∃ X, n % p25 = X := ⟨_, rfl⟩
  have hXp : X < p25 := by rw [← hX]; exact Nat.mod_lt _ p25_pos
  rw [hX] at HL
  clear hX
  have hXK := lt_K hXp
  have HF := Lib.hid (roots_facts R Bf hspec X hXp)
  have HM := Lib.hid (fun w => F.mul X X w hXK hXK)
  obtain ⟨Q, hQ⟩ : ∃ Q, X * X % p25 = Q := ⟨_, rfl⟩
  have hQK : Q < K256 := by rw [← hQ]; exact mod_K _
  rw [hQ] at HM HF
  have HSQ := Lib.hid (fun w => hS Q w hQK)
  have HspQ := Lib.hid (hspec Q hQK)
  obtain ⟨r, hr⟩ : ∃ r, R Q = r := ⟨_, rfl⟩
  rw [hr] at HSQ HF HspQ
  rw [HF.out.1] at HSQ
  have HR2 := Lib.hid HF.out.2
  have HRp := Lib.hid HspQ.out.1
  have HRe := Lib.hid HspQ.out.2.1
  clear HF HspQ hr hQ hQK
  have hT0 := Lib.hid hT
  have hx := Lies.new W 24 (feA n)
  have hB := (Below.refl W.heap.size W).alloc (Nat.le_refl _) (.cells (feA n) 24)
  go_enter Tryd.func6, Tryd.ntmps6
  go_upto_region 1 with fail
  generalize World.alloc W _ = w0 at *
  go_upto_region 2 with (first
    | ((with_reducible refine wpL_load W.heap.size 24 (feA n) 4 rowFe (feA_size _) hx ?_ ?_); rfl)
    | (go_at_call 12; refine (HL.out _).mono ?_; rintro e w1 ⟨rfl, hb⟩; replace hx := hx.on hb; replace hB := below_on hB hb; clear hb)
    | ((with_reducible refine wpL_store W.heap.size 24 _ (feA X) 4 rowFe (feA_size _) (feA_size _) (feA_one _) hx ?_ ?_ ?_); rfl; rfl))
  replace hx := hx.row (feA X)
  replace hB := below_rowSet hB (Nat.le_refl _) (feA X)
  generalize World.setRow _ _ _ = w2 at *
  replace hT := hT0.out.on hB
  clear HL
  go_upto_region 3 with (first
    | ((with_reducible refine wpL_load W.heap.size 24 (feA X) 4 rowFe (feA_size _) hx ?_ ?_); rfl)
    | (go_at_call 17; refine (HM.out _ hT.1).mono ?_; rintro e w3 ⟨rfl, hb⟩; replace hx := hx.on hb; replace hT := hT.on hb; replace hB := below_on hB hb; clear hb)
    | (go_at_call 24; refine (HSQ.out _ hT).mono ?_; rintro e w4 ⟨rfl, hb⟩; replace hx := hx.on hb; replace hT := hT.on hb; replace hB := below_on hB hb; clear hb)
    | ((with_reducible refine wpL_store w4.heap.size 24 _ (feA r) 4 rowFe ?_ (feA_size _) (feA_one _) (Lies.new w4 _ _) ?_ ?_ ?_); rfl; rfl; rfl))
  have hr := newly_lies w4 24 fe0A (feA r)
  have hnw := newly w4 (.cells fe0A 24) (feA r)
  replace hx := hx.on hnw
  replace hT := hT.on hnw
  replace hB := below_on hB hnw
  clear hnw HM HSQ
  generalize World.setRow _ _ _ = w5 at *
  generalize w4.heap.size = gr at *
  go_cut [41] from 18 to 40 (fun s wx => s = .bool false ∧ Lies wx W.heap.size 24 (feA X) ∧ Tab2 wx ∧ Below W.heap.size W wx)
  case first =>
    obtain ⟨x0, x1, x2, x3, hxe⟩ := fe_four X
    obtain ⟨r0, r1, r2, r3, hre, hr2, _⟩ := word_low r
    have e1 : fe X = .agg #[w64 x0, w64 x1, w64 x2, w64 x3] := by rw [fe, hxe]
    have e2 : fe r = .agg #[w64 r0, w64 r1, w64 r2, w64 r3] := by rw [fe, hre]
    have hr2i : (r0 : Int) % 2 = 0 := by have := HRe.out; omega
    have hNe := fun w => neq_fe r X (lt_K HRp.out) hXK w
    have HA := Lib.hid (fun w => F.add r X w (lt_K HRp.out) hXK)
    have HAl := Lib.hid (fun w => alive_any F w)
    rw [e1, e2] at hNe HA
    have HX := Lib.hid hxe
    have hx' := hx
    rw [hxe] at hx'
    rw [hre] at hr
    obtain ⟨s0, s1, s2, s3⟩ := hx'.four
    obtain ⟨t0, t1, t2, t3⟩ := hr.four
    clear hr2 e1 e2 hxe hre hXp hXK hspec
    by_cases hrX : r = X
    · rw [decide_eq_true hrX] at hNe
      clear hrX
      go_wp2_with (go_at_call 9; refine (HAl.out _ hT.1).mono ?_; rintro e w6 ⟨rfl, hb⟩; replace hx := hx.on hb; replace hT := hT.on hb; replace hB := below_on hB hb; clear hb)
      go_meet
      exact ⟨rfl, hx, hT, hB⟩
    · rw [decide_eq_false hrX] at hNe
      have hr0 : (r + X) % p25 = 0 := by
        rcases HR2.out with h | h
        · exact absurd h hrX
        · exact h
      rw [hr0] at HA
      clear hrX hr0
      have hZ : ∀ w, (binOp .neq 24 (fe 0) (.agg #[.int .u64 0, .int .u64 0, .int .u64 0, .int .u64 0])).run Tryd.prog w = .ok (.bool false) w := fun w => neq_zero 0 (by decide) w
      go_wp2_with (first
        | (go_at_call 13; refine (HA.out _ hT.1).mono ?_; rintro e w6 ⟨rfl, hb⟩; replace hx := hx.on hb; replace hr := hr.on hb; replace hT := hT.on hb; replace hB := below_on hB hb; clear hb s0 s1 s2 s3 t0 t1 t2 t3; obtain ⟨t0, t1, t2, t3⟩ := hr.four)
        | (go_at_call 9; refine (HAl.out _ hT.1).mono ?_; rintro e w7 ⟨rfl, hb⟩; replace hx := hx.on hb; replace hT := hT.on hb; replace hB := below_on hB hb; clear hb))
      go_meet
      exact ⟨rfl, hx, hT, hB⟩
  case rest =>
    clear hx hr hT hB
    obtain ⟨rfl, hx, hT, hB⟩ := hcut
    have HTF := Lib.hid (two_facts R Bf hspec X hXp)
    have HSX := Lib.hid (fun w => hS X w hXK)
    have HAX := Lib.hid (fun w => F.add X X w hXK hXK)
    obtain ⟨T, hTX⟩ : ∃ T, (X + X) % p25 = T := ⟨_, rfl⟩
    have hTK : T < K256 := by rw [← hTX]; exact mod_K _
    rw [hTX] at HTF HAX
    have HST := Lib.hid (fun w => hS T w hTK)
    have HsX := Lib.hid (hspec X hXK)
    have HsT := Lib.hid (hspec T hTK)
    obtain ⟨a, ha⟩ : ∃ a, R X = a := ⟨_, rfl⟩
    obtain ⟨b, hb⟩ : ∃ b, R T = b := ⟨_, rfl⟩
    obtain ⟨A, hA⟩ : ∃ A, Bf X = A := ⟨_, rfl⟩
    obtain ⟨C, hC⟩ : ∃ C, Bf T = C := ⟨_, rfl⟩
    rw [ha, hA] at HSX HTF HsX
    rw [hb, hC] at HST HTF HsT
    have HaK := Lib.hid (lt_K HsX.out.1)
    have HbK := Lib.hid (lt_K HsT.out.1)
    have HaE := Lib.hid HsX.out.2.1
    have HbE := Lib.hid HsT.out.2.1
    have HXK := Lib.hid hXK
    have HTK := Lib.hid hTK
    clear HsX HsT ha hb hA hC hTX hS hspec hTK hXK hXp HR2 HRp HRe hn
    go_upto_region 6 with (first
      | ((with_reducible refine wpL_load W.heap.size 24 (feA X) 4 rowFe (feA_size _) hx ?_ ?_); rfl)
      | (go_at_call 24; refine (HSX.out _ hT).mono ?_; rintro e v1 ⟨rfl, hb⟩; replace hx := hx.on hb; replace hT := hT.on hb; replace hB := below_on hB hb; clear hb)
      | ((with_reducible refine wpL_store v1.heap.size 24 _ (feA a) 4 rowFe ?_ (feA_size _) (feA_one _) (Lies.new v1 _ _) ?_ ?_ ?_); rfl; rfl; rfl))
    have ha := newly_lies v1 24 fe0A (feA a)
    have hnw := newly v1 (.cells fe0A 24) (feA a)
    replace hx := hx.on hnw
    replace hT := hT.on hnw
    replace hB := below_on hB hnw
    clear hnw HSX
    generalize World.setRow _ _ _ = v2 at *
    generalize v1.heap.size = ga at *
    go_upto_region 7 with (first
      | ((with_reducible refine wpL_load W.heap.size 24 (feA X) 4 rowFe (feA_size _) hx ?_ ?_); rfl)
      | (go_at_call 13; refine (HAX.out _ hT.1).mono ?_; rintro e v3 ⟨rfl, hb⟩; replace hx := hx.on hb; replace ha := ha.on hb; replace hT := hT.on hb; replace hB := below_on hB hb; clear hb)
      | (go_at_call 24; refine (HST.out _ hT).mono ?_; rintro e v4 ⟨rfl, hb⟩; replace hx := hx.on hb; replace ha := ha.on hb; replace hT := hT.on hb; replace hB := below_on hB hb; clear hb)
      | ((with_reducible refine wpL_store v4.heap.size 24 _ (feA b) 4 rowFe ?_ (feA_size _) (feA_one _) (Lies.new v4 _ _) ?_ ?_ ?_); rfl; rfl; rfl))
    have hb := newly_lies v4 24 fe0A (feA b)
    have hnw := newly v4 (.cells fe0A 24) (feA b)
    replace hx := hx.on hnw
    replace ha := ha.on hnw
    replace hT := hT.on hnw
    replace hB := below_on hB hnw
    clear hnw HST
    generalize World.setRow _ _ _ = v5 at *
    generalize v4.heap.size = gb at *
    obtain ⟨x0, x1, x2, x3, hxe⟩ := fe_four X
    obtain ⟨a0, a1, a2, a3, hae, hae2, _⟩ := word_low a
    obtain ⟨b0, b1, b2, b3, hbe, hbe2, _⟩ := word_low b
    have e1 : fe X = .agg #[w64 x0, w64 x1, w64 x2, w64 x3] := by rw [fe, hxe]
    have e2 : fe a = .agg #[w64 a0, w64 a1, w64 a2, w64 a3] := by rw [fe, hae]
    have e3 : fe b = .agg #[w64 b0, w64 b1, w64 b2, w64 b3] := by rw [fe, hbe]
    have ha2 : (a0 : Int) % 2 = 0 := by have := HaE.out; omega
    have hb2 : (b0 : Int) % 2 = 0 := by have := HbE.out; omega
    clear hae2 hbe2 HaE HbE
    have hZX := fun w => zero_four X HXK.out w
    have hZa := fun w => zero_four a HaK.out w
    have hZb := fun w => zero_four b HbK.out w
    have hEa := fun w => eql_fe a X HaK.out HXK.out w
    have hEb := fun w => eql_fe b X HbK.out HXK.out w
    have cA := reg (fun w hw => F.mul a a w HaK.out HaK.out (hT.on hw).1)
    have cB := reg (fun w hw => F.mul b b w HbK.out HbK.out (hT.on hw).1)
    have cX := reg (fun w hw => HAX.out w (hT.on hw).1)
    have hET := eql_self T
    rw [e1] at hZX hEa hEb cX
    rw [e2] at hZa hEa cA
    rw [e3] at hZb hEb cB
    rw [hxe] at hx
    rw [hae] at ha
    rw [hbe] at hb
    obtain ⟨s0, s1, s2, s3⟩ := hx.four
    obtain ⟨t0, t1, t2, t3⟩ := ha.four
    obtain ⟨q0, q1, q2, q3⟩ := hb.four
    rw [e1, e2, e3]
    rcases HTF.out with ⟨hX0, hA1, ha0, hC1, hb0⟩ | ⟨hX0, hA1, haa, hC0, hb0⟩ | ⟨hX0, hA0, ha0, hC1, hbb⟩
    · rw [decide_eq_true hX0] at hZX
      rw [decide_eq_true (ha0.trans hX0.symm)] at hEa
      rw [decide_eq_true (hb0.trans hX0.symm)] at hEb
      subst hA1 hC1
      clear hX0 ha0 hb0 HTF cA cB cX hZa hZb hET e1 e2 e3 hxe hae hbe
      go_wp2_with fail
      go_ret
      exact ⟨rfl, hB⟩
    · rw [decide_eq_false hX0] at hZX
      rw [decide_eq_true hb0] at hZb
      rw [haa, e1] at cA
      have hS := same_four x0 x1 x2 x3
      subst hA1 hC0
      clear hX0 haa hb0 HTF cB cX hZa hEa hEb hET e1 e2 e3 hxe hae hbe
      go_upto_region 12 with fail
      have k0 := cell_regrown s0
      have k1 := cell_regrown s1
      have k2 := cell_regrown s2
      have k3 := cell_regrown s3
      have l0 := cell_regrown t0
      have l1 := cell_regrown t1
      have l2 := cell_regrown t2
      have l3 := cell_regrown t3
      have m0 := cell_regrown q0
      have m1 := cell_regrown q1
      have m2 := cell_regrown q2
      have m3 := cell_regrown q3
      clear s0 s1 s2 s3 t0 t1 t2 t3 q0 q1 q2 q3
      refine wp_region_quiet_below (by kernel_rfl) (by kernel_rfl) ?_
      repeat (go_big_quiet_step (first | with_reducible exact cA _ _))
      refine wpQuiet_nil ?_
      intro _ hw'
      obtain ⟨⟨dq, osq⟩, hw''⟩ := hw'
      subst hw''
      go_wp2_with fail
      go_ret
      exact ⟨rfl, below_on hB (below_regrown v5 dq osq)⟩
    · rw [decide_eq_false hX0] at hZX
      rw [decide_eq_true ha0] at hZa
      rw [hbb] at cB
      subst hA0 hC1
      clear hX0 hbb ha0 HTF cA hZb hEa hEb e1 e2 e3 hxe hae hbe
      go_upto_region 13 with fail
      have k0 := cell_regrown s0
      have k1 := cell_regrown s1
      have k2 := cell_regrown s2
      have k3 := cell_regrown s3
      have l0 := cell_regrown t0
      have l1 := cell_regrown t1
      have l2 := cell_regrown t2
      have l3 := cell_regrown t3
      have m0 := cell_regrown q0
      have m1 := cell_regrown q1
      have m2 := cell_regrown q2
      have m3 := cell_regrown q3
      clear s0 s1 s2 s3 t0 t1 t2 t3 q0 q1 q2 q3
      refine wp_region_quiet_below (by kernel_rfl) (by kernel_rfl) ?_
      repeat (go_big_quiet_step (first | with_reducible exact cB _ _ | with_reducible exact cX _ _))
      refine wpQuiet_nil ?_
      intro _ hw'
      obtain ⟨⟨dq, osq⟩, hw''⟩ := hw'
      subst hw''
      go_wp2_with fail
      go_ret
      exact ⟨rfl, below_on hB (below_regrown v5 dq osq)⟩
end Go.Proofs.YtlbhlklgliblgaaDoor.F
