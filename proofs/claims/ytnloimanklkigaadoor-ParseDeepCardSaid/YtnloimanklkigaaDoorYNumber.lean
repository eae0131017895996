/- The reader's number. -/
import Derived.Test.YtnloimanklkigaaDoorYDigits
import Derived.Test.YtnloimanklkigaaDoorYRun
import Derived.Test.YtnloimanklkigaaDoorYNum
import Derived.Test.YtnloimanklkigaaDoorShelfP
namespace Go.Proofs.YtnloimanklkigaaDoor.V
set_option maxRecDepth 100000
open Go.RowKit Go.Sort Go.Joins

/-- what strconv.ParseInt makes of a sign and digits -/
def SatZ (b : Bool) (d : List UInt8) (z : Int) : Prop := (decVal d ≤ 1099511627776 → z = signed b (decVal d)) ∧ (1099511627776 < decVal d → z < -1099511627776 ∨ 1099511627776 < z) ∧ (-9223372036854775808 ≤ z ∧ z ≤ 9223372036854775807)
theorem parseInt_any (t : ByteArray) (b : Bool) (d : List UInt8) (ht : t.data.toList = if b then 45 :: d else d) (hd : ∀ c ∈ d, isDig c = true) (hn : d ≠ []) (hs : t.size ≤ 65536) :
    ∃ z, SatZ b d z ∧ ∀ w, ErrAt w → Calls Tryd.prog 78 #[.string t, .int .i64 10, .int .i64 64] w fun e w' => ∃ er, e = .returned (.tuple #[.int .i64 z, er]) ∧ RowKit.Below w.heap.size w w' := by
  rcases parse_of b hd hn with ⟨h1, h2⟩ | ⟨h1, h2, h3, h4⟩
  · refine ⟨signed b (decVal d), ⟨fun _ => rfl, fun h => ?_, h2⟩, fun w _ => (Tryd.strconv_ParseInt_10_at64_ok t (by omega) _ (by rw [ht]; exact h1) w).mono ?_⟩
    · unfold signed
      cases b with
      | true => left; simp only [if_true]; omega
      | false => right; simp only [Bool.false_eq_true, if_false]; omega
    · rintro e w' ⟨rfl, hw⟩
      refine ⟨_, rfl, ?_⟩
      rcases hw with rfl | ⟨t, rfl⟩
      · exact RowKit.Below.refl _ _
      · exact Lib.bytesWorld_below _ _ _
  · refine ⟨Lib.intSat 64 (if b then 45 :: d else d), ⟨fun h => by omega, fun _ => h3, h4⟩, fun w he => ?_⟩
    obtain ⟨tp, p, hv⟩ := he.var
    refine (Tryd.strconv_ParseInt_10_at64_range_var t (by omega) (by rw [ht]; exact h1) tp p w hv).mono ?_
    rintro e w' ⟨N, rfl, _, _, hb⟩
    rw [ht]
    exact ⟨_, rfl, hb⟩
theorem str_empty {t : ByteArray} (h : t.size = 0) : t = ⟨#[]⟩ := by
  obtain ⟨d⟩ := t
  have : d.size = 0 := h
  rw [Array.eq_empty_of_size_eq_zero this]
theorem text_some {t : ByteArray} (h : 0 < t.size) : (t.toList == (⟨#[]⟩ : ByteArray).toList) = false := by
  rw [beq_eq_false_iff_ne, ByteArray.toList_eq, ByteArray.toList_eq]
  intro e
  have : t.size = 0 := by
    have h2 := congrArg List.length e
    rw [Array.length_toList] at h2
    exact h2
  omega
theorem text_full {t : ByteArray} (h : 0 < t.size) : t.toList.isEmpty = false := by
  rw [List.isEmpty_eq_false_iff, ByteArray.toList_eq]
  intro e
  have h2 := congrArg List.length e
  rw [Array.length_toList] at h2
  have : t.size = 0 := h2
  omega
/-- how the sign is passed over -/
theorem sign_any (w : World) (g : Nat) (s : ByteArray) (p n : Nat) (vo : Value) (hl : Lies w g 77 (rdC s p n vo)) (hp : p < s.size) (hs : s.size ≤ 65536) :
    ∃ p1, p ≤ p1 ∧ p1 ≤ s.size ∧ afterSign (rest s p) = rest s p1 ∧ (if minus (rest s p) then p1 = p + 1 ∧ (∀ q, p1 ≤ q → q ≤ s.size → (s.extract p q).data.toList = 45 :: (s.extract p1 q).data.toList) else p1 = p) ∧
    Calls Tryd.prog 76 #[.pointer (some ⟨g, 0, none⟩), .int .u8 45] w fun e w' => e = .returned (.bool (minus (rest s p))) ∧ Lies w' g 77 (rdC s p1 n vo) ∧ w.grownBy w' (some g) := by
  have ex : ∀ (x y : Nat), x ≤ y → y ≤ s.size → (s.extract x y).data.toList = (rest s x).take (y - x) := fun x y _ _ => by
    unfold rest
    rw [ByteArray.data_extract, Array.toList_extract, List.extract_eq_take_drop]
  by_cases h : s[p] = 45
  · have hm : minus (rest s p) = true := by unfold minus; rw [rest_cons hp]; simp [h]
    refine ⟨p + 1, by omega, by omega, ?_, ?_, ?_⟩
    · unfold afterSign; rw [hm, if_pos rfl, rest_cons hp, List.tail_cons]
    · rw [hm, if_pos rfl]
      refine ⟨rfl, fun q h1 h2 => ?_⟩
      rw [ex p q (by omega) h2, ex (p + 1) q h1 h2, rest_cons hp, h, show q - p = (q - (p + 1)) + 1 by omega, List.take_succ_cons]
    · rw [hm]
      exact skip_yes w g s p n vo 45 hl hs hp h
  · have hm : minus (rest s p) = false := by unfold minus; rw [rest_cons hp]; simp [h]
    refine ⟨p, by omega, by omega, ?_, ?_, ?_⟩
    · unfold afterSign; rw [hm]; rfl
    · rw [hm]; simp
    · rw [hm]
      exact (skip_no w g s p n vo 45 hl (by omega) (by rw [rest_cons hp, List.head?_cons]; intro e; exact h (Option.some.inj e))).mono fun e w' ⟨h1, h2⟩ => ⟨h1, hl.on h2, grown_of g h2⟩
/-- what the reader's number comes to -/
def NumPost (w : World) (g : Nat) (s : ByteArray) (p n : Nat) (vo : Value) (e : Ending) (w' : World) : Prop := w.grownBy w' (some g) ∧
      ((∃ er, rdN (rest s p) = .bad er ∧ e = errP er) ∨ (∃ z q, rdN (rest s p) = .ok z (rest s q) ∧ e = .returned (.int .i64 z) ∧ p < q ∧ q ≤ s.size ∧ Lies w' g 77 (rdC s q n vo)))
set_option maxHeartbeats 6400000 in
theorem number_ok (w : World) (g : Nat) (s : ByteArray) (p n : Nat) (vo : Value) (hl : Lies w g 77 (rdC s p n vo)) (hp : p < s.size) (hs : s.size ≤ 65536) (her : ErrAt w) (hg : 3 < g) :
    Calls Tryd.prog 63 #[.pointer (some ⟨g, 0, none⟩)] w fun e w' => NumPost w g s p n vo e w' := by
  obtain ⟨p1, hp1, hp2, hsg, hb, HS⟩ := sign_any w g s p n vo hl hp hs
  have c1 := rd_c1 hl
  generalize hB : minus (rest s p) = b at *
  have HR : ∀ D R, (rest s p1).takeWhile isDig = D → (rest s p1).dropWhile isDig = R → rdN (rest s p) = if D = [] ∨ (1 < D.length ∧ D.head? = some 48) ∨ (b = true ∧ D = [48]) then .bad 20 else if 1099511627776 < decVal D then .bad 2 else .ok (signed b (decVal D)) R := by
    rintro D R rfl rfl
    unfold rdN
    rw [hsg, hB]
    rfl
  go_enter Tryd.func63, Tryd.ntmps63
  go_upto_region 4 with (first
    | (go_at_call 76; refine HS.mono ?_; rintro e w1 ⟨rfl, hl1, hb1⟩)
    | (go_at_call 77; refine (digits_any _ g s p1 n vo hl1 hp2 hs).mono ?_; rintro e w2 ⟨q, rfl, hD, hE, hl2, hb2⟩; obtain ⟨hd1, hd2⟩ := hD.done hE; replace hb2 := grown_two hb1 hb2; replace her := her.grown hb2 hg))
  have HR := HR _ _ hd1 hd2
  have hq := hD.2.1
  have hpq1 := hD.1
  have hsz : (s.extract p1 q).size = (s.extract p1 q).data.toList.length := by rw [Array.length_toList]; rfl
  have hsz2 : (s.extract p1 q).size = q - p1 := by rw [ByteArray.size_extract]; omega
  have hall : ∀ c ∈ (s.extract p1 q).data.toList, isDig c = true := by rw [← hd1]; exact takeWhile_all _
  generalize hds : s.extract p1 q = ds at *
  generalize hD0 : ds.data.toList = D at *
  have hc : ∃ cd : Bool, cd = decide (D = [] ∨ (1 < D.length ∧ D.head? = some 48) ∨ (b = true ∧ D = [48])) := ⟨_, rfl⟩
  obtain ⟨cd, hcd⟩ := hc
  have HCD := Lib.hid hcd
  have HB := Lib.hid hb
  have HR := Lib.hid HR
  clear hcd hb HS hd1 hd2
  go_cut [30] from 16 to 30 (fun v wx => v = .bool cd ∧ wx = w2)
  case first =>
    have hcd := HCD.out
    clear HCD HB
    by_cases h0 : ds.size = 0
    · obtain rfl := str_empty h0
      obtain rfl : D = [] := by rw [← hD0]
      obtain rfl : cd = true := by rw [hcd]; simp
      try clear hsz; try clear hsz2; try clear hcd; try clear hD0; try clear hds; try clear hall; try clear hne; try clear hhd; try clear h0; try clear h48; try clear hsg; try clear hB; try clear h1
      go_wp2
      go_meet
      exact ⟨rfl, rfl⟩
    · have h0 : 0 < ds.size := by omega
      have t0 := text_some h0
      have t1 : ds.toList.isEmpty = false := text_full h0
      have t2 : ¬ ds.toList = [] := by intro e; rw [e] at t1; cases t1
      have hne : ¬ D = [] := by intro e; rw [e, List.length_nil] at hsz; omega
      have hhd : D.head? = some ds[0] := by
        rw [← hD0, List.head?_eq_getElem?, List.getElem?_eq_getElem (by rw [Array.length_toList]; exact h0)]
        rfl
      by_cases h48 : ds[0] = 48
      · have e48 : ((ds[0].toNat : Int) == 48) = true := by rw [h48]; rfl
        cases b with
        | true =>
          obtain rfl : cd = true := by
            rw [hcd]
            refine decide_eq_true ?_
            by_cases h1 : 1 < D.length
            · exact .inr (.inl ⟨h1, by rw [hhd, h48]⟩)
            · refine .inr (.inr ⟨rfl, ?_⟩)
              match D, hhd with
              | [c], hh => simp at hh; rw [hh, h48]
              | c :: c2 :: r, hh => simp at h1
          try clear hsz; try clear hsz2; try clear hcd; try clear hD0; try clear hds; try clear hall; try clear hne; try clear hhd; try clear h0; try clear h48; try clear hsg; try clear hB; try clear h1
          go_wp2
          go_meet
          exact ⟨rfl, rfl⟩
        | false =>
          by_cases h1 : 1 < ds.size
          · have i1 : ((1 : Int) < (ds.size : Int)) := by omega
            obtain rfl : cd = true := by
              rw [hcd]
              exact decide_eq_true (.inr (.inl ⟨by omega, by rw [hhd, h48]⟩))
            try clear hsz; try clear hsz2; try clear hcd; try clear hD0; try clear hds; try clear hall; try clear hne; try clear hhd; try clear h0; try clear h48; try clear hsg; try clear hB; try clear h1
            go_wp2
            go_meet
            exact ⟨rfl, rfl⟩
          · have i1 : ¬ ((1 : Int) < (ds.size : Int)) := by omega
            obtain rfl : cd = false := by
              rw [hcd]
              exact decide_eq_false (by rintro (h | ⟨h, _⟩ | ⟨h, _⟩); exact hne h; omega; cases h)
            try clear hsz; try clear hsz2; try clear hcd; try clear hD0; try clear hds; try clear hall; try clear hne; try clear hhd; try clear h0; try clear h48; try clear hsg; try clear hB; try clear h1
            go_wp2
            go_meet
            exact ⟨rfl, rfl⟩
      · have e48 : ((ds[0].toNat : Int) == 48) = false := by
          rw [beq_eq_false_iff_ne]
          exact byte_ne h48
        obtain rfl : cd = false := by
          rw [hcd]
          refine decide_eq_false ?_
          rintro (h | ⟨_, h⟩ | ⟨_, h⟩)
          · exact hne h
          · rw [hhd] at h; exact h48 (Option.some.inj h)
          · rw [h] at hhd; simp at hhd; exact h48 hhd.symm
        try clear hsz; try clear hsz2; try clear hcd; try clear hD0; try clear hds; try clear hall; try clear hne; try clear hhd; try clear h0; try clear h48; try clear hsg; try clear hB; try clear h1
        go_wp2
        go_meet
        exact ⟨rfl, rfl⟩
  obtain ⟨rfl, rfl⟩ := hcut
  cases cd with
  | true =>
    go_wp2
    have hcd := of_decide_eq_true HCD.out.symm
    exact ⟨rfl, by unfold NumPost; exact ⟨hb2, .inl ⟨20, by rw [HR.out, if_pos hcd], rfl⟩⟩⟩
  | false =>
    have hcd := of_decide_eq_false HCD.out.symm
    have HR2 := Lib.hid (HR.out.trans (if_neg hcd))
    have hDn : D ≠ [] := fun e => hcd (.inl e)
    have hpq : p ≤ q := by omega
    have hpl : p < q := by
      rcases Nat.lt_or_ge p q with h | h
      · exact h
      · exfalso
        have : ds.size = 0 := by omega
        rw [hsz] at this
        exact hDn (List.eq_nil_of_length_eq_zero this)
    have htl : (s.extract p q).data.toList = if b then 45 :: D else D := by
      have hb := HB.out
      cases b with
      | true =>
        rw [if_pos rfl] at hb ⊢
        rw [hb.2 q hD.1 hq, hds, hD0]
      | false =>
        simp only [Bool.false_eq_true, if_false] at hb ⊢
        rw [← hb, hds, hD0]
    obtain ⟨z, hz, hP⟩ := parseInt_any (s.extract p q) b D htl hall hDn (by rw [ByteArray.size_extract]; omega)
    have HP := Lib.hid hP
    have HZ := Lib.hid hz
    clear hP hz htl hcd HCD HR HB hall hsz hsz2 hD0 hds hsg hB
    go_upto_region 6 with fail
    refine wp_held_any (S := fun w => Lies w g 77 (rdC s q n vo)) 16 rfl (by kernel_rfl) ?_
    have hdr : RowKit.Below wc.heap.size wc { wc with drawn := wc.drawn + 1 } := (RowKit.Below.refl _ _).drew
    have hS0 := hl2.on hdr
    replace hb2 := grown_two hb2 (grown_of g hdr)
    replace her := her.below hdr
    clear hdr
    generalize ({ wc with drawn := wc.drawn + 1 } : World) = wd at *
    refine held_put 0 33 (.pointer (some ⟨g, 0, none⟩)) rfl rfl (by kernel_rfl) (by kernel_rfl) (by kernel_rfl) (by kernel_rfl) (fun w hS => rfl) hS0 ?_
    simp only [List.setIfInBounds_toArray, List.set_cons_succ, List.set_cons_zero]
    refine held_put 1 34 (.pointer (some ⟨g, 0, none⟩)) rfl rfl (by kernel_rfl) (by kernel_rfl) (by kernel_rfl) (by kernel_rfl) (fun w hS => rfl) hS0 ?_
    simp only [List.setIfInBounds_toArray, List.set_cons_succ, List.set_cons_zero]
    refine held_put 2 35 (.pointer (some ⟨g, 0, none⟩)) rfl rfl (by kernel_rfl) (by kernel_rfl) (by kernel_rfl) (by kernel_rfl) (fun w hS => rfl) hS0 ?_
    simp only [List.setIfInBounds_toArray, List.set_cons_succ, List.set_cons_zero]
    refine held_put 3 36 (.string s) rfl rfl (by kernel_rfl) (by kernel_rfl) (by kernel_rfl) (by kernel_rfl) (fun w hS => run_ldS _ _ (rd_c0 hS) rfl) hS0 ?_
    simp only [List.setIfInBounds_toArray, List.set_cons_succ, List.set_cons_zero]
    refine held_put 4 37 (.int .i64 p) rfl rfl (by kernel_rfl) (by kernel_rfl) (by kernel_rfl) (by kernel_rfl) (fun w hS => rfl) hS0 ?_
    simp only [List.setIfInBounds_toArray, List.set_cons_succ, List.set_cons_zero]
    refine held_put 5 38 (.pointer (some ⟨g, 0, none⟩)) rfl rfl (by kernel_rfl) (by kernel_rfl) (by kernel_rfl) (by kernel_rfl) (fun w hS => rfl) hS0 ?_
    simp only [List.setIfInBounds_toArray, List.set_cons_succ, List.set_cons_zero]
    refine held_put 6 39 (.pointer (some ⟨g, 0, none⟩)) rfl rfl (by kernel_rfl) (by kernel_rfl) (by kernel_rfl) (by kernel_rfl) (fun w hS => rfl) hS0 ?_
    simp only [List.setIfInBounds_toArray, List.set_cons_succ, List.set_cons_zero]
    refine held_put 7 40 (.pointer (some ⟨g, 1, none⟩)) rfl rfl (by kernel_rfl) (by kernel_rfl) (by kernel_rfl) (by kernel_rfl) (fun w hS => rfl) hS0 ?_
    simp only [List.setIfInBounds_toArray, List.set_cons_succ, List.set_cons_zero]
    refine held_put 8 41 (.int .i64 q) rfl rfl (by kernel_rfl) (by kernel_rfl) (by kernel_rfl) (by kernel_rfl) (fun w hS => run_ldI _ _ (rd_c1 hS) rfl) hS0 ?_
    simp only [List.setIfInBounds_toArray, List.set_cons_succ, List.set_cons_zero]
    refine held_put 9 42 (.string (s.extract p q)) rfl rfl (by kernel_rfl) (by kernel_rfl) (by kernel_rfl) (by kernel_rfl) (fun w hS => run_cutS s p q hpq hq rfl rfl rfl) hS0 ?_
    simp only [List.setIfInBounds_toArray, List.set_cons_succ, List.set_cons_zero]
    refine held_one 10 (by kernel_rfl) (wpOp_call 43 rfl rfl (by kernel_rfl) (by kernel_rfl) ((HP.out _ her).mono ?_))
    rintro e w3 ⟨er, rfl, hb3⟩
    replace hS0 := hS0.on hb3
    replace hb2 := grown_two hb2 (grown_of g hb3)
    refine ⟨_, rfl, hS0, ?_⟩
    simp only [List.setIfInBounds_toArray, List.set_cons_succ, List.set_cons_zero]
    refine held_put 11 32 (.tuple #[.int .i64 z, er]) rfl rfl (by kernel_rfl) (by kernel_rfl) (by kernel_rfl) (by kernel_rfl) (fun w hS => rfl) hS0 ?_
    simp only [List.setIfInBounds_toArray, List.set_cons_succ, List.set_cons_zero]
    refine held_put 12 44 (.int .i64 z) rfl rfl (by kernel_rfl) (by kernel_rfl) (by kernel_rfl) (by kernel_rfl) (fun w hS => rfl) hS0 ?_
    simp only [List.setIfInBounds_toArray, List.set_cons_succ, List.set_cons_zero]
    refine held_put 13 45 er rfl rfl (by kernel_rfl) (by kernel_rfl) (by kernel_rfl) (by kernel_rfl) (fun w hS => rfl) hS0 ?_
    simp only [List.setIfInBounds_toArray, List.set_cons_succ, List.set_cons_zero]
    refine held_put 14 6 (.int .i64 z) rfl rfl (by kernel_rfl) (by kernel_rfl) (by kernel_rfl) (by kernel_rfl) (fun w hS => rfl) hS0 ?_
    simp only [List.setIfInBounds_toArray, List.set_cons_succ, List.set_cons_zero]
    refine held_put 15 7 er rfl rfl (by kernel_rfl) (by kernel_rfl) (by kernel_rfl) (by kernel_rfl) (fun w hS => rfl) hS0 ?_
    simp only [List.setIfInBounds_toArray, List.set_cons_succ, List.set_cons_zero]
    refine held_done (by kernel_rfl) ?_
    simp only [Exit.then]
    have H7 := HZ.out
    by_cases hbig : 1099511627776 < decVal D
    · have hzb := H7.2.1 hbig
      have hr := Lib.hid (HR2.out.trans (if_pos hbig))
      clear HR2 HZ H7 HP hDn
      by_cases hlo : z < -1099511627776
      · go_wp2
        exact ⟨rfl, by unfold NumPost; exact ⟨hb2, .inl ⟨2, hr.out, rfl⟩⟩⟩
      · have hhi : 1099511627776 < z := by omega
        go_wp2
        exact ⟨rfl, by unfold NumPost; exact ⟨hb2, .inl ⟨2, hr.out, rfl⟩⟩⟩
    · have hze := H7.1 (by omega)
      have hr := Lib.hid (show rdN (rest s p) = .ok z (rest s q) by rw [HR2.out, if_neg hbig, hze])
      have hlo : ¬ z < -1099511627776 := by rw [hze]; unfold signed; cases b <;> simp <;> omega
      have hhi : ¬ 1099511627776 < z := by rw [hze]; unfold signed; cases b <;> simp <;> omega
      clear HR2 HZ H7 HP hDn hze hbig
      go_wp2
      go_ret
      unfold NumPost
      exact ⟨hb2, .inr ⟨z, q, hr.out, rfl, hpl, hq, hS0⟩⟩
end Go.Proofs.YtnloimanklkigaaDoor.V
