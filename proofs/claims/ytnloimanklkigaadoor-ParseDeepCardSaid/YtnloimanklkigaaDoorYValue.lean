/- The reader's loop: a value with all that stands in it. -/
import Derived.Test.YtnloimanklkigaaDoorYBegin
namespace Go.Proofs.YtnloimanklkigaaDoor.V
set_option maxRecDepth 100000
open Go.RowKit Go.Sort Go.Joins

def frs (ms : List Fm) : List Fr := ms.map Fm.fr
theorem frs_len (ms : List Fm) : (frs ms).length = ms.length := List.length_map ..
theorem frs_cons (m : Fm) (ms : List Fm) : frs (m :: ms) = m.fr :: frs ms := rfl
/-- where the reader stands: with a value whole in hand, or ahead of one -/
def Inn (w : World) (g : Nat) (E : List Nat) (B : Nat) (s : ByteArray) (q n : Nat) (vo : Value) (ms : List Fm) (C : Array Value) (whole : Bool) (R : Rd (VT × Nat)) : Prop :=
  St w g E B s q n vo ms ∧ (whole = true → ∃ cs t d, C = List.toArray cs ∧ IsVX (live g E vo ms) w d cs t ∧ plug (frs ms) (.ok (t, n) (rest s q)) = R ∧ ∀ m ∈ ms, m.fr.items.length + 1 ≤ q) ∧
  (whole = false → plug (frs ms) (rdV (12 - ms.length) n (rest s q)) = R)
theorem isVX_ones {X : List Nat} {w : World} {d : Nat} {cs : List Value} {t : VT} (h : IsVX X w d cs t) : cs.toArray.size = 5 ∧ Ones cs.toArray := by
  obtain ⟨ai, ci, ak, ck, hcs⟩ := h.isV.form
  rw [hcs]
  exact ⟨rfl, valC_one _ _ _ _ _ _ _ _ _⟩
theorem valZ_ones : valZ.size = 5 ∧ Ones valZ := ⟨rfl, valC_one _ _ _ _ _ _ _ _ _⟩
/-- a value begins -/
theorem BegPost.inn {w w1 : World} {g B p n : Nat} {E : List Nat} {s : ByteArray} {vo : Value} {ms : List Fm} {e : Ending} {R : Rd (VT × Nat)} (h : BegPost w g E B s p n vo ms e w1) (h0 : St w g E B s p n vo ms) (hR : plug (frs ms) (rdV (12 - ms.length) n (rest s p)) = R) :
    (∃ er, R = .bad er ∧ e = errP er ∧ RowKit.Below g w w1) ∨
    (∃ C whole q n' vo' ms', e = .returned (.tuple #[.agg C, .bool whole]) ∧ C.size = 5 ∧ Ones C ∧ p < q ∧ q ≤ s.size ∧ Inn w1 g E B s q n' vo' ms' C whole R ∧ Turn (live g [] vo ms) (live g [] vo' ms') w w1) := by
  rcases h with ⟨er, h1, h2, h3⟩ | ⟨cs, t, d, q, h1, h2, h3, h4, h5, h6, h7⟩ | ⟨m', q, v'', h1, h2, h3, h4, h5, h6⟩
  · exact .inl ⟨er, by rw [← hR, h1, plug_bad], h2, h3⟩
  · obtain ⟨z1, z2⟩ := isVX_ones h6
    exact .inr ⟨_, true, q, n + 1, vo, ms, h2, z1, z2, h3, h4, ⟨h5, fun _ => ⟨cs, t, d, rfl, h6, by rw [← hR, h1], fun m hm => by have := (h0.fm m hm).few; omega⟩, fun h => by cases h⟩, h7⟩
  · refine .inr ⟨valZ, false, q, n + 1, v'', m' :: ms, h2, valZ_ones.1, valZ_ones.2, h3, h4, ⟨h5, (fun h => by cases h), fun _ => ?_⟩, h6⟩
    rw [← hR, h1, frs_cons, plug, frs_len, List.length_cons, show 12 - (ms.length + 1) = 11 - ms.length by omega]
/-- an item was put in -/
theorem PutPost.inn {w w1 : World} {g B p n : Nat} {E : List Nat} {s : ByteArray} {vo : Value} {m : Fm} {ms : List Fm} {x : VT} {e : Ending} {R : Rd (VT × Nat)} (h : PutPost w g E B s p n vo m ms x e w1) (h0 : St w g E B s p n vo (m :: ms)) (hR : plug (frs (m :: ms)) (.ok (x, n) (rest s p)) = R) :
    (∃ er, R = .bad er ∧ e = errP er ∧ RowKit.Below g w w1) ∨
    (∃ C whole q n' vo' ms', e = .returned (.tuple #[.agg C, .bool whole]) ∧ C.size = 5 ∧ Ones C ∧ p < q ∧ q ≤ s.size ∧ Inn w1 g E B s q n' vo' ms' C whole R ∧ Turn (live g [] vo (m :: ms)) (live g [] vo' ms') w w1) := by
  rw [frs_cons, plug, frs_len] at hR
  rcases h with ⟨er, h1, h2, h3⟩ | ⟨cs, t, d, q, vo', h1, h2, h3, h4, h5, h6, h7⟩ | ⟨m', q, h1, h2, h3, h4, h5, h6⟩
  · exact .inl ⟨er, by rw [← hR, h1, plug_bad], h2, h3⟩
  · obtain ⟨z1, z2⟩ := isVX_ones h6
    exact .inr ⟨_, true, q, n, vo', ms, h2, z1, z2, h3, h4, ⟨h5, fun _ => ⟨cs, t, d, rfl, h6, by rw [← hR, h1], fun m' hm => by have := (h0.fm m' (by simp [hm])).few; omega⟩, fun h => by cases h⟩, h7⟩
  · refine .inr ⟨valZ, false, q, n, vo, m' :: ms, h2, valZ_ones.1, valZ_ones.2, h3, h4, ⟨h5, (fun h => by cases h), fun _ => ?_⟩, h6⟩
    rw [← hR, h1, frs_cons, plug, frs_len, List.length_cons, show 12 - (ms.length + 1) = 11 - ms.length by omega]
theorem Inn.turn {w w1 : World} {g B q n : Nat} {E E' : List Nat} {s : ByteArray} {vo : Value} {ms : List Fm} {C : Array Value} {whole : Bool} {R : Rd (VT × Nat)} (h : Inn w g E B s q n vo ms C whole R) (h1 : St w1 g E' B s q n vo ms) (ht : Turn (live g E vo ms) (live g E' vo ms) w w1) : Inn w1 g E' B s q n vo ms C whole R :=
  ⟨h1, fun hw => let ⟨cs, t, d, e1, e2, e3, e4⟩ := h.2.1 hw; ⟨cs, t, d, e1, e2.turn ht, e3, e4⟩, h.2.2⟩
def ValPost (w : World) (g : Nat) (E : List Nat) (B : Nat) (s : ByteArray) (p n : Nat) (vo : Value) (e : Ending) (w' : World) : Prop :=
  (∃ er, rdV 12 n (rest s p) = .bad er ∧ e = errP er ∧ RowKit.Below g w w') ∨
  (∃ cs t d q n' vo', rdV 12 n (rest s p) = .ok (t, n') (rest s q) ∧ e = .returned (.agg (List.toArray cs)) ∧ p < q ∧ q ≤ s.size ∧ St w' g E B s q n' vo' [] ∧ IsVX (live g E vo' []) w' d cs t ∧ Turn (live g [] vo []) (live g [] vo' []) w w')
set_option maxHeartbeats 25600000 in
theorem value_any (w : World) (g : Nat) (E : List Nat) (B : Nat) (s : ByteArray) (p n : Nat) (vo : Value) (h : St w g E B s p n vo []) :
    Calls Tryd.prog 37 #[.pointer (some ⟨g, 0, none⟩)] w fun e w' => ValPost w g E B s p n vo e w' := by
  have hs := h.hs
  have hgw : g ≤ w.heap.size := Nat.le_of_lt h.rd.lt
  have hba := (RowKit.Below.refl w.heap.size w).alloc (Nat.le_refl _) (.cells valZ 25)
  have lV := Lies.new w 25 valZ
  have h0 := (h.enter hba (Nat.le_refl _) lV.lt).1
  have t0 := (h.drop.below hba).2
  obtain ⟨R, hR⟩ : ∃ R, rdV 12 n (rest s p) = R := ⟨_, rfl⟩
  have hbel : ∀ {X' : List Nat} {w' : World}, Turn (live g [] vo []) X' w w' → RowKit.Below g w w' := fun ht => ht.below (fun k hk => (h.core_lt k hk).1) hgw
  obtain ⟨b2, hb2⟩ : ∃ b, w.heap.size = b := ⟨_, rfl⟩
  rw [hb2] at h0 lV
  go_enter Tryd.func37, Tryd.ntmps37
  go_wp2_with fail
  try rw [hb2]
  generalize World.alloc w _ = wa at *
  go_loopw [3, 4, 5] (fun _ _ _ wr => ∃ (q n' : Nat) (vo' : Value) (ms : List Fm), St wr g (b2 :: E) B s q n' vo' ms ∧ Hid (plug (frs ms) (rdV (12 - ms.length) n' (rest s q)) = R) ∧ Turn (live g [] vo []) (live g [] vo' ms) w wr ∧ Lies wr b2 25 valZ ∧ p ≤ q ∧ q ≤ s.size) (fun _ _ _ wr => s.size - placeOf wr g)
  case atStart => exact ⟨p, n, vo, [], h0, Lib.hid hR, t0, lV, Nat.le_refl _, h.hp⟩
  case round =>
    obtain ⟨q, n', vo', ms, h1, HR, t1, lV1, hpq, hq⟩ := hrel
    obtain ⟨wq, hwq⟩ : ∃ wq, wq = wr := ⟨_, rfl⟩
    subst hwq
    have hpanic : ∀ {w2 : World} {er : Int}, R = .bad er → RowKit.Below g wq w2 → ValPost w g E B s p n vo (errP er) w2 := by
      intro w2 er hRe hbe
      unfold ValPost
      exact .inl ⟨er, by rw [hR, hRe], rfl, (hbel t1).trans hbe⟩
    go_wp2_with (first
      | (go_at_call 51; refine (begin_any _ g (b2 :: E) B s q n' vo' ms h1).mono ?_; rintro e w2 hB; rcases hB.inn h1 HR.out with ⟨er, hRe, rfl, hbe⟩ | ⟨C, whole, q2, n2, vo2, ms2, rfl, hC5, hC1, hq2, hq2s, hI, t2⟩)
      | ((with_reducible refine wpL_store w2.heap.size 25 valZ C 5 rowVal rfl hC5 hC1 (Lies.new w2 _ _) ?_ ?_ ?_); rfl; rfl))
    · exact ⟨rfl, hpanic hRe hbe⟩
    have hb3 : RowKit.Below w2.heap.size w2 ((w2.alloc (.cells valZ 25)).setRow w2.heap.size C) := below_rowSet ((RowKit.Below.refl _ _).alloc (Nat.le_refl _) _) (Nat.le_refl _) _
    have l3 : Lies ((w2.alloc (.cells valZ 25)).setRow w2.heap.size C) w2.heap.size 25 C := (Lies.new w2 _ _).row C
    have h3 := hI.1.enter hb3 (Nat.le_refl _) l3.lt
    have hI3 := hI.turn h3.1 h3.2
    have t3 := (t1.trans t2).trans (hI.1.drop.below hb3).2
    have lV3 := (t2.lies h1.out lV1).on hb3
    generalize World.setRow _ _ _ = w3 at *
    obtain ⟨b3, hb3e⟩ : ∃ b, w2.heap.size = b := ⟨_, rfl⟩
    rw [hb3e] at l3 hI3 ⊢
    have hbb : b2 ≠ b3 := fun e => by have := (h3.1.hE b2 (by simp)).2; have h5 := h3.1.nd; have := (hI.1.hE b2 (by simp)).2; omega
    have hb3w : w.heap.size ≤ b3 := by have := (t1.trans t2).size; omega
    have HI3 := Lib.hid hI3
    clear hI3 h3 hI hb3 t2 hb3e
    go_loopw [4] (fun tw wr => ∃ (C : Array Value) (whole : Bool) (q2 n2 : Nat) (vo2 : Value) (ms2 : List Fm), tw = .bool whole ∧ C.size = 5 ∧ Ones C ∧ Lies wr b3 25 C ∧ Lies wr b2 25 valZ ∧ q < q2 ∧ q2 ≤ s.size ∧ Hid (Inn wr g (b3 :: b2 :: E) B s q2 n2 vo2 ms2 C whole R) ∧ Turn (live g [] vo []) (live g [] vo2 ms2) w wr) (fun _ wr => s.size - placeOf wr g)
    case atStart => exact ⟨C, whole, q2, n2, vo2, ms2, rfl, hC5, hC1, l3, lV3, hq2, hq2s, HI3, t3⟩
    case round =>
      clear l3 lV3 t3 HI3 hC5 hC1 hq2 hq2s
      obtain ⟨C, whole, q2, n2, vo2, ms2, rfl, hC5, hC1, l3, lV3, hq2, hq2s, HI, t3⟩ := hrel
      have h3 := HI.out.1
      obtain ⟨a, c, hvo2, _⟩ := h3.form
      have c3 := rd_c3 h3.rd
      rw [hvo2] at c3
      cases whole with
      | false =>
        have HR2 := Lib.hid (HI.out.2.2 rfl)
        go_wp2
        refine ⟨⟨q2, n2, vo2, ms2, h3.leave.1, HR2, t3, lV3, by omega, hq2s⟩, ?_⟩
        rw [placeOf_rd h3.rd, placeOf_rd h1.rd]
        omega
      | true =>
        obtain ⟨cs, t, d, rfl, hx, hpl, hfew⟩ := HI.out.2.1 rfl
        have HPL := Lib.hid hpl
        have HF := Lib.hid hfew
        clear hpl hfew HI
        cases ms2 with
        | nil =>
          have c3 : wr.cell? ⟨g, 3, none⟩ = some (.slice a 0 c) := c3
          go_wp2_with (first
            | (go_at_call 52; refine (size_any _ g _ _ _ c3).mono ?_; rintro e w4 ⟨rfl, rfl⟩)
            | ((with_reducible refine wpL_load b3 25 _ 5 rowVal hC5 l3 ?_ ?_); rfl)
            | ((with_reducible refine wpL_store b2 25 valZ cs.toArray 5 rowVal rfl hC5 hC1 lV3 ?_ ?_ ?_); rfl; rfl))
          have h4 := h3.leave
          have h5 := h4.1.local (grown_row b2 cs.toArray)
          have h6 := h5.1.leave
          refine bodyPost_ret (results_row Tryd.results37 rowVal hC5 (lV3.row _) rfl) rfl ?_
          unfold ValPost
          exact .inr ⟨cs, t, d, q2, n2, vo2, by rw [hR, ← HPL.out]; rfl, rfl, by omega, hq2s, h6.1, ((hx.turn h4.2).turn h5.2).turn h6.2, t3.local (grown_row b2 cs.toArray) (Nat.le_of_eq hb2)⟩
        | cons m ms3 =>
          have c3 : wr.cell? ⟨g, 3, none⟩ = some (.slice a (ms3.length + 1) c) := c3
          have e1 : (0 : Int) < ((ms3.length + 1 : Nat) : Int) := by omega
          have hP := putIn_any wr g (b3 :: b2 :: E) B s q2 n2 vo2 m ms3 h3 (HF.out m (by simp)) d cs t hx
          go_wp2_with (first
            | (go_at_call 52; refine (size_any _ g _ _ _ c3).mono ?_; rintro e w4 ⟨rfl, rfl⟩)
            | ((with_reducible refine wpL_load b3 25 _ 5 rowVal hC5 l3 ?_ ?_); rfl)
            | (go_at_call 53; refine hP.mono ?_; rintro e w5 hB; rcases hB.inn h3 HPL.out with ⟨er, hRe, rfl, hbe⟩ | ⟨C4, whole4, q4, n4, vo4, ms4, rfl, hC45, hC41, hq4, hq4s, hI4, t4⟩)
            | ((with_reducible refine wpL_store b3 25 cs.toArray C4 5 rowVal hC5 hC45 hC41 (t4.lies h3.out l3) ?_ ?_ ?_); rfl; rfl))
          · refine ⟨rfl, ?_⟩
            unfold ValPost
            exact .inl ⟨er, by rw [hR, hRe], rfl, (hbel t3).trans hbe⟩
          have h6 := hI4.1.local (grown_row b3 C4)
          have hI6 := Lib.hid (hI4.turn h6.1 h6.2)
          have T6 := (t3.trans t4).local (grown_row b3 C4) hb3w
          have l6 := (t4.lies h3.out l3).row C4
          have lV6 := (t4.lies h3.leave.1.out lV3).rowFar hbb C4
          have pl6 := placeOf_rd h6.1.rd
          clear hI4
          try go_wp2
          refine ⟨⟨C4, whole4, q4, n4, vo4, ms4, rfl, hC45, hC41, l6, lV6, by omega, hq4s, hI6, T6⟩, ?_⟩
          rw [pl6, placeOf_rd h3.rd]
          omega
end Go.Proofs.YtnloimanklkigaaDoor.V
