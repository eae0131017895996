/- A value begins: read whole where nothing stands in it, or opened. -/
import Derived.Test.YtnloimanklkigaaDoorYPutIn
namespace Go.Proofs.YtnloimanklkigaaDoor.V
set_option maxRecDepth 100000
open Go.RowKit Go.Sort Go.Joins

theorem isVX_num (X : List Nat) (w : World) {z : Int} (hz : -9223372036854775808 ≤ z ∧ z ≤ 9223372036854775807) : IsVX X w 1 [.int .i64 1, .int .i64 z, .string ⟨#[]⟩, .slice none 0 0, .slice none 0 0] (.mk 1 z [] [] []) :=
  ⟨_, _, rfl, ⟨(show (-9223372036854775808 : Int) ≤ 1 ∧ (1 : Int) ≤ 9223372036854775807 by decide), hz, Nat.zero_le _, fun x h => by cases h⟩, Strs.nil w, RowC.nil w 5 _, fun h => absurd h (Nat.lt_irrefl 0), fun h => absurd h (Nat.lt_irrefl 0)⟩
theorem isVX_txt (X : List Nat) (w : World) {k : List UInt8} (hk : k.length ≤ maxLen) : IsVX X w 1 [.int .i64 2, .int .i64 0, .string ⟨k.toArray⟩, .slice none 0 0, .slice none 0 0] (.mk 2 0 k [] []) :=
  ⟨_, _, rfl, ⟨(show (-9223372036854775808 : Int) ≤ 2 ∧ (2 : Int) ≤ 9223372036854775807 by decide), (show (-9223372036854775808 : Int) ≤ 0 ∧ (0 : Int) ≤ 9223372036854775807 by decide), hk, fun x h => by cases h⟩, Strs.nil w, RowC.nil w 5 _, fun h => absurd h (Nat.lt_irrefl 0), fun h => absurd h (Nat.lt_irrefl 0)⟩
theorem isVX_none (X : List Nat) (w : World) (k : Int) (hk : k = 3 ∨ k = 4) : IsVX X w 1 [.int .i64 k, .int .i64 0, .string ⟨#[]⟩, .slice none 0 0, .slice none 0 0] (.mk k 0 [] [] []) :=
  ⟨_, _, rfl, ⟨(show -9223372036854775808 ≤ k ∧ k ≤ 9223372036854775807 by omega), (show (-9223372036854775808 : Int) ≤ 0 ∧ (0 : Int) ≤ 9223372036854775807 by decide), Nat.zero_le _, fun x h => by cases h⟩, Strs.nil w, RowC.nil w 5 _, fun h => absurd h (Nat.lt_irrefl 0), fun h => absurd h (Nat.lt_irrefl 0)⟩
section
variable {w : World} {g B p n : Nat} {E : List Nat} {s : ByteArray} {vo : Value} {ms : List Fm} (h : St w g E B s p n vo ms) (map : Bool) (hp : p < s.size) (hms : ms.length < 12)
include h hp hms
theorem row_whole (hw : (rest s (p + 1)).head? = some (endC map)) : Calls Tryd.prog 65 #[.pointer (some ⟨g, 0, none⟩), .int .i64 (Fr.kind ⟨map, [], [], 0⟩)] w fun e w' => e = .returned (.tuple #[.agg #[.int .i64 (Fr.kind ⟨map, [], [], 0⟩), .int .i64 0, .string ⟨#[]⟩, .slice none 0 0, .slice none 0 0], .bool true]) ∧ p + 2 ≤ s.size ∧ St w' g E B s (p + 2) n vo ms ∧ Turn (live g [] vo ms) (live g [] vo ms) w w' := by
  refine (row_any w g E B s p n vo ms h map hp hms).mono ?_
  rintro e w' (⟨_, h1, h2, h3, h4⟩ | ⟨h1, _⟩ | ⟨h1, _⟩ | ⟨h1, _⟩)
  · exact ⟨h1, h2, h3, h4⟩
  · exact absurd hw h1
  · exact absurd hw h1
  · exact absurd hw h1
theorem row_open (hw : (rest s (p + 1)).head? ≠ some (endC map)) (hm : map = false) : Calls Tryd.prog 65 #[.pointer (some ⟨g, 0, none⟩), .int .i64 (Fr.kind ⟨map, [], [], 0⟩)] w fun e w' => e = .returned (.tuple #[.agg valZ, .bool false]) ∧ ∃ v'', St w' g E B s (p + 1) n v'' (⟨⟨false, [], [], (rest s (p + 1)).length⟩, .slice none 0 0, .slice none 0 0⟩ :: ms) ∧ Turn (live g [] vo ms) (live g [] v'' (⟨⟨false, [], [], (rest s (p + 1)).length⟩, .slice none 0 0, .slice none 0 0⟩ :: ms)) w w' := by
  refine (row_any w g E B s p n vo ms h map hp hms).mono ?_
  rintro e w' (⟨h1, _⟩ | ⟨_, _, v'', h1, h2, h3⟩ | ⟨_, h1, _⟩ | ⟨_, h1, _⟩)
  · exact absurd h1 hw
  · exact ⟨h1, v'', h2, h3⟩
  · rw [hm] at h1; cases h1
  · rw [hm] at h1; cases h1
theorem row_bad (hw : (rest s (p + 1)).head? ≠ some (endC map)) (hm : map = true) {er : Int} (hR : rdK none (rest s (p + 1)) = .bad er) : Calls Tryd.prog 65 #[.pointer (some ⟨g, 0, none⟩), .int .i64 (Fr.kind ⟨map, [], [], 0⟩)] w fun e w' => e = errP er ∧ RowKit.Below g w w' := by
  refine (row_any w g E B s p n vo ms h map hp hms).mono ?_
  rintro e w' (⟨h1, _⟩ | ⟨_, h1, _⟩ | ⟨_, _, er', h1, h2, h3⟩ | ⟨_, _, k, q, v'', vk, h1, _⟩)
  · exact absurd h1 hw
  · rw [hm] at h1; cases h1
  · rw [hR] at h1; cases h1; exact ⟨h2, h3⟩
  · rw [hR] at h1; cases h1
theorem row_key (hw : (rest s (p + 1)).head? ≠ some (endC map)) (hm : map = true) {k r : List UInt8} (hR : rdK none (rest s (p + 1)) = .ok k r) : Calls Tryd.prog 65 #[.pointer (some ⟨g, 0, none⟩), .int .i64 (Fr.kind ⟨map, [], [], 0⟩)] w fun e w' => e = .returned (.tuple #[.agg valZ, .bool false]) ∧ ∃ q v'' vk, r = rest s q ∧ p + 1 < q ∧ q ≤ s.size ∧ St w' g E B s q n v'' (⟨⟨true, [], [k], (rest s (p + 1)).length⟩, .slice none 0 0, vk⟩ :: ms) ∧
    Turn (live g [] vo ms) (live g [] v'' (⟨⟨true, [], [k], (rest s (p + 1)).length⟩, .slice none 0 0, vk⟩ :: ms)) w w' := by
  refine (row_any w g E B s p n vo ms h map hp hms).mono ?_
  rintro e w' (⟨h1, _⟩ | ⟨_, h1, _⟩ | ⟨_, _, er', h1, h2, h3⟩ | ⟨_, _, k', q, v'', vk, h1, h2, h3, h4, h5, h6⟩)
  · exact absurd h1 hw
  · rw [hm] at h1; cases h1
  · rw [hR] at h1; cases h1
  · rw [hR] at h1; cases h1; exact ⟨h4, q, v'', vk, rfl, h2, h3, h5, h6⟩
end
def BegPost (w : World) (g : Nat) (E : List Nat) (B : Nat) (s : ByteArray) (p n : Nat) (vo : Value) (ms : List Fm) (e : Ending) (w' : World) : Prop :=
  (∃ er, rdV (12 - ms.length) n (rest s p) = .bad er ∧ e = errP er ∧ RowKit.Below g w w') ∨
  (∃ cs t d q, rdV (12 - ms.length) n (rest s p) = .ok (t, n + 1) (rest s q) ∧ e = .returned (.tuple #[.agg (List.toArray cs), .bool true]) ∧ p < q ∧ q ≤ s.size ∧ St w' g E B s q (n + 1) vo ms ∧ IsVX (live g E vo ms) w' d cs t ∧ Turn (live g [] vo ms) (live g [] vo ms) w w') ∨
  (∃ m' q v'', rdV (12 - ms.length) n (rest s p) = m'.fr.after (11 - ms.length) (rdV (11 - ms.length) (n + 1) (rest s q)) ∧ e = .returned (.tuple #[.agg valZ, .bool false]) ∧ p < q ∧ q ≤ s.size ∧ St w' g E B s q (n + 1) v'' (m' :: ms) ∧ Turn (live g [] vo ms) (live g [] v'' (m' :: ms)) w w')
set_option maxHeartbeats 25600000 in
theorem begin_any (w : World) (g : Nat) (E : List Nat) (B : Nat) (s : ByteArray) (p n : Nat) (vo : Value) (ms : List Fm) (h : St w g E B s p n vo ms) :
    Calls Tryd.prog 51 #[.pointer (some ⟨g, 0, none⟩)] w fun e w' => BegPost w g E B s p n vo ms e w' := by
  have hs := h.hs
  have hgw : g ≤ w.heap.size := Nat.le_of_lt h.rd.lt
  have hmsl := h.hms
  obtain ⟨a, c, hvo, hcc⟩ := h.form
  have hba := (RowKit.Below.refl w.heap.size w).alloc (Nat.le_refl _) (.cells valZ 25)
  have lV := Lies.new w 25 valZ
  have h0 := (h.enter hba (Nat.le_refl _) lV.lt).1
  have t0 := (h.drop.below hba).2
  have l0 := h0.rd
  by_cases h12 : ms.length = 12
  · have HX := Lib.hid (show rdV (12 - ms.length) n (rest s p) = .bad 21 by rw [h12]; exact begin_deep _ _)
    rw [hvo, h12] at l0
    go_enter Tryd.func51, Tryd.ntmps51
    go_wp2_with (go_at_call 60; refine (may_deep _ g s p n a c l0).mono ?_; rintro e w1 ⟨rfl, rfl⟩)
    refine ⟨rfl, ?_⟩
    unfold BegPost
    exact .inl ⟨21, HX.out, rfl, hba.mono hgw⟩
  have hms : ms.length < 12 := by omega
  have hL : 12 - ms.length = (11 - ms.length) + 1 := by omega
  by_cases hn : n = 2000
  · have HX := Lib.hid (show rdV (12 - ms.length) n (rest s p) = .bad 22 by rw [hL, hn]; exact begin_many _ _)
    rw [hvo, hn] at l0
    go_enter Tryd.func51, Tryd.ntmps51
    go_wp2_with (go_at_call 60; refine (may_many _ g s p _ a c l0 hms).mono ?_; rintro e w1 ⟨rfl, rfl⟩)
    refine ⟨rfl, ?_⟩
    unfold BegPost
    exact .inl ⟨22, HX.out, rfl, hba.mono hgw⟩
  have hn2 : n < 2000 := by have := h.hn; omega
  have HM : Calls Tryd.prog 60 #[.pointer (some ⟨g, 0, none⟩)] (w.alloc (.cells valZ 25)) fun e w' => e = .returned (.tuple #[]) ∧ St w' g (w.heap.size :: E) B s p (n + 1) vo ms ∧ Turn (live g [] vo ms) (live g [] vo ms) w w' ∧ Lies w' w.heap.size 25 valZ := by
    have l1 := l0
    rw [hvo] at l1
    refine (may_ok _ g s p n _ a c l1 hms hn2).mono ?_
    rintro e w1 ⟨h1, h2, h3⟩
    rw [← hvo] at h2
    have h4 := h0.seek h3 h2 (Nat.le_refl _) h.hp (by omega)
    have h5 := h0.drop.seek h3 h2 (Nat.le_refl _) h.hp (by omega)
    exact ⟨h1, h4.1, t0.trans h5.2, lV.only h3 (by intro e; injection e with e; have := h.rd.lt; omega)⟩
  clear h0 t0 l0 lV
  obtain ⟨bv, hbv⟩ : ∃ b, w.heap.size = b := ⟨_, rfl⟩
  have fin : ∀ (w6 : World) (vo' : Value) (ms' : List Fm) (q n' : Nat) (cc : Array Value), St w6 g (bv :: E) B s q n' vo' ms' → Turn (live g [] vo ms) (live g [] vo' ms') w w6 →
      St (w6.setRow bv cc) g E B s q n' vo' ms' ∧ Turn (live g [] vo ms) (live g [] vo' ms') w (w6.setRow bv cc) ∧ Turn (live g (bv :: E) vo' ms') (live g E vo' ms') w6 (w6.setRow bv cc) := by
    intro w6 vo' ms' q n' cc h6 t6
    have h7 := h6.local (grown_row bv cc)
    have h8 := h7.1.leave
    exact ⟨h8.1, t6.local (grown_row bv cc) (by omega), h7.2.trans h8.2⟩
  by_cases hlt : p < s.size
  case neg =>
    obtain rfl : p = s.size := by have := h.hp; omega
    have HX := Lib.hid (show rdV (12 - ms.length) n (rest s s.size) = .bad 3 by rw [hL, rest_none]; exact begin_none _ _ hn)
    go_enter Tryd.func51, Tryd.ntmps51
    go_wp2_with (first
      | (go_at_call 60; refine HM.mono ?_; rintro e w1 ⟨rfl, h1, t1, lV1⟩)
      | (go_at_call 61; refine (here_short _ g s _ vo h1.rd).mono ?_; rintro e w2 ⟨rfl, hb2⟩))
    refine ⟨rfl, ?_⟩
    unfold BegPost
    exact .inl ⟨3, HX.out, rfl, (t1.below (fun k hk => (h.core_lt k hk).1) hgw).trans (hb2.mono (Nat.le_of_lt h1.rd.lt))⟩
  obtain ⟨c0, hc0⟩ : ∃ c, s[p] = c := ⟨_, rfl⟩
  have hrc := rest_cons hlt
  rw [hc0] at hrc
  have HH := fun w1 h1 => here_ok w1 g s p (n + 1) vo h1 hlt
  rw [hc0] at HH
  have HD := isDigit_any c0
  rw [hbv] at HM
  have hbel : ∀ {X' : List Nat} {w' : World}, Turn (live g [] vo ms) X' w w' → RowKit.Below g w w' := fun ht => ht.below (fun k hk => (h.core_lt k hk).1) hgw
  by_cases h45 : c0 = 45
  · have e45 : ((c0.toNat : Int) == 45) = true := by rw [h45]; rfl
    cases hR : rdN (c0 :: rest s (p + 1)) with
    | bad er =>
      have HX := Lib.hid (show rdV (12 - ms.length) n (rest s p) = .bad er by rw [hL, hrc, begin_num _ _ _ hn (.inl h45), hR]; rfl)
      rw [← hrc] at hR
      have HR := Lib.hid hR
      clear hrc hR hc0
      go_enter Tryd.func51, Tryd.ntmps51
      go_upto_region 1 with fail
      try rw [hbv]
      go_wp2_with (first
        | (go_at_call 60; refine HM.mono ?_; rintro e w1 ⟨rfl, h1, t1, lV1⟩)
        | (go_at_call 61; refine (HH _ h1.rd).mono ?_; rintro e w2 ⟨rfl, hb2⟩; have h2 := (h1.below hb2).1; have t2 := t1.trans (h1.drop.below hb2).2; have lV2 := lV1.on hb2)
        | (go_at_call 63; refine (number_bad h2.rd hlt hs h2.er.1 h2.er.2 HR.out).mono ?_; rintro e w5 ⟨rfl, hg5⟩))
      refine ⟨rfl, ?_⟩
      unfold BegPost
      exact .inl ⟨er, HX.out, rfl, (hbel t2).trans (below_grown hg5 (Nat.le_of_lt h2.rd.lt))⟩
    | ok z r =>
      have HX := Lib.hid (show rdV (12 - ms.length) n (rest s p) = .ok (.mk 1 z [] [] [], n + 1) r by rw [hL, hrc, begin_num _ _ _ hn (.inl h45), hR]; rfl)
      have hzb := (rdN_ok hR).2.1
      rw [← hrc] at hR
      have HR := Lib.hid hR
      clear hrc hR hc0
      go_enter Tryd.func51, Tryd.ntmps51
      go_upto_region 1 with fail
      try rw [hbv]
      go_wp2_with (first
        | (go_at_call 60; refine HM.mono ?_; rintro e w1 ⟨rfl, h1, t1, lV1⟩)
        | (go_at_call 61; refine (HH _ h1.rd).mono ?_; rintro e w2 ⟨rfl, hb2⟩; have h2 := (h1.below hb2).1; have t2 := t1.trans (h1.drop.below hb2).2; have lV2 := lV1.on hb2)
        | (go_at_call 63; refine (number_good h2.rd hlt hs h2.er.1 h2.er.2 HR.out).mono ?_; rintro e w5 ⟨rfl, q, hrq, hpq, hq, hl5, hg5⟩; have h5 := (h2.seek hg5 hl5 (by omega) hq h2.hn).1; have t5 := t2.trans (h2.drop.seek hg5 hl5 (by omega) hq h2.hn).2; have lV5 := lV2.only hg5 (by intro e; injection e with e; exact h2.out (by rw [e]; simp [live])))
        | (go_at_call 20; refine (number_any z _).mono ?_; rintro e w6 ⟨rfl, hb6⟩; have h6 := (h5.below hb6).1; have t6 := t5.trans (h5.drop.below hb6).2; have lV4 := lV5.on hb6)
        | ((with_reducible refine wpL_store bv 25 valZ #[.int .i64 1, .int .i64 z, .string ⟨#[]⟩, .slice none 0 0, .slice none 0 0] 5 rowVal rfl rfl (valC_one _ _ _ _ _ _ _ _ _) lV4 ?_ ?_ ?_); rfl; rfl))
      obtain ⟨h7, t7, _⟩ := fin _ _ _ _ _ #[.int .i64 1, .int .i64 z, .string ⟨#[]⟩, .slice none 0 0, .slice none 0 0] h6 t6
      refine bodyPost_ret (results_row_tmp Tryd.results51 rowVal rfl (lV4.row _) rfl rfl) rfl ?_
      unfold BegPost
      exact .inr (.inl ⟨[.int .i64 1, .int .i64 z, .string ⟨#[]⟩, .slice none 0 0, .slice none 0 0], _, 1, q, by rw [HX.out, hrq], rfl, hpq, hq, h7, isVX_num _ _ (by omega), t7⟩)
  have e45 : ((c0.toNat : Int) == 45) = false := by rw [beq_eq_false_iff_ne]; exact byte_ne h45
  cases hdg : isDig c0 with
  | true =>
    rw [hdg] at HD
    cases hR : rdN (c0 :: rest s (p + 1)) with
    | bad er =>
      have HX := Lib.hid (show rdV (12 - ms.length) n (rest s p) = .bad er by rw [hL, hrc, begin_num _ _ _ hn (.inr hdg), hR]; rfl)
      rw [← hrc] at hR
      have HR := Lib.hid hR
      clear hrc hR hc0
      go_enter Tryd.func51, Tryd.ntmps51
      go_upto_region 1 with fail
      try rw [hbv]
      go_wp2_with (first
        | (go_at_call 60; refine HM.mono ?_; rintro e w1 ⟨rfl, h1, t1, lV1⟩)
        | (go_at_call 61; refine (HH _ h1.rd).mono ?_; rintro e w2 ⟨rfl, hb2⟩; have h2 := (h1.below hb2).1; have t2 := t1.trans (h1.drop.below hb2).2; have lV2 := lV1.on hb2)
        | (go_at_call 62; refine (HD _).mono ?_; rintro e w3 ⟨rfl, hb3⟩; have h3 := (h2.below hb3).1; have t3 := t2.trans (h2.drop.below hb3).2; have lV3 := lV2.on hb3)
        | (go_at_call 63; refine (number_bad h3.rd hlt hs h3.er.1 h3.er.2 HR.out).mono ?_; rintro e w5 ⟨rfl, hg5⟩))
      refine ⟨rfl, ?_⟩
      unfold BegPost
      exact .inl ⟨er, HX.out, rfl, (hbel t3).trans (below_grown hg5 (Nat.le_of_lt h3.rd.lt))⟩
    | ok z r =>
      have HX := Lib.hid (show rdV (12 - ms.length) n (rest s p) = .ok (.mk 1 z [] [] [], n + 1) r by rw [hL, hrc, begin_num _ _ _ hn (.inr hdg), hR]; rfl)
      have hzb := (rdN_ok hR).2.1
      rw [← hrc] at hR
      have HR := Lib.hid hR
      clear hrc hR hc0
      go_enter Tryd.func51, Tryd.ntmps51
      go_upto_region 1 with fail
      try rw [hbv]
      go_wp2_with (first
        | (go_at_call 60; refine HM.mono ?_; rintro e w1 ⟨rfl, h1, t1, lV1⟩)
        | (go_at_call 61; refine (HH _ h1.rd).mono ?_; rintro e w2 ⟨rfl, hb2⟩; have h2 := (h1.below hb2).1; have t2 := t1.trans (h1.drop.below hb2).2; have lV2 := lV1.on hb2)
        | (go_at_call 62; refine (HD _).mono ?_; rintro e w3 ⟨rfl, hb3⟩; have h3 := (h2.below hb3).1; have t3 := t2.trans (h2.drop.below hb3).2; have lV3 := lV2.on hb3)
        | (go_at_call 63; refine (number_good h3.rd hlt hs h3.er.1 h3.er.2 HR.out).mono ?_; rintro e w5 ⟨rfl, q, hrq, hpq, hq, hl5, hg5⟩; have h5 := (h3.seek hg5 hl5 (by omega) hq h3.hn).1; have t5 := t3.trans (h3.drop.seek hg5 hl5 (by omega) hq h3.hn).2; have lV5 := lV3.only hg5 (by intro e; injection e with e; exact h3.out (by rw [e]; simp [live])))
        | (go_at_call 20; refine (number_any z _).mono ?_; rintro e w6 ⟨rfl, hb6⟩; have h6 := (h5.below hb6).1; have t6 := t5.trans (h5.drop.below hb6).2; have lV4 := lV5.on hb6)
        | ((with_reducible refine wpL_store bv 25 valZ #[.int .i64 1, .int .i64 z, .string ⟨#[]⟩, .slice none 0 0, .slice none 0 0] 5 rowVal rfl rfl (valC_one _ _ _ _ _ _ _ _ _) lV4 ?_ ?_ ?_); rfl; rfl))
      obtain ⟨h7, t7, _⟩ := fin _ _ _ _ _ #[.int .i64 1, .int .i64 z, .string ⟨#[]⟩, .slice none 0 0, .slice none 0 0] h6 t6
      refine bodyPost_ret (results_row_tmp Tryd.results51 rowVal rfl (lV4.row _) rfl rfl) rfl ?_
      unfold BegPost
      exact .inr (.inl ⟨[.int .i64 1, .int .i64 z, .string ⟨#[]⟩, .slice none 0 0, .slice none 0 0], _, 1, q, by rw [HX.out, hrq], rfl, hpq, hq, h7, isVX_num _ _ (by omega), t7⟩)
  | false =>
    rw [hdg] at HD
    have hnd : ¬ (c0 = 45 ∨ isDig c0 = true) := by rintro (h | h); exact h45 h; rw [hdg] at h; cases h
    by_cases h34 : c0 = 34
    · subst h34
      have HH : ∀ w1, Lies w1 g 77 (rdC s p (n + 1) vo) → Calls Tryd.prog 61 #[.pointer (some ⟨g, 0, none⟩)] w1 fun e w' => e = .returned (.int .u8 34) ∧ RowKit.Below w1.heap.size w1 w' := HH
      have HD : ∀ w, Calls Tryd.prog 62 #[.int .u8 34] w fun e w' => e = .returned (.bool false) ∧ RowKit.Below w.heap.size w w' := HD
      clear e45 hdg
      cases hR : rdT 0 (rest s (p + 1)) with
      | bad er =>
        have HX := Lib.hid (show rdV (12 - ms.length) n (rest s p) = .bad er by rw [hL, hrc, begin_txt _ _ _ hn, hR]; rfl)
        have HR := Lib.hid hR
        clear hrc hR hc0
        go_enter Tryd.func51, Tryd.ntmps51
        go_upto_region 1 with fail
        try rw [hbv]
        go_wp2_with (first
          | (go_at_call 60; refine HM.mono ?_; rintro e w1 ⟨rfl, h1, t1, lV1⟩)
          | (go_at_call 61; refine (HH _ h1.rd).mono ?_; rintro e w2 ⟨rfl, hb2⟩; have h2 := (h1.below hb2).1; have t2 := t1.trans (h1.drop.below hb2).2; have lV2 := lV1.on hb2)
          | (go_at_call 62; refine (HD _).mono ?_; rintro e w3 ⟨rfl, hb3⟩; have h3 := (h2.below hb3).1; have t3 := t2.trans (h2.drop.below hb3).2; have lV3 := lV2.on hb3)
          | (go_at_call 64; refine (quoted_bad h3.rd hlt hs HR.out).mono ?_; rintro e w5 ⟨rfl, hg5⟩))
        refine ⟨rfl, ?_⟩
        unfold BegPost
        exact .inl ⟨er, HX.out, rfl, (hbel t3).trans (below_grown hg5 (Nat.le_of_lt h3.rd.lt))⟩
      | ok k r =>
        have HX := Lib.hid (show rdV (12 - ms.length) n (rest s p) = .ok (.mk 2 0 k [] [], n + 1) r by rw [hL, hrc, begin_txt _ _ _ hn, hR]; rfl)
        obtain ⟨_, _, hk4⟩ := rdT_ok _ _ (Nat.le_refl _) 0 k r (by decide) hR
        have HR := Lib.hid hR
        clear hrc hR hc0
        go_enter Tryd.func51, Tryd.ntmps51
        go_upto_region 1 with fail
        try rw [hbv]
        go_wp2_with (first
          | (go_at_call 60; refine HM.mono ?_; rintro e w1 ⟨rfl, h1, t1, lV1⟩)
          | (go_at_call 61; refine (HH _ h1.rd).mono ?_; rintro e w2 ⟨rfl, hb2⟩; have h2 := (h1.below hb2).1; have t2 := t1.trans (h1.drop.below hb2).2; have lV2 := lV1.on hb2)
          | (go_at_call 62; refine (HD _).mono ?_; rintro e w3 ⟨rfl, hb3⟩; have h3 := (h2.below hb3).1; have t3 := t2.trans (h2.drop.below hb3).2; have lV3 := lV2.on hb3)
          | (go_at_call 64; refine (quoted_ok h3.rd hlt hs HR.out).mono ?_; rintro e w5 ⟨rfl, q, hrq, hpq, hq, hl5, hg5⟩; have h5 := (h3.seek hg5 hl5 (by omega) hq h3.hn).1; have t5 := t3.trans (h3.drop.seek hg5 hl5 (by omega) hq h3.hn).2; have lV5 := lV3.only hg5 (by intro e; injection e with e; exact h3.out (by rw [e]; simp [live])))
          | (go_at_call 21; refine (text_any ⟨k.toArray⟩ _).mono ?_; rintro e w6 ⟨rfl, hb6⟩; have h6 := (h5.below hb6).1; have t6 := t5.trans (h5.drop.below hb6).2; have lV4 := lV5.on hb6)
          | ((with_reducible refine wpL_store bv 25 valZ #[.int .i64 2, .int .i64 0, .string ⟨k.toArray⟩, .slice none 0 0, .slice none 0 0] 5 rowVal rfl rfl (valC_one _ _ _ _ _ _ _ _ _) lV4 ?_ ?_ ?_); rfl; rfl))
        obtain ⟨h7, t7, _⟩ := fin _ _ _ _ _ #[.int .i64 2, .int .i64 0, .string ⟨k.toArray⟩, .slice none 0 0, .slice none 0 0] h6 t6
        refine bodyPost_ret (results_row_tmp Tryd.results51 rowVal rfl (lV4.row _) rfl rfl) rfl ?_
        unfold BegPost
        exact .inr (.inl ⟨[.int .i64 2, .int .i64 0, .string ⟨k.toArray⟩, .slice none 0 0, .slice none 0 0], _, 1, q, by rw [HX.out, hrq], rfl, by omega, hq, h7, isVX_txt _ _ (by unfold maxLen; omega), t7⟩)
    have e34 : ((c0.toNat : Int) == 34) = false := by rw [beq_eq_false_iff_ne]; exact byte_ne h34
    by_cases h91 : c0 = 91
    · subst h91
      have HH : ∀ w1, Lies w1 g 77 (rdC s p (n + 1) vo) → Calls Tryd.prog 61 #[.pointer (some ⟨g, 0, none⟩)] w1 fun e w' => e = .returned (.int .u8 91) ∧ RowKit.Below w1.heap.size w1 w' := HH
      have HD : ∀ w, Calls Tryd.prog 62 #[.int .u8 91] w fun e w' => e = .returned (.bool false) ∧ RowKit.Below w.heap.size w w' := HD
      clear e45 hdg e34
      by_cases hw : (rest s (p + 1)).head? = some (endC false)
      · have HX := Lib.hid (show rdV (12 - ms.length) n (rest s p) = .ok (.mk 3 0 [] [] [], n + 1) (rest s (p + 2)) by
            rw [hL, hrc, begin_list _ _ _ hn, if_pos (show (rest s (p + 1)).head? = some 93 from hw)]
            have hlt2 : p + 1 < s.size := by
              rcases Nat.lt_or_ge (p + 1) s.size with h' | h'
              · exact h'
              · exfalso
                obtain he : p + 1 = s.size := by omega
                rw [he, rest_none] at hw
                cases hw
            rw [rest_cons hlt2, List.tail_cons])
        have HR := fun (w3 : World) (h3 : St w3 g (bv :: E) B s p (n + 1) vo ms) => row_whole h3 false hlt hms hw
        have HW := Lib.hid hw
        clear hrc hc0 hw
        go_enter Tryd.func51, Tryd.ntmps51
        go_upto_region 1 with fail
        try rw [hbv]
        go_wp2_with (first
          | (go_at_call 60; refine HM.mono ?_; rintro e w1 ⟨rfl, h1, t1, lV1⟩)
          | (go_at_call 61; refine (HH _ h1.rd).mono ?_; rintro e w2 ⟨rfl, hb2⟩; have h2 := (h1.below hb2).1; have t2 := t1.trans (h1.drop.below hb2).2; have lV2 := lV1.on hb2)
          | (go_at_call 62; refine (HD _).mono ?_; rintro e w3 ⟨rfl, hb3⟩; have h3 := (h2.below hb3).1; have t3 := t2.trans (h2.drop.below hb3).2; have lV3 := lV2.on hb3)
          | (go_at_call 65; refine (HR _ h3).mono ?_; rintro e w5 ⟨rfl, hp2, h5, t5⟩; have lV4 := t5.lies h3.out lV3; replace t5 := t3.trans t5)
          | ((with_reducible refine wpL_store bv 25 valZ #[.int .i64 3, .int .i64 0, .string ⟨#[]⟩, .slice none 0 0, .slice none 0 0] 5 rowVal rfl rfl (valC_one _ _ _ _ _ _ _ _ _) lV4 ?_ ?_ ?_); rfl; rfl))
        obtain ⟨h7, t7, _⟩ := fin _ _ _ _ _ #[.int .i64 3, .int .i64 0, .string ⟨#[]⟩, .slice none 0 0, .slice none 0 0] h5 t5
        refine bodyPost_ret (results_row_tmp Tryd.results51 rowVal rfl (lV4.row _) rfl rfl) rfl ?_
        unfold BegPost
        exact .inr (.inl ⟨[.int .i64 3, .int .i64 0, .string ⟨#[]⟩, .slice none 0 0, .slice none 0 0], _, 1, p + 2, HX.out, rfl, by omega, hp2, h7, isVX_none _ _ 3 (.inl rfl), t7⟩)
      · have HX := Lib.hid (show rdV (12 - ms.length) n (rest s p) = (Fr.mk false [] [] (rest s (p + 1)).length).after (11 - ms.length) (rdV (11 - ms.length) (n + 1) (rest s (p + 1))) by rw [hL, hrc, begin_list _ _ _ hn, if_neg (show ¬ (rest s (p + 1)).head? = some 93 from hw)])
        have HR := fun (w3 : World) (h3 : St w3 g (bv :: E) B s p (n + 1) vo ms) => row_open h3 false hlt hms hw rfl
        have HW := Lib.hid hw
        clear hrc hc0 hw
        go_enter Tryd.func51, Tryd.ntmps51
        go_upto_region 1 with fail
        try rw [hbv]
        go_wp2_with (first
          | (go_at_call 60; refine HM.mono ?_; rintro e w1 ⟨rfl, h1, t1, lV1⟩)
          | (go_at_call 61; refine (HH _ h1.rd).mono ?_; rintro e w2 ⟨rfl, hb2⟩; have h2 := (h1.below hb2).1; have t2 := t1.trans (h1.drop.below hb2).2; have lV2 := lV1.on hb2)
          | (go_at_call 62; refine (HD _).mono ?_; rintro e w3 ⟨rfl, hb3⟩; have h3 := (h2.below hb3).1; have t3 := t2.trans (h2.drop.below hb3).2; have lV3 := lV2.on hb3)
          | (go_at_call 65; refine (HR _ h3).mono ?_; rintro e w5 ⟨rfl, v5, h5, t5⟩; have lV4 := t5.lies h3.out lV3; replace t5 := t3.trans t5)
          | ((with_reducible refine wpL_store bv 25 valZ valZ 5 rowVal rfl rfl (valC_one _ _ _ _ _ _ _ _ _) lV4 ?_ ?_ ?_); rfl; rfl))
        obtain ⟨h7, t7, _⟩ := fin _ _ _ _ _ valZ h5 t5
        refine bodyPost_ret (results_row_tmp Tryd.results51 rowVal rfl (lV4.row _) rfl rfl) rfl ?_
        unfold BegPost
        exact .inr (.inr ⟨_, p + 1, v5, HX.out, rfl, by omega, by omega, h7, t7⟩)
    have e91 : ((c0.toNat : Int) == 91) = false := by rw [beq_eq_false_iff_ne]; exact byte_ne h91
    by_cases h123 : c0 = 123
    · subst h123
      have HH : ∀ w1, Lies w1 g 77 (rdC s p (n + 1) vo) → Calls Tryd.prog 61 #[.pointer (some ⟨g, 0, none⟩)] w1 fun e w' => e = .returned (.int .u8 123) ∧ RowKit.Below w1.heap.size w1 w' := HH
      have HD : ∀ w, Calls Tryd.prog 62 #[.int .u8 123] w fun e w' => e = .returned (.bool false) ∧ RowKit.Below w.heap.size w w' := HD
      clear e45 hdg e34 e91
      by_cases hw : (rest s (p + 1)).head? = some (endC true)
      · have HX := Lib.hid (show rdV (12 - ms.length) n (rest s p) = .ok (.mk 4 0 [] [] [], n + 1) (rest s (p + 2)) by
            rw [hL, hrc, begin_map _ _ _ hn, if_pos (show (rest s (p + 1)).head? = some 125 from hw)]
            have hlt2 : p + 1 < s.size := by
              rcases Nat.lt_or_ge (p + 1) s.size with h' | h'
              · exact h'
              · exfalso
                obtain he : p + 1 = s.size := by omega
                rw [he, rest_none] at hw
                cases hw
            rw [rest_cons hlt2, List.tail_cons])
        have HR := fun (w3 : World) (h3 : St w3 g (bv :: E) B s p (n + 1) vo ms) => row_whole h3 true hlt hms hw
        have HW := Lib.hid hw
        clear hrc hc0 hw
        go_enter Tryd.func51, Tryd.ntmps51
        go_upto_region 1 with fail
        try rw [hbv]
        go_wp2_with (first
          | (go_at_call 60; refine HM.mono ?_; rintro e w1 ⟨rfl, h1, t1, lV1⟩)
          | (go_at_call 61; refine (HH _ h1.rd).mono ?_; rintro e w2 ⟨rfl, hb2⟩; have h2 := (h1.below hb2).1; have t2 := t1.trans (h1.drop.below hb2).2; have lV2 := lV1.on hb2)
          | (go_at_call 62; refine (HD _).mono ?_; rintro e w3 ⟨rfl, hb3⟩; have h3 := (h2.below hb3).1; have t3 := t2.trans (h2.drop.below hb3).2; have lV3 := lV2.on hb3)
          | (go_at_call 65; refine (HR _ h3).mono ?_; rintro e w5 ⟨rfl, hp2, h5, t5⟩; have lV4 := t5.lies h3.out lV3; replace t5 := t3.trans t5)
          | ((with_reducible refine wpL_store bv 25 valZ #[.int .i64 4, .int .i64 0, .string ⟨#[]⟩, .slice none 0 0, .slice none 0 0] 5 rowVal rfl rfl (valC_one _ _ _ _ _ _ _ _ _) lV4 ?_ ?_ ?_); rfl; rfl))
        obtain ⟨h7, t7, _⟩ := fin _ _ _ _ _ #[.int .i64 4, .int .i64 0, .string ⟨#[]⟩, .slice none 0 0, .slice none 0 0] h5 t5
        refine bodyPost_ret (results_row_tmp Tryd.results51 rowVal rfl (lV4.row _) rfl rfl) rfl ?_
        unfold BegPost
        exact .inr (.inl ⟨[.int .i64 4, .int .i64 0, .string ⟨#[]⟩, .slice none 0 0, .slice none 0 0], _, 1, p + 2, HX.out, rfl, by omega, hp2, h7, isVX_none _ _ 4 (.inr rfl), t7⟩)
      · have HX := Lib.hid (show rdV (12 - ms.length) n (rest s p) = keyed (11 - ms.length) [] [] (rest s (p + 1)).length (n + 1) (rdK none (rest s (p + 1))) by rw [hL, hrc, begin_map _ _ _ hn, if_neg (show ¬ (rest s (p + 1)).head? = some 125 from hw)])
        cases hR : rdK none (rest s (p + 1)) with
        | bad er =>
          have HX := Lib.hid (HX.out.trans (by rw [hR]; rfl) : rdV (12 - ms.length) n (rest s p) = .bad er)
          have HR := fun (w3 : World) (h3 : St w3 g (bv :: E) B s p (n + 1) vo ms) => row_bad h3 true hlt hms hw rfl hR
          have HW := Lib.hid hw
          clear hrc hc0 hw hR
          go_enter Tryd.func51, Tryd.ntmps51
          go_upto_region 1 with fail
          try rw [hbv]
          go_wp2_with (first
            | (go_at_call 60; refine HM.mono ?_; rintro e w1 ⟨rfl, h1, t1, lV1⟩)
            | (go_at_call 61; refine (HH _ h1.rd).mono ?_; rintro e w2 ⟨rfl, hb2⟩; have h2 := (h1.below hb2).1; have t2 := t1.trans (h1.drop.below hb2).2; have lV2 := lV1.on hb2)
            | (go_at_call 62; refine (HD _).mono ?_; rintro e w3 ⟨rfl, hb3⟩; have h3 := (h2.below hb3).1; have t3 := t2.trans (h2.drop.below hb3).2; have lV3 := lV2.on hb3)
            | (go_at_call 65; refine (HR _ h3).mono ?_; rintro e w5 ⟨rfl, hb5⟩))
          refine ⟨rfl, ?_⟩
          unfold BegPost
          exact .inl ⟨er, HX.out, rfl, (hbel t3).trans hb5⟩
        | ok k r =>
          have HX := Lib.hid (HX.out.trans (by rw [hR]; rfl) : rdV (12 - ms.length) n (rest s p) = (Fr.mk true [] ([] ++ [k]) (rest s (p + 1)).length).after (11 - ms.length) (rdV (11 - ms.length) (n + 1) r))
          have HR := fun (w3 : World) (h3 : St w3 g (bv :: E) B s p (n + 1) vo ms) => row_key h3 true hlt hms hw rfl hR
          have HW := Lib.hid hw
          clear hrc hc0 hw hR
          go_enter Tryd.func51, Tryd.ntmps51
          go_upto_region 1 with fail
          try rw [hbv]
          go_wp2_with (first
            | (go_at_call 60; refine HM.mono ?_; rintro e w1 ⟨rfl, h1, t1, lV1⟩)
            | (go_at_call 61; refine (HH _ h1.rd).mono ?_; rintro e w2 ⟨rfl, hb2⟩; have h2 := (h1.below hb2).1; have t2 := t1.trans (h1.drop.below hb2).2; have lV2 := lV1.on hb2)
            | (go_at_call 62; refine (HD _).mono ?_; rintro e w3 ⟨rfl, hb3⟩; have h3 := (h2.below hb3).1; have t3 := t2.trans (h2.drop.below hb3).2; have lV3 := lV2.on hb3)
            | (go_at_call 65; refine (HR _ h3).mono ?_; rintro e w5 ⟨rfl, q, v5, vk, hrq, hpq, hq, h5, t5⟩; have lV4 := t5.lies h3.out lV3; replace t5 := t3.trans t5)
            | ((with_reducible refine wpL_store bv 25 valZ valZ 5 rowVal rfl rfl (valC_one _ _ _ _ _ _ _ _ _) lV4 ?_ ?_ ?_); rfl; rfl))
          obtain ⟨h7, t7, _⟩ := fin _ _ _ _ _ valZ h5 t5
          refine bodyPost_ret (results_row_tmp Tryd.results51 rowVal rfl (lV4.row _) rfl rfl) rfl ?_
          unfold BegPost
          exact .inr (.inr ⟨_, q, v5, by rw [HX.out, hrq]; rfl, rfl, by omega, hq, h7, t7⟩)
    have e123 : ((c0.toNat : Int) == 123) = false := by rw [beq_eq_false_iff_ne]; exact byte_ne h123
    have HX := Lib.hid (show rdV (12 - ms.length) n (rest s p) = .bad 20 by rw [hL, hrc]; exact begin_odd _ _ _ hn hnd h34 h91 h123)
    clear hrc hc0
    go_enter Tryd.func51, Tryd.ntmps51
    go_upto_region 1 with fail
    try rw [hbv]
    go_wp2_with (first
      | (go_at_call 60; refine HM.mono ?_; rintro e w1 ⟨rfl, h1, t1, lV1⟩)
      | (go_at_call 61; refine (HH _ h1.rd).mono ?_; rintro e w2 ⟨rfl, hb2⟩; have h2 := (h1.below hb2).1; have t2 := t1.trans (h1.drop.below hb2).2; have lV2 := lV1.on hb2)
      | (go_at_call 62; refine (HD _).mono ?_; rintro e w3 ⟨rfl, hb3⟩; have h3 := (h2.below hb3).1; have t3 := t2.trans (h2.drop.below hb3).2; have lV3 := lV2.on hb3))
    refine ⟨rfl, ?_⟩
    unfold BegPost
    exact .inl ⟨20, HX.out, rfl, hbel t3⟩
end Go.Proofs.YtnloimanklkigaaDoor.V
