/- A list, or values by keys, that ends behind its sign, or is opened. -/
import Derived.Test.YtnloimanklkigaaDoorYKey
namespace Go.Proofs.YtnloimanklkigaaDoor.V
set_option maxRecDepth 100000
open Go.RowKit Go.Sort Go.Joins

section
variable {w : World} {g B p n : Nat} {E : List Nat} {s : ByteArray} {vo : Value} {m : Fm} {ms : List Fm} (h : St w g E B s p n vo (m :: ms)) (hm : m.fr.map = true)
include h hm
theorem key_bad {er : Int} (hR : rdK m.fr.keys.getLast? (rest s p) = .bad er) : Calls Tryd.prog 68 #[.pointer (some ⟨g, 0, none⟩)] w fun e w' => e = errP er ∧ RowKit.Below g w w' := by
  refine (key_map w g E B s p n vo m ms h hm).mono ?_
  rintro e w' (⟨er', h1, h2, h3⟩ | ⟨k, q, v'', h1, _⟩)
  · rw [hR] at h1; cases h1; exact ⟨h2, h3⟩
  · rw [hR] at h1; cases h1
theorem key_good {k r : List UInt8} (hR : rdK m.fr.keys.getLast? (rest s p) = .ok k r) : Calls Tryd.prog 68 #[.pointer (some ⟨g, 0, none⟩)] w fun e w' => e = .returned (.tuple #[]) ∧ ∃ q v'', r = rest s q ∧ p < q ∧ q ≤ s.size ∧ St w' g E B s q n vo (⟨⟨m.fr.map, m.fr.items, m.fr.keys ++ [k], m.fr.f⟩, m.vi, v''⟩ :: ms) ∧
    Turn (live g [] vo (m :: ms)) (live g [] vo (⟨⟨m.fr.map, m.fr.items, m.fr.keys ++ [k], m.fr.f⟩, m.vi, v''⟩ :: ms)) w w' := by
  refine (key_map w g E B s p n vo m ms h hm).mono ?_
  rintro e w' (⟨er', h1, h2, h3⟩ | ⟨k', q, v'', h1, h2, h3, h4, h5, h6⟩)
  · rw [hR] at h1; cases h1
  · rw [hR] at h1; cases h1; exact ⟨h2, q, v'', rfl, h3, h4, h5, h6⟩
end
def endC (map : Bool) : UInt8 := if map then 125 else 93
theorem endOf_any (map : Bool) (w : World) : Calls Tryd.prog 69 #[.int .i64 (Fr.kind ⟨map, [], [], 0⟩)] w fun e w' => e = .returned (.int .u8 ((endC map).toNat : Int)) ∧ w' = w := by
  cases map with
  | true => exact endOf_map w
  | false => exact endOf_list w
def RowPost (w : World) (g : Nat) (E : List Nat) (B : Nat) (s : ByteArray) (p n : Nat) (vo : Value) (ms : List Fm) (map : Bool) (e : Ending) (w' : World) : Prop :=
  ((rest s (p + 1)).head? = some (endC map) ∧ e = .returned (.tuple #[.agg #[.int .i64 (Fr.kind ⟨map, [], [], 0⟩), .int .i64 0, .string ⟨#[]⟩, .slice none 0 0, .slice none 0 0], .bool true]) ∧ p + 2 ≤ s.size ∧ St w' g E B s (p + 2) n vo ms ∧ Turn (live g [] vo ms) (live g [] vo ms) w w') ∨
  ((rest s (p + 1)).head? ≠ some (endC map) ∧ map = false ∧ ∃ v'', e = .returned (.tuple #[.agg valZ, .bool false]) ∧ St w' g E B s (p + 1) n v'' (⟨⟨false, [], [], (rest s (p + 1)).length⟩, .slice none 0 0, .slice none 0 0⟩ :: ms) ∧ Turn (live g [] vo ms) (live g [] v'' (⟨⟨false, [], [], (rest s (p + 1)).length⟩, .slice none 0 0, .slice none 0 0⟩ :: ms)) w w') ∨
  ((rest s (p + 1)).head? ≠ some (endC map) ∧ map = true ∧ ∃ er, rdK none (rest s (p + 1)) = .bad er ∧ e = errP er ∧ RowKit.Below g w w') ∨
  ((rest s (p + 1)).head? ≠ some (endC map) ∧ map = true ∧ ∃ k q v'' vk, rdK none (rest s (p + 1)) = .ok k (rest s q) ∧ p + 1 < q ∧ q ≤ s.size ∧ e = .returned (.tuple #[.agg valZ, .bool false]) ∧ St w' g E B s q n v'' (⟨⟨true, [], [k], (rest s (p + 1)).length⟩, .slice none 0 0, vk⟩ :: ms) ∧
    Turn (live g [] vo ms) (live g [] v'' (⟨⟨true, [], [k], (rest s (p + 1)).length⟩, .slice none 0 0, vk⟩ :: ms)) w w')
set_option maxHeartbeats 12800000 in
theorem row_any (w : World) (g : Nat) (E : List Nat) (B : Nat) (s : ByteArray) (p n : Nat) (vo : Value) (ms : List Fm) (h : St w g E B s p n vo ms) (map : Bool) (hp : p < s.size) (hms : ms.length < 12) :
    Calls Tryd.prog 65 #[.pointer (some ⟨g, 0, none⟩), .int .i64 (Fr.kind ⟨map, [], [], 0⟩)] w fun e w' => RowPost w g E B s p n vo ms map e w' := by
  have HE := endOf_any map
  have HP := fun w1 E1 f h1 hf => push_any w1 g E1 B s (p + 1) n vo ms h1 map f hf hms
  have hkf : ∀ f, Fr.kind ⟨map, [], [], f⟩ = Fr.kind ⟨map, [], [], 0⟩ := fun _ => rfl
  simp only [hkf] at HP
  have hgw : g ≤ w.heap.size := Nat.le_of_lt h.rd.lt
  have hs := h.hs
  obtain ⟨kd, hkd⟩ : ∃ kd, Fr.kind ⟨map, [], [], 0⟩ = kd := ⟨_, rfl⟩
  have hba := (RowKit.Below.refl w.heap.size w).alloc (Nat.le_refl _) (.cells valZ 25)
  have lV := Lies.new w 25 valZ
  have h0 := (h.enter hba (Nat.le_refl _) lV.lt).1
  have t0 := (h.drop.below hba).2
  rw [hkd] at HE HP ⊢
  go_enter Tryd.func65, Tryd.ntmps65
  go_upto_region 1 with fail
  generalize World.alloc w _ = w0 at *
  obtain ⟨bv, hbv⟩ : ∃ b, w.heap.size = b := ⟨_, rfl⟩
  rw [hbv] at h0 lV ⊢
  have hgb : g ≠ bv := fun e => h0.out (by rw [← e]; simp [live])
  have c1 := rd_c1 h0.rd
  have f1 := h0.rd.frozen 1
  go_upto_region 2 with fail
  have hg1 := grown_set g (RowKit.Below.refl w0.heap.size w0) 1 (.int .i64 ((p : Int) + 1))
  have l1 := rd_at h0.rd (z := (p : Int) + 1) (p + 1) (by omega)
  have h1 := (h0.seek hg1 l1 (by omega) (by omega) h.hn).1
  have t1 := t0.trans (h0.drop.seek hg1 l1 (by omega) (by omega) h.hn).2
  have lV1 := lV.only hg1 (by intro e; injection e with e; exact hgb e.symm)
  generalize World.setCell _ _ _ = w1 at *
  clear h0 t0 lV c1 f1 hg1 l1 hba
  go_upto_region 3 with ((with_reducible refine wpL_store bv 25 valZ #[.int .i64 kd, .int .i64 0, .string ⟨#[]⟩, .slice none 0 0, .slice none 0 0] 5 rowVal rfl rfl (valC_one _ _ _ _ _ _ _ _ _) lV1 ?_ ?_ ?_); rfl; rfl)
  have lV2 := lV1.row #[.int .i64 kd, .int .i64 0, .string ⟨#[]⟩, .slice none 0 0, .slice none 0 0]
  have hg2 := grown_row (w := w1) bv #[.int .i64 kd, .int .i64 0, .string ⟨#[]⟩, .slice none 0 0, .slice none 0 0]
  have h2 := (h1.local hg2).1
  have t2 := t1.local hg2 (Nat.le_of_eq hbv)
  simp only [Act.put]
  generalize World.setRow _ _ _ = w2 at *
  clear h1 t1 lV1 hg2
  by_cases hw : (rest s (p + 1)).head? = some (endC map)
  · have hlt : p + 1 < s.size := by
      rcases Nat.lt_or_ge (p + 1) s.size with h' | h'
      · exact h'
      · exfalso
        obtain he : p + 1 = s.size := by omega
        rw [he, rest_none] at hw
        cases hw
    have hc : s[p + 1] = endC map := by
      rw [rest_cons hlt, List.head?_cons] at hw
      exact Option.some.inj hw
    have HS := skip_yes w2 g s (p + 1) n vo (endC map) h2.rd hs hlt hc
    go_wp2_with (first
      | (go_at_call 69; refine (HE _).mono ?_; rintro e w3 ⟨rfl, hw3⟩; subst hw3)
      | (go_at_call 76; refine HS.mono ?_; rintro e w4 ⟨rfl, hl4, hg4⟩; have lV4 := lV2.only hg4 (by intro e; injection e with e; exact hgb e.symm))
      | ((with_reducible refine wpL_load bv 25 _ 5 rowVal rfl lV4 ?_ ?_); rfl)
      | ((with_reducible refine wpL_store bv 25 #[.int .i64 kd, .int .i64 0, .string ⟨#[]⟩, .slice none 0 0, .slice none 0 0] #[.int .i64 kd, .int .i64 0, .string ⟨#[]⟩, .slice none 0 0, .slice none 0 0] 5 rowVal rfl rfl (valC_one _ _ _ _ _ _ _ _ _) lV4 ?_ ?_ ?_); rfl; rfl))
    have h4 := (h2.seek hg4 hl4 (by omega) (by omega) h.hn).1
    have t4 := t2.trans (h2.drop.seek hg4 hl4 (by omega) (by omega) h.hn).2
    have h5 := (h4.local (grown_row bv #[.int .i64 kd, .int .i64 0, .string ⟨#[]⟩, .slice none 0 0, .slice none 0 0])).1.leave.1
    have t5 := t4.local (grown_row bv #[.int .i64 kd, .int .i64 0, .string ⟨#[]⟩, .slice none 0 0, .slice none 0 0]) (Nat.le_of_eq hbv)
    refine bodyPost_ret (results_row_tmp Tryd.results65 rowVal rfl (lV4.row _) rfl rfl) rfl ?_
    unfold RowPost
    exact .inl ⟨hw, by rw [hkd]; rfl, by omega, h5, t5⟩
  · have HS := skip_no w2 g s (p + 1) n vo (endC map) h2.rd (by omega) hw
    have HW := Lib.hid hw
    clear hw
    go_upto_region 5 with (first
      | (go_at_call 69; refine (HE _).mono ?_; rintro e w3 ⟨rfl, hw3⟩; subst hw3)
      | (go_at_call 76; refine HS.mono ?_; rintro e w4 ⟨rfl, hb4⟩; have h3 := (h2.below hb4).1; have t3 := t2.trans (h2.drop.below hb4).2; have lV3 := lV2.on hb4))
    refine wp_held_any (S := fun w => Lies w bv 25 #[.int .i64 kd, .int .i64 0, .string ⟨#[]⟩, .slice none 0 0, .slice none 0 0]) 5 rfl (by kernel_rfl) ?_
    have hdr : RowKit.Below w4.heap.size w4 { w4 with drawn := w4.drawn + 1 } := (RowKit.Below.refl _ _).drew
    have h4 := (h3.below hdr).1
    have t4 := t3.trans (h3.drop.below hdr).2
    have lV4 := lV3.on hdr
    clear hdr
    generalize ({ w4 with drawn := w4.drawn + 1 } : World) = wd at *
    refine held_put 0 20 (.pointer (some ⟨g, 0, none⟩)) rfl rfl (by kernel_rfl) (by kernel_rfl) (by kernel_rfl) (by kernel_rfl) (fun w hS => rfl) lV4 ?_
    simp only [List.setIfInBounds_toArray, List.set_cons_succ, List.set_cons_zero]
    refine held_put 1 21 (.pointer (some ⟨g, 0, none⟩)) rfl rfl (by kernel_rfl) (by kernel_rfl) (by kernel_rfl) (by kernel_rfl) (fun w hS => rfl) lV4 ?_
    simp only [List.setIfInBounds_toArray, List.set_cons_succ, List.set_cons_zero]
    refine held_put 2 22 (.pointer (some ⟨g, 3, none⟩)) rfl rfl (by kernel_rfl) (by kernel_rfl) (by kernel_rfl) (by kernel_rfl) (fun w hS => rfl) lV4 ?_
    simp only [List.setIfInBounds_toArray, List.set_cons_succ, List.set_cons_zero]
    refine held_put 3 23 (.agg #[.int .i64 kd, .int .i64 0, .string ⟨#[]⟩, .slice none 0 0, .slice none 0 0]) rfl rfl (by kernel_rfl) (by kernel_rfl) (by kernel_rfl) (by kernel_rfl) (fun w hS => run_ldV bv _ _ rfl hS rfl) lV4 ?_
    simp only [List.setIfInBounds_toArray, List.set_cons_succ, List.set_cons_zero]
    refine held_one 4 (by kernel_rfl) (wpOp_call 24 rfl rfl (by kernel_rfl) (by kernel_rfl) ((HP wd (bv :: E) (rest s (p + 1)).length h4 (by rw [rest_len]; exact Nat.le_refl _)).mono ?_))
    rintro e w5 ⟨rfl, v5, h5, t5⟩
    have lV5 := t5.lies h4.out lV4
    have t6 := t4.trans t5
    refine ⟨_, rfl, lV5, ?_⟩
    simp only [List.setIfInBounds_toArray, List.set_cons_succ, List.set_cons_zero]
    refine held_done (by kernel_rfl) ?_
    simp only [Exit.then]
    cases map with
    | false =>
      have HK := key_list w5 g (bv :: E) B s (p + 1) n v5 _ ms h5 rfl
      go_wp2_with (first
        | (go_at_call 68; refine HK.mono ?_; rintro e w6 ⟨rfl, hb6⟩; have h7 := (h5.below hb6).1; have t7 := t6.trans (h5.drop.below hb6).2; have lV7 := lV5.on hb6)
        | ((with_reducible refine wpL_store bv 25 #[.int .i64 kd, .int .i64 0, .string ⟨#[]⟩, .slice none 0 0, .slice none 0 0] valZ 5 rowVal rfl rfl (valC_one _ _ _ _ _ _ _ _ _) lV7 ?_ ?_ ?_); rfl; rfl))
      refine bodyPost_ret (results_row_tmp Tryd.results65 rowVal rfl (lV7.row _) rfl rfl) rfl ?_
      unfold RowPost
      exact .inr (.inl ⟨HW.out, rfl, v5, rfl, (h7.local (grown_row bv valZ)).1.leave.1, t7.local (grown_row bv valZ) (Nat.le_of_eq hbv)⟩)
    | true =>
      cases hR : rdK none (rest s (p + 1)) with
      | bad er =>
        have HK := key_bad h5 rfl (er := er) hR
        have HR := Lib.hid hR
        clear hR
        go_wp2_with (go_at_call 68; refine HK.mono ?_; rintro e w6 ⟨rfl, hb6⟩)
        refine ⟨rfl, ?_⟩
        unfold RowPost
        exact .inr (.inr (.inl ⟨HW.out, rfl, er, HR.out, rfl, (t6.below (fun k hk => (h.core_lt k hk).1) hgw).trans hb6⟩))
      | ok k r =>
        have HK := key_good h5 rfl (k := k) (r := r) hR
        have HR := Lib.hid hR
        clear hR
        go_wp2_with (first
          | (go_at_call 68; refine HK.mono ?_; rintro e w6 ⟨rfl, q, vk, hrq, hpq, hq, h7, t7⟩; have lV7 := t7.lies h5.out lV5; replace t7 := t6.trans t7)
          | ((with_reducible refine wpL_store bv 25 #[.int .i64 kd, .int .i64 0, .string ⟨#[]⟩, .slice none 0 0, .slice none 0 0] valZ 5 rowVal rfl rfl (valC_one _ _ _ _ _ _ _ _ _) lV7 ?_ ?_ ?_); rfl; rfl))
        refine bodyPost_ret (results_row_tmp Tryd.results65 rowVal rfl (lV7.row _) rfl rfl) rfl ?_
        unfold RowPost
        exact .inr (.inr (.inr ⟨HW.out, rfl, k, q, v5, vk, by rw [HR.out, hrq], by omega, hq, rfl, (h7.local (grown_row bv valZ)).1.leave.1, t7.local (grown_row bv valZ) (Nat.le_of_eq hbv)⟩))
end Go.Proofs.YtnloimanklkigaaDoor.V
