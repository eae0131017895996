/- What stands ahead of an item: in a list nothing, else a key and its colon. -/
import Derived.Test.YtnloimanklkigaaDoorYPush
import Derived.Test.YtnloimanklkigaaDoorYNumber
import Derived.Test.YtnloimanklkigaaDoorVLess
import Derived.Deep.CutRange
import Derived.Deep.CutBlock
namespace Go.Proofs.YtnloimanklkigaaDoor.V
set_option maxRecDepth 100000
open Go.RowKit Go.Sort Go.Joins

section
variable {w : World} {g : Nat} {s : ByteArray} {p n : Nat} {vo : Value} (hl : Lies w g 77 (rdC s p n vo)) (hp : p < s.size) (hs : s.size ≤ 65536)
include hl hp hs
theorem quoted_bad {er : Int} (hR : rdT 0 (rest s (p + 1)) = .bad er) : Calls Tryd.prog 64 #[.pointer (some ⟨g, 0, none⟩)] w fun e w' => e = errP er ∧ w.grownBy w' (some g) := by
  refine (quoted_any w g s p n vo hl hp hs).mono ?_
  rintro e w' ⟨hg, ⟨er', h1, h2⟩ | ⟨k, q, h1, _⟩⟩
  · rw [hR] at h1; cases h1; exact ⟨h2, hg⟩
  · rw [hR] at h1; cases h1
theorem quoted_ok {k r : List UInt8} (hR : rdT 0 (rest s (p + 1)) = .ok k r) : Calls Tryd.prog 64 #[.pointer (some ⟨g, 0, none⟩)] w fun e w' => e = .returned (.string ⟨k.toArray⟩) ∧ ∃ q, r = rest s q ∧ p + 1 < q ∧ q ≤ s.size ∧ Lies w' g 77 (rdC s q n vo) ∧ w.grownBy w' (some g) := by
  refine (quoted_any w g s p n vo hl hp hs).mono ?_
  rintro e w' ⟨hg, ⟨er', h1, h2⟩ | ⟨k', q, h1, h2, h3, h4, h5⟩⟩
  · rw [hR] at h1; cases h1
  · rw [hR] at h1; cases h1; exact ⟨h2, q, rfl, h3, h4, h5, hg⟩
variable (her : ErrAt w) (hg : 3 < g)
include her hg
theorem number_bad {er : Int} (hR : rdN (rest s p) = .bad er) : Calls Tryd.prog 63 #[.pointer (some ⟨g, 0, none⟩)] w fun e w' => e = errP er ∧ w.grownBy w' (some g) := by
  refine (number_ok w g s p n vo hl hp hs her hg).mono ?_
  rintro e w' ⟨hg, ⟨er', h1, h2⟩ | ⟨k, q, h1, _⟩⟩
  · rw [hR] at h1; cases h1; exact ⟨h2, hg⟩
  · rw [hR] at h1; cases h1
theorem number_good {z : Int} {r : List UInt8} (hR : rdN (rest s p) = .ok z r) : Calls Tryd.prog 63 #[.pointer (some ⟨g, 0, none⟩)] w fun e w' => e = .returned (.int .i64 z) ∧ ∃ q, r = rest s q ∧ p < q ∧ q ≤ s.size ∧ Lies w' g 77 (rdC s q n vo) ∧ w.grownBy w' (some g) := by
  refine (number_ok w g s p n vo hl hp hs her hg).mono ?_
  rintro e w' ⟨hg, ⟨er', h1, h2⟩ | ⟨k', q, h1, h2, h3, h4, h5⟩⟩
  · rw [hR] at h1; cases h1
  · rw [hR] at h1; cases h1; exact ⟨h2, q, rfl, h3, h4, h5, hg⟩
end
/-- the colon behind a key -/
def colon (k : List UInt8) : List UInt8 → Rd (List UInt8)
  | [] => .bad 3
  | c :: s => if c ≠ 58 then .bad 20 else .ok k s
theorem rdK_key {prev : Option (List UInt8)} {k r x : List UInt8} (h : rdT 0 x = .ok k r) : rdK prev (34 :: x) = if prev.any (fun p => !lessL p k) = true then .bad 23 else colon k r := by
  rw [rdK, if_neg (by decide), h]
  cases r <;> rfl
theorem below_grown {w w' : World} {g : Nat} (h : w.grownBy w' (some g)) (hg : g ≤ w.heap.size) : RowKit.Below g w w' := ⟨h.os, h.tape, h.output, h.size, fun k hk => h.block k (by omega) (fun e => by injection e; omega)⟩
set_option maxHeartbeats 1600000 in
theorem key_list (w : World) (g : Nat) (E : List Nat) (B : Nat) (s : ByteArray) (p n : Nat) (vo : Value) (m : Fm) (ms : List Fm) (h : St w g E B s p n vo (m :: ms)) (hm : m.fr.map = false) :
    Calls Tryd.prog 68 #[.pointer (some ⟨g, 0, none⟩)] w fun e w' => e = .returned (.tuple #[]) ∧ RowKit.Below w.heap.size w w' := by
  obtain ⟨sb, cap, hvo, hcap, hr, ⟨C, hC⟩, hne⟩ := below_top h
  have hms := h.hms
  rw [List.length_cons] at hms
  have hkd : m.fr.kind = 3 := by unfold Fr.kind; rw [hm]; rfl
  have c3 := rd_c3 h.rd
  rw [hvo] at c3
  have q0 := hr 0 (.int .i64 3) (by unfold Fm.cells; rw [hkd]; rfl)
  rw [Nat.add_zero] at q0
  go_enter Tryd.func68, Tryd.ntmps68
  go_wp2_with (go_at_call 66; refine (top_any _ g sb ms.length cap c3 (by omega)).mono ?_; rintro e w2 ⟨rfl, hb2⟩; replace q0 := (hb2.cell (p := ⟨sb, ms.length * 5, none⟩) (World.block_lt_of_cell? w _ q0)).trans q0)
  first | go_end0 | refine bodyPost_ret (results_none rfl _ _ _) rfl ?_
  exact ⟨rfl, hb2⟩
/-- what a key comes to -/
def KeyPost (w : World) (g : Nat) (E : List Nat) (B : Nat) (s : ByteArray) (p n : Nat) (vo : Value) (m : Fm) (ms : List Fm) (e : Ending) (w' : World) : Prop :=
  (∃ er, rdK m.fr.keys.getLast? (rest s p) = .bad er ∧ e = errP er ∧ RowKit.Below g w w') ∨
  (∃ k q v'', rdK m.fr.keys.getLast? (rest s p) = .ok k (rest s q) ∧ e = .returned (.tuple #[]) ∧ p < q ∧ q ≤ s.size ∧ St w' g E B s q n vo (⟨⟨m.fr.map, m.fr.items, m.fr.keys ++ [k], m.fr.f⟩, m.vi, v''⟩ :: ms) ∧
    Turn (live g [] vo (m :: ms)) (live g [] vo (⟨⟨m.fr.map, m.fr.items, m.fr.keys ++ [k], m.fr.f⟩, m.vi, v''⟩ :: ms)) w w')
set_option maxHeartbeats 12800000 in
theorem key_map (w : World) (g : Nat) (E : List Nat) (B : Nat) (s : ByteArray) (p n : Nat) (vo : Value) (m : Fm) (ms : List Fm) (h : St w g E B s p n vo (m :: ms)) (hm : m.fr.map = true) :
    Calls Tryd.prog 68 #[.pointer (some ⟨g, 0, none⟩)] w fun e w' => KeyPost w g E B s p n vo m ms e w' := by
  obtain ⟨sb, cap, hvo, hcap, hr, ⟨C, hC⟩, hne⟩ := below_top h
  have hms := h.hms
  rw [List.length_cons] at hms
  have hs := h.hs
  have hgw : g ≤ w.heap.size := Nat.le_of_lt h.rd.lt
  have hkd : m.fr.kind = 4 := by unfold Fr.kind; rw [hm]; rfl
  obtain ⟨ak, ck, hvk, _⟩ := (h.fm m (by simp)).keys.form
  rw [List.length_map] at hvk
  have c3 := rd_c3 h.rd
  rw [hvo] at c3
  have q0 := hr 0 (.int .i64 4) (by unfold Fm.cells; rw [hkd]; rfl)
  rw [Nat.add_zero] at q0
  have hcell0 : ∀ w2, RowKit.Below w.heap.size w w2 → w2.cell? ⟨sb, ms.length * 5, none⟩ = some (.int .i64 4) := fun w2 hb2 => (hb2.cell (p := ⟨sb, ms.length * 5, none⟩) (World.block_lt_of_cell? w _ q0)).trans q0
  by_cases hlt : p < s.size
  case neg =>
    obtain rfl : p = s.size := by have := h.hp; omega
    have HX := Lib.hid (show rdK m.fr.keys.getLast? (rest s s.size) = .bad 3 by rw [rest_none, rdK])
    go_enter Tryd.func68, Tryd.ntmps68
    go_wp2_with (first
      | (go_at_call 66; refine (top_any _ g sb ms.length cap c3 (by omega)).mono ?_; rintro e w2 ⟨rfl, hb2⟩; have q0 := hcell0 w2 hb2)
      | (go_at_call 61; refine (here_short _ g s n vo (h.rd.on hb2)).mono ?_; rintro e w3 ⟨rfl, hb3⟩))
    refine ⟨rfl, ?_⟩
    unfold KeyPost
    exact .inl ⟨3, HX.out, rfl, (hb2.trans (hb3.mono hb2.size)).mono hgw⟩
  obtain ⟨c, hc⟩ : ∃ c, s[p] = c := ⟨_, rfl⟩
  have hrc := rest_cons hlt
  rw [hc] at hrc
  have HH := fun w1 hl => here_ok w1 g s p n vo hl hlt
  rw [hc] at HH
  by_cases h34 : c = 34
  case neg =>
    have HX := Lib.hid (show rdK m.fr.keys.getLast? (rest s p) = .bad 20 by rw [hrc, rdK, if_pos h34])
    have e34 : ((c.toNat : Int) != 34) = true := by
      have := byte_ne h34
      simpa using this
    clear hrc hc
    go_enter Tryd.func68, Tryd.ntmps68
    go_wp2_with (first
      | (go_at_call 66; refine (top_any _ g sb ms.length cap c3 (by omega)).mono ?_; rintro e w2 ⟨rfl, hb2⟩; have q0 := hcell0 w2 hb2)
      | (go_at_call 61; refine (HH _ (h.rd.on hb2)).mono ?_; rintro e w3 ⟨rfl, hb3⟩))
    refine ⟨rfl, ?_⟩
    unfold KeyPost
    exact .inl ⟨20, HX.out, rfl, (hb2.trans (hb3.mono hb2.size)).mono hgw⟩
  subst h34
  have HH : ∀ w1, Lies w1 g 77 (rdC s p n vo) → Calls Tryd.prog 61 #[.pointer (some ⟨g, 0, none⟩)] w1 fun e w' => e = .returned (.int .u8 34) ∧ RowKit.Below w1.heap.size w1 w' := HH
  cases hR : rdT 0 (rest s (p + 1)) with
  | bad er =>
    have HX := Lib.hid (show rdK m.fr.keys.getLast? (rest s p) = .bad er by rw [hrc, rdK, if_neg (by decide), hR])
    clear hrc hc
    go_enter Tryd.func68, Tryd.ntmps68
    go_wp2_with (first
      | (go_at_call 66; refine (top_any _ g sb ms.length cap c3 (by omega)).mono ?_; rintro e w2 ⟨rfl, hb2⟩; have q0 := hcell0 w2 hb2)
      | (go_at_call 61; refine (HH _ (h.rd.on hb2)).mono ?_; rintro e w3 ⟨rfl, hb3⟩)
      | (go_at_call 64; refine (quoted_bad ((h.rd.on hb2).on hb3) hlt hs hR).mono ?_; rintro e w4 ⟨rfl, hb4⟩))
    refine ⟨rfl, ?_⟩
    unfold KeyPost
    exact .inl ⟨er, HX.out, rfl, ((hb2.trans (hb3.mono hb2.size)).mono hgw).trans (below_grown hb4 (Nat.le_trans hgw (Nat.le_trans hb2.size hb3.size)))⟩
  | ok k r =>
    have HQ := Lib.hid hR
    have HX : rdK m.fr.keys.getLast? (rest s p) = if m.fr.keys.getLast?.any (fun p => !lessL p k) = true then .bad 23 else colon k r := by rw [hrc, rdK_key hR]
    have HX := Lib.hid HX
    obtain ⟨_, _, hk4⟩ := rdT_ok _ _ (Nat.le_refl _) 0 k r (by decide) hR
    clear hrc hc hR
    go_enter Tryd.func68, Tryd.ntmps68
    go_upto_region 5 with (first
      | (go_at_call 66; refine (top_any _ g sb ms.length cap c3 (by omega)).mono ?_; rintro e w2 ⟨rfl, hb2⟩; have q0 := hcell0 w2 hb2)
      | (go_at_call 61; refine (HH _ (h.rd.on hb2)).mono ?_; rintro e w3 ⟨rfl, hb3⟩)
      | (go_at_call 64; refine (quoted_ok ((h.rd.on hb2).on hb3) hlt hs HQ.out).mono ?_; rintro e w4 ⟨rfl, q, hrq, hpq, hq, hl4, hb4⟩))
    have hg4 : w.grownBy w4 (some g) := grown_two (grown_of g (hb2.trans (hb3.mono hb2.size))) hb4
    have h4 := (h.seek hg4 hl4 (by omega) hq h.hn).1
    have ht4 := (h.drop.seek hg4 hl4 (by omega) hq h.hn).2
    subst hrq
    clear HQ hb2 hb3 hb4 HH c3 q0 hcell0
    obtain ⟨sb', cap', hvo', _, hr4, _, _⟩ := below_top h4
    rw [hvo] at hvo'
    obtain ⟨rfl, rfl⟩ := slice_inj hvo'
    have q4 := hr4 4 (.slice ak m.fr.keys.length ck) (by unfold Fm.cells; rw [hvk]; rfl)
    obtain ⟨bad, hbad⟩ : ∃ bad, m.fr.keys.getLast?.any (fun p => !lessL p k) = bad := ⟨_, rfl⟩
    rw [hbad] at HX
    have hko := (h4.fm m (by simp)).keys
    have hfew : m.fr.keys.length ≤ p := (h.fm m (by simp)).fewk
    have hnk : m.fr.keys.length ≤ 100000 := by omega
    rw [hvk] at hko
    have HX := Lib.hid HX
    obtain ⟨nk, hnke⟩ : ∃ nk, m.fr.keys.length = nk := ⟨_, rfl⟩
    rw [hnke] at q4 hnk hko hvk
    go_upto_region 6 with fail
    go_cut [38] from 25 to 38 (fun v wx => v = .bool bad ∧ wx = w4)
    case first =>
      clear HX
      rcases List.eq_nil_or_concat m.fr.keys with hke | ⟨ks, last, hke⟩
      · rw [hke] at hnke hbad
        obtain rfl : nk = 0 := hnke.symm
        obtain rfl : bad = false := by rw [← hbad]; rfl
        clear hke hnk hvk hbad hnke
        go_wp2
        go_meet
        exact ⟨rfl, rfl⟩
      · have hlen : nk = ks.length + 1 := by rw [← hnke, hke]; simp
        rw [hke, List.concat_eq_append, List.getLast?_concat] at hbad
        have hbad : (!lessL last k) = bad := hbad
        have hlast : (m.fr.keys.map fun k => [str k])[ks.length]? = some [str last] := by rw [hke]; simp
        obtain ⟨kb, off, rfl, hkr, _⟩ := hko.read.at hlast
        have k0 := hkr 0 _ rfl
        rw [Nat.mul_one, Nat.add_zero] at k0
        replace k0 : w4.cell? ⟨kb, off + ks.length, none⟩ = some (.string ⟨last.toArray⟩) := k0
        subst hlen
        have e1 : (0 : Int) < ((ks.length + 1 : Nat) : Int) := by omega
        cases bad with
        | true =>
          have hless : Op.bytesLess k last = true ∨ (k == last) = true := by
            rw [bytesLess_is]
            rcases less_three k last with ⟨h1, _, _⟩ | ⟨h1, _, _⟩ | ⟨_, _, h3⟩
            · exact .inl h1
            · exact .inr (by rw [h1]; simp)
            · rw [h3] at hbad; cases hbad
          clear hko hkr hlast hke hvk hbad hnke
          have hor : (Op.bytesLess k last || k == last) = true := by simpa using hless
          go_wp2
          all_goals
            go_meet
            exact ⟨rfl, rfl⟩
        | false =>
          have hless : Op.bytesLess k last = false ∧ (k == last) = false := by
            rw [bytesLess_is]
            rcases less_three k last with ⟨_, _, h3⟩ | ⟨h1, h2, h3⟩ | ⟨h1, h2, _⟩
            · rw [h3] at hbad; cases hbad
            · rw [h3] at hbad; cases hbad
            · exact ⟨h1, by rw [beq_eq_false_iff_ne]; exact h2⟩
          clear hko hkr hlast hke hvk hbad hnke
          have hor : (Op.bytesLess k last || k == last) = false := by simpa using hless
          go_wp2
          all_goals
            go_meet
            exact ⟨rfl, rfl⟩
    obtain ⟨rfl, rfl⟩ := hcut
    have hgs : g ≤ wc.heap.size := Nat.le_of_lt h4.rd.lt
    cases bad with
    | true =>
      go_wp2
      refine ⟨rfl, ?_⟩
      unfold KeyPost
      exact .inl ⟨23, by rw [HX.out]; simp, rfl, below_grown hg4 hgw⟩
    | false =>
      have HX := Lib.hid (HX.out.trans (if_neg (by decide)))
      by_cases hlt2 : q < s.size
      case neg =>
        obtain rfl : q = s.size := by omega
        have HX := Lib.hid (show rdK m.fr.keys.getLast? (rest s p) = .bad 3 by rw [HX.out, rest_none]; rfl)
        go_wp2_with (go_at_call 67; refine (take_short _ g s n vo hl4).mono ?_; rintro e w5 ⟨rfl, hb5⟩)
        refine ⟨rfl, ?_⟩
        unfold KeyPost
        exact .inl ⟨3, HX.out, rfl, (below_grown hg4 hgw).trans (hb5.mono hgs)⟩
      obtain ⟨c2, hc2⟩ : ∃ c, s[q] = c := ⟨_, rfl⟩
      have hrc2 := rest_cons hlt2
      rw [hc2] at hrc2
      have HT := take_ok wc g s q n vo hl4 hlt2 hs
      rw [hc2] at HT
      by_cases h58 : c2 = 58
      case neg =>
        have HX := Lib.hid (show rdK m.fr.keys.getLast? (rest s p) = .bad 20 by rw [HX.out, hrc2, colon, if_pos h58])
        have e58 : ((c2.toNat : Int) != 58) = true := by
          have := byte_ne h58
          simpa using this
        clear hrc2 hc2
        go_wp2_with (go_at_call 67; refine HT.mono ?_; rintro e w5 ⟨rfl, hl5, hb5⟩)
        refine ⟨rfl, ?_⟩
        unfold KeyPost
        exact .inl ⟨20, HX.out, rfl, below_grown (grown_two hg4 hb5) hgw⟩
      subst h58
      have HX := Lib.hid (show rdK m.fr.keys.getLast? (rest s p) = .ok k (rest s (q + 1)) by rw [HX.out, hrc2, colon, if_neg (by decide)])
      have HT : Calls Tryd.prog 67 #[.pointer (some ⟨g, 0, none⟩)] wc fun e w' => e = .returned (.int .u8 58) ∧ Lies w' g 77 (rdC s (q + 1) n vo) ∧ wc.grownBy w' (some g) := HT
      clear hrc2 hc2
      go_upto_region 10 with (go_at_call 67; refine HT.mono ?_; rintro e w5 ⟨rfl, hl5, hb5⟩)
      have h5 := (h4.seek hb5 hl5 (by omega) (by omega) h.hn).1
      have ht5 := (h4.drop.seek hb5 hl5 (by omega) (by omega) h.hn).2
      obtain ⟨_, _, e5, _, hr5, ⟨C5, hC5⟩, _⟩ := below_top h5
      rw [hvo] at e5
      obtain ⟨rfl, rfl⟩ := slice_inj e5
      have q5 := hr5 4 (.slice ak nk ck) (by unfold Fm.cells; rw [hvk]; rfl)
      have hfm5 := h5.fm m (by simp)
      have hko5 := hfm5.keys
      rw [hvk] at hko5
      have hcn : (m.fr.keys.map fun k => [str k]).length ≤ 100000 := by rw [List.length_map, hnke]; exact hnk
      have zb : RowKit.Below w5.heap.size w5 (w5.alloc (.cells #[.string ⟨k.toArray⟩] 9)) := (RowKit.Below.refl _ _).alloc (Nat.le_refl _) _
      have zA := Lies.new w5 9 #[.string ⟨k.toArray⟩]
      have hkoA := hko5.on zb
      have hBA := Nat.le_trans h5.Bw zb.size
      have hsbv : sb ∉ blks (.slice ak nk ck) := fun hx => by
        have := (h5.sepTop).2.1 sb (by rw [hvk]; exact hx)
        exact this (List.mem_cons_of_mem _ (by rw [hvo]; simp [blks, Value.ownBlock]))
      have hgz := World.grownBy_alloc w5 (.cells #[.string ⟨k.toArray⟩] 9) (Value.slice ak nk ck).ownBlock
      have hCA := hC5.alloc (.cells #[.string ⟨k.toArray⟩] 9)
      have qC : C5[ms.length * 5 + 4]? = some (.slice ak nk ck) := (hC5.cell _).symm.trans q5
      clear hr4 hr5 hr HT hb5 h4 hl4 q4 hko hg4
      go_wp2_with ((with_reducible refine wpL_putS B (.slice ak nk ck) (m.fr.keys.map fun k => [str k]) (.string ⟨k.toArray⟩) w5.heap.size hkoA rfl zA hcn hBA ?_ ?_ ?_); rfl; rfl; intro kb2 cap2 w7 hown7 hgr7 hloc7; have hC7 := hCA.only hgr7 (own_ne hsbv); have q7 := (hC7.cell (ms.length * 5 + 4)).trans qC; have f7 := hC7.frozen (ms.length * 5 + 4); have hw7 := grown_two hgz hgr7)
      first | go_end0 | refine bodyPost_ret (results_none rfl _ _ _) rfl ?_
      rw [List.length_map, hnke] at hown7
      have hloc := loc_of (n := nk + 1) (cap := cap2) hloc7 zb.size
      have PD := put_value (i := ms.length * 5 + 4) hw7 hloc hC5.lt hsbv hown7
      rw [← hvk] at PD
      have h6 := (h5.key (key := k) (by omega) hm hvo (by omega) PD).1
      have ht6 := (h5.drop.key (key := k) (by omega) hm hvo (by omega) PD).2
      unfold KeyPost
      exact .inr ⟨k, q + 1, _, HX.out, rfl, by omega, by omega, h6, (ht4.trans ht5).trans ht6⟩
end Go.Proofs.YtnloimanklkigaaDoor.V
