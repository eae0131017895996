/- Texts that stand on one another, put together: QDevF, QDevH, QDevC, QDevP, QProof. -/
import Derived.Test.YtpcckanhmdlahaaDoorK6
/- The contract of the developers' Follows. -/
namespace Go.Proofs.YtpcckanhmdlahaaDoor.Q
open Go.RowKit Go.Sort Go.Proofs.YtpcckanhmdlahaaDoor.U Go.Proofs.YtpcckanhmdlahaaDoor.R
set_option maxRecDepth 100000

theorem allB_two (x y : List UInt8) : allB [x, y] = (decide (x.length = 32) && decide (y.length = 32)) := by unfold allB; simp
set_option maxHeartbeats 1600000 in
theorem follows_any (w : World) (v : Value) (old root : List UInt8) (m n : Int) (ps : List (List UInt8)) (hm1 : -9223372036854775808 ≤ m) (hm2 : m ≤ 9223372036854775807) (hn1 : -9223372036854775808 ≤ n) (hn2 : n ≤ 9223372036854775807) (ho : old.length ≤ 100) (hr : root.length ≤ 100) (hs : Strs w v ps) (hx : ∀ x ∈ ps, x.length ≤ 100) (hT : Tab w) (hZ : Tz w) :
    Calls Tryd.prog 20 #[.int .i64 m, .int .i64 n, .string (bytesOf old), .string (bytesOf root), v] w fun e w' => e = .returned (.int .i64 (followsE m n old root ps)) ∧ Below w.heap.size w w' := by
  have hal := (Below.refl w.heap.size w).alloc (Nat.le_refl _) (.cells #[.string (bytesOf old), .string (bytesOf root)] 9)
  have h1 : Calls Tryd.prog 35 #[.slice (some ⟨w.heap.size, 0, none⟩) 2 2] (w.alloc (.cells #[.string (bytesOf old), .string (bytesOf root)] 9)) fun e w' => e = .returned (.bool (allB [old, root])) ∧ w.alloc (.cells #[.string (bytesOf old), .string (bytesOf root)] 9) = w' := areSums_any _ _ [old, root] (strs_new w [old, root] (show 2 ≤ 1000 by decide)) (by intro x hx; unfold maxLen; simp only [List.mem_cons, List.not_mem_nil, or_false] at hx; rcases hx with rfl | rfl <;> omega)
  have h2 := fun w1 (hB : Below w.heap.size w w1) => areSums_any w1 v ps (hs.below hB) (fun x h => Nat.le_trans (hx x h) (by unfold maxLen; omega))
  rw [allB_two] at h1
  obtain ⟨E, hE⟩ : ∃ E, followsE m n old root ps = E := ⟨_, rfl⟩
  rw [hE]
  have hbad : followsOkB m n old root ps = false → E = 1 := fun h => by rw [← hE]; unfold followsE; rw [h]; rfl
  have hok : followsOkB m n old root ps = (decide (0 ≤ m) && decide (m ≤ n) && decide (n ≤ 4096) && (decide (old.length = 32) && decide (root.length = 32)) && allB ps) := by unfold followsOkB; simp only [Bool.and_assoc]
  have h2' := h2 _ hal
  have H1 := Lib.hid h1
  have H2 := Lib.hid h2'
  have HS := Lib.hid hs
  have HT := Lib.hid (hT.below hal)
  have HZ := Lib.hid (hZ.below hal)
  have HSa := Lib.hid (hs.below hal)
  obtain ⟨va, vc, rfl, hv1, hv2, hv3, hv4⟩ := hs
  clear hv3 hv4 hx h1 h2 h2' hT hZ
  by_cases c1 : 0 ≤ m
  · by_cases c2 : m ≤ n
    · by_cases c3 : n ≤ 4096
      · cases c4 : (decide (old.length = 32) && decide (root.length = 32)) with
        | false =>
          have HE := Lib.hid (hbad (by rw [hok, c4]; simp))
          rw [c4] at H1
          clear hbad hok hE c4 ho hr
          go_enter Tryd.func20, Tryd.ntmps20
          go_wp2_with (first | (go_at_call 35; with_reducible refine H1.out.mono ?_; rintro e w1 ⟨rfl, rfl⟩))
          go_ret
          exact ⟨ret1_of (by rw [HE.out]; rfl), hal⟩
        | true =>
          cases c5 : allB ps with
          | false =>
            have HE := Lib.hid (hbad (by rw [hok, c5]; simp))
            rw [c4] at H1
            rw [c5] at H2
            clear hbad hok hE c4 c5 ho hr
            go_enter Tryd.func20, Tryd.ntmps20
            go_wp2_with (first | (go_at_call 35; with_reducible refine H1.out.mono ?_; rintro e w1 ⟨rfl, rfl⟩) | (go_at_call 35; with_reducible refine H2.out.mono ?_; rintro e w2 ⟨rfl, rfl⟩))
            go_ret
            exact ⟨ret1_of (by rw [HE.out]; rfl), hal⟩
          | true =>
            rw [c4] at H1
            rw [c5] at H2
            simp only [Bool.and_eq_true, decide_eq_true_eq] at c4
            obtain ⟨j, rfl⟩ : ∃ j : Nat, m = (j : Int) := ⟨m.toNat, by omega⟩
            obtain ⟨N, rfl⟩ : ∃ N : Nat, n = (N : Int) := ⟨n.toNat, by omega⟩
            have hF := follows_leads (m := j) (n := N) (old := old) (root := root) (ps := ps) (by omega) (by rw [hok, c5, decide_eq_true c1, decide_eq_true c2, decide_eq_true c3, decide_eq_true c4.1, decide_eq_true c4.2]; rfl)
            rw [hE] at hF
            have hLd := leads_any j N old root ps _ _ (by omega) (by omega) c4.1 (fun y hy => allB_mem c5 hy) HSa.out HT.out HZ.out
            cases hb : leadsB j N old root ps with
            | true =>
              rw [hb] at hF hLd
              have HE := Lib.hid hF
              have HL := Lib.hid hLd
              clear hbad hok hE c4 c5 ho hr hF hLd hb
              go_enter Tryd.func20, Tryd.ntmps20
              go_wp2_with (first | (go_at_call 35; with_reducible refine H1.out.mono ?_; rintro e w1 ⟨rfl, rfl⟩) | (go_at_call 35; with_reducible refine H2.out.mono ?_; rintro e w2 ⟨rfl, rfl⟩) | (go_at_call 38; refine HL.out.mono ?_; rintro e w3 ⟨rfl, hb3⟩))
              go_ret
              exact ⟨ret1_of (by rw [HE.out]; rfl), below_on hal hb3⟩
            | false =>
              rw [hb] at hF hLd
              have HE := Lib.hid hF
              have HL := Lib.hid hLd
              clear hbad hok hE c4 c5 ho hr hF hLd hb
              go_enter Tryd.func20, Tryd.ntmps20
              go_wp2_with (first | (go_at_call 35; with_reducible refine H1.out.mono ?_; rintro e w1 ⟨rfl, rfl⟩) | (go_at_call 35; with_reducible refine H2.out.mono ?_; rintro e w2 ⟨rfl, rfl⟩) | (go_at_call 38; refine HL.out.mono ?_; rintro e w3 ⟨rfl, hb3⟩))
              go_ret
              exact ⟨ret1_of (by rw [HE.out]; rfl), below_on hal hb3⟩
      · have HE := Lib.hid (hbad (by rw [hok, decide_eq_false c3]; simp))
        clear hbad hok hE ho hr
        go_enter Tryd.func20, Tryd.ntmps20
        go_wp2
        go_ret
        exact ⟨ret1_of (by rw [HE.out]; rfl), Below.refl _ _⟩
    · have HE := Lib.hid (hbad (by rw [hok, decide_eq_false c2]; simp))
      clear hbad hok hE ho hr
      go_enter Tryd.func20, Tryd.ntmps20
      go_wp2
      go_ret
      exact ⟨ret1_of (by rw [HE.out]; rfl), Below.refl _ _⟩
  · have HE := Lib.hid (hbad (by rw [hok, decide_eq_false c1]; simp))
    clear hbad hok hE ho hr
    go_enter Tryd.func20, Tryd.ntmps20
    go_wp2
    go_ret
    exact ⟨ret1_of (by rw [HE.out]; rfl), Below.refl _ _⟩
end Go.Proofs.YtpcckanhmdlahaaDoor.Q

/- The contract of the developers' Holds. -/
namespace Go.Proofs.YtpcckanhmdlahaaDoor.Q
open Go.RowKit Go.Sort Go.Proofs.YtpcckanhmdlahaaDoor.U Go.Proofs.YtpcckanhmdlahaaDoor.R
set_option maxRecDepth 100000

theorem way_mk {x : List UInt8} {i n : Nat} (ps : List (List UInt8)) (hi : i < n) : mkP nd x ps.reverse i n = if ps.length = (bits i (n - 1)).length then some (upR nd x (bits i (n - 1)) ps) else none := by
  rw [mkP_up nd _ _ _ _ hi, List.reverse_reverse, side_bits n i n (Nat.le_refl _) hi, mkUp_R]
theorem holds_way {x root : List UInt8} {i n : Nat} {ps : List (List UInt8)} (hi : i < n) (hok : holdsOkB x (i : Int) (n : Int) ps root = true) : holdsE x (i : Int) (n : Int) ps root = if ps.length = (bits i (n - 1)).length ∧ upR nd x (bits i (n - 1)) ps = root then 0 else 13 := by
  unfold holdsE
  rw [if_pos hok, Int.toNat_natCast, Int.toNat_natCast, way_mk ps hi]
  by_cases h : ps.length = (bits i (n - 1)).length
  · rw [if_pos h]
    by_cases h2 : upR nd x (bits i (n - 1)) ps = root
    · rw [if_pos (by rw [h2]), if_pos ⟨h, h2⟩]
    · rw [if_neg (fun e => h2 (Option.some.inj e)), if_neg (fun e => h2 e.2)]
  · rw [if_neg h, if_neg (fun e => by cases e), if_neg (fun e => h e.1)]

set_option maxHeartbeats 1600000 in
theorem holds_any (w : World) (v : Value) (x root : List UInt8) (i n : Int) (ps : List (List UInt8)) (hm1 : -9223372036854775808 ≤ i) (hm2 : i ≤ 9223372036854775807) (hn1 : -9223372036854775808 ≤ n) (hn2 : n ≤ 9223372036854775807) (ho : x.length ≤ 100) (hr : root.length ≤ 100) (hs : Strs w v ps) (hx : ∀ x ∈ ps, x.length ≤ 100) (hT : Tab w) :
    Calls Tryd.prog 17 #[.string (bytesOf x), .int .i64 i, .int .i64 n, v, .string (bytesOf root)] w fun e w' => e = .returned (.int .i64 (holdsE x i n ps root)) ∧ Below w.heap.size w w' := by
  have hal := (Below.refl w.heap.size w).alloc (Nat.le_refl _) (.cells #[.string (bytesOf x), .string (bytesOf root)] 9)
  have h0 := place_any i n w hm1 hm2 hn1 hn2
  have h1 : Calls Tryd.prog 35 #[.slice (some ⟨w.heap.size, 0, none⟩) 2 2] (w.alloc (.cells #[.string (bytesOf x), .string (bytesOf root)] 9)) fun e w' => e = .returned (.bool (allB [x, root])) ∧ w.alloc (.cells #[.string (bytesOf x), .string (bytesOf root)] 9) = w' := areSums_any _ _ [x, root] (strs_new w [x, root] (show 2 ≤ 1000 by decide)) (by intro y hy; unfold maxLen; simp only [List.mem_cons, List.not_mem_nil, or_false] at hy; rcases hy with rfl | rfl <;> omega)
  have h2 := areSums_any _ v ps (hs.below hal) (fun x h => Nat.le_trans (hx x h) (by unfold maxLen; omega))
  rw [allB_two] at h1
  obtain ⟨E, hE⟩ : ∃ E, holdsE x i n ps root = E := ⟨_, rfl⟩
  rw [hE]
  have hbad : holdsOkB x i n ps root = false → E = 1 := fun h => by rw [← hE]; unfold holdsE; rw [h]; rfl
  have hok : holdsOkB x i n ps root = ((decide (0 ≤ i) && decide (i < n) && decide (n ≤ 4096)) && (decide (x.length = 32) && decide (root.length = 32)) && allB ps) := by unfold holdsOkB; simp only [Bool.and_assoc]
  have H1 := Lib.hid h1
  have H2 := Lib.hid h2
  have HT := Lib.hid (hT.below hal)
  have HSa := Lib.hid (hs.below hal)
  obtain ⟨va, vc, rfl, hv1, hv2, hv3, hv4⟩ := hs
  clear hv3 hv4 hx h1 h2 hT
  cases c0 : (decide (0 ≤ i) && decide (i < n) && decide (n ≤ 4096)) with
  | false =>
    have HE := Lib.hid (hbad (by rw [hok, c0]; simp))
    rw [c0] at h0
    have H0 := Lib.hid h0
    clear hbad hok hE c0 ho hr h0
    go_enter Tryd.func17, Tryd.ntmps17
    go_wp2_with (first | (go_at_call 34; refine H0.out.mono ?_; rintro e w0 ⟨rfl, rfl⟩))
    go_ret
    exact ⟨ret1_of (by rw [HE.out]; rfl), Below.refl _ _⟩
  | true =>
    rw [c0] at h0
    have H0 := Lib.hid h0
    cases c4 : (decide (x.length = 32) && decide (root.length = 32)) with
    | false =>
      have HE := Lib.hid (hbad (by rw [hok, c4]; simp))
      rw [c4] at H1
      clear hbad hok hE c0 c4 ho hr h0
      go_enter Tryd.func17, Tryd.ntmps17
      go_wp2_with (first | (go_at_call 34; refine H0.out.mono ?_; rintro e w0 ⟨rfl, rfl⟩) | (go_at_call 35; with_reducible refine H1.out.mono ?_; rintro e w1 ⟨rfl, rfl⟩))
      go_ret
      exact ⟨ret1_of (by rw [HE.out]; rfl), hal⟩
    | true =>
      cases c5 : allB ps with
      | false =>
        have HE := Lib.hid (hbad (by rw [hok, c5]; simp))
        rw [c4] at H1
        rw [c5] at H2
        clear hbad hok hE c0 c4 c5 ho hr h0
        go_enter Tryd.func17, Tryd.ntmps17
        go_wp2_with (first | (go_at_call 34; refine H0.out.mono ?_; rintro e w0 ⟨rfl, rfl⟩) | (go_at_call 35; with_reducible refine H1.out.mono ?_; rintro e w1 ⟨rfl, rfl⟩) | (go_at_call 35; with_reducible refine H2.out.mono ?_; rintro e w2 ⟨rfl, rfl⟩))
        go_ret
        exact ⟨ret1_of (by rw [HE.out]; rfl), hal⟩
      | true =>
        rw [c4] at H1
        rw [c5] at H2
        have hokt : holdsOkB x i n ps root = true := by rw [hok, c0, c4, c5]; rfl
        simp only [Bool.and_eq_true, decide_eq_true_eq] at c0 c4
        obtain ⟨⟨c1, c2⟩, c3⟩ := c0
        obtain ⟨j, rfl⟩ : ∃ j : Nat, i = (j : Int) := ⟨i.toNat, by omega⟩
        obtain ⟨N, rfl⟩ : ∃ N : Nat, n = (N : Int) := ⟨n.toNat, by omega⟩
        have hF := holds_way (i := j) (n := N) (by omega) hokt
        rw [hE] at hF
        by_cases hl : ps.length = (bits j (N - 1)).length
        · have hC := climb_yes x j N ps _ _ (by omega) (by omega) c4.1 (fun y hy => allB_mem c5 hy) hl HSa.out HT.out
          generalize upR nd x (bits j (N - 1)) ps = R at *
          have hq := text_beq R root
          unfold wayA at hC
          have HC := Lib.hid hC
          by_cases he : R = root
          · rw [if_pos ⟨hl, he⟩] at hF
            rw [decide_eq_true he] at hq
            have HE := Lib.hid hF
            clear hbad hok hE c4 c5 ho hr hF hC hl he hokt h0
            go_enter Tryd.func17, Tryd.ntmps17
            go_wp2_with (first | (go_at_call 34; refine H0.out.mono ?_; rintro e w0 ⟨rfl, rfl⟩) | (go_at_call 35; with_reducible refine H1.out.mono ?_; rintro e w1 ⟨rfl, rfl⟩) | (go_at_call 35; with_reducible refine H2.out.mono ?_; rintro e w2 ⟨rfl, rfl⟩) | (go_at_call 36; refine HC.out.mono ?_; rintro e w3 ⟨a3, c3, rfl, hs3, hb3⟩; have hB3 := below_on hal hb3))
            go_ret
            exact ⟨ret1_of (by rw [HE.out]; rfl), hB3.alloc hB3.size _⟩
          · rw [if_neg (fun h => he h.2)] at hF
            rw [decide_eq_false he] at hq
            have HE := Lib.hid hF
            clear hbad hok hE c4 c5 ho hr hF hC hl he hokt h0
            go_enter Tryd.func17, Tryd.ntmps17
            go_wp2_with (first | (go_at_call 34; refine H0.out.mono ?_; rintro e w0 ⟨rfl, rfl⟩) | (go_at_call 35; with_reducible refine H1.out.mono ?_; rintro e w1 ⟨rfl, rfl⟩) | (go_at_call 35; with_reducible refine H2.out.mono ?_; rintro e w2 ⟨rfl, rfl⟩) | (go_at_call 36; refine HC.out.mono ?_; rintro e w3 ⟨a3, c3, rfl, hs3, hb3⟩; have hB3 := below_on hal hb3))
            go_ret
            exact ⟨ret1_of (by rw [HE.out]; rfl), hB3.alloc hB3.size _⟩
        · have hC := climb_no x j N ps _ _ (by omega) (by omega) hl HSa.out
          unfold wayA at hC
          rw [if_neg (fun h => hl h.1)] at hF
          have HC := Lib.hid hC
          have HE := Lib.hid hF
          clear hbad hok hE c4 c5 ho hr hF hC hl hokt h0
          go_enter Tryd.func17, Tryd.ntmps17
          go_wp2_with (first | (go_at_call 34; refine H0.out.mono ?_; rintro e w0 ⟨rfl, rfl⟩) | (go_at_call 35; with_reducible refine H1.out.mono ?_; rintro e w1 ⟨rfl, rfl⟩) | (go_at_call 35; with_reducible refine H2.out.mono ?_; rintro e w2 ⟨rfl, rfl⟩) | (go_at_call 36; refine HC.out.mono ?_; rintro e w3 ⟨rfl, hb3⟩; have hB3 := below_on hal hb3))
          go_ret
          exact ⟨ret1_of (by rw [HE.out]; rfl), hB3.alloc hB3.size _⟩
end Go.Proofs.YtpcckanhmdlahaaDoor.Q

/- The contract of the developers' Clash. -/
namespace Go.Proofs.YtpcckanhmdlahaaDoor.Q
open Go.RowKit Go.Sort Go.Proofs.YtpcckanhmdlahaaDoor.U Go.Proofs.YtpcckanhmdlahaaDoor.R
set_option maxRecDepth 100000

def cO (i n : Nat) (ps : List (List UInt8)) : Bool := decide (ps.length = (bits i (n - 1)).length)
def cR (x : List UInt8) (i n : Nat) (ps : List (List UInt8)) : List UInt8 := if cO i n ps = true then upR nd x (bits i (n - 1)) ps else []
def cM (x : List UInt8) (i n : Nat) (ps : List (List UInt8)) : List (List UInt8) := (upT nd x (bits i (n - 1)) ps).map txt
theorem climb_gen (x : List UInt8) (i n : Nat) (ps : List (List UInt8)) (w0 : World) (v : Value) (hi : i < n) (hn : n ≤ 4096) (hx : x.length = 32) (hp : ∀ y ∈ ps, y.length = 32) (hs : Strs w0 v ps) (hT : Tab w0) :
    Calls Tryd.prog 36 #[.string (bytesOf x), .int .i64 (i : Int), .int .i64 (n : Int), v] w0 fun e w' => ∃ sa sn sc, e = .returned (.tuple #[.agg #[.slice sa sn sc, .string (bytesOf (cR x i n ps))], .bool (cO i n ps)]) ∧ (cO i n ps = true → Strs w' (.slice sa sn sc) (cM x i n ps)) ∧ Below w0.heap.size w0 w' := by
  by_cases h : ps.length = (bits i (n - 1)).length
  · have hO : cO i n ps = true := decide_eq_true h
    refine (climb_yes x i n ps w0 v hi hn hx hp h hs hT).mono ?_
    rintro e w' ⟨a, c, rfl, hs', hb⟩
    refine ⟨a, ps.length, c, ?_, fun _ => hs', hb⟩
    unfold cR
    rw [if_pos hO, hO]
    rfl
  · have hO : cO i n ps = false := decide_eq_false h
    refine (climb_no x i n ps w0 v hi hn h hs).mono ?_
    rintro e w' ⟨rfl, hb⟩
    refine ⟨none, 0, 0, ?_, fun e => ?_, hb⟩
    · unfold cR
      rw [hO]
      rfl
    · rw [hO] at e; cases e
theorem mk_some {x : List UInt8} {i n : Nat} {ps : List (List UInt8)} (hi : i < n) (h : cO i n ps = true) : mkP nd x ps.reverse i n = some (cR x i n ps) := by
  unfold cR
  rw [if_pos h, way_mk ps hi, if_pos (of_decide_eq_true h)]
theorem mk_none {x : List UInt8} {i n : Nat} {ps : List (List UInt8)} (hi : i < n) (h : cO i n ps = false) : mkP nd x ps.reverse i n = none := by
  rw [way_mk ps hi, if_neg (of_decide_eq_false h)]
theorem cM_rev {x : List UInt8} {i n : Nat} {ps : List (List UInt8)} (hi : i < n) (h : cO i n ps = true) : (cM x i n ps).reverse = (prs nd x ps.reverse i n).map txt := by
  have h1 := prs_up nd ps.reverse x _ i n hi (mk_some (x := x) hi h)
  rw [List.reverse_reverse, side_bits n i n (Nat.le_refl _) hi] at h1
  unfold cM
  rw [← h1, List.map_reverse, List.reverse_reverse]
theorem cM_length {x : List UInt8} {i n : Nat} {ps : List (List UInt8)} (h : cO i n ps = true) : (cM x i n ps).length = (bits i (n - 1)).length := by
  unfold cM
  rw [List.length_map, upT_length nd _ _ _ (of_decide_eq_true h)]
theorem bits_le (i n : Nat) (hi : i < n) (hn : n ≤ 4096) : (bits i (n - 1)).length ≤ 1000 := by
  rw [← prt_sides (n - 1) i (n - 1) 0 n (Nat.le_refl _) (by omega), List.length_map]
  have := prt_length 12 i (n - 1) 0 n (by omega)
  omega
theorem firstDiff_txt : ∀ (us vs : List (List UInt8 × List UInt8)), (∀ u ∈ us, u.1.length = 32) → (∀ u ∈ vs, u.1.length = 32) → firstDiff (us.map txt) (vs.map txt) = (firstDiff us vs).map (fun p => (txt p.1, txt p.2)) := by
  intro us
  induction us with
  | nil => intro vs _ _; cases vs <;> rfl
  | cons u us ih =>
    intro vs h1 h2
    cases vs with
    | nil => rfl
    | cons v vs =>
      show (if txt u = txt v then firstDiff (us.map txt) (vs.map txt) else some (txt u, txt v)) = Option.map _ (if u = v then firstDiff us vs else some (u, v))
      by_cases h : u = v
      · rw [if_pos h, if_pos (by rw [h]), ih vs (fun x hx => h1 x (by simp [hx])) (fun x hx => h2 x (by simp [hx]))]
      · rw [if_neg h, if_neg (fun e => h (txt_inj (by rw [h1 u (by simp), h2 v (by simp)]) e))]
        rfl
theorem unlikeR_map (o : Option ((List UInt8 × List UInt8) × (List UInt8 × List UInt8))) : unlikeR (o.map (fun p => (txt p.1, txt p.2))) = (match o with | some (u, v) => (txt u, txt v, 0) | none => ([], [], 37)) := by
  cases o with
  | none => rfl
  | some p => obtain ⟨u, v⟩ := p; rfl
theorem clash_unlike {a b : List UInt8} {i n : Nat} {ps qs : List (List UInt8)} (hi : i < n) (ha : a.length = 32) (hb : b.length = 32) (hp : ∀ y ∈ ps, y.length = 32) (hq : ∀ y ∈ qs, y.length = 32) (hok : clashOkB a b (i : Int) (n : Int) ps qs = true) (hab : a ≠ b) (h1 : cO i n ps = true) (h2 : cO i n qs = true) (hr : cR a i n ps = cR b i n qs) :
    clashR a b (i : Int) (n : Int) ps qs = unlikeR (firstDiff (cM a i n ps).reverse (cM b i n qs).reverse) := by
  have e1 := mk_some (x := a) hi h1
  have e2 := mk_some (x := b) hi h2
  have hB : clashB a b (i : Int) (n : Int) ps qs = true := by
    unfold clashB
    rw [Int.toNat_natCast, Int.toNat_natCast, e1, e2, hr]
    simp [hab]
  rw [cM_rev hi h1, cM_rev hi h2, firstDiff_txt _ _ (fun u hu => (prs_32 _ _ _ _ ha (fun y hy => hp y (List.mem_reverse.1 hy)) u hu).1) (fun u hu => (prs_32 _ _ _ _ hb (fun y hy => hq y (List.mem_reverse.1 hy)) u hu).1), unlikeR_map]
  unfold clashR clashD
  rw [if_pos hok, if_pos hB, Int.toNat_natCast, Int.toNat_natCast]
  cases firstDiff (prs nd a ps.reverse i n) (prs nd b qs.reverse i n) <;> rfl

set_option maxHeartbeats 3200000 in
theorem clash_any (w : World) (v u : Value) (a b : List UInt8) (i n : Int) (ps qs : List (List UInt8)) (hm1 : -9223372036854775808 ≤ i) (hm2 : i ≤ 9223372036854775807) (hn1 : -9223372036854775808 ≤ n) (hn2 : n ≤ 9223372036854775807) (ha : a.length ≤ 100) (hb : b.length ≤ 100) (hs : Strs w v ps) (hx : ∀ x ∈ ps, x.length ≤ 100) (ht : Strs w u qs) (hy : ∀ x ∈ qs, x.length ≤ 100) (hT : Tab w) :
    Calls Tryd.prog 25 #[.string (bytesOf a), .string (bytesOf b), .int .i64 i, .int .i64 n, v, u] w fun e w' => e = .returned (.tuple #[.string (bytesOf (clashR a b i n ps qs).1), .string (bytesOf (clashR a b i n ps qs).2.1), .int .i64 (clashR a b i n ps qs).2.2]) ∧ Below w.heap.size w w' := by
  have hal := (Below.refl w.heap.size w).alloc (Nat.le_refl _) (.cells #[.string (bytesOf a), .string (bytesOf b)] 9)
  have h0 := place_any i n w hm1 hm2 hn1 hn2
  have h1 : Calls Tryd.prog 35 #[.slice (some ⟨w.heap.size, 0, none⟩) 2 2] (w.alloc (.cells #[.string (bytesOf a), .string (bytesOf b)] 9)) fun e w' => e = .returned (.bool (allB [a, b])) ∧ w.alloc (.cells #[.string (bytesOf a), .string (bytesOf b)] 9) = w' := areSums_any _ _ [a, b] (strs_new w [a, b] (show 2 ≤ 1000 by decide)) (by intro y hy; unfold maxLen; simp only [List.mem_cons, List.not_mem_nil, or_false] at hy; rcases hy with rfl | rfl <;> omega)
  have h2 := areSums_any _ v ps (hs.below hal) (fun x h => Nat.le_trans (hx x h) (by unfold maxLen; omega))
  have h3 := areSums_any _ u qs (ht.below hal) (fun x h => Nat.le_trans (hy x h) (by unfold maxLen; omega))
  rw [allB_two] at h1
  obtain ⟨E, hE⟩ : ∃ E, clashR a b i n ps qs = E := ⟨_, rfl⟩
  rw [hE]
  have hbad : clashOkB a b i n ps qs = false → E = ([], [], 1) := fun h => by rw [← hE]; exact clashR_no h
  have hok : clashOkB a b i n ps qs = ((decide (0 ≤ i) && decide (i < n) && decide (n ≤ 4096)) && (decide (a.length = 32) && decide (b.length = 32)) && allB ps && allB qs) := by unfold clashOkB; simp only [Bool.and_assoc]
  have H1 := Lib.hid h1
  have H2 := Lib.hid h2
  have H3 := Lib.hid h3
  have HT := Lib.hid (hT.below hal)
  have HSa := Lib.hid (hs.below hal)
  have HTa := Lib.hid (ht.below hal)
  obtain ⟨va, vc, rfl, hv1, hv2, hv3, hv4⟩ := hs
  obtain ⟨ua, uc, rfl, hu1, hu2, hu3, hu4⟩ := ht
  clear hv3 hv4 hu3 hu4 hx hy h1 h2 h3 hT
  cases c0 : (decide (0 ≤ i) && decide (i < n) && decide (n ≤ 4096)) with
  | false =>
    have HE := Lib.hid (hbad (by rw [hok, c0]; simp))
    rw [c0] at h0
    have H0 := Lib.hid h0
    clear hbad hok hE c0 ha hb h0
    go_enter Tryd.func25, Tryd.ntmps25
    go_wp2_with (first | (go_at_call 34; refine H0.out.mono ?_; rintro e w0 ⟨rfl, rfl⟩))
    go_ret3
    exact ⟨by rw [HE.out]; rfl, Below.refl _ _⟩
  | true =>
    rw [c0] at h0
    have H0 := Lib.hid h0
    cases c4 : (decide (a.length = 32) && decide (b.length = 32)) with
    | false =>
      have HE := Lib.hid (hbad (by rw [hok, c4]; simp))
      rw [c4] at H1
      clear hbad hok hE c0 c4 ha hb h0
      go_enter Tryd.func25, Tryd.ntmps25
      go_wp2_with (first | (go_at_call 34; refine H0.out.mono ?_; rintro e w0 ⟨rfl, rfl⟩) | (go_at_call 35; with_reducible refine H1.out.mono ?_; rintro e w1 ⟨rfl, rfl⟩))
      go_ret3
      exact ⟨by rw [HE.out]; rfl, hal⟩
    | true =>
      rw [c4] at H1
      cases c5 : allB ps with
      | false =>
        have HE := Lib.hid (hbad (by rw [hok, c5]; simp))
        rw [c5] at H2
        clear hbad hok hE c0 c4 c5 ha hb h0
        go_enter Tryd.func25, Tryd.ntmps25
        go_wp2_with (first | (go_at_call 34; refine H0.out.mono ?_; rintro e w0 ⟨rfl, rfl⟩) | (go_at_call 35; with_reducible refine H1.out.mono ?_; rintro e w1 ⟨rfl, rfl⟩) | (go_at_call 35; with_reducible refine H2.out.mono ?_; rintro e w1 ⟨rfl, rfl⟩))
        go_ret3
        exact ⟨by rw [HE.out]; rfl, hal⟩
      | true =>
        rw [c5] at H2
        cases c6 : allB qs with
        | false =>
          have HE := Lib.hid (hbad (by rw [hok, c6]; simp))
          rw [c6] at H3
          clear hbad hok hE c0 c4 c5 c6 ha hb h0
          go_enter Tryd.func25, Tryd.ntmps25
          go_wp2_with (first | (go_at_call 34; refine H0.out.mono ?_; rintro e w0 ⟨rfl, rfl⟩) | (go_at_call 35; with_reducible refine H1.out.mono ?_; rintro e w1 ⟨rfl, rfl⟩) | (go_at_call 35; with_reducible refine H2.out.mono ?_; rintro e w1 ⟨rfl, rfl⟩) | (go_at_call 35; with_reducible refine H3.out.mono ?_; rintro e w1 ⟨rfl, rfl⟩))
          go_ret3
          exact ⟨by rw [HE.out]; rfl, hal⟩
        | true =>
          rw [c6] at H3
          have hokt : clashOkB a b i n ps qs = true := by rw [hok, c0, c4, c5, c6]; rfl
          simp only [Bool.and_eq_true, decide_eq_true_eq] at c0 c4
          obtain ⟨⟨c1, c2⟩, c3⟩ := c0
          obtain ⟨j, rfl⟩ : ∃ j : Nat, i = (j : Int) := ⟨i.toNat, by omega⟩
          obtain ⟨N, rfl⟩ : ∃ N : Nat, n = (N : Int) := ⟨n.toNat, by omega⟩
          have hjN : j < N := by omega
          have HC1 := Lib.hid (climb_gen a j N ps _ _ hjN (by omega) c4.1 (fun y hy => allB_mem c5 hy) HSa.out HT.out)
          have HC2 := Lib.hid (fun w1 (hB : Below w.heap.size w w1) (hs : Strs w1 (.slice ua qs.length uc) qs) (hT : Tab w1) => climb_gen b j N qs w1 _ hjN (by omega) c4.2 (fun y hy => allB_mem c6 hy) hs hT)
          have hno := fun h => clashR_none (a := a) (b := b) (i := j) (n := N) (ps := ps) (qs := qs) hokt h
          rw [hE] at hno
          have hyes := fun hab h1 h2 hr => clash_unlike (a := a) (b := b) hjN c4.1 c4.2 (fun y hy => allB_mem c5 hy) (fun y hy => allB_mem c6 hy) hokt hab h1 h2 hr
          rw [hE] at hyes
          have hmk1 := mk_some (x := a) (ps := ps) hjN
          have hmk2 := mk_some (x := b) (ps := qs) hjN
          have hmn1 := mk_none (x := a) (ps := ps) hjN
          have hmn2 := mk_none (x := b) (ps := qs) hjN
          have hq1 := text_beq a b
          have hq2 := text_beq (cR a j N ps) (cR b j N qs)
          have hln : cO j N ps = true → cO j N qs = true → (cM a j N ps).length = (cM b j N qs).length ∧ (cM a j N ps).length ≤ 1000 := fun h1 h2 => ⟨by rw [cM_length h1, cM_length h2], by rw [cM_length h1]; exact bits_le j N hjN (by omega)⟩
          clear hbad hok hE c5 c6 hokt h0
          generalize cM a j N ps = M1 at *
          generalize cM b j N qs = M2 at *
          by_cases hab : a = b
          · have HE := Lib.hid (hno (fun h => h.1 hab))
            rw [decide_eq_true hab] at hq1
            clear hno hyes hmk1 hmk2 hmn1 hmn2 hq2 hln hab
            generalize cR a j N ps = R1 at *
            generalize cR b j N qs = R2 at *
            generalize cO j N ps = O1 at *
            generalize cO j N qs = O2 at *
            go_enter Tryd.func25, Tryd.ntmps25
            go_wp2_with (first | (go_at_call 34; refine H0.out.mono ?_; rintro e w0 ⟨rfl, rfl⟩) | (go_at_call 35; with_reducible refine H1.out.mono ?_; rintro e w1 ⟨rfl, rfl⟩) | (go_at_call 35; with_reducible refine H2.out.mono ?_; rintro e w1 ⟨rfl, rfl⟩) | (go_at_call 35; with_reducible refine H3.out.mono ?_; rintro e w1 ⟨rfl, rfl⟩) | (go_at_call 36; with_reducible refine HC1.out.mono ?_; rintro e w3 ⟨sa, sn, sc, rfl, hs3, hb3⟩; have hB3 := below_on hal hb3; have hA4 := (Below.refl w3.heap.size w3).alloc (Nat.le_refl _) (.cells #[.slice sa sn sc, .string (bytesOf R1)] 55); have hB4 := below_on hB3 hA4; have hl4 := Lies.new w3 55 #[.slice sa sn sc, .string (bytesOf R1)]) | (go_at_call 36; refine (HC2.out _ hB4 ((HTa.out.below hb3).below hA4) ((HT.out.below hb3).below hA4)).mono ?_; rintro e w5 ⟨ta, tn, tc, rfl, ht5, hb5⟩; have hB5 := below_on hB4 hb5; have hA6 := (Below.refl w5.heap.size w5).alloc (Nat.le_refl _) (.cells #[.slice ta tn tc, .string (bytesOf R2)] 55); have hB6 := below_on hB5 hA6; have q0 : ∀ o, (w5.alloc o).cell? ⟨w3.heap.size, 0, none⟩ = some (.slice sa sn sc) := fun o => ((hl4.on hb5).alloc o).cell 0; have q1 : ∀ o, (w5.alloc o).cell? ⟨w3.heap.size, 1, none⟩ = some (.string (bytesOf R1)) := fun o => ((hl4.on hb5).alloc o).cell 1))
            go_ret3
            exact ⟨by rw [HE.out]; rfl, hB6⟩
          · rw [decide_eq_false hab] at hq1
            cases hO1 : cO j N ps with
            | false =>
              have HE := Lib.hid (hno (fun h => by obtain ⟨s, h1, h2⟩ := h.2; rw [hmn1 hO1] at h1; cases h1))
              rw [hO1] at HC1
              clear hno hyes hmk1 hmk2 hmn1 hmn2 hq2 hln hab hO1
              generalize cR a j N ps = R1 at *
              generalize cR b j N qs = R2 at *
              generalize cO j N qs = O2 at *
              go_enter Tryd.func25, Tryd.ntmps25
              go_wp2_with (first | (go_at_call 34; refine H0.out.mono ?_; rintro e w0 ⟨rfl, rfl⟩) | (go_at_call 35; with_reducible refine H1.out.mono ?_; rintro e w1 ⟨rfl, rfl⟩) | (go_at_call 35; with_reducible refine H2.out.mono ?_; rintro e w1 ⟨rfl, rfl⟩) | (go_at_call 35; with_reducible refine H3.out.mono ?_; rintro e w1 ⟨rfl, rfl⟩) | (go_at_call 36; with_reducible refine HC1.out.mono ?_; rintro e w3 ⟨sa, sn, sc, rfl, hs3, hb3⟩; have hB3 := below_on hal hb3; have hA4 := (Below.refl w3.heap.size w3).alloc (Nat.le_refl _) (.cells #[.slice sa sn sc, .string (bytesOf R1)] 55); have hB4 := below_on hB3 hA4; have hl4 := Lies.new w3 55 #[.slice sa sn sc, .string (bytesOf R1)]) | (go_at_call 36; refine (HC2.out _ hB4 ((HTa.out.below hb3).below hA4) ((HT.out.below hb3).below hA4)).mono ?_; rintro e w5 ⟨ta, tn, tc, rfl, ht5, hb5⟩; have hB5 := below_on hB4 hb5; have hA6 := (Below.refl w5.heap.size w5).alloc (Nat.le_refl _) (.cells #[.slice ta tn tc, .string (bytesOf R2)] 55); have hB6 := below_on hB5 hA6; have q0 : ∀ o, (w5.alloc o).cell? ⟨w3.heap.size, 0, none⟩ = some (.slice sa sn sc) := fun o => ((hl4.on hb5).alloc o).cell 0; have q1 : ∀ o, (w5.alloc o).cell? ⟨w3.heap.size, 1, none⟩ = some (.string (bytesOf R1)) := fun o => ((hl4.on hb5).alloc o).cell 1))
              go_ret3
              exact ⟨by rw [HE.out]; rfl, hB6⟩
            | true =>
              rw [hO1] at HC1
              cases hO2 : cO j N qs with
              | false =>
                have HE := Lib.hid (hno (fun h => by obtain ⟨s, h1, h2⟩ := h.2; rw [hmn2 hO2] at h2; cases h2))
                rw [hO2] at HC2
                clear hno hyes hmk1 hmk2 hmn1 hmn2 hq2 hln hab hO1 hO2
                generalize cR a j N ps = R1 at *
                generalize cR b j N qs = R2 at *
                go_enter Tryd.func25, Tryd.ntmps25
                go_wp2_with (first | (go_at_call 34; refine H0.out.mono ?_; rintro e w0 ⟨rfl, rfl⟩) | (go_at_call 35; with_reducible refine H1.out.mono ?_; rintro e w1 ⟨rfl, rfl⟩) | (go_at_call 35; with_reducible refine H2.out.mono ?_; rintro e w1 ⟨rfl, rfl⟩) | (go_at_call 35; with_reducible refine H3.out.mono ?_; rintro e w1 ⟨rfl, rfl⟩) | (go_at_call 36; with_reducible refine HC1.out.mono ?_; rintro e w3 ⟨sa, sn, sc, rfl, hs3, hb3⟩; have hB3 := below_on hal hb3; have hA4 := (Below.refl w3.heap.size w3).alloc (Nat.le_refl _) (.cells #[.slice sa sn sc, .string (bytesOf R1)] 55); have hB4 := below_on hB3 hA4; have hl4 := Lies.new w3 55 #[.slice sa sn sc, .string (bytesOf R1)]) | (go_at_call 36; refine (HC2.out _ hB4 ((HTa.out.below hb3).below hA4) ((HT.out.below hb3).below hA4)).mono ?_; rintro e w5 ⟨ta, tn, tc, rfl, ht5, hb5⟩; have hB5 := below_on hB4 hb5; have hA6 := (Below.refl w5.heap.size w5).alloc (Nat.le_refl _) (.cells #[.slice ta tn tc, .string (bytesOf R2)] 55); have hB6 := below_on hB5 hA6; have q0 : ∀ o, (w5.alloc o).cell? ⟨w3.heap.size, 0, none⟩ = some (.slice sa sn sc) := fun o => ((hl4.on hb5).alloc o).cell 0; have q1 : ∀ o, (w5.alloc o).cell? ⟨w3.heap.size, 1, none⟩ = some (.string (bytesOf R1)) := fun o => ((hl4.on hb5).alloc o).cell 1))
                go_ret3
                exact ⟨by rw [HE.out]; rfl, hB6⟩
              | true =>
                rw [hO2] at HC2
                by_cases hr : cR a j N ps = cR b j N qs
                · have HE := Lib.hid (hyes hab hO1 hO2 hr)
                  obtain ⟨hl1, hl2⟩ := hln hO1 hO2
                  have HU := Lib.hid (fun w1 s t hs ht => unlike_any M1 M2 w1 s t hl1 hl2 hs ht)
                  rw [decide_eq_true hr] at hq2
                  rw [← HE.out] at HU
                  clear hno hyes hmk1 hmk2 hmn1 hmn2 hln hab hO1 hO2 hr hl1 hl2
                  generalize cR a j N ps = R1 at *
                  generalize cR b j N qs = R2 at *
                  go_enter Tryd.func25, Tryd.ntmps25
                  go_wp2_with (first | (go_at_call 34; refine H0.out.mono ?_; rintro e w0 ⟨rfl, rfl⟩) | (go_at_call 35; with_reducible refine H1.out.mono ?_; rintro e w1 ⟨rfl, rfl⟩) | (go_at_call 35; with_reducible refine H2.out.mono ?_; rintro e w1 ⟨rfl, rfl⟩) | (go_at_call 35; with_reducible refine H3.out.mono ?_; rintro e w1 ⟨rfl, rfl⟩) | (go_at_call 36; with_reducible refine HC1.out.mono ?_; rintro e w3 ⟨sa, sn, sc, rfl, hs3, hb3⟩; have hB3 := below_on hal hb3; have hA4 := (Below.refl w3.heap.size w3).alloc (Nat.le_refl _) (.cells #[.slice sa sn sc, .string (bytesOf R1)] 55); have hB4 := below_on hB3 hA4; have hl4 := Lies.new w3 55 #[.slice sa sn sc, .string (bytesOf R1)]) | (go_at_call 36; refine (HC2.out _ hB4 ((HTa.out.below hb3).below hA4) ((HT.out.below hb3).below hA4)).mono ?_; rintro e w5 ⟨ta, tn, tc, rfl, ht5, hb5⟩; have hB5 := below_on hB4 hb5; have hA6 := (Below.refl w5.heap.size w5).alloc (Nat.le_refl _) (.cells #[.slice ta tn tc, .string (bytesOf R2)] 55); have hB6 := below_on hB5 hA6; have q0 : ∀ o, (w5.alloc o).cell? ⟨w3.heap.size, 0, none⟩ = some (.slice sa sn sc) := fun o => ((hl4.on hb5).alloc o).cell 0; have q1 : ∀ o, (w5.alloc o).cell? ⟨w3.heap.size, 1, none⟩ = some (.string (bytesOf R1)) := fun o => ((hl4.on hb5).alloc o).cell 1) | (go_at_call 40; refine (HU.out _ _ _ (((hs3 (by simp)).below hA4 |>.below hb5).below hA6) ((ht5 (by simp)).below hA6)).mono ?_; rintro e w7 ⟨rfl, hb7⟩))
                  go_ret3
                  exact ⟨rfl, below_on hB6 hb7⟩
                · have HE := Lib.hid (hno (fun h => by obtain ⟨s, h1, h2⟩ := h.2; rw [hmk1 hO1] at h1; rw [hmk2 hO2] at h2; exact hr (Option.some.inj (h1.trans h2.symm))))
                  rw [decide_eq_false hr] at hq2
                  clear hno hyes hmk1 hmk2 hmn1 hmn2 hln hab hO1 hO2 hr
                  generalize cR a j N ps = R1 at *
                  generalize cR b j N qs = R2 at *
                  go_enter Tryd.func25, Tryd.ntmps25
                  go_wp2_with (first | (go_at_call 34; refine H0.out.mono ?_; rintro e w0 ⟨rfl, rfl⟩) | (go_at_call 35; with_reducible refine H1.out.mono ?_; rintro e w1 ⟨rfl, rfl⟩) | (go_at_call 35; with_reducible refine H2.out.mono ?_; rintro e w1 ⟨rfl, rfl⟩) | (go_at_call 35; with_reducible refine H3.out.mono ?_; rintro e w1 ⟨rfl, rfl⟩) | (go_at_call 36; with_reducible refine HC1.out.mono ?_; rintro e w3 ⟨sa, sn, sc, rfl, hs3, hb3⟩; have hB3 := below_on hal hb3; have hA4 := (Below.refl w3.heap.size w3).alloc (Nat.le_refl _) (.cells #[.slice sa sn sc, .string (bytesOf R1)] 55); have hB4 := below_on hB3 hA4; have hl4 := Lies.new w3 55 #[.slice sa sn sc, .string (bytesOf R1)]) | (go_at_call 36; refine (HC2.out _ hB4 ((HTa.out.below hb3).below hA4) ((HT.out.below hb3).below hA4)).mono ?_; rintro e w5 ⟨ta, tn, tc, rfl, ht5, hb5⟩; have hB5 := below_on hB4 hb5; have hA6 := (Below.refl w5.heap.size w5).alloc (Nat.le_refl _) (.cells #[.slice ta tn tc, .string (bytesOf R2)] 55); have hB6 := below_on hB5 hA6; have q0 : ∀ o, (w5.alloc o).cell? ⟨w3.heap.size, 0, none⟩ = some (.slice sa sn sc) := fun o => ((hl4.on hb5).alloc o).cell 0; have q1 : ∀ o, (w5.alloc o).cell? ⟨w3.heap.size, 1, none⟩ = some (.string (bytesOf R1)) := fun o => ((hl4.on hb5).alloc o).cell 1))
                  go_ret3
                  exact ⟨by rw [HE.out]; rfl, hB6⟩
end Go.Proofs.YtpcckanhmdlahaaDoor.Q

/- The contracts of the developers' Path and Step. -/
namespace Go.Proofs.YtpcckanhmdlahaaDoor.Q
open Go.RowKit Go.Sort Go.Proofs.YtpcckanhmdlahaaDoor.U Go.Proofs.YtpcckanhmdlahaaDoor.R
set_option maxRecDepth 100000

theorem pathOk_parts {l : List (List UInt8)} {i : Int} (h : pathOkB l i = true) : rowB l = true ∧ 0 ≤ i ∧ i < (l.length : Int) := by
  unfold pathOkB at h
  simp only [Bool.and_eq_true, decide_eq_true_eq] at h
  exact ⟨h.1.1, h.1.2, h.2⟩
theorem path_no {l : List (List UInt8)} {i : Int} (h : pathOkB l i = false) : pathA l i = [] ∧ pathE l i = 1 := by
  unfold pathA pathE
  rw [h]
  exact ⟨rfl, rfl⟩
theorem step_no {l : List (List UInt8)} {i : Int} (h : stepOkB l i = false) : stepA l i = [] ∧ stepE l i = 1 := by
  unfold stepA stepE
  rw [h]
  exact ⟨rfl, rfl⟩
theorem strs_none (w : World) : Strs w (.slice none 0 0) [] := ⟨none, 0, rfl, Nat.le_refl _, by unfold maxLen; omega, fun _ => rfl, fun h => absurd rfl h⟩

theorem path_bad (w : World) (v : Value) (l : List (List UInt8)) (i : Int) (h1 : -9223372036854775808 ≤ i) (h2 : i ≤ 9223372036854775807) (hs : Strs w v l) (hx : ∀ x ∈ l, x.length ≤ 100) (hB : pathOkB l i = false) :
    Calls Tryd.prog 10 #[v, .int .i64 i] w fun e w' => ∃ a c, e = .returned (.tuple #[.slice a (pathA l i).length c, .int .i64 (pathE l i)]) ∧ Strs w' (.slice a (pathA l i).length c) (pathA l i) ∧ Below w.heap.size w w' := by
  rw [(path_no hB).1, (path_no hB).2]
  have HR := Lib.hid (right_any w v l hs (fun x h => Nat.le_trans (hx x h) (by unfold maxLen; omega)))
  have hN := strs_none w
  have HN := Lib.hid hN
  unfold pathOkB at hB
  obtain ⟨va, vc, rfl, hv1, hv2, hv3, hv4⟩ := hs
  clear hx hv3 hv4 hN
  cases hr : rowB l with
  | false =>
    rw [hr] at HR
    clear hB hr
    go_enter Tryd.func10, Tryd.ntmps10
    go_wp2_with (go_at_call 29; refine HR.out.mono ?_; rintro e w1 ⟨rfl, rfl⟩)
    go_ret2
    exact ⟨none, 0, rfl, HN.out, Below.refl _ _⟩
  | true =>
    rw [hr, Bool.true_and] at hB
    rw [hr] at HR
    clear hr
    by_cases h0 : i < 0
    · clear hB
      go_enter Tryd.func10, Tryd.ntmps10
      go_wp2_with (go_at_call 29; refine HR.out.mono ?_; rintro e w1 ⟨rfl, rfl⟩)
      go_ret2
      exact ⟨none, 0, rfl, HN.out, Below.refl _ _⟩
    · have h3 : (l.length : Int) ≤ i := by
        simp only [Bool.and_eq_false_iff, decide_eq_false_iff_not] at hB
        omega
      clear hB
      go_enter Tryd.func10, Tryd.ntmps10
      go_wp2_with (go_at_call 29; refine HR.out.mono ?_; rintro e w1 ⟨rfl, rfl⟩)
      go_ret2
      exact ⟨none, 0, rfl, HN.out, Below.refl _ _⟩

theorem step_bad (w : World) (v : Value) (l : List (List UInt8)) (m : Int) (h1 : -9223372036854775808 ≤ m) (h2 : m ≤ 9223372036854775807) (hs : Strs w v l) (hx : ∀ x ∈ l, x.length ≤ 100) (hB : stepOkB l m = false) :
    Calls Tryd.prog 11 #[v, .int .i64 m] w fun e w' => ∃ a c, e = .returned (.tuple #[.slice a (stepA l m).length c, .int .i64 (stepE l m)]) ∧ Strs w' (.slice a (stepA l m).length c) (stepA l m) ∧ Below w.heap.size w w' := by
  rw [(step_no hB).1, (step_no hB).2]
  have HR := Lib.hid (right_any w v l hs (fun x h => Nat.le_trans (hx x h) (by unfold maxLen; omega)))
  have hN := strs_none w
  have HN := Lib.hid hN
  unfold stepOkB at hB
  obtain ⟨va, vc, rfl, hv1, hv2, hv3, hv4⟩ := hs
  clear hx hv3 hv4 hN
  cases hr : rowB l with
  | false =>
    rw [hr] at HR
    clear hB hr
    go_enter Tryd.func11, Tryd.ntmps11
    go_wp2_with (go_at_call 29; refine HR.out.mono ?_; rintro e w1 ⟨rfl, rfl⟩)
    go_ret2
    exact ⟨none, 0, rfl, HN.out, Below.refl _ _⟩
  | true =>
    rw [hr, Bool.true_and] at hB
    rw [hr] at HR
    clear hr
    by_cases h0 : m < 0
    · clear hB
      go_enter Tryd.func11, Tryd.ntmps11
      go_wp2_with (go_at_call 29; refine HR.out.mono ?_; rintro e w1 ⟨rfl, rfl⟩)
      go_ret2
      exact ⟨none, 0, rfl, HN.out, Below.refl _ _⟩
    · have h3 : (l.length : Int) < m := by
        simp only [Bool.and_eq_false_iff, decide_eq_false_iff_not] at hB
        omega
      clear hB
      go_enter Tryd.func11, Tryd.ntmps11
      go_wp2_with (go_at_call 29; refine HR.out.mono ?_; rintro e w1 ⟨rfl, rfl⟩)
      go_ret2
      exact ⟨none, 0, rfl, HN.out, Below.refl _ _⟩

set_option maxHeartbeats 1600000 in
theorem path_any (w : World) (v : Value) (l : List (List UInt8)) (i : Int) (h1 : -9223372036854775808 ≤ i) (h2 : i ≤ 9223372036854775807) (hs : Strs w v l) (hl : l.length ≤ 100) (hx : ∀ x ∈ l, x.length ≤ 100) (hT : Tab w) :
    Calls Tryd.prog 10 #[v, .int .i64 i] w fun e w' => ∃ a c, e = .returned (.tuple #[.slice a (pathA l i).length c, .int .i64 (pathE l i)]) ∧ Strs w' (.slice a (pathA l i).length c) (pathA l i) ∧ Below w.heap.size w w' := by
  cases hB : pathOkB l i with
  | false => exact path_bad w v l i h1 h2 hs hx hB
  | true =>
    obtain ⟨hr, hi0, hi1⟩ := pathOk_parts hB
    obtain ⟨k, rfl⟩ : ∃ k : Nat, i = (k : Int) := ⟨i.toNat, by omega⟩
    have hk : k < l.length := by omega
    have h32 := (rowB_of hr).2
    have eA : pathA l (k : Int) = (prt k (l.length - 1) 0 l.length).map (rootP nd e0 l) := by
      unfold pathA
      rw [if_pos hB, Int.toNat_natCast, path_parts nd e0 l.length l k (Nat.le_refl _) hk]
    have eE : pathE l (k : Int) = 0 := by unfold pathE; rw [if_pos hB]
    rw [eA, eE]
    have hb0 := beside_any k 0 l.length
    simp only [Nat.pow_zero, Nat.div_one] at hb0
    have HBs := Lib.hid (fun w => hb0 w hk (by omega) (by decide))
    have hpl : (prt k (l.length - 1) 0 l.length).length ≤ 12 := prt_length 12 _ _ _ _ (by omega)
    have hpb := prt_le _ k (l.length - 1) 0 l.length (Nat.le_refl _) (by omega) (by omega)
    have HR := Lib.hid (right_any w v l hs (fun x h => Nat.le_trans (hx x h) (by unfold maxLen; omega)))
    rw [hr] at HR
    generalize prt k (l.length - 1) 0 l.length = PS at *
    have HRs := Lib.hid (fun w1 pv (hB : Below w.heap.size w w1) (hp : Prts w1 pv PS) => roots_any l PS w1 v pv (by omega) h32 (hs.below hB) hp (by omega) hpb (hT.below hB))
    generalize PS.map (rootP nd e0 l) = RS at *
    obtain ⟨va, vc, rfl, hv1, hv2, hv3, hv4⟩ := hs
    clear hx hv3 hv4 hB hr h32 eA eE hb0 hpb hT
    go_enter Tryd.func10, Tryd.ntmps10
    go_wp2_with (first
      | (go_at_call 29; refine HR.out.mono ?_; rintro e w1 ⟨rfl, rfl⟩)
      | (go_at_call 31; refine (HBs.out _).mono ?_; rintro e w2 ⟨pv, rfl, ho2, hb2⟩)
      | (go_at_call 30; refine (HRs.out _ _ hb2 (own_prts ho2)).mono ?_; rintro e w3 ⟨a3, c3, rfl, ho3, hb3⟩))
    go_ret2
    exact ⟨a3, c3, rfl, ho3.strs, below_on hb2 hb3⟩

set_option maxHeartbeats 1600000 in
theorem step_any (w : World) (v : Value) (l : List (List UInt8)) (m : Int) (h1 : -9223372036854775808 ≤ m) (h2 : m ≤ 9223372036854775807) (hs : Strs w v l) (hl : l.length ≤ 100) (hx : ∀ x ∈ l, x.length ≤ 100) (hT : Tab w) (hZ : Tz w) :
    Calls Tryd.prog 11 #[v, .int .i64 m] w fun e w' => ∃ a c, e = .returned (.tuple #[.slice a (stepA l m).length c, .int .i64 (stepE l m)]) ∧ Strs w' (.slice a (stepA l m).length c) (stepA l m) ∧ Below w.heap.size w w' := by
  cases hB : stepOkB l m with
  | false => exact step_bad w v l m h1 h2 hs hx hB
  | true =>
    obtain ⟨hr, hi0, hi1⟩ : rowB l = true ∧ 0 ≤ m ∧ m ≤ (l.length : Int) := by
      have h := hB
      unfold stepOkB at h
      simp only [Bool.and_eq_true, decide_eq_true_eq] at h
      exact ⟨h.1.1, h.1.2, h.2⟩
    obtain ⟨k, rfl⟩ : ∃ k : Nat, m = (k : Int) := ⟨m.toNat, by omega⟩
    have h32 := (rowB_of hr).2
    have eE : stepE l (k : Int) = 0 := by unfold stepE; rw [if_pos hB]
    rw [eE]
    have HR := Lib.hid (right_any w v l hs (fun x h => Nat.le_trans (hx x h) (by unfold maxLen; omega)))
    rw [hr] at HR
    have HN := Lib.hid (strs_none w)
    by_cases hk0 : k = 0
    · have eA : stepA l (k : Int) = [] := by unfold stepA; rw [if_neg (by omega)]
      rw [eA]
      subst hk0
      obtain ⟨va, vc, rfl, hv1, hv2, hv3, hv4⟩ := hs
      clear hx hv3 hv4 hB hr h32 eA eE hT hZ
      go_enter Tryd.func11, Tryd.ntmps11
      go_wp2_with (go_at_call 29; refine HR.out.mono ?_; rintro e w1 ⟨rfl, rfl⟩)
      go_ret2
      exact ⟨none, 0, rfl, HN.out, Below.refl _ _⟩
    · have eA : stepA l (k : Int) = (stepT nd e0 l k true).reverse := by unfold stepA; rw [if_pos ⟨hB, by omega⟩, Int.toNat_natCast]
      rw [eA]
      have hne0 : ((k : Int) == 0) = false := by simp; omega
      by_cases hkn : k = l.length
      · have eT : (stepT nd e0 l k true).reverse = [] := by subst hkn; rw [stepT_all nd e0 (by omega)]; rfl
        rw [eT]
        have hn0 : ((k : Int) == (l.length : Int)) = true := by simp; omega
        subst hkn
        have h5 : decide ((l.length : Int) < 0) = false := by rw [decide_eq_false_iff_not]; omega
        obtain ⟨va, vc, rfl, hv1, hv2, hv3, hv4⟩ := hs
        clear hx hv3 hv4 hB hr h32 eA eE eT hT hZ
        go_enter Tryd.func11, Tryd.ntmps11
        go_wp2_with (go_at_call 29; refine HR.out.mono ?_; rintro e w1 ⟨rfl, rfl⟩)
        go_ret2
        exact ⟨none, 0, rfl, HN.out, Below.refl _ _⟩
      · have hn0 : ((k : Int) == (l.length : Int)) = false := by simp; omega
        have HS := Lib.hid (stepFrom_any l k w v (by omega) h32 (by omega) (by omega) hs hT hZ)
        generalize (stepT nd e0 l k true).reverse = RS at *
        obtain ⟨va, vc, rfl, hv1, hv2, hv3, hv4⟩ := hs
        clear hx hv3 hv4 hB hr h32 eA eE hT hZ
        go_enter Tryd.func11, Tryd.ntmps11
        go_wp2_with (first
          | (go_at_call 29; refine HR.out.mono ?_; rintro e w1 ⟨rfl, rfl⟩)
          | (go_at_call 32; refine HS.out.mono ?_; rintro e w2 ⟨a2, c2, rfl, hs2, hb2⟩))
        go_ret2
        exact ⟨a2, c2, rfl, hs2, hb2⟩
end Go.Proofs.YtpcckanhmdlahaaDoor.Q

/- The developers' five calls keep what the walks of the statements ask of them. -/
namespace Go.Proofs.YtpcckanhmdlahaaDoor.Q
open Go.RowKit Go.Sort Go.Proofs.YtpcckanhmdlahaaDoor.U Go.Proofs.YtpcckanhmdlahaaDoor.R
set_option maxRecDepth 100000

theorem proof_ok : ProofOk where
  path := fun w v l i h1 h2 hs hl hx hT => path_any w v l i h1 h2 hs hl hx hT
  step := fun w v l m h1 h2 hs hl hx hT hZ => step_any w v l m h1 h2 hs hl hx hT hZ
  holds := fun w v x root i n ps h1 h2 h3 h4 hx hr hs _ hp hT => holds_any w v x root i n ps h1 h2 h3 h4 hx hr hs hp hT
  follows := fun w v old root m n ps h1 h2 h3 h4 ho hr hs _ hp hT hZ => follows_any w v old root m n ps h1 h2 h3 h4 ho hr hs hp hT hZ
  clash := fun w v u a b i n ps qs h1 h2 h3 h4 ha hb hs _ hp ht _ hq hT => clash_any w v u a b i n ps qs h1 h2 h3 h4 ha hb hs hp ht hq hT
end Go.Proofs.YtpcckanhmdlahaaDoor.Q

