/- The walk of the statement of heads of a log that grows: whatever data, number and text, it answers true. -/
import Derived.Test.YtdjglghecekeoaaGreatDoorV15
import Derived.Test.YtdjglghecekeoaaGreatDoorVMJGoesW
namespace Go.Proofs.YtdjglghecekeoaaGreatDoor.J
open Go.RowKit Go.Sort Go.Proofs.YtdjglghecekeoaaGreatDoor.U Go.Proofs.YtdjglghecekeoaaGreatDoor.R Go.Proofs.YtdjglghecekeoaaGreatDoor.Q
set_option maxRecDepth 100000

/-! ### the leaves -/
def leavesJ (data : List (List UInt8)) (k : Nat) : List (List UInt8) := ((data.take k).take 30).map (fun s => lf (s.take 50))
theorem leavesJ_length (data : List (List UInt8)) (k : Nat) : (leavesJ data k).length ≤ 30 := by simp [leavesJ]; omega
theorem leavesJ_32 (data : List (List UInt8)) (k : Nat) : ∀ x ∈ leavesJ data k, x.length = 32 := by
  intro x hx
  obtain ⟨s, _, rfl⟩ := List.mem_map.1 hx
  exact lf_length _
theorem leavesJ_next {data : List (List UInt8)} {k : Nat} {x : List UInt8} (h : data[k]? = some x) (hk : k < 30) : leavesJ data (k + 1) = leavesJ data k ++ [lf (x.take 50)] := by
  have e1 : data.take (k + 1) = data.take k ++ [x] := by rw [List.take_add_one, h]; rfl
  unfold leavesJ
  rw [e1, List.take_of_length_le (l := data.take k) (by rw [List.length_take]; omega), List.take_of_length_le (by rw [List.length_append, List.length_take]; simp; omega)]
  simp
theorem leavesJ_past (data : List (List UInt8)) {k : Nat} (hk : 30 ≤ k) : leavesJ data (k + 1) = leavesJ data k := by
  unfold leavesJ
  rw [List.take_take, List.take_take, Nat.min_eq_left (by omega), Nat.min_eq_left (by omega)]
theorem first_place (z : Int) (n : Nat) (hn : n ≤ 1000) : ∃ p : Int, Int.tmod z ((n : Int) + 1) = p ∧ -1001 ≤ p ∧ p ≤ 1001 ∧ ∃ q : Nat, q ≤ n ∧ Int.tmod (p + (n : Int) + 1) ((n : Int) + 1) = (q : Int) := by
  have h1 := Int.lt_tmod_of_pos z (b := (n : Int) + 1) (by omega)
  have h2 := Int.tmod_lt_of_pos z (b := (n : Int) + 1) (by omega)
  refine ⟨_, rfl, by omega, by omega, (Int.tmod (Int.tmod z ((n : Int) + 1) + (n : Int) + 1) ((n : Int) + 1)).toNat, ?_, ?_⟩
  · have h3 := Int.tmod_lt_of_pos (Int.tmod z ((n : Int) + 1) + (n : Int) + 1) (b := (n : Int) + 1) (by omega)
    omega
  · exact (Int.toNat_of_nonneg (Int.tmod_nonneg _ (by omega))).symm

/-! ### what follows what -/
theorem right_log {n : Nat} {r : List UInt8} (t : Int) (h0 : 0 ≤ t) (h1 : t ≤ 10) (hn : n ≤ 4096) (hr : r.length = 32) : rightH (n : Int) r t z64 = true := rightH_yes (mayH_yes (by omega) (by omega) h0 (by omega) hr) z64_length
theorem goes_log {q n : Nat} {ra rb : List UInt8} {ps : List (List UInt8)} (hq : q ≤ n) (hn : n ≤ 4096) (ha : ra.length = 32) (hb : rb.length = 32) (he : q = n → ra = rb) (hf : followsE (q : Int) (n : Int) ra rb ps = 0) : goesE (q : Int) ra 1 z64 (n : Int) rb 2 z64 ps = 0 := by
  unfold goesE
  rw [if_pos ⟨right_log 1 (by decide) (by decide) (by omega) ha, right_log 2 (by decide) (by decide) hn hb⟩, if_neg (fun h => h.2 (he (by have := h.1; omega))), if_neg (by omega), hf]
theorem goes_less {q n : Nat} {ra rb : List UInt8} (ps : List (List UInt8)) (hq : q < n) (hn : n ≤ 4096) (ha : ra.length = 32) (hb : rb.length = 32) : goesE (n : Int) rb 2 z64 (q : Int) ra 1 z64 ps = 14 := by
  unfold goesE
  rw [if_pos ⟨right_log 2 (by decide) (by decide) hn hb, right_log 1 (by decide) (by decide) (by omega) ha⟩, if_neg (fun h => by have := h.1; omega), if_pos (.inl (by omega))]
theorem goes_split {n : Nat} {rb rc : List UInt8} (ps : List (List UInt8)) (hn : n ≤ 4096) (hb : rb.length = 32) (hc : rc.length = 32) (hne : rb ≠ rc) : goesE (n : Int) rb 2 z64 (n : Int) rc 2 z64 ps = 38 := by
  unfold goesE
  rw [if_pos ⟨right_log 2 (by decide) (by decide) hn hb, right_log 2 (by decide) (by decide) hn hc⟩, if_pos ⟨rfl, hne⟩]
attribute [local irreducible] leavesJ

set_option maxHeartbeats 6400000 in
theorem followsJ_walk (A : C.Pts E.EdTab) (v : Value) (data : List (List UInt8)) (z : Int) (o : List UInt8) (W : World) (hs0 : Strs W v data) (hx : ∀ x ∈ data, x.length ≤ maxLen) (ho0 : o.length ≤ maxLen) (hT : HTab W) (hZ : Tz W) :
    Calls Tryz.prog 6 #[v, .int .i64 z, .string (bytesOf o)] W fun e w' => e = .returned (.bool true) ∧ Below W.heap.size W w' := by
  have HT := Lib.hid hT
  have HZ := Lib.hid hZ
  have HLf := Lib.hid (fun (x : List UInt8) (h : x.length ≤ 100) w (hb : Below W.heap.size W w) => leaf_any x w (by omega) (hT.on hb).u)
  have HAl := Lib.hid (fun w (hb : Below W.heap.size W w) => aliveH_any A w (hT.on hb))
  obtain ⟨ao, c0, rfl, hc0, hm0, hna, hcl⟩ := hs0
  unfold maxLen at hm0 hx ho0
  obtain ⟨i0, hi, hz0, hz1, hz2⟩ := info_parts info5
  clear hT hZ
  go_enter Tryz.func6, Tryz.ntmps6
  go_wp2
  go_loopw [7, 19] (fun lv iv wr => ∃ (k : Nat) (a : Option Addr) (c : Nat), k ≤ data.length ∧ iv = .int .i64 k ∧ lv = .slice a (leavesJ data k).length c ∧ Own wr W.heap.size (.slice a (leavesJ data k).length c) (leavesJ data k) ∧ Below W.heap.size W wr) (fun _ iv _ => data.length - (intOf iv).toNat)
  case atStart => exact ⟨0, none, 0, Nat.zero_le _, rfl, by unfold leavesJ; rfl, by unfold leavesJ; exact .inl ⟨none, rfl, rfl⟩, Below.refl _ _⟩
  case round =>
    obtain ⟨k, lo, cL, hk, rfl, rfl, ho, hB⟩ := hrel
    by_cases hlt : k < data.length
    · obtain ⟨b, off, rfl, hcell⟩ := hcl (by intro h; subst h; simp at hlt)
      obtain ⟨x, hxk⟩ : ∃ x, data[k]? = some x := ⟨data[k], List.getElem?_eq_getElem hlt⟩
      have hxl := hx x (List.mem_of_getElem? hxk)
      have hc4 := hcell k x hxk
      replace hc4 := (hB.cell (p := ⟨b, off + k, none⟩) (World.block_lt_of_cell? W _ hc4)).trans hc4
      unfold str at hc4
      have h70 := leavesJ_length data k
      by_cases h7 : k < 30
      · have HNx := Lib.hid (leavesJ_next hxk h7)
        have hcut := cut_bytes x 50 50 rfl
        have HL1 := Lib.hid (HLf.out (x.take 50) (by rw [List.length_take]; omega) wr hB)
        unfold bytesOf at HL1
        have hsz := hB.size
        clear hxk hcell hcl hi hz0 hz1 hz2
        go_wp2_with (first
          | (go_at_call 25; refine HL1.out.mono ?_; rintro e w2 ⟨rfl, hb2⟩)
          | ((with_reducible refine wpL_appendS W.heap.size _ (leavesJ data k) (leavesJ data k).length (lf (x.take 50)) w2.heap.size rfl ((ho.on hb2).on ((Below.refl _ _).alloc (Nat.le_refl _) _)) (Lies.new w2 _ _) (by omega) (by have := hb2.size; simp; omega) ?_ ?_ ?_); rfl; rfl; intro g6 c6 w6 ho6 hb6 hk6))
        go_roundw
        case rel => exact ⟨k + 1, some ⟨g6, 0, none⟩, c6, by omega, by go_num, by rw [HNx.out, List.length_append]; rfl, by rw [HNx.out, List.length_append]; exact ho6, ((below_on hB hb2).alloc (by have := hb2.size; omega) _).trans hb6⟩
        case measure => simp [intOf]; omega
      · have HNx := Lib.hid (leavesJ_past data (k := k) (by omega))
        clear hxk hcell hcl hi hz0 hz1 hz2
        go_wp2
        go_roundw
        case rel => exact ⟨k + 1, lo, cL, by omega, by go_num, by rw [HNx.out], by rw [HNx.out]; exact ho, hB⟩
        case measure => simp [intOf]; omega
    · clear hcl hna hx hm0 hc0
      have h30 := leavesJ_length data k
      have h32 := leavesJ_32 data k
      generalize leavesJ data k = LL at *
      obtain ⟨p, hp, hp1, hp2, q, hq, hpq⟩ := first_place z LL.length (by omega)
      obtain ⟨SA, hSA, hSE, hS32, hS50, hS0, _, _⟩ := back_step h32 (by omega) hq
      have hra : (rt (LL.take q)).length = 32 := rt_32 (fun x h => h32 x (List.mem_of_mem_take h))
      have hrb : (rt LL).length = 32 := rt_32 h32
      have hqe : q = LL.length → rt (LL.take q) = rt LL := fun h => by rw [h, List.take_length]
      have hs := ho.strs
      have hSt := Lib.hid (fun w (hb : Below wr.heap.size wr w) => step_any w _ LL (q : Int) (by omega) (by omega) (hs.below hb) (by omega) (fun x h => by have := h32 x h; omega) ((HT.out.on hB).on hb).u ((HZ.out.below hB).below hb))
      rw [hSA, hSE] at hSt
      have hRb := Lib.hid (fun w (hb : Below wr.heap.size wr w) => refRoot_any LL w _ (row_of (by omega) h32) (hs.below hb))
      have hRa := Lib.hid (fun w (hb : Below wr.heap.size wr w) v (hv : Strs w v (LL.take q)) => refRoot_any (LL.take q) w v (row_of (by rw [List.length_take]; omega) (fun x h => h32 x (List.mem_of_mem_take h))) hv)
      have hlo := HLf.out (o.take 50) (by rw [List.length_take]; omega)
      have HLo := Lib.hid hlo
      clear hlo
      have hno : rt LL = lf (o.take 50) ∨ rt LL ≠ lf (o.take 50) := Classical.em _
      have hrc : (lf (o.take 50)).length = 32 := lf_length _
      have HG := Lib.hid (fun w (hb : Below W.heap.size W w) s r t g s2 r2 t2 g2 v ps (hv : Strs w v ps) (hl : ∀ x ∈ ps, x.length ≤ maxLen) => goesH_any s r t g s2 r2 t2 g2 v ps w hv hl (HT.out.on hb).u (HZ.out.below hb))
      have HSs : Hid (∀ x ∈ SA, x.length ≤ maxLen) := Lib.hid (fun x h => by rw [hS32 x h]; decide)
      have HQ := Lib.hid (goes_log (n := LL.length) hq (by omega) hra hrb hqe hS0)
      have HLs := Lib.hid (fun (h : q < LL.length) => goes_less (n := LL.length) SA h (by omega) hra hrb)
      have HSp := Lib.hid (fun (ps : List (List UInt8)) (h : rt LL ≠ lf (o.take 50)) => goes_split (n := LL.length) ps (by omega) hrb hrc h)
      have HSq := Lib.hid (fun (ps : List (List UInt8)) (h : rt LL ≠ lf (o.take 50)) => goes_split (n := LL.length) ps (by omega) hrc hrb (Ne.symm h))
      clear hSA hSE hS32 hS50 hS0 h32 hra hrb hqe hrc
      have HHs := Lib.hid hs
      obtain ⟨a1, c1, e1, hl1, hl2, hl3⟩ := id hs
      injection e1 with e2 e3 e4
      subst e2 e4
      have hqc : (q : Int) ≤ (cL : Int) := by omega
      unfold maxLen at hl2
      clear hl3 hs
      have hBr := Below.refl wr.heap.size wr
      have hcutO : (bytesOf o).extract 0 (min (o.length : Int) 50).toNat = bytesOf (o.take 50) := cut_bytes o 50 50 rfl
      have hzo := bytes_int o
      have HGab := Lib.hid (fun w hb v hv => HG.out w hb (q : Int) (rt (LL.take q)) 1 z64 (LL.length : Int) (rt LL) 2 z64 v SA hv HSs.out)
      have HGba := Lib.hid (fun w hb v hv => HG.out w hb (LL.length : Int) (rt LL) 2 z64 (q : Int) (rt (LL.take q)) 1 z64 v SA hv HSs.out)
      have HGbc := Lib.hid (fun w hb v hv => HG.out w hb (LL.length : Int) (rt LL) 2 z64 (LL.length : Int) (lf (o.take 50)) 2 z64 v SA hv HSs.out)
      have HGcb := Lib.hid (fun w hb => HG.out w hb (LL.length : Int) (lf (o.take 50)) 2 z64 (LL.length : Int) (rt LL) 2 z64 _ [] (Strs.nil w) (fun x hx => by cases hx))
      rw [HQ.out] at HGab
      clear HQ HG HSs HLf
      generalize rt (LL.take q) = RA at *
      generalize rt LL = RB at *
      generalize lf (o.take 50) = RC at *
      go_upto_region 11 with (at_make; refine wpList_make_full _ rfl _ _ 37 rfl wr.heap.size 5 i0 (.int .u8 0) 1 Tryz.underlying37 hi hz0 hz1 _ _ _ _ 64 rfl rfl rfl rfl ?b2 ?b3 (Nat.le_refl _) ?_)
      case b3 => unfold maxLen; omega
      intro wm hown hgrow
      have hbm : Below wr.heap.size wr wm := (Below.refl _ _).grown hgrow (Nat.le_refl _) (fun k hk => by cases hk)
      have hcv := str_own (l := z64) (by rw [z64_cells]; simpa [toList_madeCells_one] using hown)
      clear hgrow hown
      replace hB := below_on hB hbm
      replace hBr := below_on hBr hbm
      clear hbm
      go_upto_region 12 with (first
        | (go_at_call 26; (with_reducible refine (hRa.out _ hBr _ (strs_first (HHs.out.below hBr) hq)).mono ?_); rintro e w1 ⟨rfl, hb⟩; replace hB := below_on hB hb; replace hBr := below_on hBr hb; clear hb))
      generalize hgw : World.alloc w1 _ = wA
      have hA : Lies wA w1.heap.size 23 (headA (q : Int) RA 1 z64) := by rw [← hgw]; exact Lies.new w1 _ _
      replace hB : Below W.heap.size W wA := by rw [← hgw]; exact hB.alloc hB.size _
      replace hBr : Below wr.heap.size wr wA := by rw [← hgw]; exact hBr.alloc hBr.size _
      clear hgw
      generalize w1.heap.size = ba at *
      go_upto_region 13 with (first
        | (go_at_call 26; (with_reducible refine (hRb.out _ hBr).mono ?_); rintro e w2 ⟨rfl, hb⟩; replace hA := hA.on hb; replace hB := below_on hB hb; replace hBr := below_on hBr hb; clear hb))
      generalize hgw : World.alloc w2 _ = wB
      have hBh : Lies wB w2.heap.size 23 (headA (LL.length : Int) RB 2 z64) := by rw [← hgw]; exact Lies.new w2 _ _
      replace hA : Lies wB ba 23 (headA (q : Int) RA 1 z64) := by rw [← hgw]; exact hA.alloc _
      replace hB : Below W.heap.size W wB := by rw [← hgw]; exact hB.alloc hB.size _
      replace hBr : Below wr.heap.size wr wB := by rw [← hgw]; exact hBr.alloc hBr.size _
      clear hgw
      generalize w2.heap.size = bb at *
      go_upto_region 14 with (first
        | ((with_reducible refine wpL_load bb 23 (headA (LL.length : Int) RB 2 z64) 4 rowHead rfl hBh ?_ ?_); rfl)
        | ((with_reducible refine wpL_store wB.heap.size 23 _ (headA (LL.length : Int) RB 2 z64) 4 rowHead ?_ rfl (headA_one _ _ _ _) (Lies.new wB _ _) ?_ ?_ ?_); rfl; rfl; rfl))
      have hnc : bb ≠ wB.heap.size := Nat.ne_of_lt hBh.lt
      have hna : ba ≠ wB.heap.size := Nat.ne_of_lt hA.lt
      have hwc : W.heap.size ≤ wB.heap.size := hB.size
      have hwr : wr.heap.size ≤ wB.heap.size := hBr.size
      simp only [Act.put]
      generalize hgw : World.setRow _ _ _ = wC
      have hC : Lies wC wB.heap.size 23 (headA (LL.length : Int) RB 2 z64) := by rw [← hgw]; exact newH_lies wB _ _ _
      replace hA : Lies wC ba 23 (headA (q : Int) RA 1 z64) := by rw [← hgw]; exact hA.on (newH wB _ _)
      replace hBh : Lies wC bb 23 (headA (LL.length : Int) RB 2 z64) := by rw [← hgw]; exact hBh.on (newH wB _ _)
      replace hB : Below W.heap.size W wC := by rw [← hgw]; exact below_on hB (newH wB _ _)
      replace hBr : Below wr.heap.size wr wC := by rw [← hgw]; exact below_on hBr (newH wB _ _)
      clear hgw
      generalize wB.heap.size = bc at *
      have g1 := hd_r hC
      clear g1
      go_upto_region 15 with (first
        | (go_at_call 25; (refine (HLo.out _ hB).mono ?_); rintro e w3 ⟨rfl, hb⟩; replace hA := hA.on hb; replace hBh := hBh.on hb; replace hC := hC.on hb; replace hB := below_on hB hb; replace hBr := below_on hBr hb; clear hb; have c1 := hd_r hC; have f1 := hC.frozen 1))
      clear c1 f1
      generalize hgw : World.setCell _ _ _ = w4
      replace hC : Lies w4 bc 23 (headA (LL.length : Int) RC 2 z64) := by rw [← hgw]; exact hC.put 1 _
      replace hA : Lies w4 ba 23 (headA (q : Int) RA 1 z64) := by rw [← hgw]; exact hA.far (p := ⟨bc, 1, none⟩) hna _
      replace hBh : Lies w4 bb 23 (headA (LL.length : Int) RB 2 z64) := by rw [← hgw]; exact hBh.far (p := ⟨bc, 1, none⟩) hnc _
      replace hB : Below W.heap.size W w4 := by rw [← hgw]; exact hB.setCell (p := ⟨bc, 1, none⟩) hwc _
      replace hBr : Below wr.heap.size wr w4 := by rw [← hgw]; exact hBr.setCell (p := ⟨bc, 1, none⟩) hwr _
      clear hgw
      go_upto_region 16 with (first
        | (go_at_call 27; (refine (hSt.out _ hBr).mono ?_); rintro e w5 ⟨a3, c3, rfl, hsS, hb⟩; replace hA := hA.on hb; replace hBh := hBh.on hb; replace hC := hC.on hb; replace hB := below_on hB hb; replace hBr := below_on hBr hb; clear hb))
      clear hSt hRa hRb HLo hcutO hzo HHs
      go_upto_region 18 with (first
        | ((with_reducible refine wpL_load ba 23 (headA (q : Int) RA 1 z64) 4 rowHead rfl hA ?_ ?_); rfl)
        | ((with_reducible refine wpL_load_gH ba 23 (headA (q : Int) RA 1 z64) 4 rowHead rfl hA ?_ ?_ ?_); rfl; rfl)
        | ((with_reducible refine wpL_load bb 23 (headA (LL.length : Int) RB 2 z64) 4 rowHead rfl hBh ?_ ?_); rfl)
        | ((with_reducible refine wpL_load_gH bb 23 (headA (LL.length : Int) RB 2 z64) 4 rowHead rfl hBh ?_ ?_ ?_); rfl; rfl)
        | ((with_reducible refine wpL_load bc 23 (headA (LL.length : Int) RC 2 z64) 4 rowHead rfl hC ?_ ?_); rfl)
        | ((with_reducible refine wpL_load_gH bc 23 (headA (LL.length : Int) RC 2 z64) 4 rowHead rfl hC ?_ ?_ ?_); rfl; rfl)
        | (go_at_call 23; (with_reducible refine (HGab.out _ hB _ hsS).mono ?_); rintro e w6 ⟨rfl, hb⟩; replace hsS := hsS.below hb; replace hA := hA.on hb; replace hBh := hBh.on hb; replace hC := hC.on hb; replace hB := below_on hB hb; replace hBr := below_on hBr hb; clear hb)
        | (go_at_call 14; (with_reducible refine (HAl.out _ hB).mono ?_); rintro e wa ⟨rfl, hb⟩; replace hsS := hsS.below hb; replace hA := hA.on hb; replace hBh := hBh.on hb; replace hC := hC.on hb; replace hB := below_on hB hb; replace hBr := below_on hBr hb; clear hb))
      clear HGab HAl
      by_cases hlt2 : q < LL.length
      · have hqi : (q : Int) < (LL.length : Int) := by omega
        rw [HLs.out hlt2] at HGba
        clear HLs hlt2
        go_upto_region 20 with (first
          | ((with_reducible refine wpL_load ba 23 (headA (q : Int) RA 1 z64) 4 rowHead rfl hA ?_ ?_); rfl)
          | ((with_reducible refine wpL_load_gH ba 23 (headA (q : Int) RA 1 z64) 4 rowHead rfl hA ?_ ?_ ?_); rfl; rfl)
          | ((with_reducible refine wpL_load bb 23 (headA (LL.length : Int) RB 2 z64) 4 rowHead rfl hBh ?_ ?_); rfl)
          | ((with_reducible refine wpL_load_gH bb 23 (headA (LL.length : Int) RB 2 z64) 4 rowHead rfl hBh ?_ ?_ ?_); rfl; rfl)
          | ((with_reducible refine wpL_load bc 23 (headA (LL.length : Int) RC 2 z64) 4 rowHead rfl hC ?_ ?_); rfl)
          | ((with_reducible refine wpL_load_gH bc 23 (headA (LL.length : Int) RC 2 z64) 4 rowHead rfl hC ?_ ?_ ?_); rfl; rfl)
          | (go_at_call 23; (with_reducible refine (HGba.out _ hB _ hsS).mono ?_); rintro e w7 ⟨rfl, hb⟩; replace hsS := hsS.below hb; replace hA := hA.on hb; replace hBh := hBh.on hb; replace hC := hC.on hb; replace hB := below_on hB hb; replace hBr := below_on hBr hb; clear hb))
        clear HGba
        rcases hno with hno | hno
        · subst hno
          have r1 := hd_r hC
          have r2 := hd_r hBh
          clear HGbc HGcb HSp HSq
          go_wp2
          go_ret
          exact ⟨rfl, hB⟩
        · rw [HSp.out SA hno] at HGbc
          rw [HSq.out [] hno] at HGcb
          have hne := toList_ne (Ne.symm hno)
          have r1 := hd_r hC
          have r2 := hd_r hBh
          clear HSp HSq hno
          go_wp2_with (first
            | ((with_reducible refine wpL_load ba 23 (headA (q : Int) RA 1 z64) 4 rowHead rfl hA ?_ ?_); rfl)
            | ((with_reducible refine wpL_load_gH ba 23 (headA (q : Int) RA 1 z64) 4 rowHead rfl hA ?_ ?_ ?_); rfl; rfl)
            | ((with_reducible refine wpL_load bb 23 (headA (LL.length : Int) RB 2 z64) 4 rowHead rfl hBh ?_ ?_); rfl)
            | ((with_reducible refine wpL_load_gH bb 23 (headA (LL.length : Int) RB 2 z64) 4 rowHead rfl hBh ?_ ?_ ?_); rfl; rfl)
            | ((with_reducible refine wpL_load bc 23 (headA (LL.length : Int) RC 2 z64) 4 rowHead rfl hC ?_ ?_); rfl)
            | ((with_reducible refine wpL_load_gH bc 23 (headA (LL.length : Int) RC 2 z64) 4 rowHead rfl hC ?_ ?_ ?_); rfl; rfl)
            | (go_at_call 23; (with_reducible refine (HGbc.out _ hB _ hsS).mono ?_); rintro e w8 ⟨rfl, hb⟩; replace hsS := hsS.below hb; replace hA := hA.on hb; replace hBh := hBh.on hb; replace hC := hC.on hb; replace hB := below_on hB hb; replace hBr := below_on hBr hb; clear hb)
            | (go_at_call 23; (with_reducible refine (HGcb.out _ hB).mono ?_); rintro e w9 ⟨rfl, hb⟩; replace hsS := hsS.below hb; replace hA := hA.on hb; replace hBh := hBh.on hb; replace hC := hC.on hb; replace hB := below_on hB hb; replace hBr := below_on hBr hb; clear hb))
          go_ret
          exact ⟨rfl, hB⟩
      · have hqi : ¬ (q : Int) < (LL.length : Int) := by omega
        clear HLs HGba hlt2
        go_upto_region 20 with fail
        rcases hno with hno | hno
        · subst hno
          have r1 := hd_r hC
          have r2 := hd_r hBh
          clear HGbc HGcb HSp HSq
          go_wp2
          go_ret
          exact ⟨rfl, hB⟩
        · rw [HSp.out SA hno] at HGbc
          rw [HSq.out [] hno] at HGcb
          have hne := toList_ne (Ne.symm hno)
          have r1 := hd_r hC
          have r2 := hd_r hBh
          clear HSp HSq hno
          go_wp2_with (first
            | ((with_reducible refine wpL_load ba 23 (headA (q : Int) RA 1 z64) 4 rowHead rfl hA ?_ ?_); rfl)
            | ((with_reducible refine wpL_load_gH ba 23 (headA (q : Int) RA 1 z64) 4 rowHead rfl hA ?_ ?_ ?_); rfl; rfl)
            | ((with_reducible refine wpL_load bb 23 (headA (LL.length : Int) RB 2 z64) 4 rowHead rfl hBh ?_ ?_); rfl)
            | ((with_reducible refine wpL_load_gH bb 23 (headA (LL.length : Int) RB 2 z64) 4 rowHead rfl hBh ?_ ?_ ?_); rfl; rfl)
            | ((with_reducible refine wpL_load bc 23 (headA (LL.length : Int) RC 2 z64) 4 rowHead rfl hC ?_ ?_); rfl)
            | ((with_reducible refine wpL_load_gH bc 23 (headA (LL.length : Int) RC 2 z64) 4 rowHead rfl hC ?_ ?_ ?_); rfl; rfl)
            | (go_at_call 23; (with_reducible refine (HGbc.out _ hB _ hsS).mono ?_); rintro e w8 ⟨rfl, hb⟩; replace hsS := hsS.below hb; replace hA := hA.on hb; replace hBh := hBh.on hb; replace hC := hC.on hb; replace hB := below_on hB hb; replace hBr := below_on hBr hb; clear hb)
            | (go_at_call 23; (with_reducible refine (HGcb.out _ hB).mono ?_); rintro e w9 ⟨rfl, hb⟩; replace hsS := hsS.below hb; replace hA := hA.on hb; replace hBh := hBh.on hb; replace hC := hC.on hb; replace hB := below_on hB hb; replace hBr := below_on hBr hb; clear hb))
          go_ret
          exact ⟨rfl, hB⟩
end Go.Proofs.YtdjglghecekeoaaGreatDoor.J
