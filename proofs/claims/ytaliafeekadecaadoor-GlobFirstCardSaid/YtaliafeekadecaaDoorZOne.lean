/- The developers' 'is one of': the parts side by side. -/
import Derived.Sort.CutIn
import Derived.Sort.QuietIn
import Derived.Test.YtaliafeekadecaaDoorZMay
namespace Go.Proofs.YtaliafeekadecaaDoor.Z
open Go.RowKit Go.Shelf
open V (Lies)
set_option maxRecDepth 100000

theorem res_three {fn : Func} {P : Program} {p q r : Tmp} {tmps : Array Value} {w : World} (h : fn.results = #[.tmp p, .tmp q, .tmp r]) : (results fn tmps).run P w = .ok (.tuple #[tmps.getD p undef, tmps.getD q undef, tmps.getD r undef]) w := by
  simp [results, h]
/-- a text cut at its first slash -/
theorem liteIndex_one (s : ByteArray) (w : World) : Calls Tryd.prog 49 #[.string s, .string ⟨#[47]⟩] w fun e w' => e = .returned (.int .i64 (Lib.indexByte s.data.toList 47)) ∧ w' = w := Tryd.stringslite_Index_one s 47 w
def cutPost (s : ByteArray) (w : World) (e : Ending) (w' : World) : Prop := Below w.heap.size w w' ∧
  (((∀ c ∈ s.data.toList, c ≠ 47) ∧ e = .returned (.tuple #[.string s, .string ⟨#[]⟩, .bool false])) ∨
   (∃ o, o < s.size ∧ s.data.toList = s.data.toList.take o ++ 47 :: s.data.toList.drop (o + 1) ∧ (∀ c ∈ s.data.toList.take o, c ≠ 47) ∧ e = .returned (.tuple #[.string (s.extract 0 o), .string (s.extract (o + 1) s.size), .bool true])))
set_option maxHeartbeats 3200000 in
theorem liteCut_any (s : ByteArray) (w : World) (hs : s.size ≤ 1000000) : Calls Tryd.prog 66 #[.string s, .string ⟨#[47]⟩] w fun e w' => cutPost s w e w' := by
  rcases first_slash s.data.toList with ⟨hi, hno⟩ | ⟨o, hi, ho, hcut, hno⟩
  · have HI := Lib.hid (fun (w : World) => by have h := liteIndex_one s w; rw [hi] at h; exact h)
    have HN := Lib.hid hno
    clear hi hno
    go_enter Tryd.func66, Tryd.ntmps66
    go_wp2_with (go_at_call 49; refine (HI.out _).mono ?_; rintro e w1 ⟨rfl, rfl⟩)
    refine bodyPost_ret (res_three rfl) rfl ?_
    exact ⟨Below.refl _ _, .inl ⟨HN.out, rfl⟩⟩
  · rw [list_len] at ho
    have HI := Lib.hid (fun (w : World) => by have h := liteIndex_one s w; rw [hi] at h; exact h)
    have HN := Lib.hid (And.intro hcut hno)
    have h1 : (0 : Int) ≤ (o : Int) := by omega
    have h2 : (o : Int) ≤ (s.size : Int) := by omega
    have h3 : (o : Int) + 1 ≤ (s.size : Int) := by omega
    clear hi hno hcut
    go_enter Tryd.func66, Tryd.ntmps66
    go_upto_region 3 with (go_at_call 49; refine (HI.out _).mono ?_; rintro e w1 ⟨rfl, rfl⟩)
    go_quiet (fail)
    go_wp2
    refine bodyPost_ret (res_three rfl) rfl ?_
    exact ⟨below_drawn (Below.refl _ _) _, .inr ⟨o, ho, HN.out.1, HN.out.2, rfl⟩⟩
theorem cut_any (s : ByteArray) (w : World) (hs : s.size ≤ 1000000) : Calls Tryd.prog 55 #[.string s, .string ⟨#[47]⟩] w fun e w' => cutPost s w e w' := by
  have HC := Lib.hid (fun w => liteCut_any s w hs)
  go_enter Tryd.func55, Tryd.ntmps55
  go_wp2_with (go_at_call 66; refine (HC.out _).mono ?_; rintro e w1 ⟨hb1, ⟨hno, rfl⟩ | ⟨o, ho, hcut, hno, rfl⟩⟩)
  · refine bodyPost_ret (res_three rfl) rfl ?_
    exact ⟨hb1, .inl ⟨hno, rfl⟩⟩
  · refine bodyPost_ret (res_three rfl) rfl ?_
    exact ⟨hb1, .inr ⟨o, ho, hcut, hno, rfl⟩⟩
/-- the parts of both, side by side -/
def pairs (m p : ByteArray) : List (ByteArray × ByteArray) := ((parts m.data.toList).map bytesOf).zip ((parts p.data.toList).map bytesOf)
theorem pairs_last {m p : ByteArray} (h1 : ∀ c ∈ m.data.toList, c ≠ 47) (h2 : ∀ c ∈ p.data.toList, c ≠ 47) : pairs m p = [(m, p)] := by
  unfold pairs
  rw [parts_none h1, parts_none h2]
  simp [bytesOf_data]
theorem parts_first {s : ByteArray} {o : Nat} (hcut : s.data.toList = s.data.toList.take o ++ 47 :: s.data.toList.drop (o + 1)) (hno : ∀ c ∈ s.data.toList.take o, c ≠ 47) :
    parts s.data.toList = (s.extract 0 o).data.toList :: parts (s.extract (o + 1) s.size).data.toList := by
  rw [extract_list, take_data]
  conv => lhs; rw [hcut]
  exact parts_cut hno
theorem pairs_first {m p : ByteArray} {o j : Nat} (h1 : m.data.toList = m.data.toList.take o ++ 47 :: m.data.toList.drop (o + 1)) (h2 : ∀ c ∈ m.data.toList.take o, c ≠ 47)
    (h3 : p.data.toList = p.data.toList.take j ++ 47 :: p.data.toList.drop (j + 1)) (h4 : ∀ c ∈ p.data.toList.take j, c ≠ 47) : pairs m p = (m.extract 0 o, p.extract 0 j) :: pairs (m.extract (o + 1) m.size) (p.extract (j + 1) p.size) := by
  unfold pairs
  rw [parts_first h1 h2, parts_first h3 h4, List.map_cons, List.map_cons, bytesOf_data, bytesOf_data]
  rfl
def moreN (v b : Value) : Nat := match b with
  | .bool true => 1 + strLen (some v)
  | _ => 0
attribute [local go_sem] Oper.semAt_some
theorem side_made (m p : ByteArray) (w : World) : Calls Tryd.prog 41 #[.string m, .string p] w fun e w' =>
    e = .returned (.func (.func 54) #[] #[.pointer (some ⟨w.heap.size, 0, none⟩), .pointer (some ⟨w.heap.size + 1, 0, none⟩)]) ∧
    Lies w' w.heap.size 9 #[.string m] ∧ Lies w' (w.heap.size + 1) 9 #[.string p] ∧ w'.heap.size = w.heap.size + 2 ∧ Below w.heap.size w w' := by
  go_enter Tryd.func41, Tryd.ntmps41
  go_wp2
  go_ret
  have l0 := (Lies.new w 9 #[.string m]).alloc (.cells #[.string p] 9)
  have l1 := Lies.new (w.alloc (.cells #[.string m] 9)) 9 #[.string p]
  have e1 : (w.alloc (.cells #[.string m] 9)).heap.size = w.heap.size + 1 := by simp
  rw [e1] at l1
  exact ⟨by simp, l0, l1, by simp, ((Below.refl _ w).alloc (Nat.le_refl _) _).alloc (by simp) _⟩
set_option maxHeartbeats 6400000 in
theorem side_hands (m0 p0 : ByteArray) (hm : m0.size ≤ 1000000) (hp : p0.size ≤ 1000000) (hlen : (parts m0.data.toList).length = (parts p0.data.toList).length) (w : World) (B : Nat) (c0 : Lies w B 9 #[.string m0]) (c1 : Lies w (B + 1) 9 #[.string p0]) :
    Hands Tryd.prog 54 #[.pointer (some ⟨B, 0, none⟩), .pointer (some ⟨B + 1, 0, none⟩)] (fun x : ByteArray × ByteArray => #[.string x.1, .string x.2]) B (B + 2) B (pairs m0 p0) w := by
  intro l J Jx W hW hWs hJs hJxs hJb hJxb hY h0
  replace c0 : Lies W B 9 #[.string m0] := (hW B (by omega) (by omega)).trans c0
  replace c1 : Lies W (B + 1) 9 #[.string p0] := (hW (B + 1) (by omega) (by omega)).trans c1
  clear hW hJs hJxs
  refine callsIn_of_wp Tryd.func54 rfl trivial ?_ rfl
  simp only [Tryd.ntmps54, List.size_toArray, List.length_cons, List.length_nil, Nat.reduceAdd, Nat.reduceSub, Array.replicate_succ, Array.replicate_zero, List.push_toArray, List.append_toArray, List.nil_append, List.cons_append]
  have q0 := c0.cell 0
  have q1 := c1.cell 0
  simp only [List.getElem?_toArray, List.getElem?_cons_zero] at q0 q1
  have hm0 : Tryd.prog.follows .mixedOrders = true := by kernel_rfl
  gi_upto_region 0 with fail
  gi_quiet (fail)
  gi_wp2
  have HC := Lib.hid (fun (s : ByteArray) (w : World) (hs : s.size ≤ 1000000) => callsIn_wide (n := 2).2 (cut_any s w hs))
  gi_loopw [4, 5, 6, 7, 8] (fun mv pv bv _ _ wr => ∃ (pre : List (ByteArray × ByteArray)) (m p : ByteArray), mv = .string m ∧ pv = .string p ∧ J pre wr ∧ B + 2 ≤ wr.heap.size ∧ ((bv = .bool false ∧ pre = pairs m0 p0) ∨ (bv = .bool true ∧ m.size ≤ 1000000 ∧ p.size ≤ 1000000 ∧ (parts m.data.toList).length = (parts p.data.toList).length ∧ pairs m0 p0 = pre ++ pairs m p))) (fun mv _ bv _ _ _ => moreN mv bv)
  case atStart => exact ⟨[], m0, p0, rfl, rfl, hJb _ _ _ (below_drawn (Below.refl _ _) _) h0, hWs, .inr ⟨rfl, hm, hp, hlen, rfl⟩⟩
  case round =>
    obtain ⟨pre, m, p, rfl, rfl, hJ, hz, ⟨rfl, hall⟩ | ⟨rfl, hms, hps, hl2, hall⟩⟩ := hrel
    · gi_wp2
      go_end0
      exact ⟨⟨_, rfl⟩, .inl (by rw [← hall]; exact hJ)⟩
    · clear c0 c1 q0 q1 h0 hWs
      have HP := Lib.hid (fun w => HC.out p w hps)
      gi_upto_region 5 with (refine ⟨trivial, ?_⟩; gi_at_call 55; refine (HC.out m _ hms).mono ?_; rintro e w1 ⟨hb1, ⟨hno, rfl⟩ | ⟨o, ho, hcut, hno, rfl⟩⟩)
      · clear HC
        have hJ1 := hJb _ _ _ hb1 hJ
        have hz1 := Nat.le_trans hz hb1.size
        gi_upto_region 6 with (refine ⟨trivial, ?_⟩; gi_at_call 55; refine (HP.out _).mono ?_; rintro e w2 ⟨hb2, ⟨hno2, rfl⟩ | ⟨o2, ho2, hcut2, hno2, rfl⟩⟩)
        · have hJ2 := hJb _ _ _ hb2 hJ1
          have hz2 := Nat.le_trans hz1 hb2.size
          have hlast := pairs_last hno hno2
          obtain ⟨fn, tmps, assign, body, hy, hR⟩ := hY pre (m, p) w2 hJ2 (by rw [hall, hlast]; simp) hz2
          dsimp only at hy
          gi_wp2
          refine hR.mono ?_
          rintro e W3 (⟨rfl, hJ3, _, hsz3⟩ | ⟨rfl, hJx3⟩)
          · gi_wp2
            go_roundw
            case rel => exact ⟨pre ++ [(m, p)], _, _, rfl, rfl, hJ3, Nat.le_trans hz2 hsz3, .inl ⟨rfl, by rw [hall, hlast]⟩⟩
            case measure => simp [moreN]; omega
          · gi_wp2
            refine bodyPost_ret (results_none rfl _ _ _) rfl ?_
            exact ⟨⟨_, rfl⟩, .inr ⟨pre ++ [(m, p)], by rw [hall, hlast]; exact List.prefix_refl _, hJx3⟩⟩
        · exfalso
          rw [parts_none hno, parts_first hcut2 hno2, List.length_cons, List.length_nil, List.length_cons, cutG_len] at hl2
          omega
      · clear HC
        have hJ1 := hJb _ _ _ hb1 hJ
        have hz1 := Nat.le_trans hz hb1.size
        gi_upto_region 6 with (refine ⟨trivial, ?_⟩; gi_at_call 55; refine (HP.out _).mono ?_; rintro e w2 ⟨hb2, ⟨hno2, rfl⟩ | ⟨o2, ho2, hcut2, hno2, rfl⟩⟩)
        · exfalso
          rw [parts_none hno2, parts_first hcut hno, List.length_cons, List.length_cons, List.length_nil, cutG_len] at hl2
          omega
        · have hJ2 := hJb _ _ _ hb2 hJ1
          have hz2 := Nat.le_trans hz1 hb2.size
          have hfirst := pairs_first hcut hno hcut2 hno2
          have hl3 : (parts (m.extract (o + 1) m.size).data.toList).length = (parts (p.extract (o2 + 1) p.size).data.toList).length := by
            rw [parts_first hcut hno, parts_first hcut2 hno2, List.length_cons, List.length_cons] at hl2
            omega
          have hm3 : (m.extract (o + 1) m.size).size = m.size - (o + 1) := by simp [ByteArray.size_extract]
          have hp3 : (p.extract (o2 + 1) p.size).size = p.size - (o2 + 1) := by simp [ByteArray.size_extract]
          obtain ⟨fn, tmps, assign, body, hy, hR⟩ := hY pre (m.extract 0 o, p.extract 0 o2) w2 hJ2 (by rw [hall, hfirst]; simp) hz2
          dsimp only at hy
          gi_wp2
          refine hR.mono ?_
          rintro e W3 (⟨rfl, hJ3, _, hsz3⟩ | ⟨rfl, hJx3⟩)
          · gi_wp2
            go_roundw
            case rel => exact ⟨pre ++ [(m.extract 0 o, p.extract 0 o2)], _, _, rfl, rfl, hJ3, Nat.le_trans hz2 hsz3, .inr ⟨rfl, by omega, by omega, hl3, by rw [hall, hfirst]; simp⟩⟩
            case measure => simp only [moreN, strLen]; simp; omega
          · gi_wp2
            refine bodyPost_ret (results_none rfl _ _ _) rfl ?_
            exact ⟨⟨_, rfl⟩, .inr ⟨pre ++ [(m.extract 0 o, p.extract 0 o2)], by rw [hall, hfirst]; simp, hJx3⟩⟩
end Go.Proofs.YtaliafeekadecaaDoor.Z
