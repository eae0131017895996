/- strings.SplitSeq at a slash: it hands on the text's parts. -/
import Derived.RangeFuncBox
import Derived.RangeFuncLeaves
import Derived.Shelf.Abstract
import Derived.WalkKit
import Derived.OwnWalkIn
import Derived.TacticsInMore
import Derived.LoopNIn
import Derived.LoopIn
import Derived.Lib.IndexLaws
import Derived.Test.YtaliafeekadecaaDoorZRange
import Derived.Test.YtaliafeekadecaaDoorZSmall
import Derived.Test.YtaliafeekadecaaDoorVLies
namespace Go.Proofs.YtaliafeekadecaaDoor.Z
open Go.RowKit Go.Shelf
open V (Lies)
set_option maxRecDepth 100000
attribute [local go_sem] Oper.semAt_some

def bytesOf (l : List UInt8) : ByteArray := ⟨l.toArray⟩
theorem bytesOf_data (s : ByteArray) : bytesOf s.data.toList = s := data_list s
def strLen : Option Value → Nat
  | some (.string s) => s.size
  | _ => 0
/-- the first slash, or that there is none -/
theorem first_slash (l : List UInt8) : (Lib.indexByte l 47 = -1 ∧ ∀ c ∈ l, c ≠ 47) ∨ ∃ o : Nat, Lib.indexByte l 47 = (o : Int) ∧ o < l.length ∧ l = l.take o ++ 47 :: l.drop (o + 1) ∧ ∀ c ∈ l.take o, c ≠ 47 := by
  have hge := Lib.indexByte_ge l 47
  by_cases h : Lib.indexByte l 47 = -1
  · left
    refine ⟨h, fun c hc e => ?_⟩
    obtain ⟨k, hk, rfl⟩ := List.getElem_of_mem hc
    exact Lib.indexByte_none h k (by rw [List.getElem?_eq_getElem hk, e])
  · right
    obtain ⟨o, ho⟩ : ∃ o : Nat, Lib.indexByte l 47 = (o : Int) := ⟨(Lib.indexByte l 47).toNat, by omega⟩
    obtain ⟨h1, h2⟩ := Lib.indexByte_some ho
    obtain ⟨hlt, he⟩ := List.getElem?_eq_some_iff.1 h1
    refine ⟨o, ho, hlt, ?_, fun c hc e => ?_⟩
    · have := (List.take_append_drop o l).symm
      rw [List.drop_eq_getElem_cons hlt, he] at this
      exact this
    · obtain ⟨k, hk, rfl⟩ := List.getElem_of_mem hc
      rw [List.length_take] at hk
      rw [List.getElem_take] at e
      exact h2 k (by omega) (by rw [List.getElem?_eq_getElem (by omega), e])
theorem take_data (s : ByteArray) (o : Nat) : (s.extract 0 o).data.toList = s.data.toList.take o := by
  rw [ByteArray.data_extract, Array.toList_extract, List.extract_eq_take_drop]
  simp
theorem setR {w : World} {g : Nat} {t : TypeId} {v : Value} (h : Lies w g t #[v]) (u : Value) : Lies (w.setCell ⟨g, 0, none⟩ u) g t #[u] := h.put 0 u
/-- the maker: three variables -/
theorem split_made (s : ByteArray) (w : World) : Calls Tryd.prog 43 #[.string s, .string ⟨#[47]⟩] w fun e w' =>
    e = .returned (.func (.func 73) #[] #[.pointer (some ⟨w.heap.size + 1, 0, none⟩), .pointer (some ⟨w.heap.size, 0, none⟩), .pointer (some ⟨w.heap.size + 2, 0, none⟩)]) ∧
    Lies w' w.heap.size 9 #[.string s] ∧ Lies w' (w.heap.size + 1) 9 #[.string ⟨#[47]⟩] ∧ Lies w' (w.heap.size + 2) 3 #[.int .i64 0] ∧ w'.heap.size = w.heap.size + 3 ∧ Below w.heap.size w w' := by
  have H : Calls Tryd.prog 57 #[.string s, .string ⟨#[47]⟩, .int .i64 0] w fun e w' =>
    e = .returned (.func (.func 73) #[] #[.pointer (some ⟨w.heap.size + 1, 0, none⟩), .pointer (some ⟨w.heap.size, 0, none⟩), .pointer (some ⟨w.heap.size + 2, 0, none⟩)]) ∧
    Lies w' w.heap.size 9 #[.string s] ∧ Lies w' (w.heap.size + 1) 9 #[.string ⟨#[47]⟩] ∧ Lies w' (w.heap.size + 2) 3 #[.int .i64 0] ∧ w'.heap.size = w.heap.size + 3 ∧ Below w.heap.size w w' := by
    go_enter Tryd.func57, Tryd.ntmps57
    go_wp2
    go_ret
    have l0 := ((Lies.new w 9 #[.string s]).alloc (.cells #[.string ⟨#[47]⟩] 9)).alloc (.cells #[.int .i64 0] 3)
    have l1 := (Lies.new (w.alloc (.cells #[.string s] 9)) 9 #[.string ⟨#[47]⟩]).alloc (.cells #[.int .i64 0] 3)
    have l2 := Lies.new ((w.alloc (.cells #[.string s] 9)).alloc (.cells #[.string ⟨#[47]⟩] 9)) 3 #[.int .i64 0]
    have e1 : (w.alloc (.cells #[.string s] 9)).heap.size = w.heap.size + 1 := by simp
    have e2 : ((w.alloc (.cells #[.string s] 9)).alloc (.cells #[.string ⟨#[47]⟩] 9)).heap.size = w.heap.size + 2 := by simp
    rw [e1] at l1
    rw [e2] at l2
    refine ⟨by simp, l0, l1, l2, by simp, (((Below.refl _ w).alloc (Nat.le_refl _) _).alloc (by simp) _).alloc (by simp; omega) _⟩
  go_enter Tryd.func43, Tryd.ntmps43
  go_wp2_with (go_at_call 57; refine H.mono ?_; rintro e w1 ⟨rfl, hw⟩)
  go_ret
  exact ⟨rfl, hw⟩
set_option maxHeartbeats 6400000 in
theorem split_hands (s : ByteArray) (hs : s.size ≤ 1000000) (w : World) (B : Nat) (c0 : Lies w B 9 #[.string s]) (c1 : Lies w (B + 1) 9 #[.string ⟨#[47]⟩]) (c2 : Lies w (B + 2) 3 #[.int .i64 0]) :
    Hands Tryd.prog 73 #[.pointer (some ⟨B + 1, 0, none⟩), .pointer (some ⟨B, 0, none⟩), .pointer (some ⟨B + 2, 0, none⟩)] (fun x : ByteArray => #[.string x]) B (B + 3) B ((parts s.data.toList).map bytesOf) w := by
  intro l J Jx W hW hWs hJs hJxs hJb hJxb hY h0
  replace c0 : Lies W B 9 #[.string s] := (hW B (by omega) (by omega)).trans c0
  replace c1 : Lies W (B + 1) 9 #[.string ⟨#[47]⟩] := (hW (B + 1) (by omega) (by omega)).trans c1
  replace c2 : Lies W (B + 2) 3 #[.int .i64 0] := (hW (B + 2) (by omega) (by omega)).trans c2
  clear hW
  refine callsIn_of_wp Tryd.func73 rfl trivial ?_ rfl
  simp only [Tryd.ntmps73, List.size_toArray, List.length_cons, List.length_nil, Nat.reduceAdd, Nat.reduceSub, Array.replicate_succ, Array.replicate_zero, List.push_toArray, List.append_toArray, List.nil_append, List.cons_append]
  have q1 := c1.cell 0
  simp only [List.getElem?_toArray, List.getElem?_cons_zero] at q1
  gi_wp2
  gi_loopw [7, 8] (fun _ _ wr => ∃ (pre : List ByteArray) (r : ByteArray), (parts s.data.toList).map bytesOf = pre ++ (parts r.data.toList).map bytesOf ∧ r.size ≤ s.size ∧ Lies wr B 9 #[.string r] ∧ Lies wr (B + 1) 9 #[.string ⟨#[47]⟩] ∧ Lies wr (B + 2) 3 #[.int .i64 0] ∧ J pre wr) (fun _ _ wr => strLen (wr.cell? ⟨B, 0, none⟩))
  case atStart => exact ⟨[], s, rfl, Nat.le_refl _, c0, c1, c2, h0⟩
  case round =>
    obtain ⟨pre, r, hparts, hr, lr, l1, l2, hJ⟩ := hrel
    clear c0 c1 c2 q1 h0
    have q0 := lr.cell 0
    have q1 := l1.cell 0
    have q2 := l2.cell 0
    simp only [List.getElem?_toArray, List.getElem?_cons_zero] at q0 q1 q2
    have f0 := lr.frozen 0
    rcases first_slash r.data.toList with ⟨hi, hno⟩ | ⟨o, hi, ho, hcut, hno⟩
    · have HI := Lib.hid (fun (w : World) => by have h := Tryd.strings_Index_one r 47 w; rw [hi] at h; exact h)
      have hall : pre ++ [r] = (parts s.data.toList).map bytesOf := by rw [hparts, parts_none hno]; simp [bytesOf_data]
      obtain ⟨fn, tmps, assign, body, hy, hR⟩ := hY pre r wr hJ (by rw [← hall]; simp) (by have := l2.lt; omega)
      clear hi hno hparts
      gi_wp2_with (refine ⟨trivial, ?_⟩; gi_at_call 37; refine (callsIn_wide.2 (HI.out _)).mono ?_; rintro e w1 ⟨rfl, rfl⟩)
      refine hR.mono ?_
      rintro e W3 (⟨rfl, hJ3, _, _⟩ | ⟨rfl, hJx3⟩)
      · gi_wp2
        go_end0
        exact ⟨⟨_, rfl⟩, .inl (by rw [← hall]; exact hJ3)⟩
      · gi_wp2
        go_end0
        exact ⟨⟨_, rfl⟩, .inr ⟨pre ++ [r], by rw [hall]; exact List.prefix_refl _, hJx3⟩⟩
    · have HI := Lib.hid (fun (w : World) => by have h := Tryd.strings_Index_one r 47 w; rw [hi] at h; exact h)
      rw [list_len] at ho
      have hnext : (parts r.data.toList).map bytesOf = r.extract 0 o :: (parts (r.extract (o + 1) r.size).data.toList).map bytesOf := by
        rw [extract_list, ← bytesOf_data (r.extract 0 o), take_data]
        conv => lhs; rw [hcut]
        rw [parts_cut hno]
        rfl
      have hmem : r.extract 0 o ∈ (parts s.data.toList).map bytesOf := by rw [hparts, hnext]; simp
      have hp2 : (parts s.data.toList).map bytesOf = (pre ++ [r.extract 0 o]) ++ (parts (r.extract (o + 1) r.size).data.toList).map bytesOf := by rw [hparts, hnext]; simp
      obtain ⟨fn, tmps, assign, body, hy, hR⟩ := hY pre (r.extract 0 o) wr hJ hmem (by have := l2.lt; omega)
      have h1 : (0 : Int) ≤ (o : Int) := by omega
      have h2 : (o : Int) ≤ (r.size : Int) := by omega
      have h3 : (o : Int) + 1 ≤ (r.size : Int) := by omega
      clear hi hno hparts hnext hcut hmem
      gi_wp2_with (refine ⟨trivial, ?_⟩; gi_at_call 37; refine (callsIn_wide.2 (HI.out _)).mono ?_; rintro e w1 ⟨rfl, rfl⟩)
      refine hR.mono ?_
      rintro e W3 (⟨rfl, hJ3, hk3, _⟩ | ⟨rfl, hJx3⟩)
      · have lr3 : Lies W3 B 9 #[.string r] := (hk3 B (by omega) (by omega)).trans lr
        have l13 : Lies W3 (B + 1) 9 #[.string ⟨#[47]⟩] := (hk3 (B + 1) (by omega) (by omega)).trans l1
        have l23 : Lies W3 (B + 2) 3 #[.int .i64 0] := (hk3 (B + 2) (by omega) (by omega)).trans l2
        have p0 := lr3.cell 0
        have p1 := l13.cell 0
        simp only [List.getElem?_toArray, List.getElem?_cons_zero] at p0 p1
        have g0 := lr3.frozen 0
        gi_wp2
        go_roundw
        case rel => exact ⟨pre ++ [r.extract 0 o], r.extract (o + 1) r.size, hp2, by simp [ByteArray.size_extract]; omega, setR lr3 _, l13.far (by simp) _, l23.far (by simp) _, hJs _ _ _ hJ3⟩
        case measure =>
          have := (setR lr3 (.string (r.extract (o + 1) r.size))).cell 0
          simp only [List.getElem?_toArray, List.getElem?_cons_zero] at this
          rw [this, q0]
          simp [strLen, ByteArray.size_extract]
          omega
      · gi_wp2
        refine bodyPost_ret (results_none rfl _ _ _) rfl ?_
        exact ⟨⟨_, rfl⟩, .inr ⟨pre ++ [r.extract 0 o], by rw [hp2]; exact List.prefix_append _ _, hJx3⟩⟩
end Go.Proofs.YtaliafeekadecaaDoor.Z
