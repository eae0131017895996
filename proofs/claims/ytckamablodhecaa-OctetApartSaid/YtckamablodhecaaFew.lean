/- The contract of the statements' own call that takes few and short parts of a row. -/
import Derived.Test.YtckamablodhecaaUnpack
import Derived.Laws.AppendOwnNone
namespace Go.Proofs.Ytckamablodhecaa
open Go.RowKit

/-- few parts, each cut -/
def fewL (l : List (List UInt8)) : List (List UInt8) := (l.take 66).map (·.take 400)
theorem fewL_length (l : List (List UInt8)) : (fewL l).length ≤ 66 := by simp [fewL]; omega
theorem fewL_part {l : List (List UInt8)} {x : List UInt8} (h : x ∈ fewL l) : x.length ≤ 400 := by
  obtain ⟨y, _, rfl⟩ := List.mem_map.1 h
  simp; omega

/-- the row while it is cut: the first k are -/
def mixL (l : List (List UInt8)) (k : Nat) : List Value := ((l.take k).map (·.take 400) ++ l.drop k).map str
theorem mixL_zero (l : List (List UInt8)) : mixL l 0 = l.map str := by simp [mixL]
theorem mixL_end (l : List (List UInt8)) : mixL l l.length = (l.map (·.take 400)).map str := by simp [mixL]
theorem mixL_at {l : List (List UInt8)} {k : Nat} {x : List UInt8} (h : l[k]? = some x) : (mixL l k)[k]? = some (str x) := by
  have hlt := (List.getElem?_eq_some_iff.1 h).1
  unfold mixL
  rw [List.getElem?_map, List.getElem?_append_right (by simp; omega)]
  simp [Nat.min_eq_left (Nat.le_of_lt hlt), h]
theorem mixL_set {l : List (List UInt8)} {k : Nat} {x : List UInt8} (h : l[k]? = some x) : (mixL l k).set k (str (x.take 400)) = mixL l (k + 1) := by
  have hlt := (List.getElem?_eq_some_iff.1 h).1
  have hd : l.drop k = x :: l.drop (k + 1) := by rw [List.drop_eq_getElem_cons hlt]; congr 1; exact (List.getElem?_eq_some_iff.1 h).2
  unfold mixL
  rw [hd, show l.take (k + 1) = l.take k ++ [x] by rw [List.take_add_one, h]; rfl, List.map_append, List.set_append_right _ _ (by simp; omega)]
  simp [Nat.min_eq_left (Nat.le_of_lt hlt)]

theorem cut_to (x : List UInt8) : Value.string (({ data := x.toArray } : ByteArray).extract 0 (if (400 : Int) < (x.length : Int) then 400 else (x.length : Int)).toNat) = str (x.take 400) := by
  unfold str
  rw [Lib.extract_eq]
  by_cases h : (400 : Int) < (x.length : Int)
  · rw [if_pos h]; simp
  · rw [if_neg h]; simp; rw [List.take_of_length_le (by omega)]

set_option maxRecDepth 100000 in
set_option maxHeartbeats 1600000 in
theorem few_small (w : World) (b off c : Nat) (l : List (List UInt8)) (h0 : 0 < l.length) (h66 : l.length ≤ 66) (hc : l.length ≤ c) (hm : c ≤ maxLen) (hx : ∀ x ∈ l, x.length ≤ maxLen)
    (hcell : ∀ i x, l[i]? = some x → w.cell? ⟨b, off + i, none⟩ = some (str x)) :
    Calls Try.prog 18 #[.slice (some ⟨b, off, none⟩) l.length c] w fun e w' => ∃ v, e = .returned v ∧ Strs w' v (fewL l) ∧ Below w.heap.size w w' := by
  unfold maxLen at hm hx
  obtain ⟨i0, hi, hz0, hz1, hz2⟩ := info_parts info9
  have hown0 : (w.alloc (.cells #[] 9)).ownsRow w.heap.size 9 1 (.slice (some ⟨w.heap.size, 0, none⟩) 0 0) 0 [] := World.ownsRow_made w #[] 0 (Nat.le_refl _) (Nat.zero_le _) rfl
  have hTl : (l).length = l.length := by rfl
  have hlenT : ((l).map str).length = l.length * 1 := by rw [List.length_map, hTl, Nat.mul_one]
  have hnews : ∀ j u, ((l).map str)[j]? = some u → (w.alloc (.cells #[] 9)).cell? ((⟨b, off, none⟩ : Addr).add j) = some u := by
    intro j u hj
    rw [List.getElem?_map] at hj
    obtain ⟨x, hxj, rfl⟩ := Option.map_eq_some_iff.1 hj
    have hlj : l[j]? = some x := by exact hxj
    have h1 := hcell j x hlj
    have h2 : ((⟨b, off, none⟩ : Addr).add j) = ⟨b, off + j, none⟩ := by unfold Addr.add; split <;> simp_all
    rw [h2]
    exact (((Below.refl w.heap.size w).alloc (Nat.le_refl _) _).cell (p := ⟨b, off + j, none⟩) (World.block_lt_of_cell? w _ h1)).trans h1
  have hxT : ∀ (k : Nat) (x : List UInt8), (l)[k]? = some x → x.length ≤ 2 ^ 63 - 1 := fun k x h => hx x (List.mem_of_getElem? h)
  have hres : (l).map (·.take 400) = fewL l := by unfold fewL; rw [List.take_of_length_le (by omega)]
  have HR := Lib.hid hres
  have HL := Lib.hid hTl
  have HN := Lib.hid hnews
  have HX := Lib.hid hxT
  clear hres hTl hnews hxT hx hcell
  go_enter Try.func18, Try.ntmps18
  go_wp2_with (at_builtin; refine wpList_append_lies _ rfl _ _ 37 (by rfl) w.heap.size 9 i0 _ 1 16 Try.underlying37 hi hz0 hz1 hz2 rfl (by omega) _ 0 [] (by rfl) hown0 ⟨b, off, none⟩ l.length c (l.map str) (by rfl) hlenT HN.out (by intro u hu; obtain ⟨x, _, rfl⟩ := List.mem_map.1 hu; rfl) (by omega) (by unfold maxLen; omega) (by omega) (by simp) (w.heap.size + 1) (by simp) ?_; intro g cap w1 hown1 hgrow1 hat1 hlt1)
  simp only [Nat.zero_add, List.nil_append] at hown1
  have hb1 : Below w.heap.size w w1 := ((Below.refl w.heap.size w).alloc (Nat.le_refl _) _).grown hgrow1 (by simp) (fun j hj => (hown0.lt j hj).1)
  clear hown0 hgrow1 hat1 hlt1 hlenT HN
  go_loopw [14] (fun i wr => ∃ k : Nat, k ≤ l.length ∧ i = .int .i64 k ∧ wr.ownsRow w.heap.size 9 1 (.slice (some ⟨g, 0, none⟩) l.length cap) l.length (mixL l k) ∧ Below w.heap.size w wr) (fun i _ => l.length - (intOf i).toNat)
  case atStart => exact ⟨0, Nat.zero_le _, rfl, by rw [mixL_zero]; exact hown1, hb1⟩
  case round =>
    obtain ⟨k, hk, rfl, ho, hb⟩ := hrel
    by_cases hlt : k < l.length
    · obtain ⟨x, hxk⟩ : ∃ x, l[k]? = some x := ⟨l[k]'(by have := HL.out; omega), List.getElem?_eq_getElem _⟩
      have hxl := HX.out k x hxk
      have hc1 : wr.cell? ⟨g, k, none⟩ = some (.string ⟨x.toArray⟩) := (ho.cellAt k (by omega)).trans (mixL_at hxk)
      have hf1 := ho.frozenAt k
      have hst := (ho.stored k (str (x.take 400))).1
      rw [mixL_set hxk] at hst
      have HB := Lib.hid (hb.setCell (p := ⟨g, k, none⟩) (by exact (ho.lt g rfl).1) (str (x.take 400)))
      have HS := Lib.hid hst
      have HC := Lib.hid (cut_to x)
      clear hst hxk ho hown1 hb1
      go_wp2_with fail
      go_roundw
      case rel => exact ⟨k + 1, by omega, by go_num, by rw [HC.out]; exact HS.out, by rw [HC.out]; exact HB.out⟩
      case measure => simp [intOf]; omega
    · have HK := Lib.hid (show mixL l k = (fewL l).map str by rw [show k = l.length by have := HL.out; omega, mixL_end, HR.out])
      go_wp2_with fail
      go_ret
      exact ⟨_, rfl, Strs.owned (by rw [← HK.out]; exact ho), hb⟩

set_option maxRecDepth 100000 in
set_option maxHeartbeats 1600000 in
theorem few_great (w : World) (b off c : Nat) (l : List (List UInt8)) (h66 : 66 < l.length) (hc : l.length ≤ c) (hm : c ≤ maxLen) (hx : ∀ x ∈ l, x.length ≤ maxLen)
    (hcell : ∀ i x, l[i]? = some x → w.cell? ⟨b, off + i, none⟩ = some (str x)) :
    Calls Try.prog 18 #[.slice (some ⟨b, off, none⟩) l.length c] w fun e w' => ∃ v, e = .returned v ∧ Strs w' v (fewL l) ∧ Below w.heap.size w w' := by
  unfold maxLen at hm hx
  obtain ⟨i0, hi, hz0, hz1, hz2⟩ := info_parts info9
  have hown0 : (w.alloc (.cells #[] 9)).ownsRow w.heap.size 9 1 (.slice (some ⟨w.heap.size, 0, none⟩) 0 0) 0 [] := World.ownsRow_made w #[] 0 (Nat.le_refl _) (Nat.zero_le _) rfl
  have hTl : (l.take 66).length = 66 := by rw [List.length_take]; omega
  have hlenT : ((l.take 66).map str).length = 66 * 1 := by rw [List.length_map, hTl, Nat.mul_one]
  have hnews : ∀ j u, ((l.take 66).map str)[j]? = some u → (w.alloc (.cells #[] 9)).cell? ((⟨b, off, none⟩ : Addr).add j) = some u := by
    intro j u hj
    rw [List.getElem?_map] at hj
    obtain ⟨x, hxj, rfl⟩ := Option.map_eq_some_iff.1 hj
    have hlj : l[j]? = some x := by rw [List.getElem?_take] at hxj; split at hxj <;> simp_all
    have h1 := hcell j x hlj
    have h2 : ((⟨b, off, none⟩ : Addr).add j) = ⟨b, off + j, none⟩ := by unfold Addr.add; split <;> simp_all
    rw [h2]
    exact (((Below.refl w.heap.size w).alloc (Nat.le_refl _) _).cell (p := ⟨b, off + j, none⟩) (World.block_lt_of_cell? w _ h1)).trans h1
  have hxT : ∀ (k : Nat) (x : List UInt8), (l.take 66)[k]? = some x → x.length ≤ 2 ^ 63 - 1 := fun k x h => hx x (List.mem_of_mem_take (List.mem_of_getElem? h))
  have hres : (l.take 66).map (·.take 400) = fewL l := by rfl
  have HR := Lib.hid hres
  have HL := Lib.hid hTl
  have HN := Lib.hid hnews
  have HX := Lib.hid hxT
  clear hres hTl hnews hxT hx hcell
  generalize l.take 66 = T at HR HL HN HX hlenT
  go_enter Try.func18, Try.ntmps18
  go_wp2_with (at_builtin; refine wpList_append_lies _ rfl _ _ 37 (by rfl) w.heap.size 9 i0 _ 1 16 Try.underlying37 hi hz0 hz1 hz2 rfl (by omega) _ 0 [] (by rfl) hown0 ⟨b, off, none⟩ 66 c (T.map str) (by rfl) hlenT HN.out (by intro u hu; obtain ⟨x, _, rfl⟩ := List.mem_map.1 hu; rfl) (by omega) (by unfold maxLen; omega) (by omega) (by simp) (w.heap.size + 1) (by simp) ?_; intro g cap w1 hown1 hgrow1 hat1 hlt1)
  simp only [Nat.zero_add, List.nil_append] at hown1
  have hb1 : Below w.heap.size w w1 := ((Below.refl w.heap.size w).alloc (Nat.le_refl _) _).grown hgrow1 (by simp) (fun j hj => (hown0.lt j hj).1)
  clear hown0 hgrow1 hat1 hlt1 hlenT HN
  go_loopw [14] (fun i wr => ∃ k : Nat, k ≤ 66 ∧ i = .int .i64 k ∧ wr.ownsRow w.heap.size 9 1 (.slice (some ⟨g, 0, none⟩) 66 cap) 66 (mixL T k) ∧ Below w.heap.size w wr) (fun i _ => 66 - (intOf i).toNat)
  case atStart => exact ⟨0, Nat.zero_le _, rfl, by rw [mixL_zero]; exact hown1, hb1⟩
  case round =>
    obtain ⟨k, hk, rfl, ho, hb⟩ := hrel
    by_cases hlt : k < 66
    · obtain ⟨x, hxk⟩ : ∃ x, T[k]? = some x := ⟨T[k]'(by have := HL.out; omega), List.getElem?_eq_getElem _⟩
      have hxl := HX.out k x hxk
      have hc1 : wr.cell? ⟨g, k, none⟩ = some (.string ⟨x.toArray⟩) := (ho.cellAt k (by omega)).trans (mixL_at hxk)
      have hf1 := ho.frozenAt k
      have hst := (ho.stored k (str (x.take 400))).1
      rw [mixL_set hxk] at hst
      have HB := Lib.hid (hb.setCell (p := ⟨g, k, none⟩) (by exact (ho.lt g rfl).1) (str (x.take 400)))
      have HS := Lib.hid hst
      have HC := Lib.hid (cut_to x)
      clear hst hxk ho hown1 hb1
      go_wp2_with fail
      go_roundw
      case rel => exact ⟨k + 1, by omega, by go_num, by rw [HC.out]; exact HS.out, by rw [HC.out]; exact HB.out⟩
      case measure => simp [intOf]; omega
    · have HK := Lib.hid (show mixL T k = (fewL l).map str by rw [show k = T.length by have := HL.out; omega, mixL_end, HR.out])
      go_wp2_with fail
      go_ret
      exact ⟨_, rfl, Strs.owned (by rw [← HK.out]; exact ho), hb⟩

/-- an empty row -/
theorem few_none (w : World) : Calls Try.prog 18 #[.slice none 0 0] w fun e w' => ∃ v, e = .returned v ∧ Strs w' v (fewL []) ∧ Below w.heap.size w w' := by
  obtain ⟨i0, hi, hz0, hz1, hz2⟩ := info_parts info9
  have hown0 : (w.alloc (.cells #[] 9)).ownsRow w.heap.size 9 1 (.slice (some ⟨w.heap.size, 0, none⟩) 0 0) 0 [] := World.ownsRow_made w #[] 0 (Nat.le_refl _) (Nat.zero_le _) rfl
  go_enter Try.func18, Try.ntmps18
  go_wp2_with (at_builtin; refine wpList_append_own_none rfl _ _ 37 (by rfl) w.heap.size 9 i0 1 Try.underlying37 hi _ 0 [] (by rfl) hown0 (by rfl) ?_)
  have hb1 : Below w.heap.size w (w.alloc (.cells #[] 9)) := (Below.refl w.heap.size w).alloc (Nat.le_refl _) _
  go_loopw [14] (fun i wr => i = .int .i64 0 ∧ wr.ownsRow w.heap.size 9 1 (.slice (some ⟨w.heap.size, 0, none⟩) 0 0) 0 [] ∧ Below w.heap.size w wr) (fun _ _ => 0)
  case atStart => exact ⟨rfl, hown0, hb1⟩
  case round =>
    obtain ⟨rfl, ho, hb⟩ := hrel
    go_wp2_with fail
    go_ret
    exact ⟨_, rfl, Strs.owned (l := []) ho, hb⟩

/-- an empty row that is not nil -/
theorem few_empty (w : World) (ad : Addr) (c : Nat) : Calls Try.prog 18 #[.slice (some ad) 0 c] w fun e w' => ∃ v, e = .returned v ∧ Strs w' v (fewL []) ∧ Below w.heap.size w w' := by
  obtain ⟨i0, hi, hz0, hz1, hz2⟩ := info_parts info9
  have hown0 : (w.alloc (.cells #[] 9)).ownsRow w.heap.size 9 1 (.slice (some ⟨w.heap.size, 0, none⟩) 0 0) 0 [] := World.ownsRow_made w #[] 0 (Nat.le_refl _) (Nat.zero_le _) rfl
  go_enter Try.func18, Try.ntmps18
  go_wp2_with (at_builtin; refine wpList_append_own _ rfl _ _ 37 (by rfl) w.heap.size 9 i0 _ 1 16 Try.underlying37 hi hz0 hz1 hz2 rfl (by omega) _ 0 [] (by rfl) hown0 ad 0 c [] (by rfl) rfl (by intro j u hj; cases hj) (by intro u hu; cases hu) (by unfold maxLen; omega) (by omega) (by simp) ?_; intro v' w1 hown1 hgrow1 hnil1; obtain ⟨ao, cp, rfl⟩ := own_form hown1)
  simp only [Nat.zero_add, List.append_nil] at hown1
  have hb1 : Below w.heap.size w w1 := ((Below.refl w.heap.size w).alloc (Nat.le_refl _) _).grown hgrow1 (by simp) (fun j hj => (hown0.lt j hj).1)
  clear hown0 hgrow1 hnil1
  go_loopw [14] (fun i wr => i = .int .i64 0 ∧ wr.ownsRow w.heap.size 9 1 (.slice ao 0 cp) 0 [] ∧ Below w.heap.size w wr) (fun _ _ => 0)
  case atStart => exact ⟨rfl, hown1, hb1⟩
  case round =>
    obtain ⟨rfl, ho, hb⟩ := hrel
    go_wp2_with fail
    go_ret
    exact ⟨_, rfl, Strs.owned (l := []) ho, hb⟩

/-- whatever row: few of its parts, each cut -/
theorem few_any (w : World) (v : Value) (l : List (List UInt8)) (hl : Strs w v l) (hx : ∀ x ∈ l, x.length ≤ maxLen) :
    Calls Try.prog 18 #[v] w fun e w' => ∃ v', e = .returned v' ∧ Strs w' v' (fewL l) ∧ Below w.heap.size w w' := by
  obtain ⟨a, c, rfl, hc, hm, hn, hl⟩ := hl
  by_cases h0 : l = []
  · subst h0
    cases a with
    | none => rw [hn rfl]; exact few_none w
    | some ad => exact few_empty w ad c
  · obtain ⟨b, off, rfl, hcell⟩ := hl h0
    by_cases h66 : l.length ≤ 66
    · exact few_small w b off c l (List.length_pos_iff.2 h0) h66 hc hm hx hcell
    · exact few_great w b off c l (by omega) hc hm hx hcell

end Go.Proofs.Ytckamablodhecaa
