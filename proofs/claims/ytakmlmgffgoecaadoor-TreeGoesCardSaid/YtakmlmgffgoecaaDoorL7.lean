/- Texts that stand on one another, put together: RFew, RSame, RAlive, RRefSum, RRefMay, RRefParts, RAddMath, RRefAdd, Held. -/
import Derived.Test.YtakmlmgffgoecaaDoorL6
import Derived.Laws.AppendOwnNone
/- The contract of the statements' own call that takes few and short parts of a row. -/
namespace Go.Proofs.YtakmlmgffgoecaaDoor.R
open Go.RowKit Go.Sort Go.Proofs.YtakmlmgffgoecaaDoor.U

theorem own_form {w : World} {B : Nat} {e : TypeId} {v : Value} {n : Nat} {xs : List Value} (h : w.ownsRow B e 1 v n xs) : ∃ ao cap, v = .slice ao n cap := by
  rcases h.2 with ⟨rfl, h0⟩ | ⟨g, cap, cur, rfl, _⟩
  · exact ⟨none, 0, by rw [h0]⟩
  · exact ⟨some ⟨g, 0, none⟩, cap, rfl⟩
/-- few parts, each cut -/
def fewL (l : List (List UInt8)) : List (List UInt8) := (l.take 80).map (·.take 40)
theorem fewL_length (l : List (List UInt8)) : (fewL l).length ≤ 80 := by simp [fewL]; omega
theorem fewL_part {l : List (List UInt8)} {x : List UInt8} (h : x ∈ fewL l) : x.length ≤ 40 := by
  obtain ⟨y, _, rfl⟩ := List.mem_map.1 h
  simp; omega

/-- the row while it is cut: the first k are -/
def mixL (l : List (List UInt8)) (k : Nat) : List Value := ((l.take k).map (·.take 40) ++ l.drop k).map str
theorem mixL_zero (l : List (List UInt8)) : mixL l 0 = l.map str := by simp [mixL]
theorem mixL_end (l : List (List UInt8)) : mixL l l.length = (l.map (·.take 40)).map str := by simp [mixL]
theorem mixL_at {l : List (List UInt8)} {k : Nat} {x : List UInt8} (h : l[k]? = some x) : (mixL l k)[k]? = some (str x) := by
  have hlt := (List.getElem?_eq_some_iff.1 h).1
  unfold mixL
  rw [List.getElem?_map, List.getElem?_append_right (by simp; omega)]
  simp [Nat.min_eq_left (Nat.le_of_lt hlt), h]
theorem mixL_set {l : List (List UInt8)} {k : Nat} {x : List UInt8} (h : l[k]? = some x) : (mixL l k).set k (str (x.take 40)) = mixL l (k + 1) := by
  have hlt := (List.getElem?_eq_some_iff.1 h).1
  have hd : l.drop k = x :: l.drop (k + 1) := by rw [List.drop_eq_getElem_cons hlt]; congr 1; exact (List.getElem?_eq_some_iff.1 h).2
  unfold mixL
  rw [hd, show l.take (k + 1) = l.take k ++ [x] by rw [List.take_add_one, h]; rfl, List.map_append, List.set_append_right _ _ (by simp; omega)]
  simp [Nat.min_eq_left (Nat.le_of_lt hlt)]

theorem cut_bytes (x : List UInt8) (m : Nat) (mi : Int) (h : mi = (m : Int)) : (⟨x.toArray⟩ : ByteArray).extract 0 (min (x.length : Int) mi).toNat = ⟨(x.take m).toArray⟩ := by
  subst h
  rw [Lib.extract_eq]
  by_cases h : x.length ≤ m
  · rw [show (min (x.length : Int) (m : Int)).toNat = x.length by omega]
    simp [List.take_of_length_le h]
  · rw [show (min (x.length : Int) (m : Int)).toNat = m by omega]
    simp
theorem cut_to (x : List UInt8) : Value.string (({ data := x.toArray } : ByteArray).extract 0 (min (x.length : Int) 40).toNat) = str (x.take 40) := by
  rw [cut_bytes x 40 40 rfl]
  rfl

set_option maxRecDepth 100000 in
set_option maxHeartbeats 1600000 in
theorem few_great (w : World) (b off c : Nat) (l : List (List UInt8)) (h0 : 0 < l.length) (hc : l.length ≤ c) (hm : c ≤ maxLen) (hx : ∀ x ∈ l, x.length ≤ maxLen)
    (hcell : ∀ i x, l[i]? = some x → w.cell? ⟨b, off + i, none⟩ = some (str x)) :
    Calls Tryd.prog 9 #[.slice (some ⟨b, off, none⟩) l.length c] w fun e w' => ∃ v, e = .returned v ∧ Strs w' v (fewL l) ∧ Below w.heap.size w w' := by
  unfold maxLen at hm hx
  obtain ⟨i0, hi, hz0, hz1, hz2⟩ := info_parts infoStr
  have hown0 : (w.alloc (.cells #[] 9)).ownsRow w.heap.size 9 1 (.slice (some ⟨w.heap.size, 0, none⟩) 0 0) 0 [] := World.ownsRow_made w #[] 0 (Nat.le_refl _) (Nat.zero_le _) rfl
  obtain ⟨q, hq⟩ : ∃ q, (min (l.length : Int) 80).toNat = q := ⟨_, rfl⟩
  have hq80 : q ≤ 80 := by omega
  have hql : q ≤ l.length := by omega
  have hTl : (l.take 80).length = q := by rw [List.length_take]; omega
  have hlenT : ((l.take 80).map str).length = q * 1 := by rw [List.length_map, hTl, Nat.mul_one]
  have hnews : ∀ j u, ((l.take 80).map str)[j]? = some u → (w.alloc (.cells #[] 9)).cell? ((⟨b, off, none⟩ : Addr).add j) = some u := by
    intro j u hj
    rw [List.getElem?_map] at hj
    obtain ⟨x, hxj, rfl⟩ := Option.map_eq_some_iff.1 hj
    have hlj : l[j]? = some x := by rw [List.getElem?_take] at hxj; split at hxj <;> simp_all
    have h1 := hcell j x hlj
    have h2 : ((⟨b, off, none⟩ : Addr).add j) = ⟨b, off + j, none⟩ := by unfold Addr.add; split <;> simp_all
    rw [h2]
    exact (((Below.refl w.heap.size w).alloc (Nat.le_refl _) _).cell (p := ⟨b, off + j, none⟩) (World.block_lt_of_cell? w _ h1)).trans h1
  have hxT : ∀ (k : Nat) (x : List UInt8), (l.take 80)[k]? = some x → x.length ≤ 2 ^ 63 - 1 := fun k x h => hx x (List.mem_of_mem_take (List.mem_of_getElem? h))
  have hres : (l.take 80).map (·.take 40) = fewL l := by rfl
  have HR := Lib.hid hres
  have HL := Lib.hid hTl
  have HN := Lib.hid hnews
  have HX := Lib.hid hxT
  clear hres hTl hnews hxT hx hcell
  generalize l.take 80 = T at HR HL HN HX hlenT
  go_enter Tryd.func9, Tryd.ntmps9
  go_wp2_with (at_builtin; refine wpList_append_lies _ rfl _ _ 22 (by rfl) w.heap.size 9 i0 _ 1 16 Tryd.underlying22 hi hz0 hz1 hz2 rfl (by omega) _ 0 [] (by rfl) hown0 ⟨b, off, none⟩ q c (T.map str) (by rfl) hlenT HN.out (by intro u hu; obtain ⟨x, _, rfl⟩ := List.mem_map.1 hu; rfl) (by omega) (by unfold maxLen; omega) (by omega) (by simp) (w.heap.size + 1) (by simp) ?_; intro g cap w1 hown1 hgrow1 hat1 hlt1)
  simp only [Nat.zero_add, List.nil_append] at hown1
  have hb1 : Below w.heap.size w w1 := ((Below.refl w.heap.size w).alloc (Nat.le_refl _) _).grown hgrow1 (by simp) (fun j hj => (hown0.lt j hj).1)
  clear hown0 hgrow1 hat1 hlt1 hlenT HN
  go_loopw [14] (fun i wr => ∃ k : Nat, k ≤ q ∧ i = .int .i64 k ∧ wr.ownsRow w.heap.size 9 1 (.slice (some ⟨g, 0, none⟩) q cap) q (mixL T k) ∧ Below w.heap.size w wr) (fun i _ => q - (intOf i).toNat)
  case atStart => exact ⟨0, Nat.zero_le _, rfl, by rw [mixL_zero]; exact hown1, hb1⟩
  case round =>
    obtain ⟨k, hk, rfl, ho, hb⟩ := hrel
    by_cases hlt : k < q
    · obtain ⟨x, hxk⟩ : ∃ x, T[k]? = some x := ⟨T[k]'(by have := HL.out; omega), List.getElem?_eq_getElem _⟩
      have hxl := HX.out k x hxk
      have hc1 : wr.cell? ⟨g, k, none⟩ = some (.string ⟨x.toArray⟩) := (ho.cellAt k (by omega)).trans (mixL_at hxk)
      have hf1 := ho.frozenAt k
      have hst := (ho.stored k (str (x.take 40))).1
      rw [mixL_set hxk] at hst
      have HB := Lib.hid (hb.setCell (p := ⟨g, k, none⟩) (by exact (ho.lt g rfl).1) (str (x.take 40)))
      have HS := Lib.hid hst
      have HC := Lib.hid (cut_to x)
      clear hst hxk ho hown1 hb1
      go_wp2_with fail
      go_roundw
      case rel => exact ⟨k + 1, by omega, by go_num, by rw [HC.out]; exact HS.out, by rw [HC.out]; exact HB.out⟩
      case measure => simp [intOf]; omega
    · have HK := Lib.hid (show mixL T k = (fewL l).map str by rw [show k = T.length by have := HL.out; omega, mixL_end, HR.out])
      go_wp2_with fail
      go_ret
      exact ⟨_, rfl, Strs.owned (by rw [← HK.out]; exact ho), hb⟩

/-- an empty row -/
theorem few_none (w : World) : Calls Tryd.prog 9 #[.slice none 0 0] w fun e w' => ∃ v, e = .returned v ∧ Strs w' v (fewL []) ∧ Below w.heap.size w w' := by
  obtain ⟨i0, hi, hz0, hz1, hz2⟩ := info_parts infoStr
  have hown0 : (w.alloc (.cells #[] 9)).ownsRow w.heap.size 9 1 (.slice (some ⟨w.heap.size, 0, none⟩) 0 0) 0 [] := World.ownsRow_made w #[] 0 (Nat.le_refl _) (Nat.zero_le _) rfl
  go_enter Tryd.func9, Tryd.ntmps9
  go_wp2_with (at_builtin; refine wpList_append_own_none rfl _ _ 22 (by rfl) w.heap.size 9 i0 1 Tryd.underlying22 hi _ 0 [] (by rfl) hown0 (by rfl) ?_)
  have hb1 : Below w.heap.size w (w.alloc (.cells #[] 9)) := (Below.refl w.heap.size w).alloc (Nat.le_refl _) _
  go_loopw [14] (fun i wr => i = .int .i64 0 ∧ wr.ownsRow w.heap.size 9 1 (.slice (some ⟨w.heap.size, 0, none⟩) 0 0) 0 [] ∧ Below w.heap.size w wr) (fun _ _ => 0)
  case atStart => exact ⟨rfl, hown0, hb1⟩
  case round =>
    obtain ⟨rfl, ho, hb⟩ := hrel
    go_wp2_with fail
    go_ret
    exact ⟨_, rfl, Strs.owned (l := []) ho, hb⟩

/-- an empty row that is not nil -/
theorem few_empty (w : World) (ad : Addr) (c : Nat) : Calls Tryd.prog 9 #[.slice (some ad) 0 c] w fun e w' => ∃ v, e = .returned v ∧ Strs w' v (fewL []) ∧ Below w.heap.size w w' := by
  obtain ⟨i0, hi, hz0, hz1, hz2⟩ := info_parts infoStr
  have hown0 : (w.alloc (.cells #[] 9)).ownsRow w.heap.size 9 1 (.slice (some ⟨w.heap.size, 0, none⟩) 0 0) 0 [] := World.ownsRow_made w #[] 0 (Nat.le_refl _) (Nat.zero_le _) rfl
  go_enter Tryd.func9, Tryd.ntmps9
  go_wp2_with (at_builtin; refine wpList_append_own _ rfl _ _ 22 (by rfl) w.heap.size 9 i0 _ 1 16 Tryd.underlying22 hi hz0 hz1 hz2 rfl (by omega) _ 0 [] (by rfl) hown0 ad 0 c [] (by rfl) rfl (by intro j u hj; cases hj) (by intro u hu; cases hu) (by unfold maxLen; omega) (by omega) (by simp) ?_; intro v' w1 hown1 hgrow1 hnil1; obtain ⟨ao, cp, rfl⟩ := own_form hown1)
  simp only [Nat.zero_add, List.append_nil] at hown1
  have hb1 : Below w.heap.size w w1 := ((Below.refl w.heap.size w).alloc (Nat.le_refl _) _).grown hgrow1 (by simp) (fun j hj => (hown0.lt j hj).1)
  clear hown0 hgrow1 hnil1
  go_loopw [14] (fun i wr => i = .int .i64 0 ∧ wr.ownsRow w.heap.size 9 1 (.slice ao 0 cp) 0 [] ∧ Below w.heap.size w wr) (fun _ _ => 0)
  case atStart => exact ⟨rfl, hown1, hb1⟩
  case round =>
    obtain ⟨rfl, ho, hb⟩ := hrel
    go_wp2_with fail
    go_ret
    exact ⟨_, rfl, Strs.owned (l := []) ho, hb⟩

/-- whatever row: few of its parts, each cut -/
theorem few_any (w : World) (v : Value) (l : List (List UInt8)) (hl : Strs w v l) (hx : ∀ x ∈ l, x.length ≤ maxLen) :
    Calls Tryd.prog 9 #[v] w fun e w' => ∃ v', e = .returned v' ∧ Strs w' v' (fewL l) ∧ Below w.heap.size w w' := by
  obtain ⟨a, c, rfl, hc, hm, hn, hl⟩ := hl
  by_cases h0 : l = []
  · subst h0
    cases a with
    | none => rw [hn rfl]; exact few_none w
    | some ad => exact few_empty w ad c
  · obtain ⟨b, off, rfl, hcell⟩ := hl h0
    exact few_great w b off c l (List.length_pos_iff.2 h0) hc hm hx hcell

end Go.Proofs.YtakmlmgffgoecaaDoor.R

/- The contract of the reference's Same: are two rows the same? -/
namespace Go.Proofs.YtakmlmgffgoecaaDoor.R
open Go.RowKit Go.Sort Go.Proofs.YtakmlmgffgoecaaDoor.U

set_option maxHeartbeats 800000 in
/-- are two rows the same? -/
theorem same_any (w : World) (v u : Value) (l m : List (List UInt8)) (hl : Strs w v l) (hm : Strs w u m) :
    Calls Tryd.prog 25 #[v, u] w fun e w' => e = .returned (.bool (decide (l = m))) ∧ Below w.heap.size w w' := by
  obtain ⟨a, c, rfl, hc, hcm, hn, hl⟩ := hl
  obtain ⟨a', c', rfl, hc', hcm', hn', hm⟩ := hm
  unfold maxLen at hcm hcm'
  by_cases hlen : l.length = m.length
  · have hne : ((l.length : Int) != (m.length : Int)) = false := by simp; omega
    have HL := Lib.hid hlen
    clear hlen
    go_enter Tryd.func25, Tryd.ntmps25
    go_wp2
    go_loopw [13] (fun i wr => ∃ k : Nat, k ≤ l.length ∧ i = .int .i64 k ∧ Hid (l.take k = m.take k) ∧ Below w.heap.size w wr) (fun i _ => l.length - (intOf i).toNat)
    case atStart => exact ⟨0, Nat.zero_le _, rfl, rfl, Below.refl _ _⟩
    case round =>
      obtain ⟨k, hk, rfl, HT, hb⟩ := hrel
      by_cases hlt : k < l.length
      · have hltm : k < m.length := by have := HL.out; omega
        obtain ⟨b, off, rfl, hcell⟩ := hl (by intro h; subst h; simp at hlt)
        obtain ⟨b', off', rfl, hcell'⟩ := hm (by intro h; subst h; simp at hltm)
        obtain ⟨x, hxk⟩ : ∃ x, l[k]? = some x := ⟨l[k], List.getElem?_eq_getElem hlt⟩
        obtain ⟨y, hyk⟩ : ∃ y, m[k]? = some y := ⟨m[k], List.getElem?_eq_getElem hltm⟩
        have g1 := hcell k x hxk
        have g2 := hcell' k y hyk
        have hc1 : wr.cell? ⟨b, off + k, none⟩ = some (.string ⟨x.toArray⟩) := (hb.cell (p := ⟨b, off + k, none⟩) (World.block_lt_of_cell? w _ g1)).trans g1
        have hc2 : wr.cell? ⟨b', off' + k, none⟩ = some (.string ⟨y.toArray⟩) := (hb.cell (p := ⟨b', off' + k, none⟩) (World.block_lt_of_cell? w _ g2)).trans g2
        have e0 : (0 : Int) ≤ (k : Int) := by omega
        have e1 : (k : Int) < (l.length : Int) := by omega
        have e2 : (k : Int) < (m.length : Int) := by omega
        have HX := Lib.hid hxk
        have HY := Lib.hid hyk
        clear hxk hyk hcell hcell' g1 g2 hl hm
        go_wp2_with fail
        go_quiet (fail)
        by_cases hxy : x = y
        · subst hxy
          go_wp2
          · rename_i h
            simp at h
          · go_roundw
            case rel => exact ⟨k + 1, by omega, by go_num, Lib.hid (by rw [List.take_add_one, List.take_add_one, HX.out, HY.out, HT.out]), below_drewN hb _⟩
            case measure => simp [intOf]; omega
        · have HN := Lib.hid (show decide (l = m) = false by simp; intro h; subst h; exact hxy (Option.some.inj (HX.out.symm.trans HY.out)))
          have HQ := Lib.hid hxy
          clear hxy
          go_wp2
          · go_ret
            exact ⟨ret1_of (by rw [HN.out]; rfl), below_drewN hb _⟩
          · rename_i h
            simp at h
            exact absurd h HQ.out
      · have HN := Lib.hid (show decide (l = m) = true by
          have h1 := HT.out
          rw [List.take_of_length_le (by omega), List.take_of_length_le (by have := HL.out; omega)] at h1
          simp [h1])
        go_wp2
        go_ret
        exact ⟨ret1_of (by rw [HN.out]; rfl), hb⟩
  · have hne : ((l.length : Int) != (m.length : Int)) = true := by simp; omega
    have hd : decide (l = m) = false := by simp; intro h; rw [h] at hlen; exact hlen rfl
    rw [hd]
    go_enter Tryd.func25, Tryd.ntmps25
    go_wp2
    go_ret
    exact ⟨rfl, Below.refl _ _⟩
end Go.Proofs.YtakmlmgffgoecaaDoor.R

/- The contracts of the statements' own calls: three leaves' root; a tree with few and short parts. -/
namespace Go.Proofs.YtakmlmgffgoecaaDoor.R
open Go.RowKit Go.Sort Go.Proofs.YtakmlmgffgoecaaDoor.U
set_option maxRecDepth 100000

theorem spl2 : spl 2 = 1 := spl_is (j := 0) (by decide) (by decide)
theorem spl3 : spl 3 = 2 := spl_is (j := 1) (by decide) (by decide)
theorem rt_two (a b : List UInt8) : rt [a, b] = nd a b := by
  have h := rootL_two nd e0 (l := [a, b]) (Nat.le_refl 2)
  rw [show [a, b].length = 2 from rfl, spl2] at h
  exact h
theorem rt_three (a b c : List UInt8) : rt [a, b, c] = nd (nd a b) c := by
  have h := rootL_two nd e0 (l := [a, b, c]) (show 2 ≤ 3 by decide)
  rw [show [a, b, c].length = 3 from rfl, spl3] at h
  refine h.trans ?_
  show nd (rt [a, b]) c = _
  rw [rt_two]
theorem toList_of (s : List UInt8) : (bytesOf s).toList = s := by rw [ByteArray.toList_eq]; rfl
theorem bytes_ne {s : List UInt8} (h : s.length = 32) : (bytesOf s).toList.isEmpty = false := by
  rw [toList_of]
  cases s with
  | nil => cases h
  | cons x s => rfl
theorem row3 {a b c : List UInt8} (ha : a.length = 32) (hb : b.length = 32) (hc : c.length = 32) : rowB [a, b, c] = true := by
  unfold rowB allB
  simp [ha, hb, hc]

set_option maxHeartbeats 800000 in
theorem alive_any (w : World) (hT : Tab w) : Calls Tryd.prog 17 #[] w fun e w' => e = .returned (.bool true) ∧ Below w.heap.size w w' := by
  have HL := Lib.hid (fun (x : List UInt8) w' (hb : Below w.heap.size w w') (hx : x.length ≤ 10) => leaf_any x w' (by omega) (hT.below hb))
  obtain ⟨a, ha, ha32⟩ : ∃ a, lf [97] = a ∧ a.length = 32 := ⟨_, rfl, lf_length _⟩
  obtain ⟨b, hb, hb32⟩ : ∃ b, lf [98] = b ∧ b.length = 32 := ⟨_, rfl, lf_length _⟩
  obtain ⟨c, hc, hc32⟩ : ∃ c, lf [99] = c ∧ c.length = 32 := ⟨_, rfl, lf_length _⟩
  obtain ⟨d, hd, hd32⟩ : ∃ d, nd a b = d ∧ d.length = 32 := ⟨_, rfl, nd_length _ _⟩
  obtain ⟨s, hs, hs32⟩ : ∃ s, nd d c = s ∧ s.length = 32 := ⟨_, rfl, nd_length _ _⟩
  have HA := Lib.hid (fun w' (hb : Below w.heap.size w w') => HL.out [97] w' hb (by decide))
  have HB := Lib.hid (fun w' (hb : Below w.heap.size w w') => HL.out [98] w' hb (by decide))
  have HC := Lib.hid (fun w' (hb : Below w.heap.size w w') => HL.out [99] w' hb (by decide))
  have HD := Lib.hid (fun w' (hw : Below w.heap.size w w') => node_any a b w' (by omega) (by omega) (hT.below hw))
  have HS := Lib.hid (fun w' (hw : Below w.heap.size w w') => node_any d c w' (by omega) (by omega) (hT.below hw))
  have HRA : rootA [a, b, c] = #[.string (bytesOf s), .int .i64 0] := by unfold rootA; rw [if_pos (row3 ha32 hb32 hc32), rt_three, hd, hs]
  have HR := Lib.hid (fun w' (hw : Below w.heap.size w w') => root_any [a, b, c] (w'.alloc (.cells ([a, b, c].map str).toArray 9)) (.slice (some ⟨w'.heap.size, 0, none⟩) 3 3) (by intro x hx; simp only [List.mem_cons, List.not_mem_nil, or_false] at hx; unfold maxLen; rcases hx with rfl | rfl | rfl <;> omega) (strs_new w' [a, b, c] (show 3 ≤ 1000 by decide)) (hT.below (hw.alloc hw.size _)))
  rw [HRA] at HR
  rw [ha] at HA
  rw [hb] at HB
  rw [hc] at HC
  rw [hd] at HD
  rw [hs] at HS
  have hne := bytes_ne hs32
  have hB := Below.refl w.heap.size w
  clear HL HRA ha hb hc hd hs hT
  go_enter Tryd.func17, Tryd.ntmps17
  go_wp2_with (first
    | (go_at_call 11; first | (refine (HA.out _ hB).mono ?_; rintro e w1 ⟨rfl, hb1⟩; replace hB := below_on hB hb1) | (refine (HB.out _ hB).mono ?_; rintro e w2 ⟨rfl, hb2⟩; replace hB := below_on hB hb2) | (refine (HC.out _ hB).mono ?_; rintro e w3 ⟨rfl, hb3⟩; replace hB := below_on hB hb3))
    | (go_at_call 10; refine (HR.out _ hB).mono ?_; rintro e w4 ⟨rfl, hb4⟩; replace hB := below_on (hB.alloc hB.size _) hb4)
    | (go_at_call 13; first | (refine (HD.out _ hB).mono ?_; rintro e w5 ⟨rfl, hb5⟩; replace hB := below_on hB hb5) | (refine (HS.out _ hB).mono ?_; rintro e w6 ⟨rfl, hb6⟩; replace hB := below_on hB hb6)))
  go_ret
  exact ⟨rfl, hB⟩

theorem strs_only {w w' : World} {g : Nat} {t : TypeId} {cs : Array Value} {v : Value} {l : List (List UInt8)} (h : Strs w v l) (hl : Lies w g t cs) (hno : ∀ (i : Nat) x, cs[i]? ≠ some (str x)) (hO : Only g w w') : Strs w' v l := by
  obtain ⟨a, c, hv, hc, hm, hn, hcl⟩ := h
  refine ⟨a, c, hv, hc, hm, hn, fun hne => ?_⟩
  obtain ⟨b, off, ha, hx⟩ := hcl hne
  refine ⟨b, off, ha, fun i x hi => ?_⟩
  have h1 := hx i x hi
  have hlt := World.block_lt_of_cell? w _ h1
  by_cases hb : b = g
  · subst hb
    rw [hl.cell] at h1
    exact absurd h1 (hno _ _)
  · rw [World.cell?_of_block (hO.block b hlt (by intro e; injection e with e; exact hb e))]
    exact h1
theorem growA_str (n : Int) (a : Option Addr) (m c i : Nat) (x : List UInt8) : (growA n (.slice a m c))[i]? ≠ some (str x) := by
  match i with
  | 0 => intro h; cases h
  | 1 => intro h; cases h
  | i + 2 => intro h; simp [growA] at h
/-- a tree with few and short parts -/
theorem part_any (n : Int) (v : Value) (ps : List (List UInt8)) (w : World) (hs : Strs w v ps) (hx : ∀ x ∈ ps, x.length ≤ maxLen) :
    Calls Tryd.prog 19 #[.agg (growA n v)] w fun e w' => ∃ a c, e = .returned (.agg (growA n (.slice a (fewL ps).length c))) ∧ Strs w' (.slice a (fewL ps).length c) (fewL ps) ∧ Below w.heap.size w w' := by
  have hb1 := ((Below.refl w.heap.size w).alloc (Nat.le_refl _) (.cells (growA n v) 34)).alloc (by simp) (.cells noA 34)
  have hg : Lies ((w.alloc (.cells (growA n v) 34)).alloc (.cells noA 34)) w.heap.size 34 (growA n v) := Lies.alloc (Lies.new w _ _) _
  have hz : Lies ((w.alloc (.cells (growA n v) 34)).alloc (.cells noA 34)) (w.heap.size + 1) 34 noA := heap_alloc2_new w _ _
  have HF := Lib.hid (few_any _ v ps (hs.below hb1) hx)
  obtain ⟨ao, c, hv, _⟩ := hs
  subst hv
  unfold growA
  go_enter Tryd.func19, Tryd.ntmps19
  go_wp2_with (first
    | (go_at_call 9; refine HF.out.mono ?_; rintro e w3 ⟨v3, rfl, hs3, hb3⟩; obtain ⟨a3, c3, hv3, _⟩ := id hs3; subst hv3; replace hg := hg.on hb3; replace hz := hz.on hb3; replace hb1 := below_on hb1 hb3; have q1 := hg.cell 1; have f1 := hg.frozen 1; simp only [growA, List.getElem?_toArray, List.getElem?_cons_succ, List.getElem?_cons_zero] at q1; have hg2 : Lies (w3.setCell ⟨w.heap.size, 1, none⟩ (.slice a3 (fewL ps).length c3)) w.heap.size 34 (growA n (.slice a3 (fewL ps).length c3)) := hg.put 1 _; have hz2 : Lies (w3.setCell ⟨w.heap.size, 1, none⟩ (.slice a3 (fewL ps).length c3)) (w.heap.size + 1) 34 noA := hz.far (by simp) _)
    | ((with_reducible refine wpL_load w.heap.size 34 (growA n (.slice a3 (fewL ps).length c3)) 2 rowGrow rfl hg2 ?_ ?_); rfl)
    | ((with_reducible refine wpL_store (w.heap.size + 1) 34 noA (growA n (.slice a3 (fewL ps).length c3)) 2 rowGrow rfl rfl (growA_one _ _ _ _) hz2 ?_ ?_ ?_); rfl; rfl))
  have hO1 := (Only.refl w3 w.heap.size).put (p := ⟨w.heap.size, 1, none⟩) (Or.inl rfl) (.slice a3 (fewL ps).length c3)
  have hO2 := (Only.refl (w3.setCell ⟨w.heap.size, 1, none⟩ (.slice a3 (fewL ps).length c3)) (w.heap.size + 1)).row (Or.inl rfl) (growA n (.slice a3 (fewL ps).length c3))
  exact bodyPost_ret (results_row Tryd.results19 rowGrow rfl (hz2.row _) rfl) rfl ⟨a3, c3, rfl, strs_only (strs_only hs3 hg (growA_str _ _ _ _) hO1) hz2 (growA_str _ _ _ _) hO2, below_rowSet (hb1.setCell (p := ⟨w.heap.size, 1, none⟩) (Nat.le_refl _) _) (by omega) _⟩
end Go.Proofs.YtakmlmgffgoecaaDoor.R

/- The reference's May, Sum and Parts. -/
namespace Go.Proofs.YtakmlmgffgoecaaDoor.R
open Go.RowKit Go.Sort Go.Proofs.YtakmlmgffgoecaaDoor.U
set_option maxRecDepth 100000

set_option maxHeartbeats 1600000 in
theorem refSum_tree (n : Nat) (v : Value) (ps : List (List UInt8)) (W : World) (hn : ps.length = ones n) (hsW : Strs W v ps) (hx : ∀ x ∈ ps, x.length = 32) (hc8 : ps.length ≤ 4096) :
    Calls Tryd.prog 23 #[.agg (growA n v)] W fun e w' => e = .returned (.string (bytesOf (sumP nd e0 ps))) ∧ Below W.heap.size W w' := by
  have hbW := (Below.refl W.heap.size W).alloc (Nat.le_refl _) (.cells (growA n v) 34)
  have hl : Lies (W.alloc (.cells (growA n v) 34)) W.heap.size 34 (growA n v) := Lies.new W _ _
  have hs := hsW.below hbW
  have hform : ∃ ao c, v = .slice ao ps.length c := by obtain ⟨ao, c, hv, _⟩ := hsW; exact ⟨ao, c, hv⟩
  obtain ⟨ao, c0, rfl⟩ := hform
  have HN0 := Lib.hid hn
  unfold growA
  clear hsW hn
  go_enter Tryd.func23, Tryd.ntmps23
  go_upto_region 1 with fail
  unfold growA at hbW hl hs
  generalize World.alloc W _ = w at *
  have hl2 : Lies w W.heap.size 34 (growA n (.slice ao ps.length c0)) := hl
  clear hl
  have hl := hl2
  clear hl2
  generalize W.heap.size = g at hl ⊢
  have hn := HN0.out
  have k0 : w.cell? ⟨g, 0, none⟩ = some (.int .i64 n) := hl.cell 0
  have k1 : w.cell? ⟨g, 1, none⟩ = some (.slice ao ps.length c0) := hl.cell 1
  by_cases h0 : n = 0
  · subst h0
    obtain rfl : ps = [] := List.eq_nil_of_length_eq_zero hn
    have H := Lib.hid (refNone_any w)
    clear k1 hs
    go_wp2_with (go_at_call 29; refine H.out.mono ?_; rintro e w1 ⟨rfl, hb1⟩)
    go_ret
    exact ⟨rfl, hbW.trans (hb1.mono hbW.size)⟩
  · have hp : 0 < ps.length := by
      rcases Nat.eq_zero_or_pos ps.length with h | h
      · rw [hn] at h; exact absurd ((ones_nil n).1 h) h0
      · exact h
    have hi0 : ((n : Int) == 0) = false := by simp; omega
    obtain ⟨a, c, hv, hc, hm, hna, hcl⟩ := hs
    injection hv with e1 e2 e3
    subst e1 e3
    unfold maxLen at hm
    obtain ⟨b, off, rfl, hcell⟩ := hcl (by intro h; subst h; simp at hp)
    obtain ⟨x, hxk⟩ : ∃ x, ps[ps.length - 1]? = some x := ⟨ps[ps.length - 1], List.getElem?_eq_getElem (by omega)⟩
    have hc1 := hcell _ x hxk
    have hLast : sumP nd e0 (ps.drop (ps.length - 1)) = x := by
      rw [List.drop_eq_getElem_cons (by omega), List.drop_eq_nil_of_le (by omega)]
      exact (List.getElem?_eq_some_iff.1 hxk).2
    have HLast := Lib.hid hLast
    have HX32 := hx x (List.mem_of_getElem? hxk)
    have HX := Lib.hid hx
    have HC := Lib.hid hcell
    clear hLast hxk hn hna hx hcell hcl
    unfold str at hc1
    go_wp2
    go_loopw [4, 5] (fun s i wr => ∃ (j : Int) (x : List UInt8), s = .string ⟨x.toArray⟩ ∧ i = .int .i64 j ∧ -1 ≤ j ∧ j + 1 < ps.length ∧ x.length = 32 ∧ Hid (sumP nd e0 (ps.drop (j + 1).toNat) = x) ∧ Below w.heap.size w wr) (fun _ i _ => (intOf i + 1).toNat)
    case atStart => exact ⟨(ps.length : Int) - 1 - 1, x, rfl, rfl, by omega, by omega, HX32, Lib.hid (by rw [show ((ps.length : Int) - 1 - 1 + 1).toNat = ps.length - 1 by omega]; exact HLast.out), Below.refl _ _⟩
    case round =>
      obtain ⟨j, y, rfl, rfl, hj1, hj2, hy, HS, hb⟩ := hrel
      have k1' := (hl.on hb).cell 1
      simp only [growA, List.getElem?_toArray, List.getElem?_cons_succ, List.getElem?_cons_zero] at k1'
      by_cases hlt : 0 ≤ j
      · obtain ⟨i, rfl⟩ : ∃ i : Nat, j = (i : Int) := ⟨j.toNat, (Int.toNat_of_nonneg hlt).symm⟩
        obtain ⟨z, hzk⟩ : ∃ z, ps[i]? = some z := ⟨ps[i]'(by omega), List.getElem?_eq_getElem _⟩
        have hc2 := (HC.out i z hzk)
        replace hc2 := (hb.cell (p := ⟨b, off + i, none⟩) (World.block_lt_of_cell? w _ hc2)).trans hc2
        have hz32 := HX.out z (List.mem_of_getElem? hzk)
        have HN := Lib.hid (refNode_any z y wr (by omega) (by omega))
        unfold bytesOf at HN
        unfold str at hc2
        have HS2 := Lib.hid (show sumP nd e0 (ps.drop ((i : Int) - 1 + 1).toNat) = nd z y by rw [show ((i : Int) - 1 + 1).toNat = i by omega, sumP_drop hzk (by omega), ← HS.out]; rfl)
        clear hzk
        go_wp2_with (go_at_call 14; refine HN.out.mono ?_; rintro e w2 ⟨rfl, hb2⟩)
        go_roundw
        case rel => exact ⟨(i : Int) - 1, nd z y, rfl, by go_num, by omega, by omega, nd_length _ _, HS2, below_on hb hb2⟩
        case measure => simp [intOf]
      · have HS2 := Lib.hid (show y = sumP nd e0 ps by rw [← HS.out, show (j + 1).toNat = 0 by omega]; rfl)
        go_wp2
        go_ret
        exact ⟨ret1_of (by rw [← HS2.out]; rfl), hbW.trans (hb.mono hbW.size)⟩
end Go.Proofs.YtakmlmgffgoecaaDoor.R

/- The reference's May. -/
namespace Go.Proofs.YtakmlmgffgoecaaDoor.R
open Go.RowKit Go.Sort Go.Proofs.YtakmlmgffgoecaaDoor.U
set_option maxRecDepth 100000

set_option maxHeartbeats 1600000 in
theorem refMay_any (n : Int) (v : Value) (ps : List (List UInt8)) (W : World) (hn1 : -9223372036854775808 ≤ n) (hn2 : n ≤ 9223372036854775807) (hsW : Strs W v ps) (hx : ∀ x ∈ ps, x.length ≤ maxLen) :
    Calls Tryd.prog 22 #[.agg (growA n v)] W fun e w' => e = .returned (.bool (mayB n ps)) ∧ Below W.heap.size W w' := by
  have hbW := (Below.refl W.heap.size W).alloc (Nat.le_refl _) (.cells (growA n v) 34)
  have hl : Lies (W.alloc (.cells (growA n v) 34)) W.heap.size 34 (growA n v) := Lies.new W _ _
  have HR := Lib.hid (refRight_any _ v ps (hsW.below hbW) hx)
  obtain ⟨ao, c, rfl, hc, hm, _⟩ := hsW
  unfold maxLen at hm
  unfold growA at hbW hl HR ⊢
  go_enter Tryd.func22, Tryd.ntmps22
  go_upto_region 1 with fail
  generalize World.alloc W _ = w at *
  have k0 : w.cell? ⟨W.heap.size, 0, none⟩ = some (.int .i64 n) := hl.cell 0
  have k1 : w.cell? ⟨W.heap.size, 1, none⟩ = some (.slice ao ps.length c) := hl.cell 1
  clear hl
  by_cases h0 : 0 ≤ n
  · have hd0 : decide (n < 0) = false := by simp; omega
    by_cases h4 : n ≤ 4096
    · have hd4 : decide (4096 < n) = false := by simp; omega
      cases hr : rowB ps with
      | false =>
        have HB := Lib.hid (show mayB n ps = false by unfold mayB; rw [hr, Bool.and_false])
        rw [hr] at HR
        clear hr
        go_wp2_with (go_at_call 16; refine HR.out.mono ?_; rintro e w2 ⟨rfl, rfl⟩)
        go_ret
        exact ⟨ret1_of (by rw [HB.out]; rfl), hbW⟩
      | true =>
        have HB := Lib.hid (show mayB n ps = decide (ps.length = ones n.toNat) by unfold mayB; rw [hr, Bool.and_true, decide_eq_true h0, decide_eq_true h4]; simp)
        rw [hr] at HR
        clear hr
        obtain ⟨m, rfl⟩ : ∃ m : Nat, n = (m : Int) := ⟨n.toNat, (Int.toNat_of_nonneg h0).symm⟩
        rw [Int.toNat_natCast] at HB
        go_wp2_with (go_at_call 16; refine HR.out.mono ?_; rintro e w2 ⟨rfl, rfl⟩)
        go_loop [3, 4] (fun o x => ∃ (a k : Nat), o = .int .i64 a ∧ x = .int .i64 k ∧ k ≤ m ∧ a + k ≤ 4096 ∧ Hid (a + ones k = ones m)) (fun _ x => (intOf x).toNat)
        case atStart => exact ⟨0, m, rfl, rfl, Nat.le_refl _, by omega, Lib.hid (Nat.zero_add _)⟩
        case round =>
          obtain ⟨a, k, rfl, rfl, hk, hak, HS⟩ := hrel
          by_cases hpos : 0 < k
          · go_wp2
            go_round
            case rel => exact ⟨a + k % 2, k / 2, by go_num, by go_num, by omega, by omega, Lib.hid (by have h1 := HS.out; rw [ones_half k] at h1; omega)⟩
            case measure => simp [intOf]; omega
          · obtain rfl : k = 0 := by omega
            have HE := Lib.hid (show ((ps.length : Int) == (a : Int)) = decide (ps.length = ones m) by
              have h1 := HS.out
              rw [ones_zero, Nat.add_zero] at h1
              subst h1
              rw [Bool.eq_iff_iff]
              simp
              omega)
            go_wp2
            go_ret
            exact ⟨ret1_of (by rw [HB.out, ← HE.out]; rfl), hbW⟩
    · have hd4 : decide (4096 < n) = true := by simp; omega
      have HB := Lib.hid (show mayB n ps = false by unfold mayB; rw [decide_eq_false h4]; simp)
      go_wp2
      go_ret
      exact ⟨ret1_of (by rw [HB.out]; rfl), hbW⟩
  · have hd0 : decide (n < 0) = true := by simp; omega
    have HB := Lib.hid (show mayB n ps = false by unfold mayB; rw [decide_eq_false h0]; simp)
    go_wp2
    go_ret
    exact ⟨ret1_of (by rw [HB.out]; rfl), hbW⟩
end Go.Proofs.YtakmlmgffgoecaaDoor.R

/- The reference's Parts. -/
namespace Go.Proofs.YtakmlmgffgoecaaDoor.R
open Go.RowKit Go.Sort Go.Proofs.YtakmlmgffgoecaaDoor.U
set_option maxRecDepth 100000

def vlen : Value → Nat
  | .slice _ n _ => n
  | _ => 0
theorem rowB_take {l : List (List UInt8)} (h1 : l.length ≤ 4096) (h2 : ∀ x ∈ l, x.length = 32) (k : Nat) : rowB (l.take k) = true := by
  unfold rowB
  rw [allB_of (fun x hx => h2 x (List.mem_of_mem_take hx)), Bool.and_true, decide_eq_true]
  rw [List.length_take]
  omega

set_option maxHeartbeats 1600000 in
theorem refParts_any (l : List (List UInt8)) (W : World) (v : Value) (hr : rowB l = true) (hl : Strs W v l) :
    Calls Tryd.prog 26 #[v] W fun e w' => ∃ v', e = .returned v' ∧ Strs w' v' (partsL nd e0 l) ∧ Below W.heap.size W w' := by
  obtain ⟨hr1, hr2⟩ := rowB_of hr
  clear hr
  have hl2 := hl
  obtain ⟨ao, c, rfl, hc, hm, hna, _⟩ := hl2
  have hb0 := (Below.refl W.heap.size W).alloc (Nat.le_refl _) (.cells #[] 9)
  have ho0 : Own (W.alloc (.cells #[] 9)) W.heap.size (.slice (some ⟨W.heap.size, 0, none⟩) 0 0) [] := .inl ⟨_, rfl, rfl⟩
  go_enter Tryd.func26, Tryd.ntmps26
  go_wp2
  go_loopw [0, 3] (fun lv ov wr => ∃ (rest done : List (List UInt8)) (a1 a2 : Option Addr) (c1 c2 : Nat), lv = .slice a1 rest.length c1 ∧ Strs W (.slice a1 rest.length c1) rest ∧ ov = .slice a2 done.length c2 ∧ Own wr W.heap.size (.slice a2 done.length c2) done ∧ rest.length ≤ 4096 ∧ done.length + rest.length ≤ 4096 ∧ Hid (∀ x ∈ rest, x.length = 32) ∧ Hid (done ++ partsL nd e0 rest = partsL nd e0 l) ∧ Below W.heap.size W wr) (fun lv _ _ => vlen lv)
  case atStart => exact ⟨l, [], ao, _, c, 0, rfl, hl, rfl, ho0, hr1, by simpa using hr1, Lib.hid hr2, rfl, hb0⟩
  case round =>
    clear hl hr1 hr2 ho0 hb0 hc hm hna
    obtain ⟨rest, done, a1, a2, c1, c2, rfl, hs, rfl, ho, hr1, hd1, HX, HP, hb⟩ := hrel
    have hs2 := hs
    obtain ⟨a', c', hv, hc, hm, hna, hcl⟩ := hs2
    injection hv with e1 e2 e3
    subst e1 e3
    unfold maxLen at hm
    by_cases hpos : 0 < rest.length
    · obtain ⟨b, off, rfl, hcell⟩ := hcl (by intro h; subst h; simp at hpos)
      clear hcell hcl
      obtain ⟨N, hN⟩ : ∃ N, rest.length = N := ⟨_, rfl⟩
      have HN := Lib.hid hN
      rw [hN] at hpos hs hc hr1 hd1 ⊢
      clear hN
      have hsz := hb.size
      go_wp2
      go_loop [4] (fun x => ∃ k : Nat, x = .int .i64 k ∧ 0 < k ∧ k ≤ N ∧ Hid (∃ e, k = 2 ^ e)) (fun x => N - (intOf x).toNat)
      case atStart => exact ⟨1, rfl, by omega, by omega, Lib.hid ⟨0, rfl⟩⟩
      case round =>
        obtain ⟨k, rfl, hk0, hkN, HJ⟩ := hrel
        by_cases h2 : 2 * k ≤ N
        · go_wp2
          go_round
          case rel => exact ⟨2 * k, by go_num, by omega, h2, Lib.hid (by obtain ⟨e, he⟩ := HJ.out; exact ⟨e + 1, by rw [Nat.pow_succ]; omega⟩)⟩
          case measure => simp [intOf]; omega
        · have HTop := Lib.hid (show top rest.length = k by obtain ⟨e, he⟩ := HJ.out; rw [HN.out, he]; exact top_is (by omega) (by omega))
          have HRoot := Lib.hid (fun w' (hb' : Below W.heap.size W w') => refRoot_any (rest.take k) w' _ (rowB_take (by rw [HN.out]; exact hr1) HX.out k) ((strs_head hs (j := k) (by rw [HN.out]; exact hkN)).below hb'))
          have HTail := Lib.hid (strs_rest hs (i := k) (by rw [HN.out]; exact hkN))
          have HP2 := Lib.hid (show done ++ [rt (rest.take k)] ++ partsL nd e0 (rest.drop k) = partsL nd e0 l by
            rw [← HP.out, partsL_cons nd e0 (l := rest) (by rw [HN.out]; exact hpos), HTop.out, List.append_assoc]
            rfl)
          have hlen : (rest.drop k).length = N - k := by rw [List.length_drop, HN.out]
          have hdl : done.length ≤ 4096 := by omega
          clear HP HJ hs
          go_wp2_with (first
            | (go_at_call 18; refine (HRoot.out _ hb).mono ?_; rintro e w2 ⟨rfl, hb2⟩; have ho2 := ho.on hb2; replace hb := below_on hb hb2)
            | ((with_reducible refine wpL_appendS W.heap.size _ done done.length (rt (rest.take k)) w2.heap.size rfl (ho2.on ((Below.refl _ _).alloc (Nat.le_refl _) _)) (Lies.new w2 _ _) (by omega) (by have := hb.size; simp; omega) ?_ ?_ ?_); rfl; rfl; intro g6 c6 w6 ho6 hb6 hk6))
          go_roundw
          case rel => exact ⟨rest.drop k, done ++ [rt (rest.take k)], (if c1 = k then some ⟨b, off, none⟩ else some ⟨b, off + k, none⟩), some ⟨g6, 0, none⟩, c1 - k, c6, by rw [hlen], by rw [hlen]; exact HTail.out, by rw [List.length_append]; rfl, by rw [List.length_append]; exact ho6, by omega, by rw [hlen, List.length_append, List.length_singleton]; omega, Lib.hid (fun x hx => HX.out x (List.mem_of_mem_drop hx)), HP2, (hb.alloc hb.size _).trans hb6⟩
          case measure => simp [vlen]; omega
    · have h0 : rest = [] := List.eq_nil_of_length_eq_zero (by omega)
      have HP2 := Lib.hid (show done = partsL nd e0 l by rw [← HP.out, h0]; simp [partsL_nil])
      subst h0
      clear HP
      go_wp2
      go_ret
      exact ⟨_, rfl, by rw [← HP2.out]; exact ho.strs, hb⟩
end Go.Proofs.YtakmlmgffgoecaaDoor.R

/- The reference's Add: how many leaves each part is of, as lists; rows that are cut with their capacity, and go on in new memory. -/
namespace Go.Proofs.YtakmlmgffgoecaaDoor.R
open Go.RowKit Go.Sort Go.Proofs.YtakmlmgffgoecaaDoor.U
set_option maxRecDepth 100000

theorem szs_nil {n : Nat} (h : szs n = []) : n = 0 := by
  rcases Nat.eq_zero_or_pos n with h0 | h0
  · exact h0
  · rw [szs_top n n (Nat.le_refl _) h0] at h
    cases h
theorem szs_pos : ∀ (m n : Nat), n ≤ m → ∀ x ∈ szs n, 0 < x := by
  intro m
  induction m with
  | zero =>
    intro n h
    obtain rfl : n = 0 := by omega
    intro x hx
    cases hx
  | succ m ih =>
    intro n h x hx
    rcases Nat.eq_zero_or_pos n with h0 | h0
    · subst h0; cases hx
    · rw [szs_half h0, List.mem_append] at hx
      rcases hx with hx | hx
      · obtain ⟨y, hy, rfl⟩ := List.mem_map.1 hx
        have := ih (n / 2) (by omega) y hy
        omega
      · by_cases h1 : n % 2 = 1
        · rw [if_pos h1, List.mem_singleton] at hx; omega
        · rw [if_neg h1] at hx; cases hx
theorem szs_next {N L i : Nat} (h : szs L = (szs N).drop i) (hi : i < (szs N).length) : 0 < L ∧ (szs N)[i]? = some (top L) ∧ szs (L - top L) = (szs N).drop (i + 1) := by
  have hL : 0 < L := by
    rcases Nat.eq_zero_or_pos L with h0 | h0
    · subst h0
      have h2 := congrArg List.length h
      rw [List.length_drop] at h2
      have h3 : (szs 0).length = 0 := rfl
      omega
    · exact h0
  rw [szs_top L L (Nat.le_refl _) hL, List.drop_eq_getElem_cons hi] at h
  injection h with h1 h2
  exact ⟨hL, by rw [List.getElem?_eq_getElem hi, h1], h2⟩
theorem szs_odd {q : Nat} (h : q % 2 = 1) : szs q = (szs (q / 2)).map (2 * ·) ++ [1] := by rw [szs_half (by omega), if_pos h]
theorem szs_even {q : Nat} (h : q % 2 = 0) (h0 : 0 < q) : ∃ T x, szs q = T ++ [2 * x] ∧ 0 < x := by
  have hne : szs (q / 2) ≠ [] := fun e => by have := szs_nil e; omega
  obtain ⟨T, x, hT⟩ : ∃ T x, szs (q / 2) = T ++ [x] := ⟨(szs (q / 2)).dropLast, (szs (q / 2)).getLast hne, (List.dropLast_concat_getLast hne).symm⟩
  refine ⟨T.map (2 * ·), x, ?_, szs_pos _ _ (Nat.le_refl _) x (by rw [hT]; simp)⟩
  rw [szs_half h0, if_neg (by omega), hT]
  simp

def intv (n : Nat) : Value := .int .i64 (n : Int)
/-- the sizes, behind so many were made one -/
def sizeL (q m : Nat) : List Nat := (szs q).map (m * ·) ++ [m]
theorem sizeL_odd {q : Nat} (h : q % 2 = 1) (m : Nat) : sizeL q m = (szs (q / 2)).map (2 * m * ·) ++ [m] ++ [m] := by
  unfold sizeL
  rw [szs_odd h, List.map_append, List.map_map]
  congr 2
  · apply List.map_congr_left
    intro x _
    show m * (2 * x) = 2 * m * x
    rw [← Nat.mul_assoc, Nat.mul_comm m 2]
  · simp
theorem sizeL_last (q m : Nat) : (sizeL q m)[ones q]? = some m := by
  unfold sizeL
  rw [List.getElem?_append_right (by rw [List.length_map, szs_length q q (Nat.le_refl _)]; exact Nat.le_refl _), List.length_map, szs_length q q (Nat.le_refl _), Nat.sub_self]
  rfl
theorem sizeL_before {q r : Nat} (h : ones q = r + 1) (m : Nat) (hm : 0 < m) : ∃ t, (sizeL q m)[r]? = some t ∧ (t = m ↔ q % 2 = 1) ∧ t ∈ (szs q).map (m * ·) := by
  have hlen := szs_length q q (Nat.le_refl _)
  rcases Nat.mod_two_eq_zero_or_one q with h0 | h1
  · have hq : 0 < q := by
      rcases Nat.eq_zero_or_pos q with hq | hq
      · subst hq; cases h
      · exact hq
    obtain ⟨T, x, hT, hx⟩ := szs_even h0 hq
    have hr : T.length = r := by rw [hT, List.length_append] at hlen; simp at hlen; omega
    refine ⟨m * (2 * x), ?_, ⟨fun e => ?_, fun e => by omega⟩, by rw [hT]; simp⟩
    · unfold sizeL
      rw [hT, List.map_append, List.append_assoc, List.getElem?_append_right (by rw [List.length_map]; omega), List.length_map, hr, Nat.sub_self]
      rfl
    · exfalso
      have h3 : m * (2 * x) = m * 1 := by rw [e, Nat.mul_one]
      have := Nat.eq_of_mul_eq_mul_left hm h3
      omega
  · refine ⟨m, ?_, ⟨fun _ => h1, fun _ => rfl⟩, by rw [szs_odd h1]; simp⟩
    have hl2 := szs_length (q / 2) (q / 2) (Nat.le_refl _)
    rw [ones_half q] at h
    rw [sizeL_odd h1, List.append_assoc, List.getElem?_append_right (by rw [List.length_map]; omega), List.length_map, show r - (szs (q / 2)).length = 0 by omega]
    rfl

/-- one value goes behind a row that is full: in new memory -/
theorem wpL_appendG {P : Program} {ops : Array Oper} {rest : List Oper} {a : Act} {w : World} {Q : Exit → Act → World → Prop} {t' : TypeId} {pos : String} {after : Array Edge} {d : Option Tmp} {x y : Tmp} {ty : TypeId}
    (e : TypeId) (i : TypeInfo) (z : Value) (bytes : Nat) (ht : P.underlying ty = some (.slice e)) (hi : P.info? e = some i) (hz : i.zero = some z) (hsize : i.size = 1) (hby : i.bytes = bytes) (hzs : z.cells.size = 1)
    (g0 n : Nat) (xs : List Value) (hlen : xs.length = n) (hcells : ∀ j u, xs[j]? = some u → w.cell? ⟨g0, j, none⟩ = some u) (b : Nat) (u : Value) (hl : Lies w b e #[u]) (hu : u.oneCell' = true) (h63 : n + 1 ≤ maxLen) (hbytes : (n + 1) * bytes ≤ 140737488355328)
    (hs : a.eval (.tmp x) = .slice (some ⟨g0, 0, none⟩) n n) (hx : a.eval (.tmp y) = .slice (some ⟨b, 0, none⟩) 1 1)
    (h : ∀ g cap w', w'.ownsRow w.heap.size e 1 (.slice (some ⟨g, 0, none⟩) (n + 1) cap) (n + 1) (xs ++ [u]) → Below w.heap.size w w' → wpList P ops Q rest (a.put d (.slice (some ⟨g, 0, none⟩) (n + 1) cap)) w') :
    wpList P ops Q (⟨d, .call { callee := .builtin .append, args := #[.tmp x, .tmp y], argTypes := #[ty, ty] }, t', pos, after, none⟩ :: rest) a w := by
  refine wpList_append_grows w rfl _ _ ty rfl e i z 1 bytes ht hi hz hsize hby hzs (by decide) (some ⟨g0, 0, none⟩) n n xs hs (fun h => by cases h) (by omega) (fun b hb j u hj => by injection hb with hb; subst hb; rw [Addr.add_mid, Nat.zero_add]; exact hcells j u hj) ⟨b, 0, none⟩ 1 1 [u] hx rfl (World.news_of_block hl) (by simpa using hu) (by omega) h63 hbytes ?_
  intro v' w' ho hg
  obtain ⟨g2, c2, rfl, _⟩ := ho.form (by omega)
  exact h g2 c2 w' ho ⟨hg.os, hg.tape, hg.output, hg.size, fun k hk => hg.block k hk (by simp)⟩
theorem own_cells {w : World} {B : Nat} {e : TypeId} {g n cap : Nat} {xs : List Value} (h : w.ownsRow B e 1 (.slice (some ⟨g, 0, none⟩) n cap) n xs) (k : Nat) : ∀ j u, (xs.take k)[j]? = some u → w.cell? ⟨g, j, none⟩ = some u := by
  intro j u hj
  rw [List.getElem?_take] at hj
  by_cases hjk : j < k
  · rw [if_pos hjk] at hj
    have hl := (List.getElem?_eq_some_iff.1 hj).1
    have := h.1
    rw [h.cellAt j (by omega)]
    exact hj
  · rw [if_neg hjk] at hj
    cases hj
theorem sizeL_half {q r : Nat} (h : q % 2 = 1) (hr : ones q = r + 1) (m : Nat) : ((sizeL q m).map intv).take r ++ [.int .i64 ((2 * m : Nat) : Int)] = (sizeL (q / 2) (2 * m)).map intv := by
  have hl2 := szs_length (q / 2) (q / 2) (Nat.le_refl _)
  rw [ones_half q] at hr
  have hA : ((szs (q / 2)).map (2 * m * ·)).length = r := by rw [List.length_map]; omega
  rw [sizeL_odd h, List.append_assoc, List.map_append, List.take_append_of_le_length (by rw [List.length_map]; omega), List.take_of_length_le (by rw [List.length_map]; omega)]
  unfold sizeL
  rw [List.map_append]
  rfl

section
variable {a : Act} {d : Option Tmp} {x y z : Tmp} {t' : TypeId} {pos : String} {after : Array Edge} {gd : Option (Nat × Bool)} {r : TypeId}
theorem run_subI (n : Nat) (k : Nat) (hk : k ≤ n) (hn : n ≤ 1000) (hx : a.eval (.tmp x) = .int .i64 (n : Int)) (w : World) :
    (execOp a.eval ⟨d, .binOp .sub 3 (.tmp x) (.const (.int .i64 (k : Int))) r, t', pos, after, gd⟩).run Tryd.prog w = .ok (.value (.int .i64 ((n - k : Nat) : Int))) w := by
  have h2 : a.eval (.const (.int .i64 (k : Int))) = .int .i64 (k : Int) := rfl
  have h3 : IntKind.i64.wrap ((n : Int) - (k : Int)) = ((n - k : Nat) : Int) := by rw [IntKind.wrap_i64]; omega
  unfold execOp
  simp only [hx, h2]
  simp [go_sem, h3]
theorem run_mulI (n : Nat) (hn : n ≤ 100000) (hx : a.eval (.tmp x) = .int .i64 (n : Int)) (w : World) :
    (execOp a.eval ⟨d, .binOp .mul 3 (.const (.int .i64 2)) (.tmp x) r, t', pos, after, gd⟩).run Tryd.prog w = .ok (.value (.int .i64 ((2 * n : Nat) : Int))) w := by
  have h2 : a.eval (.const (.int .i64 2)) = .int .i64 2 := rfl
  have h3 : IntKind.i64.wrap (2 * (n : Int)) = 2 * (n : Int) := by rw [IntKind.wrap_i64]; omega
  unfold execOp
  simp only [hx, h2]
  simp [go_sem, h3]
theorem run_cutI (g n c k : Nat) (hk : k ≤ n) (hn : n ≤ c) (hx : a.eval (.tmp x) = .slice (some ⟨g, 0, none⟩) n c) (hy : a.eval (.tmp y) = .int .i64 (k : Int)) (hz : a.eval (.tmp z) = .int .i64 (k : Int)) (w : World) :
    (execOp a.eval ⟨d, .slice 44 (.tmp x) none (some (.tmp y)) (some (.tmp z)), t', pos, after, gd⟩).run Tryd.prog w = .ok (.value (.slice (some ⟨g, 0, none⟩) k k)) w := by
  unfold execOp
  simp only [hx, hy, hz, Option.map_some, Option.map_none]
  simp [Instr.sliceAt, run_underlying Tryd.underlying44, go_sem]
  omega
theorem run_idxI (g n c k : Nat) (hk : k < n) (hx : a.eval (.tmp x) = .slice (some ⟨g, 0, none⟩) n c) (hy : a.eval (.tmp y) = .int .i64 (k : Int)) (w : World) :
    (execOp a.eval ⟨d, .indexAddr 44 (.tmp x) (.tmp y), t', pos, after, gd⟩).run Tryd.prog w = .ok (.value (.pointer (some ⟨g, k, none⟩))) w := by
  unfold execOp
  simp only [hx, hy]
  simp [Instr.indexAt, run_underlying Tryd.underlying44, go_sem]
  omega
theorem run_ldI (p : Addr) (v : Value) (w : World) (hc : w.cell? p = some v) (hx : a.eval (.tmp x) = .pointer (some p)) :
    (execOp a.eval ⟨d, .load 3 (.tmp x), t', pos, after, gd⟩).run Tryd.prog w = .ok (.value v) w := by
  unfold execOp
  simp only [hx, Instr.loadAt, Instr.sureAddr]
  simp [go_sem, hc]
end
theorem grown_alloc (w : World) (o : Obj) : Below w.heap.size w (w.alloc o) := (Below.refl _ _).alloc (Nat.le_refl _) o
abbrev sayOneI (k : Nat) : Said := fun v w => ∃ g, v = .slice (some ⟨g, 0, none⟩) 1 1 ∧ Lies w g 3 #[.int .i64 (k : Int)]
theorem sayOneI_mono (k : Nat) : ∀ v w w', sayOneI k v w → Below w.heap.size w w' → sayOneI k v w' := fun _ _ _ h hb => by
  obtain ⟨g, hv, hl⟩ := h
  exact ⟨g, hv, hl.on hb⟩
end Go.Proofs.YtakmlmgffgoecaaDoor.R

/- The reference's Add. -/
namespace Go.Proofs.YtakmlmgffgoecaaDoor.R
open Go.RowKit Go.Sort Go.Proofs.YtakmlmgffgoecaaDoor.U
set_option maxRecDepth 100000

theorem infoInt : (Tryd.prog.info? 3).map (fun i => (i.zero, i.size, i.bytes)) = some (some (.int .i64 0), 1, 8) := by kernel_rfl
/-- memory when the reference's Add has begun -/
def addR (n : Int) (v : Value) (w : World) : World := (((w.alloc (.cells (growA n v) 34)).alloc (.cells noA 34)).alloc (.cells #[] 9)).alloc (.cells #[] 3)
section
variable (n : Int) (v : Value) (w : World)
theorem addR_below : Below w.heap.size w (addR n v w) := ((((Below.refl w.heap.size w).alloc (Nat.le_refl _) _).alloc (by simp) _).alloc (by simp; omega) _).alloc (by simp; omega) _
theorem addR_box : Lies (addR n v w) w.heap.size 34 (growA n v) := (((Lies.new w _ _).alloc _).alloc _).alloc _
theorem addR_res : Lies (addR n v w) (w.heap.size + 1) 34 noA := ((Lies.alloc (heap_alloc2_new w _ _) _)).alloc _
theorem addR_parts : (addR n v w).ownsRow w.heap.size 9 1 (.slice (some ⟨w.heap.size + 2, 0, none⟩) 0 0) 0 [] := by
  refine own_empty (Lies.alloc ?_ _) (by omega)
  have h := Lies.new ((w.alloc (.cells (growA n v) 34)).alloc (.cells noA 34)) 9 #[]
  simp at h
  exact h
theorem addR_sizes : (addR n v w).ownsRow w.heap.size 3 1 (.slice (some ⟨w.heap.size + 3, 0, none⟩) 0 0) 0 [] := by
  refine own_empty ?_ (by omega)
  have h := Lies.new (((w.alloc (.cells (growA n v) 34)).alloc (.cells noA 34)).alloc (.cells #[] 9)) 3 #[]
  simp at h
  exact h
end

set_option maxHeartbeats 3200000 in
theorem refAdd_any (N : Nat) (v : Value) (ps : List (List UInt8)) (s : List UInt8) (W : World) (hn : ps.length = ones N) (hN : N ≤ 4095) (hx : ∀ x ∈ ps, x.length = 32) (hs32 : s.length = 32) (hs : Strs W v ps) :
    Calls Tryd.prog 24 #[.agg (growA N v), .string (bytesOf s)] W fun e w' => ∃ a c, e = .returned (.agg (growA ((N + 1 : Nat) : Int) (.slice a (mrg nd e0 (trail N) ps s).length c))) ∧ Strs w' (.slice a (mrg nd e0 (trail N) ps s).length c) (mrg nd e0 (trail N) ps s) ∧ Below W.heap.size W w' := by
  obtain ⟨i0, hi, hz0, hz1, hz2⟩ := info_parts infoStr
  obtain ⟨j0, ki, kz0, kz1, kz2⟩ := info_parts infoInt
  have ho12 := ones_le N (by omega)
  have hp12 : ps.length ≤ 12 := by omega
  have HN := Lib.hid hn
  have HX := Lib.hid hx
  obtain ⟨ao, c, rfl, hc, hm, hna, hcell⟩ := hs
  have hB := addR_below N (.slice ao ps.length c) W
  have hbox := addR_box N (.slice ao ps.length c) W
  have hres := addR_res N (.slice ao ps.length c) W
  have hop := addR_parts N (.slice ao ps.length c) W
  have hos := addR_sizes N (.slice ao ps.length c) W
  have hsl : (szs N).length = ps.length := by rw [szs_length N N (Nat.le_refl _), hn]
  have HSL := Lib.hid hsl
  clear hn hx hsl
  unfold maxLen at hm
  have q0 := hbox.cell 0
  have q1 := hbox.cell 1
  unfold growA
  simp only [growA, List.getElem?_toArray, List.getElem?_cons_succ, List.getElem?_cons_zero] at q0 q1
  go_enter Tryd.func24, Tryd.ntmps24
  go_upto_region 3 with fail
  have hW : (((W.alloc (.cells #[.int .i64 (N : Int), .slice ao ps.length c] 34)).alloc (.cells #[.int .i64 0, .slice none 0 0] 34)).alloc (.cells #[] 9)).alloc (.cells #[] 3) = addR N (.slice ao ps.length c) W := rfl
  rw [hW]
  clear hW
  generalize addR N (.slice ao ps.length c) W = w0 at *
  go_wp2
  clear q0 q1
  go_loopw [5, 6, 7, 20] (fun pv sv lv iv wr => ∃ (i L g1 c1 g2 c2 : Nat), i ≤ ps.length ∧ iv = .int .i64 i ∧ lv = .int .i64 L ∧ pv = .slice (some ⟨g1, 0, none⟩) i c1 ∧ sv = .slice (some ⟨g2, 0, none⟩) i c2 ∧ wr.ownsRow W.heap.size 9 1 (.slice (some ⟨g1, 0, none⟩) i c1) i ((ps.take i).map str) ∧ wr.ownsRow W.heap.size 3 1 (.slice (some ⟨g2, 0, none⟩) i c2) i (((szs N).take i).map intv) ∧ Hid (szs L = (szs N).drop i) ∧ L ≤ N ∧ Lies wr W.heap.size 34 (growA N (.slice ao ps.length c)) ∧ Lies wr (W.heap.size + 1) 34 noA ∧ Below W.heap.size W wr) (fun _ _ _ iv _ => ps.length - (intOf iv).toNat)
  case atStart => exact ⟨0, N, W.heap.size + 2, 0, W.heap.size + 3, 0, Nat.zero_le _, rfl, rfl, rfl, rfl, hop, hos, rfl, Nat.le_refl _, hbox, hres, hB⟩
  case round =>
    clear hop hos hbox hres hB
    obtain ⟨i, L, g1, c1, g2, c2, hi1, rfl, rfl, rfl, rfl, hop, hos, HZ, hLN, hbox, hres, hB⟩ := hrel
    have hsz := hB.size
    by_cases hlt : i < ps.length
    · obtain ⟨b, off, rfl, hcl⟩ := hcell (by intro h; subst h; simp at hlt)
      obtain ⟨p, hpk⟩ : ∃ p, ps[i]? = some p := ⟨ps[i], List.getElem?_eq_getElem hlt⟩
      have hc4 := hcl i p hpk
      replace hc4 := (hB.cell (p := ⟨b, off + i, none⟩) (World.block_lt_of_cell? W _ hc4)).trans hc4
      unfold str at hc4
      obtain ⟨hL0, hZ1, hZ2⟩ := szs_next HZ.out (by rw [HSL.out]; exact hlt)
      have HP := Lib.hid (show (ps.take (i + 1)).map str = (ps.take i).map str ++ [.string ⟨p.toArray⟩] by rw [List.take_add_one, hpk, List.map_append]; rfl)
      have HZ2 := Lib.hid hZ2
      have HZ1 : Hid (∀ k, top L = k → ((szs N).take (i + 1)).map intv = ((szs N).take i).map intv ++ [.int .i64 (k : Int)]) := Lib.hid (fun k hk => by rw [List.take_add_one, hZ1, hk, List.map_append]; rfl)
      clear hpk hcl hcell hZ1 hZ2 HZ
      go_wp2
      go_loop [10] (fun x => ∃ k : Nat, x = .int .i64 k ∧ 0 < k ∧ k ≤ L ∧ Hid (∃ e, k = 2 ^ e)) (fun x => L - (intOf x).toNat)
      case atStart => exact ⟨1, rfl, by omega, by omega, Lib.hid ⟨0, rfl⟩⟩
      case round =>
        obtain ⟨k, rfl, hk0, hkL, HJ⟩ := hrel
        by_cases h2 : 2 * k ≤ L
        · go_wp2
          go_round
          case rel => exact ⟨2 * k, by go_num, by omega, h2, Lib.hid (by obtain ⟨e, he⟩ := HJ.out; exact ⟨e + 1, by rw [Nat.pow_succ]; omega⟩)⟩
          case measure => simp [intOf]; omega
        · have HTop := Lib.hid (show top L = k by obtain ⟨e, he⟩ := HJ.out; rw [he]; exact top_is (by omega) (by omega))
          clear HJ
          go_wp2_with (first
            | ((with_reducible refine wpL_append W.heap.size 9 i0 (.string ByteArray.empty) 16 Tryd.underlying22 hi hz0 hz1 hz2 rfl _ i _ (hop.alloc _) wr.heap.size (.string ⟨p.toArray⟩) (Lies.new wr _ _) rfl (by unfold maxLen; omega) (by omega) (by simp; omega) ?_ ?_ ?_); rfl; rfl; intro g6 c6 w6 ho6 hg6; have hbox6 := (hbox.alloc _).only hg6 (fun e => own_far hop hbox (by decide) e.symm); have hres6 := (hres.alloc _).only hg6 (fun e => own_far hop hres (by decide) e.symm); have hos6 := own_grown (hos.alloc _) hg6 (own_apart hos hop (by decide)); have hB6 := (hB.alloc hsz _).grown hg6 (by simp; omega) (fun j hj => (hop.lt j hj).1); have hsz6 := hB6.size)
            | ((with_reducible refine wpL_append W.heap.size 3 j0 (.int .i64 0) 8 Tryd.underlying44 ki kz0 kz1 kz2 rfl _ i _ (hos6.alloc _) w6.heap.size (.int .i64 (k : Int)) (Lies.new w6 _ _) rfl (by unfold maxLen; omega) (by omega) (by simp; omega) ?_ ?_ ?_); rfl; rfl; intro g7 c7 w7 ho7 hg7))
          go_roundw
          case rel => exact ⟨i + 1, L - k, g6, c6, g7, c7, by omega, by go_num, by go_num, rfl, rfl, by rw [HP.out]; exact own_grown (ho6.alloc _) hg7 (own_apart ho6 hos6 (by decide)), by rw [HZ1.out k HTop.out]; exact ho7, Lib.hid (by rw [← HTop.out]; exact HZ2.out), by omega, (hbox6.alloc _).only hg7 (fun e => own_far hos6 hbox6 (by decide) e.symm), (hres6.alloc _).only hg7 (fun e => own_far hos6 hres6 (by decide) e.symm), (hB6.alloc hsz6 _).grown hg7 (by simp; omega) (fun j hj => (hos6.lt j hj).1)⟩
          case measure => simp [intOf]; omega
    · obtain rfl : i = ps.length := by omega
      have hop2 : wr.ownsRow W.heap.size 9 1 (.slice (some ⟨g1, 0, none⟩) ps.length c1) ps.length (ps.map str) := by rw [List.take_length] at hop; exact hop
      have hos2 : wr.ownsRow W.heap.size 3 1 (.slice (some ⟨g2, 0, none⟩) ps.length c2) ps.length ((szs N).map intv) := by rw [← HSL.out, List.take_length, HSL.out] at hos; exact hos
      have HI1 := Lib.hid (show (ps ++ [s]).map str = ps.map str ++ [.string (bytesOf s)] by rw [List.map_append]; rfl)
      have HI2 := Lib.hid (show (sizeL N 1).map intv = (szs N).map intv ++ [.int .i64 1] by unfold sizeL; simp [intv])
      clear HZ hcell hop hos hLN
      go_wp2_with (first
        | ((with_reducible refine wpL_append W.heap.size 9 i0 (.string ByteArray.empty) 16 Tryd.underlying22 hi hz0 hz1 hz2 rfl _ ps.length _ (hop2.alloc _) wr.heap.size (.string (bytesOf s)) (Lies.new wr _ _) rfl (by unfold maxLen; omega) (by omega) (by simp; omega) ?_ ?_ ?_); rfl; rfl; intro g6 c6 w6 ho6 hg6; have hbox6 := (hbox.alloc _).only hg6 (fun e => own_far hop2 hbox (by decide) e.symm); have hres6 := (hres.alloc _).only hg6 (fun e => own_far hop2 hres (by decide) e.symm); have hos6 := own_grown (hos2.alloc _) hg6 (own_apart hos2 hop2 (by decide)); have hB6 := (hB.alloc hsz _).grown hg6 (by simp; omega) (fun j hj => (hop2.lt j hj).1); have hsz6 := hB6.size)
        | ((with_reducible refine wpL_append W.heap.size 3 j0 (.int .i64 0) 8 Tryd.underlying44 ki kz0 kz1 kz2 rfl _ ps.length _ (hos6.alloc _) w6.heap.size (.int .i64 1) (Lies.new w6 _ _) rfl (by unfold maxLen; omega) (by omega) (by simp; omega) ?_ ?_ ?_); rfl; rfl; intro g7 c7 w7 ho7 hg7; have hop7 := own_grown (ho6.alloc _) hg7 (own_apart ho6 hos6 (by decide)); have hbox7 := (hbox6.alloc _).only hg7 (fun e => own_far hos6 hbox6 (by decide) e.symm); have hres7 := (hres6.alloc _).only hg7 (fun e => own_far hos6 hres6 (by decide) e.symm); have hB7 := (hB6.alloc hsz6 _).grown hg7 (by simp; omega) (fun j hj => (hos6.lt j hj).1)))
      go_loopw [5, 6] (fun pv sv wr => ∃ (q m n0 g1 c1 g2 c2 : Nat) (qs : List (List UInt8)) (y : List UInt8), 0 < n0 ∧ n0 ≤ 13 ∧ q ≤ 4095 ∧ 0 < m ∧ m ≤ 4096 ∧ y.length = 32 ∧ pv = .slice (some ⟨g1, 0, none⟩) n0 c1 ∧ sv = .slice (some ⟨g2, 0, none⟩) n0 c2 ∧ wr.ownsRow W.heap.size 9 1 (.slice (some ⟨g1, 0, none⟩) n0 c1) n0 ((qs ++ [y]).map str) ∧ wr.ownsRow W.heap.size 3 1 (.slice (some ⟨g2, 0, none⟩) n0 c2) n0 ((sizeL q m).map intv) ∧ Hid (n0 = ones q + 1 ∧ qs.length + 1 = n0 ∧ mrg nd e0 (trail q) qs y = mrg nd e0 (trail N) ps s ∧ m * (q + 1) = N + 1 ∧ ∀ x ∈ qs, x.length = 32) ∧ Lies wr W.heap.size 34 (growA N (.slice ao ps.length c)) ∧ Lies wr (W.heap.size + 1) 34 noA ∧ Below W.heap.size W wr) (fun pv _ _ => vlen pv)
      case atStart => exact ⟨N, 1, ps.length + 1, g6, c6, g7, c7, ps, s, by omega, by omega, hN, by decide, by decide, hs32, rfl, rfl, by rw [HI1.out]; exact hop7, by rw [HI2.out]; exact ho7, Lib.hid ⟨by rw [HN.out], rfl, rfl, by omega, HX.out⟩, hbox7, hres7, hB7⟩
      case round =>
        clear hop2 hos2 HI1 HI2 hbox hres hB hsz ho6 hg6 hbox6 hres6 hos6 hB6 hsz6 ho7 hg7 hop7 hbox7 hres7 hB7
        obtain ⟨q, m, n0, g3, c3, g4, c4, qs, y, hn0, hn13, hq, hm0, hm4, hy, rfl, rfl, hop, hos, HH, hbox, hres, hB⟩ := hrel
        have hsz := hB.size
        have hc4 : n0 ≤ c4 := by
          obtain ⟨_, h2⟩ := hos
          rcases h2 with ⟨h3, _⟩ | ⟨g', cap', cur, hv, _, _, h4, _⟩
          · cases h3
          · injection hv with e1 e2 e3
            omega
        have hc3 : n0 ≤ c3 := by
          obtain ⟨_, h2⟩ := hop
          rcases h2 with ⟨h3, _⟩ | ⟨g', cap', cur, hv, _, _, h4, _⟩
          · cases h3
          · injection hv with e1 e2 e3
            omega
        by_cases hn1 : n0 = 1
        · subst hn1
          have HE := Lib.hid (show qs ++ [y] = mrg nd e0 (trail N) ps s by
            obtain ⟨h1, h2, h3, _⟩ := HH.out
            rw [← h3, (ones_nil q).1 (by omega)]
            rfl)
          have HL := Lib.hid (show (mrg nd e0 (trail N) ps s).length = 1 by rw [← HE.out, List.length_append]; exact HH.out.2.1)
          clear HH hos
          go_wp2
          go_quiet (fail)
          have hq0 := hbox.cell 0
          simp only [growA, List.getElem?_toArray, List.getElem?_cons_zero] at hq0
          go_wp2_with ((with_reducible refine wpL_store (W.heap.size + 1) 34 noA (growA ((N : Int) + 1) (.slice (some ⟨g3, 0, none⟩) 1 c3)) 2 rowGrow rfl rfl (growA_one _ _ _ _) (hres.drewN _) ?_ ?_ ?_); rfl; rfl)
          exact bodyPost_ret (results_row Tryd.results24 rowGrow rfl ((hres.drewN _).row _) rfl) rfl ⟨some ⟨g3, 0, none⟩, c3, by rw [HL.out]; rfl, by rw [HL.out, ← HE.out]; exact strs_only (Strs.owned hop) hres (growA_str _ _ _ _) (((Only.refl wr (W.heap.size + 1)).drewN _).row (Or.inl rfl) _), below_rowSet (below_drawn hB _) (by omega) _⟩
        · have hd1 : decide ((1 : Int) < (n0 : Int)) = true := by simp; omega
          obtain ⟨t, ht, htm, htmem⟩ := sizeL_before (q := q) (r := n0 - 2) (by have := HH.out.1; omega) m hm0
          have hcm : wr.cell? ⟨g4, n0 - 1, none⟩ = some (.int .i64 (m : Int)) := by
            have h3 := sizeL_last q m
            rw [show ones q = n0 - 1 by have := HH.out.1; omega] at h3
            rw [hos.cellAt (n0 - 1) (by omega), List.getElem?_map, h3]
            rfl
          have hct : wr.cell? ⟨g4, n0 - 2, none⟩ = some (.int .i64 (t : Int)) := by
            rw [hos.cellAt (n0 - 2) (by omega), List.getElem?_map, ht]
            rfl
          clear ht
          rcases Nat.mod_two_eq_zero_or_one q with h0 | h1
          · have hi2 : ((m : Int) == (t : Int)) = false := by
              have h3 : t ≠ m := fun e => by have := htm.1 e; omega
              simp
              omega
            have HE := Lib.hid (show qs ++ [y] = mrg nd e0 (trail N) ps s by
              obtain ⟨h1, h2, h3, _⟩ := HH.out
              rw [← h3, trail_even h0]
              rfl)
            have HL := Lib.hid (show (mrg nd e0 (trail N) ps s).length = n0 by rw [← HE.out, List.length_append]; exact HH.out.2.1)
            clear HH hos htm htmem
            go_wp2
            go_quiet (fail)
            have hq0 := hbox.cell 0
            simp only [growA, List.getElem?_toArray, List.getElem?_cons_zero] at hq0
            go_wp2_with ((with_reducible refine wpL_store (W.heap.size + 1) 34 noA (growA ((N : Int) + 1) (.slice (some ⟨g3, 0, none⟩) n0 c3)) 2 rowGrow rfl rfl (growA_one _ _ _ _) (hres.drewN _) ?_ ?_ ?_); rfl; rfl)
            exact bodyPost_ret (results_row Tryd.results24 rowGrow rfl ((hres.drewN _).row _) rfl) rfl ⟨some ⟨g3, 0, none⟩, c3, by rw [HL.out]; rfl, by rw [HL.out, ← HE.out]; exact strs_only (Strs.owned hop) hres (growA_str _ _ _ _) (((Only.refl wr (W.heap.size + 1)).drewN _).row (Or.inl rfl) _), below_rowSet (below_drawn hB _) (by omega) _⟩
          · -- two parts of as many leaves each are one
            obtain ⟨z, hzk⟩ : ∃ z, qs[n0 - 2]? = some z := ⟨qs[n0 - 2]'(by have := HH.out.2.1; omega), List.getElem?_eq_getElem _⟩
            have hz32 := HH.out.2.2.2.2 z (List.mem_of_getElem? hzk)
            have HSz := Lib.hid (sizeL_half h1 (r := n0 - 2) (by have := HH.out.1; omega) m)
            have HXs := Lib.hid (show ((qs ++ [y]).map str).take (n0 - 2) ++ [.string ⟨(nd z y).toArray⟩] = (qs.take (n0 - 2) ++ [nd z y]).map str by
              have h3 := HH.out.2.1
              rw [← List.map_take, List.take_append_of_le_length (by omega), List.map_append]
              rfl)
            have HH2 : Hid (n0 - 1 = ones (q / 2) + 1 ∧ (qs.take (n0 - 2)).length + 1 = n0 - 1 ∧ mrg nd e0 (trail (q / 2)) (qs.take (n0 - 2)) (nd z y) = mrg nd e0 (trail N) ps s ∧ 2 * m * (q / 2 + 1) = N + 1 ∧ ∀ x ∈ qs.take (n0 - 2), x.length = 32) := Lib.hid (by
              obtain ⟨a1, a2, a3, a4, a5⟩ := HH.out
              have e1 := ones_half q
              refine ⟨by omega, by rw [List.length_take]; omega, ?_, ?_, fun x hx => a5 x (List.mem_of_mem_take hx)⟩
              · rw [← a3, trail_odd h1, ← mrg_step hzk, show n0 - 2 + 1 = qs.length by omega, List.take_length]
              · rw [← a4, Nat.mul_comm 2 m, Nat.mul_assoc]
                congr 1
                omega)
            have hm2 : 2 * m ≤ 4096 := by
              have h3 := HH2.out.2.2.2.1
              have h4 : 2 * m * 1 ≤ 2 * m * (q / 2 + 1) := Nat.mul_le_mul_left _ (by omega)
              omega
            have HNd := Lib.hid (fun w' => refNode_any z y w' (by omega) (by omega))
            have hpz : wr.cell? ⟨g3, n0 - 2, none⟩ = some (.string ⟨z.toArray⟩) := by
              rw [hop.cellAt (n0 - 2) (by omega), List.getElem?_map, List.getElem?_append_left (by have := HH.out.2.1; omega), hzk]
              rfl
            have hpy : wr.cell? ⟨g3, n0 - 1, none⟩ = some (.string ⟨y.toArray⟩) := by
              rw [hop.cellAt (n0 - 1) (by omega), List.getElem?_map, List.getElem?_append_right (by have := HH.out.2.1; omega), show n0 - 1 - qs.length = 0 by have := HH.out.2.1; omega]
              rfl
            have hi2 : ((m : Int) == (t : Int)) = true := by rw [htm.2 h1]; simp
            clear HH hzk htm htmem
            go_wp2
            go_quiet (fail)
            have hop5 : (wr.drewN nq).ownsRow W.heap.size 9 1 (.slice (some ⟨g3, 0, none⟩) n0 c3) n0 ((qs ++ [y]).map str) := hop
            have hos5 : (wr.drewN nq).ownsRow W.heap.size 3 1 (.slice (some ⟨g4, 0, none⟩) n0 c4) n0 ((sizeL q m).map intv) := hos
            have hbox5 := hbox.drewN nq
            have hres5 := hres.drewN nq
            have hB5 := below_drawn hB nq
            have hpz5 : (wr.drewN nq).cell? ⟨g3, n0 - 2, none⟩ = some (.string ⟨z.toArray⟩) := hpz
            have hpy5 : (wr.drewN nq).cell? ⟨g3, n0 - 1, none⟩ = some (.string ⟨y.toArray⟩) := hpy
            have hcm5 : (wr.drewN nq).cell? ⟨g4, n0 - 1, none⟩ = some (.int .i64 (m : Int)) := hcm
            clear hop hos hbox hres hB hpz hpy hcm hct hsz
            generalize World.drewN wr nq = w5 at *
            go_upto_region 18 with fail
            have kz := cell_regrown hpz5
            have ky := cell_regrown hpy5
            have cN := Lib.hid (reg (W := w5) (fun w _ => HNd.out w))
            unfold bytesOf at cN
            refine wp_region_quiet_below (by kernel_rfl) (by kernel_rfl) ?_
            repeat (go_big_quiet_step (with_reducible exact cN.out _ _))
            refine wpQuiet_nil ?_
            intro w6 hw'
            obtain ⟨⟨dq, osq⟩, hw''⟩ := hw'
            have hb6 : Below w5.heap.size w5 w6 := by rw [hw'']; exact below_regrown w5 dq osq
            have hop6 := own_on hop5 hb6
            have hos6 := own_on hos5 hb6
            have hbox6 := hbox5.on hb6
            have hres6 := hres5.on hb6
            have hB6 := below_on hB5 hb6
            have hsz6 := hB6.size
            have HLen := Lib.hid (show (((qs ++ [y]).map str).take (n0 - 2)).length = n0 - 2 by rw [List.length_take]; have := hop6.1; omega)
            have HLeI := Lib.hid (show (((sizeL q m).map intv).take (n0 - 2)).length = n0 - 2 by rw [List.length_take]; have := hos6.1; omega)
            have HO1 := Lib.hid (show ones q = n0 - 1 by have := HH2.out.1; have := ones_half q; omega)
            clear hw'' hb6 kz ky cN hop5 hos5 hbox5 hres5 hB5 hpz5 hpy5 hcm5
            go_upto_region 20 with ((with_reducible refine wpL_appendG 9 i0 (.string ByteArray.empty) 16 Tryd.underlying22 hi hz0 hz1 hz2 rfl g3 (n0 - 2) (((qs ++ [y]).map str).take (n0 - 2)) HLen.out (own_cells (hop6.alloc _) (n0 - 2)) w6.heap.size (.string ⟨(nd z y).toArray⟩) (Lies.new w6 _ _) rfl (by unfold maxLen; omega) (by omega) ?_ ?_ ?_); rfl; rfl; intro g8 c8 w8 ho8 hb8; have hos8 := own_on (hos6.alloc _) hb8; have hbox8 := (hbox6.alloc _).on hb8; have hres8 := (hres6.alloc _).on hb8; have hB8 := below_on (hB6.alloc hsz6 _) hb8)
            rw [HXs.out] at ho8
            have hop8 : w8.ownsRow W.heap.size 9 1 (.slice (some ⟨g8, 0, none⟩) (n0 - 2 + 1) c8) (n0 - 2 + 1) ((qs.take (n0 - 2) ++ [nd z y]).map str) := own_less ho8 (by simp; omega)
            have hcm8 : w8.cell? ⟨g4, n0 - 1, none⟩ = some (.int .i64 (m : Int)) := by
              have h3 := sizeL_last q m
              rw [HO1.out] at h3
              rw [hos8.cellAt (n0 - 1) (by omega), List.getElem?_map, h3]
              rfl
            clear ho8 hop6 hos6 hbox6 hres6 hB6 hsz6 hb8
            refine wp_region_rel 13 _ [sayFix (.slice (some ⟨g4, 0, none⟩) n0 c4), sayFix (.int .i64 (n0 : Int)), sayFix (.int .i64 ((n0 - 2 : Nat) : Int)), sayFix (.int .i64 (n0 : Int)), sayFix (.int .i64 ((n0 - 2 : Nat) : Int)), sayFix (.slice (some ⟨g4, 0, none⟩) (n0 - 2) (n0 - 2)), sayFix (.slice (some ⟨g4, 0, none⟩) n0 c4), sayFix (.int .i64 (n0 : Int)), sayFix (.int .i64 ((n0 - 1 : Nat) : Int)), sayFix (.pointer (some ⟨g4, n0 - 1, none⟩)), sayFix (.int .i64 (m : Int)), sayFix (.int .i64 ((2 * m : Nat) : Int)), sayOneI (2 * m)] rfl rfl (by kernel_rfl) (by kernel_rfl) (fun r hr => by
              simp only [List.mem_cons, List.not_mem_nil, or_false] at hr
              rcases hr with rfl | rfl | rfl | rfl | rfl | rfl | rfl | rfl | rfl | rfl | rfl | rfl | rfl <;> first | exact sayFix_mono _ | exact sayOneI_mono _) ?_
            simp only [List.take_succ_cons, List.take_zero, List.drop_succ_cons, List.drop_zero, List.zip_cons_cons, List.zip_nil_right]
            refine wpRel_step (fun w hb hG => ?_) (fun v0 => ?_)
            · exact does_run (.slice (some ⟨g4, 0, none⟩) n0 c4) rfl rfl
            simp only [Act.put, List.setIfInBounds_toArray, List.set_cons_succ, List.set_cons_zero, Option.getD_some]
            refine wpRel_step (fun w hb hG => ?_) (fun v1 => ?_)
            · exact does_run (.int .i64 (n0 : Int)) rfl rfl
            simp only [Act.put, List.setIfInBounds_toArray, List.set_cons_succ, List.set_cons_zero, Option.getD_some]
            refine wpRel_step (fun w hb hG => ?_) (fun v2 => ?_)
            · obtain rfl := laid_at 0 hG rfl (by decide)
              exact does_run (.int .i64 ((n0 - 2 : Nat) : Int)) (run_subI n0 2 (by omega) (by omega) rfl w) rfl
            simp only [Act.put, List.setIfInBounds_toArray, List.set_cons_succ, List.set_cons_zero, Option.getD_some]
            refine wpRel_step (fun w hb hG => ?_) (fun v3 => ?_)
            · exact does_run (.int .i64 (n0 : Int)) rfl rfl
            simp only [Act.put, List.setIfInBounds_toArray, List.set_cons_succ, List.set_cons_zero, Option.getD_some]
            refine wpRel_step (fun w hb hG => ?_) (fun v4 => ?_)
            · obtain rfl := laid_at 0 hG rfl (by decide)
              exact does_run (.int .i64 ((n0 - 2 : Nat) : Int)) (run_subI n0 2 (by omega) (by omega) rfl w) rfl
            simp only [Act.put, List.setIfInBounds_toArray, List.set_cons_succ, List.set_cons_zero, Option.getD_some]
            refine wpRel_step (fun w hb hG => ?_) (fun v5 => ?_)
            · obtain rfl := laid_at 4 hG rfl (by decide)
              obtain rfl := laid_at 2 hG rfl (by decide)
              obtain rfl := laid_at 0 hG rfl (by decide)
              exact does_run (.slice (some ⟨g4, 0, none⟩) (n0 - 2) (n0 - 2)) (run_cutI g4 n0 c4 (n0 - 2) (by omega) hc4 rfl rfl rfl w) rfl
            simp only [Act.put, List.setIfInBounds_toArray, List.set_cons_succ, List.set_cons_zero, Option.getD_some]
            refine wpRel_step (fun w hb hG => ?_) (fun v6 => ?_)
            · exact does_run (.slice (some ⟨g4, 0, none⟩) n0 c4) rfl rfl
            simp only [Act.put, List.setIfInBounds_toArray, List.set_cons_succ, List.set_cons_zero, Option.getD_some]
            refine wpRel_step (fun w hb hG => ?_) (fun v7 => ?_)
            · exact does_run (.int .i64 (n0 : Int)) rfl rfl
            simp only [Act.put, List.setIfInBounds_toArray, List.set_cons_succ, List.set_cons_zero, Option.getD_some]
            refine wpRel_step (fun w hb hG => ?_) (fun v8 => ?_)
            · obtain rfl := laid_at 0 hG rfl (by decide)
              exact does_run (.int .i64 ((n0 - 1 : Nat) : Int)) (run_subI n0 1 (by omega) (by omega) rfl w) rfl
            simp only [Act.put, List.setIfInBounds_toArray, List.set_cons_succ, List.set_cons_zero, Option.getD_some]
            refine wpRel_step (fun w hb hG => ?_) (fun v9 => ?_)
            · obtain rfl := laid_at 2 hG rfl (by decide)
              obtain rfl := laid_at 0 hG rfl (by decide)
              exact does_run (.pointer (some ⟨g4, n0 - 1, none⟩)) (run_idxI g4 n0 c4 (n0 - 1) (by omega) rfl rfl w) rfl
            simp only [Act.put, List.setIfInBounds_toArray, List.set_cons_succ, List.set_cons_zero, Option.getD_some]
            refine wpRel_step (fun w hb hG => ?_) (fun v10 => ?_)
            · obtain rfl := laid_at 0 hG rfl (by decide)
              exact does_run (.int .i64 (m : Int)) (run_ldI ⟨g4, n0 - 1, none⟩ _ w ((hb.cell (p := ⟨g4, n0 - 1, none⟩) (World.block_lt_of_cell? _ _ hcm8)).trans hcm8) rfl) rfl
            simp only [Act.put, List.setIfInBounds_toArray, List.set_cons_succ, List.set_cons_zero, Option.getD_some]
            refine wpRel_step (fun w hb hG => ?_) (fun v11 => ?_)
            · obtain rfl := laid_at 0 hG rfl (by decide)
              exact does_run (.int .i64 ((2 * m : Nat) : Int)) (run_mulI m (by omega) rfl w) rfl
            simp only [Act.put, List.setIfInBounds_toArray, List.set_cons_succ, List.set_cons_zero, Option.getD_some]
            refine wpRel_step (fun w hb hG => ?_) (fun v12 => ?_)
            · obtain rfl := laid_at 0 hG rfl (by decide)
              exact does_made (.slice (some ⟨w.heap.size, 0, none⟩) 1 1) (w' := w.alloc (.cells #[.int .i64 ((2 * m : Nat) : Int)] 3)) (by kernel_rfl) (grown_alloc w _) ⟨w.heap.size, rfl, Lies.new w _ _⟩
            simp only [Act.put, List.setIfInBounds_toArray, List.set_cons_succ, List.set_cons_zero, Option.getD_some]
            refine wpRel_nil (fun w9 hb9 hG => ?_)
            obtain ⟨ga, rfl, hla⟩ := hG _ (List.mem_of_getElem? (i := 0) rfl)
            obtain rfl := hG _ (List.mem_of_getElem? (i := 7) rfl)
            clear hG
            have hos9 := own_on hos8 hb9
            have hsz9 : W.heap.size ≤ w9.heap.size := Nat.le_trans hB8.size hb9.size
            go_wp2_with ((with_reducible refine wpL_appendG 3 j0 (.int .i64 0) 8 Tryd.underlying44 ki kz0 kz1 kz2 rfl g4 (n0 - 2) (((sizeL q m).map intv).take (n0 - 2)) HLeI.out (own_cells hos9 (n0 - 2)) ga (.int .i64 ((2 * m : Nat) : Int)) hla rfl (by unfold maxLen; omega) (by omega) ?_ ?_ ?_); rfl; rfl; intro g9 c9 w10 ho10 hb10)
            rw [HSz.out] at ho10
            go_roundw
            case rel => exact ⟨q / 2, 2 * m, n0 - 1, g8, c8, g9, c9, qs.take (n0 - 2), nd z y, by omega, by omega, by omega, by omega, hm2, nd_length _ _, by rw [show n0 - 2 + 1 = n0 - 1 by omega], by rw [show n0 - 2 + 1 = n0 - 1 by omega], by rw [show n0 - 2 + 1 = n0 - 1 by omega] at hop8; exact own_on (own_on hop8 hb9) hb10, by rw [show n0 - 2 + 1 = n0 - 1 by omega] at ho10; exact own_less ho10 hsz9, HH2, (hbox8.on hb9).on hb10, (hres8.on hb9).on hb10, below_on (below_on hB8 hb9) hb10⟩
            case measure => simp [vlen]; omega
end Go.Proofs.YtakmlmgffgoecaaDoor.R

/- Operations of a region that draws its order, taken one by one: what reads or reckons first, whatever comes. Nothing of the program is named here. -/
namespace Go.Proofs.YtakmlmgffgoecaaDoor
open Go.Sort Go.RowKit
/-! ### operations of a region that draws its order, taken one by one -/
section
variable {P : Program} {md : Region.Mode} {ops : Array Oper} {Q : Exit → Act → World → Prop} {S : World → Prop} {a : Act} {w w' : World}
theorem wpOp_val {i : Nat} {o : Oper} {v : Value} {K : Act → World → Prop} (hi : ops[i]? = some o) (hw : Region.wanted o (yielded ops a.tmps) = true) (hr : (execOp a.eval o).run P w = .ok (.value v) w') (h : K (a.put o.dst v) w') : wpOp P ops Q i K a w := by
  unfold Go.wpOp
  simp only [hi]
  simp only [hw, if_true, Oper.wp, hr, Oper.upon]
  exact .inl h
theorem wp_held_calm {id : Nat} {K : Act → World → Prop} {Q : Exit → Act → World → Prop} (n : Nat) (hn : ops.size = n) (hm : P.follows .mixedOrders = true)
    (h : wpAnyH P .any ops (Exit.then K (Calm Q)) S n (Array.replicate n false) a { w with drawn := w.drawn + 1 }) : (Code.region id ops true).wp P (Exit.then K Q) a w := by
  subst hn
  exact Code.wp_mono (Q := Exit.then K (Calm Q)) calm_then (wp_region_held hm h)
theorem held_done {K : Act → World → Prop} {Q : Exit → Act → World → Prop} {listed : Array Bool} {fuel : Nat} (hr : Region.ready md ops listed = []) (h : Exit.then K Q .normal a w) : wpAnyH P md ops (Exit.then K (Calm Q)) S fuel listed a w := wpAnyH_done hr (show Exit.then K (Calm Q) .normal a w from h) fuel
theorem held_take {K : Act → World → Prop} {Q : Exit → Act → World → Prop} {fuel : Nat} {listed : Array Bool} (i : Nat) (v : Value) {oi : Oper} (hi : ops[i]? = some oi) (hs : Region.noSelect ops = true) (hf : Region.free md ops listed i = true) (hr : (Region.ready md ops listed).contains i = true)
    (hw : Region.wanted oi (yielded ops a.tmps) = true) (hy : ∀ w, S w → (execOp a.eval oi).run P w = .ok (.value v) w) (hS : S w) (h : wpAnyH P md ops (Exit.then K (Calm Q)) S fuel (listed.setIfInBounds i true) (a.put oi.dst v) w) : wpAnyH P md ops (Exit.then K (Calm Q)) S (fuel + 1) listed a w :=
  wpAnyH_take hi hs hf hr (fun c a w h => calm_panic c _ _ a w h) (.inl ⟨hw, hy⟩) hS h
/-- .. with the slot said -/
theorem held_put {K : Act → World → Prop} {Q : Exit → Act → World → Prop} {fuel : Nat} {listed : Array Bool} (i : Nat) (d : Tmp) (v : Value) {oi : Oper} (hi : ops[i]? = some oi) (hd : oi.dst = some d) (hs : Region.noSelect ops = true) (hf : Region.free md ops listed i = true) (hr : (Region.ready md ops listed).contains i = true)
    (hw : Region.wanted oi (yielded ops a.tmps) = true) (hy : ∀ w, S w → (execOp a.eval oi).run P w = .ok (.value v) w) (hS : S w) (h : wpAnyH P md ops (Exit.then K (Calm Q)) S fuel (listed.setIfInBounds i true) ⟨a.tmps.setIfInBounds d v, a.defers⟩ w) : wpAnyH P md ops (Exit.then K (Calm Q)) S (fuel + 1) listed a w :=
  held_take i v hi hs hf hr hw hy hS (by rw [hd]; exact h)
theorem wpOp_put {i : Nat} {o : Oper} (d : Tmp) {v : Value} {K : Act → World → Prop} (hi : ops[i]? = some o) (hd : o.dst = some d) (hw : Region.wanted o (yielded ops a.tmps) = true) (hr : (execOp a.eval o).run P w = .ok (.value v) w') (h : K ⟨a.tmps.setIfInBounds d v, a.defers⟩ w') : wpOp P ops Q i K a w :=
  wpOp_val hi hw hr (by rw [hd]; exact h)
theorem held_one {fuel : Nat} {listed : Array Bool} (i : Nat) (hr : Region.ready md ops listed = [i]) (h : wpOp P ops Q i (fun a' w' => S w' ∧ wpAnyH P md ops Q S fuel (listed.setIfInBounds i true) a' w') a w) : wpAnyH P md ops Q S (fuel + 1) listed a w :=
  wpAnyH_all hr (by simp) (fun j hj => by rw [List.mem_singleton.1 hj]; exact h)
theorem wpOp_call {i : Nat} {o : Oper} (d : Tmp) {f : FuncId} {args : Array Value} {K : Act → World → Prop} (hi : ops[i]? = some o) (hd : o.dst = some d) (hw : Region.wanted o (yielded ops a.tmps) = true) (hr : (execOp a.eval o).run P w = .ok (.enter f args) w) (h : Calls P f args w fun e w'' => ∃ v, e = .returned v ∧ K ⟨a.tmps.setIfInBounds d v, a.defers⟩ w'') : wpOp P ops Q i K a w := by
  unfold Go.wpOp
  simp only [hi]
  simp only [hw, if_true, Oper.wp, hr, Oper.upon]
  refine .inl (h.mono ?_)
  rintro e w'' ⟨v, rfl, hk⟩
  rw [hd]
  exact hk
end
end Go.Proofs.YtakmlmgffgoecaaDoor

