/- Texts that stand on one another, put together: RFew, RAlive, RAddMath, Held, RSteps, ULaid. -/
import Derived.Test.YtakmlmgffgoecaaDoorK5
import Derived.ChangeOld
import Derived.LaidMore
import Derived.Laws.AppendOwnNone
import Derived.Laws.DeepStrings4
import Derived.OpenShut
import Derived.ProofKit
import Derived.ShutString
import Derived.Stop.Joined
import Derived.Test.YtakmlmgffgoecaaDoorRows
/- The contract of the statements' own call that takes few and short parts of a row. -/
namespace Go.Proofs.YtakmlmgffgoecaaDoor.R
open Go.RowKit Go.Sort Go.Proofs.YtakmlmgffgoecaaDoor.U

theorem own_form {w : World} {B : Nat} {e : TypeId} {v : Value} {n : Nat} {xs : List Value} (h : w.ownsRow B e 1 v n xs) : ∃ ao cap, v = .slice ao n cap := by
  rcases h.2 with ⟨rfl, h0⟩ | ⟨g, cap, cur, rfl, _⟩
  · exact ⟨none, 0, by rw [h0]⟩
  · exact ⟨some ⟨g, 0, none⟩, cap, rfl⟩
/-- few parts, each cut -/
def fewL (l : List (List UInt8)) : List (List UInt8) := (l.take 80).map (·.take 40)
theorem fewL_part {l : List (List UInt8)} {x : List UInt8} (h : x ∈ fewL l) : x.length ≤ 40 := by
  obtain ⟨y, _, rfl⟩ := List.mem_map.1 h
  simp; omega

/-- the row while it is cut: the first k are -/
def mixL (l : List (List UInt8)) (k : Nat) : List Value := ((l.take k).map (·.take 40) ++ l.drop k).map str
theorem mixL_zero (l : List (List UInt8)) : mixL l 0 = l.map str := by simp [mixL]
theorem mixL_end (l : List (List UInt8)) : mixL l l.length = (l.map (·.take 40)).map str := by simp [mixL]
theorem mixL_at {l : List (List UInt8)} {k : Nat} {x : List UInt8} (h : l[k]? = some x) : (mixL l k)[k]? = some (str x) := by
  have hlt := (List.getElem?_eq_some_iff.1 h).1
  unfold mixL
  rw [List.getElem?_map, List.getElem?_append_right (by simp; omega)]
  simp [Nat.min_eq_left (Nat.le_of_lt hlt), h]
theorem mixL_set {l : List (List UInt8)} {k : Nat} {x : List UInt8} (h : l[k]? = some x) : (mixL l k).set k (str (x.take 40)) = mixL l (k + 1) := by
  have hlt := (List.getElem?_eq_some_iff.1 h).1
  have hd : l.drop k = x :: l.drop (k + 1) := by rw [List.drop_eq_getElem_cons hlt]; congr 1; exact (List.getElem?_eq_some_iff.1 h).2
  unfold mixL
  rw [hd, show l.take (k + 1) = l.take k ++ [x] by rw [List.take_add_one, h]; rfl, List.map_append, List.set_append_right _ _ (by simp; omega)]
  simp [Nat.min_eq_left (Nat.le_of_lt hlt)]

theorem cut_bytes (x : List UInt8) (m : Nat) (mi : Int) (h : mi = (m : Int)) : (⟨x.toArray⟩ : ByteArray).extract 0 (min (x.length : Int) mi).toNat = ⟨(x.take m).toArray⟩ := by
  subst h
  rw [Lib.extract_eq]
  by_cases h : x.length ≤ m
  · rw [show (min (x.length : Int) (m : Int)).toNat = x.length by omega]
    simp [List.take_of_length_le h]
  · rw [show (min (x.length : Int) (m : Int)).toNat = m by omega]
    simp
theorem cut_to (x : List UInt8) : Value.string (({ data := x.toArray } : ByteArray).extract 0 (min (x.length : Int) 40).toNat) = str (x.take 40) := by
  rw [cut_bytes x 40 40 rfl]
  rfl

set_option maxRecDepth 100000 in
set_option maxHeartbeats 1600000 in
theorem few_great (w : World) (b off c : Nat) (l : List (List UInt8)) (h0 : 0 < l.length) (hc : l.length ≤ c) (hm : c ≤ maxLen) (hx : ∀ x ∈ l, x.length ≤ maxLen)
    (hcell : ∀ i x, l[i]? = some x → w.cell? ⟨b, off + i, none⟩ = some (str x)) :
    Calls Tryd.prog 9 #[.slice (some ⟨b, off, none⟩) l.length c] w fun e w' => ∃ v, e = .returned v ∧ Strs w' v (fewL l) ∧ Below w.heap.size w w' := by
  unfold maxLen at hm hx
  obtain ⟨i0, hi, hz0, hz1, hz2⟩ := info_parts infoStr
  have hown0 : (w.alloc (.cells #[] 9)).ownsRow w.heap.size 9 1 (.slice (some ⟨w.heap.size, 0, none⟩) 0 0) 0 [] := World.ownsRow_made w #[] 0 (Nat.le_refl _) (Nat.zero_le _) rfl
  obtain ⟨q, hq⟩ : ∃ q, (min (l.length : Int) 80).toNat = q := ⟨_, rfl⟩
  have hq80 : q ≤ 80 := by omega
  have hql : q ≤ l.length := by omega
  have hTl : (l.take 80).length = q := by rw [List.length_take]; omega
  have hlenT : ((l.take 80).map str).length = q * 1 := by rw [List.length_map, hTl, Nat.mul_one]
  have hnews : ∀ j u, ((l.take 80).map str)[j]? = some u → (w.alloc (.cells #[] 9)).cell? ((⟨b, off, none⟩ : Addr).add j) = some u := by
    intro j u hj
    rw [List.getElem?_map] at hj
    obtain ⟨x, hxj, rfl⟩ := Option.map_eq_some_iff.1 hj
    have hlj : l[j]? = some x := by rw [List.getElem?_take] at hxj; split at hxj <;> simp_all
    have h1 := hcell j x hlj
    have h2 : ((⟨b, off, none⟩ : Addr).add j) = ⟨b, off + j, none⟩ := by unfold Addr.add; split <;> simp_all
    rw [h2]
    exact (((Below.refl w.heap.size w).alloc (Nat.le_refl _) _).cell (p := ⟨b, off + j, none⟩) (World.block_lt_of_cell? w _ h1)).trans h1
  have hxT : ∀ (k : Nat) (x : List UInt8), (l.take 80)[k]? = some x → x.length ≤ 2 ^ 63 - 1 := fun k x h => hx x (List.mem_of_mem_take (List.mem_of_getElem? h))
  have hres : (l.take 80).map (·.take 40) = fewL l := by rfl
  have HR := Lib.hid hres
  have HL := Lib.hid hTl
  have HN := Lib.hid hnews
  have HX := Lib.hid hxT
  clear hres hTl hnews hxT hx hcell
  generalize l.take 80 = T at HR HL HN HX hlenT
  go_enter Tryd.func9, Tryd.ntmps9
  go_wp2_with (at_builtin; refine wpList_append_lies _ rfl _ _ 22 (by rfl) w.heap.size 9 i0 _ 1 16 Tryd.underlying22 hi hz0 hz1 hz2 rfl (by omega) _ 0 [] (by rfl) hown0 ⟨b, off, none⟩ q c (T.map str) (by rfl) hlenT HN.out (by intro u hu; obtain ⟨x, _, rfl⟩ := List.mem_map.1 hu; rfl) (by omega) (by unfold maxLen; omega) (by omega) (by simp) (w.heap.size + 1) (by simp) ?_; intro g cap w1 hown1 hgrow1 hat1 hlt1)
  simp only [Nat.zero_add, List.nil_append] at hown1
  have hb1 : Below w.heap.size w w1 := ((Below.refl w.heap.size w).alloc (Nat.le_refl _) _).grown hgrow1 (by simp) (fun j hj => (hown0.lt j hj).1)
  clear hown0 hgrow1 hat1 hlt1 hlenT HN
  go_loopw [14] (fun i wr => ∃ k : Nat, k ≤ q ∧ i = .int .i64 k ∧ wr.ownsRow w.heap.size 9 1 (.slice (some ⟨g, 0, none⟩) q cap) q (mixL T k) ∧ Below w.heap.size w wr) (fun i _ => q - (intOf i).toNat)
  case atStart => exact ⟨0, Nat.zero_le _, rfl, by rw [mixL_zero]; exact hown1, hb1⟩
  case round =>
    obtain ⟨k, hk, rfl, ho, hb⟩ := hrel
    by_cases hlt : k < q
    · obtain ⟨x, hxk⟩ : ∃ x, T[k]? = some x := ⟨T[k]'(by have := HL.out; omega), List.getElem?_eq_getElem _⟩
      have hxl := HX.out k x hxk
      have hc1 : wr.cell? ⟨g, k, none⟩ = some (.string ⟨x.toArray⟩) := (ho.cellAt k (by omega)).trans (mixL_at hxk)
      have hf1 := ho.frozenAt k
      have hst := (ho.stored k (str (x.take 40))).1
      rw [mixL_set hxk] at hst
      have HB := Lib.hid (hb.setCell (p := ⟨g, k, none⟩) (by exact (ho.lt g rfl).1) (str (x.take 40)))
      have HS := Lib.hid hst
      have HC := Lib.hid (cut_to x)
      clear hst hxk ho hown1 hb1
      go_wp2_with fail
      go_roundw
      case rel => exact ⟨k + 1, by omega, by go_num, by rw [HC.out]; exact HS.out, by rw [HC.out]; exact HB.out⟩
      case measure => simp [intOf]; omega
    · have HK := Lib.hid (show mixL T k = (fewL l).map str by rw [show k = T.length by have := HL.out; omega, mixL_end, HR.out])
      go_wp2_with fail
      go_ret
      exact ⟨_, rfl, Strs.owned (by rw [← HK.out]; exact ho), hb⟩

/-- an empty row -/
theorem few_none (w : World) : Calls Tryd.prog 9 #[.slice none 0 0] w fun e w' => ∃ v, e = .returned v ∧ Strs w' v (fewL []) ∧ Below w.heap.size w w' := by
  obtain ⟨i0, hi, hz0, hz1, hz2⟩ := info_parts infoStr
  have hown0 : (w.alloc (.cells #[] 9)).ownsRow w.heap.size 9 1 (.slice (some ⟨w.heap.size, 0, none⟩) 0 0) 0 [] := World.ownsRow_made w #[] 0 (Nat.le_refl _) (Nat.zero_le _) rfl
  go_enter Tryd.func9, Tryd.ntmps9
  go_wp2_with (at_builtin; refine wpList_append_own_none rfl _ _ 22 (by rfl) w.heap.size 9 i0 1 Tryd.underlying22 hi _ 0 [] (by rfl) hown0 (by rfl) ?_)
  have hb1 : Below w.heap.size w (w.alloc (.cells #[] 9)) := (Below.refl w.heap.size w).alloc (Nat.le_refl _) _
  go_loopw [14] (fun i wr => i = .int .i64 0 ∧ wr.ownsRow w.heap.size 9 1 (.slice (some ⟨w.heap.size, 0, none⟩) 0 0) 0 [] ∧ Below w.heap.size w wr) (fun _ _ => 0)
  case atStart => exact ⟨rfl, hown0, hb1⟩
  case round =>
    obtain ⟨rfl, ho, hb⟩ := hrel
    go_wp2_with fail
    go_ret
    exact ⟨_, rfl, Strs.owned (l := []) ho, hb⟩

/-- an empty row that is not nil -/
theorem few_empty (w : World) (ad : Addr) (c : Nat) : Calls Tryd.prog 9 #[.slice (some ad) 0 c] w fun e w' => ∃ v, e = .returned v ∧ Strs w' v (fewL []) ∧ Below w.heap.size w w' := by
  obtain ⟨i0, hi, hz0, hz1, hz2⟩ := info_parts infoStr
  have hown0 : (w.alloc (.cells #[] 9)).ownsRow w.heap.size 9 1 (.slice (some ⟨w.heap.size, 0, none⟩) 0 0) 0 [] := World.ownsRow_made w #[] 0 (Nat.le_refl _) (Nat.zero_le _) rfl
  go_enter Tryd.func9, Tryd.ntmps9
  go_wp2_with (at_builtin; refine wpList_append_own _ rfl _ _ 22 (by rfl) w.heap.size 9 i0 _ 1 16 Tryd.underlying22 hi hz0 hz1 hz2 rfl (by omega) _ 0 [] (by rfl) hown0 ad 0 c [] (by rfl) rfl (by intro j u hj; cases hj) (by intro u hu; cases hu) (by unfold maxLen; omega) (by omega) (by simp) ?_; intro v' w1 hown1 hgrow1 hnil1; obtain ⟨ao, cp, rfl⟩ := own_form hown1)
  simp only [Nat.zero_add, List.append_nil] at hown1
  have hb1 : Below w.heap.size w w1 := ((Below.refl w.heap.size w).alloc (Nat.le_refl _) _).grown hgrow1 (by simp) (fun j hj => (hown0.lt j hj).1)
  clear hown0 hgrow1 hnil1
  go_loopw [14] (fun i wr => i = .int .i64 0 ∧ wr.ownsRow w.heap.size 9 1 (.slice ao 0 cp) 0 [] ∧ Below w.heap.size w wr) (fun _ _ => 0)
  case atStart => exact ⟨rfl, hown1, hb1⟩
  case round =>
    obtain ⟨rfl, ho, hb⟩ := hrel
    go_wp2_with fail
    go_ret
    exact ⟨_, rfl, Strs.owned (l := []) ho, hb⟩

/-- whatever row: few of its parts, each cut -/
theorem few_any (w : World) (v : Value) (l : List (List UInt8)) (hl : Strs w v l) (hx : ∀ x ∈ l, x.length ≤ maxLen) :
    Calls Tryd.prog 9 #[v] w fun e w' => ∃ v', e = .returned v' ∧ Strs w' v' (fewL l) ∧ Below w.heap.size w w' := by
  obtain ⟨a, c, rfl, hc, hm, hn, hl⟩ := hl
  by_cases h0 : l = []
  · subst h0
    cases a with
    | none => rw [hn rfl]; exact few_none w
    | some ad => exact few_empty w ad c
  · obtain ⟨b, off, rfl, hcell⟩ := hl h0
    exact few_great w b off c l (List.length_pos_iff.2 h0) hc hm hx hcell

end Go.Proofs.YtakmlmgffgoecaaDoor.R

/- The contracts of the statements' own calls: three leaves' root; a tree with few and short parts. -/
namespace Go.Proofs.YtakmlmgffgoecaaDoor.R
open Go.RowKit Go.Sort Go.Proofs.YtakmlmgffgoecaaDoor.U
set_option maxRecDepth 100000

theorem spl2 : spl 2 = 1 := spl_is (j := 0) (by decide) (by decide)
theorem spl3 : spl 3 = 2 := spl_is (j := 1) (by decide) (by decide)
theorem rt_two (a b : List UInt8) : rt [a, b] = nd a b := by
  have h := rootL_two nd e0 (l := [a, b]) (Nat.le_refl 2)
  rw [show [a, b].length = 2 from rfl, spl2] at h
  exact h
theorem rt_three (a b c : List UInt8) : rt [a, b, c] = nd (nd a b) c := by
  have h := rootL_two nd e0 (l := [a, b, c]) (show 2 ≤ 3 by decide)
  rw [show [a, b, c].length = 3 from rfl, spl3] at h
  refine h.trans ?_
  show nd (rt [a, b]) c = _
  rw [rt_two]
theorem toList_of (s : List UInt8) : (bytesOf s).toList = s := by rw [ByteArray.toList_eq]; rfl
theorem bytes_ne {s : List UInt8} (h : s.length = 32) : (bytesOf s).toList.isEmpty = false := by
  rw [toList_of]
  cases s with
  | nil => cases h
  | cons x s => rfl
theorem row3 {a b c : List UInt8} (ha : a.length = 32) (hb : b.length = 32) (hc : c.length = 32) : rowB [a, b, c] = true := by
  unfold rowB allB
  simp [ha, hb, hc]

set_option maxHeartbeats 800000 in
theorem alive_any (w : World) (hT : Tab w) : Calls Tryd.prog 17 #[] w fun e w' => e = .returned (.bool true) ∧ Below w.heap.size w w' := by
  have HL := Lib.hid (fun (x : List UInt8) w' (hb : Below w.heap.size w w') (hx : x.length ≤ 10) => leaf_any x w' (by omega) (hT.below hb))
  obtain ⟨a, ha, ha32⟩ : ∃ a, lf [97] = a ∧ a.length = 32 := ⟨_, rfl, lf_length _⟩
  obtain ⟨b, hb, hb32⟩ : ∃ b, lf [98] = b ∧ b.length = 32 := ⟨_, rfl, lf_length _⟩
  obtain ⟨c, hc, hc32⟩ : ∃ c, lf [99] = c ∧ c.length = 32 := ⟨_, rfl, lf_length _⟩
  obtain ⟨d, hd, hd32⟩ : ∃ d, nd a b = d ∧ d.length = 32 := ⟨_, rfl, nd_length _ _⟩
  obtain ⟨s, hs, hs32⟩ : ∃ s, nd d c = s ∧ s.length = 32 := ⟨_, rfl, nd_length _ _⟩
  have HA := Lib.hid (fun w' (hb : Below w.heap.size w w') => HL.out [97] w' hb (by decide))
  have HB := Lib.hid (fun w' (hb : Below w.heap.size w w') => HL.out [98] w' hb (by decide))
  have HC := Lib.hid (fun w' (hb : Below w.heap.size w w') => HL.out [99] w' hb (by decide))
  have HD := Lib.hid (fun w' (hw : Below w.heap.size w w') => node_any a b w' (by omega) (by omega) (hT.below hw))
  have HS := Lib.hid (fun w' (hw : Below w.heap.size w w') => node_any d c w' (by omega) (by omega) (hT.below hw))
  have HRA : rootA [a, b, c] = #[.string (bytesOf s), .int .i64 0] := by unfold rootA; rw [if_pos (row3 ha32 hb32 hc32), rt_three, hd, hs]
  have HR := Lib.hid (fun w' (hw : Below w.heap.size w w') => root_any [a, b, c] (w'.alloc (.cells ([a, b, c].map str).toArray 9)) (.slice (some ⟨w'.heap.size, 0, none⟩) 3 3) (by intro x hx; simp only [List.mem_cons, List.not_mem_nil, or_false] at hx; unfold maxLen; rcases hx with rfl | rfl | rfl <;> omega) (strs_new w' [a, b, c] (show 3 ≤ 1000 by decide)) (hT.below (hw.alloc hw.size _)))
  rw [HRA] at HR
  rw [ha] at HA
  rw [hb] at HB
  rw [hc] at HC
  rw [hd] at HD
  rw [hs] at HS
  have hne := bytes_ne hs32
  have hB := Below.refl w.heap.size w
  clear HL HRA ha hb hc hd hs hT
  go_enter Tryd.func17, Tryd.ntmps17
  go_wp2_with (first
    | (go_at_call 11; first | (refine (HA.out _ hB).mono ?_; rintro e w1 ⟨rfl, hb1⟩; replace hB := below_on hB hb1) | (refine (HB.out _ hB).mono ?_; rintro e w2 ⟨rfl, hb2⟩; replace hB := below_on hB hb2) | (refine (HC.out _ hB).mono ?_; rintro e w3 ⟨rfl, hb3⟩; replace hB := below_on hB hb3))
    | (go_at_call 10; refine (HR.out _ hB).mono ?_; rintro e w4 ⟨rfl, hb4⟩; replace hB := below_on (hB.alloc hB.size _) hb4)
    | (go_at_call 13; first | (refine (HD.out _ hB).mono ?_; rintro e w5 ⟨rfl, hb5⟩; replace hB := below_on hB hb5) | (refine (HS.out _ hB).mono ?_; rintro e w6 ⟨rfl, hb6⟩; replace hB := below_on hB hb6)))
  go_ret
  exact ⟨rfl, hB⟩

theorem strs_only {w w' : World} {g : Nat} {t : TypeId} {cs : Array Value} {v : Value} {l : List (List UInt8)} (h : Strs w v l) (hl : Lies w g t cs) (hno : ∀ (i : Nat) x, cs[i]? ≠ some (str x)) (hO : Only g w w') : Strs w' v l := by
  obtain ⟨a, c, hv, hc, hm, hn, hcl⟩ := h
  refine ⟨a, c, hv, hc, hm, hn, fun hne => ?_⟩
  obtain ⟨b, off, ha, hx⟩ := hcl hne
  refine ⟨b, off, ha, fun i x hi => ?_⟩
  have h1 := hx i x hi
  have hlt := World.block_lt_of_cell? w _ h1
  by_cases hb : b = g
  · subst hb
    rw [hl.cell] at h1
    exact absurd h1 (hno _ _)
  · rw [World.cell?_of_block (hO.block b hlt (by intro e; injection e with e; exact hb e))]
    exact h1
theorem growA_str (n : Int) (a : Option Addr) (m c i : Nat) (x : List UInt8) : (growA n (.slice a m c))[i]? ≠ some (str x) := by
  match i with
  | 0 => intro h; cases h
  | 1 => intro h; cases h
  | i + 2 => intro h; simp [growA] at h
end Go.Proofs.YtakmlmgffgoecaaDoor.R

/- The reference's Add: how many leaves each part is of, as lists; rows that are cut with their capacity, and go on in new memory. -/
namespace Go.Proofs.YtakmlmgffgoecaaDoor.R
open Go.RowKit Go.Sort Go.Proofs.YtakmlmgffgoecaaDoor.U
set_option maxRecDepth 100000

section
variable {a : Act} {d : Option Tmp} {x y z : Tmp} {t' : TypeId} {pos : String} {after : Array Edge} {gd : Option (Nat × Bool)} {r : TypeId}
end
theorem grown_alloc (w : World) (o : Obj) : Below w.heap.size w (w.alloc o) := (Below.refl _ _).alloc (Nat.le_refl _) o
end Go.Proofs.YtakmlmgffgoecaaDoor.R

/- Operations of a region that draws its order, taken one by one: what reads or reckons first, whatever comes. Nothing of the program is named here. -/
namespace Go.Proofs.YtakmlmgffgoecaaDoor
open Go.Sort Go.RowKit
/-! ### operations of a region that draws its order, taken one by one -/
section
variable {P : Program} {md : Region.Mode} {ops : Array Oper} {Q : Exit → Act → World → Prop} {S : World → Prop} {a : Act} {w w' : World}
theorem wpOp_val {i : Nat} {o : Oper} {v : Value} {K : Act → World → Prop} (hi : ops[i]? = some o) (hw : Region.wanted o (yielded ops a.tmps) = true) (hr : (execOp a.eval o).run P w = .ok (.value v) w') (h : K (a.put o.dst v) w') : wpOp P ops Q i K a w := by
  unfold Go.wpOp
  simp only [hi]
  simp only [hw, if_true, Oper.wp, hr, Oper.upon]
  exact .inl h
theorem wp_held_calm {id : Nat} {K : Act → World → Prop} {Q : Exit → Act → World → Prop} (n : Nat) (hn : ops.size = n) (hm : P.follows .mixedOrders = true)
    (h : wpAnyH P .any ops (Exit.then K (Calm Q)) S n (Array.replicate n false) a { w with drawn := w.drawn + 1 }) : (Code.region id ops true).wp P (Exit.then K Q) a w := by
  subst hn
  exact Code.wp_mono (Q := Exit.then K (Calm Q)) calm_then (wp_region_held hm h)
theorem held_done {K : Act → World → Prop} {Q : Exit → Act → World → Prop} {listed : Array Bool} {fuel : Nat} (hr : Region.ready md ops listed = []) (h : Exit.then K Q .normal a w) : wpAnyH P md ops (Exit.then K (Calm Q)) S fuel listed a w := wpAnyH_done hr (show Exit.then K (Calm Q) .normal a w from h) fuel
theorem held_take {K : Act → World → Prop} {Q : Exit → Act → World → Prop} {fuel : Nat} {listed : Array Bool} (i : Nat) (v : Value) {oi : Oper} (hi : ops[i]? = some oi) (hs : Region.noSelect ops = true) (hf : Region.free md ops listed i = true) (hr : (Region.ready md ops listed).contains i = true)
    (hw : Region.wanted oi (yielded ops a.tmps) = true) (hy : ∀ w, S w → (execOp a.eval oi).run P w = .ok (.value v) w) (hS : S w) (h : wpAnyH P md ops (Exit.then K (Calm Q)) S fuel (listed.setIfInBounds i true) (a.put oi.dst v) w) : wpAnyH P md ops (Exit.then K (Calm Q)) S (fuel + 1) listed a w :=
  wpAnyH_take hi hs hf hr (fun c a w h => calm_panic c _ _ a w h) (.inl ⟨hw, hy⟩) hS h
/-- .. with the slot said -/
theorem held_put {K : Act → World → Prop} {Q : Exit → Act → World → Prop} {fuel : Nat} {listed : Array Bool} (i : Nat) (d : Tmp) (v : Value) {oi : Oper} (hi : ops[i]? = some oi) (hd : oi.dst = some d) (hs : Region.noSelect ops = true) (hf : Region.free md ops listed i = true) (hr : (Region.ready md ops listed).contains i = true)
    (hw : Region.wanted oi (yielded ops a.tmps) = true) (hy : ∀ w, S w → (execOp a.eval oi).run P w = .ok (.value v) w) (hS : S w) (h : wpAnyH P md ops (Exit.then K (Calm Q)) S fuel (listed.setIfInBounds i true) ⟨a.tmps.setIfInBounds d v, a.defers⟩ w) : wpAnyH P md ops (Exit.then K (Calm Q)) S (fuel + 1) listed a w :=
  held_take i v hi hs hf hr hw hy hS (by rw [hd]; exact h)
theorem wpOp_put {i : Nat} {o : Oper} (d : Tmp) {v : Value} {K : Act → World → Prop} (hi : ops[i]? = some o) (hd : o.dst = some d) (hw : Region.wanted o (yielded ops a.tmps) = true) (hr : (execOp a.eval o).run P w = .ok (.value v) w') (h : K ⟨a.tmps.setIfInBounds d v, a.defers⟩ w') : wpOp P ops Q i K a w :=
  wpOp_val hi hw hr (by rw [hd]; exact h)
theorem held_one {fuel : Nat} {listed : Array Bool} (i : Nat) (hr : Region.ready md ops listed = [i]) (h : wpOp P ops Q i (fun a' w' => S w' ∧ wpAnyH P md ops Q S fuel (listed.setIfInBounds i true) a' w') a w) : wpAnyH P md ops Q S (fuel + 1) listed a w :=
  wpAnyH_all hr (by simp) (fun j hj => by rw [List.mem_singleton.1 hj]; exact h)
theorem wpOp_call {i : Nat} {o : Oper} (d : Tmp) {f : FuncId} {args : Array Value} {K : Act → World → Prop} (hi : ops[i]? = some o) (hd : o.dst = some d) (hw : Region.wanted o (yielded ops a.tmps) = true) (hr : (execOp a.eval o).run P w = .ok (.enter f args) w) (h : Calls P f args w fun e w'' => ∃ v, e = .returned v ∧ K ⟨a.tmps.setIfInBounds d v, a.defers⟩ w'') : wpOp P ops Q i K a w := by
  unfold Go.wpOp
  simp only [hi]
  simp only [hw, if_true, Oper.wp, hr, Oper.upon]
  refine .inl (h.mono ?_)
  rintro e w'' ⟨v, rfl, hk⟩
  rw [hd]
  exact hk
end
end Go.Proofs.YtakmlmgffgoecaaDoor

/- Operations by themselves, for walks of regions that draw their order: texts, variables, leaves and trees that go on. -/
namespace Go.Proofs.YtakmlmgffgoecaaDoor.R
open Go.RowKit Go.Sort Go.Proofs.YtakmlmgffgoecaaDoor.U
set_option maxRecDepth 100000

section
variable {a : Act} {d : Option Tmp} {x y : Operand} {t' : TypeId} {pos : String} {after : Array Edge} {gd : Option (Nat × Bool)} {r : TypeId}
theorem run_ldG {w : World} (g : Nat) (t : TypeId) (n : Int) (v : Value) (hg : Lies w g t (growA n v)) (hx : a.eval x = .pointer (some ⟨g, 0, none⟩)) :
    (execOp a.eval ⟨d, .load 34 x, t', pos, after, gd⟩).run Tryd.prog w = .ok (.value (.agg (growA n v))) w := by
  unfold execOp
  simp only [hx, Instr.loadAt, Instr.sureAddr, Sem.run_bind, Sem.run_pure, Result.andThen_ok, run_loadVar_row w g t 34 (growA n v) (0, 0) _ hg Tryd.underlying34 rfl rowGrow.2]
theorem run_lenS (s : List UInt8) (hx : a.eval x = .string (bytesOf s)) (w : World) :
    (execOp a.eval ⟨d, .call { callee := .builtin .len, args := #[x], argTypes := #[9] }, t', pos, after, gd⟩).run Tryd.prog w = .ok (.value (.int .i64 (s.length : Int))) w := by
  have hz : (bytesOf s).size = s.length := bytes_size s
  have hr : (Builtin.len_ #[9] t' #[.string (bytesOf s)]).run Tryd.prog w = .ok (.int .i64 (s.length : Int)) w := by simp [go_sem, hz]
  simp [execOp, resolve, invoke, builtin, hx, hr, Result.andThen]
theorem run_minI (n : Int) (m : Int) (hx : a.eval x = .int .i64 n) (w : World) :
    (execOp a.eval ⟨d, .call { callee := .builtin .min, args := #[x, .const (.int .i64 m)], argTypes := #[3, 3] }, t', pos, after, gd⟩).run Tryd.prog w = .ok (.value (.int .i64 (min n m))) w := by
  have h2 : a.eval (.const (.int .i64 m)) = .int .i64 m := rfl
  have hr : (Builtin.min_ #[3, 3] t' #[.int .i64 n, .int .i64 m]).run Tryd.prog w = .ok (.int .i64 (min n m)) w := by simp [go_sem]
  simp [execOp, resolve, invoke, builtin, hx, h2, hr, Result.andThen]
theorem run_cutS (s : List UInt8) (m : Nat) (hx : a.eval x = .string (bytesOf s)) (hy : a.eval y = .int .i64 (min (s.length : Int) (m : Int))) (w : World) :
    (execOp a.eval ⟨d, .slice 9 x none (some y) none, t', pos, after, gd⟩).run Tryd.prog w = .ok (.value (.string (bytesOf (s.take m)))) w := by
  have hc := cut_bytes s m m rfl
  have hz : (bytesOf s).size = s.length := bytes_size s
  have h1 : 0 ≤ min (s.length : Int) (m : Int) := by omega
  have h2 : min (s.length : Int) (m : Int) ≤ (s.length : Int) := by omega
  unfold execOp
  simp only [hx, hy, Option.map_some, Option.map_none]
  generalize min (s.length : Int) (m : Int) = q at *
  simp [Instr.sliceAt, run_underlying Tryd.underlying9, go_sem, hz, h1, h2]
  exact hc
theorem run_byte (n : Nat) (hn : n < 256) (hx : a.eval x = .int .i64 (n : Int)) (w : World) :
    (execOp a.eval ⟨d, .convert 3 5 x, t', pos, after, gd⟩).run Tryd.prog w = .ok (.value (.int .u8 (n : Int))) w := by
  have h3 : IntKind.u8.wrap (n : Int) = (n : Int) := by rw [IntKind.wrap_u8]; omega
  unfold execOp
  simp only [hx]
  simp [convert, go_sem, h3]
theorem run_str1 (g c : Nat) (hc : c < 256) (w : World) (hcell : w.cell? ⟨g, 0, none⟩ = some (.int .u8 (c : Int))) (hx : a.eval x = .slice (some ⟨g, 0, none⟩) 1 1) :
    (execOp a.eval ⟨d, .convert 47 9 x, t', pos, after, gd⟩).run Tryd.prog w = .ok (.value (.string (bytesOf [c.toUInt8]))) w := by
  have h := run_convert_bytes_back (P := Tryd.prog) w 47 9 5 ⟨g, 0, none⟩ 1 [c.toUInt8] Tryd.underlying47 Tryd.underlying5 Tryd.underlying9 (fun j hj => by
    obtain rfl : j = 0 := by simpa using hj
    rw [Addr.add_mid]
    refine hcell.trans ?_
    show some (Value.int .u8 (c : Int)) = some (Value.int .u8 ((c.toUInt8.toNat : Nat) : Int))
    rw [show c.toUInt8.toNat = c by rw [Nat.toUInt8, UInt8.toNat_ofNat']; omega])
  unfold execOp
  simp only [hx, Sem.run_bind, Sem.run_pure]
  rw [show ([c.toUInt8] : List UInt8).length = 1 from rfl] at h
  rw [h]
  rfl
theorem run_cat (s t : List UInt8) (hs : s.length + t.length ≤ 10000) (hx : a.eval x = .string (bytesOf s)) (hy : a.eval y = .string (bytesOf t)) (w : World) :
    (execOp a.eval ⟨d, .binOp .add 9 x y r, t', pos, after, gd⟩).run Tryd.prog w = .ok (.value (.string (bytesOf (s ++ t)))) w := by
  have hz1 : (bytesOf s).size = s.length := bytes_size s
  have hz2 : (bytesOf t).size = t.length := bytes_size t
  have h3 : ¬ (9223372036854775807 < s.length + t.length) := by omega
  unfold execOp
  simp only [hx, hy]
  simp [go_sem, hz1, hz2, h3]
  rw [← Lib.mk_data (bytesOf s ++ bytesOf t), list_append]
  rfl
end

/-! ### what is said -/
/-- Add's answer -/
abbrev sayAdd (n : Int) (M : List (List UInt8)) : Said := fun v w => ∃ a c, v = .tuple #[.agg (growA n (.slice a M.length c)), .int .i64 0] ∧ Strs w (.slice a M.length c) M
theorem sayAdd_mono (n : Int) (M : List (List UInt8)) : ∀ v w w', sayAdd n M v w → Below w.heap.size w w' → sayAdd n M v w' := fun _ _ _ ⟨a, c, hv, hs⟩ hb => ⟨a, c, hv, hs.below hb⟩
/-- a tree that goes on -/
abbrev sayGrow (n : Int) (M : List (List UInt8)) : Said := fun v w => ∃ a c, v = .agg (growA n (.slice a M.length c)) ∧ Strs w (.slice a M.length c) M
theorem sayGrow_mono (n : Int) (M : List (List UInt8)) : ∀ v w w', sayGrow n M v w → Below w.heap.size w w' → sayGrow n M v w' := fun _ _ _ ⟨a, c, hv, hs⟩ hb => ⟨a, c, hv, hs.below hb⟩
/-- a new variable of no tree -/
abbrev sayNewG (B : Nat) : Said := fun v w => ∃ g, v = .pointer (some ⟨g, 0, none⟩) ∧ B ≤ g ∧ Lies w g 34 noA
theorem sayNewG_mono (B : Nat) : ∀ v w w', sayNewG B v w → Below w.heap.size w w' → sayNewG B v w' := fun _ _ _ ⟨g, hv, hg, hl⟩ hb => ⟨g, hv, hg, hl.on hb⟩
/-- a row of one byte -/
abbrev sayByte1 (c : Nat) : Said := fun v w => ∃ g, v = .slice (some ⟨g, 0, none⟩) 1 1 ∧ w.cell? ⟨g, 0, none⟩ = some (.int .u8 (c : Int))
theorem sayByte1_mono (c : Nat) : ∀ v w w', sayByte1 c v w → Below w.heap.size w w' → sayByte1 c v w' := fun _ _ _ ⟨g, hv, hc⟩ hb => ⟨g, hv, (hb.cell (p := ⟨g, 0, none⟩) (World.block_lt_of_cell? _ _ hc)).trans hc⟩
/-- a row of one text -/
abbrev sayOneS (x : List UInt8) : Said := fun v w => ∃ g, v = .slice (some ⟨g, 0, none⟩) 1 1 ∧ Lies w g 9 #[.string (bytesOf x)]
theorem sayOneS_mono (x : List UInt8) : ∀ v w w', sayOneS x v w → Below w.heap.size w w' → sayOneS x v w' := fun _ _ _ ⟨g, hv, hl⟩ hb => ⟨g, hv, hl.on hb⟩
theorem oneS_strs {w : World} {g : Nat} {x : List UInt8} (h : Lies w g 9 #[.string (bytesOf x)]) : Strs w (.slice (some ⟨g, 0, none⟩) 1 1) [x] := by
  refine ⟨some ⟨g, 0, none⟩, 1, rfl, Nat.le_refl _, by unfold maxLen; omega, (fun h => by cases h), fun _ => ⟨g, 0, rfl, fun i y hi => ?_⟩⟩
  match i, hi with
  | 0, hi =>
    have : x = y := by simpa using hi
    subst this
    exact h.cell 0

/-- Add's contract, where what comes may be -/
theorem add_say (n : Nat) (v lv : Value) (ps l : List (List UInt8)) (w : World) (hs : Strs w v ps) (hls : Strs w lv l) (hm : mayB n ps = true) (hr : rowB l = true) (h : n + l.length ≤ 4096) (hT : Tab w) :
    Calls Tryd.prog 20 #[.agg (growA n v), lv] w fun e w' => ∃ u, e = .returned u ∧ Below w.heap.size w w' ∧ sayAdd ((n + l.length : Nat) : Int) (addL n ps l) u w' :=
  (gadd_yes n v lv ps l w hs hls hm hr h hT).mono fun _ _ ⟨a2, c2, he, hs2, hb⟩ => ⟨_, he, hb, a2, c2, rfl, hs2⟩
end Go.Proofs.YtakmlmgffgoecaaDoor.R

/- What the listed variables give: the two tables hold their constants; and a start that meets it. -/
namespace Go.Proofs.YtakmlmgffgoecaaDoor.U
open Go.ChangeShapes Go.WideShapes Go.ChangeAt Go.RowKit

theorem rowOwn : ownKnob Tryd.prog.godebug = none := by kernel_rfl
theorem rowLaid : laidOutB Tryd.prog = true := by kernel_rfl

/-- the list that every row lists -/
abbrev laidL : List (String × DataW Unit) := [("imprimatur/sha256.squareRoots", Rows.laid_imprimatur_sha256_squareRoots), ("imprimatur/sha256.cubeRoots", Rows.laid_imprimatur_sha256_cubeRoots)]

theorem cells25 : Tryd.prog.cellsOf 58 = 1 := by kernel_rfl
theorem arr_cells {W : World} {name : String} {g t n fuel : Nat} {cs : Array Value} {p : List MemPlace} (L : List Nat) (hg : Tryd.prog.globalNamed name = some g) (ht : Tryd.prog.underlying t = some (.array n 58)) (hv : W.var? Tryd.prog name = some cs)
    (hd : DataW.trod (fun _ => ()) Tryd.prog W 0 (fun _ => true) false fuel t cs.toList = some (.agg (L.map fun x : Nat => .lit (.int .u32 (x : Int))), p)) (hn : L.length = n) :
    ∀ i, i < n → W.cell? ⟨g, i, none⟩ = some (u32 (L.getD i 0)) := by
  intro i hi
  obtain ⟨xs, m, rfl, hx, _, hxn, hel⟩ := DataW.trod_array ht hd
  have h1 := hel i hi
  simp only [Prod.mk.injEq, DataW.agg.injEq] at hx
  have hxi : xs[i]? = some (xs[i]'(by omega)) := List.getElem?_eq_getElem (by omega)
  rw [hxi, cells25, Nat.mul_one] at h1
  obtain ⟨k, e1, e2, _⟩ := DataW.trod_int Tryd.underlying58 h1
  have h2 : (xs.map (·.1))[i]? = some (.lit (.int .u32 k)) := by rw [List.getElem?_map, hxi, e2]; rfl
  rw [← hx.1, List.getElem?_map] at h2
  have hLi : L[i]? = some (L[i]'(by omega)) := List.getElem?_eq_getElem (by omega)
  rw [hLi] at h2
  simp only [Option.map_some, Option.some.injEq, DataW.lit.injEq, Lit.int.injEq, true_and] at h2
  rw [World.var?_cell hg hv i, ← Array.getElem?_toList]
  have h3 : ((cs.toList.drop i).take 1)[0]? = some (.int .u32 k) := by rw [e1]; rfl
  rw [List.getElem?_take, if_pos (by decide), List.getElem?_drop, Nat.add_zero] at h3
  rw [h3, ← h2, List.getD_eq_getElem?_getD, hLi]
  rfl

theorem gSq : Tryd.prog.globalNamed "imprimatur/sha256.squareRoots" = some 0 := by kernel_rfl
theorem gCu : Tryd.prog.globalNamed "imprimatur/sha256.cubeRoots" = some 1 := by kernel_rfl
theorem tSq : (Tryd.prog.globals[0]?).map (·.type) = some 59 := by kernel_rfl
theorem tCu : (Tryd.prog.globals[1]?).map (·.type) = some 80 := by kernel_rfl
def sq : List Nat := [h0.a, h0.b, h0.c, h0.d, h0.e, h0.f, h0.g, h0.h]
theorem sq_at (i : Nat) (h : i < 8) : sq.getD i 0 = h0.at i := by
  match i, h with
  | 0, _ | 1, _ | 2, _ | 3, _ | 4, _ | 5, _ | 6, _ | 7, _ => rfl

theorem tab_of_laid {W : World} (h : laidMetH Tryd.prog laidL W) : Tab W := by
  rw [MakeChecks.laidMetH_plain _ _ _ (by kernel_rfl)] at h
  obtain ⟨ps, ⟨g0, t0, cs0, f0, p0, q0, hg0, ht0, hv0, hd0, ⟨g1, t1, cs1, f1, p1, q1, hg1, ht1, hv1, hd1, _, _⟩, _⟩, _, _⟩ := h
  obtain rfl := Option.some.inj (gSq.symm.trans hg0)
  obtain rfl := Option.some.inj (gCu.symm.trans hg1)
  obtain rfl := Option.some.inj (tSq.symm.trans ht0)
  obtain rfl := Option.some.inj (tCu.symm.trans ht1)
  have c0 := arr_cells sq gSq Tryd.underlying59 hv0 hd0 rfl
  have c1 := arr_cells ks gCu Tryd.underlying80 hv1 hd1 rfl
  exact ⟨fun i hi => by rw [← sq_at i hi]; exact c0 i hi, c1⟩

/-- the door's own heap meets the condition -/
theorem door_met (os : Os) (args : Array Value) : laidMetH Tryd.prog laidL ((World.doorLaid Tryd.prog 400 os).forCall (fun _ _ => 0) ⟨#[], args, []⟩).memory :=
  laidMetH_of_parts3 (fuel := 8) (laidMet_of_run' 8 (by kernel_rfl) (by kernel_rfl)) (by kernel_rfl) (by kernel_rfl)
end Go.Proofs.YtakmlmgffgoecaaDoor.U

