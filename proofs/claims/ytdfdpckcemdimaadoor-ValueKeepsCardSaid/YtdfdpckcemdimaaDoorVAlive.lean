/- The statements' alive and big. -/
import Derived.Test.YtdfdpckcemdimaaDoorVMake
import Derived.Test.YtdfdpckcemdimaaDoorVWrite
import Derived.Test.YtdfdpckcemdimaaDoorVRefRight
namespace Go.Proofs.YtdfdpckcemdimaaDoor.V
open Go.RowKit Go.Sort Go.Joins
set_option maxRecDepth 100000

theorem RowL.whole {w : World} {g : Nat} {e : TypeId} {k : Nat} {css : List (List Value)} (h0 : ∀ cs ∈ css, cs.length = k) (hn : css.length ≤ maxLen) (h : Lies w g e css.flatten.toArray) : RowL w k (.slice (some ⟨g, 0, none⟩) css.length css.length) css := by
  refine ⟨h0, some ⟨g, 0, none⟩, css.length, rfl, Nat.le_refl _, hn, (fun e => by cases e), fun _ => ⟨g, 0, rfl, fun i cs hi j u hu => ?_⟩⟩
  have := h.cell (i * k + j)
  rw [List.getElem?_toArray, flat_at h0 hi j u hu] at this
  rwa [show 0 + i * k + j = i * k + j by omega]
def numT (n : Int) : VT := .mk 1 n [] [] []
def txtT (s : List UInt8) : VT := .mk 2 0 s [] []
def listT (l : List VT) : VT := .mk 3 0 [] l []
theorem isV_num (w : World) (n : Int) (h : -9223372036854775808 ≤ n ∧ n ≤ 9223372036854775807) : IsV w 1 [.int .i64 1, .int .i64 n, .string ⟨#[]⟩, .slice none 0 0, .slice none 0 0] (numT n) :=
  isV_make (s := []) (css := []) (RowL.nil w 5) rfl (fun i cs h => by simp at h) (Strs.nil w) ⟨(show -9223372036854775808 ≤ (1 : Int) ∧ (1 : Int) ≤ 9223372036854775807 by decide), h, Nat.zero_le _, fun x h => by cases h⟩
theorem isV_txt (w : World) (s : List UInt8) (h : s.length ≤ maxLen) : IsV w 1 [.int .i64 2, .int .i64 0, .string ⟨s.toArray⟩, .slice none 0 0, .slice none 0 0] (txtT s) :=
  isV_make (s := s) (css := []) (RowL.nil w 5) rfl (fun i cs h => by simp at h) (Strs.nil w) ⟨(show -9223372036854775808 ≤ (2 : Int) ∧ (2 : Int) ≤ 9223372036854775807 by decide), (show -9223372036854775808 ≤ (0 : Int) ∧ (0 : Int) ≤ 9223372036854775807 by decide), h, fun x h => by cases h⟩
theorem isV_list {w : World} {d : Nat} {v : Value} {css : List (List Value)} {l : List VT} (hv : RowL w 5 v css) (hl : css.length = l.length) (hx : ∀ (i : Nat) (cs : List Value), css[i]? = some cs → ∃ x, l[i]? = some x ∧ IsV w d cs x) :
    IsV w (d + 1) [.int .i64 3, .int .i64 0, .string ⟨#[]⟩, v, .slice none 0 0] (listT l) :=
  isV_make (s := []) hv hl hx (Strs.nil w) ⟨(show -9223372036854775808 ≤ (3 : Int) ∧ (3 : Int) ≤ 9223372036854775807 by decide), (show -9223372036854775808 ≤ (0 : Int) ∧ (0 : Int) ≤ 9223372036854775807 by decide), Nat.zero_le _, fun x h => by cases h⟩
def aliveT : VT := listT [numT 1, txtT [97, 34, 98]]
theorem alive_ok : aliveT.okB = true := by
  unfold VT.okB aliveT listT numT txtT
  simp [count_eq, countL_cons, countL_nil, depth_eq, depthL_cons, depthL_nil, each_eq, eachL_cons, eachL_nil, oneB, textOk, keysOk_nil]
theorem alive_wr : aliveT.wr = [91, 49, 44, 34, 97, 92, 34, 98, 34, 93] := by
  unfold aliveT listT numT txtT
  have e : Lib.itoa 1 = [49] := by
    unfold Lib.itoa
    rw [if_neg (by decide), Lib.decDigits_one (by decide)]
    rfl
  simp [wr_eq, wrL_cons, wrL_nil, e, quotL, escL]
def aliveC : List (List Value) := [[.int .i64 1, .int .i64 1, .string ⟨#[]⟩, .slice none 0 0, .slice none 0 0], [.int .i64 2, .int .i64 0, .string ⟨#[97, 34, 98]⟩, .slice none 0 0, .slice none 0 0]]
theorem aliveC_row (w : World) : RowL (w.alloc (.cells #[.int .i64 1, .int .i64 1, .string ⟨#[]⟩, .slice none 0 0, .slice none 0 0, .int .i64 2, .int .i64 0, .string ⟨#[97, 34, 98]⟩, .slice none 0 0, .slice none 0 0] 25)) 5 (.slice (some ⟨w.heap.size, 0, none⟩) 2 2) aliveC :=
  RowL.whole (css := aliveC) (by intro cs h; simp only [aliveC, List.mem_cons, List.mem_nil_iff, or_false] at h; rcases h with rfl | rfl <;> rfl) (by decide) (Lies.new w _ _)
theorem aliveC_isV {w : World} {v : Value} (h : RowL w 5 v aliveC) : IsV w 2 [.int .i64 3, .int .i64 0, .string ⟨#[]⟩, v, .slice none 0 0] aliveT := by
  refine isV_list h rfl (fun i cs hi => ?_)
  match i with
  | 0 =>
    simp only [aliveC, List.getElem?_cons_zero, Option.some.injEq] at hi
    subst hi
    exact ⟨numT 1, rfl, isV_num w 1 (by decide)⟩
  | 1 =>
    simp only [aliveC, List.getElem?_cons_succ, List.getElem?_cons_zero, Option.some.injEq] at hi
    subst hi
    exact ⟨txtT [97, 34, 98], rfl, isV_txt w [97, 34, 98] (by decide)⟩
  | i + 2 => simp [aliveC] at hi
theorem aliveC_one : ∀ u ∈ aliveC.flatten, u.oneCell' = true := by
  intro u hu
  simp only [aliveC, List.flatten_cons, List.flatten_nil, List.cons_append, List.nil_append, List.mem_cons, List.mem_nil_iff, or_false] at hu
  rcases hu with rfl | rfl | rfl | rfl | rfl | rfl | rfl | rfl | rfl | rfl <;> rfl
set_option maxHeartbeats 1600000 in
theorem alive_any (W : World) (hM : MaxAt W) (hT : Tab W) :
    Calls Tryd.prog 10 #[] W fun e w' => e = .returned (.bool true) ∧ Below W.heap.size W w' := by
  have HN := Lib.hid (fun w1 => number_any 1 w1)
  have HT := Lib.hid (fun w1 => text_any ⟨#[97, 34, 98]⟩ w1)
  have HL := Lib.hid (fun (w1 : World) => list_any _ aliveC _ (aliveC_row w1) aliveC_one (by decide))
  have HP := Lib.hid (fun (v : Value) (w1 : World) (hb : Below W.heap.size W w1) (hr : RowL w1 5 v aliveC) => print_yes 2 _ aliveT w1 (aliveC_isV hr) alive_ok (hM.below hb) (hT.below hb))
  rw [alive_wr] at HP
  have hb := Below.refl W.heap.size W
  go_enter Tryd.func10, Tryd.ntmps10
  go_wp2_with (first
    | (go_at_call 24; (with_reducible refine (HN.out _).mono ?_); rintro e w1 ⟨rfl, hb1⟩; replace hb := below_on hb hb1)
    | (go_at_call 23; (with_reducible refine (HT.out _).mono ?_); rintro e w2 ⟨rfl, hb2⟩; replace hb := below_on hb hb2)
    | (go_at_call 25; (with_reducible refine (HL.out _).mono ?_); rintro e w3 ⟨v', rfl, ho, hb3⟩; replace hb := below_on (hb.alloc hb.size _) hb3; have hr := ho.read; have hf := ho.form; obtain ⟨va, vc, rfl, _, _, _⟩ := hf)
    | (go_at_call 11; (with_reducible refine (HP.out _ _ hb hr).mono ?_); rintro e w4 ⟨rfl, hb4⟩; replace hb := below_on hb hb4))
  go_ret
  exact ⟨rfl, hb⟩
set_option maxHeartbeats 800000 in
theorem big_any (d : Nat) (cs : List Value) (t : VT) (w : World) (h : IsV w d cs t) :
    Calls Tryd.prog 9 #[.agg cs.toArray] w fun e w' => e = .returned (.bool (decide (2100 < t.count))) ∧ Below w.heap.size w w' := by
  have HC := Lib.hid (fun (w1 : World) (hb : Below w.heap.size w w1) => refCount_any d cs t 2100 w1 (h.below hb) (by decide) (by decide))
  obtain ⟨ai, ci, ak, ck, rfl⟩ := h.form
  have hm1 := cnt_le t 2100
  have hbW := (Below.refl w.heap.size w).alloc (Nat.le_refl _) (.cells #[.int .i64 t.kind, .int .i64 t.num, .string ⟨t.txt.toArray⟩, .slice ai t.items.length ci, .slice ak t.keys.length ck] 25)
  have lA := Lies.new w 25 #[.int .i64 t.kind, .int .i64 t.num, .string ⟨t.txt.toArray⟩, .slice ai t.items.length ci, .slice ak t.keys.length ck]
  have q0 := lA.cell 0
  have q1 := lA.cell 1
  have q2 := lA.cell 2
  have q3 := lA.cell 3
  have q4 := lA.cell 4
  simp only [List.getElem?_toArray, List.getElem?_cons_succ, List.getElem?_cons_zero] at q0 q1 q2 q3 q4
  clear h
  have he : decide (2100 < t.count) = decide (t.cnt 2100 > 2100) := by
    by_cases hc : t.count ≤ 2100
    · rw [decide_eq_false (by omega), decide_eq_false (by have := hm1.2 (by omega); omega)]
    · rw [decide_eq_true (by omega), decide_eq_true (by
        rcases Int.lt_or_le 2100 (t.cnt 2100) with h | h
        · exact h
        · have := hm1.1 h; omega)]
  rw [he]
  clear hm1 he
  generalize t.cnt 2100 = m at *
  go_enter Tryd.func9, Tryd.ntmps9
  go_wp2_with (go_at_call 13; (with_reducible refine (HC.out _ hbW).mono ?_); rintro e w1 ⟨rfl, hb1⟩)
  go_ret
  exact ⟨rfl, below_on hbW hb1⟩
end Go.Proofs.YtdfdpckcemdimaaDoor.V
