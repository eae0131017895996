/- The statement ParseOne, walked. -/
import Derived.Test.YtnloimanklkigaaDoorL8
import Derived.Lib.ItoaLen
namespace Go.Proofs.YtnloimanklkigaaDoor.V
open Go.RowKit Go.Sort Go.Joins
set_option maxRecDepth 100000

def oneT (m : Int) (l : List UInt8) : VT := .mk 3 0 [] [.mk 1 m [] [] [], .mk 2 0 l [] []] []
theorem oneT_ok {m : Int} {l : List UInt8} (hm : -999999 ≤ m ∧ m ≤ 999999) (hl : l.length ≤ 100) (h32 : ∀ c ∈ l, 32 ≤ c.toNat) : (oneT m l).okB = true := by
  have ht : textOk l = true := by
    unfold textOk
    rw [Bool.and_eq_true, List.all_eq_true, decide_eq_true_eq]
    exact ⟨fun c hc => by simpa using h32 c hc, by omega⟩
  unfold VT.okB oneT
  simp [count_eq, countL_cons, countL_nil, depth_eq, depthL_cons, depthL_nil, each_eq, eachL_cons, eachL_nil, oneB, keysOk_nil, ht]
  have h0 : textOk [] = true := by decide
  simp [h0]
  omega
theorem oneT_wr (m : Int) (l : List UInt8) : (oneT m l).wr = 91 :: (Lib.itoa m ++ 44 :: (quotL l ++ [93])) := by
  unfold oneT
  simp [wr_eq, wrL_cons, wrL_nil]
theorem itoa_sign {m : Int} : ∀ c ∈ Lib.itoa m, c ≠ 44 := by
  intro c hc
  unfold Lib.itoa at hc
  have hd : ∀ u, ∀ c ∈ Lib.decDigits u, c ≠ 44 := fun u c hc => by
    have := (dec_digits u u (Nat.le_refl _)).1 c hc
    intro e
    subst e
    revert this
    decide
  split at hc
  · rcases List.mem_cons.1 hc with rfl | hc
    · decide
    · exact hd _ _ hc
  · exact hd _ _ hc
theorem indexByte_behind {c : UInt8} : ∀ (a b : List UInt8), (∀ x ∈ a, x ≠ c) → Lib.indexByte (a ++ c :: b) c = (a.length : Int) := by
  intro a
  induction a with
  | nil => intro b _; simp [Lib.indexByte]
  | cons x a ih =>
    intro b h
    have h1 := ih b (fun y hy => h y (List.mem_cons_of_mem _ hy))
    have h2 : (x == c) = false := beq_eq_false_iff_ne.2 (h x (by simp))
    rw [List.cons_append]
    unfold Lib.indexByte
    rw [h1, h2]
    have h3 : ((a.length : Int) == -1) = false := beq_eq_false_iff_ne.2 (by omega)
    simp [h3]
theorem oneT_len {m : Int} {l : List UInt8} (hm : -999999 ≤ m ∧ m ≤ 999999) (hl : l.length ≤ 100) : (oneT m l).wr.length ≤ 300 := by
  have h1 := Lib.itoa_length_le m (by omega) (by omega)
  have h2 := esc_len l
  rw [oneT_wr]
  simp [quotL]
  omega
theorem catY (a b : List UInt8) : (⟨a.toArray⟩ : ByteArray) ++ ⟨b.toArray⟩ = ⟨(a ++ b).toArray⟩ := by
  ext1
  simp [ByteArray.data_append]
theorem extrY (x : List UInt8) (j k : Nat) : (⟨x.toArray⟩ : ByteArray).extract j k = ⟨((x.take k).drop j).toArray⟩ := by
  apply ByteArray.ext
  apply Array.ext'
  simp [ByteArray.data_extract, List.drop_take]
/-- the texts that the statement makes, and what each is read as -/
theorem one_texts {m : Int} {l : List UInt8} (hm : -999999 ≤ m ∧ m ≤ 999999) (hl : l.length ≤ 100) (h32 : ∀ c ∈ l, 32 ≤ c.toNat) :
    ∃ (tt sA sB sC sD sE sF : ByteArray) (k : Nat), tt = ⟨(oneT m l).wr.toArray⟩ ∧ tt.size ≤ 300 ∧ k < tt.size ∧ tt.extract 0 (k + 1) = sA ∧ sA ++ ⟨#[32]⟩ = sB ∧ tt.extract (k + 1) tt.size = sC ∧ sB ++ sC = sD ∧ ⟨#[32]⟩ ++ tt = sE ∧ tt ++ ⟨#[32]⟩ = sF ∧
      Lib.indexByte tt.data.toList 44 = (k : Int) ∧ (sA.size ≤ 300 ∧ sB.size ≤ 301 ∧ sC.size ≤ 300) ∧ rdP tt.data.toList = .ok (oneT m l) [] ∧ rdP sD.data.toList = .bad 20 ∧ rdP sE.data.toList = .bad 20 ∧ rdP sF.data.toList = .bad 20 := by
  have hlen := oneT_len hm hl (l := l)
  have hok := oneT_ok hm hl h32
  have hw := oneT_wr m l
  have h1 := Lib.itoa_length_le m (by omega) (by omega)
  have h2 := esc_len l
  generalize hq : quotL l ++ [93] = z at hw
  have hzl : z.length ≤ 203 := by rw [← hq]; simp [quotL]; omega
  have hk : (91 :: Lib.itoa m).length = (Lib.itoa m).length + 1 := List.length_cons
  have hsz : ∀ x : List UInt8, (⟨x.toArray⟩ : ByteArray).size = x.length := fun x => str_size x
  have hwl : (oneT m l).wr.length = (Lib.itoa m).length + z.length + 2 := by rw [hw, List.length_cons, List.length_append, List.length_cons]; omega
  obtain ⟨w0, hw0⟩ : ∃ w0, w0 = (oneT m l).wr := ⟨_, rfl⟩
  rw [← hw0] at hw hwl hlen ⊢
  obtain ⟨A, hA⟩ : ∃ A, A = (w0.take ((Lib.itoa m).length + 1 + 1)).drop 0 := ⟨_, rfl⟩
  obtain ⟨C, hC⟩ : ∃ C, C = (w0.take w0.length).drop ((Lib.itoa m).length + 1 + 1) := ⟨_, rfl⟩
  have hs : A ++ [32] ++ C = 91 :: (Lib.itoa m ++ 44 :: 32 :: z) := by
    have e0 : w0 = (91 :: (Lib.itoa m ++ [44])) ++ z := by rw [hw]; simp
    have e1 : (91 :: (Lib.itoa m ++ [44])).length = (Lib.itoa m).length + 1 + 1 := by simp
    rw [hA, hC, List.drop_zero, List.take_length, e0, List.take_left' e1, List.drop_left' e1]
    simp
  have hAl : A.length ≤ 300 := by rw [hA, List.drop_zero, List.length_take]; omega
  have hCl : C.length ≤ 300 := by rw [hC, List.take_length, List.length_drop]; omega
  refine ⟨⟨w0.toArray⟩, ⟨A.toArray⟩, ⟨(A ++ [32]).toArray⟩, ⟨C.toArray⟩, ⟨(A ++ [32] ++ C).toArray⟩, ⟨([32] ++ w0).toArray⟩, ⟨(w0 ++ [32]).toArray⟩, (Lib.itoa m).length + 1, rfl, by rw [hsz]; exact hlen, by rw [hsz]; omega, by rw [extrY, hA], catY _ [32], by rw [hsz, extrY, hC], catY _ _, catY [32] _, catY _ [32], ?_, ?_, ?_, ?_, ?_, ?_⟩
  · show Lib.indexByte w0 44 = _
    rw [hw, show (91 : UInt8) :: (Lib.itoa m ++ 44 :: z) = (91 :: Lib.itoa m) ++ 44 :: z from rfl, indexByte_behind _ _ (fun x hx => ?_), hk]
    rcases List.mem_cons.1 hx with rfl | hx
    · decide
    · exact itoa_sign x hx
  · simp only [hsz]
    refine ⟨hAl, ?_, hCl⟩
    rw [List.length_append, List.length_singleton]
    omega
  · show rdP w0 = _
    rw [hw0]
    exact rdP_wr hok (by rw [← hw0]; omega)
  · show rdP (A ++ [32] ++ C) = _
    rw [hs]
    exact rdP_comma (by omega) (by simp; omega)
  · show rdP (32 :: w0) = _
    exact rdP_front (by omega)
  · show rdP (w0 ++ [32]) = _
    rw [hw0]
    exact rdP_back hok (by rw [← hw0, List.length_append, List.length_singleton]; omega) (by decide)
theorem wholeY {w : World} {g : Nat} {e : TypeId} {k : Nat} {css : List (List Value)} (h0 : ∀ cs ∈ css, cs.length = k) (hn : css.length ≤ maxLen) (h : Lies w g e css.flatten.toArray) : RowL w k (.slice (some ⟨g, 0, none⟩) css.length css.length) css := by
  refine ⟨h0, some ⟨g, 0, none⟩, css.length, rfl, Nat.le_refl _, hn, (fun e => by cases e), fun _ => ⟨g, 0, rfl, fun i cs hi j u hu => ?_⟩⟩
  have := h.cell (i * k + j)
  rw [List.getElem?_toArray, flat_at h0 hi j u hu] at this
  rwa [show 0 + i * k + j = i * k + j by omega]
def oneC (m : Int) (s : ByteArray) : List (List Value) := [[.int .i64 1, .int .i64 m, .string ⟨#[]⟩, .slice none 0 0, .slice none 0 0], [.int .i64 2, .int .i64 0, .string s, .slice none 0 0, .slice none 0 0]]
theorem oneC_row (m : Int) (s : ByteArray) (w : World) : RowL (w.alloc (.cells #[.int .i64 1, .int .i64 m, .string ⟨#[]⟩, .slice none 0 0, .slice none 0 0, .int .i64 2, .int .i64 0, .string s, .slice none 0 0, .slice none 0 0] 25)) 5 (.slice (some ⟨w.heap.size, 0, none⟩) 2 2) (oneC m s) :=
  wholeY (css := oneC m s) (by intro cs h; simp only [oneC, List.mem_cons, List.mem_nil_iff, or_false] at h; rcases h with rfl | rfl <;> rfl) (show 2 ≤ maxLen by decide) (Lies.new w _ _)
theorem oneC_one (m : Int) (s : ByteArray) : ∀ u ∈ (oneC m s).flatten, u.oneCell' = true := by
  intro u hu
  simp only [oneC, List.flatten_cons, List.flatten_nil, List.cons_append, List.nil_append, List.mem_cons, List.mem_nil_iff, or_false] at hu
  rcases hu with rfl | rfl | rfl | rfl | rfl | rfl | rfl | rfl | rfl | rfl <;> rfl
theorem isV_numY (w : World) (n : Int) (h : -9223372036854775808 ≤ n ∧ n ≤ 9223372036854775807) : IsV w 1 [.int .i64 1, .int .i64 n, .string ⟨#[]⟩, .slice none 0 0, .slice none 0 0] (.mk 1 n [] [] []) :=
  isV_make (s := []) (css := []) (RowL.nil w 5) rfl (fun i cs h => by simp at h) (Strs.nil w) ⟨(show -9223372036854775808 ≤ (1 : Int) ∧ (1 : Int) ≤ 9223372036854775807 by decide), h, Nat.zero_le _, fun x h => by cases h⟩
theorem isV_txtY (w : World) (s : List UInt8) (h : s.length ≤ maxLen) : IsV w 1 [.int .i64 2, .int .i64 0, .string ⟨s.toArray⟩, .slice none 0 0, .slice none 0 0] (.mk 2 0 s [] []) :=
  isV_make (s := s) (css := []) (RowL.nil w 5) rfl (fun i cs h => by simp at h) (Strs.nil w) ⟨(show -9223372036854775808 ≤ (2 : Int) ∧ (2 : Int) ≤ 9223372036854775807 by decide), (show -9223372036854775808 ≤ (0 : Int) ∧ (0 : Int) ≤ 9223372036854775807 by decide), h, fun x h => by cases h⟩
theorem oneC_isV {m : Int} {l : List UInt8} {w : World} {v : Value} (hm : -999999 ≤ m ∧ m ≤ 999999) (hl : l.length ≤ 100) (h : RowL w 5 v (oneC m ⟨l.toArray⟩)) : IsV w 2 [.int .i64 3, .int .i64 0, .string ⟨#[]⟩, v, .slice none 0 0] (oneT m l) := by
  refine isV_make (s := []) h rfl (fun i cs hi => ?_) (Strs.nil w) ⟨(show -9223372036854775808 ≤ (3 : Int) ∧ (3 : Int) ≤ 9223372036854775807 by decide), (show -9223372036854775808 ≤ (0 : Int) ∧ (0 : Int) ≤ 9223372036854775807 by decide), Nat.zero_le _, fun x h => by cases h⟩
  match i with
  | 0 =>
    simp only [oneC, List.getElem?_cons_zero, Option.some.injEq] at hi
    subst hi
    exact ⟨_, rfl, isV_numY w m (by omega)⟩
  | 1 =>
    simp only [oneC, List.getElem?_cons_succ, List.getElem?_cons_zero, Option.some.injEq] at hi
    subst hi
    exact ⟨_, rfl, isV_txtY w l (by unfold maxLen; omega)⟩
  | i + 2 => simp [oneC] at hi
theorem takeY (x : List UInt8) (k : Nat) (z : Int) (hz : z = (k : Int)) : (⟨x.toArray⟩ : ByteArray).extract 0 (min (x.length : Int) z).toNat = ⟨(x.take k).toArray⟩ := by
  subst hz
  have hm : (min (x.length : Int) (k : Int)).toNat = min x.length k := by omega
  rw [extrY, hm, List.drop_zero]
  congr 2
  rw [List.take_eq_take_iff]
  omega
section
variable {a : Act} {d : Option Tmp} {x y : Operand} {t' : TypeId} {pos : String} {after : Array Edge} {gd : Option (Nat × Bool)} {r : TypeId}
theorem run_addI (p q : Int) (h1 : -9000000000000000000 ≤ p + q) (h2 : p + q ≤ 9000000000000000000) (hx : a.eval x = .int .i64 p) (hy : a.eval y = .int .i64 q) (w : World) :
    (execOp a.eval ⟨d, .binOp .add 3 x y r, t', pos, after, gd⟩).run Tryd.prog w = .ok (.value (.int .i64 (p + q))) w := by
  have h3 : IntKind.i64.wrap (p + q) = p + q := by rw [IntKind.wrap_i64]; omega
  unfold execOp
  simp only [hx, hy]
  simp [go_sem, h3]
theorem run_catS (s t : ByteArray) (hs : s.size + t.size ≤ 10000) (hx : a.eval x = .string s) (hy : a.eval y = .string t) (w : World) :
    (execOp a.eval ⟨d, .binOp .add 9 x y r, t', pos, after, gd⟩).run Tryd.prog w = .ok (.value (.string (s ++ t))) w := by
  have h3 : ¬ (9223372036854775807 < s.size + t.size) := by omega
  unfold execOp
  simp only [hx, hy]
  simp [go_sem, h3]
theorem run_toS (s : ByteArray) (q : Nat) (hq : q ≤ s.size) (hx : a.eval x = .string s) (hy : a.eval y = .int .i64 (q : Int)) (w : World) :
    (execOp a.eval ⟨d, .slice 9 x none (some y) none, t', pos, after, gd⟩).run Tryd.prog w = .ok (.value (.string (s.extract 0 q))) w := by
  unfold execOp
  simp only [hx, hy, Option.map_some, Option.map_none]
  simp [Instr.sliceAt, run_underlying Tryd.underlying9, go_sem, hq]
theorem run_fromS (s : ByteArray) (p : Nat) (hp : p ≤ s.size) (hx : a.eval x = .string s) (hy : a.eval y = .int .i64 (p : Int)) (w : World) :
    (execOp a.eval ⟨d, .slice 9 x (some y) none none, t', pos, after, gd⟩).run Tryd.prog w = .ok (.value (.string (s.extract p s.size))) w := by
  unfold execOp
  simp only [hx, hy, Option.map_some, Option.map_none]
  simp [Instr.sliceAt, run_underlying Tryd.underlying9, go_sem, hp]
end
theorem isV_onesZ {w : World} {d : Nat} {cs : List Value} {t : VT} (h : IsV w d cs t) : cs.toArray.size = 5 ∧ Ones cs.toArray := by
  obtain ⟨ai, ci, ak, ck, hcs⟩ := h.form
  rw [hcs]
  exact ⟨rfl, valC_one _ _ _ _ _ _ _ _ _⟩
set_option maxHeartbeats 25600000 in
theorem one_walk (n : Int) (x : List UInt8) (W : World) (hx : x.length ≤ maxLen) (hM : MaxAt W) (hT : Tab W) (her : ErrAt W) :
    Calls Tryd.prog 7 #[.int .i64 n, .string ⟨x.toArray⟩] W fun e w' => e = .returned (.bool true) ∧ Below W.heap.size W w' := by
  have hsl := takeY x 100 100 rfl
  have hl : (x.take 100).length ≤ 100 := by rw [List.length_take]; omega
  have HAl := Lib.hid (fun (w1 : World) (hb : Below W.heap.size W w1) => alive12_any w1 (her.below hb))
  have hsz := str_size x
  unfold maxLen at hx
  go_enter Tryd.func7, Tryd.ntmps7
  go_upto_region 1 with fail
  go_quiet (fail)
  generalize hW : World.drewN _ _ = wa
  have hbW : Below W.heap.size W wa := by rw [← hW]; exact below_drawn (Below.refl _ _) _
  have hmn : -999999 ≤ n.tmod 1000000 ∧ n.tmod 1000000 ≤ 999999 := by
    have h1 : (n.tmod 1000000).natAbs = n.natAbs % 1000000 := Int.natAbs_tmod n 1000000
    have h2 := Nat.mod_lt n.natAbs (show 0 < 1000000 by decide)
    omega
  generalize n.tmod 1000000 = m at *
  have hsb : (⟨(x.take 100).toArray⟩ : ByteArray).size ≤ 100 := by rw [str_size]; exact hl
  clear hW hsl hl hsz
  generalize (⟨(x.take 100).toArray⟩ : ByteArray) = sb at *
  have hse : (⟨sb.data.toList.toArray⟩ : ByteArray) = sb := rfl
  have hll : sb.data.toList.length = sb.size := rfl
  go_wp2
  go_loopw [27] (fun iv wr => ∃ (j : Nat), iv = .int .i64 j ∧ j ≤ sb.size ∧ Hid (∀ i, i < j → ∀ h : i < sb.size, 32 ≤ sb[i].toNat) ∧ Below W.heap.size W wr) (fun iv _ => sb.size - (intOf iv).toNat)
  case atStart => exact ⟨0, rfl, Nat.zero_le _, Lib.hid (fun i h => absurd h (by omega)), hbW⟩
  case round =>
    obtain ⟨j, rfl, hj, HS, hb⟩ := hrel
    by_cases hlt : j < sb.size
    · have h1 : (j : Int) < (sb.size : Int) := by omega
      by_cases h32 : sb[j].toNat < 32
      · have h33 : (sb[j].toNat : Int) < 32 := by omega
        go_wp2_with (go_at_call 11; refine (HAl.out _ hb).mono ?_; rintro e w3 ⟨rfl, hb3⟩)
        go_ret
        exact ⟨rfl, below_on hb hb3⟩
      · have h33 : ¬ (sb[j].toNat : Int) < 32 := by omega
        have HS2 := Lib.hid (fun (i : Nat) (hi : i < j + 1) (h : i < sb.size) => show 32 ≤ sb[i].toNat from (by
          rcases Nat.lt_or_ge i j with h2 | h2
          · exact HS.out i h2 h
          · obtain rfl : i = j := by omega
            omega))
        go_wp2
        go_roundw
        case rel => exact ⟨j + 1, by go_num, by omega, HS2, hb⟩
        case measure => simp [intOf]; omega
    · obtain rfl : j = sb.size := by omega
      have h32 : ∀ c ∈ sb.data.toList, 32 ≤ c.toNat := fun c hc => by
        obtain ⟨i, hi, rfl⟩ := List.mem_iff_getElem.1 hc
        exact HS.out i (by omega) (by omega)
      clear HS
      obtain ⟨tt, sA, sB, sC, sD, sE, sF, k, htt, zt, zk, gA, gB, gC, gD, gE, gF, hix, ⟨zA, zB, zC⟩, rt, rD, rE, rF⟩ := one_texts hmn (hll ▸ hsb) h32
      have hok := oneT_ok hmn (hll ▸ hsb) h32
      have hisv : ∀ {w : World} {v : Value}, RowL w 5 v (oneC m sb) → IsV w 2 [.int .i64 3, .int .i64 0, .string ⟨#[]⟩, v, .slice none 0 0] (oneT m sb.data.toList) := fun h => oneC_isV hmn (hll ▸ hsb) h
      have HPt := fun (w : World) (h : ErrAt w) => (show Calls Tryd.prog 9 #[.string tt] w _ from parse_ok w h rt)
      have HPD := fun (w : World) (h : ErrAt w) => (show Calls Tryd.prog 9 #[.string sD] w _ from parse_bad w h rD)
      have HPE := fun (w : World) (h : ErrAt w) => (show Calls Tryd.prog 9 #[.string sE] w _ from parse_bad w h rE)
      have HPF := fun (w : World) (h : ErrAt w) => (show Calls Tryd.prog 9 #[.string sF] w _ from parse_bad w h rF)
      have HPt' := Lib.hid HPt
      have HPD' := Lib.hid HPD
      have HPE' := Lib.hid HPE
      have HPF' := Lib.hid HPF
      clear HPt HPD HPE HPF rt rD rE rF h32
      have HISV := Lib.hid (fun (w : World) (v : Value) (h : RowL w 5 v (oneC m sb)) => hisv h)
      have HOK := Lib.hid hok
      have HTT := Lib.hid htt
      have HIX := Lib.hid hix
      clear hisv hok htt hix hse hll hmn
      have hnlt : ¬ (sb.size : Int) < (sb.size : Int) := by omega
      go_upto_region 8 with fail
      go_upto_region 9 with (first
        | (go_at_call 20; (with_reducible refine (number_any m _).mono ?_); rintro e w1 ⟨rfl, hb1⟩; replace hb := below_on hb hb1)
        | (go_at_call 21; (with_reducible refine (text_any sb _).mono ?_); rintro e w2 ⟨rfl, hb2⟩; replace hb := below_on hb hb2)
        | (go_at_call 19; refine (list_any _ (oneC m sb) _ (oneC_row m sb w2) (oneC_one m sb) (show 2 ≤ 1000 by decide)).mono ?_; rintro e w3 ⟨v', rfl, ho, hb3⟩; replace hb := below_on (hb.alloc hb.size _) hb3; have hr := ho.read; have hf := ho.form; obtain ⟨va, vc, rfl, _, _, _⟩ := hf)
        | ((with_reducible refine wpL_store w3.heap.size 25 valZ #[.int .i64 3, .int .i64 0, .string ⟨#[]⟩, .slice va 2 vc, .slice none 0 0] 5 rowVal rfl rfl (valC_one _ _ _ _ _ _ _ _ _) (Lies.new w3 _ _) ?_ ?_ ?_); rfl; rfl))
      have hv3 := HISV.out _ _ hr
      have hbX := below_rowSet (hb.alloc hb.size (.cells valZ 25)) hb.size #[.int .i64 3, .int .i64 0, .string ⟨#[]⟩, .slice va 2 vc, .slice none 0 0]
      have hbY := below_rowSet ((RowKit.Below.refl w3.heap.size w3).alloc (Nat.le_refl _) (.cells valZ 25)) (Nat.le_refl _) #[.int .i64 3, .int .i64 0, .string ⟨#[]⟩, .slice va 2 vc, .slice none 0 0]
      have lA := (Lies.new w3 25 valZ).row #[.int .i64 3, .int .i64 0, .string ⟨#[]⟩, .slice va 2 vc, .slice none 0 0]
      have hv := hv3.below hbY
      clear hb hb1 hb2 hb3 hv3 hbY ho hr HISV
      generalize World.setRow _ _ _ = w4 at *
      generalize w3.heap.size = b4 at *
      have HPr := print_yes 2 [.int .i64 3, .int .i64 0, .string ⟨#[]⟩, .slice va 2 vc, .slice none 0 0] (oneT m sb.data.toList) w4 hv HOK.out (hM.below hbX) (hT.below hbX)
      rw [← HTT.out] at HPr
      go_upto_region 11 with (first
        | ((with_reducible refine wpL_load b4 25 #[.int .i64 3, .int .i64 0, .string ⟨#[]⟩, .slice va 2 vc, .slice none 0 0] 5 rowVal rfl lA ?_ ?_); rfl)
        | (go_at_call 14; refine HPr.mono ?_; rintro e w5 ⟨rfl, hb5⟩; replace lA := lA.on hb5; replace hv := hv.below hb5; replace hbX := below_on hbX hb5)
        | (go_at_call 9; refine (HPt'.out _ (her.below hbX)).mono ?_; rintro e w6 ⟨cs2, d2, rfl, hx2, hb6⟩; replace lA := lA.on hb6; replace hv := hv.below hb6; replace hbX := below_on hbX hb6)
        | ((with_reducible refine wpL_store w6.heap.size 25 valZ cs2.toArray 5 rowVal rfl (isV_onesZ hx2).1 (isV_onesZ hx2).2 (Lies.new w6 _ _) ?_ ?_ ?_); rfl; rfl))
      have hbZ := below_rowSet (hbX.alloc hbX.size (.cells valZ 25)) hbX.size cs2.toArray
      have hbY := below_rowSet ((RowKit.Below.refl w6.heap.size w6).alloc (Nat.le_refl _) (.cells valZ 25)) (Nat.le_refl _) cs2.toArray
      have lB := (Lies.new w6 25 valZ).row cs2.toArray
      replace lA := lA.on hbY
      replace hv := hv.below hbY
      have hx3 := hx2.below hbY
      clear hbX hb5 hb6 hx2 hbY HPr
      generalize World.setRow _ _ _ = w7 at *
      generalize w6.heap.size = b7 at *
      have HSm := refSame_any (max 2 d2) [.int .i64 3, .int .i64 0, .string ⟨#[]⟩, .slice va 2 vc, .slice none 0 0] cs2 _ _ w7 (hv.mono (Nat.le_max_left _ _)) (hx3.mono (Nat.le_max_right _ _))
      rw [decide_eq_true rfl] at HSm
      obtain ⟨ai2, ci2, ak2, ck2, hcs2⟩ := hx3.form
      rw [hcs2] at HSm lB
      have q0 := lA.cell 0
      have q1 := lA.cell 1
      have q2 := lA.cell 2
      have q3 := lA.cell 3
      have q4 := lA.cell 4
      have p0 := lB.cell 0
      have p1 := lB.cell 1
      have p2 := lB.cell 2
      have p3 := lB.cell 3
      have p4 := lB.cell 4
      simp only [List.getElem?_toArray, List.getElem?_cons_succ, List.getElem?_cons_zero] at q0 q1 q2 q3 q4 p0 p1 p2 p3 p4
      clear hcs2 lA lB hv hx3
      go_upto_region 14 with (first
        | (go_at_call 12; refine HSm.mono ?_; rintro e wS ⟨rfl, hbS⟩; replace hbZ := below_on hbZ hbS)
        | (go_at_call 11; refine (HAl.out _ hbZ).mono ?_; rintro e wL ⟨rfl, hbL⟩; replace hbZ := below_on hbZ hbL)
        | (go_at_call 22; refine (Tryd.strings_IndexByte tt 44 _).mono ?_; rintro e wI ⟨rfl, rfl⟩))
      rw [HIX.out]
      clear q0 q1 q2 q3 q4 p0 p1 p2 p3 p4 hbS hbL HSm
      have hk1 : ((k : Int) + 1) = ((k + 1 : Nat) : Int) := by omega
      refine wp_held_any (S := fun w => True) 17 rfl (by kernel_rfl) ?_
      have hdr : RowKit.Below wI.heap.size wI { wI with drawn := wI.drawn + 1 } := (RowKit.Below.refl _ _).drew
      replace hbZ := below_on hbZ hdr
      clear hdr
      generalize ({ wI with drawn := wI.drawn + 1 } : World) = wd at *
      refine held_put 0 71 (.string tt) rfl rfl (by kernel_rfl) (by kernel_rfl) (by kernel_rfl) (by kernel_rfl) (fun w hS => rfl) trivial ?_
      simp only [List.setIfInBounds_toArray, List.set_cons_succ, List.set_cons_zero]
      refine held_put 1 72 (.int .i64 (k : Int)) rfl rfl (by kernel_rfl) (by kernel_rfl) (by kernel_rfl) (by kernel_rfl) (fun w hS => rfl) trivial ?_
      simp only [List.setIfInBounds_toArray, List.set_cons_succ, List.set_cons_zero]
      refine held_put 2 73 (.int .i64 ((k : Int) + 1)) rfl rfl (by kernel_rfl) (by kernel_rfl) (by kernel_rfl) (by kernel_rfl) (fun w hS => run_addI k 1 (by omega) (by omega) rfl rfl w) trivial ?_
      simp only [List.setIfInBounds_toArray, List.set_cons_succ, List.set_cons_zero]
      refine held_put 3 74 (.string sA) rfl rfl (by kernel_rfl) (by kernel_rfl) (by kernel_rfl) (by kernel_rfl) (fun w hS => by rw [← gA]; exact run_toS tt (k + 1) (by omega) rfl (by show Value.int .i64 ((k : Int) + 1) = _; rw [hk1]) w) trivial ?_
      simp only [List.setIfInBounds_toArray, List.set_cons_succ, List.set_cons_zero]
      refine held_put 4 75 (.string sB) rfl rfl (by kernel_rfl) (by kernel_rfl) (by kernel_rfl) (by kernel_rfl) (fun w hS => by rw [← gB]; exact run_catS sA ⟨#[32]⟩ (by rw [show (⟨#[32]⟩ : ByteArray).size = 1 from rfl]; omega) rfl rfl w) trivial ?_
      simp only [List.setIfInBounds_toArray, List.set_cons_succ, List.set_cons_zero]
      refine held_put 5 76 (.string tt) rfl rfl (by kernel_rfl) (by kernel_rfl) (by kernel_rfl) (by kernel_rfl) (fun w hS => rfl) trivial ?_
      simp only [List.setIfInBounds_toArray, List.set_cons_succ, List.set_cons_zero]
      refine held_put 6 77 (.int .i64 (k : Int)) rfl rfl (by kernel_rfl) (by kernel_rfl) (by kernel_rfl) (by kernel_rfl) (fun w hS => rfl) trivial ?_
      simp only [List.setIfInBounds_toArray, List.set_cons_succ, List.set_cons_zero]
      refine held_put 7 78 (.int .i64 ((k : Int) + 1)) rfl rfl (by kernel_rfl) (by kernel_rfl) (by kernel_rfl) (by kernel_rfl) (fun w hS => run_addI k 1 (by omega) (by omega) rfl rfl w) trivial ?_
      simp only [List.setIfInBounds_toArray, List.set_cons_succ, List.set_cons_zero]
      refine held_put 8 79 (.string sC) rfl rfl (by kernel_rfl) (by kernel_rfl) (by kernel_rfl) (by kernel_rfl) (fun w hS => by rw [← gC]; exact run_fromS tt (k + 1) (by omega) rfl (by show Value.int .i64 ((k : Int) + 1) = _; rw [hk1]) w) trivial ?_
      simp only [List.setIfInBounds_toArray, List.set_cons_succ, List.set_cons_zero]
      refine held_put 9 80 (.string sD) rfl rfl (by kernel_rfl) (by kernel_rfl) (by kernel_rfl) (by kernel_rfl) (fun w hS => by rw [← gD]; exact run_catS sB sC (by omega) rfl rfl w) trivial ?_
      simp only [List.setIfInBounds_toArray, List.set_cons_succ, List.set_cons_zero]
      have s5 : ¬ 9223372036854775807 < 1 + tt.size := by omega
      have s6 : ¬ 9223372036854775807 < tt.size + 1 := by omega
      have s7 : (⟨#[32]⟩ : ByteArray).size = 1 := rfl
      refine held_two 10 14 (by kernel_rfl) ?_ ?_
      · refine wpOp_call 81 rfl rfl (by kernel_rfl) (by kernel_rfl) (((HPD'.out _ (her.below hbZ))).mono ?_)
        rintro e w8 ⟨rfl, hb8⟩
        replace hbZ := below_on hbZ hb8
        refine ⟨_, rfl, trivial, ?_⟩
        simp only [List.setIfInBounds_toArray, List.set_cons_succ, List.set_cons_zero]
        refine held_put 11 70 (.tuple #[.agg valZ, .int .i64 20]) rfl rfl (by kernel_rfl) (by kernel_rfl) (by kernel_rfl) (by kernel_rfl) (fun w hS => rfl) trivial ?_
        simp only [List.setIfInBounds_toArray, List.set_cons_succ, List.set_cons_zero]
        refine held_put 12 82 (.agg valZ) rfl rfl (by kernel_rfl) (by kernel_rfl) (by kernel_rfl) (by kernel_rfl) (fun w hS => rfl) trivial ?_
        simp only [List.setIfInBounds_toArray, List.set_cons_succ, List.set_cons_zero]
        refine held_put 13 83 (.int .i64 20) rfl rfl (by kernel_rfl) (by kernel_rfl) (by kernel_rfl) (by kernel_rfl) (fun w hS => rfl) trivial ?_
        simp only [List.setIfInBounds_toArray, List.set_cons_succ, List.set_cons_zero]
        have hbQ := below_rowSet (hbZ.alloc hbZ.size (.cells valZ 25)) hbZ.size valZ
        refine held_one 14 (by kernel_rfl) (wpOp_put 12 (w' := w8.alloc (.cells valZ 25)) (v := .pointer (some ⟨w8.heap.size, 0, none⟩)) rfl rfl (by kernel_rfl) (by kernel_rfl) ⟨trivial, ?_⟩)
        simp only [List.setIfInBounds_toArray, List.set_cons_succ, List.set_cons_zero]
        refine held_one 15 (by kernel_rfl) (wpOp_skpN rfl rfl (by kernel_rfl) (run_stZ valZ rfl (valC_one _ _ _ _ _ _ _ _ _) (Lies.new w8 25 valZ) rfl rfl rfl) ⟨trivial, ?_⟩)
        refine held_put 16 13 (.int .i64 20) rfl rfl (by kernel_rfl) (by kernel_rfl) (by kernel_rfl) (by kernel_rfl) (fun w hS => rfl) trivial ?_
        simp only [List.setIfInBounds_toArray, List.set_cons_succ, List.set_cons_zero]
        refine held_done (by kernel_rfl) ?_
        simp only [Exit.then]
        clear hk1
        generalize World.setRow _ _ _ = w12 at *
        go_upto_region 16 with (first
          | (go_at_call 9; refine (HPE'.out _ (her.below hbQ)).mono ?_; rintro e w13 ⟨rfl, hb13⟩; replace hbQ := below_on hbQ hb13)
          | ((with_reducible refine wpL_store w13.heap.size 25 valZ valZ 5 rowVal rfl rfl (valC_one _ _ _ _ _ _ _ _ _) (Lies.new w13 _ _) ?_ ?_ ?_); rfl; rfl))
        have hbS2 := below_rowSet (hbQ.alloc hbQ.size (.cells valZ 25)) hbQ.size valZ
        generalize World.setRow _ _ _ = w15 at *
        clear hbQ hb13
        go_upto_region 17 with (first
          | (go_at_call 9; refine (HPF'.out _ (her.below hbS2)).mono ?_; rintro e w14 ⟨rfl, hb14⟩; replace hbS2 := below_on hbS2 hb14)
          | ((with_reducible refine wpL_store w14.heap.size 25 valZ valZ 5 rowVal rfl rfl (valC_one _ _ _ _ _ _ _ _ _) (Lies.new w14 _ _) ?_ ?_ ?_); rfl; rfl))
        have hbS3 := below_rowSet (hbS2.alloc hbS2.size (.cells valZ 25)) hbS2.size valZ
        generalize World.setRow _ _ _ = w16 at *
        go_wp2
        go_ret
        exact ⟨rfl, hbS3⟩
      · refine wpOp_put 12 (w' := wd.alloc (.cells valZ 25)) (v := .pointer (some ⟨wd.heap.size, 0, none⟩)) rfl rfl (by kernel_rfl) (by kernel_rfl) ⟨trivial, ?_⟩
        simp only [List.setIfInBounds_toArray, List.set_cons_succ, List.set_cons_zero]
        have lD := Lies.new wd 25 valZ
        have hbd := hbZ.size
        replace hbZ := hbZ.alloc hbZ.size (.cells valZ 25)
        generalize World.alloc wd _ = we at *
        refine held_one 10 (by kernel_rfl) (wpOp_call 81 rfl rfl (by kernel_rfl) (by kernel_rfl) (((HPD'.out _ (her.below hbZ))).mono ?_))
        rintro e w8 ⟨rfl, hb8⟩
        replace hbZ := below_on hbZ hb8
        refine ⟨_, rfl, trivial, ?_⟩
        simp only [List.setIfInBounds_toArray, List.set_cons_succ, List.set_cons_zero]
        refine held_put 11 70 (.tuple #[.agg valZ, .int .i64 20]) rfl rfl (by kernel_rfl) (by kernel_rfl) (by kernel_rfl) (by kernel_rfl) (fun w hS => rfl) trivial ?_
        simp only [List.setIfInBounds_toArray, List.set_cons_succ, List.set_cons_zero]
        refine held_put 12 82 (.agg valZ) rfl rfl (by kernel_rfl) (by kernel_rfl) (by kernel_rfl) (by kernel_rfl) (fun w hS => rfl) trivial ?_
        simp only [List.setIfInBounds_toArray, List.set_cons_succ, List.set_cons_zero]
        refine held_put 13 83 (.int .i64 20) rfl rfl (by kernel_rfl) (by kernel_rfl) (by kernel_rfl) (by kernel_rfl) (fun w hS => rfl) trivial ?_
        simp only [List.setIfInBounds_toArray, List.set_cons_succ, List.set_cons_zero]
        replace lD := lD.on hb8
        have hbQ := below_rowSet hbZ hbd valZ
        refine held_one 15 (by kernel_rfl) (wpOp_skpN rfl rfl (by kernel_rfl) (run_stZ valZ rfl (valC_one _ _ _ _ _ _ _ _ _) lD rfl rfl rfl) ⟨trivial, ?_⟩)
        refine held_put 16 13 (.int .i64 20) rfl rfl (by kernel_rfl) (by kernel_rfl) (by kernel_rfl) (by kernel_rfl) (fun w hS => rfl) trivial ?_
        simp only [List.setIfInBounds_toArray, List.set_cons_succ, List.set_cons_zero]
        refine held_done (by kernel_rfl) ?_
        simp only [Exit.then]
        clear hk1
        generalize World.setRow _ _ _ = w12 at *
        go_upto_region 16 with (first
          | (go_at_call 9; refine (HPE'.out _ (her.below hbQ)).mono ?_; rintro e w13 ⟨rfl, hb13⟩; replace hbQ := below_on hbQ hb13)
          | ((with_reducible refine wpL_store w13.heap.size 25 valZ valZ 5 rowVal rfl rfl (valC_one _ _ _ _ _ _ _ _ _) (Lies.new w13 _ _) ?_ ?_ ?_); rfl; rfl))
        have hbS2 := below_rowSet (hbQ.alloc hbQ.size (.cells valZ 25)) hbQ.size valZ
        generalize World.setRow _ _ _ = w15 at *
        clear hbQ hb13
        go_upto_region 17 with (first
          | (go_at_call 9; refine (HPF'.out _ (her.below hbS2)).mono ?_; rintro e w14 ⟨rfl, hb14⟩; replace hbS2 := below_on hbS2 hb14)
          | ((with_reducible refine wpL_store w14.heap.size 25 valZ valZ 5 rowVal rfl rfl (valC_one _ _ _ _ _ _ _ _ _) (Lies.new w14 _ _) ?_ ?_ ?_); rfl; rfl))
        have hbS3 := below_rowSet (hbS2.alloc hbS2.size (.cells valZ 25)) hbS2.size valZ
        generalize World.setRow _ _ _ = w16 at *
        go_wp2
        go_ret
        exact ⟨rfl, hbS3⟩
end Go.Proofs.YtnloimanklkigaaDoor.V
