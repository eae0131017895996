/- Parse: what is too long is refused; what is read is handed back. -/
import Derived.Test.YtnloimanklkigaaDoorYRead2
namespace Go.Proofs.YtnloimanklkigaaDoor.V
set_option maxRecDepth 100000
open Go.RowKit Go.Sort Go.Joins

theorem results_ct {P : Program} {fn : Func} {p q : Tmp} {ty : TypeId} {n : Nat} {w : World} {g : Nat} {t : TypeId} {cs : Array Value} {tmps : Array Value} (h : fn.results = #[.cell p ty, .tmp q]) (hT : RowT P ty n) (hn : cs.size = n) (hg : Lies w g t cs) (hp : tmps.getD p undef = .pointer (some ⟨g, 0, none⟩)) :
    (results fn tmps).run P w = .ok (.tuple #[.agg cs, tmps.getD q undef]) w := by
  obtain ⟨⟨d, hu, hd⟩, hi⟩ := hT
  have hl1 := run_loadVar_row (P := P) w g t ty cs (0, 0) d hg hu (by cases d <;> first | rfl | simp [TypeDesc.isRow] at hd) (by rw [hi, hn])
  have hp' : tmps[p]?.getD undef = .pointer (some ⟨g, 0, none⟩) := by simpa using hp
  simp [results, h, hp', asAddr, hl1]
def ParsePost (w : World) (s : ByteArray) (e : Ending) (w' : World) : Prop :=
  (∃ er, rdP s.data.toList = .bad er ∧ e = .returned (.tuple #[.agg valZ, .int .i64 er]) ∧ RowKit.Below w.heap.size w w') ∨
  (∃ cs t d, rdP s.data.toList = .ok t [] ∧ e = .returned (.tuple #[.agg (List.toArray cs), .int .i64 0]) ∧ IsV w' d cs t ∧ RowKit.Below w.heap.size w w')
set_option maxHeartbeats 6400000 in
theorem parse_any (s : ByteArray) (w : World) (her : ErrAt w) :
    Calls Tryd.prog 9 #[.string s] w fun e w' => ParsePost w s e w' := by
  have hlen : s.data.toList.length = s.size := rfl
  by_cases hs : s.size ≤ 65536
  · have e1 : ¬ (65536 : Int) < (s.size : Int) := by omega
    go_enter Tryd.func9, Tryd.ntmps9
    go_upto_region 3 with fail
    have lv := Lies.new w 25 valZ
    have hba := (RowKit.Below.refl w.heap.size w).alloc (Nat.le_refl _) (.cells valZ 25)
    have her' := her.below hba
    generalize World.alloc w _ = wa at *
    obtain ⟨bv, hbv⟩ : ∃ b, w.heap.size = b := ⟨_, rfl⟩
    try rw [hbv]
    rw [hbv] at lv hba
    have hel := her.lt
    have HP := read_any [bv] s wa hs her' (fun b hb => by rw [List.mem_singleton.1 hb]; exact ⟨by omega, lv.lt⟩) (List.nodup_cons.2 ⟨List.not_mem_nil, List.nodup_nil⟩)
    go_wp2_with (first
      | (go_at_call 23; refine HP.mono ?_; rintro e w5 hB; rcases hB with ⟨er, hX, rfl, hb5⟩ | ⟨cs, t, d, hX, rfl, hx5, hb5⟩)
      | ((with_reducible refine wpL_store bv 25 valZ valZ 5 rowVal rfl rfl (valC_one _ _ _ _ _ _ _ _ _) (lv.on hb5) ?_ ?_ ?_); rfl; rfl)
      | ((with_reducible refine wpL_store bv 25 valZ cs.toArray 5 rowVal rfl (isVX_ones hx5).1 (isVX_ones hx5).2 (lv.on hb5) ?_ ?_ ?_); rfl; rfl))
    · have lv6 := (lv.on hb5).row valZ
      refine bodyPost_ret (results_ct Tryd.results9 rowVal rfl lv6 rfl) rfl ?_
      unfold ParsePost
      exact .inl ⟨er, by rw [rdP_Q (by omega), hX], rfl, by rw [hbv]; exact below_rowSet (hba.trans (hb5.mono (Nat.le_of_lt lv.lt))) (Nat.le_refl _) _⟩
    · have lv6 := (lv.on hb5).row cs.toArray
      have tz : Turn [bv] [bv] w5 (w5.setRow bv cs.toArray) := Turn.of_grown (grown_row bv cs.toArray) (by simp)
      refine bodyPost_ret (results_ct Tryd.results9 rowVal (isVX_ones hx5).1 lv6 rfl) rfl ?_
      unfold ParsePost
      refine .inr ⟨cs, t, d, by rw [rdP_Q (by omega), hX], rfl, (hx5.turn tz).isV, by rw [hbv]; exact below_rowSet (hba.trans (hb5.mono (Nat.le_of_lt lv.lt))) (Nat.le_refl _) _⟩
  · have e1 : (65536 : Int) < (s.size : Int) := by omega
    go_enter Tryd.func9, Tryd.ntmps9
    have lv := Lies.new w 25 valZ
    go_wp2_with ((with_reducible refine wpL_store w.heap.size 25 valZ valZ 5 rowVal rfl rfl (valC_one _ _ _ _ _ _ _ _ _) lv ?_ ?_ ?_); rfl; rfl)
    have lv6 := lv.row valZ
    refine bodyPost_ret (results_ct Tryd.results9 rowVal rfl lv6 rfl) rfl ?_
    unfold ParsePost
    exact .inl ⟨2, by unfold rdP; rw [if_pos (by omega)], rfl, below_rowSet ((RowKit.Below.refl w.heap.size w).alloc (Nat.le_refl _) _) (Nat.le_refl _) _⟩
section alive
open Go.RowKit Go.Sort Go.Joins

theorem parse_bad {s : List UInt8} {er : Int} (w : World) (her : ErrAt w) (h : rdP s = .bad er) :
    Calls Tryd.prog 9 #[.string ⟨s.toArray⟩] w fun e w' => e = .returned (.tuple #[.agg valZ, .int .i64 er]) ∧ RowKit.Below w.heap.size w w' := by
  refine (parse_any ⟨s.toArray⟩ w her).mono ?_
  rintro e w' (⟨er', hX, rfl, hb⟩ | ⟨cs, t, d, hX, _⟩)
  · rw [show (⟨s.toArray⟩ : ByteArray).data.toList = s from rfl, h] at hX
    injection hX with e1
    subst e1
    exact ⟨rfl, hb⟩
  · rw [show (⟨s.toArray⟩ : ByteArray).data.toList = s from rfl, h] at hX
    cases hX
theorem parse_ok {s : List UInt8} {t : VT} (w : World) (her : ErrAt w) (h : rdP s = .ok t []) :
    Calls Tryd.prog 9 #[.string ⟨s.toArray⟩] w fun e w' => ∃ cs d, e = .returned (.tuple #[.agg (List.toArray cs), .int .i64 0]) ∧ IsV w' d cs t ∧ RowKit.Below w.heap.size w w' := by
  refine (parse_any ⟨s.toArray⟩ w her).mono ?_
  rintro e w' (⟨er', hX, _⟩ | ⟨cs, t', d, hX, rfl, hx, hb⟩)
  · rw [show (⟨s.toArray⟩ : ByteArray).data.toList = s from rfl, h] at hX
    cases hX
  · rw [show (⟨s.toArray⟩ : ByteArray).data.toList = s from rfl, h] at hX
    injection hX with e1
    subst e1
    exact ⟨cs, d, rfl, hx, hb⟩
def aT : VT := .mk 3 0 [] [.mk 1 1 [] [] [], .mk 2 0 [97] [] []] []
theorem aT_ok : aT.okB = true := by
  unfold VT.okB aT
  simp [count_eq, countL_cons, countL_nil, depth_eq, depthL_cons, depthL_nil, each_eq, eachL_cons, eachL_nil, oneB, textOk, keysOk_nil]
theorem aT_wr : aT.wr = [91, 49, 44, 34, 97, 34, 93] := by
  unfold aT
  have e : Lib.itoa 1 = [49] := by
    unfold Lib.itoa
    rw [if_neg (by decide), Lib.decDigits_one (by decide)]
    rfl
  simp [wr_eq, wrL_cons, wrL_nil, e, quotL, escL]
theorem aT_rd : rdP [91, 49, 44, 34, 97, 34, 93] = .ok aT [] := by
  have := rdP_wr aT_ok (by rw [aT_wr]; decide)
  rwa [aT_wr] at this
theorem aT_at {w : World} {d : Nat} {cs : List Value} (h : IsV w d cs aT) : ∃ b off ci ak ck, cs = [.int .i64 3, .int .i64 0, .string ⟨#[]⟩, .slice (some ⟨b, off, none⟩) 2 ci, .slice ak 0 ck] ∧ w.cell? ⟨b, off + 7, none⟩ = some (.string ⟨#[97]⟩) ∧ 2 ≤ ci ∧ ci ≤ maxLen := by
  cases d with
  | zero => exact h.elim
  | succ d =>
    obtain ⟨ai, ci, ak, ck, hcs⟩ := h.form
    obtain ⟨vi, vk, rfl, _, _, a', c', rfl, hm, hm2, _, hl⟩ := h
    simp only [List.cons.injEq, and_true] at hcs
    obtain ⟨_, _, _, e1, rfl⟩ := hcs
    injection e1 with e1 e2 e3
    subst e1 e3
    obtain ⟨b, off, rfl, hx⟩ := hl (by decide)
    obtain ⟨cs2, _, hr, x, hx1, hx2⟩ := hx 1 (by decide)
    obtain rfl : (.mk 2 0 [97] [] [] : VT) = x := Option.some.inj (show some (.mk 2 0 [97] [] [] : VT) = some x from hx1)
    obtain ⟨a2, c2, a3, c3, rfl⟩ := hx2.form
    exact ⟨b, off, _, ak, ck, rfl, hr 2 _ rfl, hm, hm2⟩
set_option maxHeartbeats 3200000 in
theorem alive12_any (W : World) (her : ErrAt W) :
    Calls Tryd.prog 11 #[] W fun e w' => e = .returned (.bool true) ∧ Below W.heap.size W w' := by
  have HP := parse_ok W her aT_rd
  go_enter Tryd.func11, Tryd.ntmps11
  go_upto_region 2 with (first
    | (go_at_call 9; refine HP.mono ?_; rintro e w1 ⟨cs, d, rfl, hx, hb1⟩; obtain ⟨b, off, ci, ak, ck, rfl, hc7, hci, hcm⟩ := aT_at hx)
    | ((with_reducible refine wpL_store w1.heap.size 25 valZ #[.int .i64 3, .int .i64 0, .string ⟨#[]⟩, .slice (some ⟨b, off, none⟩) 2 ci, .slice ak 0 ck] 5 rowVal rfl rfl (valC_one _ _ _ _ _ _ _ _ _) (Lies.new w1 _ _) ?_ ?_ ?_); rfl; rfl))
  have hb3 := (hb1.alloc hb1.size (.cells valZ 25))
  have hb4 := below_rowSet hb3 hb1.size #[.int .i64 3, .int .i64 0, .string ⟨#[]⟩, .slice (some ⟨b, off, none⟩) 2 ci, .slice ak 0 ck]
  have lv := (Lies.new w1 25 valZ).row #[.int .i64 3, .int .i64 0, .string ⟨#[]⟩, .slice (some ⟨b, off, none⟩) 2 ci, .slice ak 0 ck]
  have hz := below_rowSet ((RowKit.Below.refl w1.heap.size w1).alloc (Nat.le_refl _) (.cells valZ 25)) (Nat.le_refl _) #[.int .i64 3, .int .i64 0, .string ⟨#[]⟩, .slice (some ⟨b, off, none⟩) 2 ci, .slice ak 0 ck]
  have hc8 := (hz.cell (p := ⟨b, off + 7, none⟩) (World.block_lt_of_cell? w1 _ hc7)).trans hc7
  generalize World.setRow _ _ _ = w2 at *
  generalize w1.heap.size = bv at *
  have q0 := lv.cell 0
  have q3 := lv.cell 3
  simp only [List.getElem?_toArray, List.getElem?_cons_succ, List.getElem?_cons_zero] at q0 q3
  go_wp2
  go_ret
  exact ⟨rfl, hb4⟩
end alive
end Go.Proofs.YtnloimanklkigaaDoor.V
