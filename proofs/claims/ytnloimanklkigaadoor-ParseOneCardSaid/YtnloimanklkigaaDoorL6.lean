/- Texts that stand on one another, put together: YRead2, YParse, YCut, YOrder. -/
import Derived.Test.YtnloimanklkigaaDoorL5
import Derived.Defers
import Derived.Recover
/- The developers' read: what is panicked is recovered. -/
namespace Go.Proofs.YtnloimanklkigaaDoor.V
set_option maxRecDepth 100000
open Go.RowKit Go.Sort Go.Joins

theorem catch_idle (a b : Addr) (w : World) :
    CallsD Tryd.prog 36 #[.pointer (some a), .pointer (some b)] .returning w fun e u' w' => e = .returned (.tuple #[]) ∧ u' = .returning ∧ w' = w := by
  refine callsD_of_wpS Tryd.func36 rfl fun c₀ cs hu => ?_
  apply wpS_seq
  apply wpS_region
  simp [wpOpsS, go_sem, recoverD, hu, Tryd.ntmps36, Exit.thenS]
  have hfr : #[Value.pointer (some a), .pointer (some b)] ++ ((Array.replicate 7 undef).setIfInBounds 1 Value.nilIface).setIfInBounds 0 Value.nilIface = #[.pointer (some a), .pointer (some b), .nilIface, .nilIface, undef, undef, undef, undef, undef] := rfl
  rw [hfr]
  refine wpS_of_wp ?_
  go_wp2
  simp [bodyPostS, results, Tryd.results36]
  cases c₀
  simp_all
section
variable {a : Act} {d : Option Tmp} {x y : Operand} {t' : TypeId} {pos : String} {after : Array Edge} {gd : Option (Nat × Bool)}
theorem run_assE (er : Int) (hx : a.eval x = .iface 26 (.int .i64 er)) (w : World) : (execOp a.eval ⟨d, .typeAssert x 20 26 false, t', pos, after, gd⟩).run Tryd.prog w = .ok (.value (.int .i64 er)) w := by
  unfold execOp
  simp only [hx]
  simp [Instr.typeAssert, go_sem]
theorem run_stE {w : World} (b : Nat) (old : Value) (z : Int) (hl : Lies w b 26 #[old]) (hx : a.eval x = .pointer (some ⟨b, 0, none⟩)) (hy : a.eval y = .int .i64 z) :
    (execOp a.eval ⟨none, .store 26 x y, t', pos, after, gd⟩).run Tryd.prog w = .ok .skip (w.setCell ⟨b, 0, none⟩ (.int .i64 z)) := by
  have hc : w.cell? ⟨b, 0, none⟩ = some old := by rw [hl.cell]; rfl
  have hz := hl.frozen 0
  unfold execOp
  simp only [hx, hy]
  simp [Instr.storeAt, go_sem, hc, hz]
theorem run_stZ {w : World} {b : Nat} {cur : Array Value} {e : TypeId} (C : Array Value) (hC : C.size = 5) (h1 : Ones C) (hh : Lies w b e cur) (hk : cur.size = 5) (hx : a.eval x = .pointer (some ⟨b, 0, none⟩)) (hy : a.eval y = .agg C) :
    (execOp a.eval ⟨none, .store 25 x y, t', pos, after, gd⟩).run Tryd.prog w = .ok .skip (w.setRow b C) := by
  have := run_stV (a := a) (x := x) (y := y) (t' := t') (pos := pos) (after := after) (gd := gd) C.toList hh (by simpa using hC) (by omega) (fun u hu => Array.all_eq_true_iff_forall_mem.1 h1 u (by simpa using hu)) hx (by simpa using hy)
  rw [this]
  have e1 : (cur.toList.take 0 ++ C.toList ++ cur.toList.drop (0 + C.toList.length)).toArray = C := by
    rw [List.take_zero, List.nil_append, List.drop_eq_nil_of_le (by simp; omega), List.append_nil, Array.toArray_toList]
  rw [e1]
end
theorem catch_met (er : Int) (B bv be : Nat) (C : Array Value) (old : Value) (older : List PanicEntry) (w : World) (hv : Lies w bv 25 C) (hC : C.size = 5) (he : Lies w be 26 #[old]) (hne : bv ≠ be) (hBv : B ≤ bv) (hBe : B ≤ be) :
    CallsD Tryd.prog 36 #[.pointer (some ⟨bv, 0, none⟩), .pointer (some ⟨be, 0, none⟩)] (.panicking ({ v := .iface 26 (.int .i64 er), recovered := false } :: older)) w fun e u' w' =>
      e = .returned (.tuple #[]) ∧ u' = .panicking ({ v := .iface 26 (.int .i64 er), recovered := true } :: older) ∧ Lies w' bv 25 valZ ∧ Lies w' be 26 #[.int .i64 er] ∧ RowKit.Below B w w' := by
  refine callsD_of_wpS Tryd.func36 rfl fun c₀ cs hu => ?_
  apply wpS_seq
  apply wpS_region
  simp [wpOpsS, go_sem, recoverD, hu, Tryd.ntmps36, Exit.thenS]
  have hfr : #[Value.pointer (some ⟨bv, 0, none⟩), .pointer (some ⟨be, 0, none⟩)] ++ ((Array.replicate 7 undef).setIfInBounds 1 (Value.iface 26 (.int .i64 er))).setIfInBounds 0 (Value.iface 26 (.int .i64 er)) = #[.pointer (some ⟨bv, 0, none⟩), .pointer (some ⟨be, 0, none⟩), .iface 26 (.int .i64 er), .iface 26 (.int .i64 er), undef, undef, undef, undef, undef] := rfl
  rw [hfr]
  refine wpS_of_wp ?_
  go_upto_region 2 with fail
  have hB0 := RowKit.Below.refl B w
  refine wp_held_any (S := fun w => True) 5 rfl (by kernel_rfl) ?_
  have hdr : RowKit.Below w.heap.size w { w with drawn := w.drawn + 1 } := (RowKit.Below.refl _ _).drew
  replace hB0 := hB0.trans (hdr.mono (Nat.le_trans hBv (Nat.le_of_lt hv.lt)))
  replace hv := hv.on hdr
  replace he := he.on hdr
  clear hdr
  generalize ({ w with drawn := w.drawn + 1 } : World) = wd at *
  refine held_put 0 6 (.agg valZ) rfl rfl (by kernel_rfl) (by kernel_rfl) (by kernel_rfl) (by kernel_rfl) (fun w hS => (by kernel_rfl)) trivial ?_
  simp only [List.setIfInBounds_toArray, List.set_cons_succ, List.set_cons_zero]
  refine held_put 1 7 (.iface 26 (.int .i64 er)) rfl rfl (by kernel_rfl) (by kernel_rfl) (by kernel_rfl) (by kernel_rfl) (fun w hS => rfl) trivial ?_
  simp only [List.setIfInBounds_toArray, List.set_cons_succ, List.set_cons_zero]
  refine held_put 2 8 (.int .i64 er) rfl rfl (by kernel_rfl) (by kernel_rfl) (by kernel_rfl) (by kernel_rfl) (fun w hS => run_assE er rfl w) trivial ?_
  simp only [List.setIfInBounds_toArray, List.set_cons_succ, List.set_cons_zero]
  refine held_one 3 (by kernel_rfl) (wpOp_skpN rfl rfl (by kernel_rfl) (run_stZ valZ rfl (valC_one _ _ _ _ _ _ _ _ _) hv hC rfl rfl) ⟨trivial, ?_⟩)
  refine held_one 4 (by kernel_rfl) (wpOp_skpN rfl rfl (by kernel_rfl) (run_stE be old er (he.rowFar hne.symm valZ) rfl rfl) ⟨trivial, ?_⟩)
  refine held_done (by kernel_rfl) ?_
  simp only [Exit.then]
  have r1 : Lies ((wd.setRow bv valZ).setCell ⟨be, 0, none⟩ (.int .i64 er)) bv 25 valZ := (hv.row valZ).far hne _
  have r2 : Lies ((wd.setRow bv valZ).setCell ⟨be, 0, none⟩ (.int .i64 er)) be 26 #[.int .i64 er] := (he.rowFar hne.symm valZ).put 0 _
  have r3 := (below_rowSet hB0 hBv valZ).setCell (p := ⟨be, 0, none⟩) hBe (.int .i64 er)
  refine ⟨rfl, _, rfl, _, results_none rfl _ _ _, rfl, rfl, r1, r2, r3⟩
/-- a text of no more than 65,536 bytes, read -/
def rdQ (s : List UInt8) : Rd VT :=
  match rdV 12 0 s with
  | .bad e => .bad e
  | .ok (t, _) [] => .ok t []
  | .ok _ (_ :: _) => .bad 20
theorem rdP_Q {s : List UInt8} (h : s.length ≤ 65536) : rdP s = rdQ s := by unfold rdP; rw [if_neg (by omega)]; rfl
def ReadPost (E0 : List Nat) (w : World) (s : ByteArray) (e : Ending) (w' : World) : Prop :=
  (∃ er, rdQ s.data.toList = .bad er ∧ e = .returned (.tuple #[.agg valZ, .int .i64 er]) ∧ RowKit.Below w.heap.size w w') ∨
  (∃ cs t d, rdQ s.data.toList = .ok t [] ∧ e = .returned (.tuple #[.agg (List.toArray cs), .int .i64 0]) ∧ IsVX E0 w' d cs t ∧ RowKit.Below w.heap.size w w')
theorem results_two {P : Program} {fn : Func} {p q : Tmp} {ty ty' : TypeId} {n : Nat} {w : World} {g b : Nat} {t : TypeId} {cs : Array Value} {x : Value} {tmps : Array Value} (h : fn.results = #[.cell p ty, .cell q ty']) (hT : RowT P ty n) (hn : cs.size = n) (hg : Lies w g t cs) (hp : tmps.getD p undef = .pointer (some ⟨g, 0, none⟩))
    (hq : tmps.getD q undef = .pointer (some ⟨b, 0, none⟩)) (hl : (loadVar ty' ⟨b, 0, none⟩).run P w = .ok x w) : (results fn tmps).run P w = .ok (.tuple #[.agg cs, x]) w := by
  obtain ⟨⟨d, hu, hd⟩, hi⟩ := hT
  have hl1 := run_loadVar_row (P := P) w g t ty cs (0, 0) d hg hu (by cases d <;> first | rfl | simp [TypeDesc.isRow] at hd) (by rw [hi, hn])
  have hp' : tmps[p]?.getD undef = .pointer (some ⟨g, 0, none⟩) := by simpa using hp
  have hq' : tmps[q]?.getD undef = .pointer (some ⟨b, 0, none⟩) := by simpa using hq
  simp [results, h, hp', hq', asAddr, hl1, hl]
set_option maxHeartbeats 12800000 in
theorem read_any (E0 : List Nat) (s : ByteArray) (w : World) (hs : s.size ≤ 65536) (her : ErrAt w) (hE0 : ∀ b ∈ E0, 3 < b ∧ b < w.heap.size) (hnd : E0.Nodup) :
    Calls Tryd.prog 23 #[.string s] w fun e w' => ReadPost E0 w s e w' := by
  have hmf : ∀ (fn : Fn) (first cap : Array Value) (w : World), (Instr.makeFunc fn first cap).run Tryd.prog w = .ok (.func fn first cap) w := fun _ _ _ _ => rfl
  go_enter_defers Tryd.func23, Tryd.ntmps23
  go_upto_region 3 with fail
  have s1 : (w.alloc (.cells valZ 25)).heap.size = w.heap.size + 1 := by simp
  have s2 : ((w.alloc (.cells valZ 25)).alloc (.cells #[.int .i64 0] 26)).heap.size = w.heap.size + 1 + 1 := by simp
  have lv0 := (Lies.new w 25 valZ)
  have le0 := (Lies.new (w.alloc (.cells valZ 25)) 26 #[.int .i64 0])
  have lg0 := (Lies.new ((w.alloc (.cells valZ 25)).alloc (.cells #[.int .i64 0] 26)) 77 #[.string s, .int .i64 0, .int .i64 0, .slice none 0 0])
  have hba : RowKit.Below w.heap.size w (((w.alloc (.cells valZ 25)).alloc (.cells #[.int .i64 0] 26)).alloc (.cells #[.string s, .int .i64 0, .int .i64 0, .slice none 0 0] 77)) := (((RowKit.Below.refl _ _).alloc (Nat.le_refl _) _).alloc (by simp) _).alloc (by simp; omega) _
  rw [s1] at le0
  rw [s2] at lg0
  have lv := (lv0.alloc (.cells #[.int .i64 0] 26)).alloc (.cells #[.string s, .int .i64 0, .int .i64 0, .slice none 0 0] 77)
  have le := le0.alloc (.cells #[.string s, .int .i64 0, .int .i64 0, .slice none 0 0] 77)
  generalize World.alloc (World.alloc (World.alloc w _) _) _ = wa at *
  clear lv0 le0 s1 s2
  obtain ⟨bv, hbv⟩ : ∃ b, w.heap.size = b := ⟨_, rfl⟩
  rw [hbv] at lv le lg0 hba ⊢
  have her' : ErrAt wa := her.below (hbv ▸ hba)
  have hel : 3 < bv := hbv ▸ her.lt
  have h0 : St wa (bv + 1 + 1) ((bv + 1) :: bv :: E0) (bv + 1 + 1 + 1) s 0 0 (.slice none 0 0) [] := by
    refine ⟨lg0, Nat.lt_succ_self _, lg0.lt, ⟨her', by omega⟩, fun b hb => ?_, OwnL.nil _ _ _ _, ?_, (fun m hm => by cases hm), Nat.zero_le _, hs, Nat.zero_le _, Nat.zero_le _, (fun m hm => by cases hm)⟩
    · simp only [List.mem_cons] at hb
      have h1 := le.lt
      have h2 := lv.lt
      rcases hb with rfl | rfl | hb
      · exact ⟨by omega, h1⟩
      · exact ⟨by omega, h2⟩
      · have := hE0 b hb
        rw [hbv] at this
        exact ⟨this.1, by omega⟩
    · show ((bv + 1 + 1) :: (((bv + 1) :: bv :: E0) ++ ([] ++ []))).Nodup
      have h1 : ∀ b ∈ E0, b < bv := fun b hb => by have := hE0 b hb; rw [hbv] at this; omega
      rw [List.append_nil, List.append_nil]
      refine List.nodup_cons.2 ⟨fun hm => ?_, List.nodup_cons.2 ⟨fun hm => ?_, List.nodup_cons.2 ⟨fun hm => ?_, hnd⟩⟩⟩
      · rcases List.mem_cons.1 hm with h | hm
        · omega
        · rcases List.mem_cons.1 hm with h | hm
          · omega
          · have := h1 _ hm
            omega
      · rcases List.mem_cons.1 hm with h | hm
        · omega
        · have := h1 _ hm
          omega
      · have := h1 _ hm
        omega
  have hr0 : rest s 0 = s.data.toList := by unfold rest; rw [List.drop_zero]
  have hV := value_any wa (bv + 1 + 1) ((bv + 1) :: bv :: E0) (bv + 1 + 1 + 1) s 0 0 (.slice none 0 0) h0
  have hcore : ∀ k ∈ live (bv + 1 + 1) [] (.slice none 0 0) [], bv + 1 + 1 ≤ k := fun k hk => (h0.core_lt k hk).1
  have hpan : ∀ (w6 : World) (er : Int) (C : Array Value) (old : Value) (a : Act), rdQ s.data.toList = .bad er → RowKit.Below bv w w6 → Lies w6 bv 25 C → C.size = 5 → Lies w6 (bv + 1) 26 #[old] →
      CallsD Tryd.prog 36 #[.pointer (some ⟨bv, 0, none⟩), .pointer (some ⟨bv + 1, 0, none⟩)] (.panicking ({ v := .iface 26 (.int .i64 er), recovered := false } :: [])) w6 fun e u' w' =>
        e = .returned (.tuple #[]) ∧ u' = .panicking ({ v := .iface 26 (.int .i64 er), recovered := true } :: []) ∧ Lies w' bv 25 valZ ∧ Lies w' (bv + 1) 26 #[.int .i64 er] ∧ RowKit.Below bv w w' := by
    intro w6 er C old a _ hb lv lC le
    refine (catch_met er bv bv (bv + 1) C old [] w6 lv lC le (by omega) (Nat.le_refl _) (by omega)).mono ?_
    rintro e u' w' ⟨h1, h2, h3, h4, h5⟩
    exact ⟨h1, h2, h3, h4, hb.trans h5⟩
  have hgo : ∀ (er : Int) (C : Array Value) (old : Value) (w6 : World) (tm : Array Value), tm.size = 16 → tm.getD 2 undef = .pointer (some ⟨bv, 0, none⟩) → tm.getD 3 undef = .pointer (some ⟨bv + 1, 0, none⟩) → rdQ s.data.toList = .bad er → RowKit.Below bv w w6 → Lies w6 bv 25 C → C.size = 5 → Lies w6 (bv + 1) 26 #[old] →
      bodyPostD Tryd.prog Tryd.f23 (fun e w' => ReadPost E0 w s e w') (Exit.panic [{ v := .iface 26 (.int .i64 er), recovered := false }])
        { tmps := tm, defers := [{ target := Target.fn (Fn.func 36) #[.pointer (some ⟨bv, 0, none⟩), .pointer (some ⟨bv + 1, 0, none⟩)], args := #[] }] } w6 := by
    intro er C old w6 tm htm h2 h3 hX hb lv lC le
    refine leaves_cons (f := 36) (args := #[.pointer (some ⟨bv, 0, none⟩), .pointer (some ⟨bv + 1, 0, none⟩)]) (by simp) (by simp [go_sem]) ?_
    refine (hpan w6 er C old ⟨tm, []⟩ hX hb lv lC le).mono ?_
    rintro e u' w' ⟨rfl, rfl, r1, r2, r3⟩
    have hl : (loadVar 26 ⟨bv + 1, 0, none⟩).run Tryd.prog w' = .ok (.int .i64 er) w' := by
      have hc : w'.cell? ⟨bv + 1, 0, none⟩ = some (.int .i64 er) := by rw [r2.cell]; rfl
      simp [loadVar, go_sem, hc]
    have hr := results_two (P := Tryd.prog) (x := .int .i64 er) Tryd.results23 rowVal (rfl : valZ.size = 5) r1 h2 h3 hl
    simp only [settle]
    refine ⟨_, hr, ?_⟩
    unfold ReadPost
    exact .inl ⟨er, hX, rfl, hbv ▸ r3⟩
  go_upto_region 4 with (first
    | (go_at_call 37; refine hV.mono ?_; rintro e w5 hB; rcases hB with ⟨er, hX, rfl, hbe⟩ | ⟨cs, t, d, q, n', vo', hX, rfl, hpq, hq, h5, hx5, t5⟩)
    | ((with_reducible refine wpL_store bv 25 valZ cs.toArray 5 rowVal rfl (isVX_ones hx5).1 (isVX_ones hx5).2 (t5.lies (fun hk => by have := hcore _ hk; omega) lv) ?_ ?_ ?_); rfl; rfl))
  · refine hgo er valZ (.int .i64 0) w5 _ rfl rfl rfl (by unfold rdQ; rw [← hr0, hX]) (hba.trans (hbe.mono (by omega))) (lv.below hbe (by omega)) rfl (le.below hbe (by omega))
  · have hz := isVX_ones hx5
    have lv5 := (t5.lies (fun hk => by have := hcore _ hk; omega) lv).row cs.toArray
    have le5 := (t5.lies (fun hk => by have := hcore _ hk; omega) le).rowFar (by omega : bv + 1 ≠ bv) cs.toArray
    have lg5 := h5.rd.rowFar (by omega : bv + 1 + 1 ≠ bv) cs.toArray
    have hb5 := below_rowSet (hba.trans (t5.below (B := bv) (fun k hk => by have := hcore _ hk; omega) (by have := lg0.lt; omega))) (Nat.le_refl _) cs.toArray
    have tx : Turn (live (bv + 1 + 1) ((bv + 1) :: bv :: E0) vo' []) (live (bv + 1 + 1) ((bv + 1) :: bv :: E0) vo' []) w5 (w5.setRow bv cs.toArray) := Turn.of_grown (grown_row bv cs.toArray) (by unfold live; simp)
    have hx6 := hx5.turn tx
    generalize World.setRow _ _ _ = w6 at *
    have c1 := rd_c1 lg5
    by_cases hlt : q < s.size
    · have e1 : (q : Int) < (s.size : Int) := by omega
      go_wp2
      refine hgo 20 cs.toArray (.int .i64 0) w6 _ rfl rfl rfl ?_ hb5 lv5 hz.1 le5
      unfold rdQ
      rw [← hr0, hX, rest_cons hlt]
    · have e1 : ¬ (q : Int) < (s.size : Int) := by omega
      have hrq : rest s q = [] := by unfold rest; exact List.drop_eq_nil_of_le (by rw [show s.data.toList.length = s.size from rfl]; omega)
      have le6 := le5.rowFar (by omega : bv + 1 ≠ bv) cs.toArray
      have lv6 := lv5.row cs.toArray
      have q2 : (w6.setRow bv cs.toArray).cell? ⟨bv + 1, 0, none⟩ = some (.int .i64 0) := by rw [le6.cell]; rfl
      have f2 := le6.frozen 0
      go_wp2_with (first
        | ((with_reducible refine wpL_load bv 25 cs.toArray 5 rowVal hz.1 lv5 ?_ ?_); rfl)
        | ((with_reducible refine wpL_store bv 25 cs.toArray cs.toArray 5 rowVal hz.1 hz.1 hz.2 lv5 ?_ ?_ ?_); rfl; rfl))
      have tz : Turn (live (bv + 1 + 1) ((bv + 1) :: bv :: E0) vo' []) (live (bv + 1 + 1) ((bv + 1) :: bv :: E0) vo' []) w6 ((w6.setRow bv cs.toArray).setCell ⟨bv + 1, 0, none⟩ (.int .i64 0)) := (Turn.of_grown (grown_row bv cs.toArray) (by unfold live; simp)).trans (Turn.of_grown (g := bv + 1) (grown_set (bv + 1) (RowKit.Below.refl _ _) 0 _) (by unfold live; simp))
      have hx7 := hx6.turn tz
      have hb7 := (below_rowSet hb5 (Nat.le_refl _) cs.toArray).setCell (p := ⟨bv + 1, 0, none⟩) (by show bv ≤ bv + 1; omega) (.int .i64 0)
      have lv7 := lv6.far (p := ⟨bv + 1, 0, none⟩) (by show bv ≠ bv + 1; omega) (.int .i64 0)
      have le7 := le6.put 0 (.int .i64 0)
      generalize World.setCell _ _ _ = w7 at *
      have hc7 : w7.cell? ⟨bv + 1, 0, none⟩ = some (.int .i64 0) := by rw [le7.cell]; rfl
      refine leaves_cons (f := 36) (args := #[.pointer (some ⟨bv, 0, none⟩), .pointer (some ⟨bv + 1, 0, none⟩)]) (by simp) (by simp [go_sem]) ?_
      refine (catch_idle ⟨bv, 0, none⟩ ⟨bv + 1, 0, none⟩ _).mono ?_
      rintro e u' w' ⟨rfl, rfl, rfl⟩
      refine ⟨_, results_two (P := Tryd.prog) (x := .int .i64 0) Tryd.results23 rowVal hz.1 lv7 rfl rfl (by simp [loadVar, go_sem, hc7]), ?_⟩
      unfold ReadPost
      exact .inr ⟨cs, t, d, by unfold rdQ; rw [← hr0, hX, hrq], rfl, hx7.turn (X' := E0) ⟨rfl, rfl, rfl, Nat.le_refl _, fun _ _ _ => rfl, fun k hk => .inl (by unfold live; simp [hk])⟩, hbv ▸ hb7⟩
end Go.Proofs.YtnloimanklkigaaDoor.V

/- Parse: what is too long is refused; what is read is handed back. -/
namespace Go.Proofs.YtnloimanklkigaaDoor.V
set_option maxRecDepth 100000
open Go.RowKit Go.Sort Go.Joins

theorem results_ct {P : Program} {fn : Func} {p q : Tmp} {ty : TypeId} {n : Nat} {w : World} {g : Nat} {t : TypeId} {cs : Array Value} {tmps : Array Value} (h : fn.results = #[.cell p ty, .tmp q]) (hT : RowT P ty n) (hn : cs.size = n) (hg : Lies w g t cs) (hp : tmps.getD p undef = .pointer (some ⟨g, 0, none⟩)) :
    (results fn tmps).run P w = .ok (.tuple #[.agg cs, tmps.getD q undef]) w := by
  obtain ⟨⟨d, hu, hd⟩, hi⟩ := hT
  have hl1 := run_loadVar_row (P := P) w g t ty cs (0, 0) d hg hu (by cases d <;> first | rfl | simp [TypeDesc.isRow] at hd) (by rw [hi, hn])
  have hp' : tmps[p]?.getD undef = .pointer (some ⟨g, 0, none⟩) := by simpa using hp
  simp [results, h, hp', asAddr, hl1]
def ParsePost (w : World) (s : ByteArray) (e : Ending) (w' : World) : Prop :=
  (∃ er, rdP s.data.toList = .bad er ∧ e = .returned (.tuple #[.agg valZ, .int .i64 er]) ∧ RowKit.Below w.heap.size w w') ∨
  (∃ cs t d, rdP s.data.toList = .ok t [] ∧ e = .returned (.tuple #[.agg (List.toArray cs), .int .i64 0]) ∧ IsV w' d cs t ∧ RowKit.Below w.heap.size w w')
set_option maxHeartbeats 6400000 in
theorem parse_any (s : ByteArray) (w : World) (her : ErrAt w) :
    Calls Tryd.prog 9 #[.string s] w fun e w' => ParsePost w s e w' := by
  have hlen : s.data.toList.length = s.size := rfl
  by_cases hs : s.size ≤ 65536
  · have e1 : ¬ (65536 : Int) < (s.size : Int) := by omega
    go_enter Tryd.func9, Tryd.ntmps9
    go_upto_region 3 with fail
    have lv := Lies.new w 25 valZ
    have hba := (RowKit.Below.refl w.heap.size w).alloc (Nat.le_refl _) (.cells valZ 25)
    have her' := her.below hba
    generalize World.alloc w _ = wa at *
    obtain ⟨bv, hbv⟩ : ∃ b, w.heap.size = b := ⟨_, rfl⟩
    try rw [hbv]
    rw [hbv] at lv hba
    have hel := her.lt
    have HP := read_any [bv] s wa hs her' (fun b hb => by rw [List.mem_singleton.1 hb]; exact ⟨by omega, lv.lt⟩) (List.nodup_cons.2 ⟨List.not_mem_nil, List.nodup_nil⟩)
    go_wp2_with (first
      | (go_at_call 23; refine HP.mono ?_; rintro e w5 hB; rcases hB with ⟨er, hX, rfl, hb5⟩ | ⟨cs, t, d, hX, rfl, hx5, hb5⟩)
      | ((with_reducible refine wpL_store bv 25 valZ valZ 5 rowVal rfl rfl (valC_one _ _ _ _ _ _ _ _ _) (lv.on hb5) ?_ ?_ ?_); rfl; rfl)
      | ((with_reducible refine wpL_store bv 25 valZ cs.toArray 5 rowVal rfl (isVX_ones hx5).1 (isVX_ones hx5).2 (lv.on hb5) ?_ ?_ ?_); rfl; rfl))
    · have lv6 := (lv.on hb5).row valZ
      refine bodyPost_ret (results_ct Tryd.results9 rowVal rfl lv6 rfl) rfl ?_
      unfold ParsePost
      exact .inl ⟨er, by rw [rdP_Q (by omega), hX], rfl, by rw [hbv]; exact below_rowSet (hba.trans (hb5.mono (Nat.le_of_lt lv.lt))) (Nat.le_refl _) _⟩
    · have lv6 := (lv.on hb5).row cs.toArray
      have tz : Turn [bv] [bv] w5 (w5.setRow bv cs.toArray) := Turn.of_grown (grown_row bv cs.toArray) (by simp)
      refine bodyPost_ret (results_ct Tryd.results9 rowVal (isVX_ones hx5).1 lv6 rfl) rfl ?_
      unfold ParsePost
      refine .inr ⟨cs, t, d, by rw [rdP_Q (by omega), hX], rfl, (hx5.turn tz).isV, by rw [hbv]; exact below_rowSet (hba.trans (hb5.mono (Nat.le_of_lt lv.lt))) (Nat.le_refl _) _⟩
  · have e1 : (65536 : Int) < (s.size : Int) := by omega
    go_enter Tryd.func9, Tryd.ntmps9
    have lv := Lies.new w 25 valZ
    go_wp2_with ((with_reducible refine wpL_store w.heap.size 25 valZ valZ 5 rowVal rfl rfl (valC_one _ _ _ _ _ _ _ _ _) lv ?_ ?_ ?_); rfl; rfl)
    have lv6 := lv.row valZ
    refine bodyPost_ret (results_ct Tryd.results9 rowVal rfl lv6 rfl) rfl ?_
    unfold ParsePost
    exact .inl ⟨2, by unfold rdP; rw [if_pos (by omega)], rfl, below_rowSet ((RowKit.Below.refl w.heap.size w).alloc (Nat.le_refl _) _) (Nat.le_refl _) _⟩
section alive
open Go.RowKit Go.Sort Go.Joins

theorem parse_bad {s : List UInt8} {er : Int} (w : World) (her : ErrAt w) (h : rdP s = .bad er) :
    Calls Tryd.prog 9 #[.string ⟨s.toArray⟩] w fun e w' => e = .returned (.tuple #[.agg valZ, .int .i64 er]) ∧ RowKit.Below w.heap.size w w' := by
  refine (parse_any ⟨s.toArray⟩ w her).mono ?_
  rintro e w' (⟨er', hX, rfl, hb⟩ | ⟨cs, t, d, hX, _⟩)
  · rw [show (⟨s.toArray⟩ : ByteArray).data.toList = s from rfl, h] at hX
    injection hX with e1
    subst e1
    exact ⟨rfl, hb⟩
  · rw [show (⟨s.toArray⟩ : ByteArray).data.toList = s from rfl, h] at hX
    cases hX
theorem parse_ok {s : List UInt8} {t : VT} (w : World) (her : ErrAt w) (h : rdP s = .ok t []) :
    Calls Tryd.prog 9 #[.string ⟨s.toArray⟩] w fun e w' => ∃ cs d, e = .returned (.tuple #[.agg (List.toArray cs), .int .i64 0]) ∧ IsV w' d cs t ∧ RowKit.Below w.heap.size w w' := by
  refine (parse_any ⟨s.toArray⟩ w her).mono ?_
  rintro e w' (⟨er', hX, _⟩ | ⟨cs, t', d, hX, rfl, hx, hb⟩)
  · rw [show (⟨s.toArray⟩ : ByteArray).data.toList = s from rfl, h] at hX
    cases hX
  · rw [show (⟨s.toArray⟩ : ByteArray).data.toList = s from rfl, h] at hX
    injection hX with e1
    subst e1
    exact ⟨cs, d, rfl, hx, hb⟩
def aT : VT := .mk 3 0 [] [.mk 1 1 [] [] [], .mk 2 0 [97] [] []] []
theorem aT_ok : aT.okB = true := by
  unfold VT.okB aT
  simp [count_eq, countL_cons, countL_nil, depth_eq, depthL_cons, depthL_nil, each_eq, eachL_cons, eachL_nil, oneB, textOk, keysOk_nil]
theorem aT_wr : aT.wr = [91, 49, 44, 34, 97, 34, 93] := by
  unfold aT
  have e : Lib.itoa 1 = [49] := by
    unfold Lib.itoa
    rw [if_neg (by decide), Lib.decDigits_one (by decide)]
    rfl
  simp [wr_eq, wrL_cons, wrL_nil, e, quotL, escL]
theorem aT_rd : rdP [91, 49, 44, 34, 97, 34, 93] = .ok aT [] := by
  have := rdP_wr aT_ok (by rw [aT_wr]; decide)
  rwa [aT_wr] at this
theorem aT_at {w : World} {d : Nat} {cs : List Value} (h : IsV w d cs aT) : ∃ b off ci ak ck, cs = [.int .i64 3, .int .i64 0, .string ⟨#[]⟩, .slice (some ⟨b, off, none⟩) 2 ci, .slice ak 0 ck] ∧ w.cell? ⟨b, off + 7, none⟩ = some (.string ⟨#[97]⟩) ∧ 2 ≤ ci ∧ ci ≤ maxLen := by
  cases d with
  | zero => exact h.elim
  | succ d =>
    obtain ⟨ai, ci, ak, ck, hcs⟩ := h.form
    obtain ⟨vi, vk, rfl, _, _, a', c', rfl, hm, hm2, _, hl⟩ := h
    simp only [List.cons.injEq, and_true] at hcs
    obtain ⟨_, _, _, e1, rfl⟩ := hcs
    injection e1 with e1 e2 e3
    subst e1 e3
    obtain ⟨b, off, rfl, hx⟩ := hl (by decide)
    obtain ⟨cs2, _, hr, x, hx1, hx2⟩ := hx 1 (by decide)
    obtain rfl : (.mk 2 0 [97] [] [] : VT) = x := Option.some.inj (show some (.mk 2 0 [97] [] [] : VT) = some x from hx1)
    obtain ⟨a2, c2, a3, c3, rfl⟩ := hx2.form
    exact ⟨b, off, _, ak, ck, rfl, hr 2 _ rfl, hm, hm2⟩
set_option maxHeartbeats 3200000 in
theorem alive12_any (W : World) (her : ErrAt W) :
    Calls Tryd.prog 11 #[] W fun e w' => e = .returned (.bool true) ∧ Below W.heap.size W w' := by
  have HP := parse_ok W her aT_rd
  go_enter Tryd.func11, Tryd.ntmps11
  go_upto_region 2 with (first
    | (go_at_call 9; refine HP.mono ?_; rintro e w1 ⟨cs, d, rfl, hx, hb1⟩; obtain ⟨b, off, ci, ak, ck, rfl, hc7, hci, hcm⟩ := aT_at hx)
    | ((with_reducible refine wpL_store w1.heap.size 25 valZ #[.int .i64 3, .int .i64 0, .string ⟨#[]⟩, .slice (some ⟨b, off, none⟩) 2 ci, .slice ak 0 ck] 5 rowVal rfl rfl (valC_one _ _ _ _ _ _ _ _ _) (Lies.new w1 _ _) ?_ ?_ ?_); rfl; rfl))
  have hb3 := (hb1.alloc hb1.size (.cells valZ 25))
  have hb4 := below_rowSet hb3 hb1.size #[.int .i64 3, .int .i64 0, .string ⟨#[]⟩, .slice (some ⟨b, off, none⟩) 2 ci, .slice ak 0 ck]
  have lv := (Lies.new w1 25 valZ).row #[.int .i64 3, .int .i64 0, .string ⟨#[]⟩, .slice (some ⟨b, off, none⟩) 2 ci, .slice ak 0 ck]
  have hz := below_rowSet ((RowKit.Below.refl w1.heap.size w1).alloc (Nat.le_refl _) (.cells valZ 25)) (Nat.le_refl _) #[.int .i64 3, .int .i64 0, .string ⟨#[]⟩, .slice (some ⟨b, off, none⟩) 2 ci, .slice ak 0 ck]
  have hc8 := (hz.cell (p := ⟨b, off + 7, none⟩) (World.block_lt_of_cell? w1 _ hc7)).trans hc7
  generalize World.setRow _ _ _ = w2 at *
  generalize w1.heap.size = bv at *
  have q0 := lv.cell 0
  have q3 := lv.cell 3
  simp only [List.getElem?_toArray, List.getElem?_cons_succ, List.getElem?_cons_zero] at q0 q3
  go_wp2
  go_ret
  exact ⟨rfl, hb4⟩
end alive
end Go.Proofs.YtnloimanklkigaaDoor.V

/- A text that breaks off: what reading it comes to. Nothing of the program is named here. -/
namespace Go.Proofs.YtnloimanklkigaaDoor.V
open Go

/-- what a text that breaks off may come to -/
def Broken (e : Int) (p : List UInt8) : Prop := e = 3 ∨ (e = 20 ∧ p.getLast? = some 45) ∨ (e = 21 ∧ p.getLast? = some 91)
theorem Broken.short (p : List UInt8) : Broken 3 p := .inl rfl
/-! ### how many fit into a text -/
mutual
theorem wr_two : ∀ (t : VT), t.each = true → 2 * t.count ≤ t.wr.length + 1
  | .mk k n s l ks => fun h => by
    rw [each_eq, Bool.and_eq_true] at h
    rw [count_eq, wr_eq]
    have hl := wrL_two l h.1
    rcases one_of h.2 with ⟨rfl, rfl, e2, rfl⟩ | ⟨rfl, rfl, e2, rfl⟩ | ⟨rfl, rfl, rfl, rfl⟩ | ⟨rfl, rfl, rfl, e2⟩
    · obtain rfl := List.eq_nil_of_length_eq_zero e2
      obtain ⟨c, u, e, _⟩ := itoa_head n
      rw [if_pos rfl, e, countL_nil, List.length_cons]
      omega
    · obtain rfl := List.eq_nil_of_length_eq_zero e2
      rw [if_neg (by decide), if_pos rfl, countL_nil]
      unfold quotL
      simp only [List.length_cons, List.length_append, List.length_nil]
      omega
    · rw [if_neg (by decide), if_neg (by decide), if_neg (by decide)]
      have := hl true
      rw [if_pos rfl] at this
      simp only [List.length_cons, List.length_append, List.length_nil]
      omega
    · rw [if_neg (by decide), if_neg (by decide), if_pos rfl]
      have := wrM_two l h.1 true ks
      rw [if_pos rfl] at this
      simp only [List.length_cons, List.length_append, List.length_nil]
      omega
theorem wrL_two : ∀ (l : List VT), eachL l = true → ∀ b : Bool, 2 * countL l ≤ (wrL b l).length + (if b then 1 else 0)
  | [] => fun _ b => by rw [countL_nil]; omega
  | x :: l => fun h b => by
    rw [eachL_cons, Bool.and_eq_true] at h
    have h1 := wr_two x h.1
    have h2 := wrL_two l h.2 false
    rw [countL_cons, wrL_cons]
    simp only [Bool.false_eq_true, if_false] at h2
    cases b <;> simp only [List.length_append, List.length_cons, List.length_nil, if_true, Bool.false_eq_true, if_false] <;> omega
theorem wrM_two : ∀ (l : List VT), eachL l = true → ∀ (b : Bool) (ks : List (List UInt8)), 2 * countL l ≤ (wrM b l ks).length + (if b then 1 else 0)
  | [] => fun _ b ks => by rw [countL_nil]; omega
  | x :: l => fun h b ks => by
    rw [eachL_cons, Bool.and_eq_true] at h
    have h1 := wr_two x h.1
    have h2 := wrM_two l h.2 false ks.tail
    rw [countL_cons, wrM_cons]
    simp only [Bool.false_eq_true, if_false] at h2
    cases b <;> simp only [List.length_append, List.length_cons, List.length_nil, if_true, Bool.false_eq_true, if_false] <;> omega
end
section code
open Go

def NZ {α : Type} : Rd α → Prop
  | .bad e => e ≠ 0
  | .ok _ _ => True
theorem NZ.map {α β : Type} {f : α → β} {x : Rd α} (h : NZ x) : NZ (x.map f) := by
  cases x with
  | bad e => exact h
  | ok a r => trivial
end code
end Go.Proofs.YtnloimanklkigaaDoor.V

/- Blanks where none may be, and keys out of order: what reading comes to. Nothing of the program is named here. -/
namespace Go.Proofs.YtnloimanklkigaaDoor.V
open Go

theorem rdV_blank (d n : Nat) (r : List UInt8) (h : n ≠ 2000) : rdV (d + 1) n (32 :: r) = .bad 20 := by
  rw [rdV, if_neg h, if_neg (by decide), if_neg (by decide), if_neg (by decide), if_neg (by decide)]
/-- a blank ahead of it all -/
theorem rdP_front {s : List UInt8} (h : s.length + 1 ≤ 65536) : rdP (32 :: s) = .bad 20 := by
  unfold rdP
  rw [if_neg (by rw [List.length_cons]; omega), rdV_blank 11 0 s (by decide)]
/-- something behind it all that is no digit -/
theorem rdP_back {t : VT} {c : UInt8} {r : List UInt8} (h : t.okB = true) (hl : (t.wr ++ c :: r).length ≤ 65536) (hc : isDig c = false) : rdP (t.wr ++ c :: r) = .bad 20 := by
  unfold VT.okB at h
  rw [Bool.and_eq_true, Bool.and_eq_true, decide_eq_true_eq, decide_eq_true_eq] at h
  unfold rdP
  rw [if_neg (by omega), rdV_wr 12 0 t (c :: r) h.2 h.1.2 (by omega) (fun _ => delim_at hc)]
/-- a blank behind a list's first comma -/
theorem rdP_comma {z : Int} {r : List UInt8} (hz : -1099511627776 ≤ z ∧ z ≤ 1099511627776) (hl : (91 :: (Lib.itoa z ++ 44 :: 32 :: r)).length ≤ 65536) : rdP (91 :: (Lib.itoa z ++ 44 :: 32 :: r)) = .bad 20 := by
  obtain ⟨c, u, e, hh⟩ := itoa_head z
  have hc : c ≠ 93 := by rcases hh with rfl | hh
                         · decide
                         · intro e; rw [e] at hh; exact absurd hh (by decide)
  have he : (VT.mk 1 z [] [] []).each = true := by rw [each_eq, eachL_nil, List.length_nil, oneB_num hz]; rfl
  have h1 := rdV_wr 11 1 (.mk 1 z [] [] []) (44 :: 32 :: r) he (by rw [depth_eq, depthL_nil]; omega) (by rw [count_eq, countL_nil]; omega) (fun _ => delim_sep 44 _ (.inr (.inr rfl)))
  rw [wr_eq, if_pos rfl, count_eq, countL_nil] at h1
  unfold rdP
  rw [if_neg (by omega), rdV, if_neg (by decide), if_neg (by decide), if_neg (by decide), if_pos rfl]
  unfold rdB
  rw [if_neg (by rw [e]; simp [hc]), rdL, h1]
  simp only []
  rw [if_neg (by decide), if_pos trivial]
  obtain ⟨f, hf⟩ : ∃ f, (Lib.itoa z ++ 44 :: 32 :: r).length = f + 1 := ⟨(Lib.itoa z ++ 44 :: 32 :: r).length - 1, by rw [List.length_append]; simp only [List.length_cons]; omega⟩
  rw [hf, rdL, rdV_blank 10 _ r (by decide)]
  rfl
end Go.Proofs.YtnloimanklkigaaDoor.V

