/- Texts that stand on one another, put together: YRead2, YParse, YGet, VRefSame, YReadsW, YRefText, YCut, YRefParse, YRefNum, YRMem, YRLeaf, YRList. -/
import Derived.Test.YtmbmeidkmhajbaaDoorK4
import Derived.Deep.CutBlock
import Derived.Deep.CutRange
import Derived.Defers
import Derived.Recover
/- The developers' read: what is panicked is recovered. -/
namespace Go.Proofs.YtmbmeidkmhajbaaDoor.V
set_option maxRecDepth 100000
open Go.RowKit Go.Sort Go.Joins

theorem catch_idle (a b : Addr) (w : World) :
    CallsD Tryd.prog 21 #[.pointer (some a), .pointer (some b)] .returning w fun e u' w' => e = .returned (.tuple #[]) ∧ u' = .returning ∧ w' = w := by
  refine callsD_of_wpS Tryd.func21 rfl fun c₀ cs hu => ?_
  apply wpS_seq
  apply wpS_region
  simp [wpOpsS, go_sem, recoverD, hu, Tryd.ntmps21, Exit.thenS]
  have hfr : #[Value.pointer (some a), .pointer (some b)] ++ ((Array.replicate 7 undef).setIfInBounds 1 Value.nilIface).setIfInBounds 0 Value.nilIface = #[.pointer (some a), .pointer (some b), .nilIface, .nilIface, undef, undef, undef, undef, undef] := rfl
  rw [hfr]
  refine wpS_of_wp ?_
  go_wp2
  simp [bodyPostS, results, Tryd.results21]
  cases c₀
  simp_all
section
variable {a : Act} {d : Option Tmp} {x y : Operand} {t' : TypeId} {pos : String} {after : Array Edge} {gd : Option (Nat × Bool)}
theorem run_assE (er : Int) (hx : a.eval x = .iface 26 (.int .i64 er)) (w : World) : (execOp a.eval ⟨d, .typeAssert x 20 26 false, t', pos, after, gd⟩).run Tryd.prog w = .ok (.value (.int .i64 er)) w := by
  unfold execOp
  simp only [hx]
  simp [Instr.typeAssert, go_sem]
theorem run_stE {w : World} (b : Nat) (old : Value) (z : Int) (hl : Lies w b 26 #[old]) (hx : a.eval x = .pointer (some ⟨b, 0, none⟩)) (hy : a.eval y = .int .i64 z) :
    (execOp a.eval ⟨none, .store 26 x y, t', pos, after, gd⟩).run Tryd.prog w = .ok .skip (w.setCell ⟨b, 0, none⟩ (.int .i64 z)) := by
  have hc : w.cell? ⟨b, 0, none⟩ = some old := by rw [hl.cell]; rfl
  have hz := hl.frozen 0
  unfold execOp
  simp only [hx, hy]
  simp [Instr.storeAt, go_sem, hc, hz]
theorem run_stZ {w : World} {b : Nat} {cur : Array Value} {e : TypeId} (C : Array Value) (hC : C.size = 5) (h1 : Ones C) (hh : Lies w b e cur) (hk : cur.size = 5) (hx : a.eval x = .pointer (some ⟨b, 0, none⟩)) (hy : a.eval y = .agg C) :
    (execOp a.eval ⟨none, .store 25 x y, t', pos, after, gd⟩).run Tryd.prog w = .ok .skip (w.setRow b C) := by
  have := run_stV (a := a) (x := x) (y := y) (t' := t') (pos := pos) (after := after) (gd := gd) C.toList hh (by simpa using hC) (by omega) (fun u hu => Array.all_eq_true_iff_forall_mem.1 h1 u (by simpa using hu)) hx (by simpa using hy)
  rw [this]
  have e1 : (cur.toList.take 0 ++ C.toList ++ cur.toList.drop (0 + C.toList.length)).toArray = C := by
    rw [List.take_zero, List.nil_append, List.drop_eq_nil_of_le (by simp; omega), List.append_nil, Array.toArray_toList]
  rw [e1]
end
theorem catch_met (er : Int) (B bv be : Nat) (C : Array Value) (old : Value) (older : List PanicEntry) (w : World) (hv : Lies w bv 25 C) (hC : C.size = 5) (he : Lies w be 26 #[old]) (hne : bv ≠ be) (hBv : B ≤ bv) (hBe : B ≤ be) :
    CallsD Tryd.prog 21 #[.pointer (some ⟨bv, 0, none⟩), .pointer (some ⟨be, 0, none⟩)] (.panicking ({ v := .iface 26 (.int .i64 er), recovered := false } :: older)) w fun e u' w' =>
      e = .returned (.tuple #[]) ∧ u' = .panicking ({ v := .iface 26 (.int .i64 er), recovered := true } :: older) ∧ Lies w' bv 25 valZ ∧ Lies w' be 26 #[.int .i64 er] ∧ RowKit.Below B w w' := by
  refine callsD_of_wpS Tryd.func21 rfl fun c₀ cs hu => ?_
  apply wpS_seq
  apply wpS_region
  simp [wpOpsS, go_sem, recoverD, hu, Tryd.ntmps21, Exit.thenS]
  have hfr : #[Value.pointer (some ⟨bv, 0, none⟩), .pointer (some ⟨be, 0, none⟩)] ++ ((Array.replicate 7 undef).setIfInBounds 1 (Value.iface 26 (.int .i64 er))).setIfInBounds 0 (Value.iface 26 (.int .i64 er)) = #[.pointer (some ⟨bv, 0, none⟩), .pointer (some ⟨be, 0, none⟩), .iface 26 (.int .i64 er), .iface 26 (.int .i64 er), undef, undef, undef, undef, undef] := rfl
  rw [hfr]
  refine wpS_of_wp ?_
  go_upto_region 2 with fail
  have hB0 := RowKit.Below.refl B w
  refine wp_held_any (S := fun w => True) 5 rfl (by kernel_rfl) ?_
  have hdr : RowKit.Below w.heap.size w { w with drawn := w.drawn + 1 } := (RowKit.Below.refl _ _).drew
  replace hB0 := hB0.trans (hdr.mono (Nat.le_trans hBv (Nat.le_of_lt hv.lt)))
  replace hv := hv.on hdr
  replace he := he.on hdr
  clear hdr
  generalize ({ w with drawn := w.drawn + 1 } : World) = wd at *
  refine held_put 0 6 (.agg valZ) rfl rfl (by kernel_rfl) (by kernel_rfl) (by kernel_rfl) (by kernel_rfl) (fun w hS => (by kernel_rfl)) trivial ?_
  simp only [List.setIfInBounds_toArray, List.set_cons_succ, List.set_cons_zero]
  refine held_put 1 7 (.iface 26 (.int .i64 er)) rfl rfl (by kernel_rfl) (by kernel_rfl) (by kernel_rfl) (by kernel_rfl) (fun w hS => rfl) trivial ?_
  simp only [List.setIfInBounds_toArray, List.set_cons_succ, List.set_cons_zero]
  refine held_put 2 8 (.int .i64 er) rfl rfl (by kernel_rfl) (by kernel_rfl) (by kernel_rfl) (by kernel_rfl) (fun w hS => run_assE er rfl w) trivial ?_
  simp only [List.setIfInBounds_toArray, List.set_cons_succ, List.set_cons_zero]
  refine held_one 3 (by kernel_rfl) (wpOp_skpN rfl rfl (by kernel_rfl) (run_stZ valZ rfl (valC_one _ _ _ _ _ _ _ _ _) hv hC rfl rfl) ⟨trivial, ?_⟩)
  refine held_one 4 (by kernel_rfl) (wpOp_skpN rfl rfl (by kernel_rfl) (run_stE be old er (he.rowFar hne.symm valZ) rfl rfl) ⟨trivial, ?_⟩)
  refine held_done (by kernel_rfl) ?_
  simp only [Exit.then]
  have r1 : Lies ((wd.setRow bv valZ).setCell ⟨be, 0, none⟩ (.int .i64 er)) bv 25 valZ := (hv.row valZ).far hne _
  have r2 : Lies ((wd.setRow bv valZ).setCell ⟨be, 0, none⟩ (.int .i64 er)) be 26 #[.int .i64 er] := (he.rowFar hne.symm valZ).put 0 _
  have r3 := (below_rowSet hB0 hBv valZ).setCell (p := ⟨be, 0, none⟩) hBe (.int .i64 er)
  refine ⟨rfl, _, rfl, _, results_none rfl _ _ _, rfl, rfl, r1, r2, r3⟩
/-- a text of no more than 65,536 bytes, read -/
def rdQ (s : List UInt8) : Rd VT :=
  match rdV 12 0 s with
  | .bad e => .bad e
  | .ok (t, _) [] => .ok t []
  | .ok _ (_ :: _) => .bad 20
theorem rdP_Q {s : List UInt8} (h : s.length ≤ 65536) : rdP s = rdQ s := by unfold rdP; rw [if_neg (by omega)]; rfl
def ReadPost (E0 : List Nat) (w : World) (s : ByteArray) (e : Ending) (w' : World) : Prop :=
  (∃ er, rdQ s.data.toList = .bad er ∧ e = .returned (.tuple #[.agg valZ, .int .i64 er]) ∧ RowKit.Below w.heap.size w w') ∨
  (∃ cs t d, rdQ s.data.toList = .ok t [] ∧ e = .returned (.tuple #[.agg (List.toArray cs), .int .i64 0]) ∧ IsVX E0 w' d cs t ∧ RowKit.Below w.heap.size w w')
theorem results_two {P : Program} {fn : Func} {p q : Tmp} {ty ty' : TypeId} {n : Nat} {w : World} {g b : Nat} {t : TypeId} {cs : Array Value} {x : Value} {tmps : Array Value} (h : fn.results = #[.cell p ty, .cell q ty']) (hT : RowT P ty n) (hn : cs.size = n) (hg : Lies w g t cs) (hp : tmps.getD p undef = .pointer (some ⟨g, 0, none⟩))
    (hq : tmps.getD q undef = .pointer (some ⟨b, 0, none⟩)) (hl : (loadVar ty' ⟨b, 0, none⟩).run P w = .ok x w) : (results fn tmps).run P w = .ok (.tuple #[.agg cs, x]) w := by
  obtain ⟨⟨d, hu, hd⟩, hi⟩ := hT
  have hl1 := run_loadVar_row (P := P) w g t ty cs (0, 0) d hg hu (by cases d <;> first | rfl | simp [TypeDesc.isRow] at hd) (by rw [hi, hn])
  have hp' : tmps[p]?.getD undef = .pointer (some ⟨g, 0, none⟩) := by simpa using hp
  have hq' : tmps[q]?.getD undef = .pointer (some ⟨b, 0, none⟩) := by simpa using hq
  simp [results, h, hp', hq', asAddr, hl1, hl]
set_option maxHeartbeats 12800000 in
theorem read_any (E0 : List Nat) (s : ByteArray) (w : World) (hs : s.size ≤ 65536) (her : ErrAt w) (hE0 : ∀ b ∈ E0, 2 < b ∧ b < w.heap.size) (hnd : E0.Nodup) :
    Calls Tryd.prog 16 #[.string s] w fun e w' => ReadPost E0 w s e w' := by
  have hmf : ∀ (fn : Fn) (first cap : Array Value) (w : World), (Instr.makeFunc fn first cap).run Tryd.prog w = .ok (.func fn first cap) w := fun _ _ _ _ => rfl
  go_enter_defers Tryd.func16, Tryd.ntmps16
  go_upto_region 3 with fail
  have s1 : (w.alloc (.cells valZ 25)).heap.size = w.heap.size + 1 := by simp
  have s2 : ((w.alloc (.cells valZ 25)).alloc (.cells #[.int .i64 0] 26)).heap.size = w.heap.size + 1 + 1 := by simp
  have lv0 := (Lies.new w 25 valZ)
  have le0 := (Lies.new (w.alloc (.cells valZ 25)) 26 #[.int .i64 0])
  have lg0 := (Lies.new ((w.alloc (.cells valZ 25)).alloc (.cells #[.int .i64 0] 26)) 55 #[.string s, .int .i64 0, .int .i64 0, .slice none 0 0])
  have hba : RowKit.Below w.heap.size w (((w.alloc (.cells valZ 25)).alloc (.cells #[.int .i64 0] 26)).alloc (.cells #[.string s, .int .i64 0, .int .i64 0, .slice none 0 0] 55)) := (((RowKit.Below.refl _ _).alloc (Nat.le_refl _) _).alloc (by simp) _).alloc (by simp; omega) _
  rw [s1] at le0
  rw [s2] at lg0
  have lv := (lv0.alloc (.cells #[.int .i64 0] 26)).alloc (.cells #[.string s, .int .i64 0, .int .i64 0, .slice none 0 0] 55)
  have le := le0.alloc (.cells #[.string s, .int .i64 0, .int .i64 0, .slice none 0 0] 55)
  generalize World.alloc (World.alloc (World.alloc w _) _) _ = wa at *
  clear lv0 le0 s1 s2
  obtain ⟨bv, hbv⟩ : ∃ b, w.heap.size = b := ⟨_, rfl⟩
  rw [hbv] at lv le lg0 hba ⊢
  have her' : ErrAt wa := her.below (hbv ▸ hba)
  have hel : 2 < bv := hbv ▸ her.lt
  have h0 : St wa (bv + 1 + 1) ((bv + 1) :: bv :: E0) (bv + 1 + 1 + 1) s 0 0 (.slice none 0 0) [] := by
    refine ⟨lg0, Nat.lt_succ_self _, lg0.lt, ⟨her', by omega⟩, fun b hb => ?_, OwnL.nil _ _ _ _, ?_, (fun m hm => by cases hm), Nat.zero_le _, hs, Nat.zero_le _, Nat.zero_le _, (fun m hm => by cases hm)⟩
    · simp only [List.mem_cons] at hb
      have h1 := le.lt
      have h2 := lv.lt
      rcases hb with rfl | rfl | hb
      · exact ⟨by omega, h1⟩
      · exact ⟨by omega, h2⟩
      · have := hE0 b hb
        rw [hbv] at this
        exact ⟨this.1, by omega⟩
    · show ((bv + 1 + 1) :: (((bv + 1) :: bv :: E0) ++ ([] ++ []))).Nodup
      have h1 : ∀ b ∈ E0, b < bv := fun b hb => by have := hE0 b hb; rw [hbv] at this; omega
      rw [List.append_nil, List.append_nil]
      refine List.nodup_cons.2 ⟨fun hm => ?_, List.nodup_cons.2 ⟨fun hm => ?_, List.nodup_cons.2 ⟨fun hm => ?_, hnd⟩⟩⟩
      · rcases List.mem_cons.1 hm with h | hm
        · omega
        · rcases List.mem_cons.1 hm with h | hm
          · omega
          · have := h1 _ hm
            omega
      · rcases List.mem_cons.1 hm with h | hm
        · omega
        · have := h1 _ hm
          omega
      · have := h1 _ hm
        omega
  have hr0 : rest s 0 = s.data.toList := by unfold rest; rw [List.drop_zero]
  have hV := value_any wa (bv + 1 + 1) ((bv + 1) :: bv :: E0) (bv + 1 + 1 + 1) s 0 0 (.slice none 0 0) h0
  have hcore : ∀ k ∈ live (bv + 1 + 1) [] (.slice none 0 0) [], bv + 1 + 1 ≤ k := fun k hk => (h0.core_lt k hk).1
  have hpan : ∀ (w6 : World) (er : Int) (C : Array Value) (old : Value) (a : Act), rdQ s.data.toList = .bad er → RowKit.Below bv w w6 → Lies w6 bv 25 C → C.size = 5 → Lies w6 (bv + 1) 26 #[old] →
      CallsD Tryd.prog 21 #[.pointer (some ⟨bv, 0, none⟩), .pointer (some ⟨bv + 1, 0, none⟩)] (.panicking ({ v := .iface 26 (.int .i64 er), recovered := false } :: [])) w6 fun e u' w' =>
        e = .returned (.tuple #[]) ∧ u' = .panicking ({ v := .iface 26 (.int .i64 er), recovered := true } :: []) ∧ Lies w' bv 25 valZ ∧ Lies w' (bv + 1) 26 #[.int .i64 er] ∧ RowKit.Below bv w w' := by
    intro w6 er C old a _ hb lv lC le
    refine (catch_met er bv bv (bv + 1) C old [] w6 lv lC le (by omega) (Nat.le_refl _) (by omega)).mono ?_
    rintro e u' w' ⟨h1, h2, h3, h4, h5⟩
    exact ⟨h1, h2, h3, h4, hb.trans h5⟩
  have hgo : ∀ (er : Int) (C : Array Value) (old : Value) (w6 : World) (tm : Array Value), tm.size = 16 → tm.getD 2 undef = .pointer (some ⟨bv, 0, none⟩) → tm.getD 3 undef = .pointer (some ⟨bv + 1, 0, none⟩) → rdQ s.data.toList = .bad er → RowKit.Below bv w w6 → Lies w6 bv 25 C → C.size = 5 → Lies w6 (bv + 1) 26 #[old] →
      bodyPostD Tryd.prog Tryd.f16 (fun e w' => ReadPost E0 w s e w') (Exit.panic [{ v := .iface 26 (.int .i64 er), recovered := false }])
        { tmps := tm, defers := [{ target := Target.fn (Fn.func 21) #[.pointer (some ⟨bv, 0, none⟩), .pointer (some ⟨bv + 1, 0, none⟩)], args := #[] }] } w6 := by
    intro er C old w6 tm htm h2 h3 hX hb lv lC le
    refine leaves_cons (f := 21) (args := #[.pointer (some ⟨bv, 0, none⟩), .pointer (some ⟨bv + 1, 0, none⟩)]) (by simp) (by simp [go_sem]) ?_
    refine (hpan w6 er C old ⟨tm, []⟩ hX hb lv lC le).mono ?_
    rintro e u' w' ⟨rfl, rfl, r1, r2, r3⟩
    have hl : (loadVar 26 ⟨bv + 1, 0, none⟩).run Tryd.prog w' = .ok (.int .i64 er) w' := by
      have hc : w'.cell? ⟨bv + 1, 0, none⟩ = some (.int .i64 er) := by rw [r2.cell]; rfl
      simp [loadVar, go_sem, hc]
    have hr := results_two (P := Tryd.prog) (x := .int .i64 er) Tryd.results16 rowVal (rfl : valZ.size = 5) r1 h2 h3 hl
    simp only [settle]
    refine ⟨_, hr, ?_⟩
    unfold ReadPost
    exact .inl ⟨er, hX, rfl, hbv ▸ r3⟩
  go_upto_region 4 with (first
    | (go_at_call 22; refine hV.mono ?_; rintro e w5 hB; rcases hB with ⟨er, hX, rfl, hbe⟩ | ⟨cs, t, d, q, n', vo', hX, rfl, hpq, hq, h5, hx5, t5⟩)
    | ((with_reducible refine wpL_store bv 25 valZ cs.toArray 5 rowVal rfl (isVX_ones hx5).1 (isVX_ones hx5).2 (t5.lies (fun hk => by have := hcore _ hk; omega) lv) ?_ ?_ ?_); rfl; rfl))
  · refine hgo er valZ (.int .i64 0) w5 _ rfl rfl rfl (by unfold rdQ; rw [← hr0, hX]) (hba.trans (hbe.mono (by omega))) (lv.below hbe (by omega)) rfl (le.below hbe (by omega))
  · have hz := isVX_ones hx5
    have lv5 := (t5.lies (fun hk => by have := hcore _ hk; omega) lv).row cs.toArray
    have le5 := (t5.lies (fun hk => by have := hcore _ hk; omega) le).rowFar (by omega : bv + 1 ≠ bv) cs.toArray
    have lg5 := h5.rd.rowFar (by omega : bv + 1 + 1 ≠ bv) cs.toArray
    have hb5 := below_rowSet (hba.trans (t5.below (B := bv) (fun k hk => by have := hcore _ hk; omega) (by have := lg0.lt; omega))) (Nat.le_refl _) cs.toArray
    have tx : Turn (live (bv + 1 + 1) ((bv + 1) :: bv :: E0) vo' []) (live (bv + 1 + 1) ((bv + 1) :: bv :: E0) vo' []) w5 (w5.setRow bv cs.toArray) := Turn.of_grown (grown_row bv cs.toArray) (by unfold live; simp)
    have hx6 := hx5.turn tx
    generalize World.setRow _ _ _ = w6 at *
    have c1 := rd_c1 lg5
    by_cases hlt : q < s.size
    · have e1 : (q : Int) < (s.size : Int) := by omega
      go_wp2
      refine hgo 20 cs.toArray (.int .i64 0) w6 _ rfl rfl rfl ?_ hb5 lv5 hz.1 le5
      unfold rdQ
      rw [← hr0, hX, rest_cons hlt]
    · have e1 : ¬ (q : Int) < (s.size : Int) := by omega
      have hrq : rest s q = [] := by unfold rest; exact List.drop_eq_nil_of_le (by rw [show s.data.toList.length = s.size from rfl]; omega)
      have le6 := le5.rowFar (by omega : bv + 1 ≠ bv) cs.toArray
      have lv6 := lv5.row cs.toArray
      have q2 : (w6.setRow bv cs.toArray).cell? ⟨bv + 1, 0, none⟩ = some (.int .i64 0) := by rw [le6.cell]; rfl
      have f2 := le6.frozen 0
      go_wp2_with (first
        | ((with_reducible refine wpL_load bv 25 cs.toArray 5 rowVal hz.1 lv5 ?_ ?_); rfl)
        | ((with_reducible refine wpL_store bv 25 cs.toArray cs.toArray 5 rowVal hz.1 hz.1 hz.2 lv5 ?_ ?_ ?_); rfl; rfl))
      have tz : Turn (live (bv + 1 + 1) ((bv + 1) :: bv :: E0) vo' []) (live (bv + 1 + 1) ((bv + 1) :: bv :: E0) vo' []) w6 ((w6.setRow bv cs.toArray).setCell ⟨bv + 1, 0, none⟩ (.int .i64 0)) := (Turn.of_grown (grown_row bv cs.toArray) (by unfold live; simp)).trans (Turn.of_grown (g := bv + 1) (grown_set (bv + 1) (RowKit.Below.refl _ _) 0 _) (by unfold live; simp))
      have hx7 := hx6.turn tz
      have hb7 := (below_rowSet hb5 (Nat.le_refl _) cs.toArray).setCell (p := ⟨bv + 1, 0, none⟩) (by show bv ≤ bv + 1; omega) (.int .i64 0)
      have lv7 := lv6.far (p := ⟨bv + 1, 0, none⟩) (by show bv ≠ bv + 1; omega) (.int .i64 0)
      have le7 := le6.put 0 (.int .i64 0)
      generalize World.setCell _ _ _ = w7 at *
      have hc7 : w7.cell? ⟨bv + 1, 0, none⟩ = some (.int .i64 0) := by rw [le7.cell]; rfl
      refine leaves_cons (f := 21) (args := #[.pointer (some ⟨bv, 0, none⟩), .pointer (some ⟨bv + 1, 0, none⟩)]) (by simp) (by simp [go_sem]) ?_
      refine (catch_idle ⟨bv, 0, none⟩ ⟨bv + 1, 0, none⟩ _).mono ?_
      rintro e u' w' ⟨rfl, rfl, rfl⟩
      refine ⟨_, results_two (P := Tryd.prog) (x := .int .i64 0) Tryd.results16 rowVal hz.1 lv7 rfl rfl (by simp [loadVar, go_sem, hc7]), ?_⟩
      unfold ReadPost
      exact .inr ⟨cs, t, d, by unfold rdQ; rw [← hr0, hX, hrq], rfl, hx7.turn (X' := E0) ⟨rfl, rfl, rfl, Nat.le_refl _, fun _ _ _ => rfl, fun k hk => .inl (by unfold live; simp [hk])⟩, hbv ▸ hb7⟩
end Go.Proofs.YtmbmeidkmhajbaaDoor.V

/- Parse: what is too long is refused; what is read is handed back. -/
namespace Go.Proofs.YtmbmeidkmhajbaaDoor.V
set_option maxRecDepth 100000
open Go.RowKit Go.Sort Go.Joins

theorem results_ct {P : Program} {fn : Func} {p q : Tmp} {ty : TypeId} {n : Nat} {w : World} {g : Nat} {t : TypeId} {cs : Array Value} {tmps : Array Value} (h : fn.results = #[.cell p ty, .tmp q]) (hT : RowT P ty n) (hn : cs.size = n) (hg : Lies w g t cs) (hp : tmps.getD p undef = .pointer (some ⟨g, 0, none⟩)) :
    (results fn tmps).run P w = .ok (.tuple #[.agg cs, tmps.getD q undef]) w := by
  obtain ⟨⟨d, hu, hd⟩, hi⟩ := hT
  have hl1 := run_loadVar_row (P := P) w g t ty cs (0, 0) d hg hu (by cases d <;> first | rfl | simp [TypeDesc.isRow] at hd) (by rw [hi, hn])
  have hp' : tmps[p]?.getD undef = .pointer (some ⟨g, 0, none⟩) := by simpa using hp
  simp [results, h, hp', asAddr, hl1]
def ParsePost (w : World) (s : ByteArray) (e : Ending) (w' : World) : Prop :=
  (∃ er, rdP s.data.toList = .bad er ∧ e = .returned (.tuple #[.agg valZ, .int .i64 er]) ∧ RowKit.Below w.heap.size w w') ∨
  (∃ cs t d, rdP s.data.toList = .ok t [] ∧ e = .returned (.tuple #[.agg (List.toArray cs), .int .i64 0]) ∧ IsV w' d cs t ∧ RowKit.Below w.heap.size w w')
set_option maxHeartbeats 6400000 in
theorem parse_any (s : ByteArray) (w : World) (her : ErrAt w) :
    Calls Tryd.prog 6 #[.string s] w fun e w' => ParsePost w s e w' := by
  have hlen : s.data.toList.length = s.size := rfl
  by_cases hs : s.size ≤ 65536
  · have e1 : ¬ (65536 : Int) < (s.size : Int) := by omega
    go_enter Tryd.func6, Tryd.ntmps6
    go_upto_region 3 with fail
    have lv := Lies.new w 25 valZ
    have hba := (RowKit.Below.refl w.heap.size w).alloc (Nat.le_refl _) (.cells valZ 25)
    have her' := her.below hba
    generalize World.alloc w _ = wa at *
    obtain ⟨bv, hbv⟩ : ∃ b, w.heap.size = b := ⟨_, rfl⟩
    try rw [hbv]
    rw [hbv] at lv hba
    have hel := her.lt
    have HP := read_any [bv] s wa hs her' (fun b hb => by rw [List.mem_singleton.1 hb]; exact ⟨by omega, lv.lt⟩) (List.nodup_cons.2 ⟨List.not_mem_nil, List.nodup_nil⟩)
    go_wp2_with (first
      | (go_at_call 16; refine HP.mono ?_; rintro e w5 hB; rcases hB with ⟨er, hX, rfl, hb5⟩ | ⟨cs, t, d, hX, rfl, hx5, hb5⟩)
      | ((with_reducible refine wpL_store bv 25 valZ valZ 5 rowVal rfl rfl (valC_one _ _ _ _ _ _ _ _ _) (lv.on hb5) ?_ ?_ ?_); rfl; rfl)
      | ((with_reducible refine wpL_store bv 25 valZ cs.toArray 5 rowVal rfl (isVX_ones hx5).1 (isVX_ones hx5).2 (lv.on hb5) ?_ ?_ ?_); rfl; rfl))
    · have lv6 := (lv.on hb5).row valZ
      refine bodyPost_ret (results_ct Tryd.results6 rowVal rfl lv6 rfl) rfl ?_
      unfold ParsePost
      exact .inl ⟨er, by rw [rdP_Q (by omega), hX], rfl, by rw [hbv]; exact below_rowSet (hba.trans (hb5.mono (Nat.le_of_lt lv.lt))) (Nat.le_refl _) _⟩
    · have lv6 := (lv.on hb5).row cs.toArray
      have tz : Turn [bv] [bv] w5 (w5.setRow bv cs.toArray) := Turn.of_grown (grown_row bv cs.toArray) (by simp)
      refine bodyPost_ret (results_ct Tryd.results6 rowVal (isVX_ones hx5).1 lv6 rfl) rfl ?_
      unfold ParsePost
      refine .inr ⟨cs, t, d, by rw [rdP_Q (by omega), hX], rfl, (hx5.turn tz).isV, by rw [hbv]; exact below_rowSet (hba.trans (hb5.mono (Nat.le_of_lt lv.lt))) (Nat.le_refl _) _⟩
  · have e1 : (65536 : Int) < (s.size : Int) := by omega
    go_enter Tryd.func6, Tryd.ntmps6
    have lv := Lies.new w 25 valZ
    go_wp2_with ((with_reducible refine wpL_store w.heap.size 25 valZ valZ 5 rowVal rfl rfl (valC_one _ _ _ _ _ _ _ _ _) lv ?_ ?_ ?_); rfl; rfl)
    have lv6 := lv.row valZ
    refine bodyPost_ret (results_ct Tryd.results6 rowVal rfl lv6 rfl) rfl ?_
    unfold ParsePost
    exact .inl ⟨2, by unfold rdP; rw [if_pos (by omega)], rfl, below_rowSet ((RowKit.Below.refl w.heap.size w).alloc (Nat.le_refl _) _) (Nat.le_refl _) _⟩
section alive
open Go.RowKit Go.Sort Go.Joins

theorem parse_ok {s : List UInt8} {t : VT} (w : World) (her : ErrAt w) (h : rdP s = .ok t []) :
    Calls Tryd.prog 6 #[.string ⟨s.toArray⟩] w fun e w' => ∃ cs d, e = .returned (.tuple #[.agg (List.toArray cs), .int .i64 0]) ∧ IsV w' d cs t ∧ RowKit.Below w.heap.size w w' := by
  refine (parse_any ⟨s.toArray⟩ w her).mono ?_
  rintro e w' (⟨er', hX, _⟩ | ⟨cs, t', d, hX, rfl, hx, hb⟩)
  · rw [show (⟨s.toArray⟩ : ByteArray).data.toList = s from rfl, h] at hX
    cases hX
  · rw [show (⟨s.toArray⟩ : ByteArray).data.toList = s from rfl, h] at hX
    injection hX with e1
    subst e1
    exact ⟨cs, d, rfl, hx, hb⟩
def aT : VT := .mk 3 0 [] [.mk 1 1 [] [] [], .mk 2 0 [97] [] []] []
theorem aT_ok : aT.okB = true := by
  unfold VT.okB aT
  simp [count_eq, countL_cons, countL_nil, depth_eq, depthL_cons, depthL_nil, each_eq, eachL_cons, eachL_nil, oneB, textOk, keysOk_nil]
theorem aT_wr : aT.wr = [91, 49, 44, 34, 97, 34, 93] := by
  unfold aT
  have e : Lib.itoa 1 = [49] := by
    unfold Lib.itoa
    rw [if_neg (by decide), Lib.decDigits_one (by decide)]
    rfl
  simp [wr_eq, wrL_cons, wrL_nil, e, quotL, escL]
theorem aT_rd : rdP [91, 49, 44, 34, 97, 34, 93] = .ok aT [] := by
  have := rdP_wr aT_ok (by rw [aT_wr]; decide)
  rwa [aT_wr] at this
theorem aT_at {w : World} {d : Nat} {cs : List Value} (h : IsV w d cs aT) : ∃ b off ci ak ck, cs = [.int .i64 3, .int .i64 0, .string ⟨#[]⟩, .slice (some ⟨b, off, none⟩) 2 ci, .slice ak 0 ck] ∧ w.cell? ⟨b, off + 7, none⟩ = some (.string ⟨#[97]⟩) ∧ 2 ≤ ci ∧ ci ≤ maxLen := by
  cases d with
  | zero => exact h.elim
  | succ d =>
    obtain ⟨ai, ci, ak, ck, hcs⟩ := h.form
    obtain ⟨vi, vk, rfl, _, _, a', c', rfl, hm, hm2, _, hl⟩ := h
    simp only [List.cons.injEq, and_true] at hcs
    obtain ⟨_, _, _, e1, rfl⟩ := hcs
    injection e1 with e1 e2 e3
    subst e1 e3
    obtain ⟨b, off, rfl, hx⟩ := hl (by decide)
    obtain ⟨cs2, _, hr, x, hx1, hx2⟩ := hx 1 (by decide)
    obtain rfl : (.mk 2 0 [97] [] [] : VT) = x := Option.some.inj (show some (.mk 2 0 [97] [] [] : VT) = some x from hx1)
    obtain ⟨a2, c2, a3, c3, rfl⟩ := hx2.form
    exact ⟨b, off, _, ak, ck, rfl, hr 2 _ rfl, hm, hm2⟩
set_option maxHeartbeats 3200000 in
theorem alive12_any (W : World) (her : ErrAt W) :
    Calls Tryd.prog 8 #[] W fun e w' => e = .returned (.bool true) ∧ Below W.heap.size W w' := by
  have HP := parse_ok W her aT_rd
  go_enter Tryd.func8, Tryd.ntmps8
  go_upto_region 2 with (first
    | (go_at_call 6; refine HP.mono ?_; rintro e w1 ⟨cs, d, rfl, hx, hb1⟩; obtain ⟨b, off, ci, ak, ck, rfl, hc7, hci, hcm⟩ := aT_at hx)
    | ((with_reducible refine wpL_store w1.heap.size 25 valZ #[.int .i64 3, .int .i64 0, .string ⟨#[]⟩, .slice (some ⟨b, off, none⟩) 2 ci, .slice ak 0 ck] 5 rowVal rfl rfl (valC_one _ _ _ _ _ _ _ _ _) (Lies.new w1 _ _) ?_ ?_ ?_); rfl; rfl))
  have hb3 := (hb1.alloc hb1.size (.cells valZ 25))
  have hb4 := below_rowSet hb3 hb1.size #[.int .i64 3, .int .i64 0, .string ⟨#[]⟩, .slice (some ⟨b, off, none⟩) 2 ci, .slice ak 0 ck]
  have lv := (Lies.new w1 25 valZ).row #[.int .i64 3, .int .i64 0, .string ⟨#[]⟩, .slice (some ⟨b, off, none⟩) 2 ci, .slice ak 0 ck]
  have hz := below_rowSet ((RowKit.Below.refl w1.heap.size w1).alloc (Nat.le_refl _) (.cells valZ 25)) (Nat.le_refl _) #[.int .i64 3, .int .i64 0, .string ⟨#[]⟩, .slice (some ⟨b, off, none⟩) 2 ci, .slice ak 0 ck]
  have hc8 := (hz.cell (p := ⟨b, off + 7, none⟩) (World.block_lt_of_cell? w1 _ hc7)).trans hc7
  generalize World.setRow _ _ _ = w2 at *
  generalize w1.heap.size = bv at *
  have q0 := lv.cell 0
  have q3 := lv.cell 3
  simp only [List.getElem?_toArray, List.getElem?_cons_succ, List.getElem?_cons_zero] at q0 q3
  go_wp2
  go_ret
  exact ⟨rfl, hb4⟩
end alive
end Go.Proofs.YtmbmeidkmhajbaaDoor.V

/- Getting by a key: value.Get, and parse.Field. -/
namespace Go.Proofs.YtmbmeidkmhajbaaDoor.V
open Go.RowKit Go.Sort Go.Joins
set_option maxRecDepth 100000

def zeroT : VT := .mk 0 0 [] [] []
theorem isV_zero (w : World) (d : Nat) : IsV w (d + 1) [.int .i64 0, .int .i64 0, .string ⟨#[]⟩, .slice none 0 0, .slice none 0 0] zeroT :=
  isV_make (s := []) (RowL.nil w 5) rfl (fun i cs h => by simp at h) (Strs.nil w) ⟨(show -9223372036854775808 ≤ (0 : Int) ∧ (0 : Int) ≤ 9223372036854775807 by decide), (show -9223372036854775808 ≤ (0 : Int) ∧ (0 : Int) ≤ 9223372036854775807 by decide), Nat.zero_le _, fun x hx => by cases hx⟩
theorem isV_onesG {w : World} {d : Nat} {cs : List Value} {t : VT} (h : IsV w d cs t) : cs.toArray.size = 5 ∧ Ones cs.toArray := by
  obtain ⟨ai, ci, ak, ck, hcs⟩ := h.form
  rw [hcs]
  exact ⟨rfl, valC_one _ _ _ _ _ _ _ _ _⟩
theorem results_ctG {P : Program} {fn : Func} {p q : Tmp} {ty : TypeId} {n : Nat} {w : World} {g : Nat} {t : TypeId} {cs : Array Value} {tmps : Array Value} (h : fn.results = #[.cell p ty, .tmp q]) (hT : RowT P ty n) (hn : cs.size = n) (hg : Lies w g t cs) (hp : tmps.getD p undef = .pointer (some ⟨g, 0, none⟩)) :
    (results fn tmps).run P w = .ok (.tuple #[.agg cs, tmps.getD q undef]) w := by
  obtain ⟨⟨d, hu, hd⟩, hi⟩ := hT
  have hl1 := run_loadVar_row (P := P) w g t ty cs (0, 0) d hg hu (by cases d <;> first | rfl | simp [TypeDesc.isRow] at hd) (by rw [hi, hn])
  have hp' : tmps[p]?.getD undef = .pointer (some ⟨g, 0, none⟩) := by simpa using hp
  simp [results, h, hp', asAddr, hl1]
end Go.Proofs.YtmbmeidkmhajbaaDoor.V

/- The reference's Same. -/
namespace Go.Proofs.YtmbmeidkmhajbaaDoor.V
open Go.RowKit Go.Sort Go.Joins
set_option maxRecDepth 100000

noncomputable instance : DecidableEq VT := fun a b => Classical.propDecidable (a = b)
theorem vt_ne {k n : Int} {s : List UInt8} {l : List VT} {ks : List (List UInt8)} {k' n' : Int} {s' : List UInt8} {l' : List VT} {ks' : List (List UInt8)} (h : ¬ (k = k' ∧ n = n' ∧ s = s' ∧ l = l' ∧ ks = ks')) : decide (VT.mk k n s l ks = VT.mk k' n' s' l' ks') = false :=
  decide_eq_false (fun e => h (by injection e with e1 e2 e3 e4 e5; exact ⟨e1, e2, e3, e4, e5⟩))
set_option maxHeartbeats 3200000 in
theorem refSame_any : ∀ (d : Nat) (cs cs' : List Value) (t u : VT) (w : World), IsV w d cs t → IsV w d cs' u →
    Calls Tryd.prog 9 #[.agg cs.toArray, .agg cs'.toArray] w fun e w' => e = .returned (.bool (decide (t = u))) ∧ Below w.heap.size w w' := by
  intro d
  induction d with
  | zero => intro cs cs' t u w h; exact h.elim
  | succ d ih =>
    intro cs cs' t u W h h'
    obtain ⟨vi, vk, rfl, _, hks, a, c, rfl, hc, hm, _, hx⟩ := h
    obtain ⟨vi', vk', rfl, _, hks', a', c', rfl, hc', hm', _, hx'⟩ := h'
    obtain ⟨ka, kc, rfl, hkc, hkm, _, hkx⟩ := hks
    obtain ⟨ka', kc', rfl, hkc', hkm', _, hkx'⟩ := hks'
    obtain ⟨k, n, s, l, ks⟩ := t
    obtain ⟨k', n', s', l', ks'⟩ := u
    have HI := Lib.hid ih
    have HX := Lib.hid hx
    have HX' := Lib.hid hx'
    have HK := Lib.hid hkx
    have HK' := Lib.hid hkx'
    simp only [VT.items, VT.kind, VT.num, VT.txt, VT.keys, str] at *
    clear ih hx hx' hkx hkx'
    unfold maxLen at hm hm' hkm hkm'
    have hbW := ((Below.refl W.heap.size W).alloc (Nat.le_refl _) (.cells #[.int .i64 k, .int .i64 n, .string ⟨s.toArray⟩, .slice a l.length c, .slice ka ks.length kc] 25)).alloc (by simp) (.cells #[.int .i64 k', .int .i64 n', .string ⟨s'.toArray⟩, .slice a' l'.length c', .slice ka' ks'.length kc'] 25)
    by_cases hk : k = k'
    case neg =>
      rw [vt_ne (fun h => hk h.1)]
      have h1 : (k != k') = true := by simpa using hk
      go_enter Tryd.func9, Tryd.ntmps9
      go_wp2
      go_ret
      exact ⟨rfl, hbW⟩
    subst hk
    by_cases hn : n = n'
    case neg =>
      rw [vt_ne (fun h => hn h.2.1)]
      have h1 : (n != n') = true := by simpa using hn
      go_enter Tryd.func9, Tryd.ntmps9
      go_wp2
      go_ret
      exact ⟨rfl, hbW⟩
    subst hn
    by_cases hs : s = s'
    case neg =>
      rw [vt_ne (fun h => hs h.2.2.1)]
      have h0 := hs
      go_enter Tryd.func9, Tryd.ntmps9
      go_wp2
      go_ret
      exact ⟨rfl, hbW⟩
    subst hs
    by_cases hl : l.length = l'.length
    case neg =>
      rw [vt_ne (fun h => hl (by rw [h.2.2.2.1]))]
      have h1 : ((l.length : Int) != (l'.length : Int)) = true := bne_iff_ne.2 (by omega)
      go_enter Tryd.func9, Tryd.ntmps9
      go_wp2
      go_ret
      exact ⟨rfl, hbW⟩
    by_cases hkl : ks.length = ks'.length
    case neg =>
      rw [vt_ne (fun h => hkl (by rw [h.2.2.2.2]))]
      have h1 : ((l.length : Int) != (l'.length : Int)) = false := by rw [hl]; exact bne_self_eq_false _
      have HL := Lib.hid hl
      clear hl
      have h2 : ((ks.length : Int) != (ks'.length : Int)) = true := bne_iff_ne.2 (by omega)
      go_enter Tryd.func9, Tryd.ntmps9
      go_wp2
      go_ret
      exact ⟨rfl, hbW⟩
    have h1 : ((l.length : Int) != (l'.length : Int)) = false := by rw [hl]; exact bne_self_eq_false _
    have h2 : ((ks.length : Int) != (ks'.length : Int)) = false := by rw [hkl]; exact bne_self_eq_false _
    have HL := Lib.hid hl
    have HKL := Lib.hid hkl
    clear hl hkl
    have lA0 : Lies ((W.alloc (.cells #[.int .i64 k, .int .i64 n, .string ⟨s.toArray⟩, .slice a l.length c, .slice ka ks.length kc] 25)).alloc (.cells #[.int .i64 k, .int .i64 n, .string ⟨s.toArray⟩, .slice a' l'.length c', .slice ka' ks'.length kc'] 25)) W.heap.size 25 #[.int .i64 k, .int .i64 n, .string ⟨s.toArray⟩, .slice a l.length c, .slice ka ks.length kc] := (Lies.new W _ _).alloc _
    have lB0 : Lies ((W.alloc (.cells #[.int .i64 k, .int .i64 n, .string ⟨s.toArray⟩, .slice a l.length c, .slice ka ks.length kc] 25)).alloc (.cells #[.int .i64 k, .int .i64 n, .string ⟨s.toArray⟩, .slice a' l'.length c', .slice ka' ks'.length kc'] 25)) (W.heap.size + 1) 25 #[.int .i64 k, .int .i64 n, .string ⟨s.toArray⟩, .slice a' l'.length c', .slice ka' ks'.length kc'] := by
      have := Lies.new (W.alloc (.cells #[.int .i64 k, .int .i64 n, .string ⟨s.toArray⟩, .slice a l.length c, .slice ka ks.length kc] 25)) 25 #[.int .i64 k, .int .i64 n, .string ⟨s.toArray⟩, .slice a' l'.length c', .slice ka' ks'.length kc']
      simpa using this
    go_enter Tryd.func9, Tryd.ntmps9
    go_wp2
    go_loopw [47] (fun iv wr => ∃ (j : Nat), iv = .int .i64 j ∧ j ≤ ks.length ∧ Hid (ks.take j = ks'.take j) ∧ Below W.heap.size W wr ∧ Lies wr W.heap.size 25 #[.int .i64 k, .int .i64 n, .string ⟨s.toArray⟩, .slice a l.length c, .slice ka ks.length kc] ∧ Lies wr (W.heap.size + 1) 25 #[.int .i64 k, .int .i64 n, .string ⟨s.toArray⟩, .slice a' l'.length c', .slice ka' ks'.length kc']) (fun iv _ => ks.length - (intOf iv).toNat)
    case atStart => exact ⟨0, rfl, by omega, Lib.hid rfl, hbW, lA0, lB0⟩
    case round =>
      clear lA0 lB0 hbW
      obtain ⟨j, rfl, hj, HS, hb, lA, lB⟩ := hrel
      by_cases hlt : j < ks.length
      · have hlt' : j < ks'.length := by rw [← HKL.out]; exact hlt
        obtain ⟨b, off, rfl, hkx⟩ := HK.out (by intro h; rw [h] at hlt; simp at hlt)
        obtain ⟨b', off', rfl, hkx'⟩ := HK'.out (by intro h; rw [h] at hlt'; simp at hlt')
        obtain ⟨x, hxi⟩ : ∃ x, ks[j]? = some x := ⟨ks[j], List.getElem?_eq_getElem hlt⟩
        obtain ⟨y, hyi⟩ : ∃ y, ks'[j]? = some y := ⟨ks'[j], List.getElem?_eq_getElem hlt'⟩
        have g1 := hkx j x hxi
        have g2 := hkx' j y hyi
        have c1 := (hb.cell (p := ⟨b, off + j, none⟩) (World.block_lt_of_cell? W _ g1)).trans g1
        have c2 := (hb.cell (p := ⟨b', off' + j, none⟩) (World.block_lt_of_cell? W _ g2)).trans g2
        have q1 := lA.cell 4
        have q2 := lB.cell 4
        simp only [List.getElem?_toArray, List.getElem?_cons_succ, List.getElem?_cons_zero] at q1 q2
        have hjl : (j : Int) < (ks'.length : Int) := by omega
        clear hkx hkx' g1 g2 HK HK' HX HX' HI
        by_cases hxy : x = y
        · subst hxy
          have HS2 := Lib.hid (show ks.take (j + 1) = ks'.take (j + 1) by
            rw [List.take_succ_eq_append_getElem hlt, List.take_succ_eq_append_getElem hlt', HS.out, (List.getElem?_eq_some_iff.1 hxi).2, (List.getElem?_eq_some_iff.1 hyi).2])
          clear hxi hyi HS
          have u1 := cell_regrown c1
          have u2 := cell_regrown c2
          have o1 := cell_regrown q1
          have o2 := cell_regrown q2
          clear c1 c2 q1 q2
          go_wp2
          refine wp_region_quiet_below (by kernel_rfl) (by kernel_rfl) ?_
          repeat (go_big_quiet_step (fail))
          refine wpQuiet_nil ?_
          intro _ hw'
          obtain ⟨⟨dq, osq⟩, hw''⟩ := hw'
          subst hw''
          have hb2 := below_regrown wr dq osq
          go_wp2
          go_roundw
          case rel => exact ⟨j + 1, by go_num, by omega, HS2, on_below hb hb2 hb.size, lA.on hb2, lB.on hb2⟩
          case measure => simp [intOf]; omega
        · have hr := Lib.hid (vt_ne (k := k) (n := n) (s := s) (l := l) (ks := ks) (k' := k) (n' := n) (s' := s) (l' := l') (ks' := ks') (fun h => hxy (by
            have h := h.2.2.2.2
            rw [h, hyi] at hxi
            exact (Option.some.inj hxi).symm)))
          clear hxi hyi HS
          have u1 := cell_regrown c1
          have u2 := cell_regrown c2
          have o1 := cell_regrown q1
          have o2 := cell_regrown q2
          clear c1 c2 q1 q2
          go_wp2
          refine wp_region_quiet_below (by kernel_rfl) (by kernel_rfl) ?_
          repeat (go_big_quiet_step (fail))
          refine wpQuiet_nil ?_
          intro _ hw'
          obtain ⟨⟨dq, osq⟩, hw''⟩ := hw'
          subst hw''
          have hb2 := below_regrown wr dq osq
          go_wp2
          · go_ret
            exact ⟨ret1_of (by rw [hr.out]; rfl), on_below hb hb2 hb.size⟩
          · rename_i hh
            exact absurd (by simpa using hh) hxy
      · have HE := Lib.hid (show ks = ks' by
          have := HS.out
          rwa [List.take_of_length_le (by omega), List.take_of_length_le (by have := HKL.out; omega)] at this)
        clear HS HK HK'
        have q1 := lA.cell 3
        simp only [List.getElem?_toArray, List.getElem?_cons_succ, List.getElem?_cons_zero] at q1
        go_wp2
        go_loopw [65] (fun iv wr => ∃ (j : Nat), iv = .int .i64 j ∧ j ≤ l.length ∧ Hid (l.take j = l'.take j) ∧ Below W.heap.size W wr ∧ Lies wr W.heap.size 25 #[.int .i64 k, .int .i64 n, .string ⟨s.toArray⟩, .slice a l.length c, .slice ka ks.length kc] ∧ Lies wr (W.heap.size + 1) 25 #[.int .i64 k, .int .i64 n, .string ⟨s.toArray⟩, .slice a' l'.length c', .slice ka' ks'.length kc']) (fun iv _ => l.length - (intOf iv).toNat)
        case atStart => exact ⟨0, rfl, by omega, Lib.hid rfl, hb, lA, lB⟩
        case round =>
          clear lA lB hb q1
          obtain ⟨i, rfl, hi, HS, hb, lA, lB⟩ := hrel
          by_cases hlt : i < l.length
          · have hlt' : i < l'.length := by rw [← HL.out]; exact hlt
            obtain ⟨b, off, rfl, hx⟩ := HX.out (by omega)
            obtain ⟨b', off', rfl, hx'⟩ := HX'.out (by omega)
            obtain ⟨cs1, hlen1, hr1, x, hxi, hv1⟩ := hx i hlt
            obtain ⟨cs2, hlen2, hr2, y, hyi, hv2⟩ := hx' i hlt'
            obtain ⟨ai, ci, ak, ck, rfl⟩ := hv1.form
            obtain ⟨ai', ci', ak', ck', rfl⟩ := hv2.form
            obtain ⟨m0, m1, m2, m3, m4⟩ := range5 (range_below hb hr1)
            obtain ⟨p0, p1, p2, p3, p4⟩ := range5 (range_below hb hr2)
            have hv1 := hv1.below hb
            have hv2 := hv2.below hb
            have q1 := lA.cell 3
            have q2 := lB.cell 3
            simp only [List.getElem?_toArray, List.getElem?_cons_succ, List.getElem?_cons_zero] at q1 q2
            have hjl : (i : Int) < (l'.length : Int) := by omega
            have HC := Lib.hid (fun (w1 : World) (hb1 : Below wr.heap.size wr w1) => HI.out _ _ x y w1 (hv1.below hb1) (hv2.below hb1))
            clear hx hx' hr1 hr2 HX HX' HI hv1 hv2 hlen1 hlen2
            have HC := fun (w1 : World) (hb1 : Below wr.heap.size wr w1) => HC.out w1 hb1
            by_cases hxy : x = y
            · have HS2 := Lib.hid (show l.take (i + 1) = l'.take (i + 1) by
                rw [List.take_succ_eq_append_getElem hlt, List.take_succ_eq_append_getElem hlt', HS.out, (List.getElem?_eq_some_iff.1 hxi).2, (List.getElem?_eq_some_iff.1 hyi).2, hxy])
              have hd : decide (x = y) = true := decide_eq_true hxy
              rw [hd] at HC
              clear hxi hyi HS hxy hd
              have cS := Lib.hid (reg HC)
              have u0 := cell_regrown m0
              have u1 := cell_regrown m1
              have u2 := cell_regrown m2
              have u3 := cell_regrown m3
              have u4 := cell_regrown m4
              have v0 := cell_regrown p0
              have v1 := cell_regrown p1
              have v2 := cell_regrown p2
              have v3 := cell_regrown p3
              have v4 := cell_regrown p4
              have o1 := cell_regrown q1
              have o2 := cell_regrown q2
              clear m0 m1 m2 m3 m4 p0 p1 p2 p3 p4 q1 q2
              go_wp2
              refine wp_region_quiet_below (by kernel_rfl) (by kernel_rfl) ?_
              repeat (go_big_quiet_step (exact cS.out _ _))
              refine wpQuiet_nil ?_
              intro _ hw'
              obtain ⟨⟨dq, osq⟩, hw''⟩ := hw'
              subst hw''
              have hb2 := below_regrown wr dq osq
              go_wp2
              go_roundw
              case rel => exact ⟨i + 1, by go_num, by omega, HS2, on_below hb hb2 hb.size, lA.on hb2, lB.on hb2⟩
              case measure => simp [intOf]; omega
            · have hr := Lib.hid (vt_ne (k := k) (n := n) (s := s) (l := l) (ks := ks) (k' := k) (n' := n) (s' := s) (l' := l') (ks' := ks') (fun h => hxy (by
                have h := h.2.2.2.1
                rw [h, hyi] at hxi
                exact (Option.some.inj hxi).symm)))
              have hd : decide (x = y) = false := decide_eq_false hxy
              rw [hd] at HC
              clear hxi hyi HS hxy hd
              have cS := Lib.hid (reg HC)
              have u0 := cell_regrown m0
              have u1 := cell_regrown m1
              have u2 := cell_regrown m2
              have u3 := cell_regrown m3
              have u4 := cell_regrown m4
              have v0 := cell_regrown p0
              have v1 := cell_regrown p1
              have v2 := cell_regrown p2
              have v3 := cell_regrown p3
              have v4 := cell_regrown p4
              have o1 := cell_regrown q1
              have o2 := cell_regrown q2
              clear m0 m1 m2 m3 m4 p0 p1 p2 p3 p4 q1 q2
              go_wp2
              refine wp_region_quiet_below (by kernel_rfl) (by kernel_rfl) ?_
              repeat (go_big_quiet_step (exact cS.out _ _))
              refine wpQuiet_nil ?_
              intro _ hw'
              obtain ⟨⟨dq, osq⟩, hw''⟩ := hw'
              subst hw''
              have hb2 := below_regrown wr dq osq
              go_wp2
              go_ret
              exact ⟨ret1_of (by rw [hr.out]; rfl), on_below hb hb2 hb.size⟩
          · have hr := Lib.hid (show decide (VT.mk k n s l ks = VT.mk k n s l' ks') = true from decide_eq_true (by
              have := HS.out
              rw [List.take_of_length_le (by omega), List.take_of_length_le (by have := HL.out; omega)] at this
              rw [this, HE.out]))
            clear HX HX' HI HS HE
            go_wp2
            go_ret
            exact ⟨ret1_of (by rw [hr.out]; rfl), hb⟩
end Go.Proofs.YtmbmeidkmhajbaaDoor.V

/- The statement ParseReads, walked, given the reference's Parse. -/
namespace Go.Proofs.YtmbmeidkmhajbaaDoor.V
open Go.RowKit Go.Sort Go.Joins
set_option maxRecDepth 100000

def resT : Rd VT → VT
  | .ok t _ => t
  | .bad _ => zeroT
def resE : Rd VT → Int
  | .ok _ _ => 0
  | .bad e => e
/-- what a reader of whole texts comes to -/
def ResPost (w : World) (s : List UInt8) (e : Ending) (w' : World) : Prop := ∃ cs d, e = .returned (.tuple #[.agg (List.toArray cs), .int .i64 (resE (rdP s))]) ∧ IsV w' d cs (resT (rdP s)) ∧ RowKit.Below w.heap.size w w'
theorem parse_res (s : List UInt8) (w : World) (her : ErrAt w) : Calls Tryd.prog 6 #[.string ⟨s.toArray⟩] w fun e w' => ResPost w s e w' := by
  refine (parse_any ⟨s.toArray⟩ w her).mono ?_
  rintro e w' (⟨er', hX, rfl, hb⟩ | ⟨cs, t', d, hX, rfl, hx, hb⟩)
  · rw [show (⟨s.toArray⟩ : ByteArray).data.toList = s from rfl] at hX
    unfold ResPost
    rw [hX]
    exact ⟨[.int .i64 0, .int .i64 0, .string ⟨#[]⟩, .slice none 0 0, .slice none 0 0], 1, rfl, isV_zero w' 0, hb⟩
  · rw [show (⟨s.toArray⟩ : ByteArray).data.toList = s from rfl] at hX
    unfold ResPost
    rw [hX]
    exact ⟨cs, d, rfl, hx, hb⟩
theorem extrR (x : List UInt8) (k : Nat) (z : Int) (hz : z = (k : Int)) : (⟨x.toArray⟩ : ByteArray).extract 0 (min (x.length : Int) z).toNat = ⟨(x.take k).toArray⟩ := by
  subst hz
  have hm : (min (x.length : Int) (k : Int)).toNat = min x.length k := by omega
  have he : ∀ k : Nat, (⟨x.toArray⟩ : ByteArray).extract 0 k = ⟨(x.take k).toArray⟩ := fun k => by
    apply ByteArray.ext
    apply Array.ext'
    simp [ByteArray.data_extract]
  rw [he, hm]
  congr 2
  rw [List.take_eq_take_iff]
  omega
set_option maxHeartbeats 12800000 in
theorem reads_walk (HR : ∀ (s : List UInt8) (w : World), s.length ≤ 66000 → Calls Tryd.prog 7 #[.string ⟨s.toArray⟩] w fun e w' => ResPost w s e w') (x : List UInt8) (W : World) (her : ErrAt W) :
    Calls Tryd.prog 3 #[.string ⟨x.toArray⟩] W fun e w' => e = .returned (.bool true) ∧ Below W.heap.size W w' := by
  have hsl := extrR x 66000 66000 rfl
  have hll : (x.take 66000).length ≤ 66000 := by rw [List.length_take]; omega
  have HAl := Lib.hid (fun (w1 : World) (hb : Below W.heap.size W w1) => alive12_any w1 (her.below hb))
  generalize x.take 66000 = l at *
  have HP := Lib.hid (fun (w : World) (h : ErrAt w) => parse_res l w h)
  have HQ := Lib.hid (fun (w : World) => HR l w hll)
  clear HR hll
  have hb := RowKit.Below.refl W.heap.size W
  go_enter Tryd.func3, Tryd.ntmps3
  go_upto_region 3 with (first
    | (go_at_call 6; refine (HP.out _ (her.below hb)).mono ?_; rintro e w1 ⟨cs1, d1, rfl, hx1, hb1⟩; replace hb := below_on hb hb1)
    | ((with_reducible refine wpL_store w1.heap.size 25 valZ cs1.toArray 5 rowVal rfl (isV_onesG hx1).1 (isV_onesG hx1).2 (Lies.new w1 _ _) ?_ ?_ ?_); rfl; rfl))
  have hbX := below_rowSet (hb.alloc hb.size (.cells valZ 25)) hb.size cs1.toArray
  have hbY := below_rowSet ((RowKit.Below.refl w1.heap.size w1).alloc (Nat.le_refl _) (.cells valZ 25)) (Nat.le_refl _) cs1.toArray
  have lA := (Lies.new w1 25 valZ).row cs1.toArray
  have hx2 := hx1.below hbY
  clear hb hb1 hx1 hbY
  generalize World.setRow _ _ _ = w2 at *
  generalize w1.heap.size = b2 at *
  go_upto_region 4 with (first
    | (go_at_call 7; refine (HQ.out _).mono ?_; rintro e w3 ⟨cs3, d3, rfl, hx3, hb3⟩; replace lA := lA.on hb3; replace hx2 := hx2.below hb3; replace hbX := below_on hbX hb3)
    | ((with_reducible refine wpL_store w3.heap.size 25 valZ cs3.toArray 5 rowVal rfl (isV_onesG hx3).1 (isV_onesG hx3).2 (Lies.new w3 _ _) ?_ ?_ ?_); rfl; rfl))
  have hbZ := below_rowSet (hbX.alloc hbX.size (.cells valZ 25)) hbX.size cs3.toArray
  have hbY := below_rowSet ((RowKit.Below.refl w3.heap.size w3).alloc (Nat.le_refl _) (.cells valZ 25)) (Nat.le_refl _) cs3.toArray
  have lB := (Lies.new w3 25 valZ).row cs3.toArray
  replace lA := lA.on hbY
  replace hx2 := hx2.below hbY
  have hx4 := hx3.below hbY
  clear hbX hb3 hx3 hbY
  generalize World.setRow _ _ _ = w4 at *
  generalize w3.heap.size = b4 at *
  have HSm := Lib.hid (fun (w5 : World) (h5 : RowKit.Below w4.heap.size w4 w5) => refSame_any (max d1 d3) cs1 cs3 _ _ w5 ((hx2.below h5).mono (Nat.le_max_left _ _)) ((hx4.below h5).mono (Nat.le_max_right _ _)))
  rw [decide_eq_true rfl] at HSm
  obtain ⟨ai, ci, ak, ck, hcs⟩ := hx2.form
  obtain ⟨ai2, ci2, ak2, ck2, hcs2⟩ := hx4.form
  rw [hcs, hcs2] at HSm
  rw [hcs] at lA
  rw [hcs2] at lB
  clear hcs hcs2 hx2 hx4
  generalize resE (rdP l) = er at *
  go_wp2_with (first
    | (go_at_call 8; refine (HAl.out _ hbZ).mono ?_; rintro e w5 ⟨rfl, hb5⟩; replace hbZ := below_on hbZ hb5; replace lA := lA.on hb5; replace lB := lB.on hb5; have q0 := lA.cell 0; have q1 := lA.cell 1; have q2 := lA.cell 2; have q3 := lA.cell 3; have q4 := lA.cell 4; have p0 := lB.cell 0; have p1 := lB.cell 1; have p2 := lB.cell 2; have p3 := lB.cell 3; have p4 := lB.cell 4; simp only [List.getElem?_toArray, List.getElem?_cons_succ, List.getElem?_cons_zero] at q0 q1 q2 q3 q4 p0 p1 p2 p3 p4)
    | (go_at_call 9; refine (HSm.out _ hb5).mono ?_; rintro e wS ⟨rfl, hbS⟩; replace hbZ := below_on hbZ hbS))
  go_ret
  exact ⟨rfl, hbZ⟩
end Go.Proofs.YtmbmeidkmhajbaaDoor.V

/- The reference's text in quotes. -/
namespace Go.Proofs.YtmbmeidkmhajbaaDoor.V
set_option maxRecDepth 100000
open Go.RowKit Go.Sort Go.Joins

theorem rowTT : RowT Tryd.prog 45 8 := ⟨⟨_, Tryd.underlying45, rfl⟩, by kernel_rfl⟩
abbrev tZ : Array Value := #[.int .i64 0, .int .i64 0, .string ⟨#[]⟩, .slice none 0 0, .slice none 0 0, .int .i64 0, .int .i64 0, .int .i64 0]
theorem tC_one (k n : Int) (s : ByteArray) (ai : Option Addr) (li ci : Nat) (ak : Option Addr) (lk ck : Nat) (a b c : Int) : Ones #[.int .i64 k, .int .i64 n, .string s, .slice ai li ci, .slice ak lk ck, .int .i64 a, .int .i64 b, .int .i64 c] := by unfold Ones; simp [Value.oneCell']
theorem own_new {w : World} {B : Nat} {e : TypeId} {k n m cap g H : Nat} {v : Value} {xs : List Value} {b : Nat} (h : v.ownBlock = some g ∨ g = H) (_ : w.ownsRow B e k v n xs) (hb : v.ownBlock ≠ some b) (hH : b < H) : (Value.slice (some ⟨g, 0, none⟩) m cap).ownBlock ≠ some b := by
  intro e
  have : g = b := by simpa [Value.ownBlock] using e
  rcases h with h | h
  · exact hb (by rw [h, this])
  · omega
theorem below_grownR {B : Nat} {a w w' : World} {r : Option Nat} (h : RowKit.Below B a w) (hB : B ≤ w.heap.size) (k : w.grownBy w' r) (hr : ∀ j, r = some j → B ≤ j) : RowKit.Below B a w' :=
  h.trans ⟨k.os, k.tape, k.output, k.size, fun i hi => k.block i (by omega) (fun e => by have := hr i e.symm; omega)⟩
/-- what the reference's text comes to, from the place behind its quote on -/
def RTxtPost (w : World) (s : ByteArray) (p : Nat) (e : Ending) (w' : World) : Prop := RowKit.Below w.heap.size w w' ∧
  ((∃ er : Int, rdT 0 (rest s p) = .bad er ∧ e = .returned (.agg #[.int .i64 0, .int .i64 0, .string ⟨#[]⟩, .slice none 0 0, .slice none 0 0, .int .i64 0, .int .i64 0, .int .i64 er])) ∨ (∃ k q, rdT 0 (rest s p) = .ok k (rest s q) ∧ e = .returned (.agg #[.int .i64 0, .int .i64 0, .string ⟨k.toArray⟩, .slice none 0 0, .slice none 0 0, .int .i64 (q : Int), .int .i64 0, .int .i64 0]) ∧ p < q ∧ q ≤ s.size))
set_option maxHeartbeats 12800000 in
theorem refTxt_any (w : World) (s : ByteArray) (p : Nat) (hp : p ≤ s.size) (hs : s.size ≤ 70000) :
    Calls Tryd.prog 25 #[.string s, .int .i64 (p : Int)] w fun e w' => RTxtPost w s p e w' := by
  obtain ⟨i0, hi, hz0, hz1, hz2⟩ := info_parts info5
  obtain ⟨bT, hbT⟩ : ∃ b, w.heap.size = b := ⟨_, rfl⟩
  have lT0 := Lies.new w 45 tZ
  have hba := (RowKit.Below.refl w.heap.size w).alloc (Nat.le_refl _) (.cells tZ 45)
  have hO0 := World.ownsRow_made (w.alloc (.cells tZ 45)) (base := w.heap.size) (e := 5) (size := 1) #[] 0 (by simp) (Nat.zero_le _) (by simp)
  have hbb := (RowKit.Below.refl _ (w.alloc (.cells tZ 45))).alloc (Nat.le_refl _) (.cells #[] 5)
  have lT1 := lT0.on hbb
  have hs1 : (w.alloc (.cells tZ 45)).heap.size = bT + 1 := by simp [hbT]
  rw [hs1] at hO0
  rw [hbT] at lT0 lT1
  go_enter Tryd.func25, Tryd.ntmps25
  go_wp2_with fail
  trace_state
  go_loopw [1, 5, 6] (fun av o _ wr => ∃ (q : Nat) (acc : List UInt8), av = .int .i64 (q : Int) ∧ p ≤ q ∧ q ≤ s.size ∧ Hid (rdT 0 (rest s p) = (rdT acc.length (rest s q)).map (acc ++ ·)) ∧ acc.length ≤ 4000 ∧ wr.ownsRow w.heap.size 5 1 o acc.length (Lib.byteCells acc) ∧ Lies wr bT 45 tZ ∧ o.ownBlock ≠ some bT ∧ RowKit.Below w.heap.size w wr) (fun av _ _ _ => s.size - (intOf av).toNat)
  case atStart =>
    refine ⟨p, [], rfl, Nat.le_refl _, hp, Lib.hid ?_, by simp, hO0, lT1, ?_, hba.trans (hbb.mono hba.size)⟩
    · cases rdT 0 (rest s p) <;> simp [Rd.map]
    · intro e
      simp [Value.ownBlock] at e
  case round =>
    obtain ⟨q, acc, rfl, hpq, hq, HR, hal, ho, lT, hbr, hb⟩ := hrel
    obtain ⟨ao, cao, hfo⟩ := own_form ho
    subst hfo
    clear lT0 lT1 hba hbb hO0 hs1
    by_cases hlt : q < s.size
    case neg =>
      obtain rfl : q = s.size := by omega
      have HX := Lib.hid (show rdT 0 (rest s p) = .bad 3 by rw [HR.out, rest_none, rdT_nil]; rfl)
      clear HR
      go_wp2_with ((with_reducible refine wpL_store bT 45 tZ #[.int .i64 0, .int .i64 0, .string ⟨#[]⟩, .slice none 0 0, .slice none 0 0, .int .i64 0, .int .i64 0, .int .i64 3] 8 rowTT rfl rfl (tC_one _ _ _ _ _ _ _ _ _ _ _ _) lT ?_ ?_ ?_); rfl; rfl)
      refine bodyPost_ret (results_row Tryd.results25 rowTT rfl (lT.row _) rfl) rfl ?_
      unfold RTxtPost
      exact ⟨below_rowSet hb (Nat.le_of_eq hbT) _, .inl ⟨3, HX.out, rfl⟩⟩
    have hi1 : ¬ ((s.size : Int) ≤ (q : Int)) := by omega
    have hrc := rest_cons hlt
    obtain ⟨c, hc⟩ : ∃ c, s[q] = c := ⟨_, rfl⟩
    rw [hc] at hrc
    by_cases hlo : c.toNat < 32
    · have HX := Lib.hid (show rdT 0 (rest s p) = .bad 20 by rw [HR.out, hrc, rdT_low hlo]; rfl)
      have e32 : ((s[q].toNat : Nat) : Int) < 32 := by rw [hc]; omega
      clear HR hrc hc hlo
      go_wp2_with ((with_reducible refine wpL_store bT 45 tZ #[.int .i64 0, .int .i64 0, .string ⟨#[]⟩, .slice none 0 0, .slice none 0 0, .int .i64 0, .int .i64 0, .int .i64 20] 8 rowTT rfl rfl (tC_one _ _ _ _ _ _ _ _ _ _ _ _) lT ?_ ?_ ?_); rfl; rfl)
      refine bodyPost_ret (results_row Tryd.results25 rowTT rfl (lT.row _) rfl) rfl ?_
      unfold RTxtPost
      exact ⟨below_rowSet hb (Nat.le_of_eq hbT) _, .inl ⟨20, HX.out, rfl⟩⟩
    have e32 : ¬ ((s[q].toNat : Nat) : Int) < 32 := by rw [hc]; omega
    by_cases h34 : c = 34
    · have HX := Lib.hid (show rdT 0 (rest s p) = .ok acc (rest s (q + 1)) by rw [HR.out, hrc, h34, rdT_end]; simp [Rd.map])
      have e34 : ((s[q].toNat : Int) == 34) = true := by rw [hc, h34]; rfl
      have hcv := str_own ho
      clear HR hrc hc hlo
      go_wp2_with ((with_reducible refine wpL_store bT 45 tZ #[.int .i64 0, .int .i64 0, .string ⟨acc.toArray⟩, .slice none 0 0, .slice none 0 0, .int .i64 ((q : Int) + 1), .int .i64 0, .int .i64 0] 8 rowTT rfl rfl (tC_one _ _ _ _ _ _ _ _ _ _ _ _) lT ?_ ?_ ?_); rfl; rfl)
      refine bodyPost_ret (results_row Tryd.results25 rowTT rfl (lT.row _) rfl) rfl ?_
      unfold RTxtPost
      exact ⟨below_rowSet hb (Nat.le_of_eq hbT) _, .inr ⟨acc, q + 1, HX.out, rfl, by omega, by omega⟩⟩
    have e34 : ((s[q].toNat : Int) == 34) = false := by rw [hc, beq_eq_false_iff_ne]; exact byte_ne h34
    by_cases h92 : c = 92
    · have e92 : ((s[q].toNat : Int) == 92) = true := by rw [hc, h92]; rfl
      by_cases hlt2 : q + 1 < s.size
      case neg =>
        have hi2 : ((s.size : Int) ≤ (q : Int) + 1) := by omega
        have HX := Lib.hid (show rdT 0 (rest s p) = .bad 3 by rw [HR.out, hrc, h92, show q + 1 = s.size by omega, rest_none, rdT_bar]; rfl)
        clear HR hrc hc
        go_wp2_with ((with_reducible refine wpL_store bT 45 tZ #[.int .i64 0, .int .i64 0, .string ⟨#[]⟩, .slice none 0 0, .slice none 0 0, .int .i64 0, .int .i64 0, .int .i64 3] 8 rowTT rfl rfl (tC_one _ _ _ _ _ _ _ _ _ _ _ _) lT ?_ ?_ ?_); rfl; rfl)
        refine bodyPost_ret (results_row Tryd.results25 rowTT rfl (lT.row _) rfl) rfl ?_
        unfold RTxtPost
        exact ⟨below_rowSet hb (Nat.le_of_eq hbT) _, .inl ⟨3, HX.out, rfl⟩⟩
      have hi2 : ¬ ((s.size : Int) ≤ (q : Int) + 1) := by omega
      obtain ⟨d, hd⟩ : ∃ d, s[q + 1] = d := ⟨_, rfl⟩
      have hrd := rest_cons hlt2
      rw [hd] at hrd
      by_cases hm : d = 34 ∨ d = 92
      case neg =>
        have hm2 : d ≠ 34 ∧ d ≠ 92 := ⟨fun e => hm (.inl e), fun e => hm (.inr e)⟩
        have HX := Lib.hid (show rdT 0 (rest s p) = .bad 20 by rw [HR.out, hrc, h92, hrd, rdT_odd hm2]; rfl)
        have f34 : ((s[q + 1].toNat : Int) != 34) = true := by rw [hd]; simpa using byte_ne hm2.1
        have f92 : ((s[q + 1].toNat : Int) != 92) = true := by rw [hd]; simpa using byte_ne hm2.2
        have hx1 : (q : Int) + 1 < (s.size : Int) := by omega
        clear HR hrc hc hrd hd
        go_wp2_with ((with_reducible refine wpL_store bT 45 tZ #[.int .i64 0, .int .i64 0, .string ⟨#[]⟩, .slice none 0 0, .slice none 0 0, .int .i64 0, .int .i64 0, .int .i64 20] 8 rowTT rfl rfl (tC_one _ _ _ _ _ _ _ _ _ _ _ _) lT ?_ ?_ ?_); rfl; rfl)
        refine bodyPost_ret (results_row Tryd.results25 rowTT rfl (lT.row _) rfl) rfl ?_
        unfold RTxtPost
        exact ⟨below_rowSet hb (Nat.le_of_eq hbT) _, .inl ⟨20, HX.out, rfl⟩⟩
      have hx1 : (q : Int) + 1 < (s.size : Int) := by omega
      rcases hm with hm4 | hm9
      · have f34 : ((s[q + 1].toNat : Int) != 34) = false := by rw [hd, hm4]; rfl
        have hm : d = 34 ∨ d = 92 := .inl hm4
        by_cases hk : acc.length = 4000
        · have hk1 : ((acc.length : Int) == 4000) = true := by rw [hk]; rfl
          have HX := Lib.hid (show rdT 0 (rest s p) = .bad 2 by rw [HR.out, hrc, h92, hrd, rdT_esc hm, if_pos hk]; rfl)
          clear HR hk
          go_wp2_with ((with_reducible refine wpL_store bT 45 tZ #[.int .i64 0, .int .i64 0, .string ⟨#[]⟩, .slice none 0 0, .slice none 0 0, .int .i64 0, .int .i64 0, .int .i64 2] 8 rowTT rfl rfl (tC_one _ _ _ _ _ _ _ _ _ _ _ _) lT ?_ ?_ ?_); rfl; rfl)
          refine bodyPost_ret (results_row Tryd.results25 rowTT rfl (lT.row _) rfl) rfl ?_
          unfold RTxtPost
          exact ⟨below_rowSet hb (Nat.le_of_eq hbT) _, .inl ⟨2, HX.out, rfl⟩⟩
        · have hk1 : ((acc.length : Int) == 4000) = false := by rw [beq_eq_false_iff_ne]; omega
          have HX := Lib.hid (show rdT 0 (rest s p) = (rdT (acc ++ [d]).length (rest s (q + 1 + 1))).map ((acc ++ [d]) ++ ·) by rw [HR.out, hrc, h92, hrd, rdT_esc hm, if_neg hk, List.length_append, List.length_singleton]; exact map_map acc d _)
          clear HR
          have hsz2 : w.heap.size ≤ wr.heap.size := hb.size
          have hl5 : acc.length ≤ 3999 := by omega
          go_wp2_with (at_builtin; refine wpList_append_lies _ rfl _ _ 42 (by rfl) w.heap.size 5 i0 _ 1 1 Tryd.underlying42 hi hz0 hz1 hz2 rfl (by omega) _ acc.length _ (by rfl) (ho.alloc _) ⟨wr.heap.size, 0, none⟩ 1 1 _ (by rfl) (by rfl) (World.news_of_block (t := 5) (fr := (0, 0)) (heap_alloc_new wr _)) (by simp [Value.oneCell']) (by omega) (by unfold maxLen; omega) (by omega) (by simp; omega) (wr.heap.size + 1) (by simp) ?_; intro g1 cap1 w3 hown1 hgrow1 hat1 hlt1)
          have hb3 := below_grownR (hb.alloc hb.size _) (by simp; omega) hgrow1 (fun j hj => (ho.lt j hj).1)
          have hl3 := (lT.alloc _).only hgrow1 (fun e => hbr e.symm)
          go_wp2
          go_roundw
          case rel => exact ⟨q + 1 + 1, acc ++ [d], by go_num, by omega, by omega, HX, by rw [List.length_append, List.length_singleton]; omega, quot_row rfl rfl (by rw [hm4]; exact hown1), hl3, own_new hat1 ho hbr (by omega), hb3⟩
          case measure => simp [intOf]; omega
      · have f34 : ((s[q + 1].toNat : Int) != 34) = true := by rw [hd, hm9]; rfl
        have f92 : ((s[q + 1].toNat : Int) != 92) = false := by rw [hd, hm9]; rfl
        have hm : d = 34 ∨ d = 92 := .inr hm9
        by_cases hk : acc.length = 4000
        · have hk1 : ((acc.length : Int) == 4000) = true := by rw [hk]; rfl
          have HX := Lib.hid (show rdT 0 (rest s p) = .bad 2 by rw [HR.out, hrc, h92, hrd, rdT_esc hm, if_pos hk]; rfl)
          clear HR hk
          go_wp2_with ((with_reducible refine wpL_store bT 45 tZ #[.int .i64 0, .int .i64 0, .string ⟨#[]⟩, .slice none 0 0, .slice none 0 0, .int .i64 0, .int .i64 0, .int .i64 2] 8 rowTT rfl rfl (tC_one _ _ _ _ _ _ _ _ _ _ _ _) lT ?_ ?_ ?_); rfl; rfl)
          refine bodyPost_ret (results_row Tryd.results25 rowTT rfl (lT.row _) rfl) rfl ?_
          unfold RTxtPost
          exact ⟨below_rowSet hb (Nat.le_of_eq hbT) _, .inl ⟨2, HX.out, rfl⟩⟩
        · have hk1 : ((acc.length : Int) == 4000) = false := by rw [beq_eq_false_iff_ne]; omega
          have HX := Lib.hid (show rdT 0 (rest s p) = (rdT (acc ++ [d]).length (rest s (q + 1 + 1))).map ((acc ++ [d]) ++ ·) by rw [HR.out, hrc, h92, hrd, rdT_esc hm, if_neg hk, List.length_append, List.length_singleton]; exact map_map acc d _)
          clear HR
          have hsz2 : w.heap.size ≤ wr.heap.size := hb.size
          have hl5 : acc.length ≤ 3999 := by omega
          go_wp2_with (at_builtin; refine wpList_append_lies _ rfl _ _ 42 (by rfl) w.heap.size 5 i0 _ 1 1 Tryd.underlying42 hi hz0 hz1 hz2 rfl (by omega) _ acc.length _ (by rfl) (ho.alloc _) ⟨wr.heap.size, 0, none⟩ 1 1 _ (by rfl) (by rfl) (World.news_of_block (t := 5) (fr := (0, 0)) (heap_alloc_new wr _)) (by simp [Value.oneCell']) (by omega) (by unfold maxLen; omega) (by omega) (by simp; omega) (wr.heap.size + 1) (by simp) ?_; intro g1 cap1 w3 hown1 hgrow1 hat1 hlt1)
          have hb3 := below_grownR (hb.alloc hb.size _) (by simp; omega) hgrow1 (fun j hj => (ho.lt j hj).1)
          have hl3 := (lT.alloc _).only hgrow1 (fun e => hbr e.symm)
          go_wp2
          go_roundw
          case rel => exact ⟨q + 1 + 1, acc ++ [d], by go_num, by omega, by omega, HX, by rw [List.length_append, List.length_singleton]; omega, quot_row rfl rfl (by rw [hm9]; exact hown1), hl3, own_new hat1 ho hbr (by omega), hb3⟩
          case measure => simp [intOf]; omega
    have e92 : ((s[q].toNat : Int) == 92) = false := by rw [hc, beq_eq_false_iff_ne]; exact byte_ne h92
    have hc0 : s[q] = c := hc
    by_cases hk : acc.length = 4000
    · have hk1 : ((acc.length : Int) == 4000) = true := by rw [hk]; rfl
      have HX := Lib.hid (show rdT 0 (rest s p) = .bad 2 by rw [HR.out, hrc, rdT_char hlo h34 h92, if_pos hk]; rfl)
      clear HR hk hrc hc hc0
      go_wp2_with ((with_reducible refine wpL_store bT 45 tZ #[.int .i64 0, .int .i64 0, .string ⟨#[]⟩, .slice none 0 0, .slice none 0 0, .int .i64 0, .int .i64 0, .int .i64 2] 8 rowTT rfl rfl (tC_one _ _ _ _ _ _ _ _ _ _ _ _) lT ?_ ?_ ?_); rfl; rfl)
      refine bodyPost_ret (results_row Tryd.results25 rowTT rfl (lT.row _) rfl) rfl ?_
      unfold RTxtPost
      exact ⟨below_rowSet hb (Nat.le_of_eq hbT) _, .inl ⟨2, HX.out, rfl⟩⟩
    · have hk1 : ((acc.length : Int) == 4000) = false := by rw [beq_eq_false_iff_ne]; omega
      have HX := Lib.hid (show rdT 0 (rest s p) = (rdT (acc ++ [c]).length (rest s (q + 1))).map ((acc ++ [c]) ++ ·) by rw [HR.out, hrc, rdT_char hlo h34 h92, if_neg hk, List.length_append, List.length_singleton]; exact map_map acc c _)
      clear HR hrc hc
      have HC0 := Lib.hid hc0
      clear hc0
      have hsz2 : w.heap.size ≤ wr.heap.size := hb.size
      have hl5 : acc.length ≤ 3999 := by omega
      go_wp2_with (at_builtin; refine wpList_append_lies _ rfl _ _ 42 (by rfl) w.heap.size 5 i0 _ 1 1 Tryd.underlying42 hi hz0 hz1 hz2 rfl (by omega) _ acc.length _ (by rfl) (ho.alloc _) ⟨wr.heap.size, 0, none⟩ 1 1 _ (by rfl) (by rfl) (World.news_of_block (t := 5) (fr := (0, 0)) (heap_alloc_new wr _)) (by simp [Value.oneCell']) (by omega) (by unfold maxLen; omega) (by omega) (by simp; omega) (wr.heap.size + 1) (by simp) ?_; intro g1 cap1 w3 hown1 hgrow1 hat1 hlt1)
      have hb3 := below_grownR (hb.alloc hb.size _) (by simp; omega) hgrow1 (fun j hj => (ho.lt j hj).1)
      have hl3 := (lT.alloc _).only hgrow1 (fun e => hbr e.symm)
      go_wp2
      go_roundw
      case rel => exact ⟨q + 1, acc ++ [c], by go_num, by omega, by omega, HX, by rw [List.length_append, List.length_singleton]; omega, quot_row rfl rfl (by rw [← HC0.out]; exact hown1), hl3, own_new hat1 ho hbr (by omega), hb3⟩
      case measure => simp [intOf]; omega
end Go.Proofs.YtmbmeidkmhajbaaDoor.V

/- A text that breaks off: what reading it comes to. Nothing of the program is named here. -/
namespace Go.Proofs.YtmbmeidkmhajbaaDoor.V
open Go

/-- what a text that breaks off may come to -/
def Broken (e : Int) (p : List UInt8) : Prop := e = 3 ∨ (e = 20 ∧ p.getLast? = some 45) ∨ (e = 21 ∧ p.getLast? = some 91)
theorem Broken.short (p : List UInt8) : Broken 3 p := .inl rfl
/-! ### how many fit into a text -/
mutual
theorem wr_two : ∀ (t : VT), t.each = true → 2 * t.count ≤ t.wr.length + 1
  | .mk k n s l ks => fun h => by
    rw [each_eq, Bool.and_eq_true] at h
    rw [count_eq, wr_eq]
    have hl := wrL_two l h.1
    rcases one_of h.2 with ⟨rfl, rfl, e2, rfl⟩ | ⟨rfl, rfl, e2, rfl⟩ | ⟨rfl, rfl, rfl, rfl⟩ | ⟨rfl, rfl, rfl, e2⟩
    · obtain rfl := List.eq_nil_of_length_eq_zero e2
      obtain ⟨c, u, e, _⟩ := itoa_head n
      rw [if_pos rfl, e, countL_nil, List.length_cons]
      omega
    · obtain rfl := List.eq_nil_of_length_eq_zero e2
      rw [if_neg (by decide), if_pos rfl, countL_nil]
      unfold quotL
      simp only [List.length_cons, List.length_append, List.length_nil]
      omega
    · rw [if_neg (by decide), if_neg (by decide), if_neg (by decide)]
      have := hl true
      rw [if_pos rfl] at this
      simp only [List.length_cons, List.length_append, List.length_nil]
      omega
    · rw [if_neg (by decide), if_neg (by decide), if_pos rfl]
      have := wrM_two l h.1 true ks
      rw [if_pos rfl] at this
      simp only [List.length_cons, List.length_append, List.length_nil]
      omega
theorem wrL_two : ∀ (l : List VT), eachL l = true → ∀ b : Bool, 2 * countL l ≤ (wrL b l).length + (if b then 1 else 0)
  | [] => fun _ b => by rw [countL_nil]; omega
  | x :: l => fun h b => by
    rw [eachL_cons, Bool.and_eq_true] at h
    have h1 := wr_two x h.1
    have h2 := wrL_two l h.2 false
    rw [countL_cons, wrL_cons]
    simp only [Bool.false_eq_true, if_false] at h2
    cases b <;> simp only [List.length_append, List.length_cons, List.length_nil, if_true, Bool.false_eq_true, if_false] <;> omega
theorem wrM_two : ∀ (l : List VT), eachL l = true → ∀ (b : Bool) (ks : List (List UInt8)), 2 * countL l ≤ (wrM b l ks).length + (if b then 1 else 0)
  | [] => fun _ b ks => by rw [countL_nil]; omega
  | x :: l => fun h b ks => by
    rw [eachL_cons, Bool.and_eq_true] at h
    have h1 := wr_two x h.1
    have h2 := wrM_two l h.2 false ks.tail
    rw [countL_cons, wrM_cons]
    simp only [Bool.false_eq_true, if_false] at h2
    cases b <;> simp only [List.length_append, List.length_cons, List.length_nil, if_true, Bool.false_eq_true, if_false] <;> omega
end
section code
open Go

def NZ {α : Type} : Rd α → Prop
  | .bad e => e ≠ 0
  | .ok _ _ => True
theorem NZ.map {α β : Type} {f : α → β} {x : Rd α} (h : NZ x) : NZ (x.map f) := by
  cases x with
  | bad e => exact h
  | ok a r => trivial
theorem nz_T : ∀ (m : Nat) (s : List UInt8), s.length ≤ m → ∀ k, NZ (rdT k s) := by
  intro m
  induction m with
  | zero =>
    intro s h k
    obtain rfl : s = [] := List.eq_nil_of_length_eq_zero (by omega)
    rw [rdT_nil]
    show (3 : Int) ≠ 0
    decide
  | succ m ih =>
    intro s h k
    match s with
    | [] => rw [rdT_nil]; show (3 : Int) ≠ 0; decide
    | c :: r =>
      rw [List.length_cons] at h
      unfold rdT
      split
      · show (20 : Int) ≠ 0; decide
      · split
        · trivial
        · split
          · split
            · show (3 : Int) ≠ 0; decide
            · rename_i d r'
              rw [List.length_cons] at h
              split
              · show (20 : Int) ≠ 0; decide
              · split
                · show (2 : Int) ≠ 0; decide
                · exact (ih r' (by omega) _).map
          · split
            · show (2 : Int) ≠ 0; decide
            · exact (ih r (by omega) _).map
theorem nz_N (s : List UInt8) : NZ (rdN s) := by
  unfold rdN
  split
  · show (20 : Int) ≠ 0; decide
  · split
    · show (2 : Int) ≠ 0; decide
    · trivial
theorem nz_K (prev : Option (List UInt8)) (s : List UInt8) : NZ (rdK prev s) := by
  match s with
  | [] => show (3 : Int) ≠ 0; decide
  | c :: r =>
    simp only [rdK]
    split
    · show (20 : Int) ≠ 0; decide
    · have h := nz_T r.length r (Nat.le_refl _) 0
      split
      · rename_i e he
        rw [he] at h
        exact h
      · split
        · show (23 : Int) ≠ 0; decide
        · split
          · show (3 : Int) ≠ 0; decide
          · split
            · show (20 : Int) ≠ 0; decide
            · trivial
theorem nz_L {rv : Nat → List UInt8 → Rd (VT × Nat)} (H : ∀ n s, NZ (rv n s)) : ∀ (f n : Nat) (s : List UInt8), NZ (rdL rv f n s) := by
  intro f
  induction f with
  | zero => intro n s; show (3 : Int) ≠ 0; decide
  | succ f ih =>
    intro n s
    unfold rdL
    have h := H n s
    split
    · rename_i e he
      rw [he] at h
      exact h
    · show (3 : Int) ≠ 0; decide
    · split
      · trivial
      · split
        · exact (ih _ _).map
        · show (20 : Int) ≠ 0; decide
theorem nz_M {rv : Nat → List UInt8 → Rd (VT × Nat)} (H : ∀ n s, NZ (rv n s)) : ∀ (f : Nat) (prev : Option (List UInt8)) (n : Nat) (s : List UInt8), NZ (rdM rv f prev n s) := by
  intro f
  induction f with
  | zero => intro prev n s; show (3 : Int) ≠ 0; decide
  | succ f ih =>
    intro prev n s
    unfold rdM
    have h0 := nz_K prev s
    split
    · rename_i e he
      rw [he] at h0
      exact h0
    · rename_i k s1 he
      have h := H n s1
      split
      · rename_i e he
        rw [he] at h
        exact h
      · show (3 : Int) ≠ 0; decide
      · split
        · trivial
        · split
          · exact (ih _ _ _).map
          · show (20 : Int) ≠ 0; decide
theorem nz_V : ∀ (d n : Nat) (s : List UInt8), NZ (rdV d n s) := by
  intro d
  induction d with
  | zero => intro n s; show (21 : Int) ≠ 0; decide
  | succ d ih =>
    intro n s
    match s with
    | [] =>
      unfold rdV
      split
      · show (22 : Int) ≠ 0; decide
      · show (3 : Int) ≠ 0; decide
    | c :: r =>
      unfold rdV
      split
      · show (22 : Int) ≠ 0; decide
      · split
        · exact (nz_N _).map
        · split
          · exact (nz_T _ _ (Nat.le_refl _) _).map
          · split
            · unfold rdB
              split
              · trivial
              · exact (nz_L ih _ _ _).map
            · split
              · unfold rdO
                split
                · trivial
                · exact (nz_M ih _ _ _ _).map
              · show (20 : Int) ≠ 0; decide
theorem rdP_code {s : List UInt8} {e : Int} (h : rdP s = .bad e) : e ≠ 0 := by
  have h2 : NZ (rdP s) := by
    unfold rdP
    split
    · show (2 : Int) ≠ 0; decide
    · have h := nz_V 12 0 s
      split
      · rename_i e he
        rw [he] at h
        exact h
      · trivial
      · show (20 : Int) ≠ 0; decide
  rw [h] at h2
  exact h2
end code
end Go.Proofs.YtmbmeidkmhajbaaDoor.V

/- The reference's Parse, given its Value. -/
namespace Go.Proofs.YtmbmeidkmhajbaaDoor.V
open Go.RowKit Go.Sort Go.Joins
set_option maxRecDepth 100000

/-- what the reference's Value comes to -/
def RValPost (w : World) (s : ByteArray) (p L n : Nat) (e : Ending) (w' : World) : Prop := RowKit.Below w.heap.size w w' ∧
  ((∃ (er k z : Int) (st : ByteArray) (a n2 : Int), rdV L n (rest s p) = .bad er ∧ e = .returned (.agg #[.int .i64 k, .int .i64 z, .string st, .slice none 0 0, .slice none 0 0, .int .i64 a, .int .i64 n2, .int .i64 er])) ∨
   (∃ t d q n2 ai ci ak ck, rdV L n (rest s p) = .ok (t, n2) (rest s q) ∧ e = .returned (.agg #[.int .i64 t.kind, .int .i64 t.num, .string ⟨t.txt.toArray⟩, .slice ai t.items.length ci, .slice ak t.keys.length ck, .int .i64 (q : Int), .int .i64 (n2 : Int), .int .i64 0]) ∧
     (∀ E : List Nat, (∀ b ∈ E, b < w.heap.size) → IsVX E w' d [.int .i64 t.kind, .int .i64 t.num, .string ⟨t.txt.toArray⟩, .slice ai t.items.length ci, .slice ak t.keys.length ck] t) ∧ p < q ∧ q ≤ s.size))
section
variable {a : Act} {d : Option Tmp} {x : Operand} {t' : TypeId} {pos : String} {after : Array Edge} {gd : Option (Nat × Bool)} {w : World}
theorem run_ldErr (p : Addr) (v : Value) (hc : w.cell? p = some v) (hx : a.eval x = .pointer (some p)) : (execOp a.eval ⟨d, .load 26 x, t', pos, after, gd⟩).run Tryd.prog w = .ok (.value v) w := by
  unfold execOp
  simp only [hx]
  simp [Instr.loadAt, go_sem, hc]
end
set_option maxHeartbeats 12800000 in
theorem refParse_any (HV : ∀ (s : ByteArray) (w : World), s.size ≤ 65536 → Calls Tryd.prog 17 #[.string s, .int .i64 0, .int .i64 0, .int .i64 0] w fun e w' => RValPost w s 0 12 0 e w') (s : List UInt8) (w : World) (_ : s.length ≤ 66000) :
    Calls Tryd.prog 7 #[.string ⟨s.toArray⟩] w fun e w' => ResPost w s e w' := by
  have hsz := str_size s
  have lB := Lies.new w 25 valZ
  have hbW := (RowKit.Below.refl w.heap.size w).alloc (Nat.le_refl _) (.cells valZ 25)
  have hZ : ∀ (w2 : World), IsV w2 1 [.int .i64 0, .int .i64 0, .string ⟨#[]⟩, .slice none 0 0, .slice none 0 0] zeroT := fun w2 => isV_zero w2 0
  by_cases hl : s.length ≤ 65536
  · have e1 : ¬ (65536 : Int) < (s.length : Int) := by omega
    have HV1 := Lib.hid (fun (w1 : World) => HV ⟨s.toArray⟩ w1 (by rw [hsz]; exact hl))
    have hr0 : rest ⟨s.toArray⟩ 0 = s := by unfold rest; rw [List.drop_zero]
    clear HV
    go_enter Tryd.func7, Tryd.ntmps7
    go_upto_region 3 with fail
    generalize World.alloc w _ = wa at *
    obtain ⟨b, hb⟩ : ∃ b, b = w.heap.size := ⟨_, rfl⟩
    rw [← hb] at lB ⊢
    have hbl : w.heap.size ≤ b := Nat.le_of_eq hb.symm
    clear hb
    have lBw := lB.lt
    go_upto_region 4 with (first
      | (go_at_call 17; refine (HV1.out _).mono ?_; rintro e w1 ⟨hb1, ⟨er, k, z, st, a9, n2, hX, rfl⟩ | ⟨t, d, q, n2, ai, ci, ak, ck, hX, rfl, hx, _, hq⟩⟩)
      | ((with_reducible refine wpL_store w1.heap.size 45 tZ #[.int .i64 k, .int .i64 z, .string st, .slice none 0 0, .slice none 0 0, .int .i64 a9, .int .i64 n2, .int .i64 er] 8 rowTT rfl rfl (tC_one _ _ _ _ _ _ _ _ _ _ _ _) (Lies.new w1 _ _) ?_ ?_ ?_); rfl; rfl)
      | ((with_reducible refine wpL_store w1.heap.size 45 tZ #[.int .i64 t.kind, .int .i64 t.num, .string ⟨t.txt.toArray⟩, .slice ai t.items.length ci, .slice ak t.keys.length ck, .int .i64 (q : Int), .int .i64 (n2 : Int), .int .i64 0] 8 rowTT rfl rfl (tC_one _ _ _ _ _ _ _ _ _ _ _ _) (Lies.new w1 _ _) ?_ ?_ ?_); rfl; rfl))
    · have hbX := below_rowSet ((hbW.trans (hb1.mono hbW.size)).alloc (Nat.le_trans hbW.size hb1.size) (.cells tZ 45)) (Nat.le_trans hbW.size hb1.size) #[.int .i64 k, .int .i64 z, .string st, .slice none 0 0, .slice none 0 0, .int .i64 a9, .int .i64 n2, .int .i64 er]
      have hbY := below_rowSet ((RowKit.Below.refl w1.heap.size w1).alloc (Nat.le_refl _) (.cells tZ 45)) (Nat.le_refl _) #[.int .i64 k, .int .i64 z, .string st, .slice none 0 0, .slice none 0 0, .int .i64 a9, .int .i64 n2, .int .i64 er]
      have lC := (Lies.new w1 45 tZ).row #[.int .i64 k, .int .i64 z, .string st, .slice none 0 0, .slice none 0 0, .int .i64 a9, .int .i64 n2, .int .i64 er]
      have hbc : b < w1.heap.size := Nat.lt_of_lt_of_le lB.lt hb1.size
      replace lB := (lB.on hb1).on hbY
      have hP : rdP s = .bad er := by
        rw [hr0] at hX
        unfold rdP
        rw [if_neg (by omega), hX]
      have he : (er != 0) = true := bne_iff_ne.2 (rdP_code hP)
      clear hb1 hbW hbY
      generalize World.setRow _ _ _ = w2 at *
      generalize w1.heap.size = c at *
      have q7 : w2.cell? ⟨c, 7, none⟩ = some (.int .i64 er) := lC.cell 7
      go_upto_region 5 with fail
      refine wp_held_any (S := fun w => w.cell? ⟨c, 7, none⟩ = some (.int .i64 er)) 5 rfl (by kernel_rfl) ?_
      have hdr : RowKit.Below w2.heap.size w2 { w2 with drawn := w2.drawn + 1 } := (RowKit.Below.refl _ _).drew
      replace hbX := below_on hbX hdr
      replace lB := lB.on hdr
      replace lC := lC.on hdr
      clear hdr q7
      generalize ({ w2 with drawn := w2.drawn + 1 } : World) = wd at *
      have q7 : wd.cell? ⟨c, 7, none⟩ = some (.int .i64 er) := lC.cell 7
      refine held_put 0 14 (.agg valZ) rfl rfl (by kernel_rfl) (by kernel_rfl) (by kernel_rfl) (by kernel_rfl) (fun w hS => (by kernel_rfl)) q7 ?_
      simp only [List.setIfInBounds_toArray, List.set_cons_succ, List.set_cons_zero]
      refine held_put 1 15 (.pointer (some ⟨c, 7, none⟩)) rfl rfl (by kernel_rfl) (by kernel_rfl) (by kernel_rfl) (by kernel_rfl) (fun w hS => (by kernel_rfl)) q7 ?_
      simp only [List.setIfInBounds_toArray, List.set_cons_succ, List.set_cons_zero]
      refine held_put 2 16 (.int .i64 er) rfl rfl (by kernel_rfl) (by kernel_rfl) (by kernel_rfl) (by kernel_rfl) (fun w hS => run_ldErr ⟨c, 7, none⟩ (.int .i64 er) hS rfl) q7 ?_
      simp only [List.setIfInBounds_toArray, List.set_cons_succ, List.set_cons_zero]
      refine held_one 3 (by kernel_rfl) (wpOp_skpN rfl rfl (by kernel_rfl) (run_stZ valZ rfl (valC_one _ _ _ _ _ _ _ _ _) lB rfl rfl rfl) ⟨(lC.rowFar (by omega : c ≠ b) valZ).cell 7, ?_⟩)
      have q8 : (wd.setRow b valZ).cell? ⟨c, 7, none⟩ = some (.int .i64 er) := (lC.rowFar (by omega : c ≠ b) valZ).cell 7
      refine held_put 4 3 (.int .i64 er) rfl rfl (by kernel_rfl) (by kernel_rfl) (by kernel_rfl) (by kernel_rfl) (fun w hS => rfl) q8 ?_
      simp only [List.setIfInBounds_toArray, List.set_cons_succ, List.set_cons_zero]
      refine held_done (by kernel_rfl) ?_
      simp only [Exit.then]
      have lD := lB.row valZ
      have hbQ := below_rowSet hbX hbl valZ
      generalize World.setRow _ _ _ = w3 at *
      go_wp2
      refine bodyPost_ret (results_ctG Tryd.results7 rowVal rfl lD rfl) rfl ?_
      unfold ResPost
      rw [hP]
      exact ⟨_, 1, rfl, hZ _, hbQ⟩
    · have hbX := below_rowSet ((hbW.trans (hb1.mono hbW.size)).alloc (Nat.le_trans hbW.size hb1.size) (.cells tZ 45)) (Nat.le_trans hbW.size hb1.size) #[.int .i64 t.kind, .int .i64 t.num, .string ⟨t.txt.toArray⟩, .slice ai t.items.length ci, .slice ak t.keys.length ck, .int .i64 (q : Int), .int .i64 (n2 : Int), .int .i64 0]
      have hbY := below_rowSet ((RowKit.Below.refl w1.heap.size w1).alloc (Nat.le_refl _) (.cells tZ 45)) (Nat.le_refl _) #[.int .i64 t.kind, .int .i64 t.num, .string ⟨t.txt.toArray⟩, .slice ai t.items.length ci, .slice ak t.keys.length ck, .int .i64 (q : Int), .int .i64 (n2 : Int), .int .i64 0]
      have lC := (Lies.new w1 45 tZ).row #[.int .i64 t.kind, .int .i64 t.num, .string ⟨t.txt.toArray⟩, .slice ai t.items.length ci, .slice ak t.keys.length ck, .int .i64 (q : Int), .int .i64 (n2 : Int), .int .i64 0]
      have hbc : b < w1.heap.size := Nat.lt_of_lt_of_le lB.lt hb1.size
      replace lB := (lB.on hb1).on hbY
      have hx3 := (hx [b] (fun k hk => by rw [List.mem_singleton.1 hk]; exact lBw)).turn (Turn.of_below hbY)
      clear hx
      clear hb1 hbW hbY
      generalize World.setRow _ _ _ = w2 at *
      generalize w1.heap.size = c at *
      have q5 : w2.cell? ⟨c, 5, none⟩ = some (.int .i64 (q : Int)) := lC.cell 5
      have q7 : w2.cell? ⟨c, 7, none⟩ = some (.int .i64 0) := lC.cell 7
      by_cases hlt : q < s.length
      · have e5 : (q : Int) < (s.length : Int) := by omega
        have hP : rdP s = .bad 20 := by
          rw [hr0, rest_cons (by rw [hsz]; exact hlt)] at hX
          unfold rdP
          rw [if_neg (by omega), hX]
        go_wp2_with ((with_reducible refine wpL_store b 25 valZ valZ 5 rowVal rfl rfl (valC_one _ _ _ _ _ _ _ _ _) lB ?_ ?_ ?_); rfl; rfl)
        refine bodyPost_ret (results_ctG Tryd.results7 rowVal rfl (lB.row valZ) rfl) rfl ?_
        unfold ResPost
        rw [hP]
        exact ⟨_, 1, rfl, hZ _, below_rowSet hbX hbl _⟩
      · have e5 : ¬ (q : Int) < (s.length : Int) := by omega
        have hP : rdP s = .ok t [] := by
          have hq0 : rest ⟨s.toArray⟩ q = [] := by unfold rest; exact List.drop_eq_nil_of_le (by show s.length ≤ q; omega)
          rw [hr0, hq0] at hX
          unfold rdP
          rw [if_neg (by omega), hX]
        have hr5 : w2.rangeAt c 0 [.int .i64 t.kind, .int .i64 t.num, .string ⟨t.txt.toArray⟩, .slice ai t.items.length ci, .slice ak t.keys.length ck] := fun j v hv => by
          match j, hv with
          | 0, hv => rw [← hv]; exact lC.cell 0
          | 1, hv => rw [← hv]; exact lC.cell 1
          | 2, hv => rw [← hv]; exact lC.cell 2
          | 3, hv => rw [← hv]; exact lC.cell 3
          | 4, hv => rw [← hv]; exact lC.cell 4
          | j + 5, hv => simp at hv
        have hx9 := hx3.turn (Turn.of_grown (X := [b]) (grown_row b #[.int .i64 t.kind, .int .i64 t.num, .string ⟨t.txt.toArray⟩, .slice ai t.items.length ci, .slice ak t.keys.length ck]) (by simp))
        go_wp2_with (first
          | ((with_reducible refine wpL_loadMid c 0 [.int .i64 t.kind, .int .i64 t.num, .string ⟨t.txt.toArray⟩, .slice ai t.items.length ci, .slice ak t.keys.length ck] 5 rowVal rfl hr5 ?_ ?_); rfl)
          | ((with_reducible refine wpL_store b 25 valZ #[.int .i64 t.kind, .int .i64 t.num, .string ⟨t.txt.toArray⟩, .slice ai t.items.length ci, .slice ak t.keys.length ck] 5 rowVal rfl rfl (valC_one _ _ _ _ _ _ _ _ _) lB ?_ ?_ ?_); rfl; rfl))
        refine bodyPost_ret (results_ctG Tryd.results7 rowVal rfl (lB.row _) rfl) rfl ?_
        unfold ResPost
        rw [hP]
        exact ⟨_, d, rfl, hx9.isV, below_rowSet hbX hbl _⟩
  · have e1 : (65536 : Int) < (s.length : Int) := by omega
    clear HV
    go_enter Tryd.func7, Tryd.ntmps7
    go_wp2_with ((with_reducible refine wpL_store w.heap.size 25 valZ valZ 5 rowVal rfl rfl (valC_one _ _ _ _ _ _ _ _ _) lB ?_ ?_ ?_); rfl; rfl)
    refine bodyPost_ret (results_ctG Tryd.results7 rowVal rfl (lB.row valZ) rfl) rfl ?_
    unfold ResPost rdP
    rw [if_pos (by omega)]
    exact ⟨_, 1, rfl, hZ _, below_rowSet hbW (Nat.le_refl _) _⟩
end Go.Proofs.YtmbmeidkmhajbaaDoor.V

/- The reference's sign, wrong, number. -/
namespace Go.Proofs.YtmbmeidkmhajbaaDoor.V
set_option maxRecDepth 100000
open Go.RowKit Go.Sort Go.Joins

/-- the byte at a place, or that there is none -/
def signAt (s : ByteArray) (p : Nat) : Int := match (rest s p).head? with
  | some c => (c.toNat : Int)
  | none => -1
theorem refSign_any (w : World) (s : ByteArray) (p : Nat) (hp : p ≤ s.size) :
    Calls Tryd.prog 23 #[.string s, .int .i64 (p : Int)] w fun e w' => e = .returned (.int .i64 (signAt s p)) ∧ w' = w := by
  by_cases h : p < s.size
  · have h1 : ¬ ((s.size : Int) ≤ (p : Int)) := by omega
    have h2 : signAt s p = (s[p].toNat : Int) := by unfold signAt; rw [rest_cons h]; rfl
    rw [h2]
    go_enter Tryd.func23, Tryd.ntmps23
    go_wp2
    go_ret
    have hwr : wrap64 (s[p].toNat : Int) = (s[p].toNat : Int) := by
      have := s[p].toNat_lt
      unfold wrap64
      omega
    exact ⟨by simp [hwr], rfl⟩
  · obtain rfl : p = s.size := by omega
    have h2 : signAt s s.size = -1 := by unfold signAt; rw [rest_none]; rfl
    have h1 : ((s.size : Int) ≤ (s.size : Int)) := by omega
    rw [h2]
    go_enter Tryd.func23, Tryd.ntmps23
    go_wp2
    go_ret
    exact ⟨rfl, rfl⟩
/-- an answer that is an error alone -/
abbrev errT (er : Int) : Array Value := #[.int .i64 0, .int .i64 0, .string ⟨#[]⟩, .slice none 0 0, .slice none 0 0, .int .i64 0, .int .i64 0, .int .i64 er]
theorem wrong_any (w : World) (s : ByteArray) (p : Nat) (hp : p ≤ s.size) :
    Calls Tryd.prog 26 #[.string s, .int .i64 (p : Int)] w fun e w' => e = .returned (.agg (errT (if rest s p = [] then 3 else 20))) ∧ RowKit.Below w.heap.size w w' := by
  have lT := Lies.new w 45 tZ
  have hba := (RowKit.Below.refl w.heap.size w).alloc (Nat.le_refl _) (.cells tZ 45)
  by_cases h : p < s.size
  · have h1 : ¬ ((s.size : Int) ≤ (p : Int)) := by omega
    rw [rest_cons h, if_neg (by simp)]
    go_enter Tryd.func26, Tryd.ntmps26
    go_wp2_with ((with_reducible refine wpL_store w.heap.size 45 tZ (errT 20) 8 rowTT rfl rfl (tC_one _ _ _ _ _ _ _ _ _ _ _ _) lT ?_ ?_ ?_); rfl; rfl)
    refine bodyPost_ret (results_row Tryd.results26 rowTT rfl (lT.row _) rfl) rfl ?_
    exact ⟨rfl, below_rowSet hba (Nat.le_refl _) _⟩
  · obtain rfl : p = s.size := by omega
    have h1 : ((s.size : Int) ≤ (s.size : Int)) := by omega
    rw [rest_none, if_pos rfl]
    go_enter Tryd.func26, Tryd.ntmps26
    go_wp2_with ((with_reducible refine wpL_store w.heap.size 45 tZ (errT 3) 8 rowTT rfl rfl (tC_one _ _ _ _ _ _ _ _ _ _ _ _) lT ?_ ?_ ?_); rfl; rfl)
    refine bodyPost_ret (results_row Tryd.results26 rowTT rfl (lT.row _) rfl) rfl ?_
    exact ⟨rfl, below_rowSet hba (Nat.le_refl _) _⟩
abbrev numT2 (z : Int) (q : Nat) : Array Value := #[.int .i64 1, .int .i64 z, .string ⟨#[]⟩, .slice none 0 0, .slice none 0 0, .int .i64 (q : Int), .int .i64 0, .int .i64 0]
def RNumPost (w : World) (s : ByteArray) (p : Nat) (e : Ending) (w' : World) : Prop := RowKit.Below w.heap.size w w' ∧
  ((∃ er : Int, rdN (rest s p) = .bad er ∧ e = .returned (.agg (errT er))) ∨ (∃ z q, rdN (rest s p) = .ok z (rest s q) ∧ e = .returned (.agg (numT2 z q)) ∧ p < q ∧ q ≤ s.size))
/-- how far the digits are read: so many, their number, or that it is too large -/
def NumTo (s : ByteArray) (f q : Nat) (n : Nat) (o : Bool) : Prop := ∃ d : List UInt8, rest s f = d ++ rest s q ∧ (∀ c ∈ d, isDig c = true) ∧ d.length = q - f ∧
  ((o = true ∧ 1099511627776 < decVal d ∧ 1099511627776 < n) ∨ (o = false ∧ n = decVal d ∧ n ≤ 1099511627776))
theorem NumTo.start (s : ByteArray) (f : Nat) : NumTo s f f 0 false := ⟨[], by simp, (fun c h => by cases h), by simp, .inr ⟨rfl, rfl, by decide⟩⟩
theorem NumTo.snoc {s : ByteArray} {f q n : Nat} {o : Bool} (h : NumTo s f q n o) (hfq : f ≤ q) (hq : q < s.size) (hd : isDig s[q] = true) :
    (o = true → NumTo s f (q + 1) n true) ∧ (o = false → n ≤ 1099511627776 ∧ NumTo s f (q + 1) (10 * n + (s[q].toNat - 48)) (decide (1099511627776 < 10 * n + (s[q].toNat - 48)))) := by
  obtain ⟨d, h1, h2, h3, h4⟩ := h
  have e1 : rest s f = (d ++ [s[q]]) ++ rest s (q + 1) := by rw [h1, rest_cons hq]; simp
  have e2 : ∀ c ∈ d ++ [s[q]], isDig c = true := fun c hc => by
    rcases List.mem_append.1 hc with hc | hc
    · exact h2 c hc
    · rw [List.mem_singleton.1 hc]; exact hd
  have e3 : (d ++ [s[q]]).length = q + 1 - f := by rw [List.length_append, List.length_singleton]; omega
  have e4 := decVal_snoc d s[q]
  refine ⟨fun ho => ?_, fun ho => ?_⟩
  · rcases h4 with ⟨_, h5, h6⟩ | ⟨h5, _⟩
    · exact ⟨_, e1, e2, e3, .inl ⟨rfl, by omega, h6⟩⟩
    · rw [ho] at h5; cases h5
  · rcases h4 with ⟨h5, _⟩ | ⟨_, h5, h6⟩
    · rw [ho] at h5; cases h5
    · subst h5
      refine ⟨h6, _, e1, e2, e3, ?_⟩
      by_cases hb : 1099511627776 < 10 * decVal d + (s[q].toNat - 48)
      · exact .inl ⟨by simp [hb], by omega, hb⟩
      · exact .inr ⟨by simp [hb], by omega, by omega⟩
/-- what the digits come to, once they end -/
theorem num_end {s : ByteArray} {p f q n : Nat} {o b : Bool} (hb : minus (rest s p) = b) (ha : afterSign (rest s p) = rest s f) (h : NumTo s f q n o) (hd : Delim (rest s q)) (hfq : f ≤ q) :
    rdN (rest s p) = if q = f ∨ (1 < q - f ∧ (rest s f).head? = some 48) ∨ (b = true ∧ q - f = 1 ∧ (rest s f).head? = some 48) then .bad 20 else if o = true then .bad 2 else .ok (if b = true then -(n : Int) else (n : Int)) (rest s q) := by
  obtain ⟨d, h1, h2, h3, h4⟩ := h
  obtain ⟨w1, w2⟩ := while_append d (rest s q) h2 hd
  unfold rdN
  rw [ha, hb, h1, w1, w2]
  have hh : d ≠ [] → (d ++ rest s q).head? = d.head? := fun hne => head_front hne _
  by_cases hq : q = f
  · have hd0 : d = [] := List.eq_nil_of_length_eq_zero (by omega)
    rw [if_pos (.inl hd0), if_pos (.inl hq)]
  · have hne : d ≠ [] := fun e => by rw [e] at h3; simp at h3; omega
    rw [hh hne]
    have e1 : (b = true ∧ d = [48]) ↔ (b = true ∧ q - f = 1 ∧ d.head? = some 48) := by
      constructor
      · rintro ⟨h5, h6⟩
        rw [h6] at h3 ⊢
        exact ⟨h5, by simpa using h3.symm, rfl⟩
      · rintro ⟨h5, h6, h7⟩
        refine ⟨h5, ?_⟩
        rw [h6] at h3
        match d, h3 with
        | [c], _ =>
          simp only [List.head?_cons, Option.some.injEq] at h7
          rw [h7]
    have e2 : (d = [] ∨ (1 < d.length ∧ d.head? = some 48) ∨ (b = true ∧ d = [48])) ↔ (q = f ∨ (1 < q - f ∧ d.head? = some 48) ∨ (b = true ∧ q - f = 1 ∧ d.head? = some 48)) := by
      rw [h3, e1]
      simp [hne, hq]
    by_cases hc : (q = f ∨ (1 < q - f ∧ d.head? = some 48) ∨ (b = true ∧ q - f = 1 ∧ d.head? = some 48))
    · rw [if_pos (e2.2 hc), if_pos hc]
    · rw [if_neg (fun h => hc (e2.1 h)), if_neg hc]
      rcases h4 with ⟨ho, h5, _⟩ | ⟨ho, h5, h6⟩
      · rw [if_pos h5, if_pos ho]
      · rw [if_neg (by omega : ¬ 1099511627776 < decVal d), ho, if_neg Bool.false_ne_true, h5]
set_option maxHeartbeats 12800000 in
theorem refNum_any (w : World) (s : ByteArray) (p : Nat) (hp : p < s.size) (hs : s.size ≤ 70000) :
    Calls Tryd.prog 24 #[.string s, .int .i64 (p : Int)] w fun e w' => RNumPost w s p e w' := by
  obtain ⟨bT, hbT⟩ : ∃ b, w.heap.size = b := ⟨_, rfl⟩
  have lT := Lies.new w 45 tZ
  have hba := (RowKit.Below.refl w.heap.size w).alloc (Nat.le_refl _) (.cells tZ 45)
  rw [hbT] at lT
  have hi1 : (p : Int) < (s.size : Int) := by omega
  by_cases h45 : s[p] = 45
  · have e45 : ((s[p].toNat : Int) == 45) = true := by rw [h45]; rfl
    obtain ⟨f, hf⟩ : ∃ f, f = p + 1 := ⟨_, rfl⟩
    have HF := Lib.hid hf
    have hm : minus (rest s p) = true ∧ afterSign (rest s p) = rest s f := by
      unfold afterSign minus
      rw [rest_cons hp, h45, hf]
      exact ⟨rfl, rfl⟩
    clear h45 hf
    go_enter Tryd.func24, Tryd.ntmps24
    go_upto_region 7 with fail
    generalize World.alloc w _ = wa at *
    have hf1 : (p : Int) + 1 = (f : Int) := by have := HF.out; omega
    have hfz : f ≤ s.size := by have := HF.out; omega
    rw [hf1]
    clear hf1
    go_loopw [1, 7, 8] (fun av nv ov wr => ∃ (q n : Nat) (o : Bool), av = .int .i64 (q : Int) ∧ nv = .int .i64 (n : Int) ∧ ov = .bool o ∧ f ≤ q ∧ q ≤ s.size ∧ Hid (NumTo s f q n o) ∧ wr = wa) (fun av _ _ _ => s.size - (intOf av).toNat)
    case atStart => exact ⟨f, 0, false, rfl, rfl, rfl, Nat.le_refl _, hfz, Lib.hid (NumTo.start s f), rfl⟩
    case round =>
      obtain ⟨q, n, o, rfl, rfl, rfl, hfq, hq, HN, rfl⟩ := hrel
      by_cases hlt : q < s.size
      · have hi2 : (q : Int) < (s.size : Int) := by omega
        by_cases hd : isDig s[q] = true
        · have hd1 : (48 : Int) ≤ (s[q].toNat : Int) ∧ (s[q].toNat : Int) ≤ 57 := by
            unfold isDig at hd
            simp at hd
            omega
          obtain ⟨hd2, hd3⟩ := hd1
          have hS := HN.out.snoc hfq hlt hd
          cases o with
          | true =>
            have HS := Lib.hid (hS.1 rfl)
            have hn : (1099511627776 : Int) < (n : Int) := by
              obtain ⟨_, _, _, _, h⟩ := HN.out
              rcases h with ⟨_, _, h⟩ | ⟨h, _⟩
              · omega
              · cases h
            clear hS
            go_wp2
            go_roundw
            case rel => exact ⟨q + 1, n, true, by go_num, rfl, rfl, by omega, by omega, HS, trivial⟩
            case measure => simp [intOf]; omega
          | false =>
            obtain ⟨hn, hN2⟩ := hS.2 rfl
            obtain ⟨n2, hn2⟩ : ∃ n2, n2 = 10 * n + (s[q].toNat - 48) := ⟨_, rfl⟩
            rw [← hn2] at hN2
            have HS := Lib.hid hN2
            have HN2 := Lib.hid hn2
            have hw1 : IntKind.u8.wrap ((s[q].toNat : Int) - 48) = (s[q].toNat : Int) - 48 := by rw [IntKind.wrap_u8]; omega
            have hn3 : (n : Int) ≤ 1099511627776 := by omega
            clear hS hN2 hn2 hd hn
            go_wp2
            · rename_i hcmp
              have HS3 := Lib.hid (show NumTo s f (q + 1) n2 true from by have h := HS.out; rw [decide_eq_true (by have := HN2.out; omega)] at h; exact h)
              go_roundw
              case rel => exact ⟨q + 1, n2, true, by go_num, by have := HN2.out; congr 1; omega, rfl, by omega, by omega, HS3, trivial⟩
              case measure => simp [intOf]; omega
            · rename_i hcmp
              have HS3 := Lib.hid (show NumTo s f (q + 1) n2 false from by have h := HS.out; rw [decide_eq_false (by have := HN2.out; omega)] at h; exact h)
              go_roundw
              case rel => exact ⟨q + 1, n2, false, by go_num, by have := HN2.out; congr 1; omega, rfl, by omega, by omega, HS3, trivial⟩
              case measure => simp [intOf]; omega
        · have hdl : Delim (rest s q) := by rw [rest_cons hlt]; exact delim_at (by simpa using hd)
          have HE := Lib.hid (num_end hm.1 hm.2 HN.out hdl hfq)
          have hdd : (¬ (48 : Int) ≤ (s[q].toNat : Int)) ∨ ((48 : Int) ≤ (s[q].toNat : Int) ∧ ¬ (s[q].toNat : Int) ≤ 57) := by
            unfold isDig at hd
            simp at hd
            omega
          clear hd hdl
          rcases hdd with hd2 | ⟨hd2, hd3⟩
          all_goals
            by_cases hqf : q = f
            · have e1 : ((q : Int) == (f : Int)) = true := by rw [hqf]; exact beq_self_eq_true _
              have HX := Lib.hid (show rdN (rest s p) = .bad 20 by rw [HE.out, if_pos (.inl hqf)])
              clear HE hqf hm
              go_wp2_with ((with_reducible refine wpL_store bT 45 tZ (errT 20) 8 rowTT rfl rfl (tC_one _ _ _ _ _ _ _ _ _ _ _ _) lT ?_ ?_ ?_); rfl; rfl)
              refine bodyPost_ret (results_row Tryd.results24 rowTT rfl (lT.row _) rfl) rfl ?_
              unfold RNumPost
              exact ⟨below_rowSet hba (Nat.le_of_eq hbT) _, .inl ⟨20, HX.out, rfl⟩⟩
            have e1 : ((q : Int) == (f : Int)) = false := beq_eq_false_iff_ne.2 (by omega)
            obtain ⟨k, hk0⟩ : ∃ k, k = q - f := ⟨_, rfl⟩
            have hfs : f < s.size := by omega
            have hfi : (f : Int) < (s.size : Int) := by omega
            have hk : (q : Int) - (f : Int) = (k : Int) := by omega
            have hhd : (rest s f).head? = some s[f] := by rw [rest_cons hfs]; rfl
            have HP := Lib.hid (show p < q by have := HF.out; omega)
            rw [← hk0, hhd] at HE
            by_cases h48 : s[f] = 48
            · have e48 : ((s[f].toNat : Int) == 48) = true := by rw [h48]; rfl
              by_cases hk1 : k = 1
              · have e2 : ¬ (1 : Int) < (k : Int) := by omega
                have e3 : ((k : Int) == 1) = true := by rw [hk1]; rfl
                have HX := Lib.hid (show rdN (rest s p) = .bad 20 by rw [HE.out, if_pos (.inr (.inr ⟨rfl, hk1, congrArg some h48⟩))])
                clear HE hqf hm hk0 hk1 h48 hhd
                go_wp2_with ((with_reducible refine wpL_store bT 45 tZ (errT 20) 8 rowTT rfl rfl (tC_one _ _ _ _ _ _ _ _ _ _ _ _) lT ?_ ?_ ?_); rfl; rfl)
                refine bodyPost_ret (results_row Tryd.results24 rowTT rfl (lT.row _) rfl) rfl ?_
                unfold RNumPost
                exact ⟨below_rowSet hba (Nat.le_of_eq hbT) _, .inl ⟨20, HX.out, rfl⟩⟩
              · have e2 : (1 : Int) < (k : Int) := by omega
                have e3 : ((k : Int) == 1) = false := beq_eq_false_iff_ne.2 (by omega)
                have HX := Lib.hid (show rdN (rest s p) = .bad 20 by rw [HE.out, if_pos (.inr (.inl ⟨by omega, congrArg some h48⟩))])
                clear HE hqf hm hk0 hk1 h48 hhd
                go_wp2_with ((with_reducible refine wpL_store bT 45 tZ (errT 20) 8 rowTT rfl rfl (tC_one _ _ _ _ _ _ _ _ _ _ _ _) lT ?_ ?_ ?_); rfl; rfl)
                refine bodyPost_ret (results_row Tryd.results24 rowTT rfl (lT.row _) rfl) rfl ?_
                unfold RNumPost
                exact ⟨below_rowSet hba (Nat.le_of_eq hbT) _, .inl ⟨20, HX.out, rfl⟩⟩
            · have e48 : ((s[f].toNat : Int) == 48) = false := by rw [beq_eq_false_iff_ne]; exact byte_ne h48
              replace HE := Lib.hid (HE.out.trans (if_neg (by rintro (h | ⟨_, h⟩ | ⟨_, _, h⟩); exact hqf h; exact h48 (Option.some.inj h); exact h48 (Option.some.inj h))))
              by_cases hk1 : k = 1
              · have e2 : ¬ (1 : Int) < (k : Int) := by omega
                have e3 : ((k : Int) == 1) = true := by rw [hk1]; rfl
                cases o with
                | true =>
                  have HX := Lib.hid (show rdN (rest s p) = .bad 2 from HE.out.trans (if_pos rfl))
                  clear HE hqf hm hk0 hk1 h48 hhd
                  go_wp2_with ((with_reducible refine wpL_store bT 45 tZ (errT 2) 8 rowTT rfl rfl (tC_one _ _ _ _ _ _ _ _ _ _ _ _) lT ?_ ?_ ?_); rfl; rfl)
                  refine bodyPost_ret (results_row Tryd.results24 rowTT rfl (lT.row _) rfl) rfl ?_
                  unfold RNumPost
                  exact ⟨below_rowSet hba (Nat.le_of_eq hbT) _, .inl ⟨2, HX.out, rfl⟩⟩
                | false =>
                  have HX := Lib.hid (show rdN (rest s p) = .ok (-(n : Int)) (rest s q) from HE.out.trans (if_neg (by decide)))
                  have hn9 : (n : Int) ≤ 1099511627776 := by
                    obtain ⟨_, _, _, _, h⟩ := HN.out
                    rcases h with ⟨h, _⟩ | ⟨_, _, h⟩
                    · cases h
                    · omega
                  clear HE hqf hm hk0 hk1 h48 hhd
                  go_wp2_with ((with_reducible refine wpL_store bT 45 tZ (numT2 (-(n : Int)) q) 8 rowTT rfl rfl (tC_one _ _ _ _ _ _ _ _ _ _ _ _) lT ?_ ?_ ?_); rfl; rfl)
                  refine bodyPost_ret (results_row Tryd.results24 rowTT rfl (lT.row _) rfl) rfl ?_
                  unfold RNumPost
                  exact ⟨below_rowSet hba (Nat.le_of_eq hbT) _, .inr ⟨-(n : Int), q, HX.out, rfl, HP.out, hq⟩⟩
              · have e2 : (1 : Int) < (k : Int) := by omega
                have e3 : ((k : Int) == 1) = false := beq_eq_false_iff_ne.2 (by omega)
                cases o with
                | true =>
                  have HX := Lib.hid (show rdN (rest s p) = .bad 2 from HE.out.trans (if_pos rfl))
                  clear HE hqf hm hk0 hk1 h48 hhd
                  go_wp2_with ((with_reducible refine wpL_store bT 45 tZ (errT 2) 8 rowTT rfl rfl (tC_one _ _ _ _ _ _ _ _ _ _ _ _) lT ?_ ?_ ?_); rfl; rfl)
                  refine bodyPost_ret (results_row Tryd.results24 rowTT rfl (lT.row _) rfl) rfl ?_
                  unfold RNumPost
                  exact ⟨below_rowSet hba (Nat.le_of_eq hbT) _, .inl ⟨2, HX.out, rfl⟩⟩
                | false =>
                  have HX := Lib.hid (show rdN (rest s p) = .ok (-(n : Int)) (rest s q) from HE.out.trans (if_neg (by decide)))
                  have hn9 : (n : Int) ≤ 1099511627776 := by
                    obtain ⟨_, _, _, _, h⟩ := HN.out
                    rcases h with ⟨h, _⟩ | ⟨_, _, h⟩
                    · cases h
                    · omega
                  clear HE hqf hm hk0 hk1 h48 hhd
                  go_wp2_with ((with_reducible refine wpL_store bT 45 tZ (numT2 (-(n : Int)) q) 8 rowTT rfl rfl (tC_one _ _ _ _ _ _ _ _ _ _ _ _) lT ?_ ?_ ?_); rfl; rfl)
                  refine bodyPost_ret (results_row Tryd.results24 rowTT rfl (lT.row _) rfl) rfl ?_
                  unfold RNumPost
                  exact ⟨below_rowSet hba (Nat.le_of_eq hbT) _, .inr ⟨-(n : Int), q, HX.out, rfl, HP.out, hq⟩⟩
      · obtain rfl : q = s.size := by omega
        have hi2 : ¬ (s.size : Int) < (s.size : Int) := by omega
        have hdl : Delim (rest s s.size) := by rw [rest_none]; intro c t h; cases h
        have HE := Lib.hid (num_end hm.1 hm.2 HN.out hdl hfq)
        clear hdl
        by_cases hqf : s.size = f
        · have e1 : ((s.size : Int) == (f : Int)) = true := by rw [hqf]; exact beq_self_eq_true _
          have HX := Lib.hid (show rdN (rest s p) = .bad 20 by rw [HE.out, if_pos (.inl hqf)])
          clear HE hqf hm
          go_wp2_with ((with_reducible refine wpL_store bT 45 tZ (errT 20) 8 rowTT rfl rfl (tC_one _ _ _ _ _ _ _ _ _ _ _ _) lT ?_ ?_ ?_); rfl; rfl)
          refine bodyPost_ret (results_row Tryd.results24 rowTT rfl (lT.row _) rfl) rfl ?_
          unfold RNumPost
          exact ⟨below_rowSet hba (Nat.le_of_eq hbT) _, .inl ⟨20, HX.out, rfl⟩⟩
        have e1 : ((s.size : Int) == (f : Int)) = false := beq_eq_false_iff_ne.2 (by omega)
        obtain ⟨k, hk0⟩ : ∃ k, k = s.size - f := ⟨_, rfl⟩
        have hfs : f < s.size := by omega
        have hfi : (f : Int) < (s.size : Int) := by omega
        have hk : (s.size : Int) - (f : Int) = (k : Int) := by omega
        have hhd : (rest s f).head? = some s[f] := by rw [rest_cons hfs]; rfl
        have HP := Lib.hid (show p < s.size by have := HF.out; omega)
        rw [← hk0, hhd] at HE
        by_cases h48 : s[f] = 48
        · have e48 : ((s[f].toNat : Int) == 48) = true := by rw [h48]; rfl
          by_cases hk1 : k = 1
          · have e2 : ¬ (1 : Int) < (k : Int) := by omega
            have e3 : ((k : Int) == 1) = true := by rw [hk1]; rfl
            have HX := Lib.hid (show rdN (rest s p) = .bad 20 by rw [HE.out, if_pos (.inr (.inr ⟨rfl, hk1, congrArg some h48⟩))])
            clear HE hqf hm hk0 hk1 h48 hhd
            go_wp2_with ((with_reducible refine wpL_store bT 45 tZ (errT 20) 8 rowTT rfl rfl (tC_one _ _ _ _ _ _ _ _ _ _ _ _) lT ?_ ?_ ?_); rfl; rfl)
            refine bodyPost_ret (results_row Tryd.results24 rowTT rfl (lT.row _) rfl) rfl ?_
            unfold RNumPost
            exact ⟨below_rowSet hba (Nat.le_of_eq hbT) _, .inl ⟨20, HX.out, rfl⟩⟩
          · have e2 : (1 : Int) < (k : Int) := by omega
            have e3 : ((k : Int) == 1) = false := beq_eq_false_iff_ne.2 (by omega)
            have HX := Lib.hid (show rdN (rest s p) = .bad 20 by rw [HE.out, if_pos (.inr (.inl ⟨by omega, congrArg some h48⟩))])
            clear HE hqf hm hk0 hk1 h48 hhd
            go_wp2_with ((with_reducible refine wpL_store bT 45 tZ (errT 20) 8 rowTT rfl rfl (tC_one _ _ _ _ _ _ _ _ _ _ _ _) lT ?_ ?_ ?_); rfl; rfl)
            refine bodyPost_ret (results_row Tryd.results24 rowTT rfl (lT.row _) rfl) rfl ?_
            unfold RNumPost
            exact ⟨below_rowSet hba (Nat.le_of_eq hbT) _, .inl ⟨20, HX.out, rfl⟩⟩
        · have e48 : ((s[f].toNat : Int) == 48) = false := by rw [beq_eq_false_iff_ne]; exact byte_ne h48
          replace HE := Lib.hid (HE.out.trans (if_neg (by rintro (h | ⟨_, h⟩ | ⟨_, _, h⟩); exact hqf h; exact h48 (Option.some.inj h); exact h48 (Option.some.inj h))))
          by_cases hk1 : k = 1
          · have e2 : ¬ (1 : Int) < (k : Int) := by omega
            have e3 : ((k : Int) == 1) = true := by rw [hk1]; rfl
            cases o with
            | true =>
              have HX := Lib.hid (show rdN (rest s p) = .bad 2 from HE.out.trans (if_pos rfl))
              clear HE hqf hm hk0 hk1 h48 hhd
              go_wp2_with ((with_reducible refine wpL_store bT 45 tZ (errT 2) 8 rowTT rfl rfl (tC_one _ _ _ _ _ _ _ _ _ _ _ _) lT ?_ ?_ ?_); rfl; rfl)
              refine bodyPost_ret (results_row Tryd.results24 rowTT rfl (lT.row _) rfl) rfl ?_
              unfold RNumPost
              exact ⟨below_rowSet hba (Nat.le_of_eq hbT) _, .inl ⟨2, HX.out, rfl⟩⟩
            | false =>
              have HX := Lib.hid (show rdN (rest s p) = .ok (-(n : Int)) (rest s s.size) from HE.out.trans (if_neg (by decide)))
              have hn9 : (n : Int) ≤ 1099511627776 := by
                obtain ⟨_, _, _, _, h⟩ := HN.out
                rcases h with ⟨h, _⟩ | ⟨_, _, h⟩
                · cases h
                · omega
              clear HE hqf hm hk0 hk1 h48 hhd
              go_wp2_with ((with_reducible refine wpL_store bT 45 tZ (numT2 (-(n : Int)) s.size) 8 rowTT rfl rfl (tC_one _ _ _ _ _ _ _ _ _ _ _ _) lT ?_ ?_ ?_); rfl; rfl)
              refine bodyPost_ret (results_row Tryd.results24 rowTT rfl (lT.row _) rfl) rfl ?_
              unfold RNumPost
              exact ⟨below_rowSet hba (Nat.le_of_eq hbT) _, .inr ⟨-(n : Int), s.size, HX.out, rfl, HP.out, hq⟩⟩
          · have e2 : (1 : Int) < (k : Int) := by omega
            have e3 : ((k : Int) == 1) = false := beq_eq_false_iff_ne.2 (by omega)
            cases o with
            | true =>
              have HX := Lib.hid (show rdN (rest s p) = .bad 2 from HE.out.trans (if_pos rfl))
              clear HE hqf hm hk0 hk1 h48 hhd
              go_wp2_with ((with_reducible refine wpL_store bT 45 tZ (errT 2) 8 rowTT rfl rfl (tC_one _ _ _ _ _ _ _ _ _ _ _ _) lT ?_ ?_ ?_); rfl; rfl)
              refine bodyPost_ret (results_row Tryd.results24 rowTT rfl (lT.row _) rfl) rfl ?_
              unfold RNumPost
              exact ⟨below_rowSet hba (Nat.le_of_eq hbT) _, .inl ⟨2, HX.out, rfl⟩⟩
            | false =>
              have HX := Lib.hid (show rdN (rest s p) = .ok (-(n : Int)) (rest s s.size) from HE.out.trans (if_neg (by decide)))
              have hn9 : (n : Int) ≤ 1099511627776 := by
                obtain ⟨_, _, _, _, h⟩ := HN.out
                rcases h with ⟨h, _⟩ | ⟨_, _, h⟩
                · cases h
                · omega
              clear HE hqf hm hk0 hk1 h48 hhd
              go_wp2_with ((with_reducible refine wpL_store bT 45 tZ (numT2 (-(n : Int)) s.size) 8 rowTT rfl rfl (tC_one _ _ _ _ _ _ _ _ _ _ _ _) lT ?_ ?_ ?_); rfl; rfl)
              refine bodyPost_ret (results_row Tryd.results24 rowTT rfl (lT.row _) rfl) rfl ?_
              unfold RNumPost
              exact ⟨below_rowSet hba (Nat.le_of_eq hbT) _, .inr ⟨-(n : Int), s.size, HX.out, rfl, HP.out, hq⟩⟩
  · have e45 : ((s[p].toNat : Int) == 45) = false := by rw [beq_eq_false_iff_ne]; exact byte_ne h45
    obtain ⟨f, hf⟩ : ∃ f, f = p := ⟨_, rfl⟩
    have HF := Lib.hid hf
    have hm : minus (rest s p) = false ∧ afterSign (rest s p) = rest s f := by
      have h0 : minus (rest s p) = false := by
        unfold minus
        rw [rest_cons hp]
        simpa using h45
      exact ⟨h0, by unfold afterSign; rw [h0, hf]; rfl⟩
    clear h45 hf
    go_enter Tryd.func24, Tryd.ntmps24
    go_upto_region 7 with fail
    generalize World.alloc w _ = wa at *
    have hfz : f ≤ s.size := by have := HF.out; omega
    have hfp := HF.out
    subst hfp
    go_loopw [1, 7, 8] (fun av nv ov wr => ∃ (q n : Nat) (o : Bool), av = .int .i64 (q : Int) ∧ nv = .int .i64 (n : Int) ∧ ov = .bool o ∧ f ≤ q ∧ q ≤ s.size ∧ Hid (NumTo s f q n o) ∧ wr = wa) (fun av _ _ _ => s.size - (intOf av).toNat)
    case atStart => exact ⟨f, 0, false, rfl, rfl, rfl, Nat.le_refl _, hfz, Lib.hid (NumTo.start s f), rfl⟩
    case round =>
      obtain ⟨q, n, o, rfl, rfl, rfl, hfq, hq, HN, rfl⟩ := hrel
      by_cases hlt : q < s.size
      · have hi2 : (q : Int) < (s.size : Int) := by omega
        by_cases hd : isDig s[q] = true
        · have hd1 : (48 : Int) ≤ (s[q].toNat : Int) ∧ (s[q].toNat : Int) ≤ 57 := by
            unfold isDig at hd
            simp at hd
            omega
          obtain ⟨hd2, hd3⟩ := hd1
          have hS := HN.out.snoc hfq hlt hd
          cases o with
          | true =>
            have HS := Lib.hid (hS.1 rfl)
            have hn : (1099511627776 : Int) < (n : Int) := by
              obtain ⟨_, _, _, _, h⟩ := HN.out
              rcases h with ⟨_, _, h⟩ | ⟨h, _⟩
              · omega
              · cases h
            clear hS
            go_wp2
            go_roundw
            case rel => exact ⟨q + 1, n, true, by go_num, rfl, rfl, by omega, by omega, HS, trivial⟩
            case measure => simp [intOf]; omega
          | false =>
            obtain ⟨hn, hN2⟩ := hS.2 rfl
            obtain ⟨n2, hn2⟩ : ∃ n2, n2 = 10 * n + (s[q].toNat - 48) := ⟨_, rfl⟩
            rw [← hn2] at hN2
            have HS := Lib.hid hN2
            have HN2 := Lib.hid hn2
            have hw1 : IntKind.u8.wrap ((s[q].toNat : Int) - 48) = (s[q].toNat : Int) - 48 := by rw [IntKind.wrap_u8]; omega
            have hn3 : (n : Int) ≤ 1099511627776 := by omega
            clear hS hN2 hn2 hd hn
            go_wp2
            · rename_i hcmp
              have HS3 := Lib.hid (show NumTo s f (q + 1) n2 true from by have h := HS.out; rw [decide_eq_true (by have := HN2.out; omega)] at h; exact h)
              go_roundw
              case rel => exact ⟨q + 1, n2, true, by go_num, by have := HN2.out; congr 1; omega, rfl, by omega, by omega, HS3, trivial⟩
              case measure => simp [intOf]; omega
            · rename_i hcmp
              have HS3 := Lib.hid (show NumTo s f (q + 1) n2 false from by have h := HS.out; rw [decide_eq_false (by have := HN2.out; omega)] at h; exact h)
              go_roundw
              case rel => exact ⟨q + 1, n2, false, by go_num, by have := HN2.out; congr 1; omega, rfl, by omega, by omega, HS3, trivial⟩
              case measure => simp [intOf]; omega
        · have hdl : Delim (rest s q) := by rw [rest_cons hlt]; exact delim_at (by simpa using hd)
          have HE := Lib.hid (num_end hm.1 hm.2 HN.out hdl hfq)
          have hdd : (¬ (48 : Int) ≤ (s[q].toNat : Int)) ∨ ((48 : Int) ≤ (s[q].toNat : Int) ∧ ¬ (s[q].toNat : Int) ≤ 57) := by
            unfold isDig at hd
            simp at hd
            omega
          clear hd hdl
          rcases hdd with hd2 | ⟨hd2, hd3⟩
          all_goals
            by_cases hqf : q = f
            · have e1 : ((q : Int) == (f : Int)) = true := by rw [hqf]; exact beq_self_eq_true _
              have HX := Lib.hid (show rdN (rest s f) = .bad 20 by rw [HE.out, if_pos (.inl hqf)])
              clear HE hqf hm
              go_wp2_with ((with_reducible refine wpL_store bT 45 tZ (errT 20) 8 rowTT rfl rfl (tC_one _ _ _ _ _ _ _ _ _ _ _ _) lT ?_ ?_ ?_); rfl; rfl)
              refine bodyPost_ret (results_row Tryd.results24 rowTT rfl (lT.row _) rfl) rfl ?_
              unfold RNumPost
              exact ⟨below_rowSet hba (Nat.le_of_eq hbT) _, .inl ⟨20, HX.out, rfl⟩⟩
            have e1 : ((q : Int) == (f : Int)) = false := beq_eq_false_iff_ne.2 (by omega)
            obtain ⟨k, hk0⟩ : ∃ k, k = q - f := ⟨_, rfl⟩
            have hfs : f < s.size := by omega
            have hfi : (f : Int) < (s.size : Int) := by omega
            have hk : (q : Int) - (f : Int) = (k : Int) := by omega
            have hhd : (rest s f).head? = some s[f] := by rw [rest_cons hfs]; rfl
            have HP := Lib.hid (show f < q by have := HF.out; omega)
            rw [← hk0, hhd] at HE
            by_cases h48 : s[f] = 48
            · have e48 : ((s[f].toNat : Int) == 48) = true := by rw [h48]; rfl
              by_cases hk1 : k = 1
              · have e2 : ¬ (1 : Int) < (k : Int) := by omega
                have e3 : ((k : Int) == 1) = true := by rw [hk1]; rfl
                replace HE := Lib.hid (HE.out.trans (if_neg (by rintro (h | ⟨h, _⟩ | ⟨h, _⟩); exact hqf h; omega; cases h)))
                cases o with
                | true =>
                  have HX := Lib.hid (show rdN (rest s f) = .bad 2 from HE.out.trans (if_pos rfl))
                  clear HE hqf hm hk0 hk1 h48 hhd
                  go_wp2_with ((with_reducible refine wpL_store bT 45 tZ (errT 2) 8 rowTT rfl rfl (tC_one _ _ _ _ _ _ _ _ _ _ _ _) lT ?_ ?_ ?_); rfl; rfl)
                  refine bodyPost_ret (results_row Tryd.results24 rowTT rfl (lT.row _) rfl) rfl ?_
                  unfold RNumPost
                  exact ⟨below_rowSet hba (Nat.le_of_eq hbT) _, .inl ⟨2, HX.out, rfl⟩⟩
                | false =>
                  have HX := Lib.hid (show rdN (rest s f) = .ok ((n : Int)) (rest s q) from HE.out.trans (if_neg (by decide)))
                  have hn9 : (n : Int) ≤ 1099511627776 := by
                    obtain ⟨_, _, _, _, h⟩ := HN.out
                    rcases h with ⟨h, _⟩ | ⟨_, _, h⟩
                    · cases h
                    · omega
                  clear HE hqf hm hk0 hk1 h48 hhd
                  go_wp2_with ((with_reducible refine wpL_store bT 45 tZ (numT2 ((n : Int)) q) 8 rowTT rfl rfl (tC_one _ _ _ _ _ _ _ _ _ _ _ _) lT ?_ ?_ ?_); rfl; rfl)
                  refine bodyPost_ret (results_row Tryd.results24 rowTT rfl (lT.row _) rfl) rfl ?_
                  unfold RNumPost
                  exact ⟨below_rowSet hba (Nat.le_of_eq hbT) _, .inr ⟨(n : Int), q, HX.out, rfl, HP.out, hq⟩⟩
              · have e2 : (1 : Int) < (k : Int) := by omega
                have e3 : ((k : Int) == 1) = false := beq_eq_false_iff_ne.2 (by omega)
                have HX := Lib.hid (show rdN (rest s f) = .bad 20 by rw [HE.out, if_pos (.inr (.inl ⟨by omega, congrArg some h48⟩))])
                clear HE hqf hm hk0 hk1 h48 hhd
                go_wp2_with ((with_reducible refine wpL_store bT 45 tZ (errT 20) 8 rowTT rfl rfl (tC_one _ _ _ _ _ _ _ _ _ _ _ _) lT ?_ ?_ ?_); rfl; rfl)
                refine bodyPost_ret (results_row Tryd.results24 rowTT rfl (lT.row _) rfl) rfl ?_
                unfold RNumPost
                exact ⟨below_rowSet hba (Nat.le_of_eq hbT) _, .inl ⟨20, HX.out, rfl⟩⟩
            · have e48 : ((s[f].toNat : Int) == 48) = false := by rw [beq_eq_false_iff_ne]; exact byte_ne h48
              replace HE := Lib.hid (HE.out.trans (if_neg (by rintro (h | ⟨_, h⟩ | ⟨_, _, h⟩); exact hqf h; exact h48 (Option.some.inj h); exact h48 (Option.some.inj h))))
              by_cases hk1 : k = 1
              · have e2 : ¬ (1 : Int) < (k : Int) := by omega
                have e3 : ((k : Int) == 1) = true := by rw [hk1]; rfl
                cases o with
                | true =>
                  have HX := Lib.hid (show rdN (rest s f) = .bad 2 from HE.out.trans (if_pos rfl))
                  clear HE hqf hm hk0 hk1 h48 hhd
                  go_wp2_with ((with_reducible refine wpL_store bT 45 tZ (errT 2) 8 rowTT rfl rfl (tC_one _ _ _ _ _ _ _ _ _ _ _ _) lT ?_ ?_ ?_); rfl; rfl)
                  refine bodyPost_ret (results_row Tryd.results24 rowTT rfl (lT.row _) rfl) rfl ?_
                  unfold RNumPost
                  exact ⟨below_rowSet hba (Nat.le_of_eq hbT) _, .inl ⟨2, HX.out, rfl⟩⟩
                | false =>
                  have HX := Lib.hid (show rdN (rest s f) = .ok ((n : Int)) (rest s q) from HE.out.trans (if_neg (by decide)))
                  have hn9 : (n : Int) ≤ 1099511627776 := by
                    obtain ⟨_, _, _, _, h⟩ := HN.out
                    rcases h with ⟨h, _⟩ | ⟨_, _, h⟩
                    · cases h
                    · omega
                  clear HE hqf hm hk0 hk1 h48 hhd
                  go_wp2_with ((with_reducible refine wpL_store bT 45 tZ (numT2 ((n : Int)) q) 8 rowTT rfl rfl (tC_one _ _ _ _ _ _ _ _ _ _ _ _) lT ?_ ?_ ?_); rfl; rfl)
                  refine bodyPost_ret (results_row Tryd.results24 rowTT rfl (lT.row _) rfl) rfl ?_
                  unfold RNumPost
                  exact ⟨below_rowSet hba (Nat.le_of_eq hbT) _, .inr ⟨(n : Int), q, HX.out, rfl, HP.out, hq⟩⟩
              · have e2 : (1 : Int) < (k : Int) := by omega
                have e3 : ((k : Int) == 1) = false := beq_eq_false_iff_ne.2 (by omega)
                cases o with
                | true =>
                  have HX := Lib.hid (show rdN (rest s f) = .bad 2 from HE.out.trans (if_pos rfl))
                  clear HE hqf hm hk0 hk1 h48 hhd
                  go_wp2_with ((with_reducible refine wpL_store bT 45 tZ (errT 2) 8 rowTT rfl rfl (tC_one _ _ _ _ _ _ _ _ _ _ _ _) lT ?_ ?_ ?_); rfl; rfl)
                  refine bodyPost_ret (results_row Tryd.results24 rowTT rfl (lT.row _) rfl) rfl ?_
                  unfold RNumPost
                  exact ⟨below_rowSet hba (Nat.le_of_eq hbT) _, .inl ⟨2, HX.out, rfl⟩⟩
                | false =>
                  have HX := Lib.hid (show rdN (rest s f) = .ok ((n : Int)) (rest s q) from HE.out.trans (if_neg (by decide)))
                  have hn9 : (n : Int) ≤ 1099511627776 := by
                    obtain ⟨_, _, _, _, h⟩ := HN.out
                    rcases h with ⟨h, _⟩ | ⟨_, _, h⟩
                    · cases h
                    · omega
                  clear HE hqf hm hk0 hk1 h48 hhd
                  go_wp2_with ((with_reducible refine wpL_store bT 45 tZ (numT2 ((n : Int)) q) 8 rowTT rfl rfl (tC_one _ _ _ _ _ _ _ _ _ _ _ _) lT ?_ ?_ ?_); rfl; rfl)
                  refine bodyPost_ret (results_row Tryd.results24 rowTT rfl (lT.row _) rfl) rfl ?_
                  unfold RNumPost
                  exact ⟨below_rowSet hba (Nat.le_of_eq hbT) _, .inr ⟨(n : Int), q, HX.out, rfl, HP.out, hq⟩⟩
      · obtain rfl : q = s.size := by omega
        have hi2 : ¬ (s.size : Int) < (s.size : Int) := by omega
        have hdl : Delim (rest s s.size) := by rw [rest_none]; intro c t h; cases h
        have HE := Lib.hid (num_end hm.1 hm.2 HN.out hdl hfq)
        clear hdl
        by_cases hqf : s.size = f
        · have e1 : ((s.size : Int) == (f : Int)) = true := by rw [hqf]; exact beq_self_eq_true _
          have HX := Lib.hid (show rdN (rest s f) = .bad 20 by rw [HE.out, if_pos (.inl hqf)])
          clear HE hqf hm
          go_wp2_with ((with_reducible refine wpL_store bT 45 tZ (errT 20) 8 rowTT rfl rfl (tC_one _ _ _ _ _ _ _ _ _ _ _ _) lT ?_ ?_ ?_); rfl; rfl)
          refine bodyPost_ret (results_row Tryd.results24 rowTT rfl (lT.row _) rfl) rfl ?_
          unfold RNumPost
          exact ⟨below_rowSet hba (Nat.le_of_eq hbT) _, .inl ⟨20, HX.out, rfl⟩⟩
        have e1 : ((s.size : Int) == (f : Int)) = false := beq_eq_false_iff_ne.2 (by omega)
        obtain ⟨k, hk0⟩ : ∃ k, k = s.size - f := ⟨_, rfl⟩
        have hfs : f < s.size := by omega
        have hfi : (f : Int) < (s.size : Int) := by omega
        have hk : (s.size : Int) - (f : Int) = (k : Int) := by omega
        have hhd : (rest s f).head? = some s[f] := by rw [rest_cons hfs]; rfl
        have HP := Lib.hid (show f < s.size by have := HF.out; omega)
        rw [← hk0, hhd] at HE
        by_cases h48 : s[f] = 48
        · have e48 : ((s[f].toNat : Int) == 48) = true := by rw [h48]; rfl
          by_cases hk1 : k = 1
          · have e2 : ¬ (1 : Int) < (k : Int) := by omega
            have e3 : ((k : Int) == 1) = true := by rw [hk1]; rfl
            replace HE := Lib.hid (HE.out.trans (if_neg (by rintro (h | ⟨h, _⟩ | ⟨h, _⟩); exact hqf h; omega; cases h)))
            cases o with
            | true =>
              have HX := Lib.hid (show rdN (rest s f) = .bad 2 from HE.out.trans (if_pos rfl))
              clear HE hqf hm hk0 hk1 h48 hhd
              go_wp2_with ((with_reducible refine wpL_store bT 45 tZ (errT 2) 8 rowTT rfl rfl (tC_one _ _ _ _ _ _ _ _ _ _ _ _) lT ?_ ?_ ?_); rfl; rfl)
              refine bodyPost_ret (results_row Tryd.results24 rowTT rfl (lT.row _) rfl) rfl ?_
              unfold RNumPost
              exact ⟨below_rowSet hba (Nat.le_of_eq hbT) _, .inl ⟨2, HX.out, rfl⟩⟩
            | false =>
              have HX := Lib.hid (show rdN (rest s f) = .ok ((n : Int)) (rest s s.size) from HE.out.trans (if_neg (by decide)))
              have hn9 : (n : Int) ≤ 1099511627776 := by
                obtain ⟨_, _, _, _, h⟩ := HN.out
                rcases h with ⟨h, _⟩ | ⟨_, _, h⟩
                · cases h
                · omega
              clear HE hqf hm hk0 hk1 h48 hhd
              go_wp2_with ((with_reducible refine wpL_store bT 45 tZ (numT2 ((n : Int)) s.size) 8 rowTT rfl rfl (tC_one _ _ _ _ _ _ _ _ _ _ _ _) lT ?_ ?_ ?_); rfl; rfl)
              refine bodyPost_ret (results_row Tryd.results24 rowTT rfl (lT.row _) rfl) rfl ?_
              unfold RNumPost
              exact ⟨below_rowSet hba (Nat.le_of_eq hbT) _, .inr ⟨(n : Int), s.size, HX.out, rfl, HP.out, hq⟩⟩
          · have e2 : (1 : Int) < (k : Int) := by omega
            have e3 : ((k : Int) == 1) = false := beq_eq_false_iff_ne.2 (by omega)
            have HX := Lib.hid (show rdN (rest s f) = .bad 20 by rw [HE.out, if_pos (.inr (.inl ⟨by omega, congrArg some h48⟩))])
            clear HE hqf hm hk0 hk1 h48 hhd
            go_wp2_with ((with_reducible refine wpL_store bT 45 tZ (errT 20) 8 rowTT rfl rfl (tC_one _ _ _ _ _ _ _ _ _ _ _ _) lT ?_ ?_ ?_); rfl; rfl)
            refine bodyPost_ret (results_row Tryd.results24 rowTT rfl (lT.row _) rfl) rfl ?_
            unfold RNumPost
            exact ⟨below_rowSet hba (Nat.le_of_eq hbT) _, .inl ⟨20, HX.out, rfl⟩⟩
        · have e48 : ((s[f].toNat : Int) == 48) = false := by rw [beq_eq_false_iff_ne]; exact byte_ne h48
          have e49 : ¬ (s[f].toNat : Int) = 48 := byte_ne h48
          replace HE := Lib.hid (HE.out.trans (if_neg (by rintro (h | ⟨_, h⟩ | ⟨_, _, h⟩); exact hqf h; exact h48 (Option.some.inj h); exact h48 (Option.some.inj h))))
          by_cases hk1 : k = 1
          · have e2 : ¬ (1 : Int) < (k : Int) := by omega
            have e3 : ((k : Int) == 1) = true := by rw [hk1]; rfl
            cases o with
            | true =>
              have HX := Lib.hid (show rdN (rest s f) = .bad 2 from HE.out.trans (if_pos rfl))
              clear HE hqf hm hk0 hk1 h48 hhd
              go_wp2_with ((with_reducible refine wpL_store bT 45 tZ (errT 2) 8 rowTT rfl rfl (tC_one _ _ _ _ _ _ _ _ _ _ _ _) lT ?_ ?_ ?_); rfl; rfl)
              refine bodyPost_ret (results_row Tryd.results24 rowTT rfl (lT.row _) rfl) rfl ?_
              unfold RNumPost
              exact ⟨below_rowSet hba (Nat.le_of_eq hbT) _, .inl ⟨2, HX.out, rfl⟩⟩
            | false =>
              have HX := Lib.hid (show rdN (rest s f) = .ok ((n : Int)) (rest s s.size) from HE.out.trans (if_neg (by decide)))
              have hn9 : (n : Int) ≤ 1099511627776 := by
                obtain ⟨_, _, _, _, h⟩ := HN.out
                rcases h with ⟨h, _⟩ | ⟨_, _, h⟩
                · cases h
                · omega
              clear HE hqf hm hk0 hk1 h48 hhd
              go_wp2_with ((with_reducible refine wpL_store bT 45 tZ (numT2 ((n : Int)) s.size) 8 rowTT rfl rfl (tC_one _ _ _ _ _ _ _ _ _ _ _ _) lT ?_ ?_ ?_); rfl; rfl)
              refine bodyPost_ret (results_row Tryd.results24 rowTT rfl (lT.row _) rfl) rfl ?_
              unfold RNumPost
              exact ⟨below_rowSet hba (Nat.le_of_eq hbT) _, .inr ⟨(n : Int), s.size, HX.out, rfl, HP.out, hq⟩⟩
          · have e2 : (1 : Int) < (k : Int) := by omega
            have e3 : ((k : Int) == 1) = false := beq_eq_false_iff_ne.2 (by omega)
            cases o with
            | true =>
              have HX := Lib.hid (show rdN (rest s f) = .bad 2 from HE.out.trans (if_pos rfl))
              clear HE hqf hm hk0 hk1 h48 hhd
              go_wp2_with ((with_reducible refine wpL_store bT 45 tZ (errT 2) 8 rowTT rfl rfl (tC_one _ _ _ _ _ _ _ _ _ _ _ _) lT ?_ ?_ ?_); rfl; rfl)
              refine bodyPost_ret (results_row Tryd.results24 rowTT rfl (lT.row _) rfl) rfl ?_
              unfold RNumPost
              exact ⟨below_rowSet hba (Nat.le_of_eq hbT) _, .inl ⟨2, HX.out, rfl⟩⟩
            | false =>
              have HX := Lib.hid (show rdN (rest s f) = .ok ((n : Int)) (rest s s.size) from HE.out.trans (if_neg (by decide)))
              have hn9 : (n : Int) ≤ 1099511627776 := by
                obtain ⟨_, _, _, _, h⟩ := HN.out
                rcases h with ⟨h, _⟩ | ⟨_, _, h⟩
                · cases h
                · omega
              clear HE hqf hm hk0 hk1 h48 hhd
              go_wp2_with ((with_reducible refine wpL_store bT 45 tZ (numT2 ((n : Int)) s.size) 8 rowTT rfl rfl (tC_one _ _ _ _ _ _ _ _ _ _ _ _) lT ?_ ?_ ?_); rfl; rfl)
              refine bodyPost_ret (results_row Tryd.results24 rowTT rfl (lT.row _) rfl) rfl ?_
              unfold RNumPost
              exact ⟨below_rowSet hba (Nat.le_of_eq hbT) _, .inr ⟨(n : Int), s.size, HX.out, rfl, HP.out, hq⟩⟩
end Go.Proofs.YtmbmeidkmhajbaaDoor.V

/- The reference's Value, its memory: what was read of a list that has not ended, and what stays of it. -/
namespace Go.Proofs.YtmbmeidkmhajbaaDoor.V
set_option maxRecDepth 100000
open Go.RowKit Go.Sort Go.Joins

/-- the blocks that a list that was read must not lie in -/
def rX (B bT bv : Nat) (m : Fm) : List Nat := bT :: bv :: (blks m.vi ++ (blks m.vk ++ List.range B))
theorem mem_rX {B bT bv : Nat} {m : Fm} {k : Nat} : k ∈ rX B bT bv m ↔ k = bT ∨ k = bv ∨ k ∈ blks m.vi ∨ k ∈ blks m.vk ∨ k < B := by
  simp [rX]
/-- the walk's memory: the answer's variable, the list's own, and what was read of it -/
structure RSt (w0 wr : World) (B bT bv q : Nat) (m : Fm) : Prop where
  lT : Lies wr bT 45 tZ
  lV : Lies wr bv 25 m.cells.toArray
  fm : FmOk wr B (rX B bT bv m) q m
  nT : bT ∉ blks m.vi ∧ bT ∉ blks m.vk
  nV : bv ∉ blks m.vi ∧ bv ∉ blks m.vk
  sep : ∀ b ∈ blks m.vi, b ∉ blks m.vk
  ne : bT ≠ bv
  hT : B ≤ bT
  hV : B ≤ bv
  hb : RowKit.Below B w0 wr
  size : B ≤ wr.heap.size
theorem Turn.on {X : List Nat} {w w' : World} (h : RowKit.Below w.heap.size w w') : Turn X X w w' := Turn.of_below h
theorem RSt.on {w0 wr w2 : World} {B bT bv q : Nat} {m : Fm} (h : RSt w0 wr B bT bv q m) (hb : RowKit.Below wr.heap.size wr w2) {q2 : Nat} (hq : q ≤ q2) : RSt w0 w2 B bT bv q2 m :=
  { h with lT := h.lT.on hb, lV := h.lV.on hb, fm := h.fm.turn (Turn.of_below hb) (Y := []) (Y' := []) (Turn.of_below hb) (fun b _ hx => by cases hx) hq, hb := h.hb.trans (hb.mono h.size), size := Nat.le_trans h.size hb.size }
theorem RSt.blocks {w0 wr : World} {B bT bv q : Nat} {m : Fm} (h : RSt w0 wr B bT bv q m) : ∀ k ∈ rX B bT bv m, k < wr.heap.size := by
  intro k hk
  obtain ⟨⟨ics, h1, _⟩, h2, _⟩ := h.fm
  rcases mem_rX.1 hk with rfl | rfl | hk | hk | hk
  · exact h.lT.lt
  · exact h.lV.lt
  · exact (h1.blk_lt k hk).2
  · exact (h2.blk_lt k hk).2
  · have := h.size; omega
/-- an item goes behind the others -/
theorem RSt.item {w0 wr wf : World} {B bT bv q q2 : Nat} {fr : Fr} {vi vk v'' : Value} {ics : List (List Value)} {cs : List Value} {x : VT} {d : Nat} (h : RSt w0 wr B bT bv q ⟨fr, vi, vk⟩) (hi : ItemsX (rX B bT bv ⟨fr, vi, vk⟩) wr ics fr.items)
    (hx : IsVX (rX B bT bv ⟨fr, vi, vk⟩) wr d cs x) (hp : PutDone 25 5 wr wf B bv 3 vi v'' ics cs) (hq : q < q2) (f : Nat) : RSt w0 wf B bT bv q2 ⟨⟨fr.map, fr.items ++ [x], fr.keys, f⟩, v'', vk⟩ := by
  have hlt := h.blocks
  have hX : Turn (rX B bT bv ⟨fr, vi, vk⟩) (rX B bT bv ⟨⟨fr.map, fr.items ++ [x], fr.keys, f⟩, v'', vk⟩) wr wf := hp.turn.wide (fun k hk => by
      rcases List.mem_cons.1 hk with rfl | hk
      · exact mem_rX.2 (.inr (.inl rfl))
      · exact mem_rX.2 (.inr (.inr (.inl hk)))) (fun k hk => by
      rcases mem_rX.1 hk with hk | hk | hk | hk | hk
      · exact .inl (mem_rX.2 (.inl hk))
      · exact .inl (mem_rX.2 (.inr (.inl hk)))
      · rcases hp.loc with hl | ⟨b, hl, hb⟩
        · exact .inl (mem_rX.2 (.inr (.inr (.inl (by rw [← hl]; exact hk)))))
        · rw [hl, List.mem_singleton] at hk
          exact .inr (by rw [hk]; exact hb)
      · exact .inl (mem_rX.2 (.inr (.inr (.inr (.inl hk)))))
      · exact .inl (mem_rX.2 (.inr (.inr (.inr (.inr hk))))))
  have hv'' : ∀ b ∈ blks v'', b ∈ blks vi ∨ wr.heap.size ≤ b := fun b hb => by
    rcases hp.loc with hl | ⟨b', hl, hb'⟩
    · exact .inl (by rw [← hl]; exact hb)
    · rw [hl, List.mem_singleton] at hb
      exact .inr (by rw [hb]; exact hb')
  obtain ⟨_, h2, h3, h4, h5, h6⟩ := h.fm
  have hkk : ∀ b ∈ blks vk, b ∉ bv :: blks vi := fun b hb hm => by
    rcases List.mem_cons.1 hm with rfl | hm
    · exact h.nV.2 hb
    · exact h.sep b hm hb
  refine ⟨hp.turn.lies (fun hm => ?_) h.lT, hp.cell _ _ _ h.lV, ⟨⟨ics ++ [cs], hp.own, (hi.turn hX).snoc (hx.turn hX)⟩, h2.turn hp.turn hkk, h3, ?_, Nat.le_trans h5 (Nat.le_of_lt hq), h6⟩, ⟨?_, h.nT.2⟩, ⟨?_, h.nV.2⟩, ?_, h.ne, h.hT, h.hV, ?_, Nat.le_trans h.size hp.turn.size⟩
  · rcases List.mem_cons.1 hm with e | hm
    · exact h.ne e
    · exact h.nT.1 hm
  · show (fr.items ++ [x]).length ≤ q2
    have h4 : fr.items.length ≤ q := h4
    rw [List.length_append, List.length_singleton]
    omega
  · intro hm
    rcases hv'' _ hm with hm | hm
    · exact h.nT.1 hm
    · have := hlt bT (mem_rX.2 (.inl rfl)); omega
  · intro hm
    rcases hv'' _ hm with hm | hm
    · exact h.nV.1 hm
    · have := hlt bv (mem_rX.2 (.inr (.inl rfl))); omega
  · intro b hb hk
    rcases hv'' _ hb with hm | hm
    · exact h.sep b hm hk
    · have := hlt b (mem_rX.2 (.inr (.inr (.inr (.inl hk))))); omega
  · refine h.hb.trans (hp.turn.below (fun k hk => ?_) h.size)
    rcases List.mem_cons.1 hk with rfl | hk
    · exact h.hV
    · obtain ⟨⟨ics', g1, _⟩, _⟩ := h.fm
      exact (g1.blk_lt k hk).1
/-- a key goes behind the others -/
theorem RSt.key {w0 wr wf : World} {B bT bv q q2 : Nat} {fr : Fr} {vi vk v'' : Value} {k : List UInt8} (h : RSt w0 wr B bT bv q ⟨fr, vi, vk⟩) (hm : fr.map = true) (hk : k.length ≤ 4000)
    (hp : PutDone 9 1 wr wf B bv 4 vk v'' (fr.keys.map fun k => [str k]) [str k]) (hq : q < q2) (f : Nat) : RSt w0 wf B bT bv q2 ⟨⟨fr.map, fr.items, fr.keys ++ [k], f⟩, vi, v''⟩ := by
  have hlt := h.blocks
  have hX : Turn (rX B bT bv ⟨fr, vi, vk⟩) (rX B bT bv ⟨⟨fr.map, fr.items, fr.keys ++ [k], f⟩, vi, v''⟩) wr wf := hp.turn.wide (fun k hk => by
      rcases List.mem_cons.1 hk with rfl | hk
      · exact mem_rX.2 (.inr (.inl rfl))
      · exact mem_rX.2 (.inr (.inr (.inr (.inl hk))))) (fun k hk => by
      rcases mem_rX.1 hk with hk | hk | hk | hk | hk
      · exact .inl (mem_rX.2 (.inl hk))
      · exact .inl (mem_rX.2 (.inr (.inl hk)))
      · exact .inl (mem_rX.2 (.inr (.inr (.inl hk))))
      · rcases hp.loc with hl | ⟨b, hl, hb⟩
        · exact .inl (mem_rX.2 (.inr (.inr (.inr (.inl (by rw [← hl]; exact hk))))))
        · rw [hl, List.mem_singleton] at hk
          exact .inr (by rw [hk]; exact hb)
      · exact .inl (mem_rX.2 (.inr (.inr (.inr (.inr hk))))))
  have hv'' : ∀ b ∈ blks v'', b ∈ blks vk ∨ wr.heap.size ≤ b := fun b hb => by
    rcases hp.loc with hl | ⟨b', hl, hb'⟩
    · exact .inl (by rw [← hl]; exact hb)
    · rw [hl, List.mem_singleton] at hb
      exact .inr (by rw [hb]; exact hb')
  obtain ⟨⟨ics, h1, h1'⟩, h2, h3, h4, h5, h6⟩ := h.fm
  have hii : ∀ b ∈ blks vi, b ∉ bv :: blks vk := fun b hb hm => by
    rcases List.mem_cons.1 hm with rfl | hm
    · exact h.nV.1 hb
    · exact h.sep b hb hm
  refine ⟨hp.turn.lies (fun hm => ?_) h.lT, hp.cell _ _ _ h.lV, ⟨⟨ics, h1.turn hp.turn hii, h1'.turn hX⟩, ?_, (fun e => by rw [show fr.map = true from hm] at e; cases e), Nat.le_trans h4 (Nat.le_of_lt hq), ?_, ?_⟩, ⟨h.nT.1, ?_⟩, ⟨h.nV.1, ?_⟩, ?_, h.ne, h.hT, h.hV, ?_, Nat.le_trans h.size hp.turn.size⟩
  · rcases List.mem_cons.1 hm with e | hm
    · exact h.ne e
    · exact h.nT.2 hm
  · have := hp.own
    show OwnL wf B 9 1 v'' ((fr.keys ++ [k]).map fun k => [str k])
    rw [List.map_append]
    exact this
  · show (fr.keys ++ [k]).length ≤ q2
    have h5 : fr.keys.length ≤ q := h5
    rw [List.length_append, List.length_singleton]
    omega
  · intro x hx
    rcases List.mem_append.1 hx with hx | hx
    · exact h6 x hx
    · rw [List.mem_singleton.1 hx]; exact hk
  · intro hm
    rcases hv'' _ hm with hm | hm
    · exact h.nT.2 hm
    · have := hlt bT (mem_rX.2 (.inl rfl)); omega
  · intro hm
    rcases hv'' _ hm with hm | hm
    · exact h.nV.2 hm
    · have := hlt bv (mem_rX.2 (.inr (.inl rfl))); omega
  · intro b hb hk
    rcases hv'' _ hk with hm | hm
    · exact h.sep b hb hm
    · have := hlt b (mem_rX.2 (.inr (.inr (.inl hb)))); omega
  · refine h.hb.trans (hp.turn.below (fun k hk => ?_) h.size)
    rcases List.mem_cons.1 hk with rfl | hk
    · exact h.hV
    · exact (h2.blk_lt k hk).1
/-- what was read is a value, in none of the blocks that were there before, nor in the answer's variable -/
theorem RSt.value {w0 wr : World} {B bT bv q : Nat} {m : Fm} (h : RSt w0 wr B bT bv q m) : ∃ d, ∀ E : List Nat, (∀ b ∈ E, b < B) → IsVX (bT :: E) wr d m.cells m.vt := by
  obtain ⟨⟨ics, h1, _⟩, h2, _⟩ := h.fm
  obtain ⟨d, hd⟩ := h.fm.value (X' := bT :: List.range B) (fun b hb => by
      rcases List.mem_cons.1 hb with rfl | hb
      · exact mem_rX.2 (.inl rfl)
      · exact mem_rX.2 (.inr (.inr (.inr (.inr (List.mem_range.1 hb)))))) (fun b hb hm => by
      rcases List.mem_cons.1 hm with rfl | hm
      · exact h.nT.1 hb
      · have := (h1.blk_lt b hb).1; have := List.mem_range.1 hm; omega) (fun b hb hm => by
      rcases List.mem_cons.1 hm with rfl | hm
      · exact h.nT.2 hb
      · have := (h2.blk_lt b hb).1; have := List.mem_range.1 hm; omega)
  exact ⟨d, fun E hE => hd.turn ((Turn.refl _ wr).wide (fun k hk => hk) (fun k hk => .inl (by
    rcases List.mem_cons.1 hk with rfl | hk
    · exact List.mem_cons_self ..
    · exact List.mem_cons_of_mem _ (List.mem_range.2 (hE k hk)))))⟩
/-- a list begins -/
theorem RSt.start {w0 wr : World} {B bT bv q : Nat} (map : Bool) (f : Nat) (lT : Lies wr bT 45 tZ) (lV : Lies wr bv 25 #[.int .i64 (Fr.kind ⟨map, [], [], 0⟩), .int .i64 0, .string ⟨#[]⟩, .slice none 0 0, .slice none 0 0]) (ne : bT ≠ bv) (hT : B ≤ bT) (hV : B ≤ bv) (hb : RowKit.Below B w0 wr) (hs : B ≤ wr.heap.size) :
    RSt w0 wr B bT bv q ⟨⟨map, [], [], f⟩, .slice none 0 0, .slice none 0 0⟩ :=
  ⟨lT, lV, ⟨⟨[], OwnL.nil _ _ _ _, rfl, fun i cs x h => by simp at h⟩, OwnL.nil _ _ _ _, fun _ => rfl, Nat.zero_le _, Nat.zero_le _, (fun k hk => by cases hk)⟩, ⟨by simp [blks, Value.ownBlock], by simp [blks, Value.ownBlock]⟩, ⟨by simp [blks, Value.ownBlock], by simp [blks, Value.ownBlock]⟩, (fun b hb => by simp [blks, Value.ownBlock] at hb), ne, hT, hV, hb, hs⟩
section
variable {ops : Array Oper} {rest : List Oper} {a : Act} {w : World} {Q : Exit → Act → World → Prop} {t' : TypeId} {pos : String} {after : Array Edge}
/-- a value behind a row of values that the call owns -/
theorem wpL_putV {d : Option Tmp} {x y : Tmp} (B : Nat) (v : Value) (css : List (List Value)) (cs : List Value) (bn : Nat) (hown : OwnL w B 25 5 v css) (hk : cs.length = 5) (h1 : ∀ u ∈ cs, u.oneCell' = true) (hzl : Lies w bn 25 cs.toArray) (hn : css.length ≤ 100000) (hbase : B ≤ w.heap.size)
    (hs : a.eval (.tmp x) = v) (hx : a.eval (.tmp y) = .slice (some ⟨bn, 0, none⟩) 1 1)
    (h : ∀ g cap w', OwnL w' B 25 5 (.slice (some ⟨g, 0, none⟩) (css.length + 1) cap) (css ++ [cs]) → w.grownBy w' v.ownBlock → (v.ownBlock = some g ∨ g = w.heap.size) → wpList Tryd.prog ops Q rest (a.put d (.slice (some ⟨g, 0, none⟩) (css.length + 1) cap)) w') :
    wpList Tryd.prog ops Q (⟨d, .call { callee := .builtin .append, args := #[.tmp x, .tmp y], argTypes := #[22, 22] }, t', pos, after, none⟩ :: rest) a w := by
  obtain ⟨i0, hi, hz0, hz1, hz2⟩ := info_parts infoV
  refine wpList_append_lies (o := ⟨d, .call { callee := .builtin .append, args := #[.tmp x, .tmp y], argTypes := #[22, 22] }, t', pos, after, none⟩) w rfl _ _ 22 rfl B 25 i0 _ 5 80 Tryd.underlying22 hi hz0 hz1 hz2 rfl (by decide) v css.length css.flatten hs hown.2 ⟨bn, 0, none⟩ 1 1 cs hx (by rw [hk]) (fun j u hj => ?_) h1 (by decide) (by unfold maxLen; omega) (by omega) hbase w.heap.size rfl (fun g cap w' h1 h2 h3 _ => h g cap w' ⟨fun c hc => ?_, ?_⟩ h2 h3)
  · rw [Addr.add_mid, Nat.zero_add, hzl.cell]
    simpa using hj
  · rcases List.mem_append.1 hc with hc | hc
    · exact hown.1 c hc
    · rw [List.mem_singleton.1 hc]; exact hk
  · rw [List.length_append, List.length_singleton, List.flatten_append]
    simpa using h1
end
end Go.Proofs.YtmbmeidkmhajbaaDoor.V

/- The reference's Value where nothing stands in it: too deep, too many, numbers, texts, what begins none. -/
namespace Go.Proofs.YtmbmeidkmhajbaaDoor.V
set_option maxRecDepth 100000
open Go.RowKit Go.Sort Go.Joins

theorem sign_at {s : ByteArray} {p : Nat} (h : p < s.size) : signAt s p = (s[p].toNat : Int) := by unfold signAt; rw [rest_cons h]; rfl
theorem sign_end (s : ByteArray) : signAt s s.size = -1 := by unfold signAt; rw [rest_none]; rfl
section
variable (w : World) (s : ByteArray) (p L D n : Nat)
theorem rval_deep (hD : D = 12) : Calls Tryd.prog 17 #[.string s, .int .i64 (p : Int), .int .i64 (D : Int), .int .i64 (n : Int)] w fun e w' => RValPost w s p 0 n e w' := by
  subst hD
  have lT := Lies.new w 45 tZ
  have hba := (RowKit.Below.refl w.heap.size w).alloc (Nat.le_refl _) (.cells tZ 45)
  go_enter Tryd.func17, Tryd.ntmps17
  go_wp2_with ((with_reducible refine wpL_store w.heap.size 45 tZ (errT 21) 8 rowTT rfl rfl (tC_one _ _ _ _ _ _ _ _ _ _ _ _) lT ?_ ?_ ?_); rfl; rfl)
  refine bodyPost_ret (results_row Tryd.results17 rowTT rfl (lT.row _) rfl) rfl ?_
  exact ⟨below_rowSet hba (Nat.le_refl _) _, .inl ⟨21, 0, 0, ⟨#[]⟩, 0, 0, begin_deep n _, rfl⟩⟩
theorem rval_many (hL : D + (L + 1) = 12) : Calls Tryd.prog 17 #[.string s, .int .i64 (p : Int), .int .i64 (D : Int), .int .i64 2000] w fun e w' => RValPost w s p (L + 1) 2000 e w' := by
  have e1 : ((D : Int) == 12) = false := by rw [beq_eq_false_iff_ne]; omega
  have lT := Lies.new w 45 tZ
  have hba := (RowKit.Below.refl w.heap.size w).alloc (Nat.le_refl _) (.cells tZ 45)
  go_enter Tryd.func17, Tryd.ntmps17
  go_wp2_with ((with_reducible refine wpL_store w.heap.size 45 tZ (errT 22) 8 rowTT rfl rfl (tC_one _ _ _ _ _ _ _ _ _ _ _ _) lT ?_ ?_ ?_); rfl; rfl)
  refine bodyPost_ret (results_row Tryd.results17 rowTT rfl (lT.row _) rfl) rfl ?_
  exact ⟨below_rowSet hba (Nat.le_refl _) _, .inl ⟨22, 0, 0, ⟨#[]⟩, 0, 0, begin_many L _, rfl⟩⟩
theorem rval_wrong (hL : D + (L + 1) = 12) (hn : n < 2000) (hp : p ≤ s.size) (hR : rdV (L + 1) n (rest s p) = .bad (if rest s p = [] then 3 else 20)) (z : Int) (hz : signAt s p = z)
    (z1 : (z == 45) = false) (z2 : ¬ (48 ≤ z ∧ z ≤ 57)) (z3 : (z == 34) = false) (z4 : (z != 91) = true) (z5 : (z != 123) = true) :
    Calls Tryd.prog 17 #[.string s, .int .i64 (p : Int), .int .i64 (D : Int), .int .i64 (n : Int)] w fun e w' => RValPost w s p (L + 1) n e w' := by
  have e1 : ((D : Int) == 12) = false := by rw [beq_eq_false_iff_ne]; omega
  have e2 : ((n : Int) == 2000) = false := by rw [beq_eq_false_iff_ne]; omega
  have HS := Lib.hid (fun (w : World) => by have h := refSign_any w s p hp; rw [hz] at h; exact h)
  have HW := Lib.hid (fun (w : World) => wrong_any w s p hp)
  have lT := Lies.new w 45 tZ
  have hba := (RowKit.Below.refl w.heap.size w).alloc (Nat.le_refl _) (.cells tZ 45)
  obtain ⟨b, hb⟩ : ∃ b, w.heap.size = b := ⟨_, rfl⟩
  have hbl : w.heap.size ≤ b := Nat.le_of_eq hb
  generalize (if rest s p = [] then (3 : Int) else 20) = er at *
  have z2' : (decide (48 ≤ z) && decide (z ≤ 57)) = false := by simpa using z2
  by_cases z6 : 48 ≤ z
  · have z7 : ¬ z ≤ 57 := fun h => z2 ⟨z6, h⟩
    clear z2 z2' hz
    rw [hb] at lT
    have HR := Lib.hid hR
    clear hR
    go_enter Tryd.func17, Tryd.ntmps17
    go_wp2_with (first
      | (go_at_call 23; refine (HS.out _).mono ?_; rintro e w1 ⟨rfl, rfl⟩)
      | (go_at_call 26; refine (HW.out _).mono ?_; rintro e w2 ⟨rfl, hb2⟩)
      | ((with_reducible refine wpL_store b 45 tZ (errT er) 8 rowTT rfl rfl (tC_one _ _ _ _ _ _ _ _ _ _ _ _) (lT.on hb2) ?_ ?_ ?_); rfl; rfl))
    refine bodyPost_ret (results_row Tryd.results17 rowTT rfl ((lT.on hb2).row _) rfl) rfl ?_
    exact ⟨below_rowSet (below_on hba hb2) hbl _, .inl ⟨er, 0, 0, ⟨#[]⟩, 0, 0, HR.out, rfl⟩⟩
  · have z7 : ¬ 48 ≤ z := z6
    clear z2 z2' hz
    rw [hb] at lT
    have HR := Lib.hid hR
    clear hR
    go_enter Tryd.func17, Tryd.ntmps17
    go_wp2_with (first
      | (go_at_call 23; refine (HS.out _).mono ?_; rintro e w1 ⟨rfl, rfl⟩)
      | (go_at_call 26; refine (HW.out _).mono ?_; rintro e w2 ⟨rfl, hb2⟩)
      | ((with_reducible refine wpL_store b 45 tZ (errT er) 8 rowTT rfl rfl (tC_one _ _ _ _ _ _ _ _ _ _ _ _) (lT.on hb2) ?_ ?_ ?_); rfl; rfl))
    refine bodyPost_ret (results_row Tryd.results17 rowTT rfl ((lT.on hb2).row _) rfl) rfl ?_
    exact ⟨below_rowSet (below_on hba hb2) hbl _, .inl ⟨er, 0, 0, ⟨#[]⟩, 0, 0, HR.out, rfl⟩⟩
end
end Go.Proofs.YtmbmeidkmhajbaaDoor.V

/- The reference's Value: lists. -/
namespace Go.Proofs.YtmbmeidkmhajbaaDoor.V
set_option maxRecDepth 100000
open Go.RowKit Go.Sort Go.Joins

theorem byte_neZ {a b : UInt8} (h : a ≠ b) : ((a.toNat : Int) == (b.toNat : Int)) = false := by
  rw [beq_eq_false_iff_ne]
  intro e
  exact h (UInt8.toNat_inj.1 (by omega))
theorem list_len' (s : ByteArray) : s.data.toList.length = s.size := Array.length_toList
theorem rdV_code {d n : Nat} {s : List UInt8} {e : Int} (h : rdV d n s = .bad e) : e ≠ 0 := by
  have h2 := nz_V d n s
  rw [h] at h2
  exact h2
theorem sign_odd {s : ByteArray} {q2 : Nat} {z2 : Int} (hz2 : signAt s q2 = z2) (hq2 : q2 ≤ s.size) (fr : Fr) (last : UInt8) (hl : fr.last = last) (L : Nat) (t : VT) (n2 : Nat) (hz : ¬ (q2 < s.size ∧ (s[q2]? = some last ∨ s[q2]? = some 44))) :
    (z2 == (last.toNat : Int)) = false ∧ (z2 != 44) = true ∧ fr.after L (.ok (t, n2) (rest s q2)) = .bad (if rest s q2 = [] then 3 else 20) := by
  rcases Nat.lt_or_ge q2 s.size with hlt | hge
  · have hget : s[q2]? = some s[q2] := getElem?_pos s q2 hlt
    have n1 : s[q2] ≠ last := fun e => hz ⟨hlt, .inl (by rw [hget, e])⟩
    have n2' : s[q2] ≠ 44 := fun e => hz ⟨hlt, .inr (by rw [hget, e])⟩
    rw [sign_at hlt] at hz2
    refine ⟨by rw [← hz2]; exact byte_neZ n1, ?_, ?_⟩
    · rw [← hz2, bne_iff_ne]
      intro e
      exact n2' (UInt8.toNat_inj.1 (show s[q2].toNat = 44 by omega))
    · rw [rest_cons hlt, if_neg (by simp)]
      exact after_odd L fr t n2 _ (by rw [hl]; exact n1) n2'
  · obtain rfl : q2 = s.size := by omega
    rw [sign_end] at hz2
    refine ⟨by rw [← hz2, beq_eq_false_iff_ne]; omega, by rw [← hz2]; rfl, ?_⟩
    rw [rest_none, if_pos rfl]
    rfl
set_option maxHeartbeats 25600000 in
theorem rval_list (w : World) (s : ByteArray) (p L D n : Nat) (hL : D + (L + 1) = 12) (hn : n < 2000) (hp : p < s.size) (hs : s.size ≤ 70000) (h91 : s[p] = 91)
    (IH : ∀ (p n : Nat) (w : World), p ≤ s.size → n ≤ 2000 → Calls Tryd.prog 17 #[.string s, .int .i64 (p : Int), .int .i64 ((D : Int) + 1), .int .i64 (n : Int)] w fun e w' => RValPost w s p L n e w') :
    Calls Tryd.prog 17 #[.string s, .int .i64 (p : Int), .int .i64 (D : Int), .int .i64 (n : Int)] w fun e w' => RValPost w s p (L + 1) n e w' := by
  have e1 : ((D : Int) == 12) = false := by rw [beq_eq_false_iff_ne]; omega
  have e2 : ((n : Int) == 2000) = false := by rw [beq_eq_false_iff_ne]; omega
  have HS := Lib.hid (fun (w : World) => by have h := refSign_any w s p (Nat.le_of_lt hp); rw [sign_at hp, h91] at h; exact h)
  have HB := Lib.hid (show rdV (L + 1) n (rest s p) = if (rest s (p + 1)).head? = some 93 then .ok (.mk 3 0 [] [] [], n + 1) (rest s (p + 1)).tail else (Fr.mk false [] [] (rest s (p + 1)).length).after L (rdV L (n + 1) (rest s (p + 1))) by rw [rest_cons hp, h91]; exact begin_list L n _ (by omega))
  clear h91
  have lT := Lies.new w 45 tZ
  have hba := (RowKit.Below.refl w.heap.size w).alloc (Nat.le_refl _) (.cells tZ 45)
  obtain ⟨b, hb⟩ : ∃ b, w.heap.size = b := ⟨_, rfl⟩
  have hza : (w.alloc (.cells tZ 45)).heap.size = b + 1 := by simp [hb]
  have lV := (Lies.new (w.alloc (.cells tZ 45)) 25 valZ).row #[.int .i64 3, .int .i64 0, .string ⟨#[]⟩, .slice none 0 0, .slice none 0 0]
  have hbY := below_rowSet ((RowKit.Below.refl _ (w.alloc (.cells tZ 45))).alloc (Nat.le_refl _) (.cells valZ 25)) (Nat.le_refl _) #[.int .i64 3, .int .i64 0, .string ⟨#[]⟩, .slice none 0 0, .slice none 0 0]
  have lT2 := lT.on hbY
  have hb2 := below_on hba hbY
  have lN := Lies.new (w.alloc (.cells tZ 45)) 25 valZ
  rw [hza] at lV lT2 hb2 lN
  rw [hb] at lT lT2
  clear hbY
  go_enter Tryd.func17, Tryd.ntmps17
  go_upto_region 19 with (first
    | (go_at_call 23; refine (HS.out _).mono ?_; rintro e w0 ⟨rfl, rfl⟩)
    | ((with_reducible refine wpL_store (b + 1) 25 valZ #[.int .i64 3, .int .i64 0, .string ⟨#[]⟩, .slice none 0 0, .slice none 0 0] 5 rowVal rfl rfl (valC_one _ _ _ _ _ _ _ _ _) lN ?_ ?_ ?_); rfl; rfl))
  generalize World.setRow _ _ _ = w2 at *
  clear lN lT hza hba
  have hp1 : p + 1 ≤ s.size := hp
  obtain ⟨z1, hz1⟩ : ∃ z, signAt s (p + 1) = z := ⟨_, rfl⟩
  have HS1 := Lib.hid (fun (w : World) => by have h := refSign_any w s (p + 1) hp1; rw [hz1, show ((p + 1 : Nat) : Int) = (p : Int) + 1 by omega] at h; exact h)
  by_cases hcl : (rest s (p + 1)).head? = some 93
  · have hlt1 : p + 1 < s.size := by
      rcases Nat.lt_or_ge (p + 1) s.size with h | h
      · exact h
      · rw [show p + 1 = s.size by omega, rest_none] at hcl
        cases hcl
    have hz93 : z1 = 93 := by
      rw [← hz1]
      unfold signAt
      rw [hcl]
      rfl
    subst hz93
    have HX := Lib.hid (show rdV (L + 1) n (rest s p) = .ok (.mk 3 0 [] [] [], n + 1) (rest s (p + 2)) by rw [HB.out, if_pos hcl, rest_cons hlt1]; rfl)
    clear HB hcl hz1
    go_wp2_with (first
      | (go_at_call 23; refine (HS1.out _).mono ?_; rintro e w0 ⟨rfl, rfl⟩)
      | ((with_reducible refine wpL_load (b + 1) 25 #[.int .i64 3, .int .i64 0, .string ⟨#[]⟩, .slice none 0 0, .slice none 0 0] 5 rowVal rfl lV ?_ ?_); rfl)
      | ((with_reducible refine wpL_store b 45 tZ #[.int .i64 3, .int .i64 0, .string ⟨#[]⟩, .slice none 0 0, .slice none 0 0, .int .i64 ((p : Int) + 1 + 1), .int .i64 ((n : Int) + 1), .int .i64 0] 8 rowTT rfl rfl (tC_one _ _ _ _ _ _ _ _ _ _ _ _) lT2 ?_ ?_ ?_); rfl; rfl))
    refine bodyPost_ret (results_row Tryd.results17 rowTT rfl (lT2.row _) rfl) rfl ?_
    exact ⟨below_rowSet hb2 (Nat.le_of_eq hb) _, .inr ⟨.mk 3 0 [] [] [], 1, p + 2, n + 1, none, 0, none, 0, HX.out, rfl, fun E _ => isVX_none E _ 3 (.inl rfl), by omega, by omega⟩⟩
  · have hz93 : (z1 == 93) = false := by
      rw [beq_eq_false_iff_ne]
      intro e
      apply hcl
      rw [e] at hz1
      unfold signAt at hz1
      cases hh : (rest s (p + 1)).head? with
      | none => rw [hh] at hz1; cases hz1
      | some c =>
        rw [hh] at hz1
        have : c.toNat = 93 := by have : (c.toNat : Int) = 93 := hz1; omega
        rw [show c = 93 from UInt8.toNat_inj.1 this]
    replace HB := Lib.hid (show rdV (L + 1) n (rest s p) = (Fr.mk false [] [] (rest s (p + 1)).length).after L (rdV L (n + 1) (rest s (p + 1))) by rw [HB.out, if_neg hcl])
    clear hz1 hcl
    have hS0 : RSt w w2 b b (b + 1) (p + 1) ⟨⟨false, [], [], (rest s (p + 1)).length⟩, .slice none 0 0, .slice none 0 0⟩ := RSt.start false _ lT2 lV (by omega) (Nat.le_refl _) (by omega) (by rw [← hb]; exact hb2) (Nat.le_of_lt lT2.lt)
    clear lT2 lV hb2
    go_upto_region 26 with ((go_at_call 23; refine (HS1.out _).mono ?_; rintro e w0 ⟨rfl, rfl⟩))
    go_loopw [1, 3, 14, 15] (fun av nv _ _ wr => ∃ (q nn f : Nat) (it : List VT) (vi : Value), av = .int .i64 (q : Int) ∧ nv = .int .i64 (nn : Int) ∧ p < q ∧ q ≤ s.size ∧ nn ≤ 2000 ∧ s.size - q ≤ f ∧ Hid (rdV (L + 1) n (rest s p) = (Fr.mk false it [] f).after L (rdV L nn (rest s q))) ∧ RSt w wr b b (b + 1) q ⟨⟨false, it, [], f⟩, vi, .slice none 0 0⟩) (fun av _ _ _ _ => s.size - (intOf av).toNat)
    case atStart => exact ⟨p + 1, n + 1, (rest s (p + 1)).length, [], .slice none 0 0, by simp, by simp, by omega, hp1, by omega, by unfold rest; rw [List.length_drop, list_len']; exact Nat.le_refl _, HB, hS0⟩
    case round =>
      obtain ⟨q, nn, f, it, vi, rfl, rfl, hpq, hq, hnn, hf, HR, hS⟩ := hrel
      clear hS0 HB HS1 hz93
      have v0 : wr.cell? ⟨b + 1, 0, none⟩ = some (.int .i64 3) := hS.lV.cell 0
      have HV := Lib.hid (fun w' => IH q nn w' hq hnn)
      have hblk := hS.blocks
      have hbb := hS.lV.lt
      go_upto_region 40 with (first
        | (go_at_call 17; refine (HV.out _).mono ?_; rintro e w1 ⟨hb1, ⟨er, k, z, st, a9, n2, hX, rfl⟩ | ⟨t, d, q2, n2, ai, ci, ak, ck, hX, rfl, hx, hpq2, hq2⟩⟩)
        | ((with_reducible refine wpL_store w1.heap.size 45 tZ #[.int .i64 k, .int .i64 z, .string st, .slice none 0 0, .slice none 0 0, .int .i64 a9, .int .i64 n2, .int .i64 er] 8 rowTT rfl rfl (tC_one _ _ _ _ _ _ _ _ _ _ _ _) (Lies.new w1 _ _) ?_ ?_ ?_); rfl; rfl)
        | ((with_reducible refine wpL_store w1.heap.size 45 tZ #[.int .i64 t.kind, .int .i64 t.num, .string ⟨t.txt.toArray⟩, .slice ai t.items.length ci, .slice ak t.keys.length ck, .int .i64 (q2 : Int), .int .i64 (n2 : Int), .int .i64 0] 8 rowTT rfl rfl (tC_one _ _ _ _ _ _ _ _ _ _ _ _) (Lies.new w1 _ _) ?_ ?_ ?_); rfl; rfl))
      · have hbY := below_rowSet ((RowKit.Below.refl w1.heap.size w1).alloc (Nat.le_refl _) (.cells tZ 45)) (Nat.le_refl _) #[.int .i64 k, .int .i64 z, .string st, .slice none 0 0, .slice none 0 0, .int .i64 a9, .int .i64 n2, .int .i64 er]
        have lC := (Lies.new w1 45 tZ).row #[.int .i64 k, .int .i64 z, .string st, .slice none 0 0, .slice none 0 0, .int .i64 a9, .int .i64 n2, .int .i64 er]
        have hS2 := (hS.on hb1 (Nat.le_refl _)).on hbY (Nat.le_refl _)
        have he : (er != 0) = true := bne_iff_ne.2 (rdV_code hX)
        have HX := Lib.hid (show rdV (L + 1) n (rest s p) = .bad er by rw [HR.out, hX]; rfl)
        clear hb1 hbY HR hX hS HV
        generalize World.setRow _ _ _ = w2 at *
        generalize w1.heap.size = c at *
        have q7 : w2.cell? ⟨c, 7, none⟩ = some (.int .i64 er) := lC.cell 7
        have lTT := hS2.lT
        go_wp2_with (((with_reducible refine wpL_store b 45 tZ (errT er) 8 rowTT rfl rfl (tC_one _ _ _ _ _ _ _ _ _ _ _ _) lTT ?_ ?_ ?_); rfl; rfl))
        refine bodyPost_ret (results_row Tryd.results17 rowTT rfl (lTT.row _) rfl) rfl ?_
        exact ⟨below_rowSet (by rw [hb]; exact hS2.hb) (Nat.le_of_eq hb) _, .inl ⟨er, 0, 0, ⟨#[]⟩, 0, 0, HX.out, rfl⟩⟩
      · have hbY := below_rowSet ((RowKit.Below.refl w1.heap.size w1).alloc (Nat.le_refl _) (.cells tZ 45)) (Nat.le_refl _) #[.int .i64 t.kind, .int .i64 t.num, .string ⟨t.txt.toArray⟩, .slice ai t.items.length ci, .slice ak t.keys.length ck, .int .i64 (q2 : Int), .int .i64 (n2 : Int), .int .i64 0]
        have lC := (Lies.new w1 45 tZ).row #[.int .i64 t.kind, .int .i64 t.num, .string ⟨t.txt.toArray⟩, .slice ai t.items.length ci, .slice ak t.keys.length ck, .int .i64 (q2 : Int), .int .i64 (n2 : Int), .int .i64 0]
        have hS2 := (hS.on hb1 (Nat.le_refl _)).on hbY (Nat.le_refl _)
        have hx2 := (hx (rX b b (b + 1) ⟨⟨false, it, [], f⟩, vi, (.slice none 0 0)⟩) hblk).turn (Turn.of_below hbY)
        have hcb : b + 1 < w1.heap.size := Nat.lt_of_lt_of_le hbb hb1.size
        have hvc : w1.heap.size ∉ blks vi := fun hx => by
          have := (hS.on hb1 (Nat.le_refl _)).blocks _ (mem_rX.2 (.inr (.inr (.inl hx))))
          omega
        have hn2 : n2 ≤ 2000 := (rdV_ok L nn _ t n2 _ hnn hX).2.2.2.2.1
        replace HR := Lib.hid (show rdV (L + 1) n (rest s p) = (Fr.mk false it [] f).after L (.ok (t, n2) (rest s q2)) by rw [HR.out, hX])
        clear hb1 hbY hX hS HV hx hblk hbb
        generalize World.setRow _ _ _ = w2 at *
        generalize w1.heap.size = c at *
        have q7 : w2.cell? ⟨c, 7, none⟩ = some (.int .i64 0) := lC.cell 7
        have q5 : w2.cell? ⟨c, 5, none⟩ = some (.int .i64 (q2 : Int)) := lC.cell 5
        have q6 : w2.cell? ⟨c, 6, none⟩ = some (.int .i64 (n2 : Int)) := lC.cell 6
        have hr5 : w2.rangeAt c 0 [.int .i64 t.kind, .int .i64 t.num, .string ⟨t.txt.toArray⟩, .slice ai t.items.length ci, .slice ak t.keys.length ck] := fun j v hv => by
          match j, hv with
          | 0, hv => rw [← hv]; exact lC.cell 0
          | 1, hv => rw [← hv]; exact lC.cell 1
          | 2, hv => rw [← hv]; exact lC.cell 2
          | 3, hv => rw [← hv]; exact lC.cell 3
          | 4, hv => rw [← hv]; exact lC.cell 4
          | j + 5, hv => simp at hv
        have v3 : w2.cell? ⟨b + 1, 3, none⟩ = some vi := hS2.lV.cell 3
        have hfm := hS2.fm
        obtain ⟨⟨ics, hown, hits⟩, _, _, hfew, _, _⟩ := hfm
        have hicl : ics.length ≤ 100000 := by rw [hits.1]; exact Nat.le_trans hfew (by omega)
        have zb : RowKit.Below w2.heap.size w2 (w2.alloc (.cells #[.int .i64 t.kind, .int .i64 t.num, .string ⟨t.txt.toArray⟩, .slice ai t.items.length ci, .slice ak t.keys.length ck] 25)) := (RowKit.Below.refl _ _).alloc (Nat.le_refl _) _
        have zA := Lies.new w2 25 #[.int .i64 t.kind, .int .i64 t.num, .string ⟨t.txt.toArray⟩, .slice ai t.items.length ci, .slice ak t.keys.length ck]
        have hownA := hown.on zb
        have hBA : b ≤ (w2.alloc (.cells #[.int .i64 t.kind, .int .i64 t.num, .string ⟨t.txt.toArray⟩, .slice ai t.items.length ci, .slice ak t.keys.length ck] 25)).heap.size := Nat.le_trans hS2.size zb.size
        have hgz := World.grownBy_alloc w2 (.cells #[.int .i64 t.kind, .int .i64 t.num, .string ⟨t.txt.toArray⟩, .slice ai t.items.length ci, .slice ak t.keys.length ck] 25) (vi).ownBlock
        have hnv : b + 1 ∉ blks vi := hS2.nV.1
        have hlA := (hS2.lV).on zb
        have lCA := lC.on zb
        have hone : ∀ u ∈ ([.int .i64 t.kind, .int .i64 t.num, .string ⟨t.txt.toArray⟩, .slice ai t.items.length ci, .slice ak t.keys.length ck] : List Value), u.oneCell' = true := by
          intro u hu
          simp only [List.mem_cons, List.not_mem_nil, or_false] at hu
          rcases hu with rfl | rfl | rfl | rfl | rfl <;> rfl
        go_upto_region 43 with (first
          | ((with_reducible refine wpL_loadMid c 0 [.int .i64 t.kind, .int .i64 t.num, .string ⟨t.txt.toArray⟩, .slice ai t.items.length ci, .slice ak t.keys.length ck] 5 rowVal rfl hr5 ?_ ?_); rfl)
          | ((with_reducible refine wpL_putV b vi ics [.int .i64 t.kind, .int .i64 t.num, .string ⟨t.txt.toArray⟩, .slice ai t.items.length ci, .slice ak t.keys.length ck] w2.heap.size hownA rfl hone zA hicl hBA ?_ ?_ ?_); rfl; rfl; intro g1 cap1 w7 hown7 hgr7 hloc7; have hl7 := hlA.only hgr7 (own_ne hnv); have p3 : w7.cell? ⟨b + 1, 3, none⟩ = some vi := hl7.cell 3; have f3 := hl7.frozen 3; have hw7 := grown_two hgz hgr7))
        have hloc := loc_of (n := ics.length + 1) (cap := cap1) hloc7 zb.size
        have PD := put_value (i := 3) hw7 hloc hS2.lV.lt hnv hown7
        have hS9 := fun f2 => RSt.item hS2 hits hx2 PD hpq2 f2
        have lC9 := (lCA.only hgr7 (own_ne hvc)).far (p := ⟨b + 1, 3, none⟩) (show c ≠ b + 1 by omega) (.slice (some ⟨g1, 0, none⟩) (ics.length + 1) cap1)
        have hlen : (it ++ [t]).length = ics.length + 1 := by rw [List.length_append, hits.1]; rfl
        clear PD hloc hl7 p3 f3 hw7 hown7 hgr7 hloc7 hlA lCA hownA hBA hgz zb zA hown hits hfew hr5 q5 q6 q7 v3 hx2 lC hone hnv hvc
        generalize World.setCell _ _ _ = wF at *
        clear hS2
        have q5 : wF.cell? ⟨c, 5, none⟩ = some (.int .i64 (q2 : Int)) := lC9.cell 5
        have q6 : wF.cell? ⟨c, 6, none⟩ = some (.int .i64 (n2 : Int)) := lC9.cell 6
        go_upto_region 45 with fail
        clear q5 q6 lC9
        have hTF := (hS9 0).lT
        have hVF : Lies wF (b + 1) 25 #[.int .i64 3, .int .i64 0, .string ⟨#[]⟩, .slice (some ⟨g1, 0, none⟩) (ics.length + 1) cap1, (.slice none 0 0)] := (hS9 0).lV
        by_cases hz : q2 < s.size ∧ (s[q2]? = some 93 ∨ s[q2]? = some 44)
        · obtain ⟨hlt, hz⟩ := hz
          have hget : s[q2]? = some s[q2] := getElem?_pos s q2 hlt
          rw [hget, Option.some.injEq, Option.some.injEq] at hz
          by_cases hl : s[q2] = 93
          · have HS2 := Lib.hid (fun (w : World) => by have h := refSign_any w s q2 hq2; rw [sign_at hlt, hl] at h; exact h)
            have HX := Lib.hid (show rdV (L + 1) n (rest s p) = .ok (.mk 3 0 [] (it ++ [t]) [], n2) (rest s (q2 + 1)) by rw [HR.out, rest_cons hlt, hl]; exact after_close L (Fr.mk false it [] f) t n2 _)
            obtain ⟨d9, hv⟩ := (hS9 0).value
            have hbF := (hS9 0).hb
            clear HR hS9 hl hz hget
            go_wp2_with (first
              | (go_at_call 23; refine (HS2.out _).mono ?_; rintro e w0 ⟨rfl, rfl⟩)
              | ((with_reducible refine wpL_load (b + 1) 25 #[.int .i64 3, .int .i64 0, .string ⟨#[]⟩, .slice (some ⟨g1, 0, none⟩) (ics.length + 1) cap1, (.slice none 0 0)] 5 rowVal rfl hVF ?_ ?_); rfl)
              | ((with_reducible refine wpL_store b 45 tZ #[.int .i64 3, .int .i64 0, .string ⟨#[]⟩, .slice (some ⟨g1, 0, none⟩) (ics.length + 1) cap1, (.slice none 0 0), .int .i64 ((q2 : Int) + 1), .int .i64 (n2 : Int), .int .i64 0] 8 rowTT rfl rfl (tC_one _ _ _ _ _ _ _ _ _ _ _ _) hTF ?_ ?_ ?_); rfl; rfl))
            refine bodyPost_ret (results_row Tryd.results17 rowTT rfl (hTF.row _) rfl) rfl ?_
            refine ⟨below_rowSet (by rw [hb]; exact hbF) (Nat.le_of_eq hb) _, .inr ⟨.mk 3 0 [] (it ++ [t]) [], d9, q2 + 1, n2, some ⟨g1, 0, none⟩, cap1, none, 0, HX.out, ?_, fun E hE => ?_, by omega, hlt⟩⟩
            · show _ = Ending.returned (.agg #[.int .i64 3, .int .i64 0, .string ⟨#[]⟩, .slice (some ⟨g1, 0, none⟩) (it ++ [t]).length cap1, .slice none ([] : List (List UInt8)).length 0, .int .i64 ((q2 + 1 : Nat) : Int), .int .i64 (n2 : Int), .int .i64 0])
              rw [hlen]
              rfl
            · show IsVX E _ d9 [.int .i64 3, .int .i64 0, .string ⟨#[]⟩, .slice (some ⟨g1, 0, none⟩) (it ++ [t]).length cap1, .slice none ([] : List (List UInt8)).length 0] _
              rw [hlen]
              have h9 := (hv E (fun k hk => by rw [← hb]; exact hE k hk)).turn (Turn.of_grown (X := b :: E) (grown_row b #[.int .i64 3, .int .i64 0, .string ⟨#[]⟩, .slice (some ⟨g1, 0, none⟩) (ics.length + 1) cap1, (.slice none 0 0), .int .i64 ((q2 : Int) + 1), .int .i64 (n2 : Int), .int .i64 0]) (List.mem_cons_self ..))
              exact h9.turn ((Turn.refl _ _).wide (fun k hk => hk) (fun k hk => .inl (List.mem_cons_of_mem _ hk)))
          · have h44 : s[q2] = 44 := hz.resolve_left hl
            have HS2 := Lib.hid (fun (w : World) => by have h := refSign_any w s q2 hq2; rw [sign_at hlt, h44] at h; exact h)
            obtain ⟨f2, hf2⟩ : ∃ f2, f = f2 + 1 := ⟨f - 1, by omega⟩
            have HX := Lib.hid (show rdV (L + 1) n (rest s p) = (Fr.mk false (it ++ [t]) [] f2).after L (rdV L n2 (rest s (q2 + 1))) by rw [HR.out, rest_cons hlt, h44, hf2]; exact after_list L it f2 t n2 _)
            have hS10 := (hS9 f2).on (RowKit.Below.refl _ _) (Nat.le_succ q2)
            have hff : s.size - (q2 + 1) ≤ f2 := by omega
            clear HR hS9 hl hz hget h44 hTF hVF hlen
            go_wp2_with ((go_at_call 23; refine (HS2.out _).mono ?_; rintro e w0 ⟨rfl, rfl⟩))
            go_roundw
            case rel => exact ⟨q2 + 1, n2, f2, it ++ [t], _, by simp, rfl, by omega, by omega, hn2, hff, HX, hS10⟩
            case measure => simp [intOf]; omega
        · obtain ⟨z2, hz2⟩ : ∃ z, signAt s q2 = z := ⟨_, rfl⟩
          have HS2 := Lib.hid (fun (w : World) => by have h := refSign_any w s q2 hq2; rw [hz2] at h; exact h)
          have HW := Lib.hid (fun (w : World) => wrong_any w s q2 hq2)
          have hodd : (z2 == 93) = false ∧ (z2 != 44) = true ∧ (Fr.mk false it [] f).after L (.ok (t, n2) (rest s q2)) = .bad (if rest s q2 = [] then 3 else 20) := sign_odd hz2 hq2 (Fr.mk false it [] f) 93 rfl L t n2 hz
          obtain ⟨o1, o2, o3⟩ := hodd
          generalize (if rest s q2 = [] then (3 : Int) else 20) = er at *
          have HX := Lib.hid (show rdV (L + 1) n (rest s p) = .bad er by rw [HR.out]; exact o3)
          have hbF := (hS9 0).hb
          have hsF := (hS9 0).size
          clear HR hS9 hz hz2 o3
          go_wp2_with (first
            | (go_at_call 23; refine (HS2.out _).mono ?_; rintro e w0 ⟨rfl, rfl⟩)
            | (go_at_call 26; refine (HW.out _).mono ?_; rintro e wW ⟨rfl, hbW⟩)
            | ((with_reducible refine wpL_store b 45 tZ (errT er) 8 rowTT rfl rfl (tC_one _ _ _ _ _ _ _ _ _ _ _ _) (hTF.on hbW) ?_ ?_ ?_); rfl; rfl))
          refine bodyPost_ret (results_row Tryd.results17 rowTT rfl ((hTF.on hbW).row _) rfl) rfl ?_
          exact ⟨below_rowSet (by rw [hb]; exact hbF.trans (hbW.mono hsF)) (Nat.le_of_eq hb) _, .inl ⟨er, 0, 0, ⟨#[]⟩, 0, 0, HX.out, rfl⟩⟩

end Go.Proofs.YtmbmeidkmhajbaaDoor.V

