/- Texts that stand on one another, put together: YRead2, YParse, YCut, YOrder, YGet, YKeysM, YOwn. -/
import Derived.Test.YtmbmeidkmhajbaaDoorL5
import Derived.Deep.CutBlock
import Derived.Deep.CutRange
import Derived.Defers
import Derived.Recover
/- The developers' read: what is panicked is recovered. -/
namespace Go.Proofs.YtmbmeidkmhajbaaDoor.V
set_option maxRecDepth 100000
open Go.RowKit Go.Sort Go.Joins

theorem catch_idle (a b : Addr) (w : World) :
    CallsD Tryd.prog 21 #[.pointer (some a), .pointer (some b)] .returning w fun e u' w' => e = .returned (.tuple #[]) ∧ u' = .returning ∧ w' = w := by
  refine callsD_of_wpS Tryd.func21 rfl fun c₀ cs hu => ?_
  apply wpS_seq
  apply wpS_region
  simp [wpOpsS, go_sem, recoverD, hu, Tryd.ntmps21, Exit.thenS]
  have hfr : #[Value.pointer (some a), .pointer (some b)] ++ ((Array.replicate 7 undef).setIfInBounds 1 Value.nilIface).setIfInBounds 0 Value.nilIface = #[.pointer (some a), .pointer (some b), .nilIface, .nilIface, undef, undef, undef, undef, undef] := rfl
  rw [hfr]
  refine wpS_of_wp ?_
  go_wp2
  simp [bodyPostS, results, Tryd.results21]
  cases c₀
  simp_all
section
variable {a : Act} {d : Option Tmp} {x y : Operand} {t' : TypeId} {pos : String} {after : Array Edge} {gd : Option (Nat × Bool)}
theorem run_assE (er : Int) (hx : a.eval x = .iface 26 (.int .i64 er)) (w : World) : (execOp a.eval ⟨d, .typeAssert x 20 26 false, t', pos, after, gd⟩).run Tryd.prog w = .ok (.value (.int .i64 er)) w := by
  unfold execOp
  simp only [hx]
  simp [Instr.typeAssert, go_sem]
theorem run_stE {w : World} (b : Nat) (old : Value) (z : Int) (hl : Lies w b 26 #[old]) (hx : a.eval x = .pointer (some ⟨b, 0, none⟩)) (hy : a.eval y = .int .i64 z) :
    (execOp a.eval ⟨none, .store 26 x y, t', pos, after, gd⟩).run Tryd.prog w = .ok .skip (w.setCell ⟨b, 0, none⟩ (.int .i64 z)) := by
  have hc : w.cell? ⟨b, 0, none⟩ = some old := by rw [hl.cell]; rfl
  have hz := hl.frozen 0
  unfold execOp
  simp only [hx, hy]
  simp [Instr.storeAt, go_sem, hc, hz]
theorem run_stZ {w : World} {b : Nat} {cur : Array Value} {e : TypeId} (C : Array Value) (hC : C.size = 5) (h1 : Ones C) (hh : Lies w b e cur) (hk : cur.size = 5) (hx : a.eval x = .pointer (some ⟨b, 0, none⟩)) (hy : a.eval y = .agg C) :
    (execOp a.eval ⟨none, .store 25 x y, t', pos, after, gd⟩).run Tryd.prog w = .ok .skip (w.setRow b C) := by
  have := run_stV (a := a) (x := x) (y := y) (t' := t') (pos := pos) (after := after) (gd := gd) C.toList hh (by simpa using hC) (by omega) (fun u hu => Array.all_eq_true_iff_forall_mem.1 h1 u (by simpa using hu)) hx (by simpa using hy)
  rw [this]
  have e1 : (cur.toList.take 0 ++ C.toList ++ cur.toList.drop (0 + C.toList.length)).toArray = C := by
    rw [List.take_zero, List.nil_append, List.drop_eq_nil_of_le (by simp; omega), List.append_nil, Array.toArray_toList]
  rw [e1]
end
theorem catch_met (er : Int) (B bv be : Nat) (C : Array Value) (old : Value) (older : List PanicEntry) (w : World) (hv : Lies w bv 25 C) (hC : C.size = 5) (he : Lies w be 26 #[old]) (hne : bv ≠ be) (hBv : B ≤ bv) (hBe : B ≤ be) :
    CallsD Tryd.prog 21 #[.pointer (some ⟨bv, 0, none⟩), .pointer (some ⟨be, 0, none⟩)] (.panicking ({ v := .iface 26 (.int .i64 er), recovered := false } :: older)) w fun e u' w' =>
      e = .returned (.tuple #[]) ∧ u' = .panicking ({ v := .iface 26 (.int .i64 er), recovered := true } :: older) ∧ Lies w' bv 25 valZ ∧ Lies w' be 26 #[.int .i64 er] ∧ RowKit.Below B w w' := by
  refine callsD_of_wpS Tryd.func21 rfl fun c₀ cs hu => ?_
  apply wpS_seq
  apply wpS_region
  simp [wpOpsS, go_sem, recoverD, hu, Tryd.ntmps21, Exit.thenS]
  have hfr : #[Value.pointer (some ⟨bv, 0, none⟩), .pointer (some ⟨be, 0, none⟩)] ++ ((Array.replicate 7 undef).setIfInBounds 1 (Value.iface 26 (.int .i64 er))).setIfInBounds 0 (Value.iface 26 (.int .i64 er)) = #[.pointer (some ⟨bv, 0, none⟩), .pointer (some ⟨be, 0, none⟩), .iface 26 (.int .i64 er), .iface 26 (.int .i64 er), undef, undef, undef, undef, undef] := rfl
  rw [hfr]
  refine wpS_of_wp ?_
  go_upto_region 2 with fail
  have hB0 := RowKit.Below.refl B w
  refine wp_held_any (S := fun w => True) 5 rfl (by kernel_rfl) ?_
  have hdr : RowKit.Below w.heap.size w { w with drawn := w.drawn + 1 } := (RowKit.Below.refl _ _).drew
  replace hB0 := hB0.trans (hdr.mono (Nat.le_trans hBv (Nat.le_of_lt hv.lt)))
  replace hv := hv.on hdr
  replace he := he.on hdr
  clear hdr
  generalize ({ w with drawn := w.drawn + 1 } : World) = wd at *
  refine held_put 0 6 (.agg valZ) rfl rfl (by kernel_rfl) (by kernel_rfl) (by kernel_rfl) (by kernel_rfl) (fun w hS => (by kernel_rfl)) trivial ?_
  simp only [List.setIfInBounds_toArray, List.set_cons_succ, List.set_cons_zero]
  refine held_put 1 7 (.iface 26 (.int .i64 er)) rfl rfl (by kernel_rfl) (by kernel_rfl) (by kernel_rfl) (by kernel_rfl) (fun w hS => rfl) trivial ?_
  simp only [List.setIfInBounds_toArray, List.set_cons_succ, List.set_cons_zero]
  refine held_put 2 8 (.int .i64 er) rfl rfl (by kernel_rfl) (by kernel_rfl) (by kernel_rfl) (by kernel_rfl) (fun w hS => run_assE er rfl w) trivial ?_
  simp only [List.setIfInBounds_toArray, List.set_cons_succ, List.set_cons_zero]
  refine held_one 3 (by kernel_rfl) (wpOp_skpN rfl rfl (by kernel_rfl) (run_stZ valZ rfl (valC_one _ _ _ _ _ _ _ _ _) hv hC rfl rfl) ⟨trivial, ?_⟩)
  refine held_one 4 (by kernel_rfl) (wpOp_skpN rfl rfl (by kernel_rfl) (run_stE be old er (he.rowFar hne.symm valZ) rfl rfl) ⟨trivial, ?_⟩)
  refine held_done (by kernel_rfl) ?_
  simp only [Exit.then]
  have r1 : Lies ((wd.setRow bv valZ).setCell ⟨be, 0, none⟩ (.int .i64 er)) bv 25 valZ := (hv.row valZ).far hne _
  have r2 : Lies ((wd.setRow bv valZ).setCell ⟨be, 0, none⟩ (.int .i64 er)) be 26 #[.int .i64 er] := (he.rowFar hne.symm valZ).put 0 _
  have r3 := (below_rowSet hB0 hBv valZ).setCell (p := ⟨be, 0, none⟩) hBe (.int .i64 er)
  refine ⟨rfl, _, rfl, _, results_none rfl _ _ _, rfl, rfl, r1, r2, r3⟩
/-- a text of no more than 65,536 bytes, read -/
def rdQ (s : List UInt8) : Rd VT :=
  match rdV 12 0 s with
  | .bad e => .bad e
  | .ok (t, _) [] => .ok t []
  | .ok _ (_ :: _) => .bad 20
theorem rdP_Q {s : List UInt8} (h : s.length ≤ 65536) : rdP s = rdQ s := by unfold rdP; rw [if_neg (by omega)]; rfl
def ReadPost (E0 : List Nat) (w : World) (s : ByteArray) (e : Ending) (w' : World) : Prop :=
  (∃ er, rdQ s.data.toList = .bad er ∧ e = .returned (.tuple #[.agg valZ, .int .i64 er]) ∧ RowKit.Below w.heap.size w w') ∨
  (∃ cs t d, rdQ s.data.toList = .ok t [] ∧ e = .returned (.tuple #[.agg (List.toArray cs), .int .i64 0]) ∧ IsVX E0 w' d cs t ∧ RowKit.Below w.heap.size w w')
theorem results_two {P : Program} {fn : Func} {p q : Tmp} {ty ty' : TypeId} {n : Nat} {w : World} {g b : Nat} {t : TypeId} {cs : Array Value} {x : Value} {tmps : Array Value} (h : fn.results = #[.cell p ty, .cell q ty']) (hT : RowT P ty n) (hn : cs.size = n) (hg : Lies w g t cs) (hp : tmps.getD p undef = .pointer (some ⟨g, 0, none⟩))
    (hq : tmps.getD q undef = .pointer (some ⟨b, 0, none⟩)) (hl : (loadVar ty' ⟨b, 0, none⟩).run P w = .ok x w) : (results fn tmps).run P w = .ok (.tuple #[.agg cs, x]) w := by
  obtain ⟨⟨d, hu, hd⟩, hi⟩ := hT
  have hl1 := run_loadVar_row (P := P) w g t ty cs (0, 0) d hg hu (by cases d <;> first | rfl | simp [TypeDesc.isRow] at hd) (by rw [hi, hn])
  have hp' : tmps[p]?.getD undef = .pointer (some ⟨g, 0, none⟩) := by simpa using hp
  have hq' : tmps[q]?.getD undef = .pointer (some ⟨b, 0, none⟩) := by simpa using hq
  simp [results, h, hp', hq', asAddr, hl1, hl]
set_option maxHeartbeats 12800000 in
theorem read_any (E0 : List Nat) (s : ByteArray) (w : World) (hs : s.size ≤ 65536) (her : ErrAt w) (hE0 : ∀ b ∈ E0, 2 < b ∧ b < w.heap.size) (hnd : E0.Nodup) :
    Calls Tryd.prog 16 #[.string s] w fun e w' => ReadPost E0 w s e w' := by
  have hmf : ∀ (fn : Fn) (first cap : Array Value) (w : World), (Instr.makeFunc fn first cap).run Tryd.prog w = .ok (.func fn first cap) w := fun _ _ _ _ => rfl
  go_enter_defers Tryd.func16, Tryd.ntmps16
  go_upto_region 3 with fail
  have s1 : (w.alloc (.cells valZ 25)).heap.size = w.heap.size + 1 := by simp
  have s2 : ((w.alloc (.cells valZ 25)).alloc (.cells #[.int .i64 0] 26)).heap.size = w.heap.size + 1 + 1 := by simp
  have lv0 := (Lies.new w 25 valZ)
  have le0 := (Lies.new (w.alloc (.cells valZ 25)) 26 #[.int .i64 0])
  have lg0 := (Lies.new ((w.alloc (.cells valZ 25)).alloc (.cells #[.int .i64 0] 26)) 55 #[.string s, .int .i64 0, .int .i64 0, .slice none 0 0])
  have hba : RowKit.Below w.heap.size w (((w.alloc (.cells valZ 25)).alloc (.cells #[.int .i64 0] 26)).alloc (.cells #[.string s, .int .i64 0, .int .i64 0, .slice none 0 0] 55)) := (((RowKit.Below.refl _ _).alloc (Nat.le_refl _) _).alloc (by simp) _).alloc (by simp; omega) _
  rw [s1] at le0
  rw [s2] at lg0
  have lv := (lv0.alloc (.cells #[.int .i64 0] 26)).alloc (.cells #[.string s, .int .i64 0, .int .i64 0, .slice none 0 0] 55)
  have le := le0.alloc (.cells #[.string s, .int .i64 0, .int .i64 0, .slice none 0 0] 55)
  generalize World.alloc (World.alloc (World.alloc w _) _) _ = wa at *
  clear lv0 le0 s1 s2
  obtain ⟨bv, hbv⟩ : ∃ b, w.heap.size = b := ⟨_, rfl⟩
  rw [hbv] at lv le lg0 hba ⊢
  have her' : ErrAt wa := her.below (hbv ▸ hba)
  have hel : 2 < bv := hbv ▸ her.lt
  have h0 : St wa (bv + 1 + 1) ((bv + 1) :: bv :: E0) (bv + 1 + 1 + 1) s 0 0 (.slice none 0 0) [] := by
    refine ⟨lg0, Nat.lt_succ_self _, lg0.lt, ⟨her', by omega⟩, fun b hb => ?_, OwnL.nil _ _ _ _, ?_, (fun m hm => by cases hm), Nat.zero_le _, hs, Nat.zero_le _, Nat.zero_le _, (fun m hm => by cases hm)⟩
    · simp only [List.mem_cons] at hb
      have h1 := le.lt
      have h2 := lv.lt
      rcases hb with rfl | rfl | hb
      · exact ⟨by omega, h1⟩
      · exact ⟨by omega, h2⟩
      · have := hE0 b hb
        rw [hbv] at this
        exact ⟨this.1, by omega⟩
    · show ((bv + 1 + 1) :: (((bv + 1) :: bv :: E0) ++ ([] ++ []))).Nodup
      have h1 : ∀ b ∈ E0, b < bv := fun b hb => by have := hE0 b hb; rw [hbv] at this; omega
      rw [List.append_nil, List.append_nil]
      refine List.nodup_cons.2 ⟨fun hm => ?_, List.nodup_cons.2 ⟨fun hm => ?_, List.nodup_cons.2 ⟨fun hm => ?_, hnd⟩⟩⟩
      · rcases List.mem_cons.1 hm with h | hm
        · omega
        · rcases List.mem_cons.1 hm with h | hm
          · omega
          · have := h1 _ hm
            omega
      · rcases List.mem_cons.1 hm with h | hm
        · omega
        · have := h1 _ hm
          omega
      · have := h1 _ hm
        omega
  have hr0 : rest s 0 = s.data.toList := by unfold rest; rw [List.drop_zero]
  have hV := value_any wa (bv + 1 + 1) ((bv + 1) :: bv :: E0) (bv + 1 + 1 + 1) s 0 0 (.slice none 0 0) h0
  have hcore : ∀ k ∈ live (bv + 1 + 1) [] (.slice none 0 0) [], bv + 1 + 1 ≤ k := fun k hk => (h0.core_lt k hk).1
  have hpan : ∀ (w6 : World) (er : Int) (C : Array Value) (old : Value) (a : Act), rdQ s.data.toList = .bad er → RowKit.Below bv w w6 → Lies w6 bv 25 C → C.size = 5 → Lies w6 (bv + 1) 26 #[old] →
      CallsD Tryd.prog 21 #[.pointer (some ⟨bv, 0, none⟩), .pointer (some ⟨bv + 1, 0, none⟩)] (.panicking ({ v := .iface 26 (.int .i64 er), recovered := false } :: [])) w6 fun e u' w' =>
        e = .returned (.tuple #[]) ∧ u' = .panicking ({ v := .iface 26 (.int .i64 er), recovered := true } :: []) ∧ Lies w' bv 25 valZ ∧ Lies w' (bv + 1) 26 #[.int .i64 er] ∧ RowKit.Below bv w w' := by
    intro w6 er C old a _ hb lv lC le
    refine (catch_met er bv bv (bv + 1) C old [] w6 lv lC le (by omega) (Nat.le_refl _) (by omega)).mono ?_
    rintro e u' w' ⟨h1, h2, h3, h4, h5⟩
    exact ⟨h1, h2, h3, h4, hb.trans h5⟩
  have hgo : ∀ (er : Int) (C : Array Value) (old : Value) (w6 : World) (tm : Array Value), tm.size = 16 → tm.getD 2 undef = .pointer (some ⟨bv, 0, none⟩) → tm.getD 3 undef = .pointer (some ⟨bv + 1, 0, none⟩) → rdQ s.data.toList = .bad er → RowKit.Below bv w w6 → Lies w6 bv 25 C → C.size = 5 → Lies w6 (bv + 1) 26 #[old] →
      bodyPostD Tryd.prog Tryd.f16 (fun e w' => ReadPost E0 w s e w') (Exit.panic [{ v := .iface 26 (.int .i64 er), recovered := false }])
        { tmps := tm, defers := [{ target := Target.fn (Fn.func 21) #[.pointer (some ⟨bv, 0, none⟩), .pointer (some ⟨bv + 1, 0, none⟩)], args := #[] }] } w6 := by
    intro er C old w6 tm htm h2 h3 hX hb lv lC le
    refine leaves_cons (f := 21) (args := #[.pointer (some ⟨bv, 0, none⟩), .pointer (some ⟨bv + 1, 0, none⟩)]) (by simp) (by simp [go_sem]) ?_
    refine (hpan w6 er C old ⟨tm, []⟩ hX hb lv lC le).mono ?_
    rintro e u' w' ⟨rfl, rfl, r1, r2, r3⟩
    have hl : (loadVar 26 ⟨bv + 1, 0, none⟩).run Tryd.prog w' = .ok (.int .i64 er) w' := by
      have hc : w'.cell? ⟨bv + 1, 0, none⟩ = some (.int .i64 er) := by rw [r2.cell]; rfl
      simp [loadVar, go_sem, hc]
    have hr := results_two (P := Tryd.prog) (x := .int .i64 er) Tryd.results16 rowVal (rfl : valZ.size = 5) r1 h2 h3 hl
    simp only [settle]
    refine ⟨_, hr, ?_⟩
    unfold ReadPost
    exact .inl ⟨er, hX, rfl, hbv ▸ r3⟩
  go_upto_region 4 with (first
    | (go_at_call 22; refine hV.mono ?_; rintro e w5 hB; rcases hB with ⟨er, hX, rfl, hbe⟩ | ⟨cs, t, d, q, n', vo', hX, rfl, hpq, hq, h5, hx5, t5⟩)
    | ((with_reducible refine wpL_store bv 25 valZ cs.toArray 5 rowVal rfl (isVX_ones hx5).1 (isVX_ones hx5).2 (t5.lies (fun hk => by have := hcore _ hk; omega) lv) ?_ ?_ ?_); rfl; rfl))
  · refine hgo er valZ (.int .i64 0) w5 _ rfl rfl rfl (by unfold rdQ; rw [← hr0, hX]) (hba.trans (hbe.mono (by omega))) (lv.below hbe (by omega)) rfl (le.below hbe (by omega))
  · have hz := isVX_ones hx5
    have lv5 := (t5.lies (fun hk => by have := hcore _ hk; omega) lv).row cs.toArray
    have le5 := (t5.lies (fun hk => by have := hcore _ hk; omega) le).rowFar (by omega : bv + 1 ≠ bv) cs.toArray
    have lg5 := h5.rd.rowFar (by omega : bv + 1 + 1 ≠ bv) cs.toArray
    have hb5 := below_rowSet (hba.trans (t5.below (B := bv) (fun k hk => by have := hcore _ hk; omega) (by have := lg0.lt; omega))) (Nat.le_refl _) cs.toArray
    have tx : Turn (live (bv + 1 + 1) ((bv + 1) :: bv :: E0) vo' []) (live (bv + 1 + 1) ((bv + 1) :: bv :: E0) vo' []) w5 (w5.setRow bv cs.toArray) := Turn.of_grown (grown_row bv cs.toArray) (by unfold live; simp)
    have hx6 := hx5.turn tx
    generalize World.setRow _ _ _ = w6 at *
    have c1 := rd_c1 lg5
    by_cases hlt : q < s.size
    · have e1 : (q : Int) < (s.size : Int) := by omega
      go_wp2
      refine hgo 20 cs.toArray (.int .i64 0) w6 _ rfl rfl rfl ?_ hb5 lv5 hz.1 le5
      unfold rdQ
      rw [← hr0, hX, rest_cons hlt]
    · have e1 : ¬ (q : Int) < (s.size : Int) := by omega
      have hrq : rest s q = [] := by unfold rest; exact List.drop_eq_nil_of_le (by rw [show s.data.toList.length = s.size from rfl]; omega)
      have le6 := le5.rowFar (by omega : bv + 1 ≠ bv) cs.toArray
      have lv6 := lv5.row cs.toArray
      have q2 : (w6.setRow bv cs.toArray).cell? ⟨bv + 1, 0, none⟩ = some (.int .i64 0) := by rw [le6.cell]; rfl
      have f2 := le6.frozen 0
      go_wp2_with (first
        | ((with_reducible refine wpL_load bv 25 cs.toArray 5 rowVal hz.1 lv5 ?_ ?_); rfl)
        | ((with_reducible refine wpL_store bv 25 cs.toArray cs.toArray 5 rowVal hz.1 hz.1 hz.2 lv5 ?_ ?_ ?_); rfl; rfl))
      have tz : Turn (live (bv + 1 + 1) ((bv + 1) :: bv :: E0) vo' []) (live (bv + 1 + 1) ((bv + 1) :: bv :: E0) vo' []) w6 ((w6.setRow bv cs.toArray).setCell ⟨bv + 1, 0, none⟩ (.int .i64 0)) := (Turn.of_grown (grown_row bv cs.toArray) (by unfold live; simp)).trans (Turn.of_grown (g := bv + 1) (grown_set (bv + 1) (RowKit.Below.refl _ _) 0 _) (by unfold live; simp))
      have hx7 := hx6.turn tz
      have hb7 := (below_rowSet hb5 (Nat.le_refl _) cs.toArray).setCell (p := ⟨bv + 1, 0, none⟩) (by show bv ≤ bv + 1; omega) (.int .i64 0)
      have lv7 := lv6.far (p := ⟨bv + 1, 0, none⟩) (by show bv ≠ bv + 1; omega) (.int .i64 0)
      have le7 := le6.put 0 (.int .i64 0)
      generalize World.setCell _ _ _ = w7 at *
      have hc7 : w7.cell? ⟨bv + 1, 0, none⟩ = some (.int .i64 0) := by rw [le7.cell]; rfl
      refine leaves_cons (f := 21) (args := #[.pointer (some ⟨bv, 0, none⟩), .pointer (some ⟨bv + 1, 0, none⟩)]) (by simp) (by simp [go_sem]) ?_
      refine (catch_idle ⟨bv, 0, none⟩ ⟨bv + 1, 0, none⟩ _).mono ?_
      rintro e u' w' ⟨rfl, rfl, rfl⟩
      refine ⟨_, results_two (P := Tryd.prog) (x := .int .i64 0) Tryd.results16 rowVal hz.1 lv7 rfl rfl (by simp [loadVar, go_sem, hc7]), ?_⟩
      unfold ReadPost
      exact .inr ⟨cs, t, d, by unfold rdQ; rw [← hr0, hX, hrq], rfl, hx7.turn (X' := E0) ⟨rfl, rfl, rfl, Nat.le_refl _, fun _ _ _ => rfl, fun k hk => .inl (by unfold live; simp [hk])⟩, hbv ▸ hb7⟩
end Go.Proofs.YtmbmeidkmhajbaaDoor.V

/- Parse: what is too long is refused; what is read is handed back. -/
namespace Go.Proofs.YtmbmeidkmhajbaaDoor.V
set_option maxRecDepth 100000
open Go.RowKit Go.Sort Go.Joins

theorem results_ct {P : Program} {fn : Func} {p q : Tmp} {ty : TypeId} {n : Nat} {w : World} {g : Nat} {t : TypeId} {cs : Array Value} {tmps : Array Value} (h : fn.results = #[.cell p ty, .tmp q]) (hT : RowT P ty n) (hn : cs.size = n) (hg : Lies w g t cs) (hp : tmps.getD p undef = .pointer (some ⟨g, 0, none⟩)) :
    (results fn tmps).run P w = .ok (.tuple #[.agg cs, tmps.getD q undef]) w := by
  obtain ⟨⟨d, hu, hd⟩, hi⟩ := hT
  have hl1 := run_loadVar_row (P := P) w g t ty cs (0, 0) d hg hu (by cases d <;> first | rfl | simp [TypeDesc.isRow] at hd) (by rw [hi, hn])
  have hp' : tmps[p]?.getD undef = .pointer (some ⟨g, 0, none⟩) := by simpa using hp
  simp [results, h, hp', asAddr, hl1]
def ParsePost (w : World) (s : ByteArray) (e : Ending) (w' : World) : Prop :=
  (∃ er, rdP s.data.toList = .bad er ∧ e = .returned (.tuple #[.agg valZ, .int .i64 er]) ∧ RowKit.Below w.heap.size w w') ∨
  (∃ cs t d, rdP s.data.toList = .ok t [] ∧ e = .returned (.tuple #[.agg (List.toArray cs), .int .i64 0]) ∧ IsV w' d cs t ∧ RowKit.Below w.heap.size w w')
set_option maxHeartbeats 6400000 in
theorem parse_any (s : ByteArray) (w : World) (her : ErrAt w) :
    Calls Tryd.prog 6 #[.string s] w fun e w' => ParsePost w s e w' := by
  have hlen : s.data.toList.length = s.size := rfl
  by_cases hs : s.size ≤ 65536
  · have e1 : ¬ (65536 : Int) < (s.size : Int) := by omega
    go_enter Tryd.func6, Tryd.ntmps6
    go_upto_region 3 with fail
    have lv := Lies.new w 25 valZ
    have hba := (RowKit.Below.refl w.heap.size w).alloc (Nat.le_refl _) (.cells valZ 25)
    have her' := her.below hba
    generalize World.alloc w _ = wa at *
    obtain ⟨bv, hbv⟩ : ∃ b, w.heap.size = b := ⟨_, rfl⟩
    try rw [hbv]
    rw [hbv] at lv hba
    have hel := her.lt
    have HP := read_any [bv] s wa hs her' (fun b hb => by rw [List.mem_singleton.1 hb]; exact ⟨by omega, lv.lt⟩) (List.nodup_cons.2 ⟨List.not_mem_nil, List.nodup_nil⟩)
    go_wp2_with (first
      | (go_at_call 16; refine HP.mono ?_; rintro e w5 hB; rcases hB with ⟨er, hX, rfl, hb5⟩ | ⟨cs, t, d, hX, rfl, hx5, hb5⟩)
      | ((with_reducible refine wpL_store bv 25 valZ valZ 5 rowVal rfl rfl (valC_one _ _ _ _ _ _ _ _ _) (lv.on hb5) ?_ ?_ ?_); rfl; rfl)
      | ((with_reducible refine wpL_store bv 25 valZ cs.toArray 5 rowVal rfl (isVX_ones hx5).1 (isVX_ones hx5).2 (lv.on hb5) ?_ ?_ ?_); rfl; rfl))
    · have lv6 := (lv.on hb5).row valZ
      refine bodyPost_ret (results_ct Tryd.results6 rowVal rfl lv6 rfl) rfl ?_
      unfold ParsePost
      exact .inl ⟨er, by rw [rdP_Q (by omega), hX], rfl, by rw [hbv]; exact below_rowSet (hba.trans (hb5.mono (Nat.le_of_lt lv.lt))) (Nat.le_refl _) _⟩
    · have lv6 := (lv.on hb5).row cs.toArray
      have tz : Turn [bv] [bv] w5 (w5.setRow bv cs.toArray) := Turn.of_grown (grown_row bv cs.toArray) (by simp)
      refine bodyPost_ret (results_ct Tryd.results6 rowVal (isVX_ones hx5).1 lv6 rfl) rfl ?_
      unfold ParsePost
      refine .inr ⟨cs, t, d, by rw [rdP_Q (by omega), hX], rfl, (hx5.turn tz).isV, by rw [hbv]; exact below_rowSet (hba.trans (hb5.mono (Nat.le_of_lt lv.lt))) (Nat.le_refl _) _⟩
  · have e1 : (65536 : Int) < (s.size : Int) := by omega
    go_enter Tryd.func6, Tryd.ntmps6
    have lv := Lies.new w 25 valZ
    go_wp2_with ((with_reducible refine wpL_store w.heap.size 25 valZ valZ 5 rowVal rfl rfl (valC_one _ _ _ _ _ _ _ _ _) lv ?_ ?_ ?_); rfl; rfl)
    have lv6 := lv.row valZ
    refine bodyPost_ret (results_ct Tryd.results6 rowVal rfl lv6 rfl) rfl ?_
    unfold ParsePost
    exact .inl ⟨2, by unfold rdP; rw [if_pos (by omega)], rfl, below_rowSet ((RowKit.Below.refl w.heap.size w).alloc (Nat.le_refl _) _) (Nat.le_refl _) _⟩
section alive
open Go.RowKit Go.Sort Go.Joins

theorem parse_bad {s : List UInt8} {er : Int} (w : World) (her : ErrAt w) (h : rdP s = .bad er) :
    Calls Tryd.prog 6 #[.string ⟨s.toArray⟩] w fun e w' => e = .returned (.tuple #[.agg valZ, .int .i64 er]) ∧ RowKit.Below w.heap.size w w' := by
  refine (parse_any ⟨s.toArray⟩ w her).mono ?_
  rintro e w' (⟨er', hX, rfl, hb⟩ | ⟨cs, t, d, hX, _⟩)
  · rw [show (⟨s.toArray⟩ : ByteArray).data.toList = s from rfl, h] at hX
    injection hX with e1
    subst e1
    exact ⟨rfl, hb⟩
  · rw [show (⟨s.toArray⟩ : ByteArray).data.toList = s from rfl, h] at hX
    cases hX
theorem parse_ok {s : List UInt8} {t : VT} (w : World) (her : ErrAt w) (h : rdP s = .ok t []) :
    Calls Tryd.prog 6 #[.string ⟨s.toArray⟩] w fun e w' => ∃ cs d, e = .returned (.tuple #[.agg (List.toArray cs), .int .i64 0]) ∧ IsV w' d cs t ∧ RowKit.Below w.heap.size w w' := by
  refine (parse_any ⟨s.toArray⟩ w her).mono ?_
  rintro e w' (⟨er', hX, _⟩ | ⟨cs, t', d, hX, rfl, hx, hb⟩)
  · rw [show (⟨s.toArray⟩ : ByteArray).data.toList = s from rfl, h] at hX
    cases hX
  · rw [show (⟨s.toArray⟩ : ByteArray).data.toList = s from rfl, h] at hX
    injection hX with e1
    subst e1
    exact ⟨cs, d, rfl, hx, hb⟩
def aT : VT := .mk 3 0 [] [.mk 1 1 [] [] [], .mk 2 0 [97] [] []] []
theorem aT_ok : aT.okB = true := by
  unfold VT.okB aT
  simp [count_eq, countL_cons, countL_nil, depth_eq, depthL_cons, depthL_nil, each_eq, eachL_cons, eachL_nil, oneB, textOk, keysOk_nil]
theorem aT_wr : aT.wr = [91, 49, 44, 34, 97, 34, 93] := by
  unfold aT
  have e : Lib.itoa 1 = [49] := by
    unfold Lib.itoa
    rw [if_neg (by decide), Lib.decDigits_one (by decide)]
    rfl
  simp [wr_eq, wrL_cons, wrL_nil, e, quotL, escL]
theorem aT_rd : rdP [91, 49, 44, 34, 97, 34, 93] = .ok aT [] := by
  have := rdP_wr aT_ok (by rw [aT_wr]; decide)
  rwa [aT_wr] at this
theorem aT_at {w : World} {d : Nat} {cs : List Value} (h : IsV w d cs aT) : ∃ b off ci ak ck, cs = [.int .i64 3, .int .i64 0, .string ⟨#[]⟩, .slice (some ⟨b, off, none⟩) 2 ci, .slice ak 0 ck] ∧ w.cell? ⟨b, off + 7, none⟩ = some (.string ⟨#[97]⟩) ∧ 2 ≤ ci ∧ ci ≤ maxLen := by
  cases d with
  | zero => exact h.elim
  | succ d =>
    obtain ⟨ai, ci, ak, ck, hcs⟩ := h.form
    obtain ⟨vi, vk, rfl, _, _, a', c', rfl, hm, hm2, _, hl⟩ := h
    simp only [List.cons.injEq, and_true] at hcs
    obtain ⟨_, _, _, e1, rfl⟩ := hcs
    injection e1 with e1 e2 e3
    subst e1 e3
    obtain ⟨b, off, rfl, hx⟩ := hl (by decide)
    obtain ⟨cs2, _, hr, x, hx1, hx2⟩ := hx 1 (by decide)
    obtain rfl : (.mk 2 0 [97] [] [] : VT) = x := Option.some.inj (show some (.mk 2 0 [97] [] [] : VT) = some x from hx1)
    obtain ⟨a2, c2, a3, c3, rfl⟩ := hx2.form
    exact ⟨b, off, _, ak, ck, rfl, hr 2 _ rfl, hm, hm2⟩
set_option maxHeartbeats 3200000 in
theorem alive12_any (W : World) (her : ErrAt W) :
    Calls Tryd.prog 8 #[] W fun e w' => e = .returned (.bool true) ∧ Below W.heap.size W w' := by
  have HP := parse_ok W her aT_rd
  go_enter Tryd.func8, Tryd.ntmps8
  go_upto_region 2 with (first
    | (go_at_call 6; refine HP.mono ?_; rintro e w1 ⟨cs, d, rfl, hx, hb1⟩; obtain ⟨b, off, ci, ak, ck, rfl, hc7, hci, hcm⟩ := aT_at hx)
    | ((with_reducible refine wpL_store w1.heap.size 25 valZ #[.int .i64 3, .int .i64 0, .string ⟨#[]⟩, .slice (some ⟨b, off, none⟩) 2 ci, .slice ak 0 ck] 5 rowVal rfl rfl (valC_one _ _ _ _ _ _ _ _ _) (Lies.new w1 _ _) ?_ ?_ ?_); rfl; rfl))
  have hb3 := (hb1.alloc hb1.size (.cells valZ 25))
  have hb4 := below_rowSet hb3 hb1.size #[.int .i64 3, .int .i64 0, .string ⟨#[]⟩, .slice (some ⟨b, off, none⟩) 2 ci, .slice ak 0 ck]
  have lv := (Lies.new w1 25 valZ).row #[.int .i64 3, .int .i64 0, .string ⟨#[]⟩, .slice (some ⟨b, off, none⟩) 2 ci, .slice ak 0 ck]
  have hz := below_rowSet ((RowKit.Below.refl w1.heap.size w1).alloc (Nat.le_refl _) (.cells valZ 25)) (Nat.le_refl _) #[.int .i64 3, .int .i64 0, .string ⟨#[]⟩, .slice (some ⟨b, off, none⟩) 2 ci, .slice ak 0 ck]
  have hc8 := (hz.cell (p := ⟨b, off + 7, none⟩) (World.block_lt_of_cell? w1 _ hc7)).trans hc7
  generalize World.setRow _ _ _ = w2 at *
  generalize w1.heap.size = bv at *
  have q0 := lv.cell 0
  have q3 := lv.cell 3
  simp only [List.getElem?_toArray, List.getElem?_cons_succ, List.getElem?_cons_zero] at q0 q3
  go_wp2
  go_ret
  exact ⟨rfl, hb4⟩
end alive
end Go.Proofs.YtmbmeidkmhajbaaDoor.V

/- A text that breaks off: what reading it comes to. Nothing of the program is named here. -/
namespace Go.Proofs.YtmbmeidkmhajbaaDoor.V
open Go

/-- what a text that breaks off may come to -/
def Broken (e : Int) (p : List UInt8) : Prop := e = 3 ∨ (e = 20 ∧ p.getLast? = some 45) ∨ (e = 21 ∧ p.getLast? = some 91)
theorem Broken.short (p : List UInt8) : Broken 3 p := .inl rfl
/-! ### how many fit into a text -/
mutual
theorem wr_two : ∀ (t : VT), t.each = true → 2 * t.count ≤ t.wr.length + 1
  | .mk k n s l ks => fun h => by
    rw [each_eq, Bool.and_eq_true] at h
    rw [count_eq, wr_eq]
    have hl := wrL_two l h.1
    rcases one_of h.2 with ⟨rfl, rfl, e2, rfl⟩ | ⟨rfl, rfl, e2, rfl⟩ | ⟨rfl, rfl, rfl, rfl⟩ | ⟨rfl, rfl, rfl, e2⟩
    · obtain rfl := List.eq_nil_of_length_eq_zero e2
      obtain ⟨c, u, e, _⟩ := itoa_head n
      rw [if_pos rfl, e, countL_nil, List.length_cons]
      omega
    · obtain rfl := List.eq_nil_of_length_eq_zero e2
      rw [if_neg (by decide), if_pos rfl, countL_nil]
      unfold quotL
      simp only [List.length_cons, List.length_append, List.length_nil]
      omega
    · rw [if_neg (by decide), if_neg (by decide), if_neg (by decide)]
      have := hl true
      rw [if_pos rfl] at this
      simp only [List.length_cons, List.length_append, List.length_nil]
      omega
    · rw [if_neg (by decide), if_neg (by decide), if_pos rfl]
      have := wrM_two l h.1 true ks
      rw [if_pos rfl] at this
      simp only [List.length_cons, List.length_append, List.length_nil]
      omega
theorem wrL_two : ∀ (l : List VT), eachL l = true → ∀ b : Bool, 2 * countL l ≤ (wrL b l).length + (if b then 1 else 0)
  | [] => fun _ b => by rw [countL_nil]; omega
  | x :: l => fun h b => by
    rw [eachL_cons, Bool.and_eq_true] at h
    have h1 := wr_two x h.1
    have h2 := wrL_two l h.2 false
    rw [countL_cons, wrL_cons]
    simp only [Bool.false_eq_true, if_false] at h2
    cases b <;> simp only [List.length_append, List.length_cons, List.length_nil, if_true, Bool.false_eq_true, if_false] <;> omega
theorem wrM_two : ∀ (l : List VT), eachL l = true → ∀ (b : Bool) (ks : List (List UInt8)), 2 * countL l ≤ (wrM b l ks).length + (if b then 1 else 0)
  | [] => fun _ b ks => by rw [countL_nil]; omega
  | x :: l => fun h b ks => by
    rw [eachL_cons, Bool.and_eq_true] at h
    have h1 := wr_two x h.1
    have h2 := wrM_two l h.2 false ks.tail
    rw [countL_cons, wrM_cons]
    simp only [Bool.false_eq_true, if_false] at h2
    cases b <;> simp only [List.length_append, List.length_cons, List.length_nil, if_true, Bool.false_eq_true, if_false] <;> omega
end
section code
open Go

def NZ {α : Type} : Rd α → Prop
  | .bad e => e ≠ 0
  | .ok _ _ => True
theorem NZ.map {α β : Type} {f : α → β} {x : Rd α} (h : NZ x) : NZ (x.map f) := by
  cases x with
  | bad e => exact h
  | ok a r => trivial
end code
end Go.Proofs.YtmbmeidkmhajbaaDoor.V

/- Blanks where none may be, and keys out of order: what reading comes to. Nothing of the program is named here. -/
namespace Go.Proofs.YtmbmeidkmhajbaaDoor.V
open Go

/-- keys in their order, behind the one ahead -/
def ordB : Option (List UInt8) → List (List UInt8) → Bool
  | _, [] => true
  | prev, k :: ks => prev.all (fun p => lessL p k) && ordB (some k) ks
theorem ordB_keysOk : ∀ (ks : List (List UInt8)) (prev : Option (List UInt8)), (∀ k ∈ ks, textOk k = true) → ordB prev ks = true → keysOk ks = true ∧ ∀ p q, prev = some p → ks.head? = some q → lessL p q = true := by
  intro ks
  induction ks with
  | nil => intro prev _ _; exact ⟨keysOk_nil, fun p q _ h => by cases h⟩
  | cons k ks ih =>
    intro prev hk h
    rw [ordB, Bool.and_eq_true] at h
    obtain ⟨h1, h2⟩ := ih (some k) (fun x hx => hk x (by simp [hx])) h.2
    refine ⟨keysOk_cons (hk k (by simp)) h1 (fun q hq => h2 k q rfl hq), fun p q hp hq => ?_⟩
    simp only [List.head?_cons, Option.some.injEq] at hq
    rw [hp] at h
    rw [← hq]
    simpa using h.1
theorem rdK_order {prev : Option (List UInt8)} {k r : List UInt8} (hk : textOk k = true) (hp : prev.all (fun p => lessL p k) = false) : rdK prev (quotL k ++ r) = .bad 23 := by
  obtain ⟨h1, h2⟩ := textOk_parts hk
  unfold quotL
  rw [List.cons_append, rdK, if_neg (by decide), show escL k ++ [34] ++ r = escL k ++ 34 :: r by simp, rdT_esc_ok k 0 r h1 (by omega)]
  simp only []
  rw [if_pos]
  cases prev with
  | none => simp at hp
  | some p => simpa using hp
theorem rdM_order {rv : Nat → List UInt8 → Rd (VT × Nat)} {d : Nat} (H : Comp rv d) : ∀ (l : List VT) (ks : List (List UInt8)) (f : Nat) (prev : Option (List UInt8)) (n : Nat) (r : List UInt8), eachL l = true → depthL l ≤ d → n + countL l ≤ 2000 → l.length ≤ f → ks.length = l.length → (∀ k ∈ ks, textOk k = true) → ordB prev ks = false → rdM rv f prev n (wrM true l ks ++ 125 :: r) = .bad 23 := by
  intro l
  induction l with
  | nil =>
    intro ks f prev n r _ _ _ _ hkl _ ho
    obtain rfl := List.eq_nil_of_length_eq_zero hkl
    cases ho
  | cons x l ih =>
    intro ks f prev n r he hd hc hf hkl hk ho
    obtain ⟨k, ks, rfl⟩ : ∃ k t, ks = k :: t := by
      cases ks with
      | nil => simp at hkl
      | cons k t => exact ⟨k, t, rfl⟩
    rw [eachL_cons, Bool.and_eq_true] at he
    rw [depthL_cons] at hd
    rw [countL_cons] at hc
    rw [List.length_cons] at hf
    have hkl : ks.length = l.length := by simpa using hkl
    have hkt := hk k (by simp)
    obtain ⟨f, rfl⟩ : ∃ g, f = g + 1 := ⟨f - 1, by omega⟩
    rw [wrM_cons, if_pos rfl, List.nil_append, List.headD_cons, List.tail_cons]
    rw [ordB] at ho
    cases hp : prev.all (fun p => lessL p k) with
    | false =>
      rw [show quotL k ++ 58 :: (x.wr ++ wrM false l ks) ++ 125 :: r = quotL k ++ (58 :: (x.wr ++ wrM false l ks) ++ 125 :: r) by simp, rdM, rdK_order hkt hp]
    | true =>
      rw [hp, Bool.true_and] at ho
      have hkr : ∀ u, rdK prev (quotL k ++ 58 :: u) = .ok k u := fun u => rdK_wr hkt (fun p hpe => by rw [hpe] at hp; simpa using hp)
      by_cases hl : l = []
      · subst hl
        obtain rfl : ks = [] := List.eq_nil_of_length_eq_zero (by simpa using hkl)
        cases ho
      · have h1 := H n x (44 :: (wrM true l ks ++ 125 :: r)) he.1 (by omega) (by omega) (fun _ => delim_sep 44 _ (.inr (.inr rfl)))
        rw [wrM_false hl, show quotL k ++ 58 :: (x.wr ++ 44 :: wrM true l ks) ++ 125 :: r = quotL k ++ 58 :: (x.wr ++ 44 :: (wrM true l ks ++ 125 :: r)) by simp, rdM, hkr]
        simp only []
        rw [h1]
        simp only []
        rw [if_neg (by decide), if_pos trivial, ih ks f (some k) (n + x.count) r he.2 (by omega) (by omega) (by omega) hkl (fun q hq => hk q (by simp [hq])) ho]
        rfl
/-- values by keys that stand out of order -/
theorem rdP_order {l : List VT} {ks : List (List UInt8)} (he : eachL l = true) (hd : depthL l ≤ 11) (hc : countL l ≤ 1999) (hkl : ks.length = l.length) (hk : ∀ k ∈ ks, textOk k = true) (ho : ordB none ks = false) (hlen : (123 :: (wrM true l ks ++ [125])).length ≤ 65536) : rdP (123 :: (wrM true l ks ++ [125])) = .bad 23 := by
  have hl := wrM_long l true ks he
  have hne : (wrM true l ks ++ [125]).head? ≠ some 125 := by
    cases l with
    | nil => obtain rfl := List.eq_nil_of_length_eq_zero hkl; cases ho
    | cons x l =>
      rw [wrM_cons]
      unfold quotL
      simp
  unfold rdP
  rw [if_neg (by omega), rdV, if_neg (by decide), if_neg (by decide), if_neg (by decide), if_neg (by decide), if_pos rfl]
  unfold rdO
  rw [if_neg hne, rdM_order (rdV_wr 11) l ks _ none (0 + 1) [] he hd (by omega) (by rw [List.length_append]; omega) hkl hk ho]
  rfl
/-- .. and in order -/
theorem rdP_keys {l : List VT} {ks : List (List UInt8)} (he : eachL l = true) (hd : depthL l ≤ 11) (hc : countL l ≤ 1999) (hkl : ks.length = l.length) (hk : ∀ k ∈ ks, textOk k = true) (ho : ordB none ks = true) (hlen : (123 :: (wrM true l ks ++ [125])).length ≤ 65536) : rdP (123 :: (wrM true l ks ++ [125])) = .ok (.mk 4 0 [] l ks) [] := by
  have h1 : (VT.mk 4 0 [] l ks).wr = 123 :: (wrM true l ks ++ [125]) := by rw [wr_eq, if_neg (by decide), if_neg (by decide), if_pos rfl]
  rw [← h1] at hlen ⊢
  refine rdP_wr ?_ hlen
  unfold VT.okB
  rw [count_eq, depth_eq, each_eq, he, oneB_map hkl (ordB_keysOk ks none hk ho).1, decide_eq_true (by omega), decide_eq_true (by omega)]
  rfl
end Go.Proofs.YtmbmeidkmhajbaaDoor.V

/- Getting by a key: value.Get, and parse.Field. -/
namespace Go.Proofs.YtmbmeidkmhajbaaDoor.V
open Go.RowKit Go.Sort Go.Joins
set_option maxRecDepth 100000

def zeroT : VT := .mk 0 0 [] [] []
theorem isV_zero (w : World) (d : Nat) : IsV w (d + 1) [.int .i64 0, .int .i64 0, .string ⟨#[]⟩, .slice none 0 0, .slice none 0 0] zeroT :=
  isV_make (s := []) (RowL.nil w 5) rfl (fun i cs h => by simp at h) (Strs.nil w) ⟨(show -9223372036854775808 ≤ (0 : Int) ∧ (0 : Int) ≤ 9223372036854775807 by decide), (show -9223372036854775808 ≤ (0 : Int) ∧ (0 : Int) ≤ 9223372036854775807 by decide), Nat.zero_le _, fun x hx => by cases hx⟩
set_option maxHeartbeats 1600000 in
theorem getY_some (d : Nat) (cs : List Value) (t x : VT) (key : List UInt8) (W0 W : World) (h0 : Below W0.heap.size W0 W) (h : IsV W0 (d + 1) cs t) (hg : getV t key = some x) :
    Calls Tryd.prog 13 #[.agg cs.toArray, .string ⟨key.toArray⟩] W fun e w' => ∃ cs', e = .returned (.tuple #[.agg cs'.toArray, .bool true]) ∧ IsV W0 d cs' x ∧ Below W.heap.size W w' := by
  unfold getV at hg
  split at hg
  case isFalse => cases hg
  rename_i hh
  obtain ⟨h4, hl, hj0⟩ := hh
  have hv0 := h
  obtain ⟨vi, vk, e0, _, _, av, cv, rfl, hcv, hmv, _, hx⟩ := hv0
  obtain ⟨ai, ci, ak, ck, rfl⟩ := h.form
  have hks := h.keyRow
  have HX := Lib.hid (fun (w1 : World) (hb : Below W.heap.size W w1) => strIdx_any _ t.keys key w1 (hks.below (below_on h0 hb)))
  have hbW : Below W.heap.size W ((W.alloc (.cells #[.int .i64 t.kind, .int .i64 t.num, .string ⟨t.txt.toArray⟩, .slice ai t.items.length ci, .slice ak t.keys.length ck] 25)).alloc (.cells valZ 25)) := ((Below.refl W.heap.size W).alloc (Nat.le_refl _) _).alloc (by simp) _
  have lA : Lies ((W.alloc (.cells #[.int .i64 t.kind, .int .i64 t.num, .string ⟨t.txt.toArray⟩, .slice ai t.items.length ci, .slice ak t.keys.length ck] 25)).alloc (.cells valZ 25)) W.heap.size 25 #[.int .i64 t.kind, .int .i64 t.num, .string ⟨t.txt.toArray⟩, .slice ai t.items.length ci, .slice ak t.keys.length ck] := (Lies.new W _ _).alloc _
  have lR : Lies ((W.alloc (.cells #[.int .i64 t.kind, .int .i64 t.num, .string ⟨t.txt.toArray⟩, .slice ai t.items.length ci, .slice ak t.keys.length ck] 25)).alloc (.cells valZ 25)) (W.heap.size + 1) 25 valZ := by
    have := Lies.new (W.alloc (.cells #[.int .i64 t.kind, .int .i64 t.num, .string ⟨t.txt.toArray⟩, .slice ai t.items.length ci, .slice ak t.keys.length ck] 25)) 25 valZ
    simpa using this
  have q0 := lA.cell 0; have q1 := lA.cell 1; have q2 := lA.cell 2; have q3 := lA.cell 3; have q4 := lA.cell 4; simp only [List.getElem?_toArray, List.getElem?_cons_succ, List.getElem?_cons_zero] at q0 q1 q2 q3 q4
  obtain ⟨rfl, rfl⟩ : ai = av ∧ ci = cv := by
    simp only [List.cons.injEq, Value.slice.injEq] at e0
    exact ⟨e0.2.2.2.1.1, e0.2.2.2.1.2.2⟩
  have hlt := firstAt_lt t.keys key
  obtain ⟨j, hj⟩ : ∃ j : Nat, firstAt t.keys key = j := ⟨(firstAt t.keys key).toNat, by omega⟩
  rw [hj] at hg
  rw [hj] at HX
  have hjl : j < t.items.length := by omega
  obtain ⟨b, off, rfl, hx2⟩ := hx (by omega)
  obtain ⟨cs2, hlen, hr, y, hy, hyv⟩ := hx2 j hjl
  obtain rfl : y = x := by
    rw [Int.toNat_natCast, hy] at hg
    exact Option.some.inj hg
  have HV := Lib.hid hyv
  obtain ⟨ai2, ci2, ak2, ck2, rfl⟩ := hyv.form
  have HR := Lib.hid (fun (w1 : World) (hb : Below W.heap.size W w1) => range5 (range_below (below_on h0 hb) hr))
  have h5 : (t.kind != 4) = false := by simp [h4]
  have h6 : ((t.keys.length : Int) != (t.items.length : Int)) = false := by rw [hl]; exact bne_self_eq_false _
  have h7 : ¬ (j : Int) < 0 := by omega
  have h8 : (j : Int) < (t.items.length : Int) := by omega
  clear h hks hg h4 hl hx hx2 hr hlen hy hj hj0 hyv e0 hlt hjl
  go_enter Tryd.func13, Tryd.ntmps13
  go_wp2_with (first | (go_at_call 18; (with_reducible refine (HX.out _ hbW).mono ?_); rintro e w1 ⟨rfl, hb1⟩; replace hbW := below_on hbW hb1; replace lA := lA.on hb1; replace lR := lR.on hb1; have q0 := lA.cell 0; have q1 := lA.cell 1; have q2 := lA.cell 2; have q3 := lA.cell 3; have q4 := lA.cell 4; simp only [List.getElem?_toArray, List.getElem?_cons_succ, List.getElem?_cons_zero] at q0 q1 q2 q3 q4; obtain ⟨r0, r1, r2, r3, r4⟩ := HR.out _ hbW) | ((with_reducible refine wpL_store (W.heap.size + 1) 25 valZ #[.int .i64 y.kind, .int .i64 y.num, .string ⟨y.txt.toArray⟩, .slice ai2 y.items.length ci2, .slice ak2 y.keys.length ck2] 5 rowVal rfl rfl (valC_one _ _ _ _ _ _ _ _ _) lR ?_ ?_ ?_); rfl; rfl))
  exact bodyPost_ret (results_row_tmp Tryd.results13 rowVal rfl (lR.row _) rfl rfl) rfl ⟨_, rfl, HV.out, below_rowSet hbW (Nat.le_succ _) _⟩
/-- what a key gets, or no value -/
def getT (t : VT) (key : List UInt8) : VT := (getV t key).getD zeroT
theorem getY_any (d : Nat) (cs : List Value) (t : VT) (key : List UInt8) (W0 W : World) (h0 : Below W0.heap.size W0 W) (h : IsV W0 (d + 1) cs t) :
    Calls Tryd.prog 13 #[.agg cs.toArray, .string ⟨key.toArray⟩] W fun e w' => ∃ cs', e = .returned (.tuple #[.agg cs'.toArray, .bool (getV t key).isSome]) ∧ Hid (∀ w2, Below W0.heap.size W0 w2 → IsV w2 (d + 1) cs' (getT t key)) ∧ Below W.heap.size W w' := by
  unfold getT
  cases hg : getV t key with
  | none =>
    refine (get_none (d + 1) cs t key W (h.below h0) hg).mono ?_
    rintro e w' ⟨rfl, hb⟩
    exact ⟨_, rfl, Lib.hid (fun w2 _ => isV_zero w2 d), hb⟩
  | some x =>
    refine (getY_some d cs t x key W0 W h0 h hg).mono ?_
    rintro e w' ⟨cs', rfl, hv, hb⟩
    exact ⟨cs', rfl, Lib.hid (fun w2 hb2 => (hv.below hb2).mono (Nat.le_succ _)), hb⟩
theorem isV_onesG {w : World} {d : Nat} {cs : List Value} {t : VT} (h : IsV w d cs t) : cs.toArray.size = 5 ∧ Ones cs.toArray := by
  obtain ⟨ai, ci, ak, ck, hcs⟩ := h.form
  rw [hcs]
  exact ⟨rfl, valC_one _ _ _ _ _ _ _ _ _⟩
/-- the value of a key, of a kind, or that it is not as it should be -/
def fieldV (t : VT) (key : List UInt8) (kind : Int) : Option VT := (getV t key).filter fun y => y.kind == kind
theorem results_ctG {P : Program} {fn : Func} {p q : Tmp} {ty : TypeId} {n : Nat} {w : World} {g : Nat} {t : TypeId} {cs : Array Value} {tmps : Array Value} (h : fn.results = #[.cell p ty, .tmp q]) (hT : RowT P ty n) (hn : cs.size = n) (hg : Lies w g t cs) (hp : tmps.getD p undef = .pointer (some ⟨g, 0, none⟩)) :
    (results fn tmps).run P w = .ok (.tuple #[.agg cs, tmps.getD q undef]) w := by
  obtain ⟨⟨d, hu, hd⟩, hi⟩ := hT
  have hl1 := run_loadVar_row (P := P) w g t ty cs (0, 0) d hg hu (by cases d <;> first | rfl | simp [TypeDesc.isRow] at hd) (by rw [hi, hn])
  have hp' : tmps[p]?.getD undef = .pointer (some ⟨g, 0, none⟩) := by simpa using hp
  simp [results, h, hp', asAddr, hl1]
def FieldPost (W : World) (d : Nat) (r : Option VT) (e : Ending) (w' : World) : Prop :=
  ∃ cs', e = .returned (.tuple #[.agg (List.toArray cs'), .int .i64 (if r.isSome then 0 else 24)]) ∧ Hid (∀ w2, Below W.heap.size W w2 → IsV w2 (d + 1) cs' (r.getD zeroT)) ∧ Below W.heap.size W w'
set_option maxHeartbeats 6400000 in
theorem field_any (d : Nat) (cs : List Value) (t : VT) (key : List UInt8) (kind : Int) (W : World) (h : IsV W (d + 1) cs t) :
    Calls Tryd.prog 11 #[.agg cs.toArray, .string ⟨key.toArray⟩, .int .i64 kind] W fun e w' => FieldPost W d (fieldV t key kind) e w' := by
  have HG := Lib.hid (fun (w1 : World) (hb : Below W.heap.size W w1) => getY_any d cs t key W w1 hb h)
  have hc5 := (isV_onesG h).1
  have h1 := (isV_onesG h).2
  have lA := Lies.new W 25 cs.toArray
  have hbW := (Below.refl W.heap.size W).alloc (Nat.le_refl _) (.cells cs.toArray 25)
  have lB := Lies.new (W.alloc (.cells cs.toArray 25)) 25 valZ
  have hs1 : (W.alloc (.cells cs.toArray 25)).heap.size = W.heap.size + 1 := by simp
  rw [hs1] at lB
  have hbX := hbW.alloc hbW.size (.cells valZ 25)
  replace lA := lA.alloc (.cells valZ 25)
  go_enter Tryd.func11, Tryd.ntmps11
  go_upto_region 1 with fail
  generalize World.alloc (World.alloc W _) _ = wa at *
  obtain ⟨b, hb⟩ : ∃ b, b = W.heap.size := ⟨_, rfl⟩
  rw [← hb] at lA lB ⊢
  have hbl : W.heap.size ≤ b := Nat.le_of_eq hb.symm
  clear hb hs1 hbW
  go_upto_region 2 with (first
    | ((with_reducible refine wpL_load b 25 cs.toArray 5 rowVal hc5 lA ?_ ?_); rfl)
    | (go_at_call 13; refine (HG.out _ hbX).mono ?_; rintro e w1 ⟨cs1, rfl, HX, hb1⟩; replace lB := lB.on hb1; replace hbX := below_on hbX hb1; have hx := HX.out _ hbX)
    | ((with_reducible refine wpL_store w1.heap.size 25 valZ cs1.toArray 5 rowVal rfl (isV_onesG hx).1 (isV_onesG hx).2 (Lies.new w1 _ _) ?_ ?_ ?_); rfl; rfl))
  have hz := isV_onesG hx
  have hbY := below_rowSet (hbX.alloc hbX.size (.cells valZ 25)) hbX.size cs1.toArray
  have hbZ := below_rowSet ((RowKit.Below.refl w1.heap.size w1).alloc (Nat.le_refl _) (.cells valZ 25)) (Nat.le_refl _) cs1.toArray
  have lC := (Lies.new w1 25 valZ).row cs1.toArray
  have hbb : b + 1 < w1.heap.size := lB.lt
  replace lB := lB.on hbZ
  replace hx := hx.below hbZ
  clear hbX hb1 hbZ HG lA
  generalize World.setRow _ _ _ = w2 at *
  generalize w1.heap.size = c at *
  have q0 : w2.cell? ⟨c, 0, none⟩ = some (.int .i64 (getT t key).kind) := by
    obtain ⟨ai, ci, ak, ck, hcs⟩ := hx.form
    rw [hcs] at lC
    exact lC.cell 0
  cases hg : getV t key with
  | none =>
    have hT : getT t key = zeroT := by unfold getT; rw [hg]; rfl
    rw [hT] at hx q0
    have hf : fieldV t key kind = none := by unfold fieldV; rw [hg]; rfl
    simp only [Option.isSome_none]
    have lD := lB.row valZ
    go_wp2_with ((with_reducible refine wpL_store (b + 1) 25 valZ valZ 5 rowVal rfl rfl (valC_one _ _ _ _ _ _ _ _ _) lB ?_ ?_ ?_); rfl; rfl)
    refine bodyPost_ret (results_ctG Tryd.results11 rowVal rfl lD rfl) rfl ?_
    rw [hf]
    unfold FieldPost
    exact ⟨[.int .i64 0, .int .i64 0, .string ⟨#[]⟩, .slice none 0 0, .slice none 0 0], rfl, Lib.hid (fun w2 _ => isV_zero w2 d), below_rowSet hbY (Nat.le_succ_of_le hbl) _⟩
  | some y =>
    have hT : getT t key = y := by unfold getT; rw [hg]; rfl
    rw [hT] at hx q0
    simp only [Option.isSome_some]
    by_cases hk : y.kind = kind
    · have hk2 : (y.kind == kind) = true := beq_iff_eq.2 hk
      have lD := lB.row cs1.toArray
      go_wp2_with (first
        | ((with_reducible refine wpL_load c 25 cs1.toArray 5 rowVal hz.1 lC ?_ ?_); rfl)
        | ((with_reducible refine wpL_store (b + 1) 25 valZ cs1.toArray 5 rowVal rfl hz.1 hz.2 lB ?_ ?_ ?_); rfl; rfl))
      refine bodyPost_ret (results_ctG Tryd.results11 rowVal hz.1 lD rfl) rfl ?_
      rw [show fieldV t key kind = some y by unfold fieldV; rw [hg, Option.filter_some, hk2]; rfl]
      unfold FieldPost
      exact ⟨cs1, rfl, hT ▸ HX, below_rowSet hbY (Nat.le_succ_of_le hbl) _⟩
    · have hk2 : (y.kind == kind) = false := beq_eq_false_iff_ne.2 hk
      have lD := lB.row valZ
      go_wp2_with ((with_reducible refine wpL_store (b + 1) 25 valZ valZ 5 rowVal rfl rfl (valC_one _ _ _ _ _ _ _ _ _) lB ?_ ?_ ?_); rfl; rfl)
      refine bodyPost_ret (results_ctG Tryd.results11 rowVal rfl lD rfl) rfl ?_
      rw [show fieldV t key kind = none by unfold fieldV; rw [hg, Option.filter_some, hk2]; rfl]
      unfold FieldPost
      exact ⟨[.int .i64 0, .int .i64 0, .string ⟨#[]⟩, .slice none 0 0, .slice none 0 0], rfl, Lib.hid (fun w2 _ => isV_zero w2 d), below_rowSet hbY (Nat.le_succ_of_le hbl) _⟩
end Go.Proofs.YtmbmeidkmhajbaaDoor.V

/- Numbers by keys, one behind the other: the text, the order, and where each stands. Nothing of the program is named here. -/
namespace Go.Proofs.YtmbmeidkmhajbaaDoor.V
open Go

def numK (j : Nat) : VT := .mk 1 (j : Int) [] [] []
def numsK (n : Nat) : List VT := (List.range n).map numK
theorem numsK_len (n : Nat) : (numsK n).length = n := by unfold numsK; simp
theorem numsK_succ (n : Nat) : numsK (n + 1) = numsK n ++ [numK n] := by unfold numsK; rw [List.range_succ, List.map_append]; rfl
theorem numsK_at {n i : Nat} (h : i < n) : (numsK n)[i]? = some (numK i) := by unfold numsK; rw [List.getElem?_map, List.getElem?_range h]; rfl
theorem eachL_snoc (x : VT) : ∀ l : List VT, eachL (l ++ [x]) = (eachL l && x.each) := by
  intro l
  induction l with
  | nil => rw [List.nil_append, eachL_cons, eachL_nil, Bool.and_true, Bool.true_and]
  | cons y l ih => rw [List.cons_append, eachL_cons, eachL_cons, ih, Bool.and_assoc]
theorem numsK_each : ∀ n : Nat, n ≤ 1000 → eachL (numsK n) = true := by
  intro n
  induction n with
  | zero => intro _; exact eachL_nil
  | succ n ih =>
    intro h
    rw [numsK_succ, eachL_snoc, ih (by omega), Bool.true_and]
    unfold numK
    rw [each_eq, eachL_nil, List.length_nil, oneB_num (by omega)]
    rfl
theorem countL_snoc (x : VT) (l : List VT) : countL (l ++ [x]) = countL l + x.count := by
  rw [countL_append, countL_cons, countL_nil]; omega
theorem numsK_count : ∀ n : Nat, countL (numsK n) = n := by
  intro n
  induction n with
  | zero => exact countL_nil
  | succ n ih =>
    rw [numsK_succ, countL_snoc, ih]
    unfold numK
    rw [count_eq, countL_nil]
theorem depthL_snoc (x : VT) : ∀ l : List VT, depthL (l ++ [x]) = max (depthL l) x.depth := by
  intro l
  induction l with
  | nil => rw [List.nil_append, depthL_cons, depthL_nil]; omega
  | cons y l ih => rw [List.cons_append, depthL_cons, depthL_cons, ih]; omega
theorem numsK_depth : ∀ n : Nat, depthL (numsK n) ≤ 1 := by
  intro n
  induction n with
  | zero => show depthL [] ≤ 1; rw [depthL_nil]; omega
  | succ n ih =>
    rw [numsK_succ, depthL_snoc]
    unfold numK
    rw [depth_eq, depthL_nil]
    omega
theorem wrM_snoc (x : VT) (k : List UInt8) : ∀ (l : List VT) (ks : List (List UInt8)) (b : Bool), ks.length = l.length → wrM b (l ++ [x]) (ks ++ [k]) = wrM b l ks ++ ((if b && l.isEmpty then [] else [44]) ++ (quotL k ++ 58 :: x.wr)) := by
  intro l
  induction l with
  | nil =>
    intro ks b h
    obtain rfl := List.eq_nil_of_length_eq_zero h
    rw [List.nil_append, List.nil_append, wrM_cons, wrM_nil, wrM_nil]
    cases b <;> simp
  | cons y l ih =>
    intro ks b h
    obtain ⟨q, ks, rfl⟩ : ∃ q t, ks = q :: t := by
      cases ks with
      | nil => simp at h
      | cons q t => exact ⟨q, t, rfl⟩
    have h2 : ks.length = l.length := by simpa using h
    rw [List.cons_append, List.cons_append, wrM_cons, wrM_cons, List.headD_cons, List.tail_cons, List.headD_cons, List.tail_cons, ih ks false h2]
    cases b <;> simp
/-- the one behind which the next stands -/
def lastK (prev : Option (List UInt8)) (ks : List (List UInt8)) : Option (List UInt8) := ks.foldl (fun _ k => some k) prev
theorem ordB_snoc (k : List UInt8) : ∀ (ks : List (List UInt8)) (prev : Option (List UInt8)), ordB prev (ks ++ [k]) = (ordB prev ks && (lastK prev ks).all fun p => lessL p k) := by
  intro ks
  induction ks with
  | nil => intro prev; rw [List.nil_append, ordB, ordB, ordB, Bool.and_true, Bool.true_and]; rfl
  | cons q ks ih =>
    intro prev
    rw [List.cons_append, ordB, ordB, ih (some q), Bool.and_assoc]
    rfl
theorem lastK_at {ks : List (List UInt8)} {j : Nat} (hj : ks.length = j + 1) (prev : Option (List UInt8)) {p : List UInt8} (hp : ks[j]? = some p) : lastK prev ks = some p := by
  have e : ks = ks.take j ++ [p] := by
    have h : ks.take (j + 1) = ks.take j ++ [p] := by rw [List.take_add_one, hp]; rfl
    rw [List.take_of_length_le (by omega)] at h
    exact h
  rw [e]
  unfold lastK
  rw [List.foldl_append]
  rfl
theorem ordB_above : ∀ (ks : List (List UInt8)) (p : List UInt8), ordB (some p) ks = true → ∀ q ∈ ks, lessL p q = true := by
  intro ks
  induction ks with
  | nil => intro p _ q hq; cases hq
  | cons k ks ih =>
    intro p h q hq
    rw [ordB, Bool.and_eq_true] at h
    have h1 : lessL p k = true := by simpa using h.1
    rcases List.mem_cons.1 hq with rfl | hq
    · exact h1
    · exact less_trans p k q h1 (ih k h.2 q hq)
theorem firstAt_ord : ∀ (ks : List (List UInt8)) (prev : Option (List UInt8)) (i : Nat) (k : List UInt8), ordB prev ks = true → ks[i]? = some k → firstAt ks k = (i : Int) := by
  intro ks
  induction ks with
  | nil => intro prev i k _ h; simp at h
  | cons q ks ih =>
    intro prev i k ho h
    rw [ordB, Bool.and_eq_true] at ho
    cases i with
    | zero =>
      simp only [List.getElem?_cons_zero, Option.some.injEq] at h
      subst h
      rw [firstAt]
      simp
    | succ i =>
      rw [List.getElem?_cons_succ] at h
      have h1 := ih (some q) i k ho.2 h
      have hne : q ≠ k := fun e => by
        have h2 := ordB_above ks q ho.2 k (List.mem_of_getElem? h)
        rw [← e, lessL_same] at h2
        cases h2
      rw [firstAt, h1]
      simp [hne]
      intro h; omega
/-- the value that is read of the text -/
def keysT (n : Nat) (ks : List (List UInt8)) : VT := .mk 4 0 [] (numsK n) ks
theorem keysT_field {n i : Nat} {ks : List (List UInt8)} {k : List UInt8} (hn : ks.length = n) (ho : ordB none ks = true) (hk : ks[i]? = some k) : fieldV (keysT n ks) k 1 = some (numK i) := by
  have hi : i < n := by rw [← hn]; exact (List.getElem?_eq_some_iff.1 hk).1
  have hf := firstAt_ord ks none i k ho hk
  have hg : getV (keysT n ks) k = some (numK i) := by
    unfold getV keysT
    rw [show (VT.mk 4 0 [] (numsK n) ks).kind = 4 from rfl, show (VT.mk 4 0 [] (numsK n) ks).keys = ks from rfl, show (VT.mk 4 0 [] (numsK n) ks).items = numsK n from rfl, hf, if_pos ⟨rfl, by rw [hn, numsK_len], by omega⟩, Int.toNat_natCast, numsK_at hi]
  unfold fieldV
  rw [hg]
  rfl
/-- how long it is -/
theorem escL_len : ∀ s : List UInt8, (escL s).length ≤ 2 * s.length := by
  intro s
  induction s with
  | nil => simp [escL]
  | cons c r ih =>
    rw [escL, List.length_append, List.length_cons]
    split <;> simp <;> omega
theorem quotL_len (s : List UInt8) : (quotL s).length ≤ 2 * s.length + 2 := by
  unfold quotL
  rw [List.length_cons, List.length_append, List.length_singleton]
  have := escL_len s
  omega
theorem digit_itoa : ∀ j : Nat, j < 10 → Lib.itoa (j : Int) = [UInt8.ofNat (48 + j)] := by
  intro j hj
  rcases (by omega : j = 0 ∨ j = 1 ∨ j = 2 ∨ j = 3 ∨ j = 4 ∨ j = 5 ∨ j = 6 ∨ j = 7 ∨ j = 8 ∨ j = 9) with rfl | rfl | rfl | rfl | rfl | rfl | rfl | rfl | rfl | rfl <;> (unfold Lib.itoa; rw [if_neg (by decide), Lib.decDigits_one (by decide)]; rfl)
theorem numK_wr {j : Nat} (hj : j < 10) : (numK j).wr = [UInt8.ofNat (48 + j)] := by
  unfold numK
  rw [wr_eq, if_pos rfl, digit_itoa j hj]
/-- what comes behind, with its comma -/
theorem keys_text {j : Nat} (hj : j < 10) {ks : List (List UInt8)} (hn : ks.length = j) (k : List UInt8) : wrM true (numsK (j + 1)) (ks ++ [k]) = wrM true (numsK j) ks ++ ((if j = 0 then [] else [44]) ++ (quotL k ++ [58, UInt8.ofNat (48 + j)])) := by
  rw [numsK_succ, wrM_snoc _ _ _ _ _ (by rw [hn, numsK_len]), numK_wr hj]
  have : (true && (numsK j).isEmpty) = decide (j = 0) := by
    cases j with
    | zero => rfl
    | succ j => rw [numsK_succ]; simp
  rw [this]
  by_cases h : j = 0 <;> simp [h]
end Go.Proofs.YtmbmeidkmhajbaaDoor.V

/- Rows of texts that come in, are cut and copied, and written in place. -/
namespace Go.Proofs.YtmbmeidkmhajbaaDoor.V
open Go.RowKit Go.Sort
set_option maxRecDepth 100000

def oneL (x : List UInt8) : List Value := [.string ⟨x.toArray⟩]
theorem infoST : (Tryd.prog.info? 9).map (fun i => (i.zero, i.size, i.bytes)) = some (some (.string ⟨#[]⟩), 1, 16) := by kernel_rfl
theorem strs_row {w : World} {v : Value} {S : List (List UInt8)} (h : Strs w v S) : RowL w 1 v (S.map oneL) := by
  obtain ⟨a, c, rfl, hc, hm, hn, hl⟩ := h
  refine ⟨fun cs hcs => ?_, a, c, by simp, by simpa using hc, hm, hn, fun hpos => ?_⟩
  · obtain ⟨b, _, rfl⟩ := List.mem_map.1 hcs
    rfl
  · have hne : S ≠ [] := fun e => by rw [e] at hpos; simp at hpos
    obtain ⟨b, off, ha, hx⟩ := hl hne
    refine ⟨b, off, ha, fun i cs hi j u hu => ?_⟩
    rw [List.getElem?_map] at hi
    cases hs : S[i]? with
    | none => rw [hs] at hi; cases hi
    | some x =>
      rw [hs] at hi
      have hcs : cs = oneL x := (Option.some.inj hi).symm
      subst hcs
      cases j with
      | zero =>
        have : u = .string ⟨x.toArray⟩ := (Option.some.inj hu).symm
        rw [this, Nat.mul_one, Nat.add_zero]
        exact hx i x hs
      | succ j => cases hu
theorem rowOnes (l : List (List UInt8)) : ∀ u ∈ (l.map oneL).flatten, u.oneCell' = true := by
  intro u hu
  obtain ⟨cs, hcs, hu⟩ := List.mem_flatten.1 hu
  obtain ⟨b, _, rfl⟩ := List.mem_map.1 hcs
  rw [List.mem_singleton.1 hu]
  rfl
theorem elemS : ∀ w, (Go.sizeOf (Tryd.prog.elem 23)).run Tryd.prog w = .ok 1 w := by
  rw [show Tryd.prog.elem 23 = 9 by kernel_rfl]
  exact Tryd.sizeOf9
section
variable {ops : Array Oper} {rest : List Oper} {a : Act} {w : World} {Q : Exit → Act → World → Prop} {t' : TypeId} {pos : String} {after : Array Edge} {d : Option Tmp} {x y : Tmp}
theorem run_cutR {gd : Option (Nat × Bool)} (ad : Option Addr) (n c r : Nat) (hr : r ≤ c) (hx : a.eval (.tmp x) = .slice ad n c) (hy : a.eval (.tmp y) = .int .i64 (r : Int)) (w : World) :
    (execOp a.eval ⟨d, .slice 23 (.tmp x) none (some (.tmp y)) none, t', pos, after, gd⟩).run Tryd.prog w = .ok (.value (sliced ad 0 r c 1)) w := by
  have h1 := run_slice_h (P := Tryd.prog) w 23 ad n c Tryd.underlying23 .i64 (r : Int) (by omega) (by omega)
  have h2 := run_sliceAt_slice (P := Tryd.prog) w 23 (.slice ad n c) none (some (.int .i64 (r : Int))) none Tryd.underlying23
  unfold execOp
  simp only [hx, hy, Option.map_some, Option.map_none, Sem.run_bind, h2, h1, elemS, Result.andThen, Sem.run_pure, Int.toNat_natCast]
theorem wpL_cutR (ad : Option Addr) (n c r : Nat) (css : List (List Value)) (hR : RowL w 1 (.slice ad n c) css) (hr : r ≤ n) (hx : a.eval (.tmp x) = .slice ad n c) (hy : a.eval (.tmp y) = .int .i64 (r : Int))
    (h : ∀ v', RowL w 1 v' (css.take r) → wpList Tryd.prog ops Q rest (a.put d v') w) : wpList Tryd.prog ops Q (⟨d, .slice 23 (.tmp x) none (some (.tmp y)) none, t', pos, after, none⟩ :: rest) a w := by
  have hn : n = css.length := by obtain ⟨_, a', c', e, _⟩ := hR; injection e
  have hc : n ≤ c := by obtain ⟨_, a', c', e, hc, _⟩ := hR; injection e with _ e2 e3; omega
  exact V.wpL_val (sliced ad 0 r c 1) rfl (run_cutR ad n c r (by omega) hx hy w) (h _ (hR.take (by omega)))
end
/-- a row of texts that the call owns: where it lies -/
theorem own_at {w : World} {B : Nat} {v : Value} {l : List (List UInt8)} (h : OwnL w B 9 1 v (l.map oneL)) : (v = .slice none 0 0 ∧ l = []) ∨ ∃ g c, v = .slice (some ⟨g, 0, none⟩) l.length c ∧ B ≤ g ∧ g < w.heap.size ∧ l.length ≤ c ∧ c ≤ maxLen ∧
    (∀ j x, l[j]? = some x → w.cell? ⟨g, j, none⟩ = some (.string ⟨x.toArray⟩) ∧ w.frozen? ⟨g, j, none⟩ = false) ∧
    (∀ j x, j < l.length → OwnL (w.setCell ⟨g, j, none⟩ (.string ⟨x.toArray⟩)) B 9 1 v ((l.set j x).map oneL)) := by
  have h0 := h
  obtain ⟨h1, hlen, h2⟩ := h
  rw [List.length_map] at h2 hlen
  have hfl : ∀ l : List (List UInt8), (l.map oneL).flatten = l.map fun x => Value.string ⟨x.toArray⟩ := by
    intro l
    induction l with
    | nil => rfl
    | cons b l ih => rw [List.map_cons, List.flatten_cons, ih]; rfl
  rcases h2 with ⟨hv, hn⟩ | ⟨g, cap, cur, hv, hB, hh, hc, hm, hs, ht⟩
  · exact .inl ⟨hv, List.eq_nil_of_length_eq_zero (by omega)⟩
  · right
    rw [hfl, Nat.mul_one] at ht
    have hcur : ∀ j, j < l.length → cur[j]? = (l[j]?).map fun x => Value.string ⟨x.toArray⟩ := fun j hj => by
      have : (cur.toList.take l.length)[j]? = (l.map fun x => Value.string ⟨x.toArray⟩)[j]? := by rw [ht]
      rw [List.getElem?_take, if_pos hj, List.getElem?_map] at this
      rw [← this, Array.getElem?_toList]
    refine ⟨g, cap, hv, hB, (Array.getElem?_eq_some_iff.1 hh).1, hc, hm, fun j x hj => ?_, fun j x hj => ?_⟩
    · have hlt := (List.getElem?_eq_some_iff.1 hj).1
      refine ⟨?_, frozen_of_row w g j cur _ hh⟩
      rw [cell_of_row w g j cur _ (0, 0) hh, hcur j hlt, hj]
      rfl
    · refine ⟨fun cs hcs => ?_, ?_, .inr ⟨g, cap, cur.setIfInBounds j (.string ⟨x.toArray⟩), ?_, hB, heap_setCell_same w g j cur _ (.string ⟨x.toArray⟩) hh, ?_, hm, ?_, ?_⟩⟩
      · obtain ⟨b, _, rfl⟩ := List.mem_map.1 hcs
        rfl
      · rw [hfl]; simp
      · rw [hv]; simp
      · simpa using hc
      · rw [Array.size_setIfInBounds]; exact hs
      · rw [List.length_map, List.length_set, hfl, Nat.mul_one, Array.toList_setIfInBounds, List.take_set, ht, List.map_set]
theorem own_cell {w : World} {B g n c j : Nat} {l : List (List UInt8)} {x : List UInt8} (h : OwnL w B 9 1 (.slice (some ⟨g, 0, none⟩) n c) (l.map oneL)) (hj : l[j]? = some x) : w.cell? ⟨g, j, none⟩ = some (.string ⟨x.toArray⟩) := by
  rcases own_at h with ⟨hv, _⟩ | ⟨g', c', hv, _, _, _, _, hcell, _⟩
  · cases hv
  · injection hv with h1
    injection h1 with h1
    injection h1 with h1
    subst h1
    exact (hcell j x hj).1
/-- the row when j of its texts were cut -/
def cutRow (L : List (List UInt8)) (j : Nat) : List (List UInt8) := (L.take j).map (fun x => x.take 20) ++ L.drop j
theorem cutRow_len (L : List (List UInt8)) (j : Nat) : (cutRow L j).length = L.length := by unfold cutRow; simp; omega
theorem cutRow_at {L : List (List UInt8)} {j : Nat} {x : List UInt8} (h : L[j]? = some x) : (cutRow L j)[j]? = some x := by
  have hlt := (List.getElem?_eq_some_iff.1 h).1
  unfold cutRow
  rw [List.getElem?_append_right (by simp; omega), List.length_map, List.length_take, Nat.min_eq_left (by omega), Nat.sub_self, List.getElem?_drop, Nat.add_zero, h]
theorem cutRow_set {L : List (List UInt8)} {j : Nat} {x : List UInt8} (h : L[j]? = some x) : (cutRow L j).set j (x.take 20) = cutRow L (j + 1) := by
  obtain ⟨hlt, he⟩ := List.getElem?_eq_some_iff.1 h
  unfold cutRow
  rw [List.set_append_right _ _ (by simp; omega), List.length_map, List.length_take, Nat.min_eq_left (by omega), Nat.sub_self, List.drop_eq_getElem_cons hlt, List.set_cons_zero, List.take_add_one (l := L), h, List.map_append, List.append_assoc]
  rfl
theorem cutRow_all (L : List (List UInt8)) : cutRow L L.length = L.map (fun x => x.take 20) := by unfold cutRow; simp
theorem cutRow_new {L : List (List UInt8)} {j : Nat} {x : List UInt8} (h : L[j]? = some x) : (cutRow L (j + 1))[j]? = some (x.take 20) := by
  rw [← cutRow_set h, List.getElem?_set_self (by rw [cutRow_len]; exact (List.getElem?_eq_some_iff.1 h).1)]
theorem cutRow_old {L : List (List UInt8)} {j i : Nat} (hi : i < j) (hj : j ≤ L.length) : (cutRow L j)[i]? = ((L.take j).map (fun x => x.take 20))[i]? := by
  unfold cutRow
  rw [List.getElem?_append_left (by simp; omega)]
end Go.Proofs.YtmbmeidkmhajbaaDoor.V

