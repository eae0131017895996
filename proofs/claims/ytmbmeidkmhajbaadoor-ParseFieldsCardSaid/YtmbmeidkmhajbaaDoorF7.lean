/- Texts that stand on one another, put together: YRead2, YParse, VRefCount, VRefSame. -/
import Derived.Test.YtmbmeidkmhajbaaDoorF6
import Derived.Defers
import Derived.Lib.SmallJoins
import Derived.Recover
/- The developers' read: what is panicked is recovered. -/
namespace Go.Proofs.YtmbmeidkmhajbaaDoor.V
set_option maxRecDepth 100000
open Go.RowKit Go.Sort Go.Joins

theorem catch_idle (a b : Addr) (w : World) :
    CallsD Tryd.prog 21 #[.pointer (some a), .pointer (some b)] .returning w fun e u' w' => e = .returned (.tuple #[]) ∧ u' = .returning ∧ w' = w := by
  refine callsD_of_wpS Tryd.func21 rfl fun c₀ cs hu => ?_
  apply wpS_seq
  apply wpS_region
  simp [wpOpsS, go_sem, recoverD, hu, Tryd.ntmps21, Exit.thenS]
  have hfr : #[Value.pointer (some a), .pointer (some b)] ++ ((Array.replicate 7 undef).setIfInBounds 1 Value.nilIface).setIfInBounds 0 Value.nilIface = #[.pointer (some a), .pointer (some b), .nilIface, .nilIface, undef, undef, undef, undef, undef] := rfl
  rw [hfr]
  refine wpS_of_wp ?_
  go_wp2
  simp [bodyPostS, results, Tryd.results21]
  cases c₀
  simp_all
section
variable {a : Act} {d : Option Tmp} {x y : Operand} {t' : TypeId} {pos : String} {after : Array Edge} {gd : Option (Nat × Bool)}
theorem run_assE (er : Int) (hx : a.eval x = .iface 26 (.int .i64 er)) (w : World) : (execOp a.eval ⟨d, .typeAssert x 20 26 false, t', pos, after, gd⟩).run Tryd.prog w = .ok (.value (.int .i64 er)) w := by
  unfold execOp
  simp only [hx]
  simp [Instr.typeAssert, go_sem]
theorem run_stE {w : World} (b : Nat) (old : Value) (z : Int) (hl : Lies w b 26 #[old]) (hx : a.eval x = .pointer (some ⟨b, 0, none⟩)) (hy : a.eval y = .int .i64 z) :
    (execOp a.eval ⟨none, .store 26 x y, t', pos, after, gd⟩).run Tryd.prog w = .ok .skip (w.setCell ⟨b, 0, none⟩ (.int .i64 z)) := by
  have hc : w.cell? ⟨b, 0, none⟩ = some old := by rw [hl.cell]; rfl
  have hz := hl.frozen 0
  unfold execOp
  simp only [hx, hy]
  simp [Instr.storeAt, go_sem, hc, hz]
theorem run_stZ {w : World} {b : Nat} {cur : Array Value} {e : TypeId} (C : Array Value) (hC : C.size = 5) (h1 : Ones C) (hh : Lies w b e cur) (hk : cur.size = 5) (hx : a.eval x = .pointer (some ⟨b, 0, none⟩)) (hy : a.eval y = .agg C) :
    (execOp a.eval ⟨none, .store 25 x y, t', pos, after, gd⟩).run Tryd.prog w = .ok .skip (w.setRow b C) := by
  have := run_stV (a := a) (x := x) (y := y) (t' := t') (pos := pos) (after := after) (gd := gd) C.toList hh (by simpa using hC) (by omega) (fun u hu => Array.all_eq_true_iff_forall_mem.1 h1 u (by simpa using hu)) hx (by simpa using hy)
  rw [this]
  have e1 : (cur.toList.take 0 ++ C.toList ++ cur.toList.drop (0 + C.toList.length)).toArray = C := by
    rw [List.take_zero, List.nil_append, List.drop_eq_nil_of_le (by simp; omega), List.append_nil, Array.toArray_toList]
  rw [e1]
end
theorem catch_met (er : Int) (B bv be : Nat) (C : Array Value) (old : Value) (older : List PanicEntry) (w : World) (hv : Lies w bv 25 C) (hC : C.size = 5) (he : Lies w be 26 #[old]) (hne : bv ≠ be) (hBv : B ≤ bv) (hBe : B ≤ be) :
    CallsD Tryd.prog 21 #[.pointer (some ⟨bv, 0, none⟩), .pointer (some ⟨be, 0, none⟩)] (.panicking ({ v := .iface 26 (.int .i64 er), recovered := false } :: older)) w fun e u' w' =>
      e = .returned (.tuple #[]) ∧ u' = .panicking ({ v := .iface 26 (.int .i64 er), recovered := true } :: older) ∧ Lies w' bv 25 valZ ∧ Lies w' be 26 #[.int .i64 er] ∧ RowKit.Below B w w' := by
  refine callsD_of_wpS Tryd.func21 rfl fun c₀ cs hu => ?_
  apply wpS_seq
  apply wpS_region
  simp [wpOpsS, go_sem, recoverD, hu, Tryd.ntmps21, Exit.thenS]
  have hfr : #[Value.pointer (some ⟨bv, 0, none⟩), .pointer (some ⟨be, 0, none⟩)] ++ ((Array.replicate 7 undef).setIfInBounds 1 (Value.iface 26 (.int .i64 er))).setIfInBounds 0 (Value.iface 26 (.int .i64 er)) = #[.pointer (some ⟨bv, 0, none⟩), .pointer (some ⟨be, 0, none⟩), .iface 26 (.int .i64 er), .iface 26 (.int .i64 er), undef, undef, undef, undef, undef] := rfl
  rw [hfr]
  refine wpS_of_wp ?_
  go_upto_region 2 with fail
  have hB0 := RowKit.Below.refl B w
  refine wp_held_any (S := fun w => True) 5 rfl (by kernel_rfl) ?_
  have hdr : RowKit.Below w.heap.size w { w with drawn := w.drawn + 1 } := (RowKit.Below.refl _ _).drew
  replace hB0 := hB0.trans (hdr.mono (Nat.le_trans hBv (Nat.le_of_lt hv.lt)))
  replace hv := hv.on hdr
  replace he := he.on hdr
  clear hdr
  generalize ({ w with drawn := w.drawn + 1 } : World) = wd at *
  refine held_put 0 6 (.agg valZ) rfl rfl (by kernel_rfl) (by kernel_rfl) (by kernel_rfl) (by kernel_rfl) (fun w hS => (by kernel_rfl)) trivial ?_
  simp only [List.setIfInBounds_toArray, List.set_cons_succ, List.set_cons_zero]
  refine held_put 1 7 (.iface 26 (.int .i64 er)) rfl rfl (by kernel_rfl) (by kernel_rfl) (by kernel_rfl) (by kernel_rfl) (fun w hS => rfl) trivial ?_
  simp only [List.setIfInBounds_toArray, List.set_cons_succ, List.set_cons_zero]
  refine held_put 2 8 (.int .i64 er) rfl rfl (by kernel_rfl) (by kernel_rfl) (by kernel_rfl) (by kernel_rfl) (fun w hS => run_assE er rfl w) trivial ?_
  simp only [List.setIfInBounds_toArray, List.set_cons_succ, List.set_cons_zero]
  refine held_one 3 (by kernel_rfl) (wpOp_skpN rfl rfl (by kernel_rfl) (run_stZ valZ rfl (valC_one _ _ _ _ _ _ _ _ _) hv hC rfl rfl) ⟨trivial, ?_⟩)
  refine held_one 4 (by kernel_rfl) (wpOp_skpN rfl rfl (by kernel_rfl) (run_stE be old er (he.rowFar hne.symm valZ) rfl rfl) ⟨trivial, ?_⟩)
  refine held_done (by kernel_rfl) ?_
  simp only [Exit.then]
  have r1 : Lies ((wd.setRow bv valZ).setCell ⟨be, 0, none⟩ (.int .i64 er)) bv 25 valZ := (hv.row valZ).far hne _
  have r2 : Lies ((wd.setRow bv valZ).setCell ⟨be, 0, none⟩ (.int .i64 er)) be 26 #[.int .i64 er] := (he.rowFar hne.symm valZ).put 0 _
  have r3 := (below_rowSet hB0 hBv valZ).setCell (p := ⟨be, 0, none⟩) hBe (.int .i64 er)
  refine ⟨rfl, _, rfl, _, results_none rfl _ _ _, rfl, rfl, r1, r2, r3⟩
/-- a text of no more than 65,536 bytes, read -/
def rdQ (s : List UInt8) : Rd VT :=
  match rdV 12 0 s with
  | .bad e => .bad e
  | .ok (t, _) [] => .ok t []
  | .ok _ (_ :: _) => .bad 20
theorem rdP_Q {s : List UInt8} (h : s.length ≤ 65536) : rdP s = rdQ s := by unfold rdP; rw [if_neg (by omega)]; rfl
def ReadPost (E0 : List Nat) (w : World) (s : ByteArray) (e : Ending) (w' : World) : Prop :=
  (∃ er, rdQ s.data.toList = .bad er ∧ e = .returned (.tuple #[.agg valZ, .int .i64 er]) ∧ RowKit.Below w.heap.size w w') ∨
  (∃ cs t d, rdQ s.data.toList = .ok t [] ∧ e = .returned (.tuple #[.agg (List.toArray cs), .int .i64 0]) ∧ IsVX E0 w' d cs t ∧ RowKit.Below w.heap.size w w')
theorem results_two {P : Program} {fn : Func} {p q : Tmp} {ty ty' : TypeId} {n : Nat} {w : World} {g b : Nat} {t : TypeId} {cs : Array Value} {x : Value} {tmps : Array Value} (h : fn.results = #[.cell p ty, .cell q ty']) (hT : RowT P ty n) (hn : cs.size = n) (hg : Lies w g t cs) (hp : tmps.getD p undef = .pointer (some ⟨g, 0, none⟩))
    (hq : tmps.getD q undef = .pointer (some ⟨b, 0, none⟩)) (hl : (loadVar ty' ⟨b, 0, none⟩).run P w = .ok x w) : (results fn tmps).run P w = .ok (.tuple #[.agg cs, x]) w := by
  obtain ⟨⟨d, hu, hd⟩, hi⟩ := hT
  have hl1 := run_loadVar_row (P := P) w g t ty cs (0, 0) d hg hu (by cases d <;> first | rfl | simp [TypeDesc.isRow] at hd) (by rw [hi, hn])
  have hp' : tmps[p]?.getD undef = .pointer (some ⟨g, 0, none⟩) := by simpa using hp
  have hq' : tmps[q]?.getD undef = .pointer (some ⟨b, 0, none⟩) := by simpa using hq
  simp [results, h, hp', hq', asAddr, hl1, hl]
set_option maxHeartbeats 12800000 in
theorem read_any (E0 : List Nat) (s : ByteArray) (w : World) (hs : s.size ≤ 65536) (her : ErrAt w) (hE0 : ∀ b ∈ E0, 2 < b ∧ b < w.heap.size) (hnd : E0.Nodup) :
    Calls Tryd.prog 16 #[.string s] w fun e w' => ReadPost E0 w s e w' := by
  have hmf : ∀ (fn : Fn) (first cap : Array Value) (w : World), (Instr.makeFunc fn first cap).run Tryd.prog w = .ok (.func fn first cap) w := fun _ _ _ _ => rfl
  go_enter_defers Tryd.func16, Tryd.ntmps16
  go_upto_region 3 with fail
  have s1 : (w.alloc (.cells valZ 25)).heap.size = w.heap.size + 1 := by simp
  have s2 : ((w.alloc (.cells valZ 25)).alloc (.cells #[.int .i64 0] 26)).heap.size = w.heap.size + 1 + 1 := by simp
  have lv0 := (Lies.new w 25 valZ)
  have le0 := (Lies.new (w.alloc (.cells valZ 25)) 26 #[.int .i64 0])
  have lg0 := (Lies.new ((w.alloc (.cells valZ 25)).alloc (.cells #[.int .i64 0] 26)) 55 #[.string s, .int .i64 0, .int .i64 0, .slice none 0 0])
  have hba : RowKit.Below w.heap.size w (((w.alloc (.cells valZ 25)).alloc (.cells #[.int .i64 0] 26)).alloc (.cells #[.string s, .int .i64 0, .int .i64 0, .slice none 0 0] 55)) := (((RowKit.Below.refl _ _).alloc (Nat.le_refl _) _).alloc (by simp) _).alloc (by simp; omega) _
  rw [s1] at le0
  rw [s2] at lg0
  have lv := (lv0.alloc (.cells #[.int .i64 0] 26)).alloc (.cells #[.string s, .int .i64 0, .int .i64 0, .slice none 0 0] 55)
  have le := le0.alloc (.cells #[.string s, .int .i64 0, .int .i64 0, .slice none 0 0] 55)
  generalize World.alloc (World.alloc (World.alloc w _) _) _ = wa at *
  clear lv0 le0 s1 s2
  obtain ⟨bv, hbv⟩ : ∃ b, w.heap.size = b := ⟨_, rfl⟩
  rw [hbv] at lv le lg0 hba ⊢
  have her' : ErrAt wa := her.below (hbv ▸ hba)
  have hel : 2 < bv := hbv ▸ her.lt
  have h0 : St wa (bv + 1 + 1) ((bv + 1) :: bv :: E0) (bv + 1 + 1 + 1) s 0 0 (.slice none 0 0) [] := by
    refine ⟨lg0, Nat.lt_succ_self _, lg0.lt, ⟨her', by omega⟩, fun b hb => ?_, OwnL.nil _ _ _ _, ?_, (fun m hm => by cases hm), Nat.zero_le _, hs, Nat.zero_le _, Nat.zero_le _, (fun m hm => by cases hm)⟩
    · simp only [List.mem_cons] at hb
      have h1 := le.lt
      have h2 := lv.lt
      rcases hb with rfl | rfl | hb
      · exact ⟨by omega, h1⟩
      · exact ⟨by omega, h2⟩
      · have := hE0 b hb
        rw [hbv] at this
        exact ⟨this.1, by omega⟩
    · show ((bv + 1 + 1) :: (((bv + 1) :: bv :: E0) ++ ([] ++ []))).Nodup
      have h1 : ∀ b ∈ E0, b < bv := fun b hb => by have := hE0 b hb; rw [hbv] at this; omega
      rw [List.append_nil, List.append_nil]
      refine List.nodup_cons.2 ⟨fun hm => ?_, List.nodup_cons.2 ⟨fun hm => ?_, List.nodup_cons.2 ⟨fun hm => ?_, hnd⟩⟩⟩
      · rcases List.mem_cons.1 hm with h | hm
        · omega
        · rcases List.mem_cons.1 hm with h | hm
          · omega
          · have := h1 _ hm
            omega
      · rcases List.mem_cons.1 hm with h | hm
        · omega
        · have := h1 _ hm
          omega
      · have := h1 _ hm
        omega
  have hr0 : rest s 0 = s.data.toList := by unfold rest; rw [List.drop_zero]
  have hV := value_any wa (bv + 1 + 1) ((bv + 1) :: bv :: E0) (bv + 1 + 1 + 1) s 0 0 (.slice none 0 0) h0
  have hcore : ∀ k ∈ live (bv + 1 + 1) [] (.slice none 0 0) [], bv + 1 + 1 ≤ k := fun k hk => (h0.core_lt k hk).1
  have hpan : ∀ (w6 : World) (er : Int) (C : Array Value) (old : Value) (a : Act), rdQ s.data.toList = .bad er → RowKit.Below bv w w6 → Lies w6 bv 25 C → C.size = 5 → Lies w6 (bv + 1) 26 #[old] →
      CallsD Tryd.prog 21 #[.pointer (some ⟨bv, 0, none⟩), .pointer (some ⟨bv + 1, 0, none⟩)] (.panicking ({ v := .iface 26 (.int .i64 er), recovered := false } :: [])) w6 fun e u' w' =>
        e = .returned (.tuple #[]) ∧ u' = .panicking ({ v := .iface 26 (.int .i64 er), recovered := true } :: []) ∧ Lies w' bv 25 valZ ∧ Lies w' (bv + 1) 26 #[.int .i64 er] ∧ RowKit.Below bv w w' := by
    intro w6 er C old a _ hb lv lC le
    refine (catch_met er bv bv (bv + 1) C old [] w6 lv lC le (by omega) (Nat.le_refl _) (by omega)).mono ?_
    rintro e u' w' ⟨h1, h2, h3, h4, h5⟩
    exact ⟨h1, h2, h3, h4, hb.trans h5⟩
  have hgo : ∀ (er : Int) (C : Array Value) (old : Value) (w6 : World) (tm : Array Value), tm.size = 16 → tm.getD 2 undef = .pointer (some ⟨bv, 0, none⟩) → tm.getD 3 undef = .pointer (some ⟨bv + 1, 0, none⟩) → rdQ s.data.toList = .bad er → RowKit.Below bv w w6 → Lies w6 bv 25 C → C.size = 5 → Lies w6 (bv + 1) 26 #[old] →
      bodyPostD Tryd.prog Tryd.f16 (fun e w' => ReadPost E0 w s e w') (Exit.panic [{ v := .iface 26 (.int .i64 er), recovered := false }])
        { tmps := tm, defers := [{ target := Target.fn (Fn.func 21) #[.pointer (some ⟨bv, 0, none⟩), .pointer (some ⟨bv + 1, 0, none⟩)], args := #[] }] } w6 := by
    intro er C old w6 tm htm h2 h3 hX hb lv lC le
    refine leaves_cons (f := 21) (args := #[.pointer (some ⟨bv, 0, none⟩), .pointer (some ⟨bv + 1, 0, none⟩)]) (by simp) (by simp [go_sem]) ?_
    refine (hpan w6 er C old ⟨tm, []⟩ hX hb lv lC le).mono ?_
    rintro e u' w' ⟨rfl, rfl, r1, r2, r3⟩
    have hl : (loadVar 26 ⟨bv + 1, 0, none⟩).run Tryd.prog w' = .ok (.int .i64 er) w' := by
      have hc : w'.cell? ⟨bv + 1, 0, none⟩ = some (.int .i64 er) := by rw [r2.cell]; rfl
      simp [loadVar, go_sem, hc]
    have hr := results_two (P := Tryd.prog) (x := .int .i64 er) Tryd.results16 rowVal (rfl : valZ.size = 5) r1 h2 h3 hl
    simp only [settle]
    refine ⟨_, hr, ?_⟩
    unfold ReadPost
    exact .inl ⟨er, hX, rfl, hbv ▸ r3⟩
  go_upto_region 4 with (first
    | (go_at_call 22; refine hV.mono ?_; rintro e w5 hB; rcases hB with ⟨er, hX, rfl, hbe⟩ | ⟨cs, t, d, q, n', vo', hX, rfl, hpq, hq, h5, hx5, t5⟩)
    | ((with_reducible refine wpL_store bv 25 valZ cs.toArray 5 rowVal rfl (isVX_ones hx5).1 (isVX_ones hx5).2 (t5.lies (fun hk => by have := hcore _ hk; omega) lv) ?_ ?_ ?_); rfl; rfl))
  · refine hgo er valZ (.int .i64 0) w5 _ rfl rfl rfl (by unfold rdQ; rw [← hr0, hX]) (hba.trans (hbe.mono (by omega))) (lv.below hbe (by omega)) rfl (le.below hbe (by omega))
  · have hz := isVX_ones hx5
    have lv5 := (t5.lies (fun hk => by have := hcore _ hk; omega) lv).row cs.toArray
    have le5 := (t5.lies (fun hk => by have := hcore _ hk; omega) le).rowFar (by omega : bv + 1 ≠ bv) cs.toArray
    have lg5 := h5.rd.rowFar (by omega : bv + 1 + 1 ≠ bv) cs.toArray
    have hb5 := below_rowSet (hba.trans (t5.below (B := bv) (fun k hk => by have := hcore _ hk; omega) (by have := lg0.lt; omega))) (Nat.le_refl _) cs.toArray
    have tx : Turn (live (bv + 1 + 1) ((bv + 1) :: bv :: E0) vo' []) (live (bv + 1 + 1) ((bv + 1) :: bv :: E0) vo' []) w5 (w5.setRow bv cs.toArray) := Turn.of_grown (grown_row bv cs.toArray) (by unfold live; simp)
    have hx6 := hx5.turn tx
    generalize World.setRow _ _ _ = w6 at *
    have c1 := rd_c1 lg5
    by_cases hlt : q < s.size
    · have e1 : (q : Int) < (s.size : Int) := by omega
      go_wp2
      refine hgo 20 cs.toArray (.int .i64 0) w6 _ rfl rfl rfl ?_ hb5 lv5 hz.1 le5
      unfold rdQ
      rw [← hr0, hX, rest_cons hlt]
    · have e1 : ¬ (q : Int) < (s.size : Int) := by omega
      have hrq : rest s q = [] := by unfold rest; exact List.drop_eq_nil_of_le (by rw [show s.data.toList.length = s.size from rfl]; omega)
      have le6 := le5.rowFar (by omega : bv + 1 ≠ bv) cs.toArray
      have lv6 := lv5.row cs.toArray
      have q2 : (w6.setRow bv cs.toArray).cell? ⟨bv + 1, 0, none⟩ = some (.int .i64 0) := by rw [le6.cell]; rfl
      have f2 := le6.frozen 0
      go_wp2_with (first
        | ((with_reducible refine wpL_load bv 25 cs.toArray 5 rowVal hz.1 lv5 ?_ ?_); rfl)
        | ((with_reducible refine wpL_store bv 25 cs.toArray cs.toArray 5 rowVal hz.1 hz.1 hz.2 lv5 ?_ ?_ ?_); rfl; rfl))
      have tz : Turn (live (bv + 1 + 1) ((bv + 1) :: bv :: E0) vo' []) (live (bv + 1 + 1) ((bv + 1) :: bv :: E0) vo' []) w6 ((w6.setRow bv cs.toArray).setCell ⟨bv + 1, 0, none⟩ (.int .i64 0)) := (Turn.of_grown (grown_row bv cs.toArray) (by unfold live; simp)).trans (Turn.of_grown (g := bv + 1) (grown_set (bv + 1) (RowKit.Below.refl _ _) 0 _) (by unfold live; simp))
      have hx7 := hx6.turn tz
      have hb7 := (below_rowSet hb5 (Nat.le_refl _) cs.toArray).setCell (p := ⟨bv + 1, 0, none⟩) (by show bv ≤ bv + 1; omega) (.int .i64 0)
      have lv7 := lv6.far (p := ⟨bv + 1, 0, none⟩) (by show bv ≠ bv + 1; omega) (.int .i64 0)
      have le7 := le6.put 0 (.int .i64 0)
      generalize World.setCell _ _ _ = w7 at *
      have hc7 : w7.cell? ⟨bv + 1, 0, none⟩ = some (.int .i64 0) := by rw [le7.cell]; rfl
      refine leaves_cons (f := 21) (args := #[.pointer (some ⟨bv, 0, none⟩), .pointer (some ⟨bv + 1, 0, none⟩)]) (by simp) (by simp [go_sem]) ?_
      refine (catch_idle ⟨bv, 0, none⟩ ⟨bv + 1, 0, none⟩ _).mono ?_
      rintro e u' w' ⟨rfl, rfl, rfl⟩
      refine ⟨_, results_two (P := Tryd.prog) (x := .int .i64 0) Tryd.results16 rowVal hz.1 lv7 rfl rfl (by simp [loadVar, go_sem, hc7]), ?_⟩
      unfold ReadPost
      exact .inr ⟨cs, t, d, by unfold rdQ; rw [← hr0, hX, hrq], rfl, hx7.turn (X' := E0) ⟨rfl, rfl, rfl, Nat.le_refl _, fun _ _ _ => rfl, fun k hk => .inl (by unfold live; simp [hk])⟩, hbv ▸ hb7⟩
end Go.Proofs.YtmbmeidkmhajbaaDoor.V

/- Parse: what is too long is refused; what is read is handed back. -/
namespace Go.Proofs.YtmbmeidkmhajbaaDoor.V
set_option maxRecDepth 100000
open Go.RowKit Go.Sort Go.Joins

theorem results_ct {P : Program} {fn : Func} {p q : Tmp} {ty : TypeId} {n : Nat} {w : World} {g : Nat} {t : TypeId} {cs : Array Value} {tmps : Array Value} (h : fn.results = #[.cell p ty, .tmp q]) (hT : RowT P ty n) (hn : cs.size = n) (hg : Lies w g t cs) (hp : tmps.getD p undef = .pointer (some ⟨g, 0, none⟩)) :
    (results fn tmps).run P w = .ok (.tuple #[.agg cs, tmps.getD q undef]) w := by
  obtain ⟨⟨d, hu, hd⟩, hi⟩ := hT
  have hl1 := run_loadVar_row (P := P) w g t ty cs (0, 0) d hg hu (by cases d <;> first | rfl | simp [TypeDesc.isRow] at hd) (by rw [hi, hn])
  have hp' : tmps[p]?.getD undef = .pointer (some ⟨g, 0, none⟩) := by simpa using hp
  simp [results, h, hp', asAddr, hl1]
def ParsePost (w : World) (s : ByteArray) (e : Ending) (w' : World) : Prop :=
  (∃ er, rdP s.data.toList = .bad er ∧ e = .returned (.tuple #[.agg valZ, .int .i64 er]) ∧ RowKit.Below w.heap.size w w') ∨
  (∃ cs t d, rdP s.data.toList = .ok t [] ∧ e = .returned (.tuple #[.agg (List.toArray cs), .int .i64 0]) ∧ IsV w' d cs t ∧ RowKit.Below w.heap.size w w')
set_option maxHeartbeats 6400000 in
theorem parse_any (s : ByteArray) (w : World) (her : ErrAt w) :
    Calls Tryd.prog 6 #[.string s] w fun e w' => ParsePost w s e w' := by
  have hlen : s.data.toList.length = s.size := rfl
  by_cases hs : s.size ≤ 65536
  · have e1 : ¬ (65536 : Int) < (s.size : Int) := by omega
    go_enter Tryd.func6, Tryd.ntmps6
    go_upto_region 3 with fail
    have lv := Lies.new w 25 valZ
    have hba := (RowKit.Below.refl w.heap.size w).alloc (Nat.le_refl _) (.cells valZ 25)
    have her' := her.below hba
    generalize World.alloc w _ = wa at *
    obtain ⟨bv, hbv⟩ : ∃ b, w.heap.size = b := ⟨_, rfl⟩
    try rw [hbv]
    rw [hbv] at lv hba
    have hel := her.lt
    have HP := read_any [bv] s wa hs her' (fun b hb => by rw [List.mem_singleton.1 hb]; exact ⟨by omega, lv.lt⟩) (List.nodup_cons.2 ⟨List.not_mem_nil, List.nodup_nil⟩)
    go_wp2_with (first
      | (go_at_call 16; refine HP.mono ?_; rintro e w5 hB; rcases hB with ⟨er, hX, rfl, hb5⟩ | ⟨cs, t, d, hX, rfl, hx5, hb5⟩)
      | ((with_reducible refine wpL_store bv 25 valZ valZ 5 rowVal rfl rfl (valC_one _ _ _ _ _ _ _ _ _) (lv.on hb5) ?_ ?_ ?_); rfl; rfl)
      | ((with_reducible refine wpL_store bv 25 valZ cs.toArray 5 rowVal rfl (isVX_ones hx5).1 (isVX_ones hx5).2 (lv.on hb5) ?_ ?_ ?_); rfl; rfl))
    · have lv6 := (lv.on hb5).row valZ
      refine bodyPost_ret (results_ct Tryd.results6 rowVal rfl lv6 rfl) rfl ?_
      unfold ParsePost
      exact .inl ⟨er, by rw [rdP_Q (by omega), hX], rfl, by rw [hbv]; exact below_rowSet (hba.trans (hb5.mono (Nat.le_of_lt lv.lt))) (Nat.le_refl _) _⟩
    · have lv6 := (lv.on hb5).row cs.toArray
      have tz : Turn [bv] [bv] w5 (w5.setRow bv cs.toArray) := Turn.of_grown (grown_row bv cs.toArray) (by simp)
      refine bodyPost_ret (results_ct Tryd.results6 rowVal (isVX_ones hx5).1 lv6 rfl) rfl ?_
      unfold ParsePost
      refine .inr ⟨cs, t, d, by rw [rdP_Q (by omega), hX], rfl, (hx5.turn tz).isV, by rw [hbv]; exact below_rowSet (hba.trans (hb5.mono (Nat.le_of_lt lv.lt))) (Nat.le_refl _) _⟩
  · have e1 : (65536 : Int) < (s.size : Int) := by omega
    go_enter Tryd.func6, Tryd.ntmps6
    have lv := Lies.new w 25 valZ
    go_wp2_with ((with_reducible refine wpL_store w.heap.size 25 valZ valZ 5 rowVal rfl rfl (valC_one _ _ _ _ _ _ _ _ _) lv ?_ ?_ ?_); rfl; rfl)
    have lv6 := lv.row valZ
    refine bodyPost_ret (results_ct Tryd.results6 rowVal rfl lv6 rfl) rfl ?_
    unfold ParsePost
    exact .inl ⟨2, by unfold rdP; rw [if_pos (by omega)], rfl, below_rowSet ((RowKit.Below.refl w.heap.size w).alloc (Nat.le_refl _) _) (Nat.le_refl _) _⟩
section alive
open Go.RowKit Go.Sort Go.Joins

theorem parse_ok {s : List UInt8} {t : VT} (w : World) (her : ErrAt w) (h : rdP s = .ok t []) :
    Calls Tryd.prog 6 #[.string ⟨s.toArray⟩] w fun e w' => ∃ cs d, e = .returned (.tuple #[.agg (List.toArray cs), .int .i64 0]) ∧ IsV w' d cs t ∧ RowKit.Below w.heap.size w w' := by
  refine (parse_any ⟨s.toArray⟩ w her).mono ?_
  rintro e w' (⟨er', hX, _⟩ | ⟨cs, t', d, hX, rfl, hx, hb⟩)
  · rw [show (⟨s.toArray⟩ : ByteArray).data.toList = s from rfl, h] at hX
    cases hX
  · rw [show (⟨s.toArray⟩ : ByteArray).data.toList = s from rfl, h] at hX
    injection hX with e1
    subst e1
    exact ⟨cs, d, rfl, hx, hb⟩
def aT : VT := .mk 3 0 [] [.mk 1 1 [] [] [], .mk 2 0 [97] [] []] []
theorem aT_ok : aT.okB = true := by
  unfold VT.okB aT
  simp [count_eq, countL_cons, countL_nil, depth_eq, depthL_cons, depthL_nil, each_eq, eachL_cons, eachL_nil, oneB, textOk, keysOk_nil]
theorem aT_wr : aT.wr = [91, 49, 44, 34, 97, 34, 93] := by
  unfold aT
  have e : Lib.itoa 1 = [49] := by
    unfold Lib.itoa
    rw [if_neg (by decide), Lib.decDigits_one (by decide)]
    rfl
  simp [wr_eq, wrL_cons, wrL_nil, e, quotL, escL]
theorem aT_rd : rdP [91, 49, 44, 34, 97, 34, 93] = .ok aT [] := by
  have := rdP_wr aT_ok (by rw [aT_wr]; decide)
  rwa [aT_wr] at this
theorem aT_at {w : World} {d : Nat} {cs : List Value} (h : IsV w d cs aT) : ∃ b off ci ak ck, cs = [.int .i64 3, .int .i64 0, .string ⟨#[]⟩, .slice (some ⟨b, off, none⟩) 2 ci, .slice ak 0 ck] ∧ w.cell? ⟨b, off + 7, none⟩ = some (.string ⟨#[97]⟩) ∧ 2 ≤ ci ∧ ci ≤ maxLen := by
  cases d with
  | zero => exact h.elim
  | succ d =>
    obtain ⟨ai, ci, ak, ck, hcs⟩ := h.form
    obtain ⟨vi, vk, rfl, _, _, a', c', rfl, hm, hm2, _, hl⟩ := h
    simp only [List.cons.injEq, and_true] at hcs
    obtain ⟨_, _, _, e1, rfl⟩ := hcs
    injection e1 with e1 e2 e3
    subst e1 e3
    obtain ⟨b, off, rfl, hx⟩ := hl (by decide)
    obtain ⟨cs2, _, hr, x, hx1, hx2⟩ := hx 1 (by decide)
    obtain rfl : (.mk 2 0 [97] [] [] : VT) = x := Option.some.inj (show some (.mk 2 0 [97] [] [] : VT) = some x from hx1)
    obtain ⟨a2, c2, a3, c3, rfl⟩ := hx2.form
    exact ⟨b, off, _, ak, ck, rfl, hr 2 _ rfl, hm, hm2⟩
set_option maxHeartbeats 3200000 in
theorem alive12_any (W : World) (her : ErrAt W) :
    Calls Tryd.prog 8 #[] W fun e w' => e = .returned (.bool true) ∧ Below W.heap.size W w' := by
  have HP := parse_ok W her aT_rd
  go_enter Tryd.func8, Tryd.ntmps8
  go_upto_region 2 with (first
    | (go_at_call 6; refine HP.mono ?_; rintro e w1 ⟨cs, d, rfl, hx, hb1⟩; obtain ⟨b, off, ci, ak, ck, rfl, hc7, hci, hcm⟩ := aT_at hx)
    | ((with_reducible refine wpL_store w1.heap.size 25 valZ #[.int .i64 3, .int .i64 0, .string ⟨#[]⟩, .slice (some ⟨b, off, none⟩) 2 ci, .slice ak 0 ck] 5 rowVal rfl rfl (valC_one _ _ _ _ _ _ _ _ _) (Lies.new w1 _ _) ?_ ?_ ?_); rfl; rfl))
  have hb3 := (hb1.alloc hb1.size (.cells valZ 25))
  have hb4 := below_rowSet hb3 hb1.size #[.int .i64 3, .int .i64 0, .string ⟨#[]⟩, .slice (some ⟨b, off, none⟩) 2 ci, .slice ak 0 ck]
  have lv := (Lies.new w1 25 valZ).row #[.int .i64 3, .int .i64 0, .string ⟨#[]⟩, .slice (some ⟨b, off, none⟩) 2 ci, .slice ak 0 ck]
  have hz := below_rowSet ((RowKit.Below.refl w1.heap.size w1).alloc (Nat.le_refl _) (.cells valZ 25)) (Nat.le_refl _) #[.int .i64 3, .int .i64 0, .string ⟨#[]⟩, .slice (some ⟨b, off, none⟩) 2 ci, .slice ak 0 ck]
  have hc8 := (hz.cell (p := ⟨b, off + 7, none⟩) (World.block_lt_of_cell? w1 _ hc7)).trans hc7
  generalize World.setRow _ _ _ = w2 at *
  generalize w1.heap.size = bv at *
  have q0 := lv.cell 0
  have q3 := lv.cell 3
  simp only [List.getElem?_toArray, List.getElem?_cons_succ, List.getElem?_cons_zero] at q0 q3
  go_wp2
  go_ret
  exact ⟨rfl, hb4⟩
end alive
end Go.Proofs.YtmbmeidkmhajbaaDoor.V

/- The reference's Count. -/
namespace Go.Proofs.YtmbmeidkmhajbaaDoor.V
open Go.RowKit Go.Sort Go.Joins
set_option maxRecDepth 100000

set_option maxHeartbeats 1600000 in
theorem refCount_any : ∀ (d : Nat) (cs : List Value) (t : VT) (lim : Int) (w : World), IsV w d cs t → 0 ≤ lim → lim ≤ 4000 →
    Calls Tryd.prog 10 #[.agg cs.toArray, .int .i64 lim] w fun e w' => e = .returned (.int .i64 (t.cnt lim)) ∧ Below w.heap.size w w' := by
  intro d
  induction d with
  | zero => intro cs t lim w h; exact h.elim
  | succ d ih =>
    intro cs t lim W h hl1 hl2
    obtain ⟨vi, vk, rfl, hfit, hks, a, c, rfl, hc, hm, hna, hx⟩ := h
    obtain ⟨k, n, s, l, ks⟩ := t
    have HI := Lib.hid ih
    have HX := Lib.hid hx
    rw [cnt_eq]
    simp only [VT.items, VT.kind, VT.num, VT.txt] at *
    clear ih hfit hks hx hna
    unfold maxLen at hm
    have hbW := (Below.refl W.heap.size W).alloc (Nat.le_refl _) (.cells #[.int .i64 k, .int .i64 n, .string ⟨s.toArray⟩, .slice a l.length c, vk] 25)
    go_enter Tryd.func10, Tryd.ntmps10
    go_wp2
    go_loopw [5, 11] (fun nv iv wr => ∃ (m : Int) (j : Nat), nv = .int .i64 m ∧ iv = .int .i64 j ∧ j ≤ l.length ∧ 1 ≤ m ∧ m ≤ 4001 ∧ Hid (cntL (l.drop j) lim m = cntL l lim 1) ∧ Below W.heap.size W wr) (fun _ iv _ => l.length - (intOf iv).toNat)
    case atStart => exact ⟨1, 0, rfl, rfl, by omega, by omega, by omega, Lib.hid (by rw [List.drop_zero]), hbW⟩
    case round =>
      obtain ⟨m, j, rfl, rfl, hj, hm1, hm2, HS, hb⟩ := hrel
      by_cases hlt : j < l.length
      · obtain ⟨b, off, rfl, hx⟩ := HX.out (by omega)
        obtain ⟨cs', hlen, hr, x, hxi, hv⟩ := hx j hlt
        obtain ⟨ai, ci, ak, ck, rfl⟩ := hv.form
        obtain ⟨k0, k1, k2, k3, k4⟩ := range5 (range_below hb hr)
        have hv := hv.below hb
        have HC := Lib.hid (fun (w1 : World) (hb1 : Below wr.heap.size wr w1) (h1 : m ≤ lim) => HI.out _ x (lim - m) w1 (hv.below hb1) (by omega) (by omega))
        clear hr hv hx HX HI hlen
        have hS : cntL (l.drop j) lim m = if lim < m then m else cntL (l.drop (j + 1)) lim (m + x.cnt (lim - m)) := by
          rw [List.drop_eq_getElem_cons hlt, cntL_cons, (List.getElem?_eq_some_iff.1 hxi).2]
        clear hxi
        by_cases hgt : lim < m
        · have hr2 := Lib.hid (show m = cntL l lim 1 by rw [← HS.out, hS, if_pos hgt])
          clear hS HS HC
          go_wp2
          go_ret
          exact ⟨ret1_of (by rw [← hr2.out]; rfl), hb.trans ((below_alloc1 wr _).mono hb.size)⟩
        · have hS2 := Lib.hid (show cntL (l.drop (j + 1)) lim (m + x.cnt (lim - m)) = cntL l lim 1 by rw [← HS.out, hS, if_neg hgt])
          clear hS HS
          have hmo := cnt_more x (lim - m)
          have hle : m ≤ lim := by omega
          go_wp2_with (go_at_call 10; refine (HC.out _ (below_alloc1 wr _) hle).mono ?_; rintro e w2 ⟨rfl, hb2⟩)
          go_roundw
          case rel => exact ⟨m + x.cnt (lim - m), j + 1, by go_num, by go_num, by omega, by omega, by omega, hS2, on_below hb (on_new _ hb2) hb.size⟩
          case measure => simp [intOf]; omega
      · have hr2 := Lib.hid (show m = cntL l lim 1 by rw [← HS.out, List.drop_eq_nil_of_le (by omega), cntL_nil])
        obtain rfl : j = l.length := by omega
        go_wp2
        go_ret
        exact ⟨ret1_of (by rw [← hr2.out]; rfl), hb⟩
end Go.Proofs.YtmbmeidkmhajbaaDoor.V

/- The reference's Same. -/
namespace Go.Proofs.YtmbmeidkmhajbaaDoor.V
open Go.RowKit Go.Sort Go.Joins
set_option maxRecDepth 100000

noncomputable instance : DecidableEq VT := fun a b => Classical.propDecidable (a = b)
theorem vt_ne {k n : Int} {s : List UInt8} {l : List VT} {ks : List (List UInt8)} {k' n' : Int} {s' : List UInt8} {l' : List VT} {ks' : List (List UInt8)} (h : ¬ (k = k' ∧ n = n' ∧ s = s' ∧ l = l' ∧ ks = ks')) : decide (VT.mk k n s l ks = VT.mk k' n' s' l' ks') = false :=
  decide_eq_false (fun e => h (by injection e with e1 e2 e3 e4 e5; exact ⟨e1, e2, e3, e4, e5⟩))
set_option maxHeartbeats 3200000 in
theorem refSame_any : ∀ (d : Nat) (cs cs' : List Value) (t u : VT) (w : World), IsV w d cs t → IsV w d cs' u →
    Calls Tryd.prog 9 #[.agg cs.toArray, .agg cs'.toArray] w fun e w' => e = .returned (.bool (decide (t = u))) ∧ Below w.heap.size w w' := by
  intro d
  induction d with
  | zero => intro cs cs' t u w h; exact h.elim
  | succ d ih =>
    intro cs cs' t u W h h'
    obtain ⟨vi, vk, rfl, _, hks, a, c, rfl, hc, hm, _, hx⟩ := h
    obtain ⟨vi', vk', rfl, _, hks', a', c', rfl, hc', hm', _, hx'⟩ := h'
    obtain ⟨ka, kc, rfl, hkc, hkm, _, hkx⟩ := hks
    obtain ⟨ka', kc', rfl, hkc', hkm', _, hkx'⟩ := hks'
    obtain ⟨k, n, s, l, ks⟩ := t
    obtain ⟨k', n', s', l', ks'⟩ := u
    have HI := Lib.hid ih
    have HX := Lib.hid hx
    have HX' := Lib.hid hx'
    have HK := Lib.hid hkx
    have HK' := Lib.hid hkx'
    simp only [VT.items, VT.kind, VT.num, VT.txt, VT.keys, str] at *
    clear ih hx hx' hkx hkx'
    unfold maxLen at hm hm' hkm hkm'
    have hbW := ((Below.refl W.heap.size W).alloc (Nat.le_refl _) (.cells #[.int .i64 k, .int .i64 n, .string ⟨s.toArray⟩, .slice a l.length c, .slice ka ks.length kc] 25)).alloc (by simp) (.cells #[.int .i64 k', .int .i64 n', .string ⟨s'.toArray⟩, .slice a' l'.length c', .slice ka' ks'.length kc'] 25)
    by_cases hk : k = k'
    case neg =>
      rw [vt_ne (fun h => hk h.1)]
      have h1 : (k != k') = true := by simpa using hk
      go_enter Tryd.func9, Tryd.ntmps9
      go_wp2
      go_ret
      exact ⟨rfl, hbW⟩
    subst hk
    by_cases hn : n = n'
    case neg =>
      rw [vt_ne (fun h => hn h.2.1)]
      have h1 : (n != n') = true := by simpa using hn
      go_enter Tryd.func9, Tryd.ntmps9
      go_wp2
      go_ret
      exact ⟨rfl, hbW⟩
    subst hn
    by_cases hs : s = s'
    case neg =>
      rw [vt_ne (fun h => hs h.2.2.1)]
      have h0 := hs
      go_enter Tryd.func9, Tryd.ntmps9
      go_wp2
      go_ret
      exact ⟨rfl, hbW⟩
    subst hs
    by_cases hl : l.length = l'.length
    case neg =>
      rw [vt_ne (fun h => hl (by rw [h.2.2.2.1]))]
      have h1 : ((l.length : Int) != (l'.length : Int)) = true := bne_iff_ne.2 (by omega)
      go_enter Tryd.func9, Tryd.ntmps9
      go_wp2
      go_ret
      exact ⟨rfl, hbW⟩
    by_cases hkl : ks.length = ks'.length
    case neg =>
      rw [vt_ne (fun h => hkl (by rw [h.2.2.2.2]))]
      have h1 : ((l.length : Int) != (l'.length : Int)) = false := by rw [hl]; exact bne_self_eq_false _
      have HL := Lib.hid hl
      clear hl
      have h2 : ((ks.length : Int) != (ks'.length : Int)) = true := bne_iff_ne.2 (by omega)
      go_enter Tryd.func9, Tryd.ntmps9
      go_wp2
      go_ret
      exact ⟨rfl, hbW⟩
    have h1 : ((l.length : Int) != (l'.length : Int)) = false := by rw [hl]; exact bne_self_eq_false _
    have h2 : ((ks.length : Int) != (ks'.length : Int)) = false := by rw [hkl]; exact bne_self_eq_false _
    have HL := Lib.hid hl
    have HKL := Lib.hid hkl
    clear hl hkl
    have lA0 : Lies ((W.alloc (.cells #[.int .i64 k, .int .i64 n, .string ⟨s.toArray⟩, .slice a l.length c, .slice ka ks.length kc] 25)).alloc (.cells #[.int .i64 k, .int .i64 n, .string ⟨s.toArray⟩, .slice a' l'.length c', .slice ka' ks'.length kc'] 25)) W.heap.size 25 #[.int .i64 k, .int .i64 n, .string ⟨s.toArray⟩, .slice a l.length c, .slice ka ks.length kc] := (Lies.new W _ _).alloc _
    have lB0 : Lies ((W.alloc (.cells #[.int .i64 k, .int .i64 n, .string ⟨s.toArray⟩, .slice a l.length c, .slice ka ks.length kc] 25)).alloc (.cells #[.int .i64 k, .int .i64 n, .string ⟨s.toArray⟩, .slice a' l'.length c', .slice ka' ks'.length kc'] 25)) (W.heap.size + 1) 25 #[.int .i64 k, .int .i64 n, .string ⟨s.toArray⟩, .slice a' l'.length c', .slice ka' ks'.length kc'] := by
      have := Lies.new (W.alloc (.cells #[.int .i64 k, .int .i64 n, .string ⟨s.toArray⟩, .slice a l.length c, .slice ka ks.length kc] 25)) 25 #[.int .i64 k, .int .i64 n, .string ⟨s.toArray⟩, .slice a' l'.length c', .slice ka' ks'.length kc']
      simpa using this
    go_enter Tryd.func9, Tryd.ntmps9
    go_wp2
    go_loopw [47] (fun iv wr => ∃ (j : Nat), iv = .int .i64 j ∧ j ≤ ks.length ∧ Hid (ks.take j = ks'.take j) ∧ Below W.heap.size W wr ∧ Lies wr W.heap.size 25 #[.int .i64 k, .int .i64 n, .string ⟨s.toArray⟩, .slice a l.length c, .slice ka ks.length kc] ∧ Lies wr (W.heap.size + 1) 25 #[.int .i64 k, .int .i64 n, .string ⟨s.toArray⟩, .slice a' l'.length c', .slice ka' ks'.length kc']) (fun iv _ => ks.length - (intOf iv).toNat)
    case atStart => exact ⟨0, rfl, by omega, Lib.hid rfl, hbW, lA0, lB0⟩
    case round =>
      clear lA0 lB0 hbW
      obtain ⟨j, rfl, hj, HS, hb, lA, lB⟩ := hrel
      by_cases hlt : j < ks.length
      · have hlt' : j < ks'.length := by rw [← HKL.out]; exact hlt
        obtain ⟨b, off, rfl, hkx⟩ := HK.out (by intro h; rw [h] at hlt; simp at hlt)
        obtain ⟨b', off', rfl, hkx'⟩ := HK'.out (by intro h; rw [h] at hlt'; simp at hlt')
        obtain ⟨x, hxi⟩ : ∃ x, ks[j]? = some x := ⟨ks[j], List.getElem?_eq_getElem hlt⟩
        obtain ⟨y, hyi⟩ : ∃ y, ks'[j]? = some y := ⟨ks'[j], List.getElem?_eq_getElem hlt'⟩
        have g1 := hkx j x hxi
        have g2 := hkx' j y hyi
        have c1 := (hb.cell (p := ⟨b, off + j, none⟩) (World.block_lt_of_cell? W _ g1)).trans g1
        have c2 := (hb.cell (p := ⟨b', off' + j, none⟩) (World.block_lt_of_cell? W _ g2)).trans g2
        have q1 := lA.cell 4
        have q2 := lB.cell 4
        simp only [List.getElem?_toArray, List.getElem?_cons_succ, List.getElem?_cons_zero] at q1 q2
        have hjl : (j : Int) < (ks'.length : Int) := by omega
        clear hkx hkx' g1 g2 HK HK' HX HX' HI
        by_cases hxy : x = y
        · subst hxy
          have HS2 := Lib.hid (show ks.take (j + 1) = ks'.take (j + 1) by
            rw [List.take_succ_eq_append_getElem hlt, List.take_succ_eq_append_getElem hlt', HS.out, (List.getElem?_eq_some_iff.1 hxi).2, (List.getElem?_eq_some_iff.1 hyi).2])
          clear hxi hyi HS
          have u1 := cell_regrown c1
          have u2 := cell_regrown c2
          have o1 := cell_regrown q1
          have o2 := cell_regrown q2
          clear c1 c2 q1 q2
          go_wp2
          refine wp_region_quiet_below (by kernel_rfl) (by kernel_rfl) ?_
          repeat (go_big_quiet_step (fail))
          refine wpQuiet_nil ?_
          intro _ hw'
          obtain ⟨⟨dq, osq⟩, hw''⟩ := hw'
          subst hw''
          have hb2 := below_regrown wr dq osq
          go_wp2
          go_roundw
          case rel => exact ⟨j + 1, by go_num, by omega, HS2, on_below hb hb2 hb.size, lA.on hb2, lB.on hb2⟩
          case measure => simp [intOf]; omega
        · have hr := Lib.hid (vt_ne (k := k) (n := n) (s := s) (l := l) (ks := ks) (k' := k) (n' := n) (s' := s) (l' := l') (ks' := ks') (fun h => hxy (by
            have h := h.2.2.2.2
            rw [h, hyi] at hxi
            exact (Option.some.inj hxi).symm)))
          clear hxi hyi HS
          have u1 := cell_regrown c1
          have u2 := cell_regrown c2
          have o1 := cell_regrown q1
          have o2 := cell_regrown q2
          clear c1 c2 q1 q2
          go_wp2
          refine wp_region_quiet_below (by kernel_rfl) (by kernel_rfl) ?_
          repeat (go_big_quiet_step (fail))
          refine wpQuiet_nil ?_
          intro _ hw'
          obtain ⟨⟨dq, osq⟩, hw''⟩ := hw'
          subst hw''
          have hb2 := below_regrown wr dq osq
          go_wp2
          · go_ret
            exact ⟨ret1_of (by rw [hr.out]; rfl), on_below hb hb2 hb.size⟩
          · rename_i hh
            exact absurd (by simpa using hh) hxy
      · have HE := Lib.hid (show ks = ks' by
          have := HS.out
          rwa [List.take_of_length_le (by omega), List.take_of_length_le (by have := HKL.out; omega)] at this)
        clear HS HK HK'
        have q1 := lA.cell 3
        simp only [List.getElem?_toArray, List.getElem?_cons_succ, List.getElem?_cons_zero] at q1
        go_wp2
        go_loopw [65] (fun iv wr => ∃ (j : Nat), iv = .int .i64 j ∧ j ≤ l.length ∧ Hid (l.take j = l'.take j) ∧ Below W.heap.size W wr ∧ Lies wr W.heap.size 25 #[.int .i64 k, .int .i64 n, .string ⟨s.toArray⟩, .slice a l.length c, .slice ka ks.length kc] ∧ Lies wr (W.heap.size + 1) 25 #[.int .i64 k, .int .i64 n, .string ⟨s.toArray⟩, .slice a' l'.length c', .slice ka' ks'.length kc']) (fun iv _ => l.length - (intOf iv).toNat)
        case atStart => exact ⟨0, rfl, by omega, Lib.hid rfl, hb, lA, lB⟩
        case round =>
          clear lA lB hb q1
          obtain ⟨i, rfl, hi, HS, hb, lA, lB⟩ := hrel
          by_cases hlt : i < l.length
          · have hlt' : i < l'.length := by rw [← HL.out]; exact hlt
            obtain ⟨b, off, rfl, hx⟩ := HX.out (by omega)
            obtain ⟨b', off', rfl, hx'⟩ := HX'.out (by omega)
            obtain ⟨cs1, hlen1, hr1, x, hxi, hv1⟩ := hx i hlt
            obtain ⟨cs2, hlen2, hr2, y, hyi, hv2⟩ := hx' i hlt'
            obtain ⟨ai, ci, ak, ck, rfl⟩ := hv1.form
            obtain ⟨ai', ci', ak', ck', rfl⟩ := hv2.form
            obtain ⟨m0, m1, m2, m3, m4⟩ := range5 (range_below hb hr1)
            obtain ⟨p0, p1, p2, p3, p4⟩ := range5 (range_below hb hr2)
            have hv1 := hv1.below hb
            have hv2 := hv2.below hb
            have q1 := lA.cell 3
            have q2 := lB.cell 3
            simp only [List.getElem?_toArray, List.getElem?_cons_succ, List.getElem?_cons_zero] at q1 q2
            have hjl : (i : Int) < (l'.length : Int) := by omega
            have HC := Lib.hid (fun (w1 : World) (hb1 : Below wr.heap.size wr w1) => HI.out _ _ x y w1 (hv1.below hb1) (hv2.below hb1))
            clear hx hx' hr1 hr2 HX HX' HI hv1 hv2 hlen1 hlen2
            have HC := fun (w1 : World) (hb1 : Below wr.heap.size wr w1) => HC.out w1 hb1
            by_cases hxy : x = y
            · have HS2 := Lib.hid (show l.take (i + 1) = l'.take (i + 1) by
                rw [List.take_succ_eq_append_getElem hlt, List.take_succ_eq_append_getElem hlt', HS.out, (List.getElem?_eq_some_iff.1 hxi).2, (List.getElem?_eq_some_iff.1 hyi).2, hxy])
              have hd : decide (x = y) = true := decide_eq_true hxy
              rw [hd] at HC
              clear hxi hyi HS hxy hd
              have cS := Lib.hid (reg HC)
              have u0 := cell_regrown m0
              have u1 := cell_regrown m1
              have u2 := cell_regrown m2
              have u3 := cell_regrown m3
              have u4 := cell_regrown m4
              have v0 := cell_regrown p0
              have v1 := cell_regrown p1
              have v2 := cell_regrown p2
              have v3 := cell_regrown p3
              have v4 := cell_regrown p4
              have o1 := cell_regrown q1
              have o2 := cell_regrown q2
              clear m0 m1 m2 m3 m4 p0 p1 p2 p3 p4 q1 q2
              go_wp2
              refine wp_region_quiet_below (by kernel_rfl) (by kernel_rfl) ?_
              repeat (go_big_quiet_step (exact cS.out _ _))
              refine wpQuiet_nil ?_
              intro _ hw'
              obtain ⟨⟨dq, osq⟩, hw''⟩ := hw'
              subst hw''
              have hb2 := below_regrown wr dq osq
              go_wp2
              go_roundw
              case rel => exact ⟨i + 1, by go_num, by omega, HS2, on_below hb hb2 hb.size, lA.on hb2, lB.on hb2⟩
              case measure => simp [intOf]; omega
            · have hr := Lib.hid (vt_ne (k := k) (n := n) (s := s) (l := l) (ks := ks) (k' := k) (n' := n) (s' := s) (l' := l') (ks' := ks') (fun h => hxy (by
                have h := h.2.2.2.1
                rw [h, hyi] at hxi
                exact (Option.some.inj hxi).symm)))
              have hd : decide (x = y) = false := decide_eq_false hxy
              rw [hd] at HC
              clear hxi hyi HS hxy hd
              have cS := Lib.hid (reg HC)
              have u0 := cell_regrown m0
              have u1 := cell_regrown m1
              have u2 := cell_regrown m2
              have u3 := cell_regrown m3
              have u4 := cell_regrown m4
              have v0 := cell_regrown p0
              have v1 := cell_regrown p1
              have v2 := cell_regrown p2
              have v3 := cell_regrown p3
              have v4 := cell_regrown p4
              have o1 := cell_regrown q1
              have o2 := cell_regrown q2
              clear m0 m1 m2 m3 m4 p0 p1 p2 p3 p4 q1 q2
              go_wp2
              refine wp_region_quiet_below (by kernel_rfl) (by kernel_rfl) ?_
              repeat (go_big_quiet_step (exact cS.out _ _))
              refine wpQuiet_nil ?_
              intro _ hw'
              obtain ⟨⟨dq, osq⟩, hw''⟩ := hw'
              subst hw''
              have hb2 := below_regrown wr dq osq
              go_wp2
              go_ret
              exact ⟨ret1_of (by rw [hr.out]; rfl), on_below hb hb2 hb.size⟩
          · have hr := Lib.hid (show decide (VT.mk k n s l ks = VT.mk k n s l' ks') = true from decide_eq_true (by
              have := HS.out
              rw [List.take_of_length_le (by omega), List.take_of_length_le (by have := HL.out; omega)] at this
              rw [this, HE.out]))
            clear HX HX' HI HS HE
            go_wp2
            go_ret
            exact ⟨ret1_of (by rw [hr.out]; rfl), hb⟩
end Go.Proofs.YtmbmeidkmhajbaaDoor.V

