/- Texts that stand on one another, put together: CStrRun, CParse, PText, PCoord, PBytes, PParse, FText, FField, PPoint, HCarry, HNext, HLong, HMul, HLeast, HText, HEq, HParse. -/
import Derived.Test.YtmekmlgpkbfjpaaGreatDoorK7
import Derived.BigRegion
import Derived.Deep.RegionWith
import Derived.Laws.BitsAllLaws
import Derived.Laws.DeepStrings4
import Derived.Laws.IdiomStrings
import Derived.Laws.ShiftsVarLaws
import Derived.Laws.StructEq
import Derived.Outline
import Derived.StillTailTactics
/- Operations on texts, run by themselves. -/
namespace Go.Proofs.YtmekmlgpkbfjpaaGreatDoor.C
open Go.RowKit Go.Sort Go.Proofs.YtmekmlgpkbfjpaaGreatDoor.F
set_option maxRecDepth 100000
section
variable {a : Act} {d : Option Tmp} {x y : Tmp} {t' : TypeId} {pos : String} {after : Array Edge} {gd : Option (Nat × Bool)} {r : TypeId}
theorem run_index31 (s : ByteArray) (hs : 31 < s.size) (c : Nat) (hc : (s[31]'hs).toNat = c) (hx : a.eval (.tmp x) = .string s) (w : World) :
    (execOp a.eval ⟨d, .index 9 (.tmp x) (.const (.int .i64 31)), t', pos, after, gd⟩).run Tryz.prog w = .ok (.value (.int .u8 (c : Int))) w := by
  have h2 : a.eval (.const (.int .i64 31)) = .int .i64 31 := rfl
  have h3 : s[31]? = some (s[31]'hs) := getElem?_pos s 31 hs
  unfold execOp
  simp only [hx, h2]
  simp [Instr.index, run_underlying Tryz.underlying9, go_sem, h3, hc]
theorem run_cat (s t : ByteArray) (hs : s.size + t.size ≤ 100) (hx : a.eval (.tmp x) = .string s) (hy : a.eval (.tmp y) = .string t) (w : World) :
    (execOp a.eval ⟨d, .binOp .add 9 (.tmp x) (.tmp y) r, t', pos, after, gd⟩).run Tryz.prog w = .ok (.value (.string (s ++ t))) w := by
  have h3 : ¬ (9223372036854775807 < s.size + t.size) := by omega
  unfold execOp
  simp only [hx, hy]
  simp [go_sem, h3]
end
end Go.Proofs.YtmekmlgpkbfjpaaGreatDoor.C

/- The contract of the reference's Parse. -/
namespace Go.Proofs.YtmekmlgpkbfjpaaGreatDoor.C
open Go.RowKit Go.Sort Go.Proofs.YtmekmlgpkbfjpaaGreatDoor.F
set_option maxRecDepth 100000

theorem last_split (s : ByteArray) (hs : s.size = 32) : ∃ (A : List UInt8) (c : Nat), A.length = 31 ∧ c < 256 ∧ s = ⟨(A ++ [c.toUInt8]).toArray⟩ := by
  have hl : s.data.toList.length = 32 := by rw [← Lib.size_eq]; exact hs
  refine ⟨s.data.toList.take 31, (s.data.toList[31]'(by omega)).toNat, by rw [List.length_take]; omega, u8_lt _, ?_⟩
  apply ByteArray.ext
  apply Array.ext'
  show s.data.toList = s.data.toList.take 31 ++ [((s.data.toList[31]'(by omega)).toNat).toUInt8]
  rw [show ((s.data.toList[31]'(by omega)).toNat).toUInt8 = s.data.toList[31]'(by omega) by simp [Nat.toUInt8]]
  have h2 : s.data.toList.drop 31 = [s.data.toList[31]'(by omega)] := by
    rw [List.drop_eq_getElem_cons (by omega), List.drop_of_length_le (by omega)]
  conv => lhs; rw [← List.take_append_drop 31 s.data.toList, h2]
theorem num_parts (A : List UInt8) (c : Nat) (hl : A.length = 31) (hc : c < 256) : numLE (A ++ [(c % 128).toUInt8]) = numLE (A ++ [c.toUInt8]) % two255 ∧ decide (two255 ≤ numLE (A ++ [c.toUInt8])) = decide (128 ≤ c) := by
  have hA := numLE_lt A
  rw [hl] at hA
  rw [numLE_append, numLE_append, hl]
  have e1 : numLE [c.toUInt8] = c := by
    simp only [numLE, Nat.toUInt8, UInt8.toNat_ofNat']
    omega
  have e2 : numLE [(c % 128).toUInt8] = c % 128 := by
    simp only [numLE, Nat.toUInt8, UInt8.toNat_ofNat']
    omega
  rw [e1, e2, show two255 = 256 ^ 31 * 128 by decide]
  generalize (256 : Nat) ^ 31 = K at *
  generalize numLE A = N at *
  have hdm := Nat.div_add_mod c 128
  have hc2 : c / 128 < 2 := by omega
  constructor
  · have h1 : K * (c % 128) + K * 128 * (c / 128) = K * c := by
      conv => rhs; rw [← hdm, Nat.mul_add]
      rw [Nat.mul_assoc]
      omega
    have h2 : K * (c % 128) ≤ K * 127 := Nat.mul_le_mul_left K (by omega)
    rw [← h1, ← Nat.add_assoc, Nat.add_mul_mod_self_left]
    exact (Nat.mod_eq_of_lt (by omega)).symm
  · by_cases h : 128 ≤ c
    · rw [decide_eq_true h, decide_eq_true]
      have := Nat.mul_le_mul_left K h
      omega
    · rw [decide_eq_false h, decide_eq_false]
      have := Nat.mul_le_mul_left K (show c ≤ 127 by omega)
      omega
attribute [local irreducible] feA
end Go.Proofs.YtmekmlgpkbfjpaaGreatDoor.C

/- A text as bytes that may be written, and back. -/
namespace Go.Proofs.YtmekmlgpkbfjpaaGreatDoor.C
open Go.RowKit Go.Sort Go.Proofs.YtmekmlgpkbfjpaaGreatDoor.F
set_option maxRecDepth 100000

/-- these bytes lie there, and may be written -/
def Bys (w : World) (g : Nat) (l : List UInt8) : Prop := ∀ j (hj : j < l.length), w.cell? ⟨g, j, none⟩ = some (.int .u8 ((l[j]'hj).toNat : Int)) ∧ w.frozen? ⟨g, j, none⟩ = false
theorem Bys.on {w w' : World} {g : Nat} {l : List UInt8} (h : Bys w g l) (hb : Below w.heap.size w w') : Bys w' g l := fun j hj => by
  obtain ⟨h1, h2⟩ := h j hj
  have hlt := World.block_lt_of_cell? w _ h1
  exact ⟨(hb.cell (p := ⟨g, j, none⟩) hlt).trans h1, (World.frozen?_of_block (a := ⟨g, j, none⟩) (hb.block g hlt)).trans h2⟩
theorem Bys.put {w : World} {g : Nat} {A : List UInt8} {b c : UInt8} (h : Bys w g (A ++ [b])) (k : Nat) (hk : A.length = k) : Bys (w.setCell ⟨g, k, none⟩ (.int .u8 (c.toNat : Int))) g (A ++ [c]) := fun j hj => by
  subst hk
  have hl : j < (A ++ [b]).length := by simpa using hj
  obtain ⟨h1, h2⟩ := h j hl
  refine ⟨?_, ?_⟩
  · by_cases hjk : j = A.length
    · subst hjk
      rw [World.cell?_setCell_same (h := h1)]
      simp
    · have : (⟨g, A.length, none⟩ : Addr) ≠ ⟨g, j, none⟩ := fun e => hjk (by injection e with _ e _; exact e.symm)
      rw [World.cell?_setCell_other (h := this), h1]
      have hj2 : j < A.length := by simp at hj; omega
      simp [List.getElem_append_left hj2]
  · rw [World.frozen?_setCell]
    exact h2
theorem Bys.last {w : World} {g : Nat} {A : List UInt8} {b : UInt8} (h : Bys w g (A ++ [b])) (k : Nat) (hk : A.length = k) : w.cell? ⟨g, k, none⟩ = some (.int .u8 (b.toNat : Int)) ∧ w.frozen? ⟨g, k, none⟩ = false := by
  subst hk
  obtain ⟨h1, h2⟩ := h A.length (by simp)
  refine ⟨?_, h2⟩
  rw [h1]
  simp
section
variable {ops : Array Oper} {rest : List Oper} {a : Act} {w : World} {Q : Exit → Act → World → Prop} {t' : TypeId} {pos : String} {after : Array Edge} {d : Option Tmp} {x : Tmp}
theorem wpL_eff {P : Program} {o : Oper} {w' : World} (v : Value) (hg : o.guard = none) (hr : (execOp a.eval o).run P w = .ok (.value v) w') (h : wpList P ops Q rest (a.put o.dst v) w') : wpList P ops Q (o :: rest) a w :=
  wpList_plain hg fun K hK => by
    unfold Oper.wp
    rw [hr]
    exact hK _ _ h
/-- a text goes into bytes of its own -/
theorem wpL_bytes (s : ByteArray) (n : Nat) (hn : s.size = n) (hx : a.eval (.tmp x) = .string s) (h : ∀ (g cap : Nat) (w1 : World), g = w.heap.size → Bys w1 g s.data.toList → Below w.heap.size w w1 → wpList Tryz.prog ops Q rest (a.put d (.slice (some ⟨g, 0, none⟩) n cap)) w1) :
    wpList Tryz.prog ops Q (⟨d, .convert 9 71 (.tmp x), t', pos, after, none⟩ :: rest) a w := by
  subst hn
  have hr := run_bytes_of_string (P := Tryz.prog) w 9 71 5 s Tryz.underlying9 Tryz.underlying71 Tryz.underlying5
  refine wpL_eff (w' := _) _ rfl (by unfold execOp; simp only [hx, Sem.run_bind, Sem.run_pure]; rw [hr]; rfl) (h _ _ _ rfl (fun j hj => ?_) ((Below.refl w.heap.size w).drew.alloc (Nat.le_refl _) _))
  have hj2 : j < s.data.size := by simpa using hj
  refine ⟨?_, ?_⟩
  · refine (World.cell?_alloc_mark w.drew _ _ _ j).trans ?_
    rw [bytesRow_at s _ j hj2]
    simp
  · refine (World.frozen?_alloc_mark w.drew _ _ _ _ j).trans ?_
    have hsz : (bytesRow s (grownCap w s.size 0 5)).size = s.data.size + (grownCap w s.size 0 5 - s.size) := by unfold bytesRow; simp
    rw [hsz, decide_eq_false (by omega)]
    rfl
/-- .. and back -/
theorem wpL_text (l : List UInt8) (n g cap : Nat) (hn : l.length = n) (hl : Bys w g l) (hx : a.eval (.tmp x) = .slice (some ⟨g, 0, none⟩) n cap) (h : wpList Tryz.prog ops Q rest (a.put d (.string ⟨l.toArray⟩)) w) :
    wpList Tryz.prog ops Q (⟨d, .convert 71 9 (.tmp x), t', pos, after, none⟩ :: rest) a w := by
  subst hn
  have hr := run_convert_bytes_back (P := Tryz.prog) w 71 9 5 ⟨g, 0, none⟩ cap l Tryz.underlying71 Tryz.underlying5 Tryz.underlying9 (fun j hj => by rw [Addr.add_mid, Nat.zero_add]; exact (hl j hj).1)
  exact wpL_eff _ rfl (by unfold execOp; simp only [hx, Sem.run_bind, Sem.run_pure]; rw [hr]; rfl) h
end
theorem andNot_byte : ∀ c : Fin 256, bits BinOp.andNot IntKind.u8 ((c.val : Nat) : Int) 128 = ((c.val % 128 : Nat) : Int) := by decide +kernel
theorem and_byte : ∀ c : Fin 256, bits BinOp.and IntKind.u8 ((c.val : Nat) : Int) 128 = (((if 128 ≤ c.val then 128 else 0) : Nat) : Int) := by decide +kernel
theorem or_byte : ∀ c : Fin 128, bits BinOp.or IntKind.u8 ((c.val : Nat) : Int) 128 = ((c.val + 128 : Nat) : Int) := by decide +kernel
end Go.Proofs.YtmekmlgpkbfjpaaGreatDoor.C

/- The contract of coordinates. -/
namespace Go.Proofs.YtmekmlgpkbfjpaaGreatDoor.C
open Go.RowKit Go.Sort Go.Proofs.YtmekmlgpkbfjpaaGreatDoor.F
set_option maxRecDepth 100000
attribute [local irreducible] feA ptA
theorem results_two {P : Program} {fn : Func} {p q : Tmp} {ty1 ty2 : TypeId} {n1 n2 : Nat} {w : World} {g1 g2 : Nat} {t1 t2 : TypeId} {cs1 cs2 : Array Value} {tmps : Array Value} (h : fn.results = #[.cell p ty1, .cell q ty2]) (hT1 : RowT P ty1 n1) (hn1 : cs1.size = n1) (hg1 : Lies w g1 t1 cs1) (hp : tmps.getD p undef = .pointer (some ⟨g1, 0, none⟩))
    (hT2 : RowT P ty2 n2) (hn2 : cs2.size = n2) (hg2 : Lies w g2 t2 cs2) (hq : tmps.getD q undef = .pointer (some ⟨g2, 0, none⟩)) :
    (results fn tmps).run P w = .ok (.tuple #[.agg cs1, .agg cs2]) w := by
  obtain ⟨⟨d1, hu1, hd1⟩, hi1⟩ := hT1
  obtain ⟨⟨d2, hu2, hd2⟩, hi2⟩ := hT2
  have hl1 := run_loadVar_row (P := P) w g1 t1 ty1 cs1 (0, 0) d1 hg1 hu1 (by cases d1 <;> first | rfl | simp [TypeDesc.isRow] at hd1) (by rw [hi1, hn1])
  have hl2 := run_loadVar_row (P := P) w g2 t2 ty2 cs2 (0, 0) d2 hg2 hu2 (by cases d2 <;> first | rfl | simp [TypeDesc.isRow] at hd2) (by rw [hi2, hn2])
  have hp' : tmps[p]?.getD undef = .pointer (some ⟨g1, 0, none⟩) := by simpa using hp
  have hq' : tmps[q]?.getD undef = .pointer (some ⟨g2, 0, none⟩) := by simpa using hq
  simp [results, h, hp', hq', asAddr, hl1, hl2]
set_option maxHeartbeats 1600000 in
theorem wcoord_any (F : FieldOk) (u : N4) (hu : u.Lt) (W : World) (hT : PtTab W) :
    Calls Tryz.prog 130 #[pt u] W fun e w' => e = .returned (.tuple #[fe (u.X * invN u.Z % p25), fe (u.Y * invN u.Z % p25)]) ∧ Below W.heap.size W w' := by
  have hT0 := Lib.hid hT
  have Hi := Lib.hid (fun w hT => F.inv u.Z w hu.Z hT)
  have ki : invN u.Z < K256 := below_K (invN_lt _)
  generalize invN u.Z = i at *
  have Hx := Lib.hid (fun w hT => F.mul u.X i w hu.X ki hT)
  have kx := mod_K (u.X * i)
  generalize u.X * i % p25 = x at *
  have Hy := Lib.hid (fun w hT => F.mul u.Y i w hu.Y ki hT)
  have ky := mod_K (u.Y * i)
  generalize u.Y * i % p25 = y at *
  clear hT hu ki kx ky
  go_enter Tryz.func130, Tryz.ntmps130
  have hp := ((Lies.new W 151 (ptA u)).alloc (.cells fe0A 72)).alloc (.cells fe0A 72)
  have hr : Lies ((W.alloc (.cells (ptA u) 151)).alloc (.cells fe0A 72)) (W.heap.size + 1) 72 fe0A := heap_alloc2_new W _ _
  replace hr := hr.alloc (.cells fe0A 72)
  have hs := lies3 W (.cells (ptA u) 151) (.cells fe0A 72) 72 fe0A
  have hB := (((Below.refl W.heap.size W).alloc (Nat.le_refl _) (.cells (ptA u) 151)).alloc (by simp) (.cells fe0A 72)).alloc (by simp; omega) (.cells fe0A 72)
  go_upto_region 1 with fail
  generalize World.alloc (World.alloc (World.alloc W _) _) _ = w0 at *
  have hT := (hT0.out.on hB).f
  have hpZ := pt_Z hp
  go_upto_region 2 with (first
    | ((with_reducible refine wpL_loadMid (W.heap.size) 8 (feA u.Z).toList 4 rowFe (by rw [Array.length_toList]; exact feA_size _) hpZ ?_ ?_); rfl; rw [Array.toArray_toList])
    | (go_at_call 99; (with_reducible refine (Hi.out _ hT).mono ?_); rintro e u1 ⟨rfl, hb⟩; replace hp := hp.on hb; replace hr := hr.on hb; replace hs := hs.on hb; replace hT := hT.on hb; replace hB := below_on hB hb; clear hb)
    | ((with_reducible refine wpL_store u1.heap.size 72 _ (feA i) 4 rowFe ?_ (feA_size _) (feA_one _) (Lies.new u1 _ _) ?_ ?_ ?_); rfl; rfl; rfl))
  have hi := newly_lies u1 72 fe0A (feA i)
  have hnw := newly u1 (.cells fe0A 72) (feA i)
  replace hp := hp.on hnw
  replace hr := hr.on hnw
  replace hs := hs.on hnw
  replace hB := below_on hB hnw
  clear hnw hT
  generalize World.setRow _ _ _ = w1 at *
  generalize u1.heap.size = gi at *
  clear hpZ Hi
  have hT := (hT0.out.on hB).f
  have hpX := pt_X hp
  have hpY := pt_Y hp
  have hpZ := pt_Z hp
  have hpT := pt_T hp
  refine wp_region_plain 10 (by kernel_rfl) (by kernel_rfl) ?_
  simp only [List.take_succ_cons, List.take_zero, List.drop_succ_cons, List.drop_zero]
  refine wpQB_run (.pointer (some ⟨W.heap.size, 0, none⟩)) rfl (fun _ _ => by kernel_rfl) ?_
  simp only [Act.put, List.setIfInBounds_toArray, List.set_cons_succ, List.set_cons_zero]
  refine wpQB_run (.pointer (some ⟨W.heap.size, 0, none⟩)) rfl (fun _ _ => by kernel_rfl) ?_
  simp only [Act.put, List.setIfInBounds_toArray, List.set_cons_succ, List.set_cons_zero]
  refine wpQB_mid (W.heap.size) 0 u.X hpX rfl ?_
  simp only [Act.put, List.setIfInBounds_toArray, List.set_cons_succ, List.set_cons_zero]
  refine wpQB_fe (gi) i hi rfl ?_
  simp only [Act.put, List.setIfInBounds_toArray, List.set_cons_succ, List.set_cons_zero]
  refine wpQB_call 94 #[fe u.X, fe i] (fe x) rfl rfl (fun _ => by kernel_rfl) (fun w hb => Hx.out w (hT.on hb)) ?_
  simp only [Act.put, List.setIfInBounds_toArray, List.set_cons_succ, List.set_cons_zero]
  refine wpQB_run (.pointer (some ⟨W.heap.size, 0, none⟩)) rfl (fun _ _ => by kernel_rfl) ?_
  simp only [Act.put, List.setIfInBounds_toArray, List.set_cons_succ, List.set_cons_zero]
  refine wpQB_run (.pointer (some ⟨W.heap.size, 4, none⟩)) rfl (fun _ _ => by kernel_rfl) ?_
  simp only [Act.put, List.setIfInBounds_toArray, List.set_cons_succ, List.set_cons_zero]
  refine wpQB_mid (W.heap.size) 4 u.Y hpY rfl ?_
  simp only [Act.put, List.setIfInBounds_toArray, List.set_cons_succ, List.set_cons_zero]
  refine wpQB_fe (gi) i hi rfl ?_
  simp only [Act.put, List.setIfInBounds_toArray, List.set_cons_succ, List.set_cons_zero]
  refine wpQB_call 94 #[fe u.Y, fe i] (fe y) rfl rfl (fun _ => by kernel_rfl) (fun w hb => Hy.out w (hT.on hb)) ?_
  simp only [Act.put, List.setIfInBounds_toArray, List.set_cons_succ, List.set_cons_zero]
  refine wpQB_nil ?_
  intro wz hb
  clear hpX hpY hpZ hpT
  clear hT Hx Hy
  replace hp := hp.on hb
  replace hr := hr.on hb
  replace hs := hs.on hb
  replace hi := hi.on hb
  replace hB := below_on hB hb
  clear hb
  go_wp2_with (first | ((with_reducible refine wpL_store (W.heap.size + 1) 72 _ (feA x) 4 rowFe rfl (feA_size _) (feA_one _) hr ?_ ?_ ?_); rfl; rfl) | ((with_reducible refine wpL_store (W.heap.size + 2) 72 _ (feA y) 4 rowFe rfl (feA_size _) (feA_one _) (hs.rowFar (show W.heap.size + 2 ≠ W.heap.size + 1 by omega) _) ?_ ?_ ?_); rfl; rfl))
  exact bodyPost_ret (results_two Tryz.results130 rowFe (feA_size _) ((hr.row _).rowFar (show W.heap.size + 1 ≠ W.heap.size + 2 by omega) _) rfl rowFe (feA_size _) ((hs.rowFar (show W.heap.size + 2 ≠ W.heap.size + 1 by omega) _).row _) rfl) rfl ⟨rfl, below_rowSet (below_rowSet hB (by omega) _) (by omega) _⟩
end Go.Proofs.YtmekmlgpkbfjpaaGreatDoor.C

/- The contract of Bytes. -/
namespace Go.Proofs.YtmekmlgpkbfjpaaGreatDoor.C
open Go.RowKit Go.Sort Go.Proofs.YtmekmlgpkbfjpaaGreatDoor.F
set_option maxRecDepth 100000
theorem lies_snd (w : World) (o : Obj) (t : TypeId) (cs cs1 : Array Value) : Lies (((w.alloc o).alloc (.cells cs t)).setRow w.heap.size cs1) (w.heap.size + 1) t cs :=
  (show Lies ((w.alloc o).alloc (.cells cs t)) (w.heap.size + 1) t cs from heap_alloc2_new w o _).rowFar (by omega) _
attribute [local irreducible] feA ptA
set_option maxHeartbeats 3200000 in
theorem bytes_pt (F : FieldOk) (u : N4) (W : World) (hu : u.Lt) (hT : PtTab W) :
    Calls Tryz.prog 88 #[pt u] W fun e w' => e = .returned (if u.right = true then .tuple #[.string (textN u.of), .int .i64 0] else .tuple #[.string ByteArray.empty, .int .i64 1]) ∧ Below W.heap.size W w' := by
  have hT0 := Lib.hid hT
  have HR := Lib.hid (fun w hT => wright_any F u hu w hT)
  have HC := Lib.hid (fun w hT => wcoord_any F u hu w hT)
  have hx : (u.of).x.val = u.X * invN u.Z % p25 := by unfold N4.of; show (z _).val = _; rw [val_mod, Nat.mod_mod]
  have hy : (u.of).y.val = u.Y * invN u.Z % p25 := by unfold N4.of; show (z _).val = _; rw [val_mod, Nat.mod_mod]
  rw [← hx, ← hy] at HC
  have hyK := below_K (u.of).y.isLt
  have HB := Lib.hid (fun w hT => F.bytes (u.of).y.val w hyK hT)
  rw [Nat.mod_eq_of_lt (u.of).y.isLt, y_list u.of] at HB
  have HO := Lib.hid (fun w => wodd_any (u.of).x.val w)
  have ht := topN_lt u.of
  have htl := text_list u.of
  have hl := leL_length (u.of).y.val 31
  have hb2 : (u.of).x.val % 2 < 2 := Nat.mod_lt _ (by decide)
  have hod : decide ((u.of).x.val % 2 = 1) = decide ((u.of).x.val % 2 = 1) := rfl
  generalize leL (u.of).y.val 31 = LA at *
  generalize topN u.of = tp at *
  generalize textN u.of = V at *
  generalize (u.of).x.val % 2 = xb at *
  generalize (u.of).x.val = xv at *
  generalize (u.of).y.val = yv at *
  generalize u.right = R at *
  obtain ⟨S, hS⟩ : ∃ S : ByteArray, (⟨(LA ++ [tp.toUInt8]).toArray⟩ : ByteArray) = S := ⟨_, rfl⟩
  rw [hS] at HB
  have hSs : S.size = 32 := by
    rw [← hS]
    show (LA ++ [tp.toUInt8]).toArray.size = 32
    simp [hl]
  have hdata : S.data.toList = LA ++ [tp.toUInt8] := by rw [← hS]
  have hcn : tp.toUInt8.toNat = tp := by rw [Nat.toUInt8, UInt8.toNat_ofNat']; omega
  have hor := or_byte ⟨tp, ht⟩
  simp only at hor
  have hdn : (tp + 128).toUInt8.toNat = tp + 128 := by rw [Nat.toUInt8, UInt8.toNat_ofNat']; omega
  have hlen : ∀ b : UInt8, (LA ++ [b]).length = 32 := fun b => by simp [hl]
  have HL := Lib.hid hlen
  have HD := Lib.hid hdata
  have HCn := Lib.hid hcn
  have HDn := Lib.hid hdn
  have HV0 : Hid (xb = 0 → V = ⟨(LA ++ [tp.toUInt8]).toArray⟩) := Lib.hid (fun h => by rw [htl, h, Nat.mul_zero, Nat.add_zero])
  have HV1 : Hid (xb = 1 → V = ⟨(LA ++ [(tp + 128).toUInt8]).toArray⟩) := Lib.hid (fun h => by rw [htl, h, Nat.mul_one])
  have HSs := Lib.hid hSs
  clear hx hy hyK htl hod hS hdata hcn hdn hlen hSs hu hT
  obtain ⟨res, hres⟩ : ∃ res, (if R = true then Value.tuple #[.string V, .int .i64 0] else .tuple #[.string ByteArray.empty, .int .i64 1]) = res := ⟨_, rfl⟩
  rw [hres]
  have HRes : Hid ((R = true ∧ res = .tuple #[.string V, .int .i64 0]) ∨ (R = false ∧ res = .tuple #[.string ByteArray.empty, .int .i64 1])) := Lib.hid (by rw [← hres]; cases R <;> simp)
  clear hres
  go_enter Tryz.func88, Tryz.ntmps88
  have hp := Lies.new W 74 (ptA u)
  have hB := (Below.refl W.heap.size W).alloc (Nat.le_refl _) (.cells (ptA u) 74)
  go_upto_region 1 with fail
  generalize World.alloc W _ = w0 at *
  have hT := hT0.out.on hB
  go_upto_region 2 with (first
    | ((with_reducible refine wpL_load (W.heap.size) 74 (ptA u) 16 rowPt (ptA_size _) hp ?_ ?_); rfl)
    | ((with_reducible refine wpL_bld (pt u) ?_ ?_); kernel_rfl)
    | ((with_reducible refine wpL_store w0.heap.size 151 _ (ptA u) 16 rowWk ?_ (ptA_size _) (ptA_one _) (Lies.new w0 _ _) ?_ ?_ ?_); rfl; rfl; rfl))
  have hwa := newly_lies w0 151 z16P (ptA u)
  have hnw := newly w0 (.cells z16P 151) (ptA u)
  replace hp := hp.on hnw
  replace hB := below_on hB hnw
  clear hnw hT
  generalize World.setRow _ _ _ = w1 at *
  generalize w0.heap.size = gwa at *
  clear hp
  have hT := hT0.out.on hB
  rcases HRes.out with ⟨rfl, rfl⟩ | ⟨rfl, rfl⟩
  case inr =>
    go_wp2_with (first
    | ((with_reducible refine wpL_load (gwa) 151 (ptA u) 16 rowWk (ptA_size _) hwa ?_ ?_); rfl)
    | (go_at_call 103; (with_reducible refine (HR.out _ hT).mono ?_); rintro e u2 ⟨rfl, hb⟩; replace hwa := hwa.on hb; replace hT := hT.on hb; replace hB := below_on hB hb; clear hb))
    exact bodyPost_ret (results_tmp2 Tryz.results88 _ _ _) rfl ⟨rfl, hB⟩
  case inl =>
    go_upto_region 4 with (first
    | ((with_reducible refine wpL_load (gwa) 151 (ptA u) 16 rowWk (ptA_size _) hwa ?_ ?_); rfl)
    | (go_at_call 103; (with_reducible refine (HR.out _ hT).mono ?_); rintro e u2 ⟨rfl, hb⟩; replace hwa := hwa.on hb; replace hT := hT.on hb; replace hB := below_on hB hb; clear hb))
    clear hT
    have hT := hT0.out.on hB
    go_upto_region 5 with (first
    | ((with_reducible refine wpL_load (gwa) 151 (ptA u) 16 rowWk (ptA_size _) hwa ?_ ?_); rfl)
    | (go_at_call 130; (with_reducible refine (HC.out _ hT).mono ?_); rintro e u3 ⟨rfl, hb⟩; replace hwa := hwa.on hb; replace hT := hT.on hb; replace hB := below_on hB hb; clear hb)
    | ((with_reducible refine wpL_store u3.heap.size 72 _ (feA xv) 4 rowFe ?_ (feA_size _) (feA_one _) (Lies.alloc (Lies.new u3 _ _) _) ?_ ?_ ?_); rfl; rfl; rfl)
    | ((with_reducible refine wpL_store (u3.heap.size + 1) 72 _ (feA yv) 4 rowFe ?_ (feA_size _) (feA_one _) (lies_snd u3 _ _ _ _) ?_ ?_ ?_); rfl; rfl; rfl))
    have hx : Lies _ u3.heap.size 72 (feA xv) := (((Lies.new u3 72 fe0A).alloc (.cells fe0A 72)).row (feA xv)).rowFar (show u3.heap.size ≠ u3.heap.size + 1 by omega) (feA yv)
    have hy : Lies _ (u3.heap.size + 1) 72 (feA yv) := ((show Lies _ (u3.heap.size + 1) 72 fe0A from heap_alloc2_new u3 (.cells fe0A 72) _).rowFar (show u3.heap.size + 1 ≠ u3.heap.size by omega) (feA xv)).row (feA yv)
    have hsz := hB.size
    replace hB := below_rowSet (below_rowSet ((hB.alloc hB.size (.cells fe0A 72)).alloc (by simp; omega) (.cells fe0A 72)) (show W.heap.size ≤ u3.heap.size by omega) (feA xv)) (show W.heap.size ≤ u3.heap.size + 1 by omega) (feA yv)
    clear hT hwa HR HC
    generalize World.setRow (World.setRow _ _ _) _ _ = w4 at *
    generalize u3.heap.size = gx at *
    have hT := (hT0.out.on hB).f
    go_upto_region 6 with (first
      | ((with_reducible refine wpL_load (gx + 1) 72 (feA yv) 4 rowFe (feA_size _) hy ?_ ?_); rfl)
      | (go_at_call 131; (with_reducible refine (HB.out _ hT).mono ?_); rintro e w5 ⟨rfl, hb⟩; replace hx := hx.on hb; replace hB := below_on hB hb; clear hb)
      | ((with_reducible refine wpL_bytes S 32 HSs.out ?_ ?_); rfl; intro gb cap w6 hgb hby hb; subst hgb))
    rw [HD.out] at hby
    have hgx := hx.lt
    have hwb := hB.size
    replace hx := hx.on hb
    replace hB := below_on hB hb
    clear hb hT hy hsz
    generalize w5.heap.size = gb at *
    have hcc := (hby.last 31 hl).1
    have hcf := (hby.last 31 hl).2
    rw [HCn.out] at hcc
    rcases (show xb = 0 ∨ xb = 1 by omega) with rfl | rfl
    · have hz := HV0.out rfl
      have HVz := Lib.hid hz
      clear hz
      go_wp2_with (first
        | ((with_reducible refine wpL_load (gx) 72 (feA xv) 4 rowFe (feA_size _) hx ?_ ?_); rfl)
        | (go_at_call 102; (with_reducible refine (HO.out _).mono ?_); rintro e w7 ⟨rfl, hb⟩; replace hby := hby.on hb; replace hB := below_on hB hb; clear hb)
        | ((with_reducible refine wpL_text (LA ++ [tp.toUInt8]) 32 gb cap (HL.out _) hby ?_ ?_); rfl))
      exact bodyPost_ret (results_tmp2 Tryz.results88 _ _ _) rfl ⟨by rw [HVz.out]; rfl, hB⟩
    · have hz := HV1.out rfl
      have HVz := Lib.hid hz
      clear hz
      go_upto_region 7 with (first
        | ((with_reducible refine wpL_load (gx) 72 (feA xv) 4 rowFe (feA_size _) hx ?_ ?_); rfl)
        | (go_at_call 102; (with_reducible refine (HO.out _).mono ?_); rintro e w7 ⟨rfl, hb⟩; replace hby := hby.on hb; replace hB := below_on hB hb; clear hb hcc hcf hx))
      have hcc := (hby.last 31 hl).1
      have hcf := (hby.last 31 hl).2
      rw [HCn.out] at hcc
      obtain ⟨d, hd⟩ : ∃ d, tp + 128 = d := ⟨_, rfl⟩
      rw [hd] at hor HDn HVz
      clear hd
      go_upto_region 8 with fail
      have hbp := hby.put (c := d.toUInt8) 31 hl
      rw [HDn.out] at hbp
      replace hby := hbp
      clear hbp
      replace hB := below_put hB hwb 31 (.int .u8 (d : Int))
      clear hcc hcf
      generalize World.setCell _ _ _ = w8 at *
      go_wp2_with ((with_reducible refine wpL_text (LA ++ [d.toUInt8]) 32 gb cap (HL.out _) hby ?_ ?_); rfl)
      exact bodyPost_ret (results_tmp2 Tryz.results88 _ _ _) rfl ⟨by rw [HVz.out]; rfl, hB⟩
end Go.Proofs.YtmekmlgpkbfjpaaGreatDoor.C

/- The contract of Parse. -/
namespace Go.Proofs.YtmekmlgpkbfjpaaGreatDoor.C
open Go.RowKit Go.Sort Go.Proofs.YtmekmlgpkbfjpaaGreatDoor.F
set_option maxRecDepth 100000
section
variable {a : Act} {d : Option Tmp} {x : Tmp} {t' : TypeId} {pos : String} {after : Array Edge} {gd : Option (Nat × Bool)} {r : TypeId}
theorem run_and128 (c q : Nat) (hq : bits BinOp.and IntKind.u8 (c : Int) 128 = (q : Int)) (hx : a.eval (.tmp x) = .int .u8 (c : Int)) (w : World) :
    (execOp a.eval ⟨d, .binOp .and 5 (.tmp x) (.const (.int .u8 128)) r, t', pos, after, gd⟩).run Tryz.prog w = .ok (.value (.int .u8 (q : Int))) w := by
  have h2 : a.eval (.const (.int .u8 128)) = .int .u8 128 := rfl
  unfold execOp
  simp only [hx, h2]
  simp [go_sem, hq]
theorem run_neq0 (q : Nat) (odd : Bool) (hq : decide ((q : Int) = 0) = !odd) (hx : a.eval (.tmp x) = .int .u8 (q : Int)) (w : World) :
    (execOp a.eval ⟨d, .binOp .neq 5 (.tmp x) (.const (.int .u8 0)) r, t', pos, after, gd⟩).run Tryz.prog w = .ok (.value (.bool odd)) w := by
  have h2 : a.eval (.const (.int .u8 0)) = .int .u8 0 := rfl
  have h3 : (!decide ((q : Int) = 0)) = odd := by rw [hq, Bool.not_not]
  unfold execOp
  simp only [hx, h2]
  have h4 : ((q : Int) != 0) = odd := by rw [← h3]; by_cases h : q = 0 <;> simp [h]
  simp [go_sem, h4]
end
attribute [local irreducible] feA ptA
set_option maxHeartbeats 3200000 in
theorem wparse_any (F : FieldOk) (s : ByteArray) (W : World) (hT : PtTab2 W) :
    Calls Tryz.prog 37 #[.string s] W fun e w' => e = .returned (if s.size = 32 then if parseB (numLE s.data.toList % two255) (decide (two255 ≤ numLE s.data.toList)) = true then .tuple #[pt (parseN (numLE s.data.toList % two255) (decide (two255 ≤ numLE s.data.toList))), .int .i64 0] else .tuple #[pt noneN, .int .i64 10] else .tuple #[pt noneN, .int .i64 1]) ∧ Below W.heap.size W w' := by
  have hT0 := Lib.hid hT
  by_cases h32 : s.size = 32
  case neg =>
    rw [if_neg h32]
    have hne : ¬ (s.size : Int) = 32 := by omega
    clear h32 hT
    go_enter Tryz.func37, Tryz.ntmps37
    have hr := Lies.new W 74 z16P
    have hB := (Below.refl W.heap.size W).alloc (Nat.le_refl _) (.cells z16P 74)
    go_upto_region 1 with fail
    generalize World.alloc W _ = w0 at *
    go_wp2_with (first
      | ((with_reducible refine wpL_bld (pt noneN) ?_ ?_); kernel_rfl)
      | ((with_reducible refine wpL_store (W.heap.size) 74 _ (ptA noneN) 16 rowPt rfl (ptA_size _) (ptA_one _) hr ?_ ?_ ?_); rfl; rfl))
    exact bodyPost_ret (results_row_tmp Tryz.results37 rowPt (ptA_size _) (hr.row _) rfl rfl) rfl ⟨rfl, below_rowSet hB (by omega) _⟩
  case pos =>
    rw [if_pos h32]
    obtain ⟨A, c, hl, hc, es⟩ := last_split s h32
    obtain ⟨hn1, hn2⟩ := num_parts A c hl hc
    have hnum : numLE s.data.toList = numLE (A ++ [c.toUInt8]) := by rw [es]
    rw [hnum, ← hn1, hn2]
    have hS31 : 31 < s.size := by omega
    have hidx := last_byte hl hc es hS31
    have hcs : (⟨(A ++ [(c % 128).toUInt8]).toArray⟩ : ByteArray).size = 32 := by
      show (A ++ [(c % 128).toUInt8]).toArray.size = 32
      simp [hl]
    have HP := Lib.hid (fun w hT => F.parse ⟨(A ++ [(c % 128).toUInt8]).toArray⟩ w (by rw [hcs]; decide) hT)
    rw [if_pos hcs, show ((⟨(A ++ [(c % 128).toUInt8]).toArray⟩ : ByteArray).data.toList) = A ++ [(c % 128).toUInt8] from rfl] at HP
    have hyK : numLE (A ++ [(c % 128).toUInt8]) < K256 := by
      have h := numLE_lt (A ++ [(c % 128).toUInt8])
      rw [show (A ++ [(c % 128).toUInt8]).length = 32 by simp [hl]] at h
      exact h
    generalize numLE (A ++ [(c % 128).toUInt8]) = m at *
    have HW := Lib.hid (fun odd w hT => wwithY_any F m odd w hyK hT)
    have HQ := Lib.hid (fun (h : m < p25) odd => wyB_is h odd)
    have hdata : s.data.toList = A ++ [c.toUInt8] := by rw [es]
    have hcn : c.toUInt8.toNat = c := by rw [Nat.toUInt8, UInt8.toNat_ofNat']; omega
    have hdn : (c % 128).toUInt8.toNat = c % 128 := by rw [Nat.toUInt8, UInt8.toNat_ofNat']; omega
    have hlen : (A ++ [(c % 128).toUInt8]).length = 32 := by simp [hl]
    have hand := and_byte ⟨c, hc⟩
    have hanot := andNot_byte ⟨c, hc⟩
    simp only at hand hanot
    obtain ⟨d, hd⟩ : ∃ d, c % 128 = d := ⟨_, rfl⟩
    obtain ⟨odd, hodd⟩ : ∃ odd, decide (128 ≤ c) = odd := ⟨_, rfl⟩
    rw [hodd]
    rw [hd] at hanot hdn hlen HP
    have hidx' : (((s[31]'hS31).toNat : Nat) : Int) = (c : Int) := by rw [hidx]
    have HDn := Lib.hid hdn
    have HCn := Lib.hid hcn
    have HDa := Lib.hid hdata
    have HLen := Lib.hid hlen
    have HS32 := Lib.hid h32
    obtain ⟨q, hq, hqo⟩ : ∃ q : Nat, (if 128 ≤ c then 128 else 0) = q ∧ (decide ((q : Int) = 0)) = !odd := by
      by_cases h : 128 ≤ c
      · exact ⟨128, by rw [if_pos h], by rw [← hodd, decide_eq_true h]; rfl⟩
      · exact ⟨0, by rw [if_neg h], by rw [← hodd, decide_eq_false h]; rfl⟩
    rw [hq] at hand
    obtain ⟨res, hres⟩ : ∃ res, (if parseB m odd = true then Value.tuple #[pt (parseN m odd), .int .i64 0] else .tuple #[pt noneN, .int .i64 10]) = res := ⟨_, rfl⟩
    rw [hres]
    have HC : Hid ((m < p25 ∧ parseB m odd = wyB m odd ∧ ((wyB m odd = true ∧ res = .tuple #[pt (parseN m odd), .int .i64 0]) ∨ (wyB m odd = false ∧ res = .tuple #[pt noneN, .int .i64 10]))) ∨ (¬ m < p25 ∧ res = .tuple #[pt noneN, .int .i64 10])) := Lib.hid (by
      by_cases hm : m < p25
      · refine .inl ⟨hm, HQ.out hm odd, ?_⟩
        rw [← hres, HQ.out hm odd]
        cases wyB m odd with
        | true => exact .inl ⟨rfl, rfl⟩
        | false => exact .inr ⟨rfl, rfl⟩
      · refine .inr ⟨hm, ?_⟩
        rw [← hres, if_neg]
        unfold parseB
        rw [decide_eq_false hm]
        simp)
    have hsz : (s.size : Int) = 32 := by omega
    have HIdx := Lib.hid hidx
    have HAnd := Lib.hid hand
    have HQO := Lib.hid hqo
    clear hnum hn1 hn2 es hidx hidx' hand hqo hcs hdn hcn hdata hlen h32 hq hd hodd hres hyK HQ hT
    go_enter Tryz.func37, Tryz.ntmps37
    have hr := Lies.new W 74 z16P
    have hB := (Below.refl W.heap.size W).alloc (Nat.le_refl _) (.cells z16P 74)
    go_upto_region 1 with fail
    generalize World.alloc W _ = w0 at *
    go_upto_region 4 with ((with_reducible refine wpL_bytes s 32 HS32.out ?_ ?_); rfl; intro gb cap w1 hgb hby hb; subst hgb)
    rw [HDa.out] at hby
    have hgr := hr.lt
    replace hr := hr.on hb
    replace hB := below_on hB hb
    clear hb
    generalize w0.heap.size = gb at *
    have hcc := (hby.last 31 hl).1
    have hcf := (hby.last 31 hl).2
    rw [HCn.out] at hcc
    go_upto_region 5 with fail
    obtain ⟨dv, hdv⟩ : ∃ v, Value.int .u8 (d : Int) = v := ⟨_, rfl⟩
    replace hby : Bys (w1.setCell ⟨gb, 31, none⟩ (.int .u8 (d : Int))) gb (A ++ [d.toUInt8]) := by
      have h := hby.put (c := d.toUInt8) 31 hl
      rwa [HDn.out] at h
    replace hr := hr.far (p := ⟨gb, 31, none⟩) (show W.heap.size ≠ gb by omega) (.int .u8 (d : Int))
    replace hB := below_put hB (show W.heap.size ≤ gb by omega) 31 (.int .u8 (d : Int))
    clear hcc hcf hdv dv
    generalize World.setCell _ _ _ = w2 at *
    have hT := (hT0.out.on hB).1.f
    rcases HC.out with ⟨hm, hwy, hcase⟩ | ⟨hm, rfl⟩
    · rw [if_pos hm] at HP
      have HCC := Lib.hid hcase
      clear hcase hwy hm HC
      go_upto_region 6 with (first
        | ((with_reducible refine wpL_text (A ++ [d.toUInt8]) 32 gb cap HLen.out hby ?_ ?_); rfl)
        | (go_at_call 60; (with_reducible refine (HP.out _ hT).mono ?_); rintro e w3 ⟨rfl, hb⟩; replace hr := hr.on hb; replace hB := below_on hB hb; clear hb)
        | ((with_reducible refine wpL_store w3.heap.size 72 _ (feA m) 4 rowFe ?_ (feA_size _) (feA_one _) (Lies.new w3 _ _) ?_ ?_ ?_); rfl; rfl; rfl))
      have hy := newly_lies w3 72 fe0A (feA m)
      have hnw := newly w3 (.cells fe0A 72) (feA m)
      replace hr := hr.on hnw
      replace hB := below_on hB hnw
      clear hnw
      generalize World.setRow _ _ _ = w4 at *
      generalize w3.heap.size = gy at *
      clear hT HP hby
      go_upto_region 8 with fail
      have hT := hT0.out.on hB
      refine wp_region_made_late 8 10 9 7 _ 74 z16P rfl rfl (by kernel_rfl) (by kernel_rfl) (by kernel_rfl) (allocPt rfl) ?_
      simp only [addEdge, List.take_succ_cons, List.take_zero, List.drop_succ_cons, List.drop_zero]
      refine wpQB_fe gy m hy rfl ?_
      simp only [Act.put, List.setIfInBounds_toArray, List.set_cons_succ, List.set_cons_zero]
      refine wpQB_run (.string s) rfl (fun _ _ => rfl) ?_
      simp only [Act.put, List.setIfInBounds_toArray, List.set_cons_succ, List.set_cons_zero]
      refine wpQB_run (.int .u8 (c : Int)) rfl (fun w _ => run_index31 s hS31 c HIdx.out rfl w) ?_
      simp only [Act.put, List.setIfInBounds_toArray, List.set_cons_succ, List.set_cons_zero]
      refine wpQB_run (.int .u8 (q : Int)) rfl (fun w _ => run_and128 c q HAnd.out rfl w) ?_
      simp only [Act.put, List.setIfInBounds_toArray, List.set_cons_succ, List.set_cons_zero]
      refine wpQB_run (.bool odd) rfl (fun w _ => run_neq0 q odd HQO.out rfl w) ?_
      simp only [Act.put, List.setIfInBounds_toArray, List.set_cons_succ, List.set_cons_zero]
      refine wpQB_call 61 #[fe m, .bool odd] (.tuple #[pt (parseN m odd), .bool (wyB m odd)]) rfl rfl (fun _ => by kernel_rfl) (fun w hb => HW.out odd w (hT.on hb)) ?_
      simp only [Act.put, List.setIfInBounds_toArray, List.set_cons_succ, List.set_cons_zero]
      refine wpQB_move ?_
      simp only [Act.put, List.setIfInBounds_toArray, List.set_cons_succ, List.set_cons_zero]
      refine wpQB_run (pt (parseN m odd)) rfl (fun _ _ => by kernel_rfl) ?_
      simp only [Act.put, List.setIfInBounds_toArray, List.set_cons_succ, List.set_cons_zero]
      refine wpQB_run (.bool (wyB m odd)) rfl (fun _ _ => by kernel_rfl) ?_
      simp only [Act.put, List.setIfInBounds_toArray, List.set_cons_succ, List.set_cons_zero]
      refine wpQB_nil ?_
      intro gp w5 hb hk hfr
      simp only [List.setIfInBounds_toArray, List.set_cons_succ, List.set_cons_zero]
      replace hfr : Lies w5 gp 74 z16P := hfr
      have hl2 := hr.lt
      replace hr := (hr.on hb).rowFar (show W.heap.size ≠ gp by omega) (ptA (parseN m odd))
      replace hB := below_rowSet (below_on hB hb) (show W.heap.size ≤ gp by omega) (ptA (parseN m odd))
      have hp := hfr.row (ptA (parseN m odd))
      clear hb hk hl2 hy hT
      generalize hwv : wyB m odd = wv at *
      clear hwv
      go_upto_region 9 with ((with_reducible refine wpL_store gp 74 _ (ptA (parseN m odd)) 16 rowPt rfl (ptA_size _) (ptA_one _) hfr ?_ ?_ ?_); rfl; rfl)
      clear hfr
      generalize World.setRow _ _ _ = w6 at *
      rcases HCC.out with ⟨rfl, rfl⟩ | ⟨rfl, rfl⟩
      · go_wp2_with (first | ((with_reducible refine wpL_load (gp) 74 (ptA (parseN m odd)) 16 rowPt (ptA_size _) hp ?_ ?_); rfl) | ((with_reducible refine wpL_store (W.heap.size) 74 _ (ptA (parseN m odd)) 16 rowPt rfl (ptA_size _) (ptA_one _) hr ?_ ?_ ?_); rfl; rfl))
        exact bodyPost_ret (results_row_tmp Tryz.results37 rowPt (ptA_size _) (hr.row _) rfl rfl) rfl ⟨rfl, below_rowSet hB (by omega) _⟩
      · go_wp2_with (first | ((with_reducible refine wpL_bld (pt noneN) ?_ ?_); kernel_rfl) | ((with_reducible refine wpL_store (W.heap.size) 74 _ (ptA noneN) 16 rowPt rfl (ptA_size _) (ptA_one _) hr ?_ ?_ ?_); rfl; rfl))
        exact bodyPost_ret (results_row_tmp Tryz.results37 rowPt (ptA_size _) (hr.row _) rfl rfl) rfl ⟨rfl, below_rowSet hB (by omega) _⟩
    · rw [if_neg hm] at HP
      clear hm HC
      go_upto_region 6 with (first
        | ((with_reducible refine wpL_text (A ++ [d.toUInt8]) 32 gb cap HLen.out hby ?_ ?_); rfl)
        | (go_at_call 60; (with_reducible refine (HP.out _ hT).mono ?_); rintro e w3 ⟨rfl, hb⟩; replace hr := hr.on hb; replace hB := below_on hB hb; clear hb)
        | ((with_reducible refine wpL_store w3.heap.size 72 _ (feA 0) 4 rowFe ?_ (feA_size _) (feA_one _) (Lies.new w3 _ _) ?_ ?_ ?_); rfl; rfl; rfl))
      have hy := newly_lies w3 72 fe0A (feA 0)
      have hnw := newly w3 (.cells fe0A 72) (feA 0)
      replace hr := hr.on hnw
      replace hB := below_on hB hnw
      clear hnw
      generalize World.setRow _ _ _ = w4 at *
      generalize w3.heap.size = gy at *
      go_wp2_with (first | ((with_reducible refine wpL_bld (pt noneN) ?_ ?_); kernel_rfl) | ((with_reducible refine wpL_store (W.heap.size) 74 _ (ptA noneN) 16 rowPt rfl (ptA_size _) (ptA_one _) hr ?_ ?_ ?_); rfl; rfl))
      exact bodyPost_ret (results_row_tmp Tryz.results37 rowPt (ptA_size _) (hr.row _) rfl rfl) rfl ⟨rfl, below_rowSet hB (by omega) _⟩
end Go.Proofs.YtmekmlgpkbfjpaaGreatDoor.C

/- The contracts of the program's Bytes and Parse. -/
namespace Go.Proofs.YtmekmlgpkbfjpaaGreatDoor.F
set_option maxRecDepth 100000
open Go.RowKit Go.Sort
attribute [local irreducible] feA
theorem wordsL_nth (n q : Nat) (h : q < 4) : (wordsL n).getD q 0 = wordN n q := by
  match q, h with
  | 0, _ | 1, _ | 2, _ | 3, _ => rfl
/-- some bytes, zeros behind them -/
def byA (l : List UInt8) (n : Nat) : Array Value := (Lib.byteCells l ++ List.replicate (n - l.length) (Value.int .u8 0)).toArray
abbrev z32A : Array Value := #[.int .u8 0, .int .u8 0, .int .u8 0, .int .u8 0, .int .u8 0, .int .u8 0, .int .u8 0, .int .u8 0, .int .u8 0, .int .u8 0, .int .u8 0, .int .u8 0, .int .u8 0, .int .u8 0, .int .u8 0, .int .u8 0, .int .u8 0, .int .u8 0, .int .u8 0, .int .u8 0, .int .u8 0, .int .u8 0, .int .u8 0, .int .u8 0, .int .u8 0, .int .u8 0, .int .u8 0, .int .u8 0, .int .u8 0, .int .u8 0, .int .u8 0, .int .u8 0]
theorem byA_set (l : List UInt8) (n i : Nat) (b : UInt8) (v : Value) (hv : v = Value.int .u8 (b.toNat : Int)) (hl : l.length = i) (hi : i < n) : (byA l n).setIfInBounds i v = byA (l ++ [b]) n := by
  unfold byA
  rw [List.setIfInBounds_toArray, hv]
  congr 1
  obtain ⟨m, hm⟩ : ∃ m, n - l.length = m + 1 := ⟨n - l.length - 1, by omega⟩
  have hc : (Lib.byteCells l).length = i := by simp [Lib.byteCells, hl]
  rw [hm, List.set_append_right _ _ (by omega), hc, Nat.sub_self, List.replicate_succ, List.set_cons_zero, List.length_append, List.length_singleton, show n - (l.length + 1) = m by omega, Lib.byteCells_append, List.append_assoc]
  rfl
theorem byA_at (l : List UInt8) (n i : Nat) (hi : i < n) : ∃ v, (byA l n)[i]? = some v := by
  unfold byA
  rw [List.getElem?_toArray]
  by_cases h : i < l.length
  · exact ⟨_, List.getElem?_eq_getElem (by simp [Lib.byteCells]; omega)⟩
  · exact ⟨_, List.getElem?_eq_getElem (by simp [Lib.byteCells]; omega)⟩
theorem byA_full (l : List UInt8) (n i : Nat) (hl : l.length = n) (hi : i < n) : (byA l n)[i]? = some (Value.int .u8 ((l[i]'(by omega)).toNat : Int)) := by
  subst hl
  unfold byA
  rw [List.getElem?_toArray, Nat.sub_self, List.replicate_zero, List.append_nil, Lib.byteCells, List.getElem?_map, List.getElem?_eq_getElem hi]
  rfl

theorem byte_cast (X r : Nat) : IntKind.u8.wrap ((X : Int) / 2 ^ (8 * r)) = (((X / 2 ^ (8 * r) % 256).toUInt8.toNat : Nat) : Int) := by
  have e2 : (X : Int) / 2 ^ (8 * r) = ((X / 2 ^ (8 * r) : Nat) : Int) := by rw [Int.natCast_ediv, Int.natCast_pow]; rfl
  have h : (X / 2 ^ (8 * r) % 256).toUInt8.toNat = X / 2 ^ (8 * r) % 256 := by rw [Nat.toUInt8, UInt8.toNat_ofNat']; omega
  rw [e2, h, IntKind.wrap_u8]
  omega

set_option maxRecDepth 100000 in
set_option maxHeartbeats 800000 in
theorem fBytes_any (n : Nat) (W : World) (hn : n < K256) (hT : Tab W) :
    Calls Tryz.prog 131 #[fe n] W fun e w' => e = .returned (.string ⟨(leL (n % p25) 32).toArray⟩) ∧ Below W.heap.size W w' := by
  have HL := Lib.hid (fun w hT => least_any n w hn hT)
  generalize n % p25 = N at *
  go_enter Tryz.func131, Tryz.ntmps131
  have hz := Lies.new W 72 (feA n)
  have hB := (Below.refl W.heap.size W).alloc (Nat.le_refl _) (.cells (feA n) 72)
  go_upto_region 1 with fail
  generalize World.alloc W _ = w0 at *
  replace hT := hT.on hB
  go_upto_region 2 with (first
    | ((with_reducible refine wpL_load W.heap.size 72 (feA n) 4 rowFe (feA_size _) hz ?_ ?_); rfl)
    | (go_at_call 93; refine (HL.out _ hT).mono ?_; rintro e w1 ⟨rfl, hb⟩; replace hz := hz.on hb; replace hB := below_on hB hb; clear hb)
    | ((with_reducible refine wpL_store W.heap.size 72 _ (feA N) 4 rowFe (feA_size _) (feA_size _) (feA_one _) hz ?_ ?_ ?_); rfl; rfl))
  replace hz := hz.row (feA N)
  replace hB := below_rowSet hB (Nat.le_refl _) (feA N)
  generalize World.setRow _ _ _ = w2 at *
  rw [feA_wordsL] at hz
  have hy : Lies (w2.alloc (.cells z32A 137)) w2.heap.size 137 (byA [] 32) := Lies.new w2 _ _
  have hgz : W.heap.size < w2.heap.size := hz.lt
  replace hz := hz.alloc (.cells z32A 137)
  have hsz := hB.size
  replace hB := hB.alloc hsz (.cells z32A 137)
  go_upto_region 3 with fail
  generalize World.alloc w2 _ = w3 at *
  generalize w2.heap.size = gb at *
  clear HL hT
  go_wp2_with fail
  go_loopw [7] (fun ix wr => ∃ k : Nat, k ≤ 32 ∧ ix = .int .i64 (k : Int) ∧ Lies wr gb 137 (byA (leL N k) 32) ∧ Lies wr W.heap.size 72 ((wordsL N).map w64).toArray ∧ Below W.heap.size W wr) (fun ix _ => 32 - (intOf ix).toNat)
  case atStart => exact ⟨0, by omega, rfl, hy, hz, hB⟩
  case round =>
    clear hy hz hB
    obtain ⟨k, hk, rfl, hy, hz, hB⟩ := hrel
    by_cases hlt : k < 32
    · obtain ⟨q, hq⟩ : ∃ q, k / 8 = q := ⟨_, rfl⟩
      obtain ⟨r, hr⟩ : ∃ r, k % 8 = r := ⟨_, rfl⟩
      have hq4 : q < 4 := by omega
      have cx := (hz.cell q).trans (listA_at (wordsL N) q hq4)
      have hW := word_byte N k
      rw [hq, hr, ← wordsL_nth N q hq4] at hW
      generalize (wordsL N).getD q 0 = X at *
      have hby := byte_cast X r
      rw [hW] at hby
      have HS := Lib.hid (leL_succ N k)
      generalize (N / 256 ^ k % 256).toUInt8 = B at *
      have HA := Lib.hid (byA_set (leL N k) 32 k B _ rfl (leL_length N k) hlt)
      obtain ⟨vo, hvo⟩ := byA_at (leL N k) 32 k hlt
      have cy := (hy.cell k).trans hvo
      have fy := hy.frozen k
      have hki : (k : Int) < 32 := by omega
      have hqi : Int.tdiv (k : Int) 8 = (q : Int) := by rw [Int.tdiv_eq_ediv_of_nonneg (by omega)]; omega
      have hri : Int.tmod (k : Int) 8 = (r : Int) := by rw [Int.tmod_eq_emod_of_nonneg (by omega)]; omega
      have hqe : (k : Int) / 8 = (q : Int) := by omega
      have hre : (k : Int) % 8 = (r : Int) := by omega
      clear hvo hW hq hr
      go_wp2_with fail
      go_roundw
      case rel => exact ⟨k + 1, by omega, by go_num, by rw [HS.out, ← HA.out]; exact hy.put k _, hz.far (by simp only; omega) _, below_put hB (by omega) _ _⟩
      case measure => simp [intOf]; omega
    · obtain rfl : k = 32 := by omega
      rw [show ((32 : Nat) : Int) = 32 from rfl]
      have hcv : (convert 71 9 (.slice (some ⟨gb, 0, none⟩) 32 32)).run Tryz.prog wr = .ok (.string ⟨(leL N 32).toArray⟩) wr := by
        have h := run_convert_bytes_back (P := Tryz.prog) wr 71 9 5 ⟨gb, 0, none⟩ 32 (leL N 32) Tryz.underlying71 Tryz.underlying5 Tryz.underlying9 (by
          intro j hj
          rw [Addr.add_mid, Nat.zero_add]
          rw [leL_length] at hj
          exact (hy.cell j).trans (byA_full _ _ j (leL_length N 32) hj))
        rw [leL_length] at h
        exact h
      clear hy hz
      go_wp2_with fail
      go_ret
      exact ⟨rfl, hB⟩

theorem or_cast (a b r : Nat) (ha : a < 256 ^ r) (hb : b < 256) (hr : r < 8) : bits BinOp.or IntKind.u64 (a : Int) (IntKind.u64.wrap ((b : Int) * 2 ^ (8 * r))) = ((a + b * 256 ^ r : Nat) : Int) := by
  obtain ⟨h1, h2, h3⟩ := or_byte a b r ha hb hr
  have e2 : (b : Int) * 2 ^ (8 * r) = ((b * 2 ^ (8 * r) : Nat) : Int) := by rw [Int.natCast_mul, Int.natCast_pow]; rfl
  have e3 : IntKind.u64.wrap ((b * 2 ^ (8 * r) : Nat) : Int) = ((b * 2 ^ (8 * r) : Nat) : Int) := by rw [IntKind.wrap_u64]; omega
  rw [e2, e3, u64_or_nat _ _ (by omega) h2, h1]

set_option maxRecDepth 100000 in
set_option maxHeartbeats 1600000 in
theorem fParse_any (s : ByteArray) (W : World) (hT : Tab W) :
    Calls Tryz.prog 60 #[.string s] W fun e w' =>
      e = .returned (if s.size = 32 then if numLE s.data.toList < p25 then .tuple #[fe (numLE s.data.toList), .int .i64 0] else .tuple #[fe 0, .int .i64 2] else .tuple #[fe 0, .int .i64 1]) ∧ Below W.heap.size W w' := by
  have hT0 := Lib.hid hT
  clear hT
  have hf0 : fe 0 = .agg fe0A := fe_word 0 (by decide)
  by_cases h32 : s.size = 32
  · rw [if_pos h32]
    have hl32 : s.data.toList.length = 32 := by rw [← Lib.size_eq]; exact h32
    have hS : Hid (∀ i (h : i < s.size), s.data.toList.getD i 0 = s[i]) := Lib.hid (fun i h => by
      rw [List.getD_eq_getElem?_getD, List.getElem?_eq_getElem (by simpa using h)]
      rfl)
    generalize hL : s.data.toList = L at *
    clear hL
    obtain ⟨V, hVV⟩ : ∃ V, (if numLE L < p25 then Value.tuple #[fe (numLE L), .int .i64 0] else .tuple #[fe 0, .int .i64 2]) = V := ⟨_, rfl⟩
    rw [hVV]
    have HVV := Lib.hid hVV
    clear hVV
    go_enter Tryz.func60, Tryz.ntmps60
    have hr := Lies.new W 72 fe0A
    have hB := (Below.refl W.heap.size W).alloc (Nat.le_refl _) (.cells fe0A 72)
    have hi32 : (s.size : Int) = 32 := by omega
    go_upto_region 1 with fail
    generalize World.alloc W _ = w0 at *
    have hz : Lies (w0.alloc (.cells fe0A 72)) w0.heap.size 72 (([0, 0, 0, 0] : List Nat).map w64).toArray := Lies.new w0 _ _
    have hlt := hr.lt
    replace hr := hr.alloc (.cells fe0A 72)
    have hsz := hB.size
    replace hB := hB.alloc hsz (.cells fe0A 72)
    go_upto_region 4 with fail
    generalize World.alloc w0 _ = w1 at *
    generalize w0.heap.size = gx at *
    go_wp2_with fail
    go_loopw [10] (fun ix wr => ∃ (k : Nat) (l : List Nat), k ≤ 32 ∧ ix = .int .i64 (k : Int) ∧ l.length = 4 ∧ Wd l ∧ Hid (valK l = numLE (L.take k)) ∧ Lies wr gx 72 (l.map w64).toArray ∧ Lies wr W.heap.size 72 fe0A ∧ Below W.heap.size W wr) (fun ix _ => 32 - (intOf ix).toNat)
    case atStart => exact ⟨0, [0, 0, 0, 0], by omega, rfl, rfl, (fun d hd => by simp at hd; omega), Lib.hid rfl, hz, hr, hB⟩
    case round =>
      clear hz hr hB
      obtain ⟨k, l, hk, rfl, hl, hw, HV, hz, hr, hB⟩ := hrel
      by_cases hltk : k < 32
      · obtain ⟨q, hq⟩ : ∃ q, k / 8 = q := ⟨_, rfl⟩
        obtain ⟨r, hrr⟩ : ∃ r, k % 8 = r := ⟨_, rfl⟩
        have hq4 : q < 4 := by omega
        have hr8 : r < 8 := by omega
        have hks : k < s.size := by omega
        have hb8 : (s[k]).toNat < 256 := u8_lt _
        have hnt := numLE_take L k (by omega)
        rw [hS.out k hks] at hnt
        have hvlt : valK l < 256 ^ k := by
          rw [HV.out]
          have h := numLE_lt (L.take k)
          rwa [List.length_take, Nat.min_eq_left (by omega)] at h
        obtain ⟨ha, hput⟩ := put_byte l k (s[k]).toNat hl hltk hvlt
        have cx := (hz.cell q).trans (listA_at l q (by omega))
        have fx := hz.frozen q
        have HP := Lib.hid (fun x => listA_set l q x)
        have HW := Lib.hid hw
        rw [hq, hrr] at ha hput
        have hval := Lib.hid (or_cast (l.getD q 0) (s[k]).toNat r ha hb8 hr8)
        have hax := (or_byte (l.getD q 0) (s[k]).toNat r ha hb8 hr8).2.2
        have HN : Hid (valK (l.set q (l.getD q 0 + (s[k]).toNat * 256 ^ r)) = numLE (L.take (k + 1))) := Lib.hid (by rw [hput, hnt, HV.out])
        generalize l.getD q 0 = a at *
        have hki : (k : Int) < 32 := by omega
        have hqi : Int.tdiv (k : Int) 8 = (q : Int) := by rw [Int.tdiv_eq_ediv_of_nonneg (by omega)]; omega
        have hri : Int.tmod (k : Int) 8 = (r : Int) := by rw [Int.tmod_eq_emod_of_nonneg (by omega)]; omega
        have hqe : (k : Int) / 8 = (q : Int) := by omega
        have hre : (k : Int) % 8 = (r : Int) := by omega
        have hq4i : (q : Int) < 4 := by omega
        have hr8i : (r : Int) < 8 := by omega
        have hksI : (k : Int) < (s.size : Int) := by omega
        clear hnt hvlt hput hw HV hq hrr ha
        go_upto_region 7 with fail
        have k0 := cell_regrown cx
        refine wp_region_below_tail 14 (by kernel_rfl) (by kernel_rfl) ?_
        simp only [List.take_succ_cons, List.take_zero, List.drop_succ_cons, List.drop_zero]
        repeat (go_big_quiet_step (fail))
        refine wpQuiet_nil ?_
        intro w3 hw3
        rw [hval.out]
        have hb : Below wr.heap.size wr w3 := by obtain ⟨⟨dq, osq⟩, rfl⟩ := hw3; exact below_regrown wr dq osq
        clear hw3 k0 hval
        replace hz := hz.on hb
        replace hr := hr.on hb
        replace hB := below_on hB hb
        clear hb cx fx
        have HAX := Lib.hid hax
        clear hax hb8
        generalize a + (s[k]).toNat * 256 ^ r = nv at *
        have cx := (hz.cell q).trans (listA_at l q (by omega))
        have fx := hz.frozen q
        generalize l.getD q 0 = a2 at cx
        go_wp2_with fail
        go_roundw
        case rel => exact ⟨k + 1, l.set q nv, by omega, by go_num, by rw [List.length_set]; exact hl, HW.out.set q HAX.out, HN, by rw [← HP.out]; exact hz.put q _, hr.far (by simp only; omega) _, below_put hB (by omega) _ _⟩
        case measure => simp [intOf]; omega
      · obtain rfl : k = 32 := by omega
        rw [show ((32 : Nat) : Int) = 32 from rfl]
        obtain ⟨hwe, hwK⟩ := words_feA l hl hw
        rw [hwe] at hz
        have hv := HV.out
        rw [List.take_of_length_le (by omega)] at hv
        rw [hv] at hz hwK
        have HL := Lib.hid (fun w hT => least_any (numLE L) w hwK hT)
        have hcase : Hid ((numLE L < p25 ∧ numLE L % p25 = numLE L) ∨ (¬ numLE L < p25 ∧ numLE L % p25 ≠ numLE L)) := Lib.hid (by
          by_cases h : numLE L < p25
          · exact .inl ⟨h, Nat.mod_eq_of_lt h⟩
          · refine .inr ⟨h, fun e => h ?_⟩
            rw [← e]
            exact Nat.mod_lt _ p25_pos)
        have hmK := mod_K (numLE L)
        have HN := Lib.hid (show numLE L = numLE L from rfl)
        clear hwe hv HV hw hl HN
        generalize numLE L % p25 = M at *
        generalize numLE L = N at *
        have hT := hT0.out.on hB
        go_upto_region 9 with fail
        refine wp_region_all (by kernel_rfl) (by kernel_rfl) ?_
        refine wpQB_fe gx N hz rfl ?_
        simp only [Act.put, List.setIfInBounds_toArray, List.set_cons_succ, List.set_cons_zero]
        refine wpQB_call 93 #[fe N] (fe M) rfl rfl (fun _ => by kernel_rfl) (fun w hb => HL.out w (hT.on hb)) ?_
        simp only [Act.put, List.setIfInBounds_toArray, List.set_cons_succ, List.set_cons_zero]
        refine wpQB_fe gx N hz rfl ?_
        simp only [Act.put, List.setIfInBounds_toArray, List.set_cons_succ, List.set_cons_zero]
        refine wpQB_run (.bool (!decide (M = N))) rfl (fun w _ => neq_exec rfl M N hmK hwK rfl rfl w) ?_
        simp only [Act.put, List.setIfInBounds_toArray, List.set_cons_succ, List.set_cons_zero]
        refine wpQB_nil ?_
        intro w3 hb
        replace hz := hz.on hb
        replace hr := hr.on hb
        replace hB := below_on hB hb
        clear hb hT HL
        rcases hcase.out with ⟨h1, h2⟩ | ⟨h1, h2⟩
        · rw [decide_eq_true h2]
          have HR : Hid (V = .tuple #[fe N, .int .i64 0]) := Lib.hid (by rw [← HVV.out, if_pos h1])
          clear h1 h2 hcase
          go_wp2_with (first
            | ((with_reducible refine wpL_load gx 72 (feA N) 4 rowFe (feA_size _) hz ?_ ?_); rfl)
            | ((with_reducible refine wpL_store W.heap.size 72 _ (feA N) 4 rowFe rfl (feA_size _) (feA_one _) hr ?_ ?_ ?_); rfl; rfl))
          exact bodyPost_ret (results_row_tmp Tryz.results60 rowFe (feA_size _) (hr.row (feA N)) rfl rfl) rfl ⟨by rw [HR.out]; rfl, below_rowSet hB (Nat.le_refl _) _⟩
        · rw [decide_eq_false h2]
          have HR : Hid (V = .tuple #[fe 0, .int .i64 2]) := Lib.hid (by rw [← HVV.out, if_neg h1])
          clear h1 h2 hcase
          go_wp2_with ((with_reducible refine wpL_store W.heap.size 72 _ fe0A 4 rowFe rfl rfl fe0A_one hr ?_ ?_ ?_); rfl; rfl)
          exact bodyPost_ret (results_row_tmp Tryz.results60 rowFe rfl (hr.row fe0A) rfl rfl) rfl ⟨by rw [HR.out, hf0]; rfl, below_rowSet hB (Nat.le_refl _) _⟩
  · rw [if_neg h32]
    have hi32 : ¬ (s.size : Int) = 32 := by omega
    go_enter Tryz.func60, Tryz.ntmps60
    have hr := Lies.new W 72 fe0A
    have hB := (Below.refl W.heap.size W).alloc (Nat.le_refl _) (.cells fe0A 72)
    go_upto_region 1 with fail
    generalize World.alloc W _ = w0 at *
    go_wp2_with ((with_reducible refine wpL_store W.heap.size 72 _ fe0A 4 rowFe rfl rfl fe0A_one hr ?_ ?_ ?_); rfl; rfl)
    exact bodyPost_ret (results_row_tmp Tryz.results60 rowFe rfl (hr.row fe0A) rfl rfl) rfl ⟨by rw [hf0]; rfl, below_rowSet hB (Nat.le_refl _) _⟩
end Go.Proofs.YtmekmlgpkbfjpaaGreatDoor.F

/- The field's functions keep what the statements' walks ask of them. -/
namespace Go.Proofs.YtmekmlgpkbfjpaaGreatDoor.F
open Go.RowKit

theorem field_ok : FieldOk where
  of := fun n w hn _ => of_any n w hn
  least := fun n w hn hT => least_any n w hn hT
  add := fun m n w hm hn hT => add_any m n w hm hn hT
  sub := fun m n w hm hn hT => sub_any m n w hm hn hT
  mul := fun m n w hm hn hT => mul_any m n w hm hn hT
  inv := fun n w hn hT => inv_any n w hn hT
  sqrt := ⟨sqrtR, sqrtB, fun n w hn hT => sqrt_any n w hn hT, fun n _ => sqrt_spec n⟩
  bytes := fun n w hn hT => fBytes_any n w hn hT
  parse := fun s w _ hT => fParse_any s w hT
end Go.Proofs.YtmekmlgpkbfjpaaGreatDoor.F

/- What is proved: the developers' point keeps the contracts that the statements' walks take. -/
namespace Go.Proofs.YtmekmlgpkbfjpaaGreatDoor.C
open Go.RowKit Go.Sort Go.Proofs.YtmekmlgpkbfjpaaGreatDoor.F
set_option maxRecDepth 100000

theorem point_ok : PointOk where
  zero := fun w hT => wzero_any field_ok w hT
  base := fun w hT => wbase_any field_ok w hT
  add := ⟨plusN, fun _ _ _ _ h k => plusN_pn h k, fun u v w hu hv hT => showAdd field_ok u v w hu hv hT⟩
  neg := ⟨negN, fun _ _ h => negN_pn h, fun u w hu hT => showNeg field_ok u w hu hT⟩
  mul := ⟨fun n u => tN n u 256, fun n _ P hn h => by
    have h2 := tN_pn hn h 256 (Nat.le_refl _)
    rwa [show n / 2 ^ (256 - 256) = n by rw [Nat.sub_self, Nat.pow_zero, Nat.div_one]] at h2, fun n u w _ hu hT => showMul field_ok n u w hu hT⟩
  bytes := fun u w hu hT => bytes_pt field_ok u w hu hT
  parse := fun s w _ hT => wparse_any field_ok s w hT
end Go.Proofs.YtmekmlgpkbfjpaaGreatDoor.C

/- The contracts of the scalars' sums and differences of four words, and of a product of two words with two more. -/
namespace Go.Proofs.YtmekmlgpkbfjpaaGreatDoor.G
open Go.Proofs.YtmekmlgpkbfjpaaGreatDoor.F
set_option maxRecDepth 100000
open Go.RowKit
attribute [local irreducible] feA
theorem wordsL_at (n i : Nat) (h : i < 4) : ((wordsL n).map w64).toArray[i]? = some (w64 ((wordsL n).getD i 0)) := by
  match i, h with
  | 0, _ | 1, _ | 2, _ | 3, _ => rfl
/-- one word of a sum, laid where the word was -/
theorem set_sum {l : List Nat} {i s x y c q A : Nat} (hl : i < l.length) (hx : l.getD i 0 = x) (h : valK l + 18446744073709551616 ^ i * c = A) (hs : s + 18446744073709551616 * q = x + y + c) :
    valK (l.set i s) + 18446744073709551616 ^ (i + 1) * q = A + 18446744073709551616 ^ i * y := by
  have h1 := valK_set l i s hl
  rw [hx] at h1
  have h2 : 18446744073709551616 ^ i * s + 18446744073709551616 ^ (i + 1) * q = 18446744073709551616 ^ i * x + 18446744073709551616 ^ i * y + 18446744073709551616 ^ i * c := by
    rw [Nat.pow_succ, Nat.mul_assoc, ← Nat.mul_add, hs, Nat.mul_add, Nat.mul_add]
  omega
/-- .. of a difference -/
theorem set_diff {l : List Nat} {i s x y c q A B : Nat} (hl : i < l.length) (hx : l.getD i 0 = x) (h : valK l + B = A + 18446744073709551616 ^ i * c) (hs : s + y + c = x + 18446744073709551616 * q) :
    valK (l.set i s) + (B + 18446744073709551616 ^ i * y) = A + 18446744073709551616 ^ (i + 1) * q := by
  have h1 := valK_set l i s hl
  rw [hx] at h1
  have h2 : 18446744073709551616 ^ i * s + 18446744073709551616 ^ i * y + 18446744073709551616 ^ i * c = 18446744073709551616 ^ i * x + 18446744073709551616 ^ (i + 1) * q := by
    rw [Nat.pow_succ, Nat.mul_assoc, ← Nat.mul_add, ← Nat.mul_add, ← Nat.mul_add, hs]
  omega

set_option maxRecDepth 100000 in
set_option maxHeartbeats 1600000 in
theorem plus_words (m n : Nat) (W : World) (hm : m < K256) (hn : n < K256) :
    Calls Tryz.prog 90 #[fe m, fe n] W fun e w' => e = .returned (.tuple #[fe ((m + n) % K256), w64 ((m + n) / K256)]) ∧ Below W.heap.size W w' := by
  have hmv := Lib.hid (wordsL_val hm)
  have hnv := Lib.hid (wordsL_val hn)
  have wm := wordsL_wd m
  have wn := wordsL_wd n
  rw [fe, fe, feA_wordsL m, feA_wordsL n]
  have hna := wordsL_at n
  have hml : (wordsL m).length = 4 := rfl
  have hnl : (wordsL n).length = 4 := rfl
  obtain ⟨Y, hY⟩ : ∃ Y, ((wordsL n).map w64).toArray = Y := ⟨_, rfl⟩
  rw [hY] at hna ⊢
  clear hY
  generalize hxs : wordsL m = xs at *
  generalize hys : wordsL n = ys at *
  clear hxs hys hm hn
  go_enter Tryz.func90, Tryz.ntmps90
  have hx := ((Lies.new W 67 (xs.map w64).toArray).alloc (.cells Y 67)).alloc (.cells fe0A 67)
  have hy : Lies ((W.alloc (.cells (xs.map w64).toArray 67)).alloc (.cells Y 67)) (W.heap.size + 1) 67 Y := heap_alloc2_new W _ _
  replace hy := hy.alloc (.cells fe0A 67)
  have hr := lies3 W (.cells (xs.map w64).toArray 67) (.cells Y 67) 67 fe0A
  have hB := (((Below.refl W.heap.size W).alloc (Nat.le_refl _) (.cells (xs.map w64).toArray 67)).alloc (by simp) (.cells Y 67)).alloc (by simp; omega) (.cells fe0A 67)
  go_upto_region 1 with fail
  generalize World.alloc (World.alloc (World.alloc W _) _) _ = w0 at *
  go_wp2_with fail
  go_loopw [6, 8] (fun cx ix wr => ∃ (i c : Nat) (l : List Nat), i ≤ 4 ∧ ix = .int .i64 i ∧ cx = w64 c ∧ c ≤ 1 ∧ l.length = 4 ∧ Wd l ∧ Hid (valK l + 18446744073709551616 ^ i * c = valK xs + valK (ys.take i)) ∧ Lies wr W.heap.size 67 (l.map w64).toArray ∧ Lies wr (W.heap.size + 1) 67 Y ∧ Lies wr (W.heap.size + 2) 67 fe0A ∧ Below W.heap.size W wr) (fun _ ix _ => 4 - (intOf ix).toNat)
  case atStart => exact ⟨0, 0, xs, by omega, rfl, rfl, by omega, hml, wm, Lib.hid rfl, hx, hy, hr, hB⟩
  case round =>
    clear hx hy hr hB
    obtain ⟨i, c, l, hi, rfl, rfl, hc, hl, hw, HV, hx, hy, hr, hB⟩ := hrel
    by_cases hlt : i < 4
    · have cx := (hx.cell i).trans (listA_at l i (by omega))
      have fx := hx.frozen i
      have cy := (hy.cell i).trans (hna i hlt)
      have bx := hw.at i
      have b_y := wn.at i
      have HP := Lib.hid (fun x => listA_set l i x)
      have HY := Lib.hid (valK_take_succ ys i)
      have HW := Lib.hid hw
      have HSt := Lib.hid (fun (s q x y : Nat) (hx : l.getD i 0 = x) => @set_sum l i s x y c q _ (by omega) hx HV.out)
      clear hw
      generalize hlx : l.getD i 0 = x at *
      generalize ys.getD i 0 = y at *
      have hadd := add64_run x y c hc
      have hsq : (x + y + c) % 18446744073709551616 + 18446744073709551616 * ((x + y + c) / 18446744073709551616) = x + y + c := Nat.mod_add_div _ _
      obtain ⟨s, hs⟩ : ∃ s, (x + y + c) % 18446744073709551616 = s := ⟨_, rfl⟩
      obtain ⟨q, hq⟩ : ∃ q, (x + y + c) / 18446744073709551616 = q := ⟨_, rfl⟩
      have hsK : s < 18446744073709551616 := by omega
      have hq1 : q ≤ 1 := by omega
      rw [hs, hq] at hadd hsq
      have HS := Lib.hid (HSt.out s q x y rfl hsq)
      clear hs hq bx b_y hsq HSt hlx
      have hi4 : (i : Int) < 4 := by omega
      go_upto_region 5 with fail
      go_region_with (fail)
      all_goals
        go_wp2_with fail
        go_roundw
        case rel => exact ⟨i + 1, q, l.set i s, by omega, by go_num, rfl, hq1, by rw [List.length_set]; exact hl, HW.out.set i hsK, Lib.hid (by rw [HY.out, ← Nat.add_assoc]; exact HS.out), by rw [← HP.out]; exact (hx.put i _).drew, (hy.far (by simp only; omega) _).drew, (hr.far (by simp only; omega) _).drew, (below_put hB (by omega) _ _).drew⟩
        case measure => simp [intOf]; omega
    · obtain rfl : i = 4 := by omega
      obtain ⟨hwe, hwK⟩ := words_feA l hl hw
      rw [hwe] at hx
      have hv := HV.out
      rw [List.take_of_length_le (by omega), hmv.out, hnv.out, show (18446744073709551616 : Nat) ^ 4 = K256 by decide] at hv
      have hvm : valK l = (m + n) % K256 := by rw [← hv, Nat.add_mul_mod_self_left, Nat.mod_eq_of_lt hwK]
      have hvd : c = (m + n) / K256 := by rw [← hv, Nat.add_mul_div_left _ _ (by decide), Nat.div_eq_of_lt hwK, Nat.zero_add]
      have HVM := Lib.hid hvm
      have HVD := Lib.hid hvd
      clear hv hvm hvd hwK hwe HV hw
      generalize valK l = V at *
      go_wp2_with (first
        | ((with_reducible refine wpL_load W.heap.size 67 (feA V) 4 rowFe (feA_size _) hx ?_ ?_); rfl)
        | ((with_reducible refine wpL_store (W.heap.size + 1 + 1) 67 _ (feA V) 4 rowFe rfl (feA_size _) (feA_one _) hr ?_ ?_ ?_); rfl; rfl))
      exact bodyPost_ret (results_row_tmp Tryz.results90 rowFe (feA_size _) (hr.row _) rfl rfl) rfl ⟨by rw [← HVM.out, ← HVD.out]; rfl, below_rowSet hB (by omega) _⟩

set_option maxRecDepth 100000 in
set_option maxHeartbeats 1600000 in
theorem minus_words (m n : Nat) (W : World) (hm : m < K256) (hn : n < K256) :
    Calls Tryz.prog 169 #[fe m, fe n] W fun e w' => e = .returned (fe ((m + K256 - n) % K256)) ∧ Below W.heap.size W w' := by
  have hmv := Lib.hid (wordsL_val hm)
  have hnv := Lib.hid (wordsL_val hn)
  have wm := wordsL_wd m
  have wn := wordsL_wd n
  rw [fe, fe, feA_wordsL m, feA_wordsL n]
  have hna := wordsL_at n
  have hml : (wordsL m).length = 4 := rfl
  have hnl : (wordsL n).length = 4 := rfl
  obtain ⟨Y, hY⟩ : ∃ Y, ((wordsL n).map w64).toArray = Y := ⟨_, rfl⟩
  rw [hY] at hna ⊢
  clear hY
  generalize hxs : wordsL m = xs at *
  generalize hys : wordsL n = ys at *
  clear hxs hys
  go_enter Tryz.func169, Tryz.ntmps169
  have hx := ((Lies.new W 67 (xs.map w64).toArray).alloc (.cells Y 67)).alloc (.cells fe0A 67)
  have hy : Lies ((W.alloc (.cells (xs.map w64).toArray 67)).alloc (.cells Y 67)) (W.heap.size + 1) 67 Y := heap_alloc2_new W _ _
  replace hy := hy.alloc (.cells fe0A 67)
  have hr := lies3 W (.cells (xs.map w64).toArray 67) (.cells Y 67) 67 fe0A
  have hB := (((Below.refl W.heap.size W).alloc (Nat.le_refl _) (.cells (xs.map w64).toArray 67)).alloc (by simp) (.cells Y 67)).alloc (by simp; omega) (.cells fe0A 67)
  go_upto_region 1 with fail
  generalize World.alloc (World.alloc (World.alloc W _) _) _ = w0 at *
  go_wp2_with fail
  go_loopw [5, 7] (fun cx ix wr => ∃ (i c : Nat) (l : List Nat), i ≤ 4 ∧ ix = .int .i64 i ∧ cx = w64 c ∧ c ≤ 1 ∧ l.length = 4 ∧ Wd l ∧ Hid (valK l + valK (ys.take i) = valK xs + 18446744073709551616 ^ i * c) ∧ Lies wr W.heap.size 67 (l.map w64).toArray ∧ Lies wr (W.heap.size + 1) 67 Y ∧ Lies wr (W.heap.size + 2) 67 fe0A ∧ Below W.heap.size W wr) (fun _ ix _ => 4 - (intOf ix).toNat)
  case atStart => exact ⟨0, 0, xs, by omega, rfl, rfl, by omega, hml, wm, Lib.hid rfl, hx, hy, hr, hB⟩
  case round =>
    clear hx hy hr hB
    obtain ⟨i, c, l, hi, rfl, rfl, hc, hl, hw, HV, hx, hy, hr, hB⟩ := hrel
    by_cases hlt : i < 4
    · have cx := (hx.cell i).trans (listA_at l i (by omega))
      have fx := hx.frozen i
      have cy := (hy.cell i).trans (hna i hlt)
      have bx := hw.at i
      have b_y := wn.at i
      have HP := Lib.hid (fun x => listA_set l i x)
      have HY := Lib.hid (valK_take_succ ys i)
      have HW := Lib.hid hw
      have HSt := Lib.hid (fun (s q x y : Nat) (hx : l.getD i 0 = x) => @set_diff l i s x y c q _ _ (by omega) hx HV.out)
      clear hw
      generalize hlx : l.getD i 0 = x at *
      generalize ys.getD i 0 = y at *
      have hadd := sub64_run x y c hc
      have hsq : (x + 18446744073709551616 - y - c) % 18446744073709551616 + y + c = x + 18446744073709551616 * (if x < y + c then 1 else 0) := by
        split <;> omega
      obtain ⟨s, hs⟩ : ∃ s, (x + 18446744073709551616 - y - c) % 18446744073709551616 = s := ⟨_, rfl⟩
      obtain ⟨q, hq⟩ : ∃ q, (if x < y + c then 1 else 0) = q := ⟨_, rfl⟩
      have hsK : s < 18446744073709551616 := by rw [← hs]; exact Nat.mod_lt _ (by decide)
      have hq1 : q ≤ 1 := by rw [← hq]; split <;> omega
      rw [hs, hq] at hadd hsq
      have HS := Lib.hid (HSt.out s q x y rfl hsq)
      clear hs hq bx b_y hsq HSt hlx
      have hi4 : (i : Int) < 4 := by omega
      go_upto_region 5 with fail
      go_region_with (fail)
      all_goals
        go_wp2_with fail
        go_roundw
        case rel => exact ⟨i + 1, q, l.set i s, by omega, by go_num, rfl, hq1, by rw [List.length_set]; exact hl, HW.out.set i hsK, Lib.hid (by rw [HY.out]; exact HS.out), by rw [← HP.out]; exact (hx.put i _).drew, (hy.far (by simp only; omega) _).drew, (hr.far (by simp only; omega) _).drew, (below_put hB (by omega) _ _).drew⟩
        case measure => simp [intOf]; omega
    · obtain rfl : i = 4 := by omega
      obtain ⟨hwe, hwK⟩ := words_feA l hl hw
      rw [hwe] at hx
      have hv := HV.out
      rw [List.take_of_length_le (by omega), hmv.out, hnv.out, show (18446744073709551616 : Nat) ^ 4 = K256 by decide] at hv
      have hvm : valK l = (m + K256 - n) % K256 := by
        unfold K256 at *
        omega
      have HVM := Lib.hid hvm
      clear hv hvm hwK hwe HV hw hm hn
      generalize valK l = V at *
      go_wp2_with (first
        | ((with_reducible refine wpL_load W.heap.size 67 (feA V) 4 rowFe (feA_size _) hx ?_ ?_); rfl)
        | ((with_reducible refine wpL_store (W.heap.size + 1 + 1) 67 _ (feA V) 4 rowFe rfl (feA_size _) (feA_one _) hr ?_ ?_ ?_); rfl; rfl))
      exact bodyPost_ret (results_row Tryz.results169 rowFe (feA_size _) (hr.row _) rfl) rfl ⟨by rw [← HVM.out], below_rowSet hB (by omega) _⟩

set_option maxHeartbeats 800000 in
theorem wordTimes_any (x y a b : Nat) (hx : x < 18446744073709551616) (hy : y < 18446744073709551616) (ha : a < 18446744073709551616) (hb : b < 18446744073709551616) :
    ∃ q s : Nat, q < 18446744073709551616 ∧ s < 18446744073709551616 ∧ s + 18446744073709551616 * q = x * y + a + b ∧
      ∀ W : World, Calls Tryz.prog 92 #[.int .u64 (x : Int), .int .u64 (y : Int), .int .u64 (a : Int), .int .u64 (b : Int)] W fun e w' => e = .returned (.tuple #[.int .u64 (q : Int), .int .u64 (s : Int)]) ∧ Below W.heap.size W w' := by
  obtain ⟨h, l, l2, m1, nw, m2, e1, e2, e3, e4, e5, e6, b1, b2, b3, b4, b5, b6, hsum⟩ := mul_step hx hy ha hb
  obtain ⟨h2, hh2⟩ : ∃ h2, h + m1 = h2 := ⟨_, rfl⟩
  obtain ⟨q, hqq⟩ : ∃ q, h2 + m2 = q := ⟨_, rfl⟩
  rw [hh2, hqq] at b5 hsum
  rw [hh2] at b4
  refine ⟨q, nw, b5, b6, hsum, fun W => ?_⟩
  have HM := Lib.hid (fun w => Tryz.bits_Mul64 x y hx hy w)
  rw [e1, e2] at HM
  have hA1 : ∀ w, (callFunc 132 #[.int .u64 (l : Int), .int .u64 (a : Int), .int .u64 0]).run Tryz.prog w = .ok (.value (.tuple #[w64 l2, w64 m1])) w := fun w => by rw [← e3, ← e4]; exact add64_run l a 0 (by decide) w
  have hA2 : ∀ w, (callFunc 132 #[.int .u64 (l2 : Int), .int .u64 (b : Int), .int .u64 0]).run Tryz.prog w = .ok (.value (.tuple #[w64 nw, w64 m2])) w := fun w => by rw [← e5, ← e6, Nat.add_comm b l2]; exact add64_run l2 b 0 (by decide) w
  have hadd1 : IntKind.u64.wrap (h2 : Int) = (h2 : Int) := by rw [IntKind.wrap_u64]; omega
  have hc1 : (h : Int) + (m1 : Int) = (h2 : Int) := by omega
  have hadd2 : IntKind.u64.wrap (q : Int) = (q : Int) := by rw [IntKind.wrap_u64]; omega
  have hc2 : (h2 : Int) + (m2 : Int) = (q : Int) := by omega
  clear e1 e2 e3 e4 e5 e6 hsum hh2 hqq b1 b2 b3 b4 b5 b6 hx hy ha hb
  go_enter Tryz.func92, Tryz.ntmps92
  go_wp2_with (go_at_call 134; refine (HM.out _).mono ?_; rintro e w1 ⟨rfl, rfl⟩)
  go_ret2
  exact ⟨rfl, Below.refl _ _⟩
end Go.Proofs.YtmekmlgpkbfjpaaGreatDoor.G

/- The contracts of the program's orderTimes, often and next: what a number below L times 2^64, with a word more, leaves. -/
namespace Go.Proofs.YtmekmlgpkbfjpaaGreatDoor.G
open Go.Proofs.YtmekmlgpkbfjpaaGreatDoor.F
set_option maxRecDepth 100000
open Go.RowKit Go.Sort
attribute [local irreducible] feA
/-! ### numbers -/
/-- how often 2^252 goes in, or the greatest word -/
def oftenN (X : Nat) : Nat := if 7237005577332262213973186563042994240829374041602535252466099000494570602496 ≤ X then 18446744073709551615 else X / 392318858461667547739736838950479151006397215279002157056
theorem oftenN_lt (X : Nat) : oftenN X < 18446744073709551616 := by
  unfold oftenN
  split
  · decide
  · omega
theorem next_math (X w : Nat) (h : X < l25) (hw : w < 18446744073709551616) (r : Nat) (hr : r = ((X * 18446744073709551616 + w) % K256 + K256 - l25 * oftenN X % K256) % K256) :
    (r < 57896044618658097711785492504343953926634992332820282019728792003956564819968 → r = (X * 18446744073709551616 + w) % l25) ∧ (57896044618658097711785492504343953926634992332820282019728792003956564819968 ≤ r → (r + l25) % K256 = (X * 18446744073709551616 + w) % l25) := by
  obtain ⟨q, hq⟩ : ∃ q, oftenN X = q := ⟨_, rfl⟩
  obtain ⟨N, hN⟩ : ∃ N, X * 18446744073709551616 + w = N := ⟨_, rfl⟩
  have hb : (l25 * q ≤ N ∧ N - l25 * q < l25) ∨ (N < l25 * q ∧ l25 * q - N ≤ 7237005577332262213973186563042994240829374041602535252466099000494570602496) := by
    unfold oftenN at hq
    unfold l25 at *
    split at hq <;> omega
  rw [hq, hN] at hr
  rw [hN]
  clear hq hN
  rcases hb with ⟨h1, h2⟩ | ⟨h1, h2⟩
  · obtain ⟨d, rfl⟩ : ∃ d, N = l25 * q + d := ⟨N - l25 * q, by omega⟩
    have hd : d < l25 := by omega
    rw [Nat.mul_add_mod, Nat.mod_eq_of_lt hd]
    generalize l25 * q = M at *
    have e : r = d := by
      unfold l25 at hd
      unfold K256 at hr
      omega
    subst e
    unfold l25 at hd
    exact ⟨fun _ => rfl, fun h => by omega⟩
  · have hq1 : 0 < q := by
      rcases Nat.eq_zero_or_pos q with e | e
      · subst e; omega
      · exact e
    obtain ⟨p, rfl⟩ : ∃ p, q = p + 1 := ⟨q - 1, by omega⟩
    rw [Nat.mul_add, Nat.mul_one] at *
    have h3 : l25 * p ≤ N := by unfold l25 at *; omega
    obtain ⟨d, rfl⟩ : ∃ d, N = l25 * p + d := ⟨N - l25 * p, by omega⟩
    have hd : d < l25 := by omega
    rw [Nat.mul_add_mod, Nat.mod_eq_of_lt hd]
    generalize l25 * p = M at *
    have e : r = d + K256 - l25 := by
      unfold l25 at *
      unfold K256 at *
      omega
    unfold l25 at *
    unfold K256 at *
    exact ⟨fun h => by omega, fun _ => by omega⟩

/-! ### L so many times -/
/-- some words, zeros behind them -/
def padA (ws : List Nat) (n : Nat) : Array Value := ((ws ++ List.replicate (n - ws.length) 0).map w64).toArray
theorem padA_at (ws : List Nat) (n i : Nat) (hi : i < n) : (padA ws n)[i]? = some (w64 ((ws ++ List.replicate (n - ws.length) 0).getD i 0)) := by
  unfold padA
  rw [List.getElem?_toArray, List.getElem?_map, List.getElem?_eq_getElem (by simp; omega), List.getD_eq_getElem?_getD, List.getElem?_eq_getElem (by simp; omega)]
  rfl
theorem padA_set (ws : List Nat) (n i x : Nat) (hl : ws.length = i) (hi : i < n) : (padA ws n).setIfInBounds i (w64 x) = padA (ws ++ [x]) n := by
  unfold padA
  rw [List.setIfInBounds_toArray, ← List.map_set, hl, pre_set ws n i x hl hi, List.length_append, hl]
  rfl
theorem padA_full (ws : List Nat) (n : Nat) (h : ws.length = n) : padA ws n = (ws.map w64).toArray := by
  unfold padA
  rw [h, Nat.sub_self, List.replicate_zero, List.append_nil]
theorem times_step {V A c s q x t i : Nat} (h : V + 18446744073709551616 ^ i * c = A * t) (hs : s + 18446744073709551616 * q = x * t + 0 + c) :
    (V + 18446744073709551616 ^ i * s) + 18446744073709551616 ^ (i + 1) * q = (A + 18446744073709551616 ^ i * x) * t := by
  have h2 : 18446744073709551616 ^ i * s + 18446744073709551616 ^ (i + 1) * q = 18446744073709551616 ^ i * (x * t) + 18446744073709551616 ^ i * c := by
    rw [Nat.pow_succ, Nat.mul_assoc, ← Nat.mul_add, hs, Nat.add_zero, Nat.mul_add]
  rw [Nat.add_mul, Nat.mul_assoc, ← h]
  omega
theorem wordsL_word (n q : Nat) (h : q < 4) : (wordsL n).getD q 0 = wordN n q := by
  match q, h with
  | 0, _ | 1, _ | 2, _ | 3, _ => rfl

set_option maxRecDepth 100000 in
set_option maxHeartbeats 1600000 in
theorem orderTimes_any (t : Nat) (W : World) (ht : t < 18446744073709551616) (hT : Tab W) :
    Calls Tryz.prog 170 #[w64 t] W fun e w' => e = .returned (fe (l25 * t % K256)) ∧ Below W.heap.size W w' := by
  have hT0 := Lib.hid hT
  have hlv : valK (wordsL l25) = l25 := wordsL_val (by decide)
  have HLV := Lib.hid hlv
  have wl := wordsL_wd l25
  have hll : (wordsL l25).length = 4 := rfl
  have hTw : Hid (∀ i, i < 4 → W.cell? ⟨9, i, none⟩ = some (w64 ((wordsL l25).getD i 0))) := Lib.hid (fun i hi => by rw [wordsL_word _ _ hi]; exact hT i hi)
  clear hT hlv
  generalize hxs : wordsL l25 = xs at *
  clear hxs
  generalize l25 = N at *
  have hTon : Hid (∀ w', Below W.heap.size W w' → ∀ i, i < 4 → w'.cell? ⟨9, i, none⟩ = some (w64 (xs.getD i 0))) := Lib.hid (fun w' hb i hi => (hb.cell (p := ⟨9, i, none⟩) (World.block_lt_of_cell? W _ (hTw.out i hi))).trans (hTw.out i hi))
  clear hT0 hTw
  go_enter Tryz.func170, Tryz.ntmps170
  have hr := Lies.new W 67 fe0A
  have hB := (Below.refl W.heap.size W).alloc (Nat.le_refl _) (.cells fe0A 67)
  go_upto_region 1 with fail
  generalize World.alloc W _ = w0 at *
  have hz : Lies (w0.alloc (.cells fe0A 67)) w0.heap.size 67 (padA [] 4) := Lies.new w0 _ _
  have hlt := hr.lt
  replace hr := hr.alloc (.cells fe0A 67)
  have hsz := hB.size
  replace hB := hB.alloc hsz (.cells fe0A 67)
  go_upto_region 2 with fail
  generalize World.alloc w0 _ = w1 at *
  generalize w0.heap.size = gz at *
  go_wp2_with fail
  go_loopw [4, 6] (fun cx ix wr => ∃ (i c : Nat) (ws : List Nat), i ≤ 4 ∧ ix = .int .i64 i ∧ cx = w64 c ∧ c < 18446744073709551616 ∧ ws.length = i ∧ Wd ws ∧ Hid (valK ws + 18446744073709551616 ^ i * c = valK (xs.take i) * t) ∧ Lies wr gz 67 (padA ws 4) ∧ Lies wr W.heap.size 67 fe0A ∧ Below W.heap.size W wr) (fun _ ix _ => 4 - (intOf ix).toNat)
  case atStart => exact ⟨0, 0, [], by omega, rfl, rfl, by decide, rfl, (fun d hd => by cases hd), Lib.hid (by simp [valK]), hz, hr, hB⟩
  case round =>
    clear hz hr hB
    obtain ⟨i, c, ws, hi, rfl, rfl, hc, hl, hw, HV, hz, hr, hB⟩ := hrel
    by_cases hlt : i < 4
    · have co := hTon.out _ hB i hlt
      have bx := wl.at i
      have HP := Lib.hid (fun x => padA_set ws 4 i x hl hlt)
      have HX := Lib.hid (valK_take_succ xs i)
      have HW := Lib.hid hw
      generalize xs.getD i 0 = x at *
      obtain ⟨q, s, b5, b6, hsum, HM⟩ := wordTimes_any x t 0 c bx ht (by decide) hc
      have cM : ∀ W : World, Calls Tryz.prog 92 #[.int .u64 (x : Int), .int .u64 (t : Int), .int .u64 0, .int .u64 (c : Int)] W fun e w' => e = .returned (.tuple #[.int .u64 (q : Int), .int .u64 (s : Int)]) ∧ Below W.heap.size W w' := HM
      have HS := Lib.hid (times_step HV.out hsum)
      have HBs := Lib.hid (And.intro b5 b6)
      have cz := (hz.cell i).trans (padA_at ws 4 i hlt)
      have hii : (i : Int) < 4 := by omega
      generalize (ws ++ List.replicate (4 - ws.length) 0).getD i 0 = z at cz
      clear hsum HM bx hw cz
      go_wp2_with (go_at_call 92; refine (cM _).mono ?_; rintro e w3 ⟨rfl, hb⟩; replace hz := hz.on hb; replace hr := hr.on hb; replace hB := below_on hB hb; clear hb; have cz := (hz.cell i).trans (padA_at ws 4 i hlt); have fz := hz.frozen i)
      go_roundw
      case rel => exact ⟨i + 1, q, ws ++ [s], by omega, by go_num, rfl, HBs.out.1, by rw [List.length_append, hl]; rfl, HW.out.snoc HBs.out.2, Lib.hid (by rw [valK_snoc, hl, HX.out]; exact HS.out), by rw [← HP.out]; exact hz.put i _, hr.far (by simp only; omega) _, below_put hB (by omega) _ _⟩
      case measure => simp [intOf]; omega
    · obtain rfl : i = 4 := by omega
      obtain ⟨hwe, hwK⟩ := words_feA ws hl hw
      rw [padA_full ws 4 hl, hwe] at hz
      have hv := HV.out
      rw [List.take_of_length_le (by omega), HLV.out, show (18446744073709551616 : Nat) ^ 4 = K256 by decide] at hv
      have hvm : valK ws = N * t % K256 := by rw [← hv, Nat.add_mul_mod_self_left, Nat.mod_eq_of_lt hwK]
      have HVM := Lib.hid hvm
      clear hv hvm hwe hwK HV hw
      generalize valK ws = V at *
      go_wp2_with (first
        | ((with_reducible refine wpL_load gz 67 (feA V) 4 rowFe (feA_size _) hz ?_ ?_); rfl)
        | ((with_reducible refine wpL_store W.heap.size 67 _ (feA V) 4 rowFe rfl (feA_size _) (feA_one _) hr ?_ ?_ ?_); rfl; rfl))
      exact bodyPost_ret (results_row Tryz.results170 rowFe (feA_size _) (hr.row _) rfl) rfl ⟨by rw [← HVM.out], below_rowSet hB (by omega) _⟩

theorem high_or (a b : Nat) (ha : a < 1152921504606846976) (hb : b < 18446744073709551616) : bits BinOp.or IntKind.u64 ((a : Int) * 16) ((b : Int) / 1152921504606846976) = ((a * 16 + b / 1152921504606846976 : Nat) : Int) := by
  have e1 : (a : Int) * 16 = ((a * 16 : Nat) : Int) := by omega
  have e2 : (b : Int) / 1152921504606846976 = ((b / 1152921504606846976 : Nat) : Int) := by omega
  rw [e1, e2, u64_or_nat _ _ (by omega) (by omega)]
  congr 1
  have h := Nat.two_pow_add_eq_or_of_lt (i := 4) (b := b / 1152921504606846976) (by omega) a
  rw [Nat.mul_comm a 16]
  exact h.symm

set_option maxRecDepth 100000 in
set_option maxHeartbeats 800000 in
theorem often_any (X : Nat) (W : World) (hX : X < l25) (hT : Tab W) :
    Calls Tryz.prog 171 #[fe X] W fun e w' => e = .returned (w64 (oftenN X)) ∧ Below W.heap.size W w' := by
  obtain ⟨V, hV⟩ : ∃ V, oftenN X = V := ⟨_, rfl⟩
  rw [hV]
  have hz0 := Lies.new W 67 (feA X)
  have hB := (Below.refl W.heap.size W).alloc (Nat.le_refl _) (.cells (feA X) 67)
  have c3 := hz0.cell 3
  have c2 := hz0.cell 2
  have e3 : (feA X)[3]? = some (w64 (wordN X 3)) := by rw [feA_words]; rfl
  have e2 : (feA X)[2]? = some (w64 (wordN X 2)) := by rw [feA_words]; rfl
  rw [e3] at c3
  rw [e2] at c2
  have h3 := (hT.on hB) 3 (by decide)
  rw [show wordN l25 3 = 1152921504606846976 by decide] at h3
  replace h3 : (World.alloc W (.cells (feA X) 67)).cell? ⟨9, 3, none⟩ = some (.int .u64 1152921504606846976) := h3
  have w2 := wordN_lt X 2
  have hv3 : wordN X 3 = X / 6277101735386680763835789423207666416102355444464034512896 := by
    unfold wordN
    unfold l25 at hX
    omega
  have hcase : (wordN X 3 = 1152921504606846976 ∧ V = 18446744073709551615) ∨ (wordN X 3 < 1152921504606846976 ∧ wordN X 3 * 16 + wordN X 2 / 1152921504606846976 = V) := by
    unfold oftenN at hV
    unfold wordN at *
    unfold l25 at hX
    split at hV
    · exact .inl ⟨by omega, by omega⟩
    · exact .inr ⟨by omega, by omega⟩
  clear hV hv3 e3 e2 hz0 hT
  generalize wordN X 3 = x3 at *
  generalize wordN X 2 = x2 at *
  go_enter Tryz.func171, Tryz.ntmps171
  go_upto_region 1 with fail
  generalize World.alloc W _ = w0 at *
  rcases hcase with ⟨rfl, rfl⟩ | ⟨hx, hV⟩
  · go_wp2_with fail
    go_ret
    exact ⟨rfl, hB⟩
  · have hne : ¬ (x3 : Int) = 1152921504606846976 := by omega
    have ho := high_or x3 x2 hx w2
    rw [hV] at ho
    go_wp2_with fail
    go_ret
    exact ⟨rfl, hB⟩

/-! ### one word more -/
theorem alloc_sc {o : Oper} (h : o.op = .alloc 67) (a : Act) (w : World) : (execOp a.eval o).run Tryz.prog w = .ok (.value (.pointer (some ⟨w.heap.size, 0, none⟩))) (w.alloc (.cells fe0A 67)) := by
  unfold execOp
  rw [h]
  kernel_rfl
section
variable {w0 : World} {Q : Act → Prop} {a : Act} {rest : List Oper} {t' : TypeId} {pos : String} {after : Array Edge} {d : Option Tmp} {x : Operand}
theorem wpQB_sc (g n : Nat) (hz : Lies w0 g 67 (feA n)) (hx : a.eval x = .pointer (some ⟨g, 0, none⟩))
    (h : wpQB Tryz.prog w0 Q rest (a.put d (fe n))) : wpQB Tryz.prog w0 Q (⟨d, .load 67 x, t', pos, after, none⟩ :: rest) a :=
  wpQB_load g 67 (feA n) _ Tryz.underlying67 rfl (by rw [feA_size]; exact rowFe.2) hz hx h
/-- one word of a block is read -/
theorem wpQB_word (g i n : Nat) (hc : w0.cell? ⟨g, i, none⟩ = some (w64 n)) (hx : a.eval x = .pointer (some ⟨g, i, none⟩))
    (h : wpQB Tryz.prog w0 Q rest (a.put d (w64 n))) : wpQB Tryz.prog w0 Q (⟨d, .load 65 x, t', pos, after, none⟩ :: rest) a :=
  wpQB_run (w64 n) rfl (fun w hw => by
    have hc' : w.cell? ⟨g, i, none⟩ = some (w64 n) := (hw.cell (p := ⟨g, i, none⟩) (World.block_lt_of_cell? w0 _ hc)).trans hc
    unfold execOp
    simp [hx, Instr.loadAt, Instr.sureAddr, loadVar, hc']) h
end

/-- L is read whole -/
theorem tab_range {w : World} (h : Tab w) : w.rangeAt 9 0 (feA l25).toList := fun j v hv => by
  have hj : j < 4 := by
    have := (List.getElem?_eq_some_iff.1 hv).1
    rwa [Array.length_toList, feA_size] at this
  rw [Nat.zero_add, h j hj, ← hv, feA_words]
  match j, hj with
  | 0, _ | 1, _ | 2, _ | 3, _ => rfl
theorem wpL_loadG {P : Program} {ops : Array Oper} {rest : List Oper} {a : Act} {w : World} {Q : Exit → Act → World → Prop} {t' : TypeId} {pos : String} {after : Array Edge} {d : Option Tmp} {x : Operand} {ty : TypeId} (g o : Nat) (cs : List Value) (n : Nat) (hT : RowT P ty n) (hn : cs.length = n) (hg : w.rangeAt g o cs)
    (hx : a.eval x = .pointer (some ⟨g, o, none⟩)) (h : wpList P ops Q rest (a.put d (.agg cs.toArray)) w) : wpList P ops Q (⟨d, .load ty x, t', pos, after, none⟩ :: rest) a w := by
  obtain ⟨⟨ds, hu, hd⟩, hi⟩ := hT
  exact wpList_load_mid (op := ⟨d, .load ty x, t', pos, after, none⟩) rfl ty x rfl g o hx cs ds hg hu hd (by rw [hi, hn]) h

set_option maxRecDepth 100000 in
set_option maxHeartbeats 1600000 in
theorem next_any (X x : Nat) (W : World) (hX : X < l25) (hx : x < 18446744073709551616) (hT : Tab W) :
    Calls Tryz.prog 133 #[fe X, w64 x] W fun e w' => e = .returned (fe ((X * 18446744073709551616 + x) % l25)) ∧ Below W.heap.size W w' := by
  have hT0 := Lib.hid hT
  have ht : oftenN X < 18446744073709551616 := oftenN_lt X
  have hb : (X * 18446744073709551616 + x) % K256 < K256 := Nat.mod_lt _ (by decide)
  have hb2 : l25 * oftenN X % K256 < K256 := Nat.mod_lt _ (by decide)
  obtain ⟨r, hr⟩ : ∃ r, ((X * 18446744073709551616 + x) % K256 + K256 - l25 * oftenN X % K256) % K256 = r := ⟨_, rfl⟩
  have hrK : r < K256 := by rw [← hr]; exact Nat.mod_lt _ (by decide)
  obtain ⟨hp1, hp2⟩ := next_math X x hX hx r hr.symm
  have HO := Lib.hid (fun w hT => often_any X w hX hT)
  have HL := Lib.hid (fun w hT => orderTimes_any (oftenN X) w ht hT)
  have HM := Lib.hid (fun w => minus_words _ _ w hb hb2)
  have HP := Lib.hid (fun w => plus_words r l25 w hrK (by decide))
  rw [hr] at HM
  have hfe : fe ((X * 18446744073709551616 + x) % K256) = .agg #[w64 x, w64 (wordN X 0), w64 (wordN X 1), w64 (wordN X 2)] := by
    unfold fe
    rw [feA_words]
    have h0 : wordN ((X * 18446744073709551616 + x) % K256) 0 = x := by
      unfold wordN K256
      omega
    have h1 : wordN ((X * 18446744073709551616 + x) % K256) 1 = wordN X 0 := by
      unfold wordN K256
      omega
    have h2 : wordN ((X * 18446744073709551616 + x) % K256) 2 = wordN X 1 := by
      unfold wordN K256
      omega
    have h3 : wordN ((X * 18446744073709551616 + x) % K256) 3 = wordN X 2 := by
      unfold wordN K256
      omega
    rw [h0, h1, h2, h3]
  rw [hfe] at HM
  obtain ⟨V, hV⟩ : ∃ V, (X * 18446744073709551616 + x) % l25 = V := ⟨_, rfl⟩
  rw [hV] at hp1 hp2 ⊢
  have hcase : Hid ((wordN r 3 < 9223372036854775808 ∧ r = V) ∨ (¬ wordN r 3 < 9223372036854775808 ∧ (r + l25) % K256 = V)) := Lib.hid (by
    have e : wordN r 3 = r / 6277101735386680763835789423207666416102355444464034512896 := by
      unfold wordN
      unfold K256 at hrK
      omega
    have hk : r < 115792089237316195423570985008687907853269984665640564039457584007913129639936 := hrK
    by_cases h : r < 57896044618658097711785492504343953926634992332820282019728792003956564819968
    · exact .inl ⟨by omega, hp1 h⟩
    · exact .inr ⟨by omega, hp2 (by omega)⟩)
  generalize oftenN X = t at *
  generalize l25 * t % K256 = M at *
  generalize (X * 18446744073709551616 + x) % K256 = N at *
  clear hp1 hp2 hV hfe hr hb hb2 hX hT
  go_enter Tryz.func133, Tryz.ntmps133
  have hz := (Lies.new W 67 (feA X)).alloc (.cells fe0A 67)
  have hr : Lies ((W.alloc (.cells (feA X) 67)).alloc (.cells fe0A 67)) (W.heap.size + 1) 67 fe0A := heap_alloc2_new W _ _
  have hB := ((Below.refl W.heap.size W).alloc (Nat.le_refl _) (.cells (feA X) 67)).alloc (by simp) (.cells fe0A 67)
  go_upto_region 1 with fail
  generalize World.alloc (World.alloc W _) _ = w0 at *
  have hT := hT0.out.on hB
  have c0 : w0.cell? ⟨W.heap.size, 0, none⟩ = some (w64 (wordN X 0)) := (hz.cell 0).trans (by rw [feA_words]; rfl)
  have c1 : w0.cell? ⟨W.heap.size, 1, none⟩ = some (w64 (wordN X 1)) := (hz.cell 1).trans (by rw [feA_words]; rfl)
  have c2 : w0.cell? ⟨W.heap.size, 2, none⟩ = some (w64 (wordN X 2)) := (hz.cell 2).trans (by rw [feA_words]; rfl)
  generalize wordN X 0 = x0 at *
  generalize wordN X 1 = x1 at *
  generalize wordN X 2 = x2 at *
  refine wp_region_made 12 5 _ 67 fe0A rfl rfl (by kernel_rfl) (by kernel_rfl) (alloc_sc rfl) ?_
  simp only [List.take_succ_cons, List.take_zero, List.drop_succ_cons, List.drop_zero]
  refine wpQB_move ?_
  simp only [Act.put, List.setIfInBounds_toArray, List.set_cons_succ, List.set_cons_zero]
  refine wpQB_run (.pointer (some ⟨W.heap.size, 0, none⟩)) rfl (fun _ _ => by kernel_rfl) ?_
  simp only [Act.put, List.setIfInBounds_toArray, List.set_cons_succ, List.set_cons_zero]
  refine wpQB_word W.heap.size 0 x0 c0 rfl ?_
  simp only [Act.put, List.setIfInBounds_toArray, List.set_cons_succ, List.set_cons_zero]
  refine wpQB_run (.pointer (some ⟨W.heap.size, 1, none⟩)) rfl (fun _ _ => by kernel_rfl) ?_
  simp only [Act.put, List.setIfInBounds_toArray, List.set_cons_succ, List.set_cons_zero]
  refine wpQB_word W.heap.size 1 x1 c1 rfl ?_
  simp only [Act.put, List.setIfInBounds_toArray, List.set_cons_succ, List.set_cons_zero]
  refine wpQB_run (.pointer (some ⟨W.heap.size, 2, none⟩)) rfl (fun _ _ => by kernel_rfl) ?_
  simp only [Act.put, List.setIfInBounds_toArray, List.set_cons_succ, List.set_cons_zero]
  refine wpQB_word W.heap.size 2 x2 c2 rfl ?_
  simp only [Act.put, List.setIfInBounds_toArray, List.set_cons_succ, List.set_cons_zero]
  refine wpQB_run (.agg #[w64 x, w64 x0, w64 x1, w64 x2]) rfl (fun _ _ => by kernel_rfl) ?_
  simp only [Act.put, List.setIfInBounds_toArray, List.set_cons_succ, List.set_cons_zero]
  refine wpQB_sc W.heap.size X hz rfl ?_
  simp only [Act.put, List.setIfInBounds_toArray, List.set_cons_succ, List.set_cons_zero]
  refine wpQB_call 171 #[fe X] (w64 t) rfl rfl (fun _ => by kernel_rfl) (fun w hb => HO.out w (hT.on hb)) ?_
  simp only [Act.put, List.setIfInBounds_toArray, List.set_cons_succ, List.set_cons_zero]
  refine wpQB_call 170 #[w64 t] (fe M) rfl rfl (fun _ => by kernel_rfl) (fun w hb => HL.out w (hT.on hb)) ?_
  simp only [Act.put, List.setIfInBounds_toArray, List.set_cons_succ, List.set_cons_zero]
  refine wpQB_call 169 #[.agg #[w64 x, w64 x0, w64 x1, w64 x2], fe M] (fe r) rfl rfl (fun _ => by kernel_rfl) (fun w _ => HM.out w) ?_
  simp only [Act.put, List.setIfInBounds_toArray, List.set_cons_succ, List.set_cons_zero]
  refine wpQB_nil ?_
  intro k w3 hb hk hy3
  simp only [List.setIfInBounds_toArray, List.set_cons_succ, List.set_cons_zero]
  replace hy3 : Lies w3 k 67 fe0A := hy3
  have hrl := hr.lt
  replace hr := (hr.on hb).rowFar (show W.heap.size + 1 ≠ k by omega) (feA r)
  replace hB := below_rowSet (below_on hB hb) (show W.heap.size ≤ k by omega) (feA r)
  have hv := hy3.row (feA r)
  clear hb HO HL HM hT c0 c1 c2 hz
  go_upto_region 2 with ((with_reducible refine wpL_store k 67 _ (feA r) 4 rowFe rfl (feA_size _) (feA_one _) hy3 ?_ ?_ ?_); rfl; rfl)
  clear hy3
  generalize World.setRow _ _ _ = w4 at *
  have hT := hT0.out.on hB
  have c3 : w4.cell? ⟨k, 3, none⟩ = some (w64 (wordN r 3)) := (hv.cell 3).trans (by rw [feA_words]; rfl)
  have hrange := tab_range hT
  rcases hcase.out with ⟨h3, hrV⟩ | ⟨h3, hrV⟩
  · subst hrV
    clear hcase
    generalize wordN r 3 = r3 at *
    have hn3 : ¬ (9223372036854775808 : Int) ≤ (r3 : Int) := by omega
    go_wp2_with (first
      | ((with_reducible refine wpL_load k 67 (feA r) 4 rowFe (feA_size _) hv ?_ ?_); rfl)
      | ((with_reducible refine wpL_store (W.heap.size + 1) 67 _ (feA r) 4 rowFe rfl (feA_size _) (feA_one _) hr ?_ ?_ ?_); rfl; rfl))
    exact bodyPost_ret (results_row Tryz.results133 rowFe (feA_size _) (hr.row _) rfl) rfl ⟨rfl, below_rowSet hB (by omega) _⟩
  · rw [hrV] at HP
    clear hrV hcase
    generalize wordN r 3 = r3 at *
    have hn3 : (9223372036854775808 : Int) ≤ (r3 : Int) := by omega
    generalize (r + l25) / K256 = oc at *
    generalize l25 = L at *
    go_upto_region 3 with fail
    go_upto_region 4 with (first
      | ((with_reducible refine wpL_load k 67 (feA r) 4 rowFe (feA_size _) hv ?_ ?_); rfl)
      | ((with_reducible refine wpL_loadG 9 0 (feA L).toList 4 rowFe (by rw [Array.length_toList]; exact feA_size _) hrange ?_ ?_); rfl; rw [Array.toArray_toList])
      | (go_at_call 90; refine (HP.out _).mono ?_; rintro e w5 ⟨rfl, hb⟩; replace hv := hv.on hb; replace hr := hr.on hb; replace hB := below_on hB hb; clear hb hrange)
      | ((with_reducible refine wpL_store k 67 _ (feA V) 4 rowFe (feA_size _) (feA_size _) (feA_one _) hv ?_ ?_ ?_); rfl; rfl))
    replace hv := hv.row (feA V)
    replace hr := hr.rowFar (show W.heap.size + 1 ≠ k by omega) (feA V)
    replace hB := below_rowSet hB (show W.heap.size ≤ k by omega) (feA V)
    generalize World.setRow _ _ _ = w6 at *
    go_wp2_with (first
      | ((with_reducible refine wpL_load k 67 (feA V) 4 rowFe (feA_size _) hv ?_ ?_); rfl)
      | ((with_reducible refine wpL_store (W.heap.size + 1) 67 _ (feA V) 4 rowFe rfl (feA_size _) (feA_one _) hr ?_ ?_ ?_); rfl; rfl))
    exact bodyPost_ret (results_row Tryz.results133 rowFe (feA_size _) (hr.row _) rfl) rfl ⟨rfl, below_rowSet hB (by omega) _⟩
end Go.Proofs.YtmekmlgpkbfjpaaGreatDoor.G

/- The contracts of the program's left, Least and Add: what a number of any number of words leaves, divided by L. -/
namespace Go.Proofs.YtmekmlgpkbfjpaaGreatDoor.G
open Go.Proofs.YtmekmlgpkbfjpaaGreatDoor.F
set_option maxRecDepth 100000
open Go.RowKit Go.Sort
attribute [local irreducible] feA
/-- words lie there -/
def Wrd (w : World) (g o : Nat) (l : List Nat) : Prop := ∀ i, i < l.length → w.cell? ⟨g, o + i, none⟩ = some (w64 (l.getD i 0))
theorem Wrd.on {w w' : World} {g o : Nat} {l : List Nat} (h : Wrd w g o l) (hb : Below w.heap.size w w') : Wrd w' g o l := fun i hi => by
  have h1 := h i hi
  exact (hb.cell (p := ⟨g, o + i, none⟩) (World.block_lt_of_cell? w _ h1)).trans h1
theorem lies_wrd {w : World} {g t : Nat} {l : List Nat} (h : Lies w g t (l.map w64).toArray) : Wrd w g 0 l := fun i hi => by
  rw [Nat.zero_add, h.cell i]
  exact listA_at l i hi
/-- one word more -/
theorem long_step (l : List Nat) (j : Nat) (h : j < l.length) : (valK (l.drop (j + 1)) % l25 * 18446744073709551616 + l.getD j 0) % l25 = valK (l.drop j) % l25 := by
  rw [List.drop_eq_getElem_cons h, valK, List.getD_eq_getElem?_getD, List.getElem?_eq_getElem h, Option.getD_some, Nat.add_mod, Nat.mod_mul_mod, ← Nat.add_mod, Nat.mul_comm, Nat.add_comm]

set_option maxRecDepth 100000 in
set_option maxHeartbeats 1600000 in
theorem long_any (l : List Nat) (g o cap : Nat) (W : World) (hl : l.length ≤ 100) (hw : Wd l) (hd : Wrd W g o l) (hT : Tab W) :
    Calls Tryz.prog 91 #[.slice (some ⟨g, o, none⟩) l.length cap] W fun e w' => e = .returned (fe (valK l % l25)) ∧ Below W.heap.size W w' := by
  have hT0 := Lib.hid hT
  have HD := Lib.hid hd
  clear hT hd
  obtain ⟨n, hn⟩ : ∃ n, l.length = n := ⟨_, rfl⟩
  rw [hn] at hl ⊢
  have HN := Lib.hid hn
  clear hn
  go_enter Tryz.func91, Tryz.ntmps91
  have hr := Lies.new W 67 fe0A
  have hB := (Below.refl W.heap.size W).alloc (Nat.le_refl _) (.cells fe0A 67)
  go_upto_region 1 with fail
  generalize World.alloc W _ = w0 at *
  have hz : Lies (w0.alloc (.cells fe0A 67)) w0.heap.size 67 (feA 0) := by
    rw [show feA 0 = fe0A by unfold feA; rfl]
    exact Lies.new w0 _ _
  have hlt := hr.lt
  replace hr := hr.alloc (.cells fe0A 67)
  have hsz := hB.size
  replace hB := hB.alloc hsz (.cells fe0A 67)
  go_upto_region 2 with fail
  generalize World.alloc w0 _ = w1 at *
  generalize w0.heap.size = gz at *
  go_wp2_with fail
  go_loopw [7] (fun ix wr => ∃ (i X : Nat), i ≤ n ∧ ix = .int .i64 i ∧ X < l25 ∧ Hid (X = valK (l.drop (n - i)) % l25) ∧ Lies wr gz 67 (feA X) ∧ Lies wr W.heap.size 67 fe0A ∧ Below W.heap.size W wr) (fun ix _ => n - (intOf ix).toNat)
  case atStart => exact ⟨0, 0, by omega, rfl, l25_pos, Lib.hid (by rw [Nat.sub_zero, List.drop_of_length_le (by rw [HN.out]; exact Nat.le_refl _)]; rfl), hz, hr, hB⟩
  case round =>
    clear hz hr hB
    obtain ⟨i, X, hi, rfl, hX, HV, hz, hr, hB⟩ := hrel
    by_cases hlt : i < n
    · obtain ⟨j, hj⟩ : ∃ j, n - (i + 1) = j := ⟨_, rfl⟩
      have hjl : j < l.length := by rw [HN.out]; omega
      have hc := cell_regrown ((HD.out.on hB) j hjl)
      have bx := hw.at j
      have HS := Lib.hid (long_step l j hjl)
      rw [show j + 1 = n - i by omega, ← HV.out] at HS
      have hX2 : valK (l.drop j) % l25 < l25 := Nat.mod_lt _ l25_pos
      generalize l.getD j 0 = x at *
      have hT := hT0.out.on hB
      have HM := next_any X x
      obtain ⟨X2, hX2'⟩ : ∃ X2, valK (l.drop j) % l25 = X2 := ⟨_, rfl⟩
      rw [hX2'] at HS hX2
      have HX2 := Lib.hid hX2'
      clear hX2'
      have cM := reg (W := wr) (fun w hb => HS.out ▸ next_any X x w hX bx (hT.on hb))
      obtain ⟨x0, x1, x2, x3, hx4⟩ := fe_four X
      have e1 : fe X = .agg #[w64 x0, w64 x1, w64 x2, w64 x3] := by rw [fe, hx4]
      rw [e1] at cM
      have hz4 := hz
      rw [hx4] at hz4
      obtain ⟨s0, s1, s2, s3⟩ := hz4.four
      have k0 := cell_regrown s0
      have k1 := cell_regrown s1
      have k2 := cell_regrown s2
      have k3 := cell_regrown s3
      have hji : (n : Int) - 1 - (i : Int) = (j : Int) := by omega
      have hjn : (j : Int) < (n : Int) := by rw [HN.out] at hjl; omega
      clear s0 s1 s2 s3 hz4 e1 hx4 hjl HM
      go_upto_region 5 with fail
      refine wp_region_below_tail 10 (by kernel_rfl) (by kernel_rfl) ?_
      simp only [List.take_succ_cons, List.take_zero, List.drop_succ_cons, List.drop_zero]
      repeat (go_big_quiet_step (with_reducible exact cM _ _))
      refine wpQuiet_nil ?_
      intro w3 hw3
      have hb : Below wr.heap.size wr w3 := by obtain ⟨⟨dq, osq⟩, rfl⟩ := hw3; exact below_regrown wr dq osq
      clear hw3 hc cM k0 k1 k2 k3
      replace hz := hz.on hb
      replace hr := hr.on hb
      replace hB := below_on hB hb
      clear hb
      go_wp2_with ((with_reducible refine wpL_store gz 67 _ (feA X2) 4 rowFe (feA_size _) (feA_size _) (feA_one _) hz ?_ ?_ ?_); rfl; rfl)
      go_roundw
      case rel => exact ⟨i + 1, X2, by omega, by go_num, hX2, Lib.hid (by rw [hj]; exact HX2.out.symm), hz.row _, hr.rowFar (by omega) _, below_rowSet hB (by omega) _⟩
      case measure => simp [intOf]; omega
    · obtain rfl : i = n := by omega
      have HE : Hid (valK l % l25 = X) := Lib.hid (by rw [HV.out, Nat.sub_self, List.drop_zero])
      clear HV
      go_wp2_with (first
        | ((with_reducible refine wpL_load gz 67 (feA X) 4 rowFe (feA_size _) hz ?_ ?_); rfl)
        | ((with_reducible refine wpL_store W.heap.size 67 _ (feA X) 4 rowFe rfl (feA_size _) (feA_one _) hr ?_ ?_ ?_); rfl; rfl))
      exact bodyPost_ret (results_row Tryz.results91 rowFe (feA_size _) (hr.row _) rfl) rfl ⟨by rw [HE.out], below_rowSet hB (by omega) _⟩

set_option maxRecDepth 100000 in
set_option maxHeartbeats 1600000 in
theorem sAdd_any (m n : Nat) (W : World) (hm : m < K256) (hn : n < K256) (hT : Tab W) :
    Calls Tryz.prog 58 #[fe m, fe n] W fun e w' => e = .returned (fe ((m + n) % l25)) ∧ Below W.heap.size W w' := by
  have hT0 := Lib.hid hT
  have HP := Lib.hid (fun w => plus_words m n w hm hn)
  obtain ⟨s, hs⟩ : ∃ s, (m + n) % K256 = s := ⟨_, rfl⟩
  obtain ⟨c, hc⟩ : ∃ c, (m + n) / K256 = c := ⟨_, rfl⟩
  have hsK : s < K256 := by rw [← hs]; exact Nat.mod_lt _ (by decide)
  have hcK : c < 18446744073709551616 := by
    rw [← hc]
    unfold K256 at *
    omega
  have hwd : Wd (wordsL s ++ [c]) := (wordsL_wd s).snoc hcK
  have hval : valK (wordsL s ++ [c]) = m + n := by
    rw [valK_snoc, wordsL_val hsK, show (wordsL s).length = 4 from rfl, show (18446744073709551616 : Nat) ^ 4 = K256 by decide, ← hs, ← hc]
    exact Nat.mod_add_div _ _
  have HL := Lib.hid (fun (w : World) g (hd : Wrd w g 0 (wordsL s ++ [c])) (hT : Tab w) => long_any (wordsL s ++ [c]) g 0 5 w (show 5 ≤ 100 by decide) hwd hd hT)
  rw [hval, show (wordsL s ++ [c]).length = 5 from rfl] at HL
  rw [hs, hc] at HP
  generalize (m + n) % l25 = V at *
  have hA : Hid (feA s = #[w64 (wordN s 0), w64 (wordN s 1), w64 (wordN s 2), w64 (wordN s 3)]) := Lib.hid (feA_words s)
  have hwl : wordsL s ++ [c] = [wordN s 0, wordN s 1, wordN s 2, wordN s 3, c] := rfl
  rw [hwl] at HL
  clear hwl hval hwd hsK hs hc hm hn hT
  generalize wordN s 0 = s0 at *
  generalize wordN s 1 = s1 at *
  generalize wordN s 2 = s2 at *
  generalize wordN s 3 = s3 at *
  go_enter Tryz.func58, Tryz.ntmps58
  have hx := ((Lies.new W 67 (feA m)).alloc (.cells (feA n) 67)).alloc (.cells fe0A 67)
  have hy : Lies ((W.alloc (.cells (feA m) 67)).alloc (.cells (feA n) 67)) (W.heap.size + 1) 67 (feA n) := heap_alloc2_new W _ _
  replace hy := hy.alloc (.cells fe0A 67)
  have hr := lies3 W (.cells (feA m) 67) (.cells (feA n) 67) 67 fe0A
  have hB := (((Below.refl W.heap.size W).alloc (Nat.le_refl _) (.cells (feA m) 67)).alloc (by simp) (.cells (feA n) 67)).alloc (by simp; omega) (.cells fe0A 67)
  go_upto_region 1 with fail
  generalize World.alloc (World.alloc (World.alloc W _) _) _ = w0 at *
  go_upto_region 2 with (first
    | ((with_reducible refine wpL_load W.heap.size 67 (feA m) 4 rowFe (feA_size _) hx ?_ ?_); rfl)
    | ((with_reducible refine wpL_load (W.heap.size + 1) 67 (feA n) 4 rowFe (feA_size _) hy ?_ ?_); rfl)
    | (go_at_call 90; refine (HP.out _).mono ?_; rintro e w1 ⟨rfl, hb⟩; replace hr := hr.on hb; replace hB := below_on hB hb; clear hb)
    | ((with_reducible refine wpL_store w1.heap.size 67 _ (feA s) 4 rowFe ?_ (feA_size _) (feA_one _) (Lies.new w1 _ _) ?_ ?_ ?_); rfl; rfl; rfl))
  have hz := newly_lies w1 67 fe0A (feA s)
  have hnw := newly w1 (.cells fe0A 67) (feA s)
  replace hr := hr.on hnw
  replace hB := below_on hB hnw
  clear hnw
  generalize World.setRow _ _ _ = w2 at *
  generalize w1.heap.size = gz at *
  rw [hA.out] at hz
  obtain ⟨c0, c1, c2, c3⟩ := hz.four
  clear HP hx hy hz hA
  have hbn := (Below.refl w2.heap.size w2).alloc (Nat.le_refl _) (.cells #[w64 s0, w64 s1, w64 s2, w64 s3, w64 c] 65)
  have hT := (hT0.out.on hB).on hbn
  have hd : Wrd (w2.alloc (.cells #[w64 s0, w64 s1, w64 s2, w64 s3, w64 c] 65)) w2.heap.size 0 [s0, s1, s2, s3, c] := lies_wrd (Lies.new w2 65 #[w64 s0, w64 s1, w64 s2, w64 s3, w64 c])
  have hr' := hr.on hbn
  have hB' := below_on hB hbn
  clear hr hB hbn
  go_wp2_with (first
    | (go_at_call 91; refine (HL.out _ _ hd hT).mono ?_; rintro e w5 ⟨rfl, hb⟩; replace hr' := hr'.on hb; replace hB' := below_on hB' hb; clear hb)
    | ((with_reducible refine wpL_store (W.heap.size + 1 + 1) 67 _ (feA V) 4 rowFe rfl (feA_size _) (feA_one _) hr' ?_ ?_ ?_); rfl; rfl))
  exact bodyPost_ret (results_row Tryz.results58 rowFe (feA_size _) (hr'.row _) rfl) rfl ⟨rfl, below_rowSet hB' (by omega) _⟩
end Go.Proofs.YtmekmlgpkbfjpaaGreatDoor.G

/- The contract of the scalars' Mul. -/
namespace Go.Proofs.YtmekmlgpkbfjpaaGreatDoor.G
open Go.Proofs.YtmekmlgpkbfjpaaGreatDoor.F
set_option maxRecDepth 100000
open Go.RowKit Go.Sort
attribute [local irreducible] feA
abbrev z8A : Array Value := #[.int .u64 0, .int .u64 0, .int .u64 0, .int .u64 0, .int .u64 0, .int .u64 0, .int .u64 0, .int .u64 0]
set_option maxRecDepth 100000 in
set_option maxHeartbeats 3200000 in
theorem sMul_any (m n : Nat) (W : World) (hm : m < K256) (hn : n < K256) (hT : Tab W) :
    Calls Tryz.prog 59 #[fe m, fe n] W fun e w' => e = .returned (fe (m * n % l25)) ∧ Below W.heap.size W w' := by
  have hT0 := Lib.hid hT
  have hmv := Lib.hid (wordsL_val hm)
  have hnv := Lib.hid (wordsL_val hn)
  have wm := wordsL_wd m
  have wn := wordsL_wd n
  rw [fe, fe, feA_wordsL m, feA_wordsL n]
  have hma := wordsL_at m
  have hna := wordsL_at n
  have hml : (wordsL m).length = 4 := rfl
  have hnl : (wordsL n).length = 4 := rfl
  obtain ⟨X, hX⟩ : ∃ X, ((wordsL m).map w64).toArray = X := ⟨_, rfl⟩
  obtain ⟨Y, hY⟩ : ∃ Y, ((wordsL n).map w64).toArray = Y := ⟨_, rfl⟩
  rw [hX] at hma ⊢
  rw [hY] at hna ⊢
  clear hX hY hT
  generalize hxs : wordsL m = xs at *
  generalize hys : wordsL n = ys at *
  clear hxs hys hm hn
  go_enter Tryz.func59, Tryz.ntmps59
  have hx := ((Lies.new W 67 X).alloc (.cells Y 67)).alloc (.cells fe0A 67)
  have hy : Lies ((W.alloc (.cells X 67)).alloc (.cells Y 67)) (W.heap.size + 1) 67 Y := heap_alloc2_new W _ _
  replace hy := hy.alloc (.cells fe0A 67)
  have hr := lies3 W (.cells X 67) (.cells Y 67) 67 fe0A
  have hB := (((Below.refl W.heap.size W).alloc (Nat.le_refl _) (.cells X 67)).alloc (by simp) (.cells Y 67)).alloc (by simp; omega) (.cells fe0A 67)
  go_upto_region 1 with fail
  generalize World.alloc (World.alloc (World.alloc W _) _) _ = w0 at *
  have ha : Lies (w0.alloc (.cells z8A 106)) w0.heap.size 106 (((List.replicate 8 0).map w64).toArray) := Lies.new w0 106 z8A
  replace hx := hx.alloc (.cells z8A 106)
  replace hy := hy.alloc (.cells z8A 106)
  have hrlt := hr.lt
  replace hr := hr.alloc (.cells z8A 106)
  have hBz := hB.size
  replace hB := hB.alloc hBz (.cells z8A 106)
  go_upto_region 2 with fail
  generalize World.alloc w0 _ = w1 at *
  generalize w0.heap.size = ga at *
  go_wp2_with fail
  go_loopw [9] (fun ix wr => ∃ (i : Nat) (al : List Nat), i ≤ 4 ∧ ix = .int .i64 i ∧ al.length = 8 ∧ Wd al ∧ (∀ j, i + 4 ≤ j → al.getD j 0 = 0) ∧ Hid (valK al = valK (xs.take i) * n) ∧ Lies wr ga 106 ((al.map w64).toArray) ∧ Lies wr W.heap.size 67 X ∧ Lies wr (W.heap.size + 1) 67 Y ∧ Lies wr (W.heap.size + 2) 67 fe0A ∧ Below W.heap.size W wr) (fun ix _ => 4 - (intOf ix).toNat)
  case atStart => exact ⟨0, List.replicate 8 0, by omega, rfl, rfl, (fun d hd => by rw [List.mem_replicate] at hd; omega), (fun j _ => by rw [List.getD_eq_getElem?_getD, List.getElem?_replicate]; split <;> rfl), Lib.hid (by rw [valK_zeros, List.take_zero]; simp [valK]), ha, hx, hy, hr, hB⟩
  case round =>
    clear ha hx hy hr hB
    obtain ⟨i, al, hi, rfl, hl8, hw, hz, HV, ha, hx, hy, hr, hB⟩ := hrel
    by_cases hlt : i < 4
    · have HZ := Lib.hid hz
      have hxi := hma i hlt
      have bx := wm.at i
      have HX := Lib.hid (valK_take_succ xs i)
      generalize xs.getD i 0 = x at *
      clear hz
      obtain ⟨wq, hwq⟩ : ∃ wq, wq = wr := ⟨_, rfl⟩
      subst hwq
      go_wp2_with fail
      go_loopw [7, 12] (fun cx kx wv => ∃ (k c : Nat) (al : List Nat), k ≤ 4 ∧ kx = .int .i64 k ∧ cx = w64 c ∧ c < 18446744073709551616 ∧ al.length = 8 ∧ Wd al ∧ Hid (∀ j, i + 4 ≤ j → al.getD j 0 = 0) ∧ Hid (valK al + 18446744073709551616 ^ (i + k) * c = valK (xs.take i) * n + 18446744073709551616 ^ i * (x * valK (ys.take k))) ∧ Lies wv ga 106 ((al.map w64).toArray) ∧ Lies wv W.heap.size 67 X ∧ Lies wv (W.heap.size + 1) 67 Y ∧ Lies wv (W.heap.size + 2) 67 fe0A ∧ Below W.heap.size W wv) (fun _ kx _ => 4 - (intOf kx).toNat)
      case atStart => exact ⟨0, 0, al, by omega, rfl, rfl, by decide, hl8, hw, HZ, Lib.hid (by rw [HV.out]; simp [valK]), ha, hx, hy, hr, hB⟩
      case round =>
        clear ha hx hy hr hB HV HZ hw hl8
        obtain ⟨k, c, al, hk, rfl, rfl, hc, hl8, hw, HZ, HV, ha, hx, hy, hr, hB⟩ := hrel
        by_cases hltk : k < 4
        · have cx := cell_regrown ((hx.cell i).trans hxi)
          have cy := cell_regrown ((hy.cell k).trans (hna k hltk))
          obtain ⟨j, hj⟩ : ∃ j, i + k = j := ⟨_, rfl⟩
          have hj8 : j < 8 := by omega
          have ca := cell_regrown ((ha.cell j).trans (listA_at al j (by omega)))
          have b_y := wn.at k
          have bo := hw.at j
          have HY := Lib.hid (valK_take_succ ys k)
          have HSt := Lib.hid (fun (o nw q y : Nat) (ho : al.getD (i + k) 0 = o) => @inner_step al (valK (xs.take i) * n) (valK (ys.take k)) x y c o nw q i k (by omega) ho HV.out)
          rw [hj] at HSt
          generalize ys.getD k 0 = y at *
          generalize hao : al.getD j 0 = o at *
          clear hao
          obtain ⟨q, nw, b5, b6, hsum, HM⟩ := wordTimes_any x y o c bx b_y bo hc
          have hsum' : nw + 18446744073709551616 * q = x * y + c + o := by rw [hsum]; omega
          have HSum := Lib.hid hsum'
          have cM := reg (W := wr) (fun w _ => HM w)
          have HW := Lib.hid hw
          have HBs := Lib.hid (And.intro b5 b6)
          clear hw hsum hsum' HM b_y bo
          have hji : IntKind.i64.wrap ((i : Int) + (k : Int)) = (j : Int) := by rw [IntWalk.i64_in _ (by omega)]; omega
          have hjc : (i : Int) + (k : Int) = (j : Int) := by omega
          have hj8i : (j : Int) < 8 := by omega
          go_upto_region 9 with fail
          refine wp_region_below_tail 21 (by kernel_rfl) (by kernel_rfl) ?_
          simp only [List.take_succ_cons, List.take_zero, List.drop_succ_cons, List.drop_zero]
          repeat (go_big_quiet_step (with_reducible exact cM _ _))
          refine wpQuiet_nil ?_
          intro w3 hw3
          have hb : Below wr.heap.size wr w3 := by obtain ⟨⟨dq, osq⟩, rfl⟩ := hw3; exact below_regrown wr dq osq
          clear hw3 cx cy ca cM
          replace hx := hx.on hb
          replace hy := hy.on hb
          replace hr := hr.on hb
          replace ha := ha.on hb
          replace hB := below_on hB hb
          clear hb
          have ca := (ha.cell j).trans (listA_at al j (by omega))
          have fa := ha.frozen j
          generalize al.getD j 0 = o2 at ca
          go_wp2_with fail
          go_roundw
          case rel => exact ⟨k + 1, q, al.set j nw, by omega, by go_num, rfl, HBs.out.1, by rw [List.length_set]; exact hl8, HW.out.set j HBs.out.2, Lib.hid (fun t ht => by rw [set_getD _ _ _ _ (by omega)]; exact HZ.out t ht), Lib.hid (by rw [HY.out]; exact HSt.out o nw q y rfl HSum.out), by rw [← listA_set]; exact ha.put j _, hx.far (by simp only; omega) _, hy.far (by simp only; omega) _, hr.far (by simp only; omega) _, below_put hB (by omega) _ _⟩
          case measure => simp [intOf]; omega
        · obtain rfl : k = 4 := by omega
          have hi4 : i + 4 < al.length := by omega
          have ca := (ha.cell (i + 4)).trans (listA_at al (i + 4) hi4)
          have fa := ha.frozen (i + 4)
          have HR := Lib.hid (row_step hi4 (HZ.out (i + 4) (Nat.le_refl _)) (by
            have h := HV.out
            rw [List.take_of_length_le (show ys.length ≤ 4 by omega), hnv.out] at h
            exact h))
          have hji : IntKind.i64.wrap ((i : Int) + 4) = (i : Int) + 4 := by rw [IntWalk.i64_in _ (by omega)]
          generalize al.getD (i + 4) 0 = o at ca
          clear HV
          go_wp2_with fail
          go_roundw
          case rel => exact ⟨i + 1, al.set (i + 4) c, by omega, by go_num, by rw [List.length_set]; exact hl8, hw.set _ hc, (fun t ht => by rw [set_getD _ _ _ _ (by omega)]; exact HZ.out t (by omega)), Lib.hid (by rw [HX.out]; exact HR.out), by rw [← listA_set]; exact ha.put (i + 4) _, hx.far (by simp only; omega) _, hy.far (by simp only; omega) _, hr.far (by simp only; omega) _, below_put hB (by omega) _ _⟩
          case measure => simp [intOf]; omega
    · obtain rfl : i = 4 := by omega
      rw [show ((4 : Nat) : Int) = 4 from rfl]
      have hmn : valK al = m * n := by
        have h := HV.out
        rwa [List.take_of_length_le (by omega), hmv.out] at h
      have HMN := Lib.hid hmn
      have HW := Lib.hid hw
      have hLw := HW.out
      have HL := Lib.hid (fun (w : World) g (hd : Wrd w g 0 al) (hT : Tab w) => long_any al g 0 8 w (by omega) hLw hd hT)
      rw [hmn, hl8] at HL
      have hd := lies_wrd ha
      have hT := hT0.out.on hB
      obtain ⟨V, hV⟩ : ∃ V, m * n % l25 = V := ⟨_, rfl⟩
      rw [hV] at HL
      have HV2 := Lib.hid hV
      clear hV
      clear hw hz HV hx hy hmn hma hna wm wn hml hnl hmv hnv HMN HW hLw ha hl8
      go_wp2_with (first
        | (go_at_call 91; refine (HL.out _ _ hd hT).mono ?_; rintro e w3 ⟨rfl, hb⟩; replace hr := hr.on hb; replace hB := below_on hB hb; clear hb)
        | ((with_reducible refine wpL_store (W.heap.size + 1 + 1) 67 _ (feA V) 4 rowFe rfl (feA_size _) (feA_one _) hr ?_ ?_ ?_); rfl; rfl))
      exact bodyPost_ret (results_row Tryz.results59 rowFe (feA_size _) (hr.row _) rfl) rfl ⟨by rw [HV2.out], below_rowSet hB (by omega) _⟩
end Go.Proofs.YtmekmlgpkbfjpaaGreatDoor.G

/- The contract of the scalars' Least. -/
namespace Go.Proofs.YtmekmlgpkbfjpaaGreatDoor.G
open Go.Proofs.YtmekmlgpkbfjpaaGreatDoor.F
open Go.RowKit Go.Sort
attribute [local irreducible] feA
set_option maxRecDepth 100000 in
set_option maxHeartbeats 800000 in
theorem sLeast_any (n : Nat) (W : World) (hn : n < K256) (hT : Tab W) :
    Calls Tryz.prog 63 #[fe n] W fun e w' => e = .returned (fe (n % l25)) ∧ Below W.heap.size W w' := by
  have HL := Lib.hid (fun (w : World) g (hd : Wrd w g 0 (wordsL n)) (hT : Tab w) => long_any (wordsL n) g 0 4 w (show 4 ≤ 100 by decide) (wordsL_wd n) hd hT)
  rw [wordsL_val hn, show (wordsL n).length = 4 from rfl] at HL
  have hA := Lib.hid (feA_wordsL n)
  generalize wordsL n = l at *
  generalize n % l25 = V at *
  go_enter Tryz.func63, Tryz.ntmps63
  have hz := (Lies.new W 67 (feA n)).alloc (.cells fe0A 67)
  have hr : Lies ((W.alloc (.cells (feA n) 67)).alloc (.cells fe0A 67)) (W.heap.size + 1) 67 fe0A := heap_alloc2_new W _ _
  have hB := ((Below.refl W.heap.size W).alloc (Nat.le_refl _) (.cells (feA n) 67)).alloc (by simp) (.cells fe0A 67)
  go_upto_region 1 with fail
  generalize World.alloc (World.alloc W _) _ = w0 at *
  replace hT := hT.on hB
  rw [hA.out] at hz
  have hd := lies_wrd hz
  clear hA
  go_wp2_with (first
    | (go_at_call 91; refine (HL.out _ _ hd hT).mono ?_; rintro e w1 ⟨rfl, hb⟩; replace hr := hr.on hb; replace hB := below_on hB hb; clear hb)
    | ((with_reducible refine wpL_store (W.heap.size + 1) 67 _ (feA V) 4 rowFe rfl (feA_size _) (feA_one _) hr ?_ ?_ ?_); rfl; rfl))
  exact bodyPost_ret (results_row Tryz.results63 rowFe (feA_size _) (hr.row _) rfl) rfl ⟨rfl, below_rowSet hB (by omega) _⟩

end Go.Proofs.YtmekmlgpkbfjpaaGreatDoor.G

/- The contracts of the scalars' Bytes, read and Wide. -/
namespace Go.Proofs.YtmekmlgpkbfjpaaGreatDoor.G
open Go.Proofs.YtmekmlgpkbfjpaaGreatDoor.F
set_option maxRecDepth 100000
open Go.RowKit Go.Sort
attribute [local irreducible] feA
theorem wordsL_nth (n q : Nat) (h : q < 4) : (wordsL n).getD q 0 = wordN n q := by
  match q, h with
  | 0, _ | 1, _ | 2, _ | 3, _ => rfl
/-- some bytes, zeros behind them -/
def byA (l : List UInt8) (n : Nat) : Array Value := (Lib.byteCells l ++ List.replicate (n - l.length) (Value.int .u8 0)).toArray
abbrev z32A : Array Value := #[.int .u8 0, .int .u8 0, .int .u8 0, .int .u8 0, .int .u8 0, .int .u8 0, .int .u8 0, .int .u8 0, .int .u8 0, .int .u8 0, .int .u8 0, .int .u8 0, .int .u8 0, .int .u8 0, .int .u8 0, .int .u8 0, .int .u8 0, .int .u8 0, .int .u8 0, .int .u8 0, .int .u8 0, .int .u8 0, .int .u8 0, .int .u8 0, .int .u8 0, .int .u8 0, .int .u8 0, .int .u8 0, .int .u8 0, .int .u8 0, .int .u8 0, .int .u8 0]
theorem byA_set (l : List UInt8) (n i : Nat) (b : UInt8) (v : Value) (hv : v = Value.int .u8 (b.toNat : Int)) (hl : l.length = i) (hi : i < n) : (byA l n).setIfInBounds i v = byA (l ++ [b]) n := by
  unfold byA
  rw [List.setIfInBounds_toArray, hv]
  congr 1
  obtain ⟨m, hm⟩ : ∃ m, n - l.length = m + 1 := ⟨n - l.length - 1, by omega⟩
  have hc : (Lib.byteCells l).length = i := by simp [Lib.byteCells, hl]
  rw [hm, List.set_append_right _ _ (by omega), hc, Nat.sub_self, List.replicate_succ, List.set_cons_zero, List.length_append, List.length_singleton, show n - (l.length + 1) = m by omega, Lib.byteCells_append, List.append_assoc]
  rfl
theorem byA_at (l : List UInt8) (n i : Nat) (hi : i < n) : ∃ v, (byA l n)[i]? = some v := by
  unfold byA
  rw [List.getElem?_toArray]
  by_cases h : i < l.length
  · exact ⟨_, List.getElem?_eq_getElem (by simp [Lib.byteCells]; omega)⟩
  · exact ⟨_, List.getElem?_eq_getElem (by simp [Lib.byteCells]; omega)⟩
theorem byA_full (l : List UInt8) (n i : Nat) (hl : l.length = n) (hi : i < n) : (byA l n)[i]? = some (Value.int .u8 ((l[i]'(by omega)).toNat : Int)) := by
  subst hl
  unfold byA
  rw [List.getElem?_toArray, Nat.sub_self, List.replicate_zero, List.append_nil, Lib.byteCells, List.getElem?_map, List.getElem?_eq_getElem hi]
  rfl

theorem byte_cast (X r : Nat) : IntKind.u8.wrap ((X : Int) / 2 ^ (8 * r)) = (((X / 2 ^ (8 * r) % 256).toUInt8.toNat : Nat) : Int) := by
  have e2 : (X : Int) / 2 ^ (8 * r) = ((X / 2 ^ (8 * r) : Nat) : Int) := by rw [Int.natCast_ediv, Int.natCast_pow]; rfl
  have h : (X / 2 ^ (8 * r) % 256).toUInt8.toNat = X / 2 ^ (8 * r) % 256 := by rw [Nat.toUInt8, UInt8.toNat_ofNat']; omega
  rw [e2, h, IntKind.wrap_u8]
  omega

theorem fe0A_one : Ones fe0A := by unfold Ones; simp [Value.oneCell']
set_option maxRecDepth 100000 in
set_option maxHeartbeats 800000 in
theorem sBytes_any (n : Nat) (W : World) (hn : n < K256) (hT : Tab W) :
    Calls Tryz.prog 57 #[fe n] W fun e w' => e = .returned (.string ⟨(leL (n % l25) 32).toArray⟩) ∧ Below W.heap.size W w' := by
  have HL := Lib.hid (fun w hT => sLeast_any n w hn hT)
  generalize n % l25 = N at *
  go_enter Tryz.func57, Tryz.ntmps57
  have hz := Lies.new W 67 (feA n)
  have hB := (Below.refl W.heap.size W).alloc (Nat.le_refl _) (.cells (feA n) 67)
  go_upto_region 1 with fail
  generalize World.alloc W _ = w0 at *
  replace hT := hT.on hB
  go_upto_region 2 with (first
    | ((with_reducible refine wpL_load W.heap.size 67 (feA n) 4 rowFe (feA_size _) hz ?_ ?_); rfl)
    | (go_at_call 63; refine (HL.out _ hT).mono ?_; rintro e w1 ⟨rfl, hb⟩; replace hz := hz.on hb; replace hB := below_on hB hb; clear hb)
    | ((with_reducible refine wpL_store W.heap.size 67 _ (feA N) 4 rowFe (feA_size _) (feA_size _) (feA_one _) hz ?_ ?_ ?_); rfl; rfl))
  replace hz := hz.row (feA N)
  replace hB := below_rowSet hB (Nat.le_refl _) (feA N)
  generalize World.setRow _ _ _ = w2 at *
  rw [feA_wordsL] at hz
  have hy : Lies (w2.alloc (.cells z32A 137)) w2.heap.size 137 (byA [] 32) := Lies.new w2 _ _
  have hgz : W.heap.size < w2.heap.size := hz.lt
  replace hz := hz.alloc (.cells z32A 137)
  have hsz := hB.size
  replace hB := hB.alloc hsz (.cells z32A 137)
  go_upto_region 3 with fail
  generalize World.alloc w2 _ = w3 at *
  generalize w2.heap.size = gb at *
  clear HL hT
  go_wp2_with fail
  go_loopw [7] (fun ix wr => ∃ k : Nat, k ≤ 32 ∧ ix = .int .i64 (k : Int) ∧ Lies wr gb 137 (byA (leL N k) 32) ∧ Lies wr W.heap.size 67 ((wordsL N).map w64).toArray ∧ Below W.heap.size W wr) (fun ix _ => 32 - (intOf ix).toNat)
  case atStart => exact ⟨0, by omega, rfl, hy, hz, hB⟩
  case round =>
    clear hy hz hB
    obtain ⟨k, hk, rfl, hy, hz, hB⟩ := hrel
    by_cases hlt : k < 32
    · obtain ⟨q, hq⟩ : ∃ q, k / 8 = q := ⟨_, rfl⟩
      obtain ⟨r, hr⟩ : ∃ r, k % 8 = r := ⟨_, rfl⟩
      have hq4 : q < 4 := by omega
      have cx := (hz.cell q).trans (listA_at (wordsL N) q hq4)
      have hW := word_byte N k
      rw [hq, hr, ← wordsL_nth N q hq4] at hW
      generalize (wordsL N).getD q 0 = X at *
      have hby := byte_cast X r
      rw [hW] at hby
      have HS := Lib.hid (leL_succ N k)
      generalize (N / 256 ^ k % 256).toUInt8 = B at *
      have HA := Lib.hid (byA_set (leL N k) 32 k B _ rfl (leL_length N k) hlt)
      obtain ⟨vo, hvo⟩ := byA_at (leL N k) 32 k hlt
      have cy := (hy.cell k).trans hvo
      have fy := hy.frozen k
      have hki : (k : Int) < 32 := by omega
      have hqi : Int.tdiv (k : Int) 8 = (q : Int) := by rw [Int.tdiv_eq_ediv_of_nonneg (by omega)]; omega
      have hri : Int.tmod (k : Int) 8 = (r : Int) := by rw [Int.tmod_eq_emod_of_nonneg (by omega)]; omega
      have hqe : (k : Int) / 8 = (q : Int) := by omega
      have hre : (k : Int) % 8 = (r : Int) := by omega
      clear hvo hW hq hr
      go_wp2_with fail
      go_roundw
      case rel => exact ⟨k + 1, by omega, by go_num, by rw [HS.out, ← HA.out]; exact hy.put k _, hz.far (by simp only; omega) _, below_put hB (by omega) _ _⟩
      case measure => simp [intOf]; omega
    · obtain rfl : k = 32 := by omega
      rw [show ((32 : Nat) : Int) = 32 from rfl]
      have hcv : (convert 71 9 (.slice (some ⟨gb, 0, none⟩) 32 32)).run Tryz.prog wr = .ok (.string ⟨(leL N 32).toArray⟩) wr := by
        have h := run_convert_bytes_back (P := Tryz.prog) wr 71 9 5 ⟨gb, 0, none⟩ 32 (leL N 32) Tryz.underlying71 Tryz.underlying5 Tryz.underlying9 (by
          intro j hj
          rw [Addr.add_mid, Nat.zero_add]
          rw [leL_length] at hj
          exact (hy.cell j).trans (byA_full _ _ j (leL_length N 32) hj))
        rw [leL_length] at h
        exact h
      clear hy hz
      go_wp2_with fail
      go_ret
      exact ⟨rfl, hB⟩

theorem or_cast (a b r : Nat) (ha : a < 256 ^ r) (hb : b < 256) (hr : r < 8) : bits BinOp.or IntKind.u64 (a : Int) (IntKind.u64.wrap ((b : Int) * 2 ^ (8 * r))) = ((a + b * 256 ^ r : Nat) : Int) := by
  obtain ⟨h1, h2, h3⟩ := or_byte a b r ha hb hr
  have e2 : (b : Int) * 2 ^ (8 * r) = ((b * 2 ^ (8 * r) : Nat) : Int) := by rw [Int.natCast_mul, Int.natCast_pow]; rfl
  have e3 : IntKind.u64.wrap ((b * 2 ^ (8 * r) : Nat) : Int) = ((b * 2 ^ (8 * r) : Nat) : Int) := by rw [IntKind.wrap_u64]; omega
  rw [e2, e3, u64_or_nat _ _ (by omega) h2, h1]

/-- one byte more, in eight words -/
theorem put_byte8 (l : List Nat) (i b : Nat) (hl : l.length = 8) (hi : i < 64) (hv : valK l < 256 ^ i) :
    l.getD (i / 8) 0 < 256 ^ (i % 8) ∧ valK (l.set (i / 8) (l.getD (i / 8) 0 + b * 256 ^ (i % 8))) = valK l + 256 ^ i * b := by
  have e : (256 : Nat) ^ i = 18446744073709551616 ^ (i / 8) * 256 ^ (i % 8) := by
    rw [show (18446744073709551616 : Nat) = 256 ^ 8 by decide, ← Nat.pow_mul, ← Nat.pow_add, Nat.div_add_mod]
  constructor
  · have h1 := valK_at_le l (i / 8)
    rw [e] at hv
    exact Nat.lt_of_mul_lt_mul_left (Nat.lt_of_le_of_lt h1 hv)
  · have h1 := valK_set l (i / 8) (l.getD (i / 8) 0 + b * 256 ^ (i % 8)) (by omega)
    rw [e]
    rw [Nat.mul_add] at h1
    have h2 : 18446744073709551616 ^ (i / 8) * (b * 256 ^ (i % 8)) = 18446744073709551616 ^ (i / 8) * 256 ^ (i % 8) * b := by
      rw [Nat.mul_comm b, Nat.mul_assoc]
    omega
theorem row8 : RowT Tryz.prog 106 8 := ⟨⟨_, Tryz.underlying106, rfl⟩, by kernel_rfl⟩
theorem words_one (l : List Nat) : Ones (l.map w64).toArray := ones_of (fun v hv => by
  obtain ⟨x, _, rfl⟩ := List.mem_map.1 hv
  rfl)

set_option maxRecDepth 100000 in
set_option maxHeartbeats 1600000 in
theorem read_any (s : ByteArray) (W : World) (h64 : s.size ≤ 64) :
    Calls Tryz.prog 62 #[.string s] W fun e w' => ∃ l : List Nat, e = .returned (.agg (l.map w64).toArray) ∧ l.length = 8 ∧ Wd l ∧ valK l = numLE s.data.toList ∧ Below W.heap.size W w' := by
  have hl : s.data.toList.length = s.size := by rw [← Lib.size_eq]
  have hS : Hid (∀ i (h : i < s.size), s.data.toList.getD i 0 = s[i]) := Lib.hid (fun i h => by
    rw [List.getD_eq_getElem?_getD, List.getElem?_eq_getElem (by simpa using h)]
    rfl)
  generalize hL : s.data.toList = L at *
  clear hL
  obtain ⟨n, hn⟩ : ∃ n, s.size = n := ⟨_, rfl⟩
  have hni : (s.size : Int) = (n : Int) := by omega
  go_enter Tryz.func62, Tryz.ntmps62
  have hr := Lies.new W 106 z8A
  have hB := (Below.refl W.heap.size W).alloc (Nat.le_refl _) (.cells z8A 106)
  go_upto_region 1 with fail
  generalize World.alloc W _ = w0 at *
  have hz : Lies (w0.alloc (.cells z8A 106)) w0.heap.size 106 (((List.replicate 8 0).map w64).toArray) := Lies.new w0 106 z8A
  have hrlt := hr.lt
  replace hr := hr.alloc (.cells z8A 106)
  have hsz := hB.size
  replace hB := hB.alloc hsz (.cells z8A 106)
  go_upto_region 2 with fail
  generalize World.alloc w0 _ = w1 at *
  generalize w0.heap.size = gx at *
  go_wp2_with fail
  go_loopw [7] (fun ix wr => ∃ (k : Nat) (l : List Nat), k ≤ n ∧ ix = .int .i64 (k : Int) ∧ l.length = 8 ∧ Wd l ∧ Hid (valK l = numLE (L.take k)) ∧ Lies wr gx 106 (l.map w64).toArray ∧ Lies wr W.heap.size 106 z8A ∧ Below W.heap.size W wr) (fun ix _ => n - (intOf ix).toNat)
  case atStart => exact ⟨0, List.replicate 8 0, by omega, rfl, rfl, (fun d hd => by rw [List.mem_replicate] at hd; omega), Lib.hid (by rw [valK_zeros]; rfl), hz, hr, hB⟩
  case round =>
    clear hz hr hB
    obtain ⟨k, l, hk, rfl, hl8, hw, HV, hz, hr, hB⟩ := hrel
    by_cases hltk : k < n
    · obtain ⟨q, hq⟩ : ∃ q, k / 8 = q := ⟨_, rfl⟩
      obtain ⟨r, hrr⟩ : ∃ r, k % 8 = r := ⟨_, rfl⟩
      have hq8 : q < 8 := by omega
      have hr8 : r < 8 := by omega
      have hks : k < s.size := by omega
      have hb8 : (s[k]).toNat < 256 := u8_lt _
      have hnt := numLE_take L k (by omega)
      rw [hS.out k hks] at hnt
      have hvlt : valK l < 256 ^ k := by
        rw [HV.out]
        have h := numLE_lt (L.take k)
        rwa [List.length_take, Nat.min_eq_left (by omega)] at h
      obtain ⟨ha, hput⟩ := put_byte8 l k (s[k]).toNat hl8 (by omega) hvlt
      have cx := (hz.cell q).trans (listA_at l q (by omega))
      have fx := hz.frozen q
      have HP := Lib.hid (fun x => listA_set l q x)
      have HW := Lib.hid hw
      rw [hq, hrr] at ha hput
      have hval := Lib.hid (or_cast (l.getD q 0) (s[k]).toNat r ha hb8 hr8)
      have hax := (or_byte (l.getD q 0) (s[k]).toNat r ha hb8 hr8).2.2
      have HN : Hid (valK (l.set q (l.getD q 0 + (s[k]).toNat * 256 ^ r)) = numLE (L.take (k + 1))) := Lib.hid (by rw [hput, hnt, HV.out])
      generalize l.getD q 0 = a at *
      have hki : (k : Int) < (n : Int) := by omega
      have hqi : Int.tdiv (k : Int) 8 = (q : Int) := by rw [Int.tdiv_eq_ediv_of_nonneg (by omega)]; omega
      have hri : Int.tmod (k : Int) 8 = (r : Int) := by rw [Int.tmod_eq_emod_of_nonneg (by omega)]; omega
      have hqe : (k : Int) / 8 = (q : Int) := by omega
      have hre : (k : Int) % 8 = (r : Int) := by omega
      have hq8i : (q : Int) < 8 := by omega
      have hr8i : (r : Int) < 8 := by omega
      have hksI : (k : Int) < (s.size : Int) := by omega
      have HL8 := Lib.hid hl8
      clear hnt hvlt hput hw HV hq hrr ha hl8
      go_upto_region 5 with fail
      have k0 := cell_regrown cx
      refine wp_region_below_tail 14 (by kernel_rfl) (by kernel_rfl) ?_
      simp only [List.take_succ_cons, List.take_zero, List.drop_succ_cons, List.drop_zero]
      repeat (go_big_quiet_step (fail))
      refine wpQuiet_nil ?_
      intro w3 hw3
      rw [hval.out]
      have hb : Below wr.heap.size wr w3 := by obtain ⟨⟨dq, osq⟩, rfl⟩ := hw3; exact below_regrown wr dq osq
      clear hw3 k0 hval
      replace hz := hz.on hb
      replace hr := hr.on hb
      replace hB := below_on hB hb
      clear hb cx fx
      have HAX := Lib.hid hax
      clear hax hb8
      generalize a + (s[k]).toNat * 256 ^ r = nv at *
      have cx := (hz.cell q).trans (listA_at l q (by rw [HL8.out]; exact hq8))
      have fx := hz.frozen q
      generalize l.getD q 0 = a2 at cx
      go_wp2_with fail
      go_roundw
      case rel => exact ⟨k + 1, l.set q nv, by omega, by go_num, by rw [List.length_set]; exact HL8.out, HW.out.set q HAX.out, HN, by rw [← HP.out]; exact hz.put q _, hr.far (by simp only; omega) _, below_put hB (by omega) _ _⟩
      case measure => simp [intOf]; omega
    · obtain rfl : k = n := by omega
      have hv := HV.out
      rw [List.take_of_length_le (by omega)] at hv
      have HE := Lib.hid hv
      have HWl := Lib.hid hw
      have HL8 := Lib.hid hl8
      clear HV hv hw hl8
      go_wp2_with (first
        | ((with_reducible refine wpL_load gx 106 ((l.map w64).toArray) 8 row8 (by simp [HL8.out]) hz ?_ ?_); rfl)
        | ((with_reducible refine wpL_store W.heap.size 106 _ ((l.map w64).toArray) 8 row8 rfl (by simp [HL8.out]) (words_one _) hr ?_ ?_ ?_); rfl; rfl))
      exact bodyPost_ret (results_row Tryz.results62 row8 (by simp [HL8.out]) (hr.row _) rfl) rfl ⟨l, rfl, HL8.out, HWl.out, HE.out, below_rowSet hB (Nat.le_refl _) _⟩

set_option maxRecDepth 100000 in
set_option maxHeartbeats 1600000 in
theorem sWide_any (s : ByteArray) (W : World) (hT : Tab W) :
    Calls Tryz.prog 67 #[.string s] W fun e w' =>
      e = .returned (if s.size ≤ 64 then .tuple #[fe (numLE s.data.toList % l25), .int .i64 0] else .tuple #[fe 0, .int .i64 1]) ∧ Below W.heap.size W w' := by
  have hT0 := Lib.hid hT
  clear hT
  have hf0 : fe 0 = .agg fe0A := fe_word 0 (by decide)
  by_cases h64 : s.size ≤ 64
  · rw [if_pos h64]
    have HR := Lib.hid (fun w => read_any s w h64)
    have hi64 : ¬ (64 : Int) < (s.size : Int) := by omega
    obtain ⟨V, hV⟩ : ∃ V, numLE s.data.toList % l25 = V := ⟨_, rfl⟩
    rw [hV]
    have HV := Lib.hid hV
    clear hV
    go_enter Tryz.func67, Tryz.ntmps67
    have hr := Lies.new W 67 fe0A
    have hB := (Below.refl W.heap.size W).alloc (Nat.le_refl _) (.cells fe0A 67)
    go_upto_region 1 with fail
    generalize World.alloc W _ = w0 at *
    go_upto_region 4 with (first
      | (go_at_call 62; refine (HR.out _).mono ?_; rintro e w1 ⟨l, rfl, hl8, hlw, hlv, hb⟩; replace hr := hr.on hb; replace hB := below_on hB hb; clear hb)
      | ((with_reducible refine wpL_store w1.heap.size 106 _ ((l.map w64).toArray) 8 row8 ?_ (by simp [hl8]) (words_one _) (Lies.new w1 _ _) ?_ ?_ ?_); rfl; rfl; rfl))
    have hz := newly_lies w1 106 z8A ((l.map w64).toArray)
    have hnw := newly w1 (.cells z8A 106) ((l.map w64).toArray)
    replace hr := hr.on hnw
    replace hB := below_on hB hnw
    clear hnw
    generalize World.setRow _ _ _ = w2 at *
    generalize w1.heap.size = gz at *
    have HL := Lib.hid (fun (w : World) g (hd : Wrd w g 0 l) (hT : Tab w) => long_any l g 0 8 w (by omega) hlw hd hT)
    rw [hlv, HV.out, hl8] at HL
    have hd := lies_wrd hz
    have hT := hT0.out.on hB
    clear hz hlw hlv hl8
    go_wp2_with (first
      | (go_at_call 91; refine (HL.out _ _ hd hT).mono ?_; rintro e w3 ⟨rfl, hb⟩; replace hr := hr.on hb; replace hB := below_on hB hb; clear hb)
      | ((with_reducible refine wpL_store W.heap.size 67 _ (feA V) 4 rowFe rfl (feA_size _) (feA_one _) hr ?_ ?_ ?_); rfl; rfl))
    exact bodyPost_ret (results_row_tmp Tryz.results67 rowFe (feA_size _) (hr.row _) rfl rfl) rfl ⟨rfl, below_rowSet hB (Nat.le_refl _) _⟩
  · rw [if_neg h64]
    have hi64 : (64 : Int) < (s.size : Int) := by omega
    go_enter Tryz.func67, Tryz.ntmps67
    have hr := Lies.new W 67 fe0A
    have hB := (Below.refl W.heap.size W).alloc (Nat.le_refl _) (.cells fe0A 67)
    go_upto_region 1 with fail
    generalize World.alloc W _ = w0 at *
    go_wp2_with ((with_reducible refine wpL_store W.heap.size 67 _ fe0A 4 rowFe rfl rfl fe0A_one hr ?_ ?_ ?_); rfl; rfl)
    exact bodyPost_ret (results_row_tmp Tryz.results67 rowFe rfl (hr.row fe0A) rfl rfl) rfl ⟨by rw [hf0]; rfl, below_rowSet hB (Nat.le_refl _) _⟩

end Go.Proofs.YtmekmlgpkbfjpaaGreatDoor.G

/- Two of the scalars' numbers are compared. -/
namespace Go.Proofs.YtmekmlgpkbfjpaaGreatDoor.G
open Go.RowKit Go.Sort Go.Proofs.YtmekmlgpkbfjpaaGreatDoor.F

/-! ### two numbers are compared -/
theorem eq_four (d : Nat) (w : World) (a0 a1 a2 a3 b0 b1 b2 b3 : Int) :
    (Op.equalIn (d + 2) 67 (.agg #[.int .u64 a0, .int .u64 a1, .int .u64 a2, .int .u64 a3]) (.agg #[.int .u64 b0, .int .u64 b1, .int .u64 b2, .int .u64 b3])).run Tryz.prog w = .ok (a0 == b0 && a1 == b1 && a2 == b2 && a3 == b3) w := by
  have h1 : ∀ w, (sizeOf 65).run Tryz.prog w = .ok 1 w := fun _ => by kernel_rfl
  have h2 : ∀ w, (isAgg 65).run Tryz.prog w = .ok false w := fun _ => by kernel_rfl
  have h3 : ∀ (a b : Int) w, (Op.equalIn (d + 1) 65 (.int .u64 a) (.int .u64 b)).run Tryz.prog w = .ok (a == b) w := fun a b w => run_equalIn_int w d 65 .u64 .u64 a b Tryz.underlying65
  rw [Op.equalIn]
  simp only [Sem.run_bind, run_underlying Tryz.underlying67, Result.andThen_ok, h1, Std.Legacy.Range.forIn_eq_forIn_range', Std.Legacy.Range.size]
  simp only [Nat.sub_zero, Nat.reduceAdd, Nat.reduceSub, Nat.div_one, List.range', List.forIn_cons, List.forIn_nil]
  simp [part, h2, h3]
  (repeat' split) <;> simp [*]
theorem neq_four (w : World) (a0 a1 a2 a3 b0 b1 b2 b3 : Int) :
    (binOp .neq 67 (.agg #[.int .u64 a0, .int .u64 a1, .int .u64 a2, .int .u64 a3]) (.agg #[.int .u64 b0, .int .u64 b1, .int .u64 b2, .int .u64 b3])).run Tryz.prog w = .ok (.bool (!(a0 == b0 && a1 == b1 && a2 == b2 && a3 == b3))) w := by
  rw [run_neq_struct, eq_four 9998]
  rfl
theorem fe_same (m n : Nat) (hm : m < K256) (hn : n < K256) : (((m % 18446744073709551616 : Nat) : Int) == ((n % 18446744073709551616 : Nat) : Int) && ((m / 18446744073709551616 % 18446744073709551616 : Nat) : Int) == ((n / 18446744073709551616 % 18446744073709551616 : Nat) : Int) && ((m / 340282366920938463463374607431768211456 % 18446744073709551616 : Nat) : Int) == ((n / 340282366920938463463374607431768211456 % 18446744073709551616 : Nat) : Int) && ((m / 6277101735386680763835789423207666416102355444464034512896 % 18446744073709551616 : Nat) : Int) == ((n / 6277101735386680763835789423207666416102355444464034512896 % 18446744073709551616 : Nat) : Int)) = decide (m = n) := by
  unfold K256 at hm hn
  rw [Bool.eq_iff_iff]
  simp only [Bool.and_eq_true, beq_iff_eq, decide_eq_true_eq]
  omega
theorem neq_fe (m n : Nat) (hm : m < K256) (hn : n < K256) (w : World) : (binOp .neq 67 (fe m) (fe n)).run Tryz.prog w = .ok (.bool (!decide (m = n))) w := by
  unfold fe feA
  rw [neq_four, fe_same m n hm hn]
end Go.Proofs.YtmekmlgpkbfjpaaGreatDoor.G

/- The contract of the scalars' Parse. -/
namespace Go.Proofs.YtmekmlgpkbfjpaaGreatDoor.G
open Go.Proofs.YtmekmlgpkbfjpaaGreatDoor.F
set_option maxRecDepth 100000
open Go.RowKit Go.Sort
attribute [local irreducible] feA
theorem neq_exec {o : Oper} {a : Act} {x y : Operand} {r : TypeId} (ho : o.op = .binOp .neq 67 x y r) (m n : Nat) (hm : m < K256) (hn : n < K256) (hx : a.eval x = fe m) (hy : a.eval y = fe n) (w : World) :
    (execOp a.eval o).run Tryz.prog w = .ok (.value (.bool (!decide (m = n)))) w := by
  unfold execOp
  simp only [ho, hx, hy, Sem.run_bind, run_eqGuard_agg (hm := Tryz.eqGuardType67), Result.andThen_ok, neq_fe m n hm hn, Sem.run_pure]

set_option maxRecDepth 100000 in
set_option maxHeartbeats 1600000 in
theorem sParse_any (s : ByteArray) (W : World) (hT : Tab W) :
    Calls Tryz.prog 38 #[.string s] W fun e w' =>
      e = .returned (if s.size = 32 then if numLE s.data.toList < l25 then .tuple #[fe (numLE s.data.toList), .int .i64 0] else .tuple #[fe 0, .int .i64 11] else .tuple #[fe 0, .int .i64 1]) ∧ Below W.heap.size W w' := by
  have hT0 := Lib.hid hT
  clear hT
  have hf0 : fe 0 = .agg fe0A := fe_word 0 (by decide)
  by_cases h32 : s.size = 32
  · rw [if_pos h32]
    have HR := Lib.hid (fun w => read_any s w (by omega))
    have hNK : numLE s.data.toList < K256 := by
      have h := numLE_lt s.data.toList
      rw [show s.data.toList.length = 32 by rw [← Lib.size_eq]; exact h32] at h
      exact h
    obtain ⟨V, hVV⟩ : ∃ V, (if numLE s.data.toList < l25 then Value.tuple #[fe (numLE s.data.toList), .int .i64 0] else .tuple #[fe 0, .int .i64 11]) = V := ⟨_, rfl⟩
    rw [hVV]
    have HVV := Lib.hid hVV
    clear hVV
    generalize numLE s.data.toList = N at *
    have hi32 : (s.size : Int) = 32 := by omega
    go_enter Tryz.func38, Tryz.ntmps38
    have hr := Lies.new W 67 fe0A
    have hB := (Below.refl W.heap.size W).alloc (Nat.le_refl _) (.cells fe0A 67)
    go_upto_region 1 with fail
    generalize World.alloc W _ = w0 at *
    go_upto_region 4 with (first
      | (go_at_call 62; refine (HR.out _).mono ?_; rintro e w1 ⟨l, rfl, hl8, hlw, hlv, hb⟩; replace hr := hr.on hb; replace hB := below_on hB hb; clear hb)
      | ((with_reducible refine wpL_store w1.heap.size 106 _ ((l.map w64).toArray) 8 row8 ?_ (by simp [hl8]) (words_one _) (Lies.new w1 _ _) ?_ ?_ ?_); rfl; rfl; rfl))
    have hz := newly_lies w1 106 z8A ((l.map w64).toArray)
    have hnw := newly w1 (.cells z8A 106) ((l.map w64).toArray)
    replace hr := hr.on hnw
    replace hB := below_on hB hnw
    clear hnw
    generalize World.setRow _ _ _ = w2 at *
    generalize w1.heap.size = gz at *
    have hN4 : valK (l.take 4) = N := by
      have h := valK_append (l.take 4) (l.drop 4)
      rw [List.take_append_drop, hlv, List.length_take, hl8, show min 4 8 = 4 by decide, show (18446744073709551616 : Nat) ^ 4 = K256 by decide] at h
      generalize valK (l.take 4) = A at h
      generalize valK (l.drop 4) = B at h
      unfold K256 at *
      omega
    obtain ⟨h4e, h4K⟩ := words_feA (l.take 4) (by rw [List.length_take, hl8]; rfl) (fun d hd => hlw d (List.mem_of_mem_take hd))
    rw [hN4] at h4e
    have hrg : w2.rangeAt gz 0 (feA N).toList := fun j v hv => by
      rw [Nat.zero_add, hz.cell j]
      rw [← h4e] at hv
      rw [List.getElem?_toArray]
      change ((l.take 4).map w64)[j]? = some v at hv
      rw [List.map_take] at hv
      rw [List.getElem?_take] at hv
      split at hv
      · exact hv
      · cases hv
    clear h4e h4K hN4 hlv hlw hz hl8
    have hAA : ∀ w, (Instr.arrayAt 67 (.slice (some ⟨gz, 0, none⟩) 4 8)).run Tryz.prog w = .ok (.pointer (some ⟨gz, 0, none⟩)) w := fun w => by
      simp [Instr.arrayAt, run_underlying Tryz.underlying67]
    go_upto_region 5 with (first
      | ((with_reducible refine wpL_loadMid gz 0 (feA N).toList 4 rowFe (by rw [Array.length_toList]; exact feA_size _) hrg ?_ ?_); rfl; rw [Array.toArray_toList])
      | ((with_reducible refine wpL_store w2.heap.size 67 _ (feA N) 4 rowFe ?_ (feA_size _) (feA_one _) (Lies.new w2 _ _) ?_ ?_ ?_); rfl; rfl; rfl))
    have hz := newly_lies w2 67 fe0A (feA N)
    have hnw := newly w2 (.cells fe0A 67) (feA N)
    replace hr := hr.on hnw
    replace hB := below_on hB hnw
    clear hnw hrg hAA
    generalize World.setRow _ _ _ = w4 at *
    generalize w2.heap.size = gx at *
    have HL := Lib.hid (fun w hT => sLeast_any N w hNK hT)
    have hcase : Hid ((N < l25 ∧ N % l25 = N) ∨ (¬ N < l25 ∧ N % l25 ≠ N)) := Lib.hid (by
      by_cases h : N < l25
      · exact .inl ⟨h, Nat.mod_eq_of_lt h⟩
      · refine .inr ⟨h, fun e => h ?_⟩
        rw [← e]
        exact Nat.mod_lt _ l25_pos)
    have hmK := modL_K N
    generalize N % l25 = M at *
    have hT := hT0.out.on hB
    refine wp_region_all (by kernel_rfl) (by kernel_rfl) ?_
    refine wpQB_sc gx N hz rfl ?_
    simp only [Act.put, List.setIfInBounds_toArray, List.set_cons_succ, List.set_cons_zero]
    refine wpQB_call 63 #[fe N] (fe M) rfl rfl (fun _ => by kernel_rfl) (fun w hb => HL.out w (hT.on hb)) ?_
    simp only [Act.put, List.setIfInBounds_toArray, List.set_cons_succ, List.set_cons_zero]
    refine wpQB_sc gx N hz rfl ?_
    simp only [Act.put, List.setIfInBounds_toArray, List.set_cons_succ, List.set_cons_zero]
    refine wpQB_run (.bool (!decide (M = N))) rfl (fun w _ => neq_exec rfl M N hmK hNK rfl rfl w) ?_
    simp only [Act.put, List.setIfInBounds_toArray, List.set_cons_succ, List.set_cons_zero]
    refine wpQB_nil ?_
    intro w5 hb
    replace hz := hz.on hb
    replace hr := hr.on hb
    replace hB := below_on hB hb
    clear hb hT HL
    rcases hcase.out with ⟨h1, h2⟩ | ⟨h1, h2⟩
    · rw [decide_eq_true h2]
      have HR : Hid (V = .tuple #[fe N, .int .i64 0]) := Lib.hid (by rw [← HVV.out, if_pos h1])
      clear h1 h2 hcase
      go_wp2_with (first
        | ((with_reducible refine wpL_load gx 67 (feA N) 4 rowFe (feA_size _) hz ?_ ?_); rfl)
        | ((with_reducible refine wpL_store W.heap.size 67 _ (feA N) 4 rowFe rfl (feA_size _) (feA_one _) hr ?_ ?_ ?_); rfl; rfl))
      exact bodyPost_ret (results_row_tmp Tryz.results38 rowFe (feA_size _) (hr.row (feA N)) rfl rfl) rfl ⟨by rw [HR.out]; rfl, below_rowSet hB (Nat.le_refl _) _⟩
    · rw [decide_eq_false h2]
      have HR : Hid (V = .tuple #[fe 0, .int .i64 11]) := Lib.hid (by rw [← HVV.out, if_neg h1])
      clear h1 h2 hcase
      go_wp2_with ((with_reducible refine wpL_store W.heap.size 67 _ fe0A 4 rowFe rfl rfl fe0A_one hr ?_ ?_ ?_); rfl; rfl)
      exact bodyPost_ret (results_row_tmp Tryz.results38 rowFe rfl (hr.row fe0A) rfl rfl) rfl ⟨by rw [HR.out, hf0]; rfl, below_rowSet hB (Nat.le_refl _) _⟩
  · rw [if_neg h32]
    have hi32 : ¬ (s.size : Int) = 32 := by omega
    go_enter Tryz.func38, Tryz.ntmps38
    have hr := Lies.new W 67 fe0A
    have hB := (Below.refl W.heap.size W).alloc (Nat.le_refl _) (.cells fe0A 67)
    go_upto_region 1 with fail
    generalize World.alloc W _ = w0 at *
    go_wp2_with ((with_reducible refine wpL_store W.heap.size 67 _ fe0A 4 rowFe rfl rfl fe0A_one hr ?_ ?_ ?_); rfl; rfl)
    exact bodyPost_ret (results_row_tmp Tryz.results38 rowFe rfl (hr.row fe0A) rfl rfl) rfl ⟨by rw [hf0]; rfl, below_rowSet hB (Nat.le_refl _) _⟩
end Go.Proofs.YtmekmlgpkbfjpaaGreatDoor.G

