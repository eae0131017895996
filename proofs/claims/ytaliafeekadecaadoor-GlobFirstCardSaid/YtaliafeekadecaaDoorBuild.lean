/- The contracts of the text builder's calls that this program makes: what each writes, at a builder of the call's own. -/
import Derived.Test.YtaliafeekadecaaDoorShelf
import Derived.Test.YtaliafeekadecaaDoorBase
import Derived.Lib.Builder
import Derived.Lib.AppendStr
import Derived.Laws.Externs
namespace Go.Proofs.YtaliafeekadecaaDoor
open Go.RowKit

/-! ### 'copyCheck': the builder's first cell holds its own address -/
abbrev home (b : Nat) : Value := .pointer (some ⟨b, 0, none⟩)
theorem sizeB : (Tryd.prog.info? 47).map (·.size) = some 2 := by kernel_rfl
theorem liesB : liesAt Tryd.prog Tryd.prog.depth 47 (2 / Tryd.prog.cellsOf 47) 0 47 1 = true := by kernel_rfl
theorem escape (x : Value) (w : World) : (callFunc 59 #[x]).run Tryd.prog w = .ok (.value x) w := by
  rw [run_callFunc_extern Tryd.func59 (by kernel_rfl) (by kernel_rfl) (by kernel_rfl) (e := Extern.AbiNoEscape.same) (by kernel_rfl), Lib.run_noEscape]
  rfl

set_option maxHeartbeats 1000000 in
theorem check_again (b : Nat) (w : World) (held : w.cell? ⟨b, 0, none⟩ = some (home b)) : Calls Tryd.prog 47 #[home b] w fun e w' => e = .returned (.tuple #[]) ∧ w = w' := by
  obtain ⟨j, hj, _⟩ := Option.map_eq_some_iff.1 sizeB
  have own_eq := Lib.run_neq_ptr_same (P := Tryd.prog) w ⟨b, 0, none⟩ Tryd.underlying44 hj
  go_enter Tryd.func47, Tryd.ntmps47
  go_wp2
  go_end0
  exact ⟨rfl, rfl⟩

set_option maxHeartbeats 1000000 in
theorem check_first (b : Nat) (w : World) (held : w.cell? ⟨b, 0, none⟩ = some (.pointer none)) (hsh : w.shape? b = some (47, 2)) (hfz : w.frozen? ⟨b, 0, none⟩ = false) :
    Calls Tryd.prog 47 #[home b] w fun e w' => e = .returned (.tuple #[]) ∧ w.setCell ⟨b, 0, none⟩ (home b) = w' := by
  obtain ⟨j, hj, hjs⟩ := Option.map_eq_some_iff.1 sizeB
  have there := Lib.run_to_unsafe (P := Tryd.prog) w ⟨b, 0, none⟩ Tryd.underlying44 Tryd.underlying82 hj (by omega) hsh (by show 0 < 2; omega)
  have across := escape (home b) w
  have back := Lib.run_from_unsafe (P := Tryd.prog) w ⟨b, 0, none⟩ Tryd.underlying82 Tryd.underlying44 hj hsh liesB
  clear hjs
  go_enter Tryd.func47, Tryd.ntmps47
  go_wp2
  go_end0
  exact ⟨rfl, rfl⟩

/-- whichever way: behind it the builder is in use -/
theorem check_any (B b : Nat) (bs : List Value) (w : World) (h : Lib.IsBuilder 47 5 B b bs w) :
    Calls Tryd.prog 47 #[home b] w fun e w' => e = .returned (.tuple #[]) ∧ Lib.BuilderAt 47 5 B b (home b) bs w' ∧ Below B w w' := by
  cases h with
  | inl new => exact (check_first b w new.cell0 new.shape new.frozen0).mono fun e w' ⟨he, hw⟩ => ⟨he, hw ▸ new.used (home b), hw ▸ (Below.refl B w).setCell (p := ⟨b, 0, none⟩) new.1 _⟩
  | inr old => exact (check_again b w old.cell0).mono fun e w' ⟨he, hw⟩ => ⟨he, hw ▸ old, hw ▸ Below.refl B w⟩

/-! ### 'WriteString' -/
/-- what stands in the builder's block behind an append to its buffer, and what a store of the new buffer makes of it -/
theorem grown_in {B b n : Nat} {v v' : Value} {ys : List Value} {w1 w2 : World} (hB : B ≤ b) (hbk : w1.heap[b]? = some (.cells #[home b, v] 47 (0, 0))) (hne : v.ownBlock ≠ some b)
    (hgrow : w1.grownBy w2 v.ownBlock) (hown : w2.ownsRow B 5 1 v' n ys) :
    w2.cell? ⟨b, 0, none⟩ = some (home b) ∧ w2.cell? ⟨b, 1, none⟩ = some v ∧ w2.frozen? ⟨b, 1, none⟩ = false ∧ Lib.BuilderAt 47 5 B b (home b) ys (w2.setCell ⟨b, 1, none⟩ v') := by
  have hlt : b < w1.heap.size := (Array.getElem?_eq_some_iff.1 hbk).1
  have hk : w2.heap[b]? = some (.cells #[home b, v] 47 (0, 0)) := (hgrow.block b hlt (Ne.symm hne)).trans hbk
  have hn : ys.length = n := by simpa using hown.1
  subst hn
  exact ⟨Lib.cell_of_heap hk 0, Lib.cell_of_heap hk 1, Lib.frozen_of_heap hk 1, Lib.BuilderAt.put hB hk hown (by decide)⟩

set_option maxHeartbeats 2000000 in
set_option maxRecDepth 100000 in
theorem write_any (B b : Nat) (bs : List Value) (s : ByteArray) (w : World) (h : Lib.IsBuilder 47 5 B b bs w) (hlen : bs.length + s.size ≤ 200000000) (hBw : B ≤ w.heap.size) :
    Calls Tryd.prog 32 #[home b, .string s] w fun e w' => e = .returned (.tuple #[.int .i64 s.size, .nilIface]) ∧ Lib.BuilderAt 47 5 B b (home b) (bs ++ Lib.strCells s) w' ∧ Below B w w' := by
  obtain ⟨i0, hi, hz0, hz1, hz2⟩ := info_parts info5
  go_enter Tryd.func32, Tryd.ntmps32
  go_wp2_with (go_at_call 47; refine (check_any B b bs _ h).mono ?_)
  rintro e w1 ⟨rfl, ⟨hB, v, hbk, hown, hne⟩, hb1⟩
  have held := Lib.cell_of_heap hbk 0
  have kept := Lib.cell_of_heap hbk 1
  have room := hb1.size
  go_wp2_with (at_builtin; refine Lib.wpList_append_own_string _ rfl _ _ 45 9 rfl B 5 i0 Tryd.underlying45 Tryd.underlying9 hi hz0 hz1 hz2 _ _ _ rfl hown s rfl ?many ?bytes ?base ?_)
  case many => unfold maxLen; omega
  case bytes => omega
  case base => omega
  intro v' w2 hown' hgrow _
  obtain ⟨g0, g1, gf, made⟩ := grown_in hB hbk hne hgrow hown'
  have hb2 := (hb1.grown hgrow (by omega) (fun k hk => (hown.lt k hk).1)).setCell (p := ⟨b, 1, none⟩) hB v'
  have form : ∃ ao n' cap, v' = .slice ao n' cap := by
    rcases hown'.2 with ⟨hv, _⟩ | ⟨g, cap, cur, hv, _⟩ <;> exact ⟨_, _, _, hv⟩
  clear held kept hown hbk hown' hgrow
  obtain ⟨ao, n', cap, rfl⟩ := form
  go_wp2
  go_ret2
  exact ⟨rfl, made, hb2⟩
end Go.Proofs.YtaliafeekadecaaDoor
