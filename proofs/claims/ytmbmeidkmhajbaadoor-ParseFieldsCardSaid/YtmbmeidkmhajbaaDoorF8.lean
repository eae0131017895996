/- Texts that stand on one another, put together: VHand, YLaid, VOpen. -/
import Derived.Test.YtmbmeidkmhajbaaDoorF7
import Derived.Handed
import Derived.LaidMore
import Derived.Lay
import Derived.Lib.LaidTab
import Derived.ProofKit
import Derived.Shelf.Vars
import Derived.Stop.LaidErr
import Derived.Test.YtmbmeidkmhajbaaDoorRows
/- From a walk to a row whose listed variables lie as they are laid, the world's shape kept. Nothing of the program is named here. -/
namespace Go.Proofs.YtmbmeidkmhajbaaDoor.V
open Go
theorem handed_shaped {H : Type} {enc : TypeId × Value → H} {a : Assume} {C : Checked} {os : Os} {f : FuncId} {fn : Func} {s : ChangeSpec} {conds : List PathCond} {apart fresh handsOn again : Bool} {X : World → Array Value → Prop}
    (keeps : ∀ (w w' : World) (args : Array Value), w.heap = w'.heap → X w args → X w' args) (own : ownKnob C.prog.godebug = none) (started : os.Started) (noInit : C.prog.inits.idxOf? f = none) (hfn : C.prog.funcs[f]? = some fn)
    (witness : ∃ (w : World) (tape : Tape) (i : Input), w.os = os ∧ (w.forCall tape i).Shaped C.prog ∧ i.vars = [] ∧ Input.okWide C.prog (w.forCall tape i) .any w.heap.size f i ∧
      ((s.pre enc C.prog fn conds apart (w.forCall tape i).memory i.args ∧ X (w.forCall tape i).memory i.args) ∧ sizedMet enc C.prog fn (OpenSpec.ofChange s) apart (w.forCall tape i).memory i.args) ∧ a.holds C.prog (lone (Frame.enter C.prog f i.args .normal) [] (w.forCall tape i)))
    (walk : ∀ (W : World) (base : Nat) (args : Array Value) (ds gs : List (DataW H)) (before : List MemPlace), (∀ (j : Nat) t v, fn.params[j]? = some t → args[j]? = some v → Value.okWide C.prog W .any base t v) →
      DataW.Whole enc C.prog fn.params.toList s.vars apart W args.toList ds gs before → X W args → W.ShapedOpen C.prog → Calls C.prog f args W fun e W' => ∃ v, e = .returned v ∧ s.post enc C.prog fn apart fresh handsOn again W args v W') :
    ReturnsInHanded a C os f .any (fun w args => (s.pre enc C.prog fn conds apart w args ∧ X w args) ∧ sizedMet enc C.prog fn (OpenSpec.ofChange s) apart w args) (s.post enc C.prog fn apart fresh handsOn again) :=
  returnsInHanded_of_calls own started noInit witness (fun w tape i _ shape _ ok pre _ => by
    obtain ⟨_, _, _, g, hg, _, _, _, _, vals⟩ := ok
    obtain rfl : g = fn := Option.some.inj (hg.symm.trans hfn)
    obtain ⟨⟨⟨ds, gs, before, whole, _⟩, listed⟩, _⟩ := pre
    exact (walk (w.forCall tape i) w.heap.size i.args ds gs before vals (whole.of_heap (by rfl)) (keeps _ _ _ (by rfl) listed) shape).mono fun e W' ⟨v, he, hp⟩ => by
      subst he
      exact ChangeSpec.post_blind hp)
end Go.Proofs.YtmbmeidkmhajbaaDoor.V

/- What the listed variables give; and starts that meet it. -/
namespace Go.Proofs.YtmbmeidkmhajbaaDoor.V
open Go.ChangeShapes Go.WideShapes Go.ChangeAt Go.RowKit
set_option maxRecDepth 100000
abbrev laidS : List (String × DataW Unit) := [("math/bits.deBruijn32tab", Rows.laid_math_bits_deBruijn32tab), ("math/bits.deBruijn64tab", Rows.laid_math_bits_deBruijn64tab), ("internal/strconv.uint64pow10", Rows.laid_internal_strconv_uint64pow10), ("strconv.ErrRange", Rows.laid_strconv_ErrRange), ("strconv.ErrSyntax", Rows.laid_strconv_ErrSyntax)]
theorem g_err : Tryd.prog.globalNamed "strconv.ErrRange" = some 2 := by kernel_rfl
theorem t_err : (Tryd.prog.globals[2]?).map (·.type) = some 71 := by kernel_rfl
theorem c_errS : Tryd.prog.cellsOf 137 = 1 := by kernel_rfl
theorem c_str : Tryd.prog.cellsOf 9 = 1 := by kernel_rfl
theorem star_err : "*" ++ "errors.errorString" = "*errors.errorString" := by decide
theorem row_err (u : TypeId) (h : Tryd.prog.typeName? 3 u = some "*errors.errorString") : u = 135 :=
  typeName_ptr_named (nm := "errors.errorString") (by rw [star_err]; kernel_rfl) (by kernel_rfl) (by decide) u (by rw [star_err]; exact h)
theorem errAt_of {W : World} {r : List (String × DataW Unit)} (h : laidMet Tryd.prog (("strconv.ErrRange", Rows.laid_strconv_ErrRange) :: r) W) : ErrAt W := by
  obtain ⟨a, s, hv, _⟩ := laid_sentinel h g_err t_err Tryd.underlying71 row_err Tryd.underlying135 Tryd.underlying137 rfl rfl Tryd.underlying9 c_errS c_str
  exact ErrAt.of_var hv
theorem errS_of_laid {W : World} (h : laidMetH Tryd.prog laidS W) : ErrAt W := by
  rw [MakeChecks.laidMetH_plain _ _ _ (by kernel_rfl)] at h
  exact errAt_of h.tail.tail.tail
theorem door_metS (os : Os) (args : Array Value) : laidMetH Tryd.prog laidS ((World.laidAll Tryd.prog os laidS).forCall (fun _ _ => 0) ⟨#[], args, []⟩).memory := by
  rw [MakeChecks.laidMetH_plain _ _ _ (by kernel_rfl)]
  exact laidMet_laidAll _ (by kernel_rfl) (by kernel_rfl)
theorem door_shapedS (os : Os) (args : Array Value) : ((World.laidAll Tryd.prog os laidS).forCall (fun _ _ => 0) ⟨#[], args, []⟩).Shaped Tryd.prog := World.shaped_of_ZipB (by kernel_rfl) (by kernel_rfl)
end Go.Proofs.YtmbmeidkmhajbaaDoor.V

/- How a value, and a row of pairs, is opened as an argument. -/
namespace Go.Proofs.YtmbmeidkmhajbaaDoor.V
open Go.ChangeShapes Go.WideShapes Go.ChangeAt Go.RowKit
set_option maxRecDepth 100000

/-- an argument that is a value -/
theorem val_arg {H : Type} {enc : TypeId × Value → H} {W : World} {r : Reach} {b0 : Nat} {v : Value} {d : DataW H} {p : List MemPlace}
    (hv : Value.okWide Tryd.prog W r b0 25 v) (h : DataW.Trod enc Tryd.prog W 0 (fun _ => true) true 25 v d p) :
    ∃ (cs : List Value) (t : VT) (e : Nat), v = .agg cs.toArray ∧ IsV W e cs t := by
  obtain ⟨a, rfl, _⟩ := okWide_struct Tryd.underlying25 hv
  obtain ⟨fuel, hf⟩ := h
  obtain ⟨t, e, ht⟩ := val_open fuel fuel (Nat.le_refl _) _ _ hf
  exact ⟨a.toList, t, e, rfl, ht⟩
/-- one pair: its key, its value's cells, its value -/
structure PairT where
  key : List UInt8
  cells : List Value
  val : VT
instance : Inhabited PairT := ⟨⟨[], [], vt0⟩⟩
def PairT.all (p : PairT) : List Value := str p.key :: p.cells
/-- the slice value v reads as these pairs -/
def Pairs (w : World) (d : Nat) (v : Value) (S : List PairT) : Prop := RowL w 6 v (S.map PairT.all) ∧ ∀ p ∈ S, IsV w d p.cells p.val ∧ p.key.length ≤ maxLen
theorem Pairs.below {w w' : World} {d : Nat} {v : Value} {S : List PairT} (h : Pairs w d v S) (hb : Below w.heap.size w w') : Pairs w' d v S := ⟨h.1.below hb, fun p hp => ⟨(h.2 p hp).1.below hb, (h.2 p hp).2⟩⟩
end Go.Proofs.YtmbmeidkmhajbaaDoor.V

