/- Texts that stand on one another, put together: VSeq, VReg, VText, VKeys, VLess, VRefText, VMay, VFields, VRoom, VStrEq, VMake, YMath, YRead, YMach. -/
import Derived.Test.YtmbmeidkmhajbaaDoorL1
import Derived.Laws.AppendOwn
import Derived.Laws.AppendOwnNone
import Derived.Laws.Slices
import Derived.Lib.Bytealg
import Derived.Lib.QuietBelow
import Derived.Lib.SmallJoins
/- Rows of elements of k cells each: read, owned, cut, and put one behind the other. -/
namespace Go.Proofs.YtmbmeidkmhajbaaDoor.V
set_option maxRecDepth 100000
open Go.RowKit

/-- the slice value v reads as elements of these cells -/
def RowL (w : World) (k : Nat) (v : Value) (css : List (List Value)) : Prop :=
  (∀ cs ∈ css, cs.length = k) ∧ ∃ a c, v = .slice a css.length c ∧ css.length ≤ c ∧ c ≤ maxLen ∧ (a = none → c = 0) ∧ (0 < css.length → ∃ b off, a = some ⟨b, off, none⟩ ∧ ∀ (i : Nat) (cs : List Value), css[i]? = some cs → w.rangeAt b (off + i * k) cs)
theorem RowL.below {w w' : World} {k : Nat} {v : Value} {css : List (List Value)} (h : RowL w k v css) (hb : Below w.heap.size w w') : RowL w' k v css := by
  obtain ⟨h0, a, c, hv, hc, hm, hn, hl⟩ := h
  refine ⟨h0, a, c, hv, hc, hm, hn, fun hpos => ?_⟩
  obtain ⟨b, off, ha, hx⟩ := hl hpos
  exact ⟨b, off, ha, fun i cs hi => range_below hb (hx i cs hi)⟩
theorem RowL.nil (w : World) (k : Nat) : RowL w k (.slice none 0 0) [] := ⟨(fun cs h => by cases h), none, 0, rfl, Nat.le_refl _, Nat.zero_le _, fun _ => rfl, fun h => absurd h (by simp)⟩
theorem RowL.form {w : World} {k : Nat} {v : Value} {css : List (List Value)} (h : RowL w k v css) : ∃ a c, v = .slice a css.length c ∧ css.length ≤ c ∧ c ≤ maxLen ∧ (a = none → c = 0) := by
  obtain ⟨_, a, c, hv, hc, hm, hn, _⟩ := h
  exact ⟨a, c, hv, hc, hm, hn⟩
/-- one element's cells -/
theorem RowL.at {w : World} {k : Nat} {a : Option Addr} {n c : Nat} {css : List (List Value)} (h : RowL w k (.slice a n c) css) {i : Nat} {cs : List Value} (hi : css[i]? = some cs) : ∃ b off, a = some ⟨b, off, none⟩ ∧ w.rangeAt b (off + i * k) cs ∧ cs.length = k := by
  obtain ⟨h0, a', c', hv, hc, hm, hn, hl⟩ := h
  injection hv with e1 e2 e3
  subst e1
  have hlt := (List.getElem?_eq_some_iff.1 hi).1
  obtain ⟨b, off, ha, hx⟩ := hl (by omega)
  exact ⟨b, off, ha, hx i cs hi, h0 cs (List.mem_of_getElem? hi)⟩
/-! ### flat -/
theorem flat_len {k : Nat} : ∀ {css : List (List Value)}, (∀ cs ∈ css, cs.length = k) → css.flatten.length = css.length * k := by
  intro css
  induction css with
  | nil => intro _; simp
  | cons c r ih =>
    intro h
    rw [List.flatten_cons, List.length_append, List.length_cons, ih (fun cs hc => h cs (by simp [hc])), h c (by simp), Nat.succ_mul]
    omega
theorem flat_cells {w : World} {k b : Nat} : ∀ {css : List (List Value)} {off : Nat}, (∀ cs ∈ css, cs.length = k) → (∀ (i : Nat) (cs : List Value), css[i]? = some cs → w.rangeAt b (off + i * k) cs) → ∀ (j : Nat) (u : Value), css.flatten[j]? = some u → w.cell? ⟨b, off + j, none⟩ = some u := by
  intro css
  induction css with
  | nil => intro off _ _ j u h; simp at h
  | cons c r ih =>
    intro off h0 hx j u h
    have hc := h0 c (by simp)
    rw [List.flatten_cons] at h
    by_cases hj : j < c.length
    · rw [List.getElem?_append_left hj] at h
      have := hx 0 c rfl j u h
      simpa using this
    · rw [List.getElem?_append_right (by omega)] at h
      have := ih (off := off + k) (fun cs hcs => h0 cs (by simp [hcs])) (fun i cs hi => by
        have := hx (i + 1) cs (by simpa using hi)
        rw [Nat.succ_mul] at this
        rwa [show off + k + i * k = off + (i * k + k) by omega]) (j - c.length) u h
      rwa [show off + k + (j - c.length) = off + j by omega] at this
theorem flat_at {k : Nat} : ∀ {css : List (List Value)} {i : Nat} {cs : List Value}, (∀ cs ∈ css, cs.length = k) → css[i]? = some cs → ∀ (j : Nat) (u : Value), cs[j]? = some u → css.flatten[i * k + j]? = some u := by
  intro css
  induction css with
  | nil => intro i cs _ h; simp at h
  | cons c r ih =>
    intro i cs h0 h j u hu
    have hc := h0 c (by simp)
    rw [List.flatten_cons]
    cases i with
    | zero =>
      simp at h
      subst h
      have hj := (List.getElem?_eq_some_iff.1 hu).1
      rw [Nat.zero_mul, Nat.zero_add, List.getElem?_append_left hj]
      exact hu
    | succ i =>
      have h2 : r[i]? = some cs := by simpa using h
      rw [Nat.succ_mul, List.getElem?_append_right (by omega)]
      rw [show i * k + k + j - c.length = i * k + j by omega]
      exact ih (fun cs hcs => h0 cs (by simp [hcs])) h2 j u hu
/-- a row that the call owns -/
def OwnL (w : World) (B : Nat) (e : TypeId) (k : Nat) (v : Value) (css : List (List Value)) : Prop := (∀ cs ∈ css, cs.length = k) ∧ w.ownsRow B e k v css.length css.flatten
theorem OwnL.read {w : World} {B : Nat} {e : TypeId} {k : Nat} {v : Value} {css : List (List Value)} (h : OwnL w B e k v css) : RowL w k v css := by
  obtain ⟨h0, ho⟩ := h
  refine ⟨h0, ?_⟩
  rcases ho.2 with ⟨rfl, hn⟩ | ⟨g, cap, cur, rfl, hg, hh, hc, hm, hs, ht⟩
  · exact ⟨none, 0, by rw [hn], by omega, Nat.zero_le _, fun _ => rfl, fun h => by omega⟩
  · refine ⟨some ⟨g, 0, none⟩, cap, rfl, hc, hm, (fun e => by cases e), fun _ => ⟨g, 0, rfl, fun i cs hi j u hu => ?_⟩⟩
    have hf := flat_at h0 hi j u hu
    have hlt : i * k + j < css.length * k := by
      rw [← flat_len h0]
      exact (List.getElem?_eq_some_iff.1 hf).1
    rw [show 0 + i * k + j = i * k + j by omega, ho.cellAt _ hlt, hf]
theorem OwnL.on {w w' : World} {B : Nat} {e : TypeId} {k : Nat} {v : Value} {css : List (List Value)} (h : OwnL w B e k v css) (hb : Below w.heap.size w w') : OwnL w' B e k v css := ⟨h.1, own_on h.2 hb⟩
theorem OwnL.far {w : World} {B g : Nat} {e : TypeId} {k : Nat} {v : Value} {css : List (List Value)} (h : OwnL w B e k v css) (hg : g < B) (i : Nat) (u : Value) : OwnL (w.setCell ⟨g, i, none⟩ u) B e k v css := by
  refine ⟨h.1, h.2.1, ?_⟩
  rcases h.2.2 with hv | ⟨b, cap, cur, hv, hB, hh, hr⟩
  · exact .inl hv
  · exact .inr ⟨b, cap, cur, hv, hB, (Below.heap_setCell _ _ _ _ (show b ≠ g by omega)).trans hh, hr⟩
theorem OwnL.made (w : World) (B : Nat) (e : TypeId) (k : Nat) (hB : B ≤ w.heap.size) : OwnL (w.alloc (.cells #[] e)) B e k (.slice (some ⟨w.heap.size, 0, none⟩) 0 0) [] :=
  ⟨(fun cs h => by cases h), World.ownsRow_made w #[] 0 hB (Nat.zero_le _) (by simp)⟩
theorem OwnL.nil (w : World) (B : Nat) (e : TypeId) (k : Nat) : OwnL w B e k (.slice none 0 0) [] := ⟨(fun cs h => by cases h), World.ownsRow_nil _ _ _ _⟩
theorem OwnL.form {w : World} {B : Nat} {e : TypeId} {k : Nat} {v : Value} {css : List (List Value)} (h : OwnL w B e k v css) : ∃ a c, v = .slice a css.length c ∧ css.length ≤ c ∧ c ≤ maxLen ∧ (a = none → c = 0) := h.read.form
theorem OwnL.lt {w : World} {B : Nat} {e : TypeId} {k : Nat} {v : Value} {css : List (List Value)} (h : OwnL w B e k v css) : ∀ g, v.ownBlock = some g → B ≤ g := fun g hg => (h.2.lt g hg).1
/-! ### cut -/
theorem RowL.take {w : World} {k : Nat} {a : Option Addr} {n c : Nat} {css : List (List Value)} (h : RowL w k (.slice a n c) css) {j : Nat} (hj : j ≤ css.length) : RowL w k (sliced a 0 j c k) (css.take j) := by
  obtain ⟨h0, a', c', hv, hc, hm, hn, hl⟩ := h
  injection hv with e1 e2 e3
  subst e1 e2 e3
  have hlen : (css.take j).length = j := by rw [List.length_take]; omega
  refine ⟨fun cs hcs => h0 cs (List.mem_of_mem_take hcs), (if c = 0 then a else a.map (·.add (0 * k))), c - 0, ?_, by omega, by omega, fun e => ?_, fun hpos => ?_⟩
  · rw [hlen]; unfold sliced; rw [Nat.sub_zero]
  · by_cases h0 : c = 0
    · omega
    · rw [if_neg h0, Option.map_eq_none_iff] at e
      have := hn e; omega
  · obtain ⟨b, off, rfl, hx⟩ := hl (by omega)
    refine ⟨b, off, ?_, fun i cs hi => ?_⟩
    · by_cases h0 : c = 0
      · rw [if_pos h0]
      · rw [if_neg h0, Option.map_some, Addr.add_mid, Nat.zero_mul, Nat.add_zero]
    · rw [List.getElem?_take] at hi
      split at hi
      · exact hx i cs hi
      · cases hi
theorem RowL.drop {w : World} {k : Nat} {a : Option Addr} {n c : Nat} {css : List (List Value)} (h : RowL w k (.slice a n c) css) {j : Nat} (hj : j ≤ css.length) : RowL w k (sliced a j css.length c k) (css.drop j) := by
  obtain ⟨h0, a', c', hv, hc, hm, hn, hl⟩ := h
  injection hv with e1 e2 e3
  subst e1 e2 e3
  refine ⟨fun cs hcs => h0 cs (List.mem_of_mem_drop hcs), (if c = j then a else a.map (·.add (j * k))), c - j, ?_, by rw [List.length_drop]; omega, by omega, fun e => ?_, fun hpos => ?_⟩
  · rw [List.length_drop]; rfl
  · by_cases h0 : c = j
    · omega
    · rw [if_neg h0, Option.map_eq_none_iff] at e
      have := hn e; omega
  · rw [List.length_drop] at hpos
    obtain ⟨b, off, rfl, hx⟩ := hl (by omega)
    refine ⟨b, off + j * k, ?_, fun i cs hi => ?_⟩
    · rw [if_neg (by omega), Option.map_some, Addr.add_mid]
    · rw [List.getElem?_drop] at hi
      have := hx (j + i) cs hi
      rwa [show off + j * k + i * k = off + (j + i) * k by rw [Nat.add_mul]; omega]
/-! ### the walk's steps -/
section
variable {P : Program} {ops : Array Oper} {rest : List Oper} {a : Act} {w : World} {Q : Exit → Act → World → Prop} {t' : TypeId} {pos : String} {after : Array Edge}
/-- elements go behind a row that the call owns -/
theorem wpL_appendL {d : Option Tmp} {x y : Tmp} {ty : TypeId} (B : Nat) (e : TypeId) (i : TypeInfo) (z : Value) (k bytes : Nat) (ht : P.underlying ty = some (.slice e)) (hi : P.info? e = some i) (hz : i.zero = some z) (hsize : i.size = k) (hby : i.bytes = bytes) (hzs : z.cells.size = k) (hk : 0 < k)
    (v : Value) (css : List (List Value)) (hown : OwnL w B e k v css) (v' : Value) (css' : List (List Value)) (hrow : RowL w k v' css') (hu : ∀ u ∈ css'.flatten, u.oneCell' = true) (h63 : css.length + css'.length ≤ maxLen) (hbytes : (css.length + css'.length) * bytes ≤ 140737488355328) (hbase : B ≤ w.heap.size)
    (hs : a.eval (.tmp x) = v) (hx : a.eval (.tmp y) = v')
    (h : ∀ v'' w', OwnL w' B e k v'' (css ++ css') → w.grownBy w' v.ownBlock → wpList P ops Q rest (a.put d v'') w') :
    wpList P ops Q (⟨d, .call { callee := .builtin .append, args := #[.tmp x, .tmp y], argTypes := #[ty, ty] }, t', pos, after, none⟩ :: rest) a w := by
  obtain ⟨h0, ho⟩ := hown
  obtain ⟨h0', av, cv, rfl, hc, hm, hn, hl⟩ := hrow
  have hall : ∀ cs ∈ css ++ css', cs.length = k := fun cs hcs => (List.mem_append.1 hcs).elim (h0 cs) (h0' cs)
  rcases Nat.eq_zero_or_pos css'.length with hz0 | hpos
  · obtain rfl := List.eq_nil_of_length_eq_zero hz0
    cases av with
    | none =>
      obtain rfl := hn rfl
      refine wpList_append_own_none (o := ⟨d, .call { callee := .builtin .append, args := #[.tmp x, .tmp y], argTypes := #[ty, ty] }, t', pos, after, none⟩) rfl _ _ ty rfl B e i k ht hi v css.length css.flatten hs ho hx (h v w ⟨hall, ?_⟩ (World.grownBy.refl w _))
      rw [List.append_nil]; exact ho
    | some ad =>
      refine wpList_append_own (o := ⟨d, .call { callee := .builtin .append, args := #[.tmp x, .tmp y], argTypes := #[ty, ty] }, t', pos, after, none⟩) w rfl _ _ ty rfl B e i z k bytes ht hi hz hsize hby hzs hk v css.length css.flatten hs ho ad 0 cv [] hx (by simp) (fun j u h => by simp at h) (fun u h => by cases h) (by simpa using h63) (by simpa using hbytes) hbase (fun v'' w' h1 h2 _ => h v'' w' ⟨hall, ?_⟩ h2)
      simpa using h1
  · obtain ⟨b, off, rfl, hx2⟩ := hl hpos
    refine wpList_append_own (o := ⟨d, .call { callee := .builtin .append, args := #[.tmp x, .tmp y], argTypes := #[ty, ty] }, t', pos, after, none⟩) w rfl _ _ ty rfl B e i z k bytes ht hi hz hsize hby hzs hk v css.length css.flatten hs ho ⟨b, off, none⟩ css'.length cv css'.flatten hx (flat_len h0') (fun j u hj => ?_) hu h63 hbytes hbase (fun v'' w' h1 h2 _ => h v'' w' ⟨hall, ?_⟩ h2)
    · rw [Addr.add_mid]
      exact flat_cells h0' hx2 j u hj
    · rw [List.length_append, List.flatten_append]; exact h1
/-- whatever gives a value and leaves the world -/
theorem wpL_val {o : Oper} (v : Value) (hg : o.guard = none) (hr : (execOp a.eval o).run P w = .ok (.value v) w) (h : wpList P ops Q rest (a.put o.dst v) w) : wpList P ops Q (o :: rest) a w :=
  wpList_plain hg fun K hK => by
    unfold Oper.wp
    rw [hr]
    exact hK _ _ h
end
end Go.Proofs.YtmbmeidkmhajbaaDoor.V

/- A contract that ends in 'Below', met within a region that draws its order. -/
namespace Go.Proofs.YtmbmeidkmhajbaaDoor.V
open Go.RowKit Go.Sort
theorem reg {f : FuncId} {args : Array Value} {W : World} {v : Value} (h : ∀ w, Below W.heap.size W w → Calls Tryd.prog f args w fun e w' => e = .returned v ∧ Below w.heap.size w w') :
    ∀ d os, Calls Tryd.prog f args (grow (redrawn W d) os) fun e w'' => e = .returned v ∧ ∃ p : Regrown, w'' = grow (redrawn W p.d) p.os := fun d os => Calls.regrown_of (h _ (below_regrown W d os))
end Go.Proofs.YtmbmeidkmhajbaaDoor.V

/- The text of a value, and which may be; values that may be have one text just if they are the same. Nothing of the program is named here. -/
namespace Go.Proofs.YtmbmeidkmhajbaaDoor.V
open Go

/-! ### decimal digits -/
theorem digit_of (k : Nat) (h : k < 10) : (UInt8.ofNat (48 + k)).toNat = 48 + k := by rw [UInt8.toNat_ofNat']; omega
/-- a byte is a digit -/
def isDig (c : UInt8) : Bool := decide (48 ≤ c.toNat) && decide (c.toNat ≤ 57)
def decVal (l : List UInt8) : Nat := l.foldl (fun a c => 10 * a + (c.toNat - 48)) 0
theorem decVal_snoc (l : List UInt8) (c : UInt8) : decVal (l ++ [c]) = 10 * decVal l + (c.toNat - 48) := by unfold decVal; rw [List.foldl_append]; rfl
theorem dec_digits : ∀ (m u : Nat), u ≤ m → (∀ c ∈ Lib.decDigits u, isDig c = true) ∧ decVal (Lib.decDigits u) = u := by
  intro m
  induction m with
  | zero =>
    intro u h
    obtain rfl : u = 0 := by omega
    rw [Lib.decDigits_one (by decide)]
    exact ⟨by decide, by decide⟩
  | succ m ih =>
    intro u h
    by_cases h10 : u < 10
    · rw [Lib.decDigits_one h10]
      have hd := digit_of u h10
      refine ⟨fun c hc => ?_, ?_⟩
      · rw [List.mem_singleton.1 hc]
        unfold isDig
        rw [hd, decide_eq_true (by omega), decide_eq_true (by omega)]
        rfl
      · show decVal ([] ++ [_]) = u
        rw [decVal_snoc, hd]
        show 10 * 0 + _ = u
        omega
    · have e : Lib.decDigits u = Lib.decDigits (u / 10) ++ [UInt8.ofNat (48 + u % 10)] := by rw [Lib.decDigits, dif_neg h10]
      obtain ⟨i1, i2⟩ := ih (u / 10) (by omega)
      have hd := digit_of (u % 10) (by omega)
      rw [e]
      refine ⟨fun c hc => ?_, ?_⟩
      · rcases List.mem_append.1 hc with hc | hc
        · exact i1 c hc
        · rw [List.mem_singleton.1 hc]
          unfold isDig
          rw [hd, decide_eq_true (by omega), decide_eq_true (by omega)]
          rfl
      · rw [decVal_snoc, i2, hd]
        omega
theorem dec_ne (u : Nat) : Lib.decDigits u ≠ [] := by
  intro h
  have := congrArg List.length h
  rw [Lib.decDigits] at this
  split at this
  · simp at this
  · simp at this
/-- what stands behind a number's digits: nothing, or no digit -/
def Delim (r : List UInt8) : Prop := ∀ c t, r = c :: t → isDig c = false
/-- the first byte of a number's text -/
def numHead (c : UInt8) : Prop := c = 45 ∨ isDig c = true
theorem dec_head (u : Nat) : ∃ c t, Lib.decDigits u = c :: t ∧ isDig c = true := by
  cases h : Lib.decDigits u with
  | nil => exact absurd h (dec_ne u)
  | cons c t => exact ⟨c, t, rfl, (dec_digits u u (Nat.le_refl _)).1 c (by rw [h]; simp)⟩
theorem itoa_head (n : Int) : ∃ c t, Lib.itoa n = c :: t ∧ numHead c := by
  unfold Lib.itoa
  split
  · exact ⟨45, _, rfl, .inl rfl⟩
  · obtain ⟨c, t, h, hd⟩ := dec_head n.toNat
    exact ⟨c, t, h, .inr hd⟩
/-! ### texts in quotes -/
def escL : List UInt8 → List UInt8
  | [] => []
  | c :: r => (if c = 34 ∨ c = 92 then [92, c] else [c]) ++ escL r
def quotL (s : List UInt8) : List UInt8 := 34 :: (escL s ++ [34])
/-! ### the text of a value -/
mutual
def VT.wr : VT → List UInt8
  | .mk k n s l ks => if k = 1 then Lib.itoa n else if k = 2 then quotL s else if k = 4 then 123 :: (wrM true l ks ++ [125]) else 91 :: (wrL true l ++ [93])
def wrL : Bool → List VT → List UInt8
  | _, [] => []
  | first, x :: r => (if first then [] else [44]) ++ (x.wr ++ wrL false r)
def wrM : Bool → List VT → List (List UInt8) → List UInt8
  | _, [], _ => []
  | first, x :: r, ks => (if first then [] else [44]) ++ (quotL (ks.headD []) ++ 58 :: (x.wr ++ wrM false r ks.tail))
end
theorem wr_eq (k n : Int) (s : List UInt8) (l : List VT) (ks : List (List UInt8)) : (VT.mk k n s l ks).wr = if k = 1 then Lib.itoa n else if k = 2 then quotL s else if k = 4 then 123 :: (wrM true l ks ++ [125]) else 91 :: (wrL true l ++ [93]) := by rw [VT.wr]
theorem wrL_nil (b : Bool) : wrL b [] = [] := by rw [wrL]
theorem wrL_cons (b : Bool) (x : VT) (r : List VT) : wrL b (x :: r) = (if b then [] else [44]) ++ (x.wr ++ wrL false r) := by rw [wrL]
theorem wrM_nil (b : Bool) (ks : List (List UInt8)) : wrM b [] ks = [] := by rw [wrM]
theorem wrM_cons (b : Bool) (x : VT) (r : List VT) (ks : List (List UInt8)) : wrM b (x :: r) ks = (if b then [] else [44]) ++ (quotL (ks.headD []) ++ 58 :: (x.wr ++ wrM false r ks.tail)) := by rw [wrM]

/-! ### which may be -/
def textOk (s : List UInt8) : Bool := s.all (fun c => decide (32 ≤ c.toNat)) && decide (s.length ≤ 4000)
/-- byte by byte -/
def lessL : List UInt8 → List UInt8 → Bool
  | [], [] => false
  | [], _ :: _ => true
  | _ :: _, [] => false
  | a :: r, b :: s => if a = b then lessL r s else decide (a.toNat < b.toNat)
def keysOk : List (List UInt8) → Bool
  | [] => true
  | [k] => textOk k
  | k :: k' :: r => textOk k && lessL k k' && keysOk (k' :: r)
/-- may a value be, but for its items? -/
def oneB (k n : Int) (s : List UInt8) (m : Nat) (ks : List (List UInt8)) : Bool :=
  (decide (1 ≤ k) && decide (k ≤ 4)) && (decide (k = 1) || decide (n = 0)) && (decide (k = 2) || decide (s = [])) && (decide (3 ≤ k) || decide (m = 0)) && (decide (k = 4) || decide (ks = []))
    && (decide (-1099511627776 ≤ n) && decide (n ≤ 1099511627776)) && textOk s && (decide (k ≠ 4) || decide (ks.length = m)) && keysOk ks
mutual
def VT.each : VT → Bool
  | .mk k n s l ks => eachL l && oneB k n s l.length ks
def eachL : List VT → Bool
  | [] => true
  | x :: r => x.each && eachL r
end
theorem each_eq (k n : Int) (s : List UInt8) (l : List VT) (ks : List (List UInt8)) : (VT.mk k n s l ks).each = (eachL l && oneB k n s l.length ks) := by rw [VT.each]
theorem eachL_nil : eachL [] = true := by rw [eachL]
theorem eachL_cons (x : VT) (r : List VT) : eachL (x :: r) = (x.each && eachL r) := by rw [eachL]
theorem eachL_mem {l : List VT} (h : eachL l = true) {x : VT} (hx : x ∈ l) : x.each = true := by
  induction l with
  | nil => cases hx
  | cons y l ih =>
    rw [eachL_cons, Bool.and_eq_true] at h
    rcases List.mem_cons.1 hx with rfl | hx
    · exact h.1
    · exact ih h.2 hx
def VT.okB (v : VT) : Bool := decide (v.count ≤ 2000) && decide (v.depth ≤ 12) && v.each
theorem one_of {k n : Int} {s : List UInt8} {m : Nat} {ks : List (List UInt8)} (h : oneB k n s m ks = true) :
    (k = 1 ∧ s = [] ∧ m = 0 ∧ ks = []) ∨ (k = 2 ∧ n = 0 ∧ m = 0 ∧ ks = []) ∨ (k = 3 ∧ n = 0 ∧ s = [] ∧ ks = []) ∨ (k = 4 ∧ n = 0 ∧ s = [] ∧ ks.length = m) := by
  unfold oneB at h
  simp only [Bool.and_eq_true, Bool.or_eq_true, decide_eq_true_eq] at h
  obtain ⟨⟨⟨⟨⟨⟨⟨⟨⟨h1, h2⟩, h3⟩, h4⟩, h5⟩, h6⟩, _⟩, _⟩, h7⟩, _⟩ := h
  have hk : k = 1 ∨ k = 2 ∨ k = 3 ∨ k = 4 := by omega
  rcases hk with rfl | rfl | rfl | rfl
  · exact .inl ⟨rfl, h4.resolve_left (by decide), h5.resolve_left (by decide), h6.resolve_left (by decide)⟩
  · exact .inr (.inl ⟨rfl, h3.resolve_left (by decide), h5.resolve_left (by decide), h6.resolve_left (by decide)⟩)
  · exact .inr (.inr (.inl ⟨rfl, h3.resolve_left (by decide), h4.resolve_left (by decide), h6.resolve_left (by decide)⟩))
  · exact .inr (.inr (.inr ⟨rfl, h3.resolve_left (by decide), h4.resolve_left (by decide), h7.resolve_left (by decide)⟩))
/-- the first byte tells the kind -/
theorem wr_head {v : VT} (h : v.each = true) : ∃ c t, v.wr = c :: t ∧ ((v.kind = 1 ∧ numHead c) ∨ (v.kind = 2 ∧ c = 34) ∨ (v.kind = 3 ∧ c = 91) ∨ (v.kind = 4 ∧ c = 123)) := by
  obtain ⟨k, n, s, l, ks⟩ := v
  rw [each_eq, Bool.and_eq_true] at h
  rw [wr_eq]
  rcases one_of h.2 with ⟨rfl, _⟩ | ⟨rfl, _⟩ | ⟨rfl, _⟩ | ⟨rfl, _⟩
  · rw [if_pos rfl]
    obtain ⟨c, t, e, hc⟩ := itoa_head n
    exact ⟨c, t, e, .inl ⟨rfl, hc⟩⟩
  · rw [if_neg (by decide), if_pos rfl]
    exact ⟨34, _, rfl, .inr (.inl ⟨rfl, rfl⟩)⟩
  · rw [if_neg (by decide), if_neg (by decide), if_neg (by decide)]
    exact ⟨91, _, rfl, .inr (.inr (.inl ⟨rfl, rfl⟩))⟩
  · rw [if_neg (by decide), if_neg (by decide), if_pos rfl]
    exact ⟨123, _, rfl, .inr (.inr (.inr ⟨rfl, rfl⟩))⟩
theorem delim_at {c : UInt8} {t : List UInt8} (h : isDig c = false) : Delim (c :: t) := fun d u e => by
  injection e with e1 _
  rw [← e1]; exact h
theorem head_no {v : VT} (h : v.each = true) (r t : List UInt8) (c : UInt8) (hc : c = 93 ∨ c = 125 ∨ c = 44) : v.wr ++ r ≠ c :: t := by
  intro e
  obtain ⟨d, u, hd, hk⟩ := wr_head h
  rw [hd] at e
  injection e with e1 _
  subst e1
  rcases hk with ⟨_, hk⟩ | ⟨_, rfl⟩ | ⟨_, rfl⟩ | ⟨_, rfl⟩
  · rcases hc with rfl | rfl | rfl <;> exact absurd hk (by unfold numHead; decide)
  · exact absurd hc (by decide)
  · exact absurd hc (by decide)
  · exact absurd hc (by decide)
end Go.Proofs.YtmbmeidkmhajbaaDoor.V

/- Keys, place by place. Nothing of the program is named here. -/
namespace Go.Proofs.YtmbmeidkmhajbaaDoor.V
open Go

theorem keysOk_nil : keysOk [] = true := by rw [keysOk]
theorem keysOk_one (k : List UInt8) : keysOk [k] = textOk k := by rw [keysOk]
theorem keysOk_two (k k' : List UInt8) (r : List (List UInt8)) : keysOk (k :: k' :: r) = (textOk k && lessL k k' && keysOk (k' :: r)) := by rw [keysOk]
/-- each may be, and each is greater than the one ahead of it -/
theorem keysOk_iff : ∀ ks : List (List UInt8), keysOk ks = true ↔ (∀ (j : Nat) (k : List UInt8), ks[j]? = some k → textOk k = true) ∧ (∀ (j : Nat) (k k' : List UInt8), ks[j]? = some k → ks[j + 1]? = some k' → lessL k k' = true) := by
  intro ks
  induction ks with
  | nil => rw [keysOk_nil]; simp
  | cons k r ih =>
    cases r with
    | nil =>
      rw [keysOk_one]
      constructor
      · intro h
        refine ⟨fun j x hx => ?_, fun j x y _ hy => ?_⟩
        · cases j with
          | zero => simp at hx; rw [← hx]; exact h
          | succ j => simp at hx
        · simp at hy
      · intro h
        exact h.1 0 k rfl
    | cons k' r =>
      rw [keysOk_two, Bool.and_eq_true, Bool.and_eq_true, ih]
      constructor
      · rintro ⟨⟨h1, h2⟩, h3, h4⟩
        refine ⟨fun j x hx => ?_, fun j x y hx hy => ?_⟩
        · cases j with
          | zero => simp at hx; rw [← hx]; exact h1
          | succ j => exact h3 j x (by simpa using hx)
        · cases j with
          | zero => simp at hx hy; rw [← hx, ← hy]; exact h2
          | succ j => exact h4 j x y (by simpa using hx) (by simpa using hy)
      · rintro ⟨h1, h2⟩
        refine ⟨⟨h1 0 k rfl, h2 0 k k' rfl rfl⟩, fun j x hx => h1 (j + 1) x (by simpa using hx), fun j x y hx hy => h2 (j + 1) x y (by simpa using hx) (by simpa using hy)⟩
/-- the first j of them are so -/
def KeysTo (ks : List (List UInt8)) (j : Nat) : Prop := (∀ (i : Nat) (k : List UInt8), i < j → ks[i]? = some k → textOk k = true) ∧ (∀ (i : Nat) (k k' : List UInt8), i + 1 < j → ks[i]? = some k → ks[i + 1]? = some k' → lessL k k' = true)
theorem KeysTo.zero (ks : List (List UInt8)) : KeysTo ks 0 := ⟨fun i k h => absurd h (by omega), fun i k k' h => absurd h (by omega)⟩
theorem KeysTo.all {ks : List (List UInt8)} (h : KeysTo ks ks.length) : keysOk ks = true :=
  (keysOk_iff ks).2 ⟨fun j k hk => h.1 j k (List.getElem?_eq_some_iff.1 hk).1 hk, fun j k k' hk hk' => h.2 j k k' (List.getElem?_eq_some_iff.1 hk').1 hk hk'⟩
theorem KeysTo.first {ks : List (List UInt8)} {k : List UInt8} (hk : ks[0]? = some k) (ht : textOk k = true) : KeysTo ks 1 := ⟨fun i x hi hx => by
  obtain rfl : i = 0 := by omega
  rw [hk] at hx
  rw [← Option.some.inj hx]; exact ht, fun i x y hi => by omega⟩
theorem KeysTo.next {ks : List (List UInt8)} {j : Nat} {k k' : List UInt8} (h : KeysTo ks (j + 1)) (hk : ks[j]? = some k) (hk' : ks[j + 1]? = some k') (ht : textOk k' = true) (hl : lessL k k' = true) : KeysTo ks (j + 1 + 1) := by
  refine ⟨fun i x hi hx => ?_, fun i x y hi hx hy => ?_⟩
  · rcases Nat.lt_or_ge i (j + 1) with h1 | h1
    · exact h.1 i x h1 hx
    · obtain rfl : i = j + 1 := by omega
      rw [hk'] at hx
      rw [← Option.some.inj hx]; exact ht
  · rcases Nat.lt_or_ge (i + 1) (j + 1) with h1 | h1
    · exact h.2 i x y h1 hx hy
    · obtain rfl : i = j := by omega
      rw [hk] at hx
      rw [hk'] at hy
      rw [← Option.some.inj hx, ← Option.some.inj hy]; exact hl
theorem keysOk_bad {ks : List (List UInt8)} {j : Nat} {k : List UInt8} (hk : ks[j]? = some k) (ht : textOk k = false) : keysOk ks = false := by
  cases h : keysOk ks with
  | false => rfl
  | true => have := ((keysOk_iff ks).1 h).1 j k hk; rw [ht] at this; cases this
theorem keysOk_order {ks : List (List UInt8)} {j : Nat} {k k' : List UInt8} (hk : ks[j]? = some k) (hk' : ks[j + 1]? = some k') (hl : lessL k k' = false) : keysOk ks = false := by
  cases h : keysOk ks with
  | false => rfl
  | true => have := ((keysOk_iff ks).1 h).2 j k k' hk hk'; rw [hl] at this; cases this
end Go.Proofs.YtmbmeidkmhajbaaDoor.V

/- Byte by byte: three ways of saying it. Nothing of the program is named here. -/
namespace Go.Proofs.YtmbmeidkmhajbaaDoor.V
open Go

theorem lessL_same : ∀ x : List UInt8, lessL x x = false := by
  intro x
  induction x with
  | nil => rw [lessL]
  | cons a r ih => rw [lessL, if_pos rfl, ih]
theorem bytesLess_is : ∀ x y : List UInt8, Op.bytesLess x y = lessL x y := by
  intro x
  induction x with
  | nil => intro y; cases y with
    | nil => rw [lessL]; rfl
    | cons b s => rw [lessL]; rfl
  | cons a r ih =>
    intro y
    cases y with
    | nil => rw [lessL]; rfl
    | cons b s =>
      rw [lessL, Op.bytesLess]
      by_cases h : a = b
      · subst h
        rw [if_pos rfl, ih]
        simp
      · rw [if_neg h]
        by_cases h2 : a < b
        · have h3 : a.toNat < b.toNat := UInt8.lt_iff_toNat_lt.1 h2
          simp [h2, h3]
        · have h3 : ¬ a.toNat < b.toNat := fun h => h2 (UInt8.lt_iff_toNat_lt.2 h)
          simp [h2, h3, h]
/-- one of three -/
theorem less_three : ∀ x y : List UInt8, (lessL x y = true ∧ x ≠ y ∧ lessL y x = false) ∨ (x = y ∧ lessL x y = false ∧ lessL y x = false) ∨ (lessL x y = false ∧ x ≠ y ∧ lessL y x = true) := by
  intro x
  induction x with
  | nil => intro y; cases y with
    | nil => exact .inr (.inl ⟨rfl, by rw [lessL], by rw [lessL]⟩)
    | cons b s => exact .inl ⟨by rw [lessL], by simp, by rw [lessL]⟩
  | cons a r ih =>
    intro y
    cases y with
    | nil => exact .inr (.inr ⟨by rw [lessL], by simp, by rw [lessL]⟩)
    | cons b s =>
      rw [lessL, lessL]
      by_cases h : a = b
      · subst h
        rw [if_pos rfl, if_pos rfl]
        rcases ih s with ⟨h1, h2, h3⟩ | ⟨h1, h2, h3⟩ | ⟨h1, h2, h3⟩
        · exact .inl ⟨h1, by simpa using h2, h3⟩
        · exact .inr (.inl ⟨by rw [h1], h2, h3⟩)
        · exact .inr (.inr ⟨h1, by simpa using h2, h3⟩)
      · rw [if_neg h, if_neg (show ¬ b = a from fun e => h e.symm)]
        have hn : a.toNat ≠ b.toNat := fun e => h (UInt8.toNat_inj.1 e)
        have hne : a :: r ≠ b :: s := fun e => h (List.cons.inj e).1
        rcases Nat.lt_or_ge a.toNat b.toNat with h1 | h1
        · exact .inl ⟨decide_eq_true h1, hne, decide_eq_false (by omega)⟩
        · exact .inr (.inr ⟨decide_eq_false (by omega), hne, decide_eq_true (by omega)⟩)
theorem less_trans : ∀ x y z : List UInt8, lessL x y = true → lessL y z = true → lessL x z = true := by
  intro x
  induction x with
  | nil => intro y z h1 h2; cases z with
    | nil => cases y <;> simp [lessL] at h2
    | cons c t => rw [lessL]
  | cons a r ih =>
    intro y z h1 h2
    cases y with
    | nil => simp [lessL] at h1
    | cons b s =>
      cases z with
      | nil => simp [lessL] at h2
      | cons c t =>
        rw [lessL] at h1 h2 ⊢
        by_cases e1 : a = b
        · subst e1
          rw [if_pos rfl] at h1
          by_cases e2 : a = c
          · subst e2
            rw [if_pos rfl] at h2 ⊢
            exact ih s t h1 h2
          · rw [if_neg e2] at h2 ⊢
            exact h2
        · rw [if_neg e1] at h1
          by_cases e2 : b = c
          · subst e2
            rw [if_neg e1]
            exact h1
          · rw [if_neg e2] at h2
            have h1 := of_decide_eq_true h1
            have h2 := of_decide_eq_true h2
            have e3 : a ≠ c := fun e => by subst e; omega
            rw [if_neg e3]
            exact decide_eq_true (by omega)
theorem less_leq {x y : List UInt8} (h : Op.bytesLess x y = true ∨ (x == y) = true) : lessL y x = false := by
  rw [bytesLess_is] at h
  rcases less_three x y with ⟨_, _, h1⟩ | ⟨_, _, h1⟩ | ⟨h1, h2, _⟩
  · exact h1
  · exact h1
  · rcases h with h | h
    · rw [h1] at h; cases h
    · exact absurd (by simpa using h) h2
theorem less_gtr {x y : List UInt8} (h : Op.bytesLess x y = false ∧ (x == y) = false) : lessL y x = true := by
  rw [bytesLess_is] at h
  rcases less_three x y with ⟨h1, _, _⟩ | ⟨h1, _, _⟩ | ⟨_, _, h1⟩
  · rw [h.1] at h1; cases h1
  · exact absurd h1 (by simpa using h.2)
  · exact h1
end Go.Proofs.YtmbmeidkmhajbaaDoor.V

/- The reference's Text. -/
namespace Go.Proofs.YtmbmeidkmhajbaaDoor.V
open Go.RowKit Go.Sort
set_option maxRecDepth 100000

theorem all_drop {p : UInt8 → Bool} {l : List UInt8} {k : Nat} (h : k < l.length) : (l.drop k).all p = (p l[k] && (l.drop (k + 1)).all p) := by
  rw [List.drop_eq_getElem_cons h, List.all_cons]
end Go.Proofs.YtmbmeidkmhajbaaDoor.V

/- The developers' isNumber, isText and areKeys. -/
namespace Go.Proofs.YtmbmeidkmhajbaaDoor.V
open Go.RowKit Go.Sort Go.Joins
set_option maxRecDepth 100000

theorem isNumber_any (n : Int) (W : World) :
    Calls Tryd.prog 51 #[.int .i64 n] W fun e w' => e = .returned (.bool (decide (-1099511627776 ≤ n) && decide (n ≤ 1099511627776))) ∧ w' = W := by
  by_cases h1 : -1099511627776 ≤ n
  · rw [decide_eq_true h1, Bool.true_and]
    go_enter Tryd.func51, Tryd.ntmps51
    go_wp2
    go_ret
    exact ⟨rfl, rfl⟩
  · rw [decide_eq_false h1, Bool.false_and]
    go_enter Tryd.func51, Tryd.ntmps51
    go_wp2
    go_ret
    exact ⟨rfl, rfl⟩
set_option maxHeartbeats 800000 in
theorem isText_any (s : ByteArray) (W : World) (hs : s.size ≤ maxLen) :
    Calls Tryd.prog 52 #[.string s] W fun e w' => e = .returned (.bool (textOk s.data.toList)) ∧ Below W.heap.size W w' := by
  unfold maxLen at hs
  have hlen : s.data.toList.length = s.size := Array.length_toList
  by_cases h4 : (s.size : Int) > 4000
  · have hr := Lib.hid (show textOk s.data.toList = false by
      unfold textOk
      rw [decide_eq_false (p := s.data.toList.length ≤ 4000) (by omega), Bool.and_false])
    go_enter Tryd.func52, Tryd.ntmps52
    go_wp2
    go_ret
    exact ⟨ret1_of (by rw [hr.out]; rfl), Below.refl _ _⟩
  have hT := Lib.hid (show textOk s.data.toList = s.data.toList.all (fun c => decide (32 ≤ c.toNat)) by
    unfold textOk
    rw [decide_eq_true (p := s.data.toList.length ≤ 4000) (by omega), Bool.and_true])
  go_enter Tryd.func52, Tryd.ntmps52
  go_wp2
  go_loopw [9] (fun iv wr => ∃ k : Nat, iv = .int .i64 k ∧ k ≤ s.size ∧ Hid (s.data.toList.all (fun c => decide (32 ≤ c.toNat)) = (s.data.toList.drop k).all (fun c => decide (32 ≤ c.toNat))) ∧ Below W.heap.size W wr) (fun iv _ => s.size - (intOf iv).toNat)
  case atStart => exact ⟨0, rfl, Nat.zero_le _, Lib.hid (by rw [List.drop_zero]), Below.refl _ _⟩
  case round =>
    obtain ⟨k, rfl, hk, HS, hb⟩ := hrel
    by_cases hlt : k < s.size
    · have hS := HS.out
      have he : s.data.toList[k]'(by omega) = s[k] := rfl
      rw [all_drop (by omega), he] at hS
      have h1 : (k : Int) < (s.size : Int) := by omega
      by_cases h32 : s[k].toNat < 32
      · have hr := Lib.hid (show textOk s.data.toList = false by
          rw [hT.out, hS, decide_eq_false (by omega)]
          rfl)
        have h33 : (s[k].toNat : Int) < 32 := by omega
        clear HS hS he hT
        go_wp2
        go_ret
        exact ⟨ret1_of (by rw [hr.out]; rfl), hb⟩
      · rw [decide_eq_true (by omega), Bool.true_and] at hS
        have HS2 := Lib.hid hS
        have h33 : ¬ (s[k].toNat : Int) < 32 := by omega
        clear HS hS he
        go_wp2
        go_roundw
        case rel => exact ⟨k + 1, by go_num, by omega, HS2, hb⟩
        case measure => simp [intOf]; omega
    · obtain rfl : k = s.size := by omega
      have hr := Lib.hid (show textOk s.data.toList = true by
        rw [hT.out, HS.out, List.drop_eq_nil_of_le (by omega)]
        rfl)
      clear HS hT
      go_wp2
      go_ret
      exact ⟨ret1_of (by rw [hr.out]; rfl), hb⟩
theorem isText_l (x : List UInt8) (W : World) (hs : x.length ≤ maxLen) : Calls Tryd.prog 52 #[.string ⟨x.toArray⟩] W fun e w' => e = .returned (.bool (textOk x)) ∧ Below W.heap.size W w' :=
  isText_any ⟨x.toArray⟩ W (by rw [str_size]; exact hs)
set_option maxHeartbeats 1600000 in
theorem areKeys_any (ks : List (List UInt8)) (ak : Option Addr) (kc : Nat) (W : World) (hkc : kc ≤ maxLen) (hkl : ks.length ≤ kc) (hkm : ∀ x ∈ ks, x.length ≤ maxLen)
    (hks : ks ≠ [] → ∃ b off, ak = some ⟨b, off, none⟩ ∧ ∀ i x, ks[i]? = some x → W.cell? ⟨b, off + i, none⟩ = some (str x)) :
    Calls Tryd.prog 53 #[.slice ak ks.length kc] W fun e w' => e = .returned (.bool (keysOk ks)) ∧ Below W.heap.size W w' := by
  unfold maxLen at hkc
  have HK := Lib.hid hks
  have HKM := Lib.hid hkm
  clear hks hkm
  go_enter Tryd.func53, Tryd.ntmps53
  go_wp2
  go_loopw [7] (fun iv wr => ∃ j : Nat, iv = .int .i64 j ∧ j ≤ ks.length ∧ Hid (KeysTo ks j) ∧ Below W.heap.size W wr) (fun iv _ => ks.length - (intOf iv).toNat)
  case atStart => exact ⟨0, rfl, Nat.zero_le _, Lib.hid (KeysTo.zero ks), Below.refl _ _⟩
  case round =>
    obtain ⟨j, rfl, hj, HS, hb⟩ := hrel
    by_cases hlt : j < ks.length
    · obtain ⟨b, off, rfl, hkx⟩ := HK.out (by intro h; rw [h] at hlt; simp at hlt)
      obtain ⟨x, hxi⟩ : ∃ x, ks[j]? = some x := ⟨ks[j], List.getElem?_eq_getElem hlt⟩
      have g1 : W.cell? ⟨b, off + j, none⟩ = some (.string ⟨x.toArray⟩) := hkx j x hxi
      have c1 := (hb.cell (p := ⟨b, off + j, none⟩) (World.block_lt_of_cell? W _ g1)).trans g1
      have HT := Lib.hid (fun w => isText_l x w (HKM.out x (List.mem_of_getElem? hxi)))
      cases hto : textOk x with
      | false =>
        have hr := Lib.hid (keysOk_bad hxi hto)
        rw [hto] at HT
        clear hkx g1 HK HKM hto hxi HS
        go_wp2_with (go_at_call 52; (with_reducible refine (HT.out _).mono ?_); rintro e w1 ⟨rfl, hb1⟩)
        go_ret
        exact ⟨ret1_of (by rw [hr.out]; rfl), on_below hb hb1 hb.size⟩
      | true =>
        rw [hto] at HT
        rcases Nat.eq_zero_or_pos j with hz | hz
        · subst hz
          have HS2 := Lib.hid (KeysTo.first hxi hto)
          simp only [Nat.add_zero] at c1
          clear hkx g1 HK HKM hto hxi HS
          go_wp2_with (go_at_call 52; (with_reducible refine (HT.out _).mono ?_); rintro e w1 ⟨rfl, hb1⟩)
          go_roundw
          case rel => exact ⟨0 + 1, by go_num, by omega, HS2, on_below hb hb1 hb.size⟩
          case measure => simp [intOf]; omega
        · obtain ⟨j, rfl⟩ : ∃ i, j = i + 1 := ⟨j - 1, by omega⟩
          obtain ⟨y, hyi⟩ : ∃ y, ks[j]? = some y := ⟨ks[j], List.getElem?_eq_getElem (by omega)⟩
          have g2 : W.cell? ⟨b, off + j, none⟩ = some (.string ⟨y.toArray⟩) := hkx j y hyi
          have c2 := (hb.cell (p := ⟨b, off + j, none⟩) (World.block_lt_of_cell? W _ g2)).trans g2
          have hj1 : ((j + 1 : Nat) : Int) > 0 := by omega
          have hj2 : ((j + 1 : Nat) : Int) - 1 = (j : Int) := by omega
          have hj3 : (j : Int) < (ks.length : Int) := by omega
          go_wp2_with (go_at_call 52; (with_reducible refine (HT.out _).mono ?_); rintro e w1 ⟨rfl, hb1⟩; have c3 := (hb1.cell (World.block_lt_of_cell? wr _ c2)).trans c2)
          · rename_i hle
            have hr := Lib.hid (keysOk_order hyi hxi (less_leq hle))
            clear hle
            go_ret
            exact ⟨ret1_of (by rw [hr.out]; rfl), on_below hb hb1 hb.size⟩
          · rename_i hle
            have HS2 := Lib.hid (KeysTo.next HS.out hyi hxi hto (less_gtr hle))
            clear hle
            go_roundw
            case rel => exact ⟨j + 1 + 1, by go_num, by omega, HS2, on_below hb hb1 hb.size⟩
            case measure => simp [intOf]; omega
    · have hr := Lib.hid (show keysOk ks = true by
        obtain rfl : j = ks.length := by omega
        exact HS.out.all)
      clear HS HK HKM
      go_wp2
      go_ret
      exact ⟨ret1_of (by rw [hr.out]; rfl), hb⟩
end Go.Proofs.YtmbmeidkmhajbaaDoor.V

/- The developers' fieldsMayBe. -/
namespace Go.Proofs.YtmbmeidkmhajbaaDoor.V
open Go.RowKit Go.Sort Go.Joins
set_option maxRecDepth 100000

theorem oneB_1 (n : Int) (s : List UInt8) (m : Nat) (ks : List (List UInt8)) : oneB 1 n s m ks = ((decide (-1099511627776 ≤ n) && decide (n ≤ 1099511627776)) && decide (s = []) && decide (m = 0) && decide (ks = [])) := by
  unfold oneB
  by_cases hs : s = [] <;> by_cases hm : m = 0 <;> by_cases hk : ks = [] <;> simp [hs, hm, hk, textOk, keysOk_nil]
theorem oneB_2 (n : Int) (s : List UInt8) (m : Nat) (ks : List (List UInt8)) : oneB 2 n s m ks = (textOk s && decide (n = 0) && decide (m = 0) && decide (ks = [])) := by
  unfold oneB
  by_cases hn : n = 0 <;> by_cases hm : m = 0 <;> by_cases hk : ks = [] <;> simp [hn, hm, hk, keysOk_nil]
theorem oneB_3 (n : Int) (s : List UInt8) (m : Nat) (ks : List (List UInt8)) : oneB 3 n s m ks = (decide (n = 0) && decide (s = []) && decide (ks = [])) := by
  unfold oneB
  by_cases hn : n = 0 <;> by_cases hs : s = [] <;> by_cases hk : ks = [] <;> simp [hn, hs, hk, textOk, keysOk_nil]
theorem oneB_4 (n : Int) (s : List UInt8) (m : Nat) (ks : List (List UInt8)) : oneB 4 n s m ks = (decide (n = 0) && decide (s = []) && decide (ks.length = m) && keysOk ks) := by
  unfold oneB
  by_cases hn : n = 0 <;> by_cases hs : s = [] <;> simp [hn, hs, textOk]
theorem oneB_x {k : Int} (n : Int) (s : List UInt8) (m : Nat) (ks : List (List UInt8)) (h : ¬ (k = 1 ∨ k = 2 ∨ k = 3 ∨ k = 4)) : oneB k n s m ks = false := by
  unfold oneB
  have : (decide (1 ≤ k) && decide (k ≤ 4)) = false := by
    rw [Bool.and_eq_false_iff, decide_eq_false_iff_not, decide_eq_false_iff_not]; omega
  rw [this]
  rfl
set_option maxHeartbeats 6400000 in
theorem fields_any (k n : Int) (s : List UInt8) (ai : Option Addr) (m ci : Nat) (ak : Option Addr) (kc : Nat) (ks : List (List UInt8)) (W : World) (hs : s.length ≤ maxLen) (hkc : kc ≤ maxLen) (hkl : ks.length ≤ kc) (hkm : ∀ x ∈ ks, x.length ≤ maxLen)
    (hks : ks ≠ [] → ∃ b off, ak = some ⟨b, off, none⟩ ∧ ∀ i x, ks[i]? = some x → W.cell? ⟨b, off + i, none⟩ = some (str x)) :
    Calls Tryd.prog 34 #[.agg #[.int .i64 k, .int .i64 n, .string ⟨s.toArray⟩, .slice ai m ci, .slice ak ks.length kc]] W fun e w' => e = .returned (.bool (oneB k n s m ks)) ∧ Below W.heap.size W w' := by
  have HT := Lib.hid (fun w => isText_l s w hs)
  have HN := Lib.hid (fun w => isNumber_any n w)
  have HA := Lib.hid (fun (w : World) (hb : Below W.heap.size W w) => areKeys_any ks ak kc w hkc hkl hkm (fun hne => let ⟨b, off, ha, hx⟩ := hks hne; ⟨b, off, ha, fun i x hi => (hb.cell (World.block_lt_of_cell? W _ (hx i x hi))).trans (hx i x hi)⟩))
  clear hks hkm
  have hbW := (Below.refl W.heap.size W).alloc (Nat.le_refl _) (.cells #[.int .i64 k, .int .i64 n, .string ⟨s.toArray⟩, .slice ai m ci, .slice ak ks.length kc] 25)
  have lA := Lies.new W 25 #[.int .i64 k, .int .i64 n, .string ⟨s.toArray⟩, .slice ai m ci, .slice ak ks.length kc]
  by_cases hk1 : k = 1
  case pos =>
    subst hk1
    rw [oneB_1]
    generalize (decide (-1099511627776 ≤ n) && decide (n ≤ 1099511627776)) = r at *
    cases r
    case false =>
      go_enter Tryd.func34, Tryd.ntmps34
      go_wp2_with (go_at_call 51; (with_reducible refine (HN.out _).mono ?_); rintro e w1 ⟨rfl, rfl⟩)
      go_ret
      exact ⟨rfl, hbW⟩
    rw [Bool.true_and]
    by_cases hs0 : s = []
    case neg =>
      have qs := hs0
      simp only [decide_eq_false hs0, Bool.false_and]
      go_enter Tryd.func34, Tryd.ntmps34
      go_wp2_with (go_at_call 51; (with_reducible refine (HN.out _).mono ?_); rintro e w1 ⟨rfl, rfl⟩)
      go_ret
      exact ⟨rfl, hbW⟩
    subst hs0
    by_cases hm : m = 0
    case neg =>
      have qm : ((m : Int) == 0) = false := by simp; omega
      simp only [decide_eq_false hm, Bool.and_false, Bool.false_and]
      go_enter Tryd.func34, Tryd.ntmps34
      go_wp2_with (go_at_call 51; (with_reducible refine (HN.out _).mono ?_); rintro e w1 ⟨rfl, rfl⟩)
      go_ret
      exact ⟨rfl, hbW⟩
    subst hm
    by_cases hkk : ks = []
    case neg =>
      have qk : ((ks.length : Int) == 0) = false := by simpa using hkk
      simp only [decide_eq_false hkk, Bool.and_false]
      go_enter Tryd.func34, Tryd.ntmps34
      go_wp2_with (go_at_call 51; (with_reducible refine (HN.out _).mono ?_); rintro e w1 ⟨rfl, rfl⟩)
      go_ret
      exact ⟨rfl, hbW⟩
    subst hkk
    go_enter Tryd.func34, Tryd.ntmps34
    go_wp2_with (go_at_call 51; (with_reducible refine (HN.out _).mono ?_); rintro e w1 ⟨rfl, rfl⟩)
    go_ret
    exact ⟨rfl, hbW⟩
  by_cases hk2 : k = 2
  case pos =>
    subst hk2
    rw [oneB_2]
    generalize textOk s = r at *
    cases r
    case false =>
      go_enter Tryd.func34, Tryd.ntmps34
      go_wp2_with (go_at_call 52; (with_reducible refine (HT.out _).mono ?_); rintro e w1 ⟨rfl, hb1⟩; replace hbW := below_on hbW hb1; replace lA := lA.on hb1; have q0 := lA.cell 0; have q1 := lA.cell 1; have q2 := lA.cell 2; have q3 := lA.cell 3; have q4 := lA.cell 4; simp only [List.getElem?_toArray, List.getElem?_cons_succ, List.getElem?_cons_zero] at q0 q1 q2 q3 q4)
      go_ret
      exact ⟨rfl, hbW⟩
    rw [Bool.true_and]
    by_cases hn : n = 0
    case neg =>
      have qn : (n == 0) = false := by simpa using hn
      simp only [decide_eq_false hn, Bool.false_and]
      go_enter Tryd.func34, Tryd.ntmps34
      go_wp2_with (go_at_call 52; (with_reducible refine (HT.out _).mono ?_); rintro e w1 ⟨rfl, hb1⟩; replace hbW := below_on hbW hb1; replace lA := lA.on hb1; have q0 := lA.cell 0; have q1 := lA.cell 1; have q2 := lA.cell 2; have q3 := lA.cell 3; have q4 := lA.cell 4; simp only [List.getElem?_toArray, List.getElem?_cons_succ, List.getElem?_cons_zero] at q0 q1 q2 q3 q4)
      go_ret
      exact ⟨rfl, hbW⟩
    subst hn
    by_cases hm : m = 0
    case neg =>
      have qm : ((m : Int) == 0) = false := by simp; omega
      simp only [decide_eq_false hm, Bool.and_false, Bool.false_and]
      go_enter Tryd.func34, Tryd.ntmps34
      go_wp2_with (go_at_call 52; (with_reducible refine (HT.out _).mono ?_); rintro e w1 ⟨rfl, hb1⟩; replace hbW := below_on hbW hb1; replace lA := lA.on hb1; have q0 := lA.cell 0; have q1 := lA.cell 1; have q2 := lA.cell 2; have q3 := lA.cell 3; have q4 := lA.cell 4; simp only [List.getElem?_toArray, List.getElem?_cons_succ, List.getElem?_cons_zero] at q0 q1 q2 q3 q4)
      go_ret
      exact ⟨rfl, hbW⟩
    subst hm
    by_cases hkk : ks = []
    case neg =>
      have qk : ((ks.length : Int) == 0) = false := by simpa using hkk
      simp only [decide_eq_false hkk, Bool.and_false]
      go_enter Tryd.func34, Tryd.ntmps34
      go_wp2_with (go_at_call 52; (with_reducible refine (HT.out _).mono ?_); rintro e w1 ⟨rfl, hb1⟩; replace hbW := below_on hbW hb1; replace lA := lA.on hb1; have q0 := lA.cell 0; have q1 := lA.cell 1; have q2 := lA.cell 2; have q3 := lA.cell 3; have q4 := lA.cell 4; simp only [List.getElem?_toArray, List.getElem?_cons_succ, List.getElem?_cons_zero] at q0 q1 q2 q3 q4)
      go_ret
      exact ⟨rfl, hbW⟩
    subst hkk
    go_enter Tryd.func34, Tryd.ntmps34
    go_wp2_with (go_at_call 52; (with_reducible refine (HT.out _).mono ?_); rintro e w1 ⟨rfl, hb1⟩; replace hbW := below_on hbW hb1; replace lA := lA.on hb1; have q0 := lA.cell 0; have q1 := lA.cell 1; have q2 := lA.cell 2; have q3 := lA.cell 3; have q4 := lA.cell 4; simp only [List.getElem?_toArray, List.getElem?_cons_succ, List.getElem?_cons_zero] at q0 q1 q2 q3 q4)
    go_ret
    exact ⟨rfl, hbW⟩
  by_cases hk3 : k = 3
  case pos =>
    subst hk3
    rw [oneB_3]
    by_cases hn : n = 0
    case neg =>
      have qn : (n == 0) = false := by simpa using hn
      simp only [decide_eq_false hn, Bool.false_and]
      go_enter Tryd.func34, Tryd.ntmps34
      go_wp2
      go_ret
      exact ⟨rfl, hbW⟩
    subst hn
    by_cases hs0 : s = []
    case neg =>
      have qs := hs0
      simp only [decide_eq_false hs0, Bool.and_false, Bool.false_and]
      go_enter Tryd.func34, Tryd.ntmps34
      go_wp2
      go_ret
      exact ⟨rfl, hbW⟩
    subst hs0
    by_cases hkk : ks = []
    case neg =>
      have qk : ((ks.length : Int) == 0) = false := by simpa using hkk
      simp only [decide_eq_false hkk, Bool.and_false]
      go_enter Tryd.func34, Tryd.ntmps34
      go_wp2
      go_ret
      exact ⟨rfl, hbW⟩
    subst hkk
    go_enter Tryd.func34, Tryd.ntmps34
    go_wp2
    go_ret
    exact ⟨rfl, hbW⟩
  by_cases hk4 : k = 4
  case pos =>
    subst hk4
    rw [oneB_4]
    by_cases hn : n = 0
    case neg =>
      have qn : (n == 0) = false := by simpa using hn
      simp only [decide_eq_false hn, Bool.false_and]
      go_enter Tryd.func34, Tryd.ntmps34
      go_wp2
      go_ret
      exact ⟨rfl, hbW⟩
    subst hn
    by_cases hs0 : s = []
    case neg =>
      have qs := hs0
      simp only [decide_eq_false hs0, Bool.and_false, Bool.false_and]
      go_enter Tryd.func34, Tryd.ntmps34
      go_wp2
      go_ret
      exact ⟨rfl, hbW⟩
    subst hs0
    by_cases hl : ks.length = m
    case neg =>
      have ql : ((ks.length : Int) == (m : Int)) = false := by simp; omega
      simp only [decide_eq_false hl, Bool.and_false, Bool.false_and]
      go_enter Tryd.func34, Tryd.ntmps34
      go_wp2
      go_ret
      exact ⟨rfl, hbW⟩
    have ql : ((ks.length : Int) == (m : Int)) = true := by simp [hl]
    rw [decide_eq_true hl]
    clear hl
    generalize keysOk ks = r at *
    cases r
    case false =>
      go_enter Tryd.func34, Tryd.ntmps34
      go_wp2_with (go_at_call 53; (with_reducible refine (HA.out _ hbW).mono ?_); rintro e w2 ⟨rfl, hb2⟩; replace hbW := below_on hbW hb2)
      go_ret
      exact ⟨rfl, hbW⟩
    go_enter Tryd.func34, Tryd.ntmps34
    go_wp2_with (go_at_call 53; (with_reducible refine (HA.out _ hbW).mono ?_); rintro e w2 ⟨rfl, hb2⟩; replace hbW := below_on hbW hb2)
    go_ret
    exact ⟨rfl, hbW⟩
  rw [oneB_x _ _ _ _ (by omega)]
  go_enter Tryd.func34, Tryd.ntmps34
  go_wp2
  go_ret
  exact ⟨rfl, hbW⟩
theorem fieldsV_any (d : Nat) (cs : List Value) (t : VT) (w : World) (h : IsV w d cs t) : Calls Tryd.prog 34 #[.agg cs.toArray] w fun e w' => e = .returned (.bool (oneB t.kind t.num t.txt t.items.length t.keys)) ∧ Below w.heap.size w w' := by
  cases d with
  | zero => exact h.elim
  | succ d =>
    obtain ⟨vi, vk, rfl, hfit, hks, a, c, rfl, hc, hm, hna, hx⟩ := h
    obtain ⟨ka, kc, rfl, hkc, hkm, hka, hkx⟩ := hks
    exact fields_any _ _ _ _ _ _ _ _ _ w hfit.2.2.1 hkm hkc hfit.2.2.2 hkx
end Go.Proofs.YtmbmeidkmhajbaaDoor.V

/- The developers' roomBeside and Right. -/
namespace Go.Proofs.YtmbmeidkmhajbaaDoor.V
open Go.RowKit Go.Sort Go.Joins
set_option maxRecDepth 100000

/-- may a value be, so deep and so many? -/
def fits (t : VT) (L r : Nat) : Bool := decide (t.depth ≤ L) && decide (t.count ≤ r) && t.each
theorem fits_iff {t : VT} {L r : Nat} : fits t L r = true ↔ t.depth ≤ L ∧ t.count ≤ r ∧ t.each = true := by
  unfold fits
  rw [Bool.and_eq_true, Bool.and_eq_true, decide_eq_true_eq, decide_eq_true_eq, and_assoc]
theorem fits_ok (t : VT) : fits t 12 2000 = t.okB := by
  unfold fits VT.okB
  rw [Bool.and_comm (decide _) (decide _)]
theorem eachL_iff : ∀ l : List VT, eachL l = true ↔ ∀ x ∈ l, x.each = true := by
  intro l
  induction l with
  | nil => rw [eachL_nil]; simp
  | cons x l ih => rw [eachL_cons, Bool.and_eq_true, ih]; simp
theorem depthL_le {l : List VT} {L : Nat} : depthL l ≤ L ↔ ∀ x ∈ l, x.depth ≤ L := by
  induction l with
  | nil => rw [depthL_nil]; simp
  | cons x l ih => rw [depthL_cons, Nat.max_le, ih]; simp
theorem countL_len : ∀ l : List VT, l.length ≤ countL l := by
  intro l
  induction l with
  | nil => exact Nat.zero_le _
  | cons x l ih => rw [countL_cons, List.length_cons]; have := count_pos x; omega
theorem countL_take {l : List VT} {j : Nat} {x : VT} (h : l[j]? = some x) : countL (l.take (j + 1)) = countL (l.take j) + x.count ∧ countL (l.take j) + x.count ≤ countL l := by
  obtain ⟨hlt, rfl⟩ := List.getElem?_eq_some_iff.1 h
  have e : countL (l.take (j + 1)) = countL (l.take j) + l[j].count := by rw [List.take_succ_eq_append_getElem hlt, countL_append, countL_cons, countL_nil, Nat.add_zero]
  refine ⟨e, ?_⟩
  rw [← e]
  have := countL_append (l.take (j + 1)) (l.drop (j + 1))
  rw [List.take_append_drop] at this
  omega
/-- the first j items fit, and so many are left -/
def RoomTo (l : List VT) (L r j m : Nat) : Prop := (∀ (i : Nat) x, i < j → l[i]? = some x → x.depth ≤ L ∧ x.each = true) ∧ m + countL (l.take j) = r
theorem RoomTo.next {l : List VT} {L r j m : Nat} {x : VT} (h : RoomTo l L r j m) (hx : l[j]? = some x) (hf : fits x L m = true) : RoomTo l L r (j + 1) (m - x.count) := by
  obtain ⟨h1, h2⟩ := h
  obtain ⟨f1, f2, f3⟩ := fits_iff.1 hf
  refine ⟨fun i y hi hy => ?_, ?_⟩
  · rcases Nat.lt_or_ge i j with h | h
    · exact h1 i y h hy
    · obtain rfl : i = j := by omega
      rw [hx] at hy
      rw [← Option.some.inj hy]; exact ⟨f1, f3⟩
  · rw [(countL_take hx).1]; omega
theorem RoomTo.bad {k n : Int} {s : List UInt8} {l : List VT} {ks : List (List UInt8)} {L r j m : Nat} {x : VT} (h : RoomTo l L r j m) (hx : l[j]? = some x) (hf : fits x L m = false) : fits (.mk k n s l ks) (L + 1) (r + 1) = false := by
  cases hh : fits (.mk k n s l ks) (L + 1) (r + 1) with
  | false => rfl
  | true =>
    obtain ⟨f1, f2, f3⟩ := fits_iff.1 hh
    rw [depth_eq] at f1
    rw [count_eq] at f2
    rw [each_eq, Bool.and_eq_true] at f3
    have hm := List.mem_of_getElem? hx
    have h2 := countL_take hx
    have h3 := h.2
    rw [fits_iff.2 ⟨depthL_le.1 (by omega) x hm, by omega, eachL_mem f3.1 hm⟩] at hf
    cases hf
theorem RoomTo.all {k n : Int} {s : List UInt8} {l : List VT} {ks : List (List UInt8)} {L r m : Nat} (h : RoomTo l L r l.length m) (ho : oneB k n s l.length ks = true) : fits (.mk k n s l ks) (L + 1) (r + 1) = true ∧ r + 1 - (VT.mk k n s l ks).count = m := by
  obtain ⟨h1, h2⟩ := h
  rw [List.take_of_length_le (Nat.le_refl _)] at h2
  have h3 : ∀ x ∈ l, x.depth ≤ L ∧ x.each = true := fun x hx => by
    obtain ⟨i, hi, rfl⟩ := List.getElem_of_mem hx
    exact h1 i _ hi (List.getElem?_eq_getElem hi)
  have h4 : depthL l ≤ L := depthL_le.2 fun x hx => (h3 x hx).1
  refine ⟨fits_iff.2 ⟨by rw [depth_eq]; omega, by rw [count_eq]; omega, by rw [each_eq, ho, (eachL_iff l).2 fun x hx => (h3 x hx).2]; rfl⟩, by rw [count_eq]; omega⟩
def roomN (t : VT) (L r : Nat) : Nat := if fits t L r then r - t.count else 0
theorem roomN_yes {t : VT} {L r : Nat} (h : fits t L r = true) : roomN t L r = r - t.count := by unfold roomN; rw [if_pos h]
theorem roomN_no {t : VT} {L r : Nat} (h : fits t L r = false) : roomN t L r = 0 := by unfold roomN; rw [if_neg (by rw [h]; decide)]
theorem ret_room {a c : Int} {b d : Bool} (h : a = c) (h2 : b = d) : Ending.returned (.tuple #[.int .i64 a, .bool b]) = .returned (.tuple #[.int .i64 c, .bool d]) := by rw [h, h2]
set_option maxHeartbeats 3200000 in
theorem room_any : ∀ (d : Nat) (cs : List Value) (t : VT) (L r : Nat) (w : World), IsV w d cs t → L ≤ 4000 → r ≤ 4000 →
    Calls Tryd.prog 28 #[.agg cs.toArray, .int .i64 L, .int .i64 r] w fun e w' => e = .returned (.tuple #[.int .i64 (roomN t L r : Int), .bool (fits t L r)]) ∧ Below w.heap.size w w' := by
  intro d
  induction d with
  | zero => intro cs t L r w h; exact h.elim
  | succ d ih =>
    intro cs t L r W h hL hr
    have HF := Lib.hid (fun (w1 : World) (hb1 : Below W.heap.size W w1) => fieldsV_any (d + 1) cs t w1 (h.below hb1))
    obtain ⟨vi, vk, rfl, hfit, hks, a, c, rfl, hc, hm, hna, hx⟩ := h
    obtain ⟨ak, ck, rfl, _⟩ := hks
    obtain ⟨k, n, s, l, ks⟩ := t
    have HI := Lib.hid ih
    have HX := Lib.hid hx
    simp only [VT.items, VT.kind, VT.num, VT.txt, VT.keys, str] at *
    clear ih hfit hx hna
    unfold maxLen at hm
    have hbW := (Below.refl W.heap.size W).alloc (Nat.le_refl _) (.cells #[.int .i64 k, .int .i64 n, .string ⟨s.toArray⟩, .slice a l.length c, .slice ak ks.length ck] 25)
    have lA := Lies.new W 25 #[.int .i64 k, .int .i64 n, .string ⟨s.toArray⟩, .slice a l.length c, .slice ak ks.length ck]
    have q0 := lA.cell 0
    have q1 := lA.cell 1
    have q2 := lA.cell 2
    have q3 := lA.cell 3
    have q4 := lA.cell 4
    simp only [List.getElem?_toArray, List.getElem?_cons_succ, List.getElem?_cons_zero] at q0 q1 q2 q3 q4
    by_cases hL0 : L = 0
    case pos =>
      subst hL0
      have hno : fits (.mk k n s l ks) 0 r = false := by
        unfold fits
        rw [depth_eq, decide_eq_false (by omega)]; rfl
      have h1 := Lib.hid (roomN_no hno)
      have h2 := Lib.hid hno
      clear HF HI HX hno
      go_enter Tryd.func28, Tryd.ntmps28
      go_wp2
      go_ret2
      exact ⟨ret_room (by rw [h1.out]; rfl) h2.out.symm, hbW⟩
    obtain ⟨L, rfl⟩ : ∃ i, L = i + 1 := ⟨L - 1, by omega⟩
    have hL1 : ((L : Int) + 1 == 0) = false := by simp; omega
    clear hL0
    by_cases hrm : (r : Int) ≤ (l.length : Int)
    case pos =>
      have hno : fits (.mk k n s l ks) (L + 1) r = false := by
        unfold fits
        have := countL_len l
        rw [count_eq, decide_eq_false (p := 1 + countL l ≤ r) (by omega), Bool.and_false]; rfl
      have h1 := Lib.hid (roomN_no hno)
      have h2 := Lib.hid hno
      clear HF HI HX hno
      go_enter Tryd.func28, Tryd.ntmps28
      go_wp2
      go_ret2
      exact ⟨ret_room (by rw [h1.out]; rfl) h2.out.symm, hbW⟩
    obtain ⟨r, rfl⟩ : ∃ i, r = i + 1 := ⟨r - 1, by omega⟩
    have hr1 : decide ((r : Int) + 1 ≤ (l.length : Int)) = false := decide_eq_false (by omega)
    cases ho : oneB k n s l.length ks with
    | false =>
      have hno : fits (.mk k n s l ks) (L + 1) (r + 1) = false := by
        unfold fits
        rw [each_eq, ho, Bool.and_false, Bool.and_false]
      have h1 := Lib.hid (roomN_no hno)
      have h2 := Lib.hid hno
      rw [ho] at HF
      clear HI HX hno ho
      go_enter Tryd.func28, Tryd.ntmps28
      go_wp2_with (go_at_call 34; (with_reducible refine (HF.out _ hbW).mono ?_); rintro e w1 ⟨rfl, hb1⟩)
      go_ret2
      exact ⟨ret_room (by rw [h1.out]; rfl) h2.out.symm, below_on hbW hb1⟩
    | true =>
      have HO := Lib.hid ho
      rw [ho] at HF
      clear ho
      go_enter Tryd.func28, Tryd.ntmps28
      go_wp2_with (go_at_call 34; (with_reducible refine (HF.out _ hbW).mono ?_); rintro e w1 ⟨rfl, hb1⟩; replace hbW := below_on hbW hb1; replace lA := lA.on hb1; have q0 := lA.cell 0; have q1 := lA.cell 1; have q2 := lA.cell 2; have q3 := lA.cell 3; have q4 := lA.cell 4; simp only [List.getElem?_toArray, List.getElem?_cons_succ, List.getElem?_cons_zero] at q0 q1 q2 q3 q4)
      go_loopw [2, 31] (fun rv iv wr => ∃ (m j : Nat), rv = .int .i64 m ∧ iv = .int .i64 j ∧ j ≤ l.length ∧ m ≤ r ∧ Hid (RoomTo l L r j m) ∧ Below W.heap.size W wr) (fun _ iv _ => l.length - (intOf iv).toNat)
      case atStart => exact ⟨r, 0, by go_num, rfl, by omega, Nat.le_refl _, Lib.hid ⟨fun i x h => absurd h (by omega), by rw [List.take_zero, countL_nil, Nat.add_zero]⟩, hbW⟩
      case round =>
        clear hbW lA q0 q1 q2 q3 q4 HF
        obtain ⟨m, j, rfl, rfl, hj, hmr, HS, hb⟩ := hrel
        by_cases hlt : j < l.length
        · obtain ⟨b, off, rfl, hx⟩ := HX.out (by omega)
          obtain ⟨cs', hlen, hr', x, hxi, hv⟩ := hx j hlt
          obtain ⟨ai, ci, ak, ck, rfl⟩ := hv.form
          obtain ⟨k0, k1, k2, k3, k4⟩ := range5 (range_below hb hr')
          have hv := hv.below hb
          have HC := Lib.hid (fun (w1 : World) (hb1 : Below wr.heap.size wr w1) => HI.out _ x L m w1 (hv.below hb1) (by omega) (by omega))
          clear hr' hv hx HX HI hlen
          cases hf : fits x L m with
          | false =>
            have hno := HS.out.bad (k := k) (n := n) (s := s) (ks := ks) hxi hf
            have h1 := Lib.hid (roomN_no hno)
            have h2 := Lib.hid hno
            rw [hf, roomN_no hf] at HC
            clear hno hf hxi HS
            go_wp2_with (go_at_call 28; refine (HC.out _ (below_alloc1 wr _)).mono ?_; rintro e w2 ⟨rfl, hb2⟩)
            go_ret2
            exact ⟨ret_room (by rw [h1.out]; rfl) h2.out.symm, on_below hb (on_new _ hb2) hb.size⟩
          | true =>
            have HS2 := Lib.hid (HS.out.next hxi hf)
            rw [hf, roomN_yes hf] at HC
            generalize m - x.count = m2 at *
            have hm2 : m2 ≤ r := by have := HS2.out.2; omega
            clear hf hxi HS
            go_wp2_with (go_at_call 28; refine (HC.out _ (below_alloc1 wr _)).mono ?_; rintro e w2 ⟨rfl, hb2⟩)
            go_roundw
            case rel => exact ⟨m2, j + 1, rfl, by go_num, by omega, hm2, HS2, on_below hb (on_new _ hb2) hb.size⟩
            case measure => simp [intOf]; omega
        · obtain rfl : j = l.length := by omega
          obtain ⟨e1, e2⟩ := HS.out.all (k := k) (n := n) (s := s) (ks := ks) HO.out
          have h1 := Lib.hid ((roomN_yes e1).trans e2)
          have h2 := Lib.hid e1
          clear e1 e2 HS HO HI HX
          go_wp2
          go_ret2
          exact ⟨ret_room (by rw [h1.out]) h2.out.symm, hb⟩
theorem room_top (d : Nat) (cs : List Value) (t : VT) (w : World) (h : IsV w d cs t) :
    Calls Tryd.prog 28 #[.agg cs.toArray, .int .i64 12, .int .i64 2000] w fun e w' => e = .returned (.tuple #[.int .i64 (roomN t 12 2000 : Int), .bool t.okB]) ∧ Below w.heap.size w w' := by
  rw [← fits_ok]
  exact room_any d cs t 12 2000 w h (by decide) (by decide)
set_option maxHeartbeats 800000 in
theorem right_any (d : Nat) (cs : List Value) (t : VT) (w : World) (h : IsV w d cs t) :
    Calls Tryd.prog 19 #[.agg cs.toArray] w fun e w' => e = .returned (.bool t.okB) ∧ Below w.heap.size w w' := by
  have HC := Lib.hid (fun (w1 : World) (hb : Below w.heap.size w w1) => room_top d cs t w1 (h.below hb))
  obtain ⟨ai, ci, ak, ck, rfl⟩ := h.form
  have hbW := (Below.refl w.heap.size w).alloc (Nat.le_refl _) (.cells #[.int .i64 t.kind, .int .i64 t.num, .string ⟨t.txt.toArray⟩, .slice ai t.items.length ci, .slice ak t.keys.length ck] 25)
  have lA := Lies.new w 25 #[.int .i64 t.kind, .int .i64 t.num, .string ⟨t.txt.toArray⟩, .slice ai t.items.length ci, .slice ak t.keys.length ck]
  have q0 := lA.cell 0
  have q1 := lA.cell 1
  have q2 := lA.cell 2
  have q3 := lA.cell 3
  have q4 := lA.cell 4
  simp only [List.getElem?_toArray, List.getElem?_cons_succ, List.getElem?_cons_zero] at q0 q1 q2 q3 q4
  clear h
  generalize roomN t 12 2000 = m at *
  go_enter Tryd.func19, Tryd.ntmps19
  go_wp2_with (go_at_call 28; (with_reducible refine (HC.out _ hbW).mono ?_); rintro e w1 ⟨rfl, hb1⟩)
  go_ret
  exact ⟨rfl, below_on hbW hb1⟩
end Go.Proofs.YtmbmeidkmhajbaaDoor.V

/- The library's Equal and Index of rows of texts. -/
namespace Go.Proofs.YtmbmeidkmhajbaaDoor.V
open Go.RowKit Go.Sort Go.Joins
set_option maxRecDepth 100000

/-- the first place of a key -/
def firstAt : List (List UInt8) → List UInt8 → Int
  | [], _ => -1
  | k :: r, key => if k = key then 0 else if firstAt r key < 0 then -1 else firstAt r key + 1
def FirstTo (ks : List (List UInt8)) (key : List UInt8) (j : Nat) : Prop := ∀ (i : Nat) (k : List UInt8), i < j → ks[i]? = some k → k ≠ key
theorem firstAt_none : ∀ (ks : List (List UInt8)) (key : List UInt8), (∀ k ∈ ks, k ≠ key) → firstAt ks key = -1 := by
  intro ks
  induction ks with
  | nil => intro key _; rw [firstAt]
  | cons k r ih =>
    intro key h
    rw [firstAt, if_neg (h k (by simp)), ih key (fun x hx => h x (by simp [hx])), if_pos (by decide)]
theorem firstAt_some : ∀ (ks : List (List UInt8)) (key : List UInt8) (j : Nat), FirstTo ks key j → ks[j]? = some key → firstAt ks key = j := by
  intro ks
  induction ks with
  | nil => intro key j _ h; simp at h
  | cons k r ih =>
    intro key j h hj
    cases j with
    | zero => simp at hj; rw [firstAt, if_pos hj]; rfl
    | succ j =>
      have hk := h 0 k (by omega) rfl
      have h2 := ih key j (fun i x hi hx => h (i + 1) x (by omega) (by simpa using hx)) (by simpa using hj)
      rw [firstAt, if_neg hk, h2, if_neg (by omega)]
      rfl
set_option maxHeartbeats 1600000 in
theorem strIdx_any (v : Value) (ks : List (List UInt8)) (key : List UInt8) (W : World) (h : Strs W v ks) :
    Calls Tryd.prog 18 #[v, .string ⟨key.toArray⟩] W fun e w' => e = .returned (.int .i64 (firstAt ks key)) ∧ Below W.heap.size W w' := by
  obtain ⟨ka, kc, rfl, hkc, hkm, _, hkx⟩ := h
  have HK := Lib.hid hkx
  clear hkx
  unfold maxLen at hkm
  go_enter Tryd.func18, Tryd.ntmps18
  go_wp2
  go_loopw [8] (fun iv wr => ∃ (j : Nat), iv = .int .i64 j ∧ j ≤ ks.length ∧ Hid (FirstTo ks key j) ∧ Below W.heap.size W wr) (fun iv _ => ks.length - (intOf iv).toNat)
  case atStart => exact ⟨0, rfl, by omega, Lib.hid (fun i k h => absurd h (by omega)), Below.refl _ _⟩
  case round =>
    obtain ⟨j, rfl, hj, HS, hb⟩ := hrel
    by_cases hlt : j < ks.length
    · obtain ⟨b, off, rfl, hkx⟩ := HK.out (by intro h; rw [h] at hlt; simp at hlt)
      obtain ⟨x, hxi⟩ : ∃ x, ks[j]? = some x := ⟨ks[j], List.getElem?_eq_getElem hlt⟩
      have g1 : W.cell? ⟨b, off + j, none⟩ = some (.string ⟨x.toArray⟩) := hkx j x hxi
      have c1 := (hb.cell (p := ⟨b, off + j, none⟩) (World.block_lt_of_cell? W _ g1)).trans g1
      clear hkx g1 HK
      by_cases hxy : x = key
      · subst hxy
        have hr := Lib.hid (firstAt_some ks x j HS.out hxi)
        clear hxi HS
        go_wp2
        go_ret
        exact ⟨ret1_of (by rw [hr.out]; rfl), hb⟩
      · have HS2 : Hid (FirstTo ks key (j + 1)) := Lib.hid (fun i k hi hk => by
          rcases Nat.lt_or_ge i j with h | h
          · exact HS.out i k h hk
          · obtain rfl : i = j := by omega
            rw [hxi] at hk
            rw [← Option.some.inj hk]; exact hxy)
        clear hxi HS
        go_wp2
        · rename_i hh
          exact absurd (by simpa using hh) (fun h : key = x => hxy h.symm)
        · go_roundw
          case rel => exact ⟨j + 1, by go_num, by omega, HS2, hb⟩
          case measure => simp [intOf]; omega
    · have hr := Lib.hid (firstAt_none ks key (fun k hk => by
        obtain ⟨i, hi, rfl⟩ := List.getElem_of_mem hk
        exact HS.out i _ (by omega) (List.getElem?_eq_getElem hi)))
      clear HS HK
      go_wp2
      go_ret
      exact ⟨ret1_of (by rw [hr.out]; rfl), hb⟩
end Go.Proofs.YtmbmeidkmhajbaaDoor.V

/- The developers' Number, Text, List and Get. -/
namespace Go.Proofs.YtmbmeidkmhajbaaDoor.V
open Go.RowKit Go.Sort Go.Joins
set_option maxRecDepth 100000

theorem number_any (n : Int) (W : World) :
    Calls Tryd.prog 42 #[.int .i64 n] W fun e w' => e = .returned (.agg #[.int .i64 1, .int .i64 n, .string ⟨#[]⟩, .slice none 0 0, .slice none 0 0]) ∧ Below W.heap.size W w' := by
  have lR : Lies (W.alloc (.cells valZ 25)) W.heap.size 25 valZ := Lies.new W _ _
  have hB := (Below.refl W.heap.size W).alloc (Nat.le_refl _) (.cells valZ 25)
  go_enter Tryd.func42, Tryd.ntmps42
  go_wp2_with ((with_reducible refine wpL_store W.heap.size 25 valZ #[.int .i64 1, .int .i64 n, .string ⟨#[]⟩, .slice none 0 0, .slice none 0 0] 5 rowVal rfl rfl (valC_one _ _ _ _ _ _ _ _ _) lR ?_ ?_ ?_); rfl; rfl)
  exact bodyPost_ret (results_row Tryd.results42 rowVal rfl (lR.row _) rfl) rfl ⟨rfl, below_rowSet hB (Nat.le_refl _) _⟩
theorem text_any (s : ByteArray) (W : World) :
    Calls Tryd.prog 15 #[.string s] W fun e w' => e = .returned (.agg #[.int .i64 2, .int .i64 0, .string s, .slice none 0 0, .slice none 0 0]) ∧ Below W.heap.size W w' := by
  have lR : Lies (W.alloc (.cells valZ 25)) W.heap.size 25 valZ := Lies.new W _ _
  have hB := (Below.refl W.heap.size W).alloc (Nat.le_refl _) (.cells valZ 25)
  go_enter Tryd.func15, Tryd.ntmps15
  go_wp2_with ((with_reducible refine wpL_store W.heap.size 25 valZ #[.int .i64 2, .int .i64 0, .string s, .slice none 0 0, .slice none 0 0] 5 rowVal rfl rfl (valC_one _ _ _ _ _ _ _ _ _) lR ?_ ?_ ?_); rfl; rfl)
  exact bodyPost_ret (results_row Tryd.results15 rowVal rfl (lR.row _) rfl) rfl ⟨rfl, below_rowSet hB (Nat.le_refl _) _⟩
theorem infoV : (Tryd.prog.info? 25).map (fun i => (i.zero, i.size, i.bytes)) = some (some (.agg valZ), 5, 80) := by kernel_rfl
theorem OwnL.rowFar {w : World} {B g : Nat} {e : TypeId} {k : Nat} {v : Value} {css : List (List Value)} (h : OwnL w B e k v css) (hg : g < B) (cs : Array Value) : OwnL (w.setRow g cs) B e k v css := by
  refine ⟨h.1, h.2.1, ?_⟩
  rcases h.2.2 with hv | ⟨b, cap, cur, hv, hB, hh, hr⟩
  · exact .inl hv
  · exact .inr ⟨b, cap, cur, hv, hB, (setRow_other _ _ _ _ (by omega)).trans hh, hr⟩
/-- five cells, put together -/
theorem isV_make {w : World} {d : Nat} {k n : Int} {s : List UInt8} {vi vk : Value} {l : List VT} {ks : List (List UInt8)} {css : List (List Value)} (hv : RowL w 5 vi css) (hl : css.length = l.length)
    (hx : ∀ (i : Nat) (cs : List Value), css[i]? = some cs → ∃ x, l[i]? = some x ∧ IsV w d cs x) (hk : Strs w vk ks) (hfit : VFit (.mk k n s l ks)) : IsV w (d + 1) [.int .i64 k, .int .i64 n, str s, vi, vk] (.mk k n s l ks) := by
  obtain ⟨h0, a, c, rfl, hc, hm, hn, hr⟩ := hv
  refine ⟨_, _, rfl, hfit, hk, a, c, ?_, by show l.length ≤ c; omega, hm, hn, fun hpos => ?_⟩
  · show _ = Value.slice a l.length c
    rw [hl]
  · have hpos : 0 < l.length := hpos
    obtain ⟨b, off, ha, hx2⟩ := hr (by omega)
    refine ⟨b, off, ha, fun i hi => ?_⟩
    have hi : i < l.length := hi
    have hi2 : i < css.length := by omega
    obtain ⟨x, h1, h2⟩ := hx i css[i] (List.getElem?_eq_getElem hi2)
    exact ⟨css[i], h0 _ (List.getElem_mem hi2), hx2 i _ (List.getElem?_eq_getElem hi2), x, h1, h2⟩
theorem IsV.keyRow {w : World} {d : Nat} {k n : Value} {s vi vk : Value} {t : VT} (h : IsV w d [k, n, s, vi, vk] t) : Strs w vk t.keys := by
  cases d with
  | zero => exact h.elim
  | succ d =>
    obtain ⟨vi', vk', e, _, hk, _⟩ := h
    simp only [List.cons.injEq, and_true] at e
    rw [e.2.2.2.2]; exact hk
/-- the value of a key, if there is one -/
def getV (t : VT) (key : List UInt8) : Option VT := if t.kind = 4 ∧ t.keys.length = t.items.length ∧ 0 ≤ firstAt t.keys key then t.items[(firstAt t.keys key).toNat]? else none
theorem firstAt_lt : ∀ (ks : List (List UInt8)) (key : List UInt8), -1 ≤ firstAt ks key ∧ firstAt ks key < ks.length := by
  intro ks
  induction ks with
  | nil => intro key; rw [firstAt]; decide
  | cons k r ih =>
    intro key
    have := ih key
    rw [firstAt, List.length_cons]
    split
    · omega
    · split <;> omega
set_option maxHeartbeats 1600000 in
theorem get_none (d : Nat) (cs : List Value) (t : VT) (key : List UInt8) (W : World) (h : IsV W d cs t) (hg : getV t key = none) :
    Calls Tryd.prog 13 #[.agg cs.toArray, .string ⟨key.toArray⟩] W fun e w' => e = .returned (.tuple #[.agg valZ, .bool false]) ∧ Below W.heap.size W w' := by
  obtain ⟨ai, ci, ak, ck, rfl⟩ := h.form
  have hks := h.keyRow
  have HX := Lib.hid (fun (w1 : World) (hb : Below W.heap.size W w1) => strIdx_any _ t.keys key w1 (hks.below hb))
  have hbW : Below W.heap.size W ((W.alloc (.cells #[.int .i64 t.kind, .int .i64 t.num, .string ⟨t.txt.toArray⟩, .slice ai t.items.length ci, .slice ak t.keys.length ck] 25)).alloc (.cells valZ 25)) := ((Below.refl W.heap.size W).alloc (Nat.le_refl _) _).alloc (by simp) _
  have lA : Lies ((W.alloc (.cells #[.int .i64 t.kind, .int .i64 t.num, .string ⟨t.txt.toArray⟩, .slice ai t.items.length ci, .slice ak t.keys.length ck] 25)).alloc (.cells valZ 25)) W.heap.size 25 #[.int .i64 t.kind, .int .i64 t.num, .string ⟨t.txt.toArray⟩, .slice ai t.items.length ci, .slice ak t.keys.length ck] := (Lies.new W _ _).alloc _
  have lR : Lies ((W.alloc (.cells #[.int .i64 t.kind, .int .i64 t.num, .string ⟨t.txt.toArray⟩, .slice ai t.items.length ci, .slice ak t.keys.length ck] 25)).alloc (.cells valZ 25)) (W.heap.size + 1) 25 valZ := by
    have := Lies.new (W.alloc (.cells #[.int .i64 t.kind, .int .i64 t.num, .string ⟨t.txt.toArray⟩, .slice ai t.items.length ci, .slice ak t.keys.length ck] 25)) 25 valZ
    simpa using this
  have q0 := lA.cell 0; have q1 := lA.cell 1; have q2 := lA.cell 2; have q3 := lA.cell 3; have q4 := lA.cell 4; simp only [List.getElem?_toArray, List.getElem?_cons_succ, List.getElem?_cons_zero] at q0 q1 q2 q3 q4
  have hlt := firstAt_lt t.keys key
  by_cases h4 : t.kind = 4
  case neg =>
    have h5 : (t.kind != 4) = true := by simpa using h4
    clear h hks hg
    generalize firstAt t.keys key = j at *
    go_enter Tryd.func13, Tryd.ntmps13
    go_wp2_with (first | (go_at_call 18; (with_reducible refine (HX.out _ hbW).mono ?_); rintro e w1 ⟨rfl, hb1⟩; replace hbW := below_on hbW hb1; replace lA := lA.on hb1; replace lR := lR.on hb1; have q0 := lA.cell 0; have q1 := lA.cell 1; have q2 := lA.cell 2; have q3 := lA.cell 3; have q4 := lA.cell 4; simp only [List.getElem?_toArray, List.getElem?_cons_succ, List.getElem?_cons_zero] at q0 q1 q2 q3 q4) | ((with_reducible refine wpL_store (W.heap.size + 1) 25 valZ valZ 5 rowVal rfl rfl (valC_one _ _ _ _ _ _ _ _ _) lR ?_ ?_ ?_); rfl; rfl))
    exact bodyPost_ret (results_row_tmp Tryd.results13 rowVal rfl (lR.row _) rfl rfl) rfl ⟨rfl, below_rowSet hbW (Nat.le_succ _) _⟩
  have h5 : (t.kind != 4) = false := by simp [h4]
  by_cases hl : t.keys.length = t.items.length
  case neg =>
    have h6 : ((t.keys.length : Int) != (t.items.length : Int)) = true := by simp; omega
    clear h hks hg h4
    generalize firstAt t.keys key = j at *
    go_enter Tryd.func13, Tryd.ntmps13
    go_wp2_with (first | (go_at_call 18; (with_reducible refine (HX.out _ hbW).mono ?_); rintro e w1 ⟨rfl, hb1⟩; replace hbW := below_on hbW hb1; replace lA := lA.on hb1; replace lR := lR.on hb1; have q0 := lA.cell 0; have q1 := lA.cell 1; have q2 := lA.cell 2; have q3 := lA.cell 3; have q4 := lA.cell 4; simp only [List.getElem?_toArray, List.getElem?_cons_succ, List.getElem?_cons_zero] at q0 q1 q2 q3 q4) | ((with_reducible refine wpL_store (W.heap.size + 1) 25 valZ valZ 5 rowVal rfl rfl (valC_one _ _ _ _ _ _ _ _ _) lR ?_ ?_ ?_); rfl; rfl))
    exact bodyPost_ret (results_row_tmp Tryd.results13 rowVal rfl (lR.row _) rfl rfl) rfl ⟨rfl, below_rowSet hbW (Nat.le_succ _) _⟩
  have h6 : ((t.keys.length : Int) != (t.items.length : Int)) = false := by rw [hl]; exact bne_self_eq_false _
  have h7 : firstAt t.keys key < 0 := by
    by_cases h8 : firstAt t.keys key < 0
    · exact h8
    · unfold getV at hg
      rw [if_pos ⟨h4, hl, by omega⟩, List.getElem?_eq_none_iff] at hg
      omega
  clear h hks hg h4 hl
  generalize firstAt t.keys key = j at *
  go_enter Tryd.func13, Tryd.ntmps13
  go_wp2_with (first | (go_at_call 18; (with_reducible refine (HX.out _ hbW).mono ?_); rintro e w1 ⟨rfl, hb1⟩; replace hbW := below_on hbW hb1; replace lA := lA.on hb1; replace lR := lR.on hb1; have q0 := lA.cell 0; have q1 := lA.cell 1; have q2 := lA.cell 2; have q3 := lA.cell 3; have q4 := lA.cell 4; simp only [List.getElem?_toArray, List.getElem?_cons_succ, List.getElem?_cons_zero] at q0 q1 q2 q3 q4) | ((with_reducible refine wpL_store (W.heap.size + 1) 25 valZ valZ 5 rowVal rfl rfl (valC_one _ _ _ _ _ _ _ _ _) lR ?_ ?_ ?_); rfl; rfl))
  exact bodyPost_ret (results_row_tmp Tryd.results13 rowVal rfl (lR.row _) rfl rfl) rfl ⟨rfl, below_rowSet hbW (Nat.le_succ _) _⟩
end Go.Proofs.YtmbmeidkmhajbaaDoor.V

/- How a text is read as a value: what is read of a text, written, is the text, and what is written is read. Nothing of the program is named here. -/
namespace Go.Proofs.YtmbmeidkmhajbaaDoor.V
open Go

/-- what reading comes to: an error, or a thing and what stands behind it -/
inductive Rd (α : Type) where
  | bad (e : Int) : Rd α
  | ok (a : α) (r : List UInt8) : Rd α
def Rd.map {α β : Type} (f : α → β) : Rd α → Rd β
  | .bad e => .bad e
  | .ok a r => .ok (f a) r
/-- a text behind its quote, with k bytes read of it -/
def rdT : Nat → List UInt8 → Rd (List UInt8)
  | _, [] => .bad 3
  | k, c :: r => if c.toNat < 32 then .bad 20 else if c = 34 then .ok [] r else if c = 92 then
      (match r with
      | [] => .bad 3
      | d :: r' => if d ≠ 34 ∧ d ≠ 92 then .bad 20 else if k = 4000 then .bad 2 else (rdT (k + 1) r').map (d :: ·))
    else if k = 4000 then .bad 2 else (rdT (k + 1) r).map (c :: ·)
theorem rdT_nil (k : Nat) : rdT k [] = .bad 3 := by rw [rdT]
theorem rdT_low {c : UInt8} (h : c.toNat < 32) (k : Nat) (r : List UInt8) : rdT k (c :: r) = .bad 20 := by unfold rdT; rw [if_pos h]
theorem rdT_end (k : Nat) (r : List UInt8) : rdT k (34 :: r) = .ok [] r := by unfold rdT; rw [if_neg (by decide), if_pos rfl]
theorem rdT_bar (k : Nat) : rdT k [92] = .bad 3 := by unfold rdT; rw [if_neg (by decide), if_neg (by decide), if_pos rfl]
theorem rdT_odd {d : UInt8} (h : d ≠ 34 ∧ d ≠ 92) (k : Nat) (r : List UInt8) : rdT k (92 :: d :: r) = .bad 20 := by
  rw [rdT.eq_def]
  show (if (92 : UInt8).toNat < 32 then _ else if (92 : UInt8) = 34 then _ else if (92 : UInt8) = 92 then _ else _) = _
  rw [if_neg (by decide), if_neg (by decide), if_pos rfl]
  exact if_pos h
theorem rdT_esc {d : UInt8} (h : d = 34 ∨ d = 92) (k : Nat) (r : List UInt8) : rdT k (92 :: d :: r) = if k = 4000 then .bad 2 else (rdT (k + 1) r).map (d :: ·) := by
  rw [rdT.eq_def]
  show (if (92 : UInt8).toNat < 32 then _ else if (92 : UInt8) = 34 then _ else if (92 : UInt8) = 92 then _ else _) = _
  rw [if_neg (by decide), if_neg (by decide), if_pos rfl]
  exact if_neg (by rcases h with rfl | rfl <;> decide)
theorem rdT_char {c : UInt8} (h : ¬ c.toNat < 32) (h2 : c ≠ 34) (h3 : c ≠ 92) (k : Nat) (r : List UInt8) : rdT k (c :: r) = if k = 4000 then .bad 2 else (rdT (k + 1) r).map (c :: ·) := by
  rw [rdT.eq_def]
  show (if c.toNat < 32 then _ else if c = 34 then _ else if c = 92 then _ else _) = _
  rw [if_neg h, if_neg h2, if_neg h3]
theorem map_ok {α β : Type} {f : α → β} {x : Rd α} {b : β} {r : List UInt8} (h : x.map f = .ok b r) : ∃ a, x = .ok a r ∧ b = f a := by
  cases x with
  | bad e => cases h
  | ok a r' =>
    unfold Rd.map at h
    simp only [Rd.ok.injEq] at h
    exact ⟨a, by rw [h.2], h.1.symm⟩
theorem rdT_ok : ∀ (m : Nat) (s : List UInt8), s.length ≤ m → ∀ (k : Nat) (w r : List UInt8), k ≤ 4000 → rdT k s = .ok w r → s = escL w ++ 34 :: r ∧ (∀ c ∈ w, 32 ≤ c.toNat) ∧ w.length + k ≤ 4000 := by
  intro m
  induction m with
  | zero =>
    intro s hs k w r _ h
    obtain rfl := List.eq_nil_of_length_eq_zero (Nat.le_zero.1 hs)
    rw [rdT_nil] at h
    cases h
  | succ m ih =>
    intro s hs k w r hk h
    cases s with
    | nil => rw [rdT_nil] at h; cases h
    | cons c s =>
      rw [List.length_cons] at hs
      by_cases h1 : c.toNat < 32
      · rw [rdT_low h1] at h; cases h
      by_cases h2 : c = 34
      · subst h2
        rw [rdT_end] at h
        simp only [Rd.ok.injEq] at h
        obtain ⟨rfl, rfl⟩ := h
        exact ⟨rfl, (fun c h => by cases h), by simpa using hk⟩
      by_cases h3 : c = 92
      · subst h3
        cases s with
        | nil => rw [rdT_bar] at h; cases h
        | cons d s =>
          rw [List.length_cons] at hs
          by_cases h4 : d = 34 ∨ d = 92
          · rw [rdT_esc h4] at h
            by_cases h5 : k = 4000
            · rw [if_pos h5] at h; cases h
            rw [if_neg h5] at h
            obtain ⟨a, ha, rfl⟩ := map_ok h
            obtain ⟨e1, e2, e3⟩ := ih s (by omega) (k + 1) a r (by omega) ha
            refine ⟨?_, fun x hx => ?_, by rw [List.length_cons]; omega⟩
            · rw [escL, if_pos h4, e1]; rfl
            · rcases List.mem_cons.1 hx with rfl | hx
              · rcases h4 with rfl | rfl <;> decide
              · exact e2 x hx
          · rw [rdT_odd ⟨fun e => h4 (.inl e), fun e => h4 (.inr e)⟩] at h; cases h
      · rw [rdT_char h1 h2 h3] at h
        by_cases h5 : k = 4000
        · rw [if_pos h5] at h; cases h
        rw [if_neg h5] at h
        obtain ⟨a, ha, rfl⟩ := map_ok h
        obtain ⟨e1, e2, e3⟩ := ih s (by omega) (k + 1) a r (by omega) ha
        refine ⟨?_, fun x hx => ?_, by rw [List.length_cons]; omega⟩
        · rw [escL, if_neg (by rintro (h | h) <;> contradiction), e1]; rfl
        · rcases List.mem_cons.1 hx with rfl | hx
          · omega
          · exact e2 x hx
theorem rdT_esc_ok : ∀ (w : List UInt8) (k : Nat) (r : List UInt8), (∀ c ∈ w, 32 ≤ c.toNat) → w.length + k ≤ 4000 → rdT k (escL w ++ 34 :: r) = .ok w r := by
  intro w
  induction w with
  | nil => intro k r _ _; exact rdT_end k r
  | cons c w ih =>
    intro k r hc hk
    rw [List.length_cons] at hk
    have h0 := hc c (by simp)
    have hi := ih (k + 1) r (fun x hx => hc x (by simp [hx])) (by omega)
    rw [escL]
    by_cases h : c = 34 ∨ c = 92
    · rw [if_pos h]
      show rdT k (92 :: c :: (escL w ++ 34 :: r)) = _
      rw [rdT_esc h, if_neg (by omega), hi]
      rfl
    · rw [if_neg h]
      show rdT k (c :: (escL w ++ 34 :: r)) = _
      rw [rdT_char (by omega) (fun e => h (.inl e)) (fun e => h (.inr e)), if_neg (by omega), hi]
      rfl
theorem head_front {a : List UInt8} (h : a ≠ []) (b : List UInt8) : (a ++ b).head? = a.head? := by
  cases a with
  | nil => exact absurd rfl h
  | cons x a => rfl
/-! ### numbers -/
theorem dec_of : ∀ (m : Nat) (d : List UInt8), d.length ≤ m → d ≠ [] → (∀ c ∈ d, isDig c = true) → (d.length = 1 ∨ d.head? ≠ some 48) → Lib.decDigits (decVal d) = d := by
  intro m
  induction m with
  | zero => intro d h hn; exact absurd (List.eq_nil_of_length_eq_zero (Nat.le_zero.1 h)) hn
  | succ m ih =>
    intro d h hn hd hz
    obtain ⟨a, c, rfl⟩ : ∃ a c, d = a ++ [c] := ⟨d.dropLast, d.getLast hn, (List.dropLast_concat_getLast hn).symm⟩
    have hc := hd c (by simp)
    unfold isDig at hc
    rw [Bool.and_eq_true, decide_eq_true_eq, decide_eq_true_eq] at hc
    have hcc : UInt8.ofNat (48 + (c.toNat - 48)) = c := by
      rw [show 48 + (c.toNat - 48) = c.toNat by omega]
      exact UInt8.ofNat_toNat
    rw [decVal_snoc]
    by_cases ha : a = []
    · subst ha
      show Lib.decDigits (10 * 0 + _) = _
      rw [Lib.decDigits_one (by omega), show 10 * 0 + (c.toNat - 48) = c.toNat - 48 by omega, hcc]
      rfl
    · have hal : 0 < a.length := List.length_pos_iff.2 ha
      rw [List.length_append, List.length_singleton] at h hz
      have hz2 : a.head? ≠ some 48 := by
        have := hz.resolve_left (by omega)
        rwa [head_front ha] at this
      have hi := ih a (by omega) ha (fun x hx => hd x (by simp [hx])) (.inr hz2)
      have h1 : 1 ≤ decVal a := by
        rcases Nat.eq_zero_or_pos (decVal a) with h0 | h0
        · rw [h0, Lib.decDigits_one (by decide)] at hi
          rw [← hi] at hz2
          exact absurd rfl hz2
        · exact h0
      rw [Lib.decDigits, dif_neg (by omega), show (10 * decVal a + (c.toNat - 48)) / 10 = decVal a by omega, show (10 * decVal a + (c.toNat - 48)) % 10 = c.toNat - 48 by omega, hi, hcc]
theorem dec_lead (u : Nat) : (Lib.decDigits u).length = 1 ∨ (Lib.decDigits u).head? ≠ some 48 := by
  induction u using Nat.strongRecOn with
  | ind u ih =>
    by_cases h : u < 10
    · rw [Lib.decDigits_one h]; exact .inl rfl
    · refine .inr ?_
      rw [Lib.decDigits, dif_neg h, head_front (dec_ne _)]
      rcases ih (u / 10) (by omega) with h1 | h1
      · by_cases h2 : u / 10 < 10
        · rw [Lib.decDigits_one h2]
          intro e
          simp only [List.head?_cons, Option.some.injEq] at e
          have := congrArg UInt8.toNat e
          rw [digit_of _ h2] at this
          have h48 : (48 : UInt8).toNat = 48 := rfl
          omega
        · exfalso
          rw [Lib.decDigits, dif_neg h2, List.length_append, List.length_singleton] at h1
          have := List.length_pos_iff.2 (dec_ne (u / 10 / 10))
          omega
      · exact h1
def minus (s : List UInt8) : Bool := decide (s.head? = some 45)
def afterSign (s : List UInt8) : List UInt8 := if minus s then s.tail else s
def rdN (s : List UInt8) : Rd Int :=
  if (afterSign s).takeWhile isDig = [] ∨ (1 < ((afterSign s).takeWhile isDig).length ∧ ((afterSign s).takeWhile isDig).head? = some 48) ∨ (minus s = true ∧ (afterSign s).takeWhile isDig = [48]) then .bad 20
  else if 1099511627776 < decVal ((afterSign s).takeWhile isDig) then .bad 2
  else .ok (if minus s then -(decVal ((afterSign s).takeWhile isDig) : Int) else decVal ((afterSign s).takeWhile isDig)) ((afterSign s).dropWhile isDig)
theorem takeWhile_all {p : UInt8 → Bool} : ∀ (l : List UInt8), ∀ c ∈ l.takeWhile p, p c = true := by
  intro l
  induction l with
  | nil => intro c h; cases h
  | cons a l ih =>
    intro c h
    rw [List.takeWhile_cons] at h
    split at h
    case isTrue hp =>
      rcases List.mem_cons.1 h with rfl | h
      · exact hp
      · exact ih c h
    case isFalse => cases h
theorem dropWhile_delim : ∀ (l : List UInt8), Delim (l.dropWhile isDig) := by
  intro l
  induction l with
  | nil => intro c t e; cases e
  | cons a l ih =>
    rw [List.dropWhile_cons]
    split
    case isTrue => exact ih
    case isFalse hp =>
      intro c t e
      injection e with e1 _
      rw [← e1]
      simpa using hp
theorem while_append : ∀ (d r : List UInt8), (∀ c ∈ d, isDig c = true) → Delim r → (d ++ r).takeWhile isDig = d ∧ (d ++ r).dropWhile isDig = r := by
  intro d
  induction d with
  | nil =>
    intro r _ hr
    cases r with
    | nil => exact ⟨rfl, rfl⟩
    | cons c r =>
      have := hr c r rfl
      rw [List.nil_append, List.takeWhile_cons, List.dropWhile_cons, this]
      exact ⟨rfl, rfl⟩
  | cons c d ih =>
    intro r hd hr
    obtain ⟨h1, h2⟩ := ih r (fun x hx => hd x (by simp [hx])) hr
    rw [List.cons_append, List.takeWhile_cons, List.dropWhile_cons, hd c (by simp)]
    simp only [if_true]
    exact ⟨by rw [h1], h2⟩
theorem rdN_ok {s r : List UInt8} {z : Int} (h : rdN s = .ok z r) : s = Lib.itoa z ++ r ∧ (-1099511627776 ≤ z ∧ z ≤ 1099511627776) ∧ Delim r := by
  unfold rdN at h
  split at h
  case isTrue => cases h
  case isFalse hno =>
    split at h
    case isTrue => cases h
    case isFalse hle =>
      simp only [Rd.ok.injEq] at h
      obtain ⟨hz, hr⟩ := h
      have hsp := List.takeWhile_append_dropWhile (p := isDig) (l := afterSign s)
      have hdd := takeWhile_all (p := isDig) (afterSign s)
      have hdl := dropWhile_delim (afterSign s)
      rw [hr] at hsp hdl
      generalize (afterSign s).takeWhile isDig = d at *
      have h1 : d ≠ [] := fun e => hno (.inl e)
      have h2 : d.length = 1 ∨ d.head? ≠ some 48 := by
        by_cases h3 : d.head? = some 48
        · refine .inl ?_
          have h4 : ¬ 1 < d.length := fun h4 => hno (.inr (.inl ⟨h4, h3⟩))
          have := List.length_pos_iff.2 h1
          omega
        · exact .inr h3
      have hv := dec_of d.length d (Nat.le_refl _) h1 hdd h2
      cases hm : minus s with
      | false =>
        rw [hm] at hz
        simp only [Bool.false_eq_true, if_false] at hz
        unfold afterSign at hsp
        rw [hm] at hsp
        simp only [Bool.false_eq_true, if_false] at hsp
        refine ⟨?_, by omega, hdl⟩
        unfold Lib.itoa
        rw [if_neg (by omega), ← hsp, ← hz, Int.toNat_natCast, hv]
      | true =>
        rw [hm] at hz
        simp only [if_true] at hz
        unfold afterSign at hsp
        rw [hm] at hsp
        simp only [if_true] at hsp
        have h0 : decVal d ≠ 0 := by
          intro h0
          rw [h0, Lib.decDigits_one (by decide)] at hv
          exact hno (.inr (.inr ⟨hm, hv.symm⟩))
        obtain ⟨t, rfl⟩ : ∃ t, s = 45 :: t := by
          unfold minus at hm
          rw [decide_eq_true_eq] at hm
          cases s with
          | nil => cases hm
          | cons c t =>
            simp only [List.head?_cons, Option.some.injEq] at hm
            exact ⟨t, by rw [hm]⟩
        refine ⟨?_, by omega, hdl⟩
        unfold Lib.itoa
        rw [if_pos (by omega), List.cons_append, show z.natAbs = decVal d by omega, hv]
        rw [List.tail_cons] at hsp
        rw [hsp]
theorem rdN_itoa {z : Int} {r : List UInt8} (h : -1099511627776 ≤ z ∧ z ≤ 1099511627776) (hr : Delim r) : rdN (Lib.itoa z ++ r) = .ok z r := by
  unfold Lib.itoa
  by_cases hz : z < 0
  · rw [if_pos hz]
    obtain ⟨d1, v1⟩ := dec_digits z.natAbs z.natAbs (Nat.le_refl _)
    obtain ⟨w1, w2⟩ := while_append _ r d1 hr
    have hm : minus (45 :: (Lib.decDigits z.natAbs) ++ r) = true := rfl
    have ha : afterSign (45 :: (Lib.decDigits z.natAbs) ++ r) = Lib.decDigits z.natAbs ++ r := by unfold afterSign; rw [hm]; rfl
    unfold rdN
    rw [ha, w1, w2, v1, hm]
    rw [if_neg, if_neg (by omega)]
    · simp only [if_true, Rd.ok.injEq, and_true]; omega
    · rintro (h1 | ⟨h1, h2⟩ | ⟨_, h2⟩)
      · exact dec_ne _ h1
      · rcases dec_lead z.natAbs with h3 | h3
        · omega
        · exact h3 h2
      · rw [h2] at v1
        have : decVal [48] = 0 := rfl
        omega
  · rw [if_neg hz]
    obtain ⟨d1, v1⟩ := dec_digits z.toNat z.toNat (Nat.le_refl _)
    obtain ⟨w1, w2⟩ := while_append _ r d1 hr
    have hm : minus (Lib.decDigits z.toNat ++ r) = false := by
      obtain ⟨c, t, hc, hd⟩ := dec_head z.toNat
      rw [hc]
      unfold minus
      rw [decide_eq_false_iff_not]
      intro e
      simp only [List.cons_append, List.head?_cons, Option.some.injEq] at e
      rw [e] at hd
      exact absurd hd (by decide)
    have ha : afterSign (Lib.decDigits z.toNat ++ r) = Lib.decDigits z.toNat ++ r := by unfold afterSign; rw [hm]; rfl
    unfold rdN
    rw [ha, w1, w2, v1, hm]
    rw [if_neg, if_neg (by omega)]
    · simp only [Bool.false_eq_true, if_false, Rd.ok.injEq, and_true]; omega
    · rintro (h1 | ⟨h1, h2⟩ | ⟨h1, _⟩)
      · exact dec_ne _ h1
      · rcases dec_lead z.toNat with h3 | h3
        · omega
        · exact h3 h2
      · cases h1
end Go.Proofs.YtmbmeidkmhajbaaDoor.V

/- How a text is read as a value, and that reading and writing lead to one another. Nothing of the program is named here. -/
namespace Go.Proofs.YtmbmeidkmhajbaaDoor.V
open Go

/-- values of a list, read one by one -/
def rdL (rv : Nat → List UInt8 → Rd (VT × Nat)) : Nat → Nat → List UInt8 → Rd (List VT × Nat)
  | 0, _, _ => .bad 3
  | f + 1, n, s =>
    match rv n s with
    | .bad e => .bad e
    | .ok _ [] => .bad 3
    | .ok (x, n1) (c :: r) => if c = 93 then .ok ([x], n1) r else if c = 44 then (rdL rv f n1 r).map (fun p => (x :: p.1, p.2)) else .bad 20
/-- a key and its colon; the one ahead of it, if there is one -/
def rdK (prev : Option (List UInt8)) : List UInt8 → Rd (List UInt8)
  | [] => .bad 3
  | c :: s => if c ≠ 34 then .bad 20 else
    match rdT 0 s with
    | .bad e => .bad e
    | .ok k s2 => if prev.any (fun p => !lessL p k) = true then .bad 23 else
      match s2 with
      | [] => .bad 3
      | c :: s3 => if c ≠ 58 then .bad 20 else .ok k s3
/-- values by keys, read one by one -/
def rdM (rv : Nat → List UInt8 → Rd (VT × Nat)) : Nat → Option (List UInt8) → Nat → List UInt8 → Rd (List VT × List (List UInt8) × Nat)
  | 0, _, _, _ => .bad 3
  | f + 1, prev, n, s =>
    match rdK prev s with
    | .bad e => .bad e
    | .ok k s1 =>
      match rv n s1 with
      | .bad e => .bad e
      | .ok _ [] => .bad 3
      | .ok (x, n1) (c :: r) => if c = 125 then .ok ([x], [k], n1) r else if c = 44 then (rdM rv f (some k) n1 r).map (fun p => (x :: p.1, k :: p.2.1, p.2.2)) else .bad 20
/-- a list behind its sign -/
def rdB (rv : Nat → List UInt8 → Rd (VT × Nat)) (n : Nat) (r : List UInt8) : Rd (VT × Nat) :=
  if r.head? = some 93 then .ok (.mk 3 0 [] [] [], n) r.tail else (rdL rv (r.length + 1) n r).map (fun p => (.mk 3 0 [] p.1 [], p.2))
def rdO (rv : Nat → List UInt8 → Rd (VT × Nat)) (n : Nat) (r : List UInt8) : Rd (VT × Nat) :=
  if r.head? = some 125 then .ok (.mk 4 0 [] [] [], n) r.tail else (rdM rv (r.length + 1) none n r).map (fun p => (.mk 4 0 [] p.1 p.2.1, p.2.2))
/-- a value, with so many levels left and n begun -/
def rdV : Nat → Nat → List UInt8 → Rd (VT × Nat)
  | 0, _, _ => .bad 21
  | _ + 1, n, [] => if n = 2000 then .bad 22 else .bad 3
  | L + 1, n, c :: r => if n = 2000 then .bad 22 else
    if c = 45 ∨ isDig c = true then (rdN (c :: r)).map (fun z => (.mk 1 z [] [] [], n + 1))
    else if c = 34 then (rdT 0 r).map (fun w => (.mk 2 0 w [] [], n + 1))
    else if c = 91 then rdB (rdV L) (n + 1) r
    else if c = 123 then rdO (rdV L) (n + 1) r
    else .bad 20
/-- a whole text -/
def rdP (s : List UInt8) : Rd VT :=
  if 65536 < s.length then .bad 2 else
    match rdV 12 0 s with
    | .bad e => .bad e
    | .ok (t, _) [] => .ok t []
    | .ok _ (_ :: _) => .bad 20

/-! ### what is read, written, is the text -/
theorem wrL_false {l : List VT} (h : l ≠ []) : wrL false l = 44 :: wrL true l := by
  cases l with
  | nil => exact absurd rfl h
  | cons x r => rw [wrL_cons, wrL_cons]; rfl
theorem wrM_false {l : List VT} (h : l ≠ []) (ks : List (List UInt8)) : wrM false l ks = 44 :: wrM true l ks := by
  cases l with
  | nil => exact absurd rfl h
  | cons x r => rw [wrM_cons, wrM_cons]; rfl
theorem keysOk_cons {k : List UInt8} {ks : List (List UInt8)} (h : textOk k = true) (h2 : keysOk ks = true) (h3 : ∀ q, ks.head? = some q → lessL k q = true) : keysOk (k :: ks) = true := by
  cases ks with
  | nil => rw [keysOk_one]; exact h
  | cons q ks => rw [keysOk_two, h, h3 q rfl, h2]; rfl
theorem oneB_num {z : Int} (h : -1099511627776 ≤ z ∧ z ≤ 1099511627776) : oneB 1 z [] 0 [] = true := by
  unfold oneB; simp [textOk, keysOk_nil, h.1, h.2]
theorem oneB_txt {w : List UInt8} (h : textOk w = true) : oneB 2 0 w 0 [] = true := by
  unfold oneB; simp [h, keysOk_nil]
theorem oneB_map {m : Nat} {ks : List (List UInt8)} (h : ks.length = m) (h2 : keysOk ks = true) : oneB 4 0 [] m ks = true := by
  unfold oneB; simp [textOk, h, h2]
theorem head_tail {s : List UInt8} {c : UInt8} (h : s.head? = some c) : s = c :: s.tail := by
  cases s with
  | nil => cases h
  | cons a s => simp only [List.head?_cons, Option.some.injEq] at h; rw [h]; rfl
/-! ### what is written is read -/
def Comp (rv : Nat → List UInt8 → Rd (VT × Nat)) (d : Nat) : Prop := ∀ (n : Nat) (t : VT) (r : List UInt8), t.each = true → t.depth ≤ d → n + t.count ≤ 2000 → (t.kind = 1 → Delim r) → rv n (t.wr ++ r) = .ok (t, n + t.count) r
theorem wr_pos {t : VT} (h : t.each = true) : 1 ≤ t.wr.length := by
  obtain ⟨c, u, e, _⟩ := wr_head h
  rw [e, List.length_cons]
  omega
theorem wrL_long : ∀ (l : List VT) (b : Bool), eachL l = true → l.length ≤ (wrL b l).length := by
  intro l
  induction l with
  | nil => intro b _; exact Nat.zero_le _
  | cons x l ih =>
    intro b h
    rw [eachL_cons, Bool.and_eq_true] at h
    have h1 := wr_pos h.1
    have h2 := ih false h.2
    rw [wrL_cons, List.length_append, List.length_append, List.length_cons]
    omega
theorem wrM_long : ∀ (l : List VT) (b : Bool) (ks : List (List UInt8)), eachL l = true → l.length ≤ (wrM b l ks).length := by
  intro l
  induction l with
  | nil => intro b ks _; exact Nat.zero_le _
  | cons x l ih =>
    intro b ks h
    rw [eachL_cons, Bool.and_eq_true] at h
    have h1 := wr_pos h.1
    have h2 := ih false ks.tail h.2
    rw [wrM_cons]
    simp only [List.length_append, List.length_cons]
    omega
theorem delim_sep (c : UInt8) (r : List UInt8) (h : c = 93 ∨ c = 125 ∨ c = 44) : Delim (c :: r) := delim_at (by rcases h with rfl | rfl | rfl <;> decide)
theorem rdL_wr {rv : Nat → List UInt8 → Rd (VT × Nat)} {d : Nat} (H : Comp rv d) : ∀ (l : List VT) (f n : Nat) (r : List UInt8), l ≠ [] → eachL l = true → depthL l ≤ d → n + countL l ≤ 2000 → l.length ≤ f → rdL rv f n (wrL true l ++ 93 :: r) = .ok (l, n + countL l) r := by
  intro l
  induction l with
  | nil => intro f n r h; exact absurd rfl h
  | cons x l ih =>
    intro f n r _ he hd hc hf
    rw [eachL_cons, Bool.and_eq_true] at he
    rw [depthL_cons] at hd
    rw [countL_cons] at hc
    rw [List.length_cons] at hf
    obtain ⟨f, rfl⟩ : ∃ g, f = g + 1 := ⟨f - 1, by omega⟩
    by_cases hl : l = []
    · subst hl
      rw [countL_cons, countL_nil, wrL_cons, wrL_nil, rdL]
      have h1 := H n x (93 :: r) he.1 (by omega) (by omega) (fun _ => delim_sep 93 r (.inl rfl))
      rw [show (if true = true then ([] : List UInt8) else [44]) ++ (x.wr ++ []) ++ 93 :: r = x.wr ++ 93 :: r by simp, h1]
      simp only []
      rw [if_pos trivial]
      rfl
    · rw [countL_cons, wrL_cons, wrL_false hl, rdL]
      have h1 := H n x (44 :: (wrL true l ++ 93 :: r)) he.1 (by omega) (by omega) (fun _ => delim_sep 44 _ (.inr (.inr rfl)))
      rw [show (if true = true then ([] : List UInt8) else [44]) ++ (x.wr ++ 44 :: wrL true l) ++ 93 :: r = x.wr ++ 44 :: (wrL true l ++ 93 :: r) by simp, h1]
      simp only []
      rw [if_neg (by decide), if_pos trivial, ih f (n + x.count) r hl he.2 (by omega) (by omega) (by omega)]
      unfold Rd.map
      simp only [Rd.ok.injEq, Prod.mk.injEq, and_true, true_and]
      omega
theorem textOk_parts {k : List UInt8} (h : textOk k = true) : (∀ c ∈ k, 32 ≤ c.toNat) ∧ k.length ≤ 4000 := by
  unfold textOk at h
  rw [Bool.and_eq_true, List.all_eq_true, decide_eq_true_eq] at h
  exact ⟨fun c hc => of_decide_eq_true (h.1 c hc), h.2⟩
theorem rdK_wr {prev : Option (List UInt8)} {k r : List UInt8} (h : textOk k = true) (hp : ∀ p, prev = some p → lessL p k = true) : rdK prev (quotL k ++ 58 :: r) = .ok k r := by
  obtain ⟨h1, h2⟩ := textOk_parts h
  unfold quotL
  rw [List.cons_append, rdK, if_neg (by decide), show escL k ++ [34] ++ 58 :: r = escL k ++ 34 :: (58 :: r) by simp, rdT_esc_ok k 0 (58 :: r) h1 (by omega)]
  simp only []
  rw [if_neg, if_neg (by decide)]
  intro g
  cases prev with
  | none => simp at g
  | some p => simp [hp p rfl] at g
theorem keysOk_parts {k : List UInt8} {ks : List (List UInt8)} (h : keysOk (k :: ks) = true) : textOk k = true ∧ keysOk ks = true ∧ ∀ q, ks.head? = some q → lessL k q = true := by
  cases ks with
  | nil => rw [keysOk_one] at h; exact ⟨h, keysOk_nil, fun q e => by cases e⟩
  | cons q ks =>
    rw [keysOk_two, Bool.and_eq_true, Bool.and_eq_true] at h
    exact ⟨h.1.1, h.2, fun q' e => by simp only [List.head?_cons, Option.some.injEq] at e; rw [← e]; exact h.1.2⟩
theorem rdM_wr {rv : Nat → List UInt8 → Rd (VT × Nat)} {d : Nat} (H : Comp rv d) : ∀ (l : List VT) (ks : List (List UInt8)) (f : Nat) (prev : Option (List UInt8)) (n : Nat) (r : List UInt8), l ≠ [] → eachL l = true → depthL l ≤ d → n + countL l ≤ 2000 → l.length ≤ f → ks.length = l.length → keysOk ks = true → (∀ p q, prev = some p → ks.head? = some q → lessL p q = true) → rdM rv f prev n (wrM true l ks ++ 125 :: r) = .ok (l, ks, n + countL l) r := by
  intro l
  induction l with
  | nil => intro ks f prev n r h; exact absurd rfl h
  | cons x l ih =>
    intro ks f prev n r _ he hd hc hf hkl hk hp
    obtain ⟨k, ks, rfl⟩ : ∃ k t, ks = k :: t := by
      cases ks with
      | nil => simp at hkl
      | cons k t => exact ⟨k, t, rfl⟩
    obtain ⟨k1, k2, k3⟩ := keysOk_parts hk
    have hkr : ∀ u, rdK prev (quotL k ++ 58 :: u) = .ok k u := fun u => rdK_wr k1 (fun p hpe => hp p k hpe rfl)
    rw [eachL_cons, Bool.and_eq_true] at he
    rw [depthL_cons] at hd
    rw [countL_cons] at hc
    rw [List.length_cons] at hf
    have hkl : ks.length = l.length := by simpa using hkl
    obtain ⟨f, rfl⟩ : ∃ g, f = g + 1 := ⟨f - 1, by omega⟩
    by_cases hl : l = []
    · subst hl
      obtain rfl : ks = [] := List.eq_nil_of_length_eq_zero (by simpa using hkl)
      rw [countL_cons, countL_nil, wrM_cons, wrM_nil, rdM]
      have h1 := H n x (125 :: r) he.1 (by omega) (by omega) (fun _ => delim_sep 125 r (.inr (.inl rfl)))
      rw [show (if true = true then ([] : List UInt8) else [44]) ++ (quotL ([k].headD []) ++ 58 :: (x.wr ++ [])) ++ 125 :: r = quotL k ++ 58 :: (x.wr ++ 125 :: r) by simp, hkr]
      simp only []
      rw [h1]
      simp only []
      rw [if_pos trivial]
      rfl
    · rw [countL_cons, wrM_cons, List.tail_cons, wrM_false hl, rdM]
      have h1 := H n x (44 :: (wrM true l ks ++ 125 :: r)) he.1 (by omega) (by omega) (fun _ => delim_sep 44 _ (.inr (.inr rfl)))
      rw [show (if true = true then ([] : List UInt8) else [44]) ++ (quotL ((k :: ks).headD []) ++ 58 :: (x.wr ++ 44 :: wrM true l ks)) ++ 125 :: r = quotL k ++ 58 :: (x.wr ++ 44 :: (wrM true l ks ++ 125 :: r)) by simp, hkr]
      simp only []
      rw [h1]
      simp only []
      rw [if_neg (by decide), if_pos trivial, ih ks f (some k) (n + x.count) r hl he.2 (by omega) (by omega) (by omega) hkl k2 (fun p q hpe hq => by simp only [Option.some.injEq] at hpe; rw [← hpe]; exact k3 q hq)]
      unfold Rd.map
      simp only [Rd.ok.injEq, Prod.mk.injEq, and_true, true_and]
      omega
theorem oneB_parts {k n : Int} {s : List UInt8} {m : Nat} {ks : List (List UInt8)} (h : oneB k n s m ks = true) : (-1099511627776 ≤ n ∧ n ≤ 1099511627776) ∧ textOk s = true ∧ keysOk ks = true := by
  unfold oneB at h
  simp only [Bool.and_eq_true, decide_eq_true_eq] at h
  exact ⟨h.1.1.1.2, h.1.1.2, h.2⟩
theorem rdV_wr : ∀ d : Nat, Comp (rdV d) d := by
  intro d
  induction d with
  | zero => intro n t r _ h; obtain ⟨k, z, s, l, ks⟩ := t; rw [depth_eq] at h; omega
  | succ d ih =>
    intro n t r he hd hc hdl
    have hcp := count_pos t
    obtain ⟨k, z, s, l, ks⟩ := t
    rw [each_eq, Bool.and_eq_true] at he
    rw [depth_eq] at hd
    rw [count_eq] at hc hcp ⊢
    obtain ⟨p1, p2, p3⟩ := oneB_parts he.2
    rw [wr_eq]
    rcases one_of he.2 with ⟨rfl, rfl, e2, rfl⟩ | ⟨rfl, rfl, e2, rfl⟩ | ⟨rfl, rfl, rfl, rfl⟩ | ⟨rfl, rfl, rfl, e2⟩
    · obtain rfl := List.eq_nil_of_length_eq_zero e2
      rw [if_pos rfl, countL_nil]
      obtain ⟨c, u, e, hh⟩ := itoa_head z
      have hN := rdN_itoa p1 (hdl rfl)
      rw [e, List.cons_append] at hN ⊢
      rw [rdV, if_neg (by omega), if_pos (show c = 45 ∨ isDig c = true from hh), hN]
      rfl
    · obtain rfl := List.eq_nil_of_length_eq_zero e2
      rw [if_neg (by decide), if_pos rfl, countL_nil]
      obtain ⟨h1, h2⟩ := textOk_parts p2
      unfold quotL
      rw [List.cons_append, rdV, if_neg (by omega), if_neg (by decide), if_pos rfl, show escL s ++ [34] ++ r = escL s ++ 34 :: r by simp, rdT_esc_ok s 0 r h1 (by omega)]
      rfl
    · rw [if_neg (by decide), if_neg (by decide), if_neg (by decide), List.cons_append, rdV, if_neg (by omega), if_neg (by decide), if_neg (by decide), if_pos rfl]
      unfold rdB
      by_cases hl : l = []
      · subst hl
        rw [wrL_nil, countL_nil]
        rfl
      · have hne : (wrL true l ++ [93] ++ r).head? ≠ some 93 := by
          intro e
          have := head_tail e
          cases l with
          | nil => exact hl rfl
          | cons x l =>
            rw [eachL_cons, Bool.and_eq_true] at he
            rw [wrL_cons] at this
            exact head_no he.1.1 (wrL false l ++ [93] ++ r) _ 93 (.inl rfl) (by simpa using this)
        have hlen := wrL_long l true he.1
        rw [if_neg hne, show wrL true l ++ [93] ++ r = wrL true l ++ 93 :: r by simp, rdL_wr ih l _ (n + 1) r hl he.1 (by omega) (by omega) (by rw [List.length_append]; omega)]
        unfold Rd.map
        simp only [Rd.ok.injEq, Prod.mk.injEq, and_true, true_and]
        omega
    · rw [if_neg (by decide), if_neg (by decide), if_pos rfl, List.cons_append, rdV, if_neg (by omega), if_neg (by decide), if_neg (by decide), if_neg (by decide), if_pos rfl]
      unfold rdO
      by_cases hl : l = []
      · subst hl
        obtain rfl := List.eq_nil_of_length_eq_zero e2
        rw [wrM_nil, countL_nil]
        rfl
      · have hne : (wrM true l ks ++ [125] ++ r).head? ≠ some 125 := by
          cases l with
          | nil => exact absurd rfl hl
          | cons x l =>
            rw [wrM_cons]
            unfold quotL
            simp
        have hlen := wrM_long l true ks he.1
        rw [if_neg hne, show wrM true l ks ++ [125] ++ r = wrM true l ks ++ 125 :: r by simp, rdM_wr ih l ks _ none (n + 1) r hl he.1 (by omega) (by omega) (by rw [List.length_append]; omega) e2 p3 (fun p q h => by cases h)]
        unfold Rd.map
        simp only [Rd.ok.injEq, Prod.mk.injEq, and_true, true_and]
        omega

/-! ### whole texts -/
theorem rdP_wr {t : VT} (h : t.okB = true) (hl : t.wr.length ≤ 65536) : rdP t.wr = .ok t [] := by
  unfold VT.okB at h
  rw [Bool.and_eq_true, Bool.and_eq_true, decide_eq_true_eq, decide_eq_true_eq] at h
  have := rdV_wr 12 0 t [] h.2 h.1.2 (by omega) (fun _ c u e => by cases e)
  rw [List.append_nil] at this
  unfold rdP
  rw [if_neg (by omega), this]
end Go.Proofs.YtmbmeidkmhajbaaDoor.V

/- What is open stands on a stack: reading as a row of steps, and that these come to what reading by descent comes to. Nothing of the program is named here. -/
namespace Go.Proofs.YtmbmeidkmhajbaaDoor.V
open Go

/-- a list, or values by keys, that has not ended: what was read of it, and a bound of the bytes behind -/
structure Fr where
  map : Bool
  items : List VT
  keys : List (List UInt8)
  f : Nat
def Fr.kind (fr : Fr) : Int := if fr.map then 4 else 3
def Fr.last (fr : Fr) : UInt8 := if fr.map then 125 else 93
/-- what comes of it behind an item -/
def Fr.after (L : Nat) (fr : Fr) : Rd (VT × Nat) → Rd (VT × Nat)
  | .bad e => .bad e
  | .ok _ [] => .bad 3
  | .ok (x, n) (c :: r) => if c = fr.last then .ok (.mk fr.kind 0 [] (fr.items ++ [x]) fr.keys, n) r else
    if c = 44 then
      (if fr.map then (rdM (rdV L) fr.f fr.keys.getLast? n r).map (fun p => (.mk 4 0 [] (fr.items ++ x :: p.1) (fr.keys ++ p.2.1), p.2.2))
      else (rdL (rdV L) fr.f n r).map (fun p => (.mk 3 0 [] (fr.items ++ x :: p.1) fr.keys, p.2)))
    else .bad 20
/-- .. and of all, the innermost first -/
def plug : List Fr → Rd (VT × Nat) → Rd (VT × Nat)
  | [], R => R
  | fr :: fs, R => plug fs (fr.after (11 - fs.length) R)
theorem plug_bad : ∀ (fs : List Fr) (e : Int), plug fs (.bad e) = .bad e := by
  intro fs
  induction fs with
  | nil => intro e; rfl
  | cons fr fs ih => intro e; rw [plug]; exact ih e
theorem after_end (L : Nat) (fr : Fr) (x : VT) (n : Nat) : fr.after L (.ok (x, n) []) = .bad 3 := rfl
theorem after_close (L : Nat) (fr : Fr) (x : VT) (n : Nat) (r : List UInt8) : fr.after L (.ok (x, n) (fr.last :: r)) = .ok (.mk fr.kind 0 [] (fr.items ++ [x]) fr.keys, n) r := by
  rw [Fr.after, if_pos rfl]
theorem after_odd (L : Nat) (fr : Fr) (x : VT) (n : Nat) {c : UInt8} (r : List UInt8) (h : c ≠ fr.last) (h2 : c ≠ 44) : fr.after L (.ok (x, n) (c :: r)) = .bad 20 := by
  rw [Fr.after, if_neg h, if_neg h2]
theorem last_no (fr : Fr) : (44 : UInt8) ≠ fr.last := by
  unfold Fr.last
  cases fr.map <;> decide
/-- a list goes on behind a comma -/
theorem after_list (L : Nat) (it : List VT) (f : Nat) (x : VT) (n : Nat) (r : List UInt8) : (Fr.mk false it [] (f + 1)).after L (.ok (x, n) (44 :: r)) = (Fr.mk false (it ++ [x]) [] f).after L (rdV L n r) := by
  rw [Fr.after, if_neg (last_no _), if_pos rfl]
  simp only [Bool.false_eq_true, if_false]
  rw [rdL]
  cases rdV L n r with
  | bad e => rfl
  | ok p r1 =>
    obtain ⟨y, n1⟩ := p
    cases r1 with
    | nil => rfl
    | cons c r1 =>
      simp only [Fr.after, Fr.last, Fr.kind, Bool.false_eq_true, if_false]
      by_cases h1 : c = 93
      · rw [if_pos h1, if_pos h1]
        unfold Rd.map
        simp
      · rw [if_neg h1, if_neg h1]
        by_cases h2 : c = 44
        · rw [if_pos h2, if_pos h2]
          cases rdL (rdV L) f n1 r1 with
          | bad e => rfl
          | ok p r2 =>
            unfold Rd.map
            simp
        · rw [if_neg h2, if_neg h2]
          rfl
/-- behind a key -/
def keyed (L : Nat) (it : List VT) (ks : List (List UInt8)) (f n : Nat) : Rd (List UInt8) → Rd (VT × Nat)
  | .bad e => .bad e
  | .ok k s => (Fr.mk true it (ks ++ [k]) f).after L (rdV L n s)
theorem after_map (L : Nat) (it : List VT) (ks : List (List UInt8)) (f : Nat) (x : VT) (n : Nat) (r : List UInt8) : (Fr.mk true it ks (f + 1)).after L (.ok (x, n) (44 :: r)) = keyed L (it ++ [x]) ks f n (rdK ks.getLast? r) := by
  rw [Fr.after, if_neg (last_no _), if_pos rfl]
  simp only [if_true]
  rw [rdM]
  cases rdK ks.getLast? r with
  | bad e => rfl
  | ok k s =>
    simp only [keyed]
    cases rdV L n s with
    | bad e => rfl
    | ok p r1 =>
      obtain ⟨y, n1⟩ := p
      cases r1 with
      | nil => rfl
      | cons c r1 =>
        simp only [Fr.after, Fr.last, Fr.kind, if_true]
        by_cases h1 : c = 125
        · rw [if_pos h1, if_pos h1]
          unfold Rd.map
          simp
        · rw [if_neg h1, if_neg h1]
          by_cases h2 : c = 44
          · rw [if_pos h2, if_pos h2, List.getLast?_concat]
            cases rdM (rdV L) f (some k) n1 r1 with
            | bad e => rfl
            | ok p r2 =>
              unfold Rd.map
              simp
          · rw [if_neg h2, if_neg h2]
            rfl
/-- a list begins -/
theorem begin_list (L n : Nat) (r : List UInt8) (hn : n ≠ 2000) : rdV (L + 1) n (91 :: r) = if r.head? = some 93 then .ok (.mk 3 0 [] [] [], n + 1) r.tail else (Fr.mk false [] [] r.length).after L (rdV L (n + 1) r) := by
  rw [rdV, if_neg hn, if_neg (by decide), if_neg (by decide), if_pos rfl]
  unfold rdB
  by_cases h : r.head? = some 93
  · rw [if_pos h, if_pos h]
  · rw [if_neg h, if_neg h, rdL]
    cases rdV L (n + 1) r with
    | bad e => rfl
    | ok p r1 =>
      obtain ⟨y, n1⟩ := p
      cases r1 with
      | nil => rfl
      | cons c r1 =>
        simp only [Fr.after, Fr.last, Fr.kind, Bool.false_eq_true, if_false]
        by_cases h1 : c = 93
        · rw [if_pos h1, if_pos h1]
          rfl
        · rw [if_neg h1, if_neg h1]
          by_cases h2 : c = 44
          · rw [if_pos h2, if_pos h2]
            cases rdL (rdV L) r.length n1 r1 with
            | bad e => rfl
            | ok p r2 => rfl
          · rw [if_neg h2, if_neg h2]
            rfl
theorem begin_map (L n : Nat) (r : List UInt8) (hn : n ≠ 2000) : rdV (L + 1) n (123 :: r) = if r.head? = some 125 then .ok (.mk 4 0 [] [] [], n + 1) r.tail else keyed L [] [] r.length (n + 1) (rdK none r) := by
  rw [rdV, if_neg hn, if_neg (by decide), if_neg (by decide), if_neg (by decide), if_pos rfl]
  unfold rdO
  by_cases h : r.head? = some 125
  · rw [if_pos h, if_pos h]
  · rw [if_neg h, if_neg h, rdM]
    cases rdK none r with
    | bad e => rfl
    | ok k s =>
      simp only [keyed]
      cases rdV L (n + 1) s with
      | bad e => rfl
      | ok p r1 =>
        obtain ⟨y, n1⟩ := p
        cases r1 with
        | nil => rfl
        | cons c r1 =>
          simp only [Fr.after, Fr.last, Fr.kind, if_true]
          by_cases h1 : c = 125
          · rw [if_pos h1, if_pos h1]
            rfl
          · rw [if_neg h1, if_neg h1]
            by_cases h2 : c = 44
            · rw [if_pos h2, if_pos h2, List.nil_append, List.getLast?_singleton]
              cases rdM (rdV L) r.length (some k) n1 r1 with
              | bad e => rfl
              | ok p r2 => rfl
            · rw [if_neg h2, if_neg h2]
              rfl
/-- the one of no levels, of too many values, of nothing, of a number, of a text, of a byte that begins none -/
theorem begin_deep (n : Nat) (s : List UInt8) : rdV 0 n s = .bad 21 := by rw [rdV]
theorem begin_many (L : Nat) (s : List UInt8) : rdV (L + 1) 2000 s = .bad 22 := by cases s <;> rw [rdV, if_pos rfl]
theorem begin_none (L n : Nat) (hn : n ≠ 2000) : rdV (L + 1) n [] = .bad 3 := by rw [rdV, if_neg hn]
theorem begin_num (L n : Nat) {c : UInt8} (r : List UInt8) (hn : n ≠ 2000) (h : c = 45 ∨ isDig c = true) : rdV (L + 1) n (c :: r) = (rdN (c :: r)).map (fun z => (.mk 1 z [] [] [], n + 1)) := by rw [rdV, if_neg hn, if_pos h]
theorem begin_txt (L n : Nat) (r : List UInt8) (hn : n ≠ 2000) : rdV (L + 1) n (34 :: r) = (rdT 0 r).map (fun w => (.mk 2 0 w [] [], n + 1)) := by rw [rdV, if_neg hn, if_neg (by decide), if_pos rfl]
theorem begin_odd (L n : Nat) {c : UInt8} (r : List UInt8) (hn : n ≠ 2000) (h : ¬ (c = 45 ∨ isDig c = true)) (h1 : c ≠ 34) (h2 : c ≠ 91) (h3 : c ≠ 123) : rdV (L + 1) n (c :: r) = .bad 20 := by rw [rdV, if_neg hn, if_neg h, if_neg h1, if_neg h2, if_neg h3]
end Go.Proofs.YtmbmeidkmhajbaaDoor.V

