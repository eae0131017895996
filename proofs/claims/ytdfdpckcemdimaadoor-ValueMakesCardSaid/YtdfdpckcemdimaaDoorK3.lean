/- Texts that stand on one another, put together: ShelfR, VRefQuoted, VRefWrite, VQuote, ShelfF, VFmt, VWrite, VRefLess, VRefCount, VRefOne, VRefRight, VAlive, VExtent, VSizesW, VPairs, VMakesM. -/
import Derived.Test.YtdfdpckcemdimaaDoorK2
import Derived.BigQuiet
import Derived.Deep.AppendLies
import Derived.Laws.OwnMore
import Derived.Lib.AppendIntMem
import Derived.Lib.Replace
import Derived.Lib.SmallJoins
import Derived.Lib.SplitLaws
import Derived.Shelf.LaysM
import Derived.Shelf.Small.Bits
import Derived.Shelf.Small.Strs
import Derived.Shelf.Strconv.Itoa0
import Derived.Shelf.Strconv.Itoa1
import Derived.Shelf.Strconv.Itoa2
import Derived.Shelf.Strconv.Itoa3
import Derived.Shelf.Strconv.Itoa4
import Derived.Shelf.Strings.Builder1
import Derived.Shelf.Strings.Builder2
import Derived.Shelf.Strings.Builder2Cap
import Derived.Shelf.Strings.BuilderCap
import Derived.Shelf.Strings.BuilderF
import Derived.Shelf.Strings.BuilderK
import Derived.Shelf.Strings.Count
import Derived.Shelf.Strings.Replace
import Derived.Shelf.Strings.Search1
import Derived.Shelf.Strings.Search2
import Derived.Shelf.Strings.Search3
import Derived.Shelf.Strings.Shaped
import Derived.Shelf.Strings.Split
import Derived.Shelf.Strings.SplitShaped
import Derived.Shelf.Unicode.DecodeSlow
import Derived.Test.YtdfdpckcemdimaaDoorProg
/- The library's own contracts laid at this program: one application each. -/
namespace Go.Proofs
open Go.Shelf
def Tryd.lays155_ren : Go.Shelf.Ren := ⟨fun | 155 => 75 | 154 => 86 | 138 => 90 | 165 => 91 | 143 => 92 | 166 => 52 | 197 => 93 | 169 => 42 | 195 => 94 | 218 => 95 | 240 => 74 | 241 => 96 | 219 => 97 | 260 => 98 | 276 => 85 | 277 => 99 | 217 => 100 | 225 => 101 | 224 => 102 | 267 => 103 | 266 => 104 | 314 => 105 | n => n, fun | 9 => 9 | 3 => 3 | 4 => 4 | 72 => 67 | 0 => 0 | 76 => 77 | 105 => 119 | 21 => 21 | 5 => 5 | 70 => 64 | 20 => 20 | 37 => 65 | 75 => 76 | 127 => 80 | 164 => 112 | 46 => 72 | 119 => 126 | 139 => 129 | 138 => 128 | 146 => 130 | 51 => 99 | 80 => 69 | n => n, fun | 1 => 0 | 3 => 4 | 4 => 5 | n => n⟩
theorem Tryd.lays155 : Go.Proofs.Lays.n155 Tryd.prog Tryd.lays155_ren := {
  mixed := by kernel_rfl
  f138 := Tryd.func90.trans (congrArg some (by kernel_rfl))
  f143 := Tryd.func92.trans (congrArg some (by kernel_rfl))
  f154 := Tryd.func86.trans (congrArg some (by kernel_rfl))
  f155 := Tryd.func75.trans (congrArg some (by kernel_rfl))
  f165 := Tryd.func91.trans (congrArg some (by kernel_rfl))
  f166 := Tryd.func52.trans (congrArg some (by kernel_rfl))
  f169 := Tryd.func42.trans (congrArg some (by kernel_rfl))
  f195 := Tryd.func94.trans (congrArg some (by kernel_rfl))
  f197 := Tryd.func93.trans (congrArg some (by kernel_rfl))
  f217 := Tryd.func100.trans (congrArg some (by kernel_rfl))
  f218 := Tryd.func95.trans (congrArg some (by kernel_rfl))
  f219 := Tryd.func97.trans (congrArg some (by kernel_rfl))
  f224 := Tryd.func102.trans (congrArg some (by kernel_rfl))
  f225 := Tryd.func101.trans (congrArg some (by kernel_rfl))
  f240 := Tryd.func74.trans (congrArg some (by kernel_rfl))
  f241 := Tryd.func96.trans (congrArg some (by kernel_rfl))
  f260 := Tryd.func98.trans (congrArg some (by kernel_rfl))
  f266 := Tryd.func104.trans (congrArg some (by kernel_rfl))
  f267 := Tryd.func103.trans (congrArg some (by kernel_rfl))
  f276 := Tryd.func85.trans (congrArg some (by kernel_rfl))
  f277 := Tryd.func99.trans (congrArg some (by kernel_rfl))
  f314 := Tryd.func105.trans (congrArg some (by kernel_rfl))
  t0 := Tryd.underlying0
  a0 := Tryd.isAgg0
  z0 := Tryd.sizeOf0
  v0 := Tryd.zeroValue0
  t3 := Tryd.underlying3
  a3 := Tryd.isAgg3
  z3 := Tryd.sizeOf3
  v3 := Tryd.zeroValue3
  t4 := Tryd.underlying4
  a4 := Tryd.isAgg4
  z4 := Tryd.sizeOf4
  v4 := Tryd.zeroValue4
  t5 := Tryd.underlying5
  a5 := Tryd.isAgg5
  z5 := Tryd.sizeOf5
  v5 := Tryd.zeroValue5
  t9 := Tryd.underlying9
  a9 := Tryd.isAgg9
  z9 := Tryd.sizeOf9
  v9 := Tryd.zeroValue9
  t20 := Tryd.underlying20
  a20 := Tryd.isAgg20
  z20 := Tryd.sizeOf20
  v20 := Tryd.zeroValue20
  t21 := Tryd.underlying21
  a21 := Tryd.isAgg21
  z21 := Tryd.sizeOf21
  v21 := Tryd.zeroValue21
  t37 := Tryd.underlying65
  a37 := Tryd.isAgg65
  z37 := Tryd.sizeOf65
  v37 := Tryd.zeroValue65
  t46 := Tryd.underlying72
  a46 := Tryd.isAgg72
  z46 := Tryd.sizeOf72
  v46 := Tryd.zeroValue72
  t51 := Tryd.underlying99
  a51 := Tryd.isAgg99
  z51 := Tryd.sizeOf99
  v51 := Tryd.zeroValue99
  t70 := Tryd.underlying64
  a70 := Tryd.isAgg64
  z70 := Tryd.sizeOf64
  v70 := Tryd.zeroValue64
  t72 := Tryd.underlying67
  a72 := Tryd.isAgg67
  z72 := Tryd.sizeOf67
  v72 := Tryd.zeroValue67
  t75 := Tryd.underlying76
  a75 := Tryd.isAgg76
  z75 := Tryd.sizeOf76
  v75 := Tryd.zeroValue76
  t76 := Tryd.underlying77
  a76 := Tryd.isAgg77
  z76 := Tryd.sizeOf77
  v76 := Tryd.zeroValue77
  t105 := Tryd.underlying119
  a105 := Tryd.isAgg119
  z105 := Tryd.sizeOf119
  v105 := Tryd.zeroValue119
  t119 := Tryd.underlying126
  a119 := Tryd.isAgg126
  z119 := Tryd.sizeOf126
  t127 := Tryd.underlying80
  a127 := Tryd.isAgg80
  z127 := Tryd.sizeOf80
  v127 := Tryd.zeroValue80
  t138 := Tryd.underlying128
  a138 := Tryd.isAgg128
  z138 := Tryd.sizeOf128
  v138 := Tryd.zeroValue128
  t139 := Tryd.underlying129
  a139 := Tryd.isAgg129
  z139 := Tryd.sizeOf129
  v139 := Tryd.zeroValue129
  t146 := Tryd.underlying130
  a146 := Tryd.isAgg130
  z146 := Tryd.sizeOf130
  v146 := Tryd.zeroValue130
  t164 := Tryd.underlying112
  a164 := Tryd.isAgg112
  z164 := Tryd.sizeOf112
  v164 := Tryd.zeroValue112
  g1 := by kernel_rfl
  g3 := by kernel_rfl
  g4 := by kernel_rfl }
theorem Tryd.Builder_Extra_155 : Builder.Extra Tryd.prog Tryd.lays155_ren := {
  sizeBuilder := by kernel_rfl
  liesBuilder := by kernel_rfl
  t5 := Tryd.underlying5
  a5 := Tryd.isAgg5
  z5 := Tryd.sizeOf5
  v5 := Tryd.zeroValue5
  infoByte := by kernel_rfl
  cellsByte := by kernel_rfl
  sizeByte := by kernel_rfl
  neB5 := by decide }
open Go.RowKit Go.Lib in
theorem Tryd.strings_ReplaceAll (s old new : ByteArray) (m : Int) (w : World) (hs : s.size < 4294967281) (hm : w.cell? ⟨0, 0, none⟩ = some (.int .i64 m)) (h1 : 1 ≤ old.size) (hlen : s.size + Lib.countB s old * new.size ≤ 140737488355328) :
    Calls Tryd.prog 75 #[.string s, .string old, .string new] w fun e w' =>
      e = .returned (.string ⟨(Lib.replaceAll s.data.toList old.data.toList new.data.toList).toArray⟩) ∧ Below w.heap.size w w' := Any.strings_ReplaceAll Tryd.lays155 Tryd.Builder_Extra_155 s old new m w hs hm h1 hlen
end Go.Proofs

/- The reference's Quoted. -/
namespace Go.Proofs.YtdfdpckcemdimaaDoor.V
open Go.RowKit Go.Sort
set_option maxRecDepth 100000

theorem esc_len : ∀ l : List UInt8, (escL l).length ≤ 2 * l.length := by
  intro l
  induction l with
  | nil => simp [escL]
  | cons c l ih =>
    rw [escL, List.length_append, List.length_cons]
    split
    · simp; omega
    · simp; omega
end Go.Proofs.YtdfdpckcemdimaaDoor.V

/- The reference's Write, of a value that may be. -/
namespace Go.Proofs.YtdfdpckcemdimaaDoor.V
open Go.RowKit Go.Sort Go.Joins
set_option maxRecDepth 100000

/-- the library's table of powers of ten lies there -/
def Tab (w : World) : Prop := Lib.TabIs Tryd.prog w "internal/strconv.uint64pow10" .u64 Lib.pow10Tab
theorem Tab.below {w w' : World} (h : Tab w) (hb : Below w.heap.size w w') : Tab w' := tab_stays (show Tryd.prog.globalNamed "internal/strconv.uint64pow10" = some 1 by kernel_rfl) h hb (Nat.le_refl _)
/-- what the library's FormatInt gives -/
def FmtSays : Prop := ∀ (n : Int) (w : World), -9223372036854775808 ≤ n → n ≤ 9223372036854775807 → Tab w → Calls Tryd.prog 31 #[.int .i64 n, .int .i64 10] w fun e w' => e = .returned (.string ⟨(Lib.itoa n).toArray⟩) ∧ Below w.heap.size w w'
/-- the items' text, with keys or without -/
def wrI (m first : Bool) (l : List VT) (ks : List (List UInt8)) : List UInt8 := if m then wrM first l ks else wrL first l
theorem wrI_at {m first : Bool} {l : List VT} {ks : List (List UInt8)} {j : Nat} {x : VT} {y : List UInt8} (hx : l[j]? = some x) (hy : m = true → ks[j]? = some y) :
    wrI m first (l.drop j) (ks.drop j) = (if first then [] else [44]) ++ ((if m then quotL y ++ [58] else []) ++ (x.wr ++ wrI m false (l.drop (j + 1)) (ks.drop (j + 1)))) := by
  obtain ⟨hlt, hx⟩ := List.getElem?_eq_some_iff.1 hx
  unfold wrI
  rw [List.drop_eq_getElem_cons hlt, hx]
  cases m with
  | false => simp [wrL_cons]
  | true =>
    obtain ⟨hlt2, hy⟩ := List.getElem?_eq_some_iff.1 (hy rfl)
    rw [List.drop_eq_getElem_cons hlt2, hy]
    simp [wrM_cons]
theorem wrI_nil (m first : Bool) (l : List VT) (ks : List (List UInt8)) (j : Nat) (h : l.length ≤ j) : wrI m first (l.drop j) (ks.drop j) = [] := by
  rw [List.drop_eq_nil_of_le h]
  unfold wrI
  cases m <;> simp [wrL_nil, wrM_nil]

theorem cat2 (a b : Array UInt8) : ({ data := a } : ByteArray) ++ { data := b } = { data := a ++ b } := by
  show ByteArray.append _ _ = _
  apply ByteArray.ext
  simp [ByteArray.append]
theorem close_eq {S : ByteArray} {T : List UInt8} (o c : UInt8) (h : S.data.toList = T) : (⟨#[o]⟩ : ByteArray) ++ S ++ ⟨#[c]⟩ = ⟨(o :: (T ++ [c])).toArray⟩ := by
  obtain ⟨d⟩ := S
  subst h
  rw [cat2, cat2]
  apply ByteArray.ext
  apply Array.ext'
  simp
/-! ### how long a text is -/
theorem quot_len (s : List UInt8) : (quotL s).length ≤ 2 * s.length + 2 := by
  have := esc_len s
  unfold quotL
  simp
  omega
theorem text_len {s : List UInt8} (h : textOk s = true) : s.length ≤ 4000 := by
  unfold textOk at h
  simp at h
  exact h.2
theorem keys_mem : ∀ {ks : List (List UInt8)}, keysOk ks = true → ∀ x ∈ ks, textOk x = true := by
  intro ks
  induction ks with
  | nil => intro _ x hx; cases hx
  | cons k r ih =>
    intro h x hx
    cases r with
    | nil =>
      rw [keysOk] at h
      rcases List.mem_cons.1 hx with rfl | hx
      · exact h
      · cases hx
    | cons k' r' =>
      rw [keysOk, Bool.and_eq_true, Bool.and_eq_true] at h
      rcases List.mem_cons.1 hx with rfl | hx
      · exact h.1.1
      · exact ih h.2 x hx
theorem one_txt {k n : Int} {s : List UInt8} {m : Nat} {ks : List (List UInt8)} (h : oneB k n s m ks = true) : textOk s = true ∧ keysOk ks = true ∧ (-1099511627776 ≤ n ∧ n ≤ 1099511627776) := by
  unfold oneB at h
  simp only [Bool.and_eq_true, decide_eq_true_eq] at h
  exact ⟨h.1.1.2, h.2, h.1.1.1.2⟩
theorem dec_len : ∀ (d u : Nat), u < 10 ^ d → (Lib.decDigits u).length ≤ max 1 d := by
  intro d
  induction d with
  | zero =>
    intro u h
    rw [Lib.decDigits_one (by simp at h; omega)]
    simp
  | succ d ih =>
    intro u h
    by_cases h10 : u < 10
    · rw [Lib.decDigits_one h10]
      show 1 ≤ _
      omega
    · have e : Lib.decDigits u = Lib.decDigits (u / 10) ++ [UInt8.ofNat (48 + u % 10)] := by rw [Lib.decDigits, dif_neg h10]
      have h2 : u / 10 < 10 ^ d := by rw [Nat.pow_succ] at h; omega
      have := ih (u / 10) h2
      rw [e, List.length_append, List.length_singleton]
      have hd : d ≠ 0 := by rintro rfl; simp at h2; omega
      omega
theorem itoa_len {n : Int} (h : -1099511627776 ≤ n ∧ n ≤ 1099511627776) : (Lib.itoa n).length ≤ 14 := by
  unfold Lib.itoa
  split
  · have := dec_len 13 n.natAbs (by omega)
    rw [List.length_cons]
    omega
  · have := dec_len 13 n.toNat (by omega)
    omega

/-! ### how long the text of one that may be is -/
theorem wrI_len {m : Bool} : ∀ (l : List VT) (ks : List (List UInt8)) (first : Bool), (∀ x ∈ l, x.wr.length + 8004 ≤ 16006 * x.count) → (∀ y ∈ ks, y.length ≤ 4000) → (wrI m first l ks).length ≤ 16006 * countL l := by
  intro l
  induction l with
  | nil => intro ks first _ _; unfold wrI; cases m <;> simp [wrL_nil, wrM_nil]
  | cons x l ih =>
    intro ks first hx hk
    have h1 := hx x (by simp)
    have h2 := ih ks.tail false (fun y hy => hx y (by simp [hy])) (fun y hy => hk y (List.mem_of_mem_tail hy))
    have h3 : (ks.headD []).length ≤ 4000 := by
      cases ks with
      | nil => simp
      | cons y r => exact hk y (by simp)
    have h4 := quot_len (ks.headD [])
    have h5 : (if first then ([] : List UInt8) else [44]).length ≤ 1 := by cases first <;> simp
    rw [countL_cons]
    unfold wrI at h2 ⊢
    cases m with
    | false =>
      simp only [Bool.false_eq_true, if_false, wrL_cons, List.length_append] at h2 ⊢
      have h6 := ih ks false (fun y hy => hx y (by simp [hy])) hk
      unfold wrI at h6
      simp only [Bool.false_eq_true, if_false] at h6
      omega
    | true =>
      simp only [if_true, wrM_cons, List.length_append, List.length_cons] at h2 ⊢
      omega
theorem wr_len : ∀ (m : Nat) (v : VT), v.count ≤ m → v.each = true → v.wr.length + 8004 ≤ 16006 * v.count := by
  intro m
  induction m with
  | zero => intro v h; have := count_pos v; omega
  | succ m ih =>
    intro v hc he
    obtain ⟨k, n, s, l, ks⟩ := v
    rw [count_eq] at hc ⊢
    rw [each_eq, Bool.and_eq_true] at he
    rw [wr_eq]
    obtain ⟨t1, t2, t3⟩ := one_txt he.2
    have hx : ∀ x ∈ l, x.wr.length + 8004 ≤ 16006 * x.count := fun x hx => ih x (by have := countL_mem hx; omega) (eachL_mem he.1 hx)
    have hk : ∀ y ∈ ks, y.length ≤ 4000 := fun y hy => text_len (keys_mem t2 y hy)
    have h1 := itoa_len t3
    have h2 := quot_len s
    have h3 := text_len t1
    have h4 := wrI_len (m := true) l ks true hx hk
    have h5 := wrI_len (m := false) l ks true hx hk
    unfold wrI at h4 h5
    simp only [Bool.false_eq_true, if_false, if_true] at h4 h5
    split
    · omega
    split
    · omega
    split
    · simp only [List.length_cons, List.length_append, List.length_nil]; omega
    · simp only [List.length_cons, List.length_append, List.length_nil]; omega
end Go.Proofs.YtdfdpckcemdimaaDoor.V

/- The developers' quoted: by the library's ReplaceAll, twice. -/
namespace Go.Proofs.YtdfdpckcemdimaaDoor.V
open Go.RowKit Go.Sort Go.Joins
set_option maxRecDepth 100000

/-! ### one byte replaced by several -/
def sub1 (c : UInt8) (new : List UInt8) : List UInt8 → List UInt8
  | [] => []
  | b :: r => (if b = c then new else [b]) ++ sub1 c new r
theorem pre_one (c b : UInt8) (l : List UInt8) : [c].isPrefixOf (b :: l) = decide (c = b) := by
  by_cases h : c = b
  · subst h; simp [List.isPrefixOf]
  · simp [List.isPrefixOf, h]
theorem index_hit (c : UInt8) (l : List UInt8) : Lib.index (c :: l) [c] = 0 := by rw [Lib.index, pre_one, decide_eq_true rfl, if_pos rfl]
theorem index_more (c b : UInt8) (l : List UInt8) (h : ¬ b = c) (i : Nat) (hi : Lib.index l [c] = i) : Lib.index (b :: l) [c] = ((i + 1 : Nat) : Int) := by
  rw [Lib.index, pre_one, decide_eq_false (fun e => h e.symm), if_neg (by decide), hi, if_neg (by rw [beq_iff_eq]; omega)]
  rfl
theorem repl_one (c : UInt8) (new : List UInt8) : ∀ s : List UInt8, Lib.replaceK [c] new (Lib.count s [c]) s = sub1 c new s := by
  intro s
  induction s with
  | nil => rw [Lib.count_one]; rfl
  | cons b l ih =>
    rw [Lib.count_one] at ih ⊢
    by_cases h : b = c
    · subst h
      rw [List.count_cons_self, Lib.replaceK_hit _ _ _ _ 0 (index_hit b l), sub1, if_pos rfl]
      simp [ih]
    · rw [List.count_cons_of_ne (fun e => h e), sub1, if_neg h]
      cases hk : l.count c with
      | zero =>
        rw [hk] at ih
        have e : l = sub1 c new l := ih
        show b :: l = [b] ++ sub1 c new l
        rw [← e]; rfl
      | succ k =>
        rw [hk] at ih
        obtain ⟨i, hi⟩ := Lib.index_of_count (s := l) (old := [c]) (by rw [Lib.count_one, hk]; omega)
        rw [Lib.replaceK_hit _ _ _ _ (i + 1) (index_more c b l h i hi)]
        rw [Lib.replaceK_hit _ _ _ _ i hi] at ih
        rw [← ih]
        simp
theorem replAll_one (c : UInt8) (new s : List UInt8) (h : ([c] == new) = false) : Lib.replaceAll s [c] new = sub1 c new s := by
  unfold Lib.replaceAll Lib.replace
  rw [if_neg (by rw [h]; decide)]
  have : Lib.replaceNum s [c] (-1) = Lib.count s [c] := by unfold Lib.replaceNum; rw [if_pos (.inl (by decide))]
  rw [this, repl_one]
theorem sub1_append (c : UInt8) (new a b : List UInt8) : sub1 c new (a ++ b) = sub1 c new a ++ sub1 c new b := by
  induction a with
  | nil => rfl
  | cons x a ih => rw [List.cons_append, sub1, sub1, ih, List.append_assoc]
theorem sub_esc : ∀ s : List UInt8, sub1 34 [92, 34] (sub1 92 [92, 92] s) = escL s := by
  intro s
  induction s with
  | nil => rfl
  | cons b r ih =>
    rw [sub1, sub1_append, ih, escL]
    by_cases h1 : b = 92
    · subst h1; rfl
    · rw [if_neg h1]
      by_cases h2 : b = 34
      · subst h2; rfl
      · rw [if_neg (by simp [h1, h2])]
        simp [sub1, h2]
theorem sub1_len (c : UInt8) (x y : UInt8) : ∀ s : List UInt8, (sub1 c [x, y] s).length ≤ 2 * s.length := by
  intro s
  induction s with
  | nil => simp [sub1]
  | cons b r ih =>
    rw [sub1, List.length_append, List.length_cons]
    split <;> simp <;> omega
/-! ### the library's variable that says how long a text it looks for at once -/
def MaxAt (w : World) : Prop := ∃ m, w.cell? ⟨0, 0, none⟩ = some (.int .i64 m)
theorem MaxAt.below {w w' : World} (h : MaxAt w) (hb : Below w.heap.size w w') : MaxAt w' := by
  obtain ⟨m, hm⟩ := h
  exact ⟨m, (hb.cell (World.block_lt_of_cell? w _ hm)).trans hm⟩
theorem repl_any (s : List UInt8) (c x y : UInt8) (w : World) (hM : MaxAt w) (hs : s.length ≤ 2000000) (h : ([c] == [x, y]) = false) :
    Calls Tryd.prog 75 #[.string ⟨s.toArray⟩, .string ⟨#[c]⟩, .string ⟨#[x, y]⟩] w fun e w' => e = .returned (.string ⟨(sub1 c [x, y] s).toArray⟩) ∧ Below w.heap.size w w' := by
  obtain ⟨m, hm⟩ := hM
  have h1 := Tryd.strings_ReplaceAll ⟨s.toArray⟩ ⟨#[c]⟩ ⟨#[x, y]⟩ m w (by rw [str_size]; omega) hm (by show 1 ≤ 1; omega) (by
    show _ + Lib.count s [c] * 2 ≤ _
    rw [str_size, Lib.count_one]
    have := List.count_le_length (a := c) (l := s)
    omega)
  have e : Lib.replaceAll (⟨s.toArray⟩ : ByteArray).data.toList (⟨#[c]⟩ : ByteArray).data.toList (⟨#[x, y]⟩ : ByteArray).data.toList = sub1 c [x, y] s := replAll_one c [x, y] s h
  rw [e] at h1
  exact h1
set_option maxHeartbeats 800000 in
theorem quoted_any (s : List UInt8) (W : World) (hs : s.length ≤ 1000000) (hM : MaxAt W) :
    Calls Tryd.prog 53 #[.string ⟨s.toArray⟩] W fun e w' => e = .returned (.string ⟨(quotL s).toArray⟩) ∧ Below W.heap.size W w' := by
  have hl := sub1_len 92 92 92 s
  have H1 := Lib.hid (repl_any s 92 92 92 W hM (by omega) (by decide))
  have H2 := Lib.hid (fun w (hb : Below W.heap.size W w) => repl_any (sub1 92 [92, 92] s) 34 92 34 w (hM.below hb) (by omega) (by decide))
  rw [sub_esc] at H2
  have he := esc_len s
  have hq := Lib.hid (show (⟨#[34]⟩ : ByteArray) ++ ⟨(escL s).toArray⟩ ++ ⟨#[34]⟩ = ⟨(quotL s).toArray⟩ from close_eq 34 34 (by simp))
  generalize sub1 92 [92, 92] s = t at *
  have hsz : ((⟨(escL s).toArray⟩ : ByteArray).size : Int) ≤ 2000000 := by rw [str_size]; omega
  go_enter Tryd.func53, Tryd.ntmps53
  go_wp2_with (first | (go_at_call 75; (with_reducible refine H1.out.mono ?_); rintro e w1 ⟨rfl, hb1⟩) | (go_at_call 75; (with_reducible refine (H2.out _ hb1).mono ?_); rintro e w2 ⟨rfl, hb2⟩))
  go_ret
  exact ⟨ret1_of (congrArg Value.string hq.out), below_on hb1 hb2⟩
end Go.Proofs.YtdfdpckcemdimaaDoor.V

/- The library's own contracts laid at this program: one application each. -/
namespace Go.Proofs
open Go.Shelf
def Tryd.laysM173_ren : Go.Shelf.Ren := ⟨fun | 173 => 31 | 246 => 45 | 283 => 59 | 284 => 60 | 285 => 61 | 286 => 62 | 129 => 72 | 317 => 76 | 318 => 77 | 319 => 78 | 320 => 79 | 337 => 87 | 338 => 88 | n => n, fun | 2 => 2 | 3 => 3 | 9 => 9 | 4 => 4 | 171 => 85 | 0 => 0 | 53 => 86 | 37 => 65 | 5 => 5 | 173 => 89 | 212 => 103 | 51 => 99 | 20 => 20 | 213 => 104 | 46 => 72 | 232 => 121 | 233 => 122 | n => n, fun | 17 => 1 | 18 => 2 | 19 => 3 | n => n⟩
theorem Tryd.laysM173 : Go.Proofs.LaysM.n173 Tryd.prog Tryd.laysM173_ren := {
  mixed := by kernel_rfl
  f129 := Tryd.func72.trans (congrArg some (by kernel_rfl))
  f173 := Tryd.func31.trans (congrArg some (by kernel_rfl))
  f246 := Tryd.func45.trans (congrArg some (by kernel_rfl))
  f283 := Tryd.func59.trans (congrArg some (by kernel_rfl))
  f284 := Tryd.func60.trans (congrArg some (by kernel_rfl))
  f285 := Tryd.func61.trans (congrArg some (by kernel_rfl))
  f286 := Tryd.func62.trans (congrArg some (by kernel_rfl))
  f317 := Tryd.func76.trans (congrArg some (by kernel_rfl))
  f318 := Tryd.func77.trans (congrArg some (by kernel_rfl))
  f319 := Tryd.func78.trans (congrArg some (by kernel_rfl))
  f320 := Tryd.func79.trans (congrArg some (by kernel_rfl))
  f337 := Tryd.func87.trans (congrArg some (by kernel_rfl))
  f338 := Tryd.func88.trans (congrArg some (by kernel_rfl))
  t0 := Tryd.underlying0
  a0 := Tryd.isAgg0
  z0 := Tryd.sizeOf0
  v0 := Tryd.zeroValue0
  t2 := Tryd.underlying2
  a2 := Tryd.isAgg2
  z2 := Tryd.sizeOf2
  v2 := Tryd.zeroValue2
  t3 := Tryd.underlying3
  a3 := Tryd.isAgg3
  z3 := Tryd.sizeOf3
  v3 := Tryd.zeroValue3
  t4 := Tryd.underlying4
  a4 := Tryd.isAgg4
  z4 := Tryd.sizeOf4
  v4 := Tryd.zeroValue4
  t5 := Tryd.underlying5
  a5 := Tryd.isAgg5
  z5 := Tryd.sizeOf5
  v5 := Tryd.zeroValue5
  t9 := Tryd.underlying9
  a9 := Tryd.isAgg9
  z9 := Tryd.sizeOf9
  v9 := Tryd.zeroValue9
  t20 := Tryd.underlying20
  a20 := Tryd.isAgg20
  z20 := Tryd.sizeOf20
  v20 := Tryd.zeroValue20
  t37 := Tryd.underlying65
  a37 := Tryd.isAgg65
  z37 := Tryd.sizeOf65
  v37 := Tryd.zeroValue65
  t46 := Tryd.underlying72
  a46 := Tryd.isAgg72
  z46 := Tryd.sizeOf72
  v46 := Tryd.zeroValue72
  t51 := Tryd.underlying99
  a51 := Tryd.isAgg99
  z51 := Tryd.sizeOf99
  v51 := Tryd.zeroValue99
  t53 := Tryd.underlying86
  a53 := Tryd.isAgg86
  z53 := Tryd.sizeOf86
  v53 := Tryd.zeroValue86
  t171 := Tryd.underlying85
  a171 := Tryd.isAgg85
  z171 := Tryd.sizeOf85
  v171 := Tryd.zeroValue85
  t173 := Tryd.underlying89
  a173 := Tryd.isAgg89
  z173 := Tryd.sizeOf89
  v173 := Tryd.zeroValue89
  t212 := Tryd.underlying103
  a212 := Tryd.isAgg103
  z212 := Tryd.sizeOf103
  v212 := Tryd.zeroValue103
  t213 := Tryd.underlying104
  a213 := Tryd.isAgg104
  z213 := Tryd.sizeOf104
  t232 := Tryd.underlying121
  a232 := Tryd.isAgg121
  z232 := Tryd.sizeOf121
  v232 := Tryd.zeroValue121
  t233 := Tryd.underlying122
  a233 := Tryd.isAgg122
  z233 := Tryd.sizeOf122
  v233 := Tryd.zeroValue122
  g17 := by kernel_rfl
  g18 := by kernel_rfl
  g19 := by kernel_rfl
  i0 := by kernel_rfl
  i2 := by kernel_rfl
  i3 := by kernel_rfl
  i4 := by kernel_rfl
  i5 := by kernel_rfl
  i9 := by kernel_rfl
  i20 := by kernel_rfl
  i37 := by kernel_rfl
  i46 := by kernel_rfl
  i51 := by kernel_rfl
  i53 := by kernel_rfl
  i171 := by kernel_rfl
  i173 := by kernel_rfl
  i212 := by kernel_rfl
  i232 := by kernel_rfl
  i233 := by kernel_rfl
  m17 := by kernel_rfl
  m18 := by kernel_rfl
  m19 := by kernel_rfl }
open Go.RowKit Go.Sort Go.Lib in
theorem Tryd.strconv_FormatInt_10 (n : Int) (h0 : -9223372036854775808 ≤ n) (h1 : n ≤ 9223372036854775807) (w : World) (htab : Lib.TabIs Tryd.prog w "internal/strconv.uint64pow10" .u64 Lib.pow10Tab) :
    Calls Tryd.prog 31 #[.int .i64 n, .int .i64 10] w fun e w' => e = .returned (.string ⟨(Lib.itoa n).toArray⟩) ∧ ∃ k os, w' = grow (w.drewN k) os := Any.strconv_FormatInt_10 Tryd.laysM173 n h0 h1 w htab
end Go.Proofs

/- The library's FormatInt in base ten, by the shelf (OUT=ShelfF shelf.py SEAT strconv_FormatInt_10). -/
namespace Go.Proofs.YtdfdpckcemdimaaDoor.V
open Go.RowKit
theorem fmt_says : FmtSays := by
  intro n w h0 h1 ht
  refine (Tryd.strconv_FormatInt_10 n h0 h1 w ht).mono ?_
  rintro e w' ⟨he, k, os, rfl⟩
  exact ⟨he, Lib.below_grow _ w (Nat.le_refl _) k os⟩
end Go.Proofs.YtdfdpckcemdimaaDoor.V

/- The developers' write, writeItems, textOf and Print. -/
namespace Go.Proofs.YtdfdpckcemdimaaDoor.V
open Go.RowKit Go.Sort Go.Joins
set_option maxRecDepth 100000

def WriteSays (W0 : World) (b d : Nat) : Prop := ∀ (cs : List Value) (t : VT) (acc : List UInt8) (w : World), IsV W0 d cs t → t.each = true → t.count ≤ 2000 → Below W0.heap.size W0 w → IsB W0.heap.size b acc w → acc.length + t.wr.length ≤ 100000000 →
    Calls Tryd.prog 41 #[.pointer (some ⟨b, 0, none⟩), .agg cs.toArray] w fun e w' => e = .returned (.tuple #[]) ∧ (IsB W0.heap.size b (acc ++ t.wr) w' ∧ Below W0.heap.size w w' ∧ Calm b w w')
theorem IsB.lt {B b : Nat} {l : List UInt8} {w : World} (h : IsB B b l w) : b < w.heap.size := by
  rcases h with h | h <;> exact h.lt
theorem cat_list (a : List UInt8) (c : UInt8) : ((⟨a.toArray⟩ : ByteArray) ++ ⟨#[c]⟩).data.toList = a ++ [c] := by rw [cat2]; simp
set_option maxHeartbeats 6400000 in
theorem items_bare (W0 : World) (b d : Nat) (hI : WriteSays W0 b d) (o e : UInt8) (k n : Int) (s : List UInt8) (l : List VT) (a ka : Option Addr) (c kc : Nat) (acc : List UInt8) (W : World)
    (hc : l.length ≤ c) (hm : c ≤ maxLen) 
    (hx : 0 < l.length → ∃ b off, a = some ⟨b, off, none⟩ ∧ ∀ i, i < l.length → ∃ cs, cs.length = 5 ∧ W0.rangeAt b (off + i * 5) cs ∧ ∃ x, l[i]? = some x ∧ IsV W0 d cs x)
    (he : eachL l = true) (hcn : countL l ≤ 2000) (hb0 : Below W0.heap.size W0 W) (hbu : IsB W0.heap.size b acc W) (hlen : acc.length + (wrI false true l []).length + 2 ≤ 100000000) :
    Calls Tryd.prog 54 #[.pointer (some ⟨b, 0, none⟩), .string ⟨#[o]⟩, .agg #[.int .i64 k, .int .i64 n, .string ⟨s.toArray⟩, .slice a l.length c, .slice ka 0 kc], .string ⟨#[e]⟩] W fun r w' => r = .returned (.tuple #[]) ∧ (IsB W0.heap.size b (acc ++ (o :: (wrI false true l [] ++ [e]))) w' ∧ Below W0.heap.size W w' ∧ Calm b W w') := by
  have HI := Lib.hid hI
  have HX := Lib.hid hx
  have HE := Lib.hid (fun (x : VT) (h : x ∈ l) => eachL_mem he h)
  have HCN := Lib.hid (fun (x : VT) (h : x ∈ l) => countL_mem h)
  clear hI hx he
  unfold maxLen at hm
  have hbl := hbu.lt
  have hB := hb0.size
  have hb1 : Below W.heap.size W (W.alloc (.cells #[.int .i64 k, .int .i64 n, .string ⟨s.toArray⟩, .slice a l.length c, .slice ka 0 kc] 25)) := (Below.refl W.heap.size W).alloc (Nat.le_refl _) _
  have lA : Lies (W.alloc (.cells #[.int .i64 k, .int .i64 n, .string ⟨s.toArray⟩, .slice a l.length c, .slice ka 0 kc] 25)) W.heap.size 25 #[.int .i64 k, .int .i64 n, .string ⟨s.toArray⟩, .slice a l.length c, .slice ka 0 kc] := Lies.new W _ _
  have hbW : Below W0.heap.size W (W.alloc (.cells #[.int .i64 k, .int .i64 n, .string ⟨s.toArray⟩, .slice a l.length c, .slice ka 0 kc] 25)) := hb1.mono hB
  have hcW : Calm b W (W.alloc (.cells #[.int .i64 k, .int .i64 n, .string ⟨s.toArray⟩, .slice a l.length c, .slice ka 0 kc] 25)) := Calm.below hb1
  replace hB : W0.heap.size ≤ (W.alloc (.cells #[.int .i64 k, .int .i64 n, .string ⟨s.toArray⟩, .slice a l.length c, .slice ka 0 kc] 25)).heap.size := Nat.le_trans hB hb1.size
  replace hbu := hbu.below hb1
  clear hb1
  obtain ⟨T, hT⟩ : ∃ T, acc ++ o :: wrI false true l [] = T := ⟨_, rfl⟩
  have hTl : T.length + 1 ≤ 100000000 := by rw [← hT, List.length_append, List.length_cons]; omega
  have HT := Lib.hid hT
  have hal : acc.length + 2 ≤ 100000000 := by omega
  rw [show acc ++ (o :: (wrI false true l [] ++ [e])) = T ++ [e] by rw [← hT]; simp]
  have HST := Lib.hid (show (acc ++ [o]) ++ wrI false true l [] = T by rw [← hT]; simp)
  clear hT hlen
  go_enter Tryd.func54, Tryd.ntmps54
  go_wp2_with (go_at_call 52; (with_reducible refine (write_s _ _ acc [o] ⟨#[o]⟩ _ rfl hbu (by simp only [List.length_cons, List.length_nil]; omega) hB).mono ?_); rintro e w1 ⟨rfl, hbu1, hb1, hc1⟩; replace hbu := hbu1; replace hbW := hbW.trans hb1; replace hcW := hcW.trans hc1; replace hB : W0.heap.size ≤ w1.heap.size := Nat.le_trans hB hb1.size; replace lA := hc1.lies (by omega) (by decide) lA; have q3 := lA.cell 3; have q4 := lA.cell 4; simp only [List.getElem?_toArray, List.getElem?_cons_succ, List.getElem?_cons_zero] at q3 q4)
  go_loopw [16] (fun iv wr => ∃ (j : Nat) (S : List UInt8), iv = .int .i64 j ∧ j ≤ l.length ∧ Hid (S ++ wrI false (decide (j = 0)) (l.drop j) (List.drop j []) = T) ∧ IsB W0.heap.size b S wr ∧ Below W0.heap.size W wr ∧ Calm b W wr ∧ W0.heap.size ≤ wr.heap.size ∧ Lies wr W.heap.size 25 #[.int .i64 k, .int .i64 n, .string ⟨s.toArray⟩, .slice a l.length c, .slice ka 0 kc]) (fun iv _ => l.length - (intOf iv).toNat)
  case atStart => exact ⟨0, acc ++ [o], rfl, by omega, Lib.hid HST.out, hbu, hbW, hcW, hB, lA⟩
  case round =>
    clear hbu hbW hcW hB lA q3 q4 HST hb1 hc1 hbu1
    obtain ⟨j, S, rfl, hj, HS, hbu, hbW, hcW, hB, lA⟩ := hrel
    have hcW0 := hcW.1
    have hbl2 := hbu.lt
    by_cases hlt : j < l.length
    · obtain ⟨b2, off, rfl, hx⟩ := HX.out (by omega)
      obtain ⟨cs', hlen, hr, x, hxi, hv⟩ := hx j hlt
      obtain ⟨ai, ci, ak, ck, rfl⟩ := hv.form
      obtain ⟨k0, k1, k2, k3, k4⟩ := range5 (range_below (hb0.trans hbW) hr)
      have hxm := List.mem_of_getElem? hxi
      have hxc := HCN.out x hxm
      have HC := Lib.hid (fun (S2 : List UInt8) (w1 : World) (hb1 : Below W0.heap.size W w1) (hbu : IsB W0.heap.size b S2 w1) (hl : S2.length + x.wr.length ≤ 100000000) => HI.out _ x S2 w1 hv (HE.out x hxm) (by omega) (hb0.trans hb1) hbu hl)
      have HW := Lib.hid (wrI_at (m := false) (first := decide (j = 0)) (ks := []) (y := []) hxi (fun h => by cases h))
      have lX : Lies (wr.alloc (.cells #[.int .i64 x.kind, .int .i64 x.num, .string ⟨x.txt.toArray⟩, .slice ai x.items.length ci, .slice ak x.keys.length ck] 25)) wr.heap.size 25 #[.int .i64 x.kind, .int .i64 x.num, .string ⟨x.txt.toArray⟩, .slice ai x.items.length ci, .slice ak x.keys.length ck] := Lies.new wr _ _
      have hba : Below wr.heap.size wr (wr.alloc (.cells #[.int .i64 x.kind, .int .i64 x.num, .string ⟨x.txt.toArray⟩, .slice ai x.items.length ci, .slice ak x.keys.length ck] 25)) := (Below.refl wr.heap.size wr).alloc (Nat.le_refl _) _
      replace lA : Lies (wr.alloc (.cells #[.int .i64 x.kind, .int .i64 x.num, .string ⟨x.txt.toArray⟩, .slice ai x.items.length ci, .slice ak x.keys.length ck] 25)) W.heap.size 25 #[.int .i64 k, .int .i64 n, .string ⟨s.toArray⟩, .slice (some ⟨b2, off, none⟩) l.length c, .slice ka 0 kc] := lA.on hba
      replace hbu := hbu.below hba
      replace hbW : Below W0.heap.size W (wr.alloc (.cells #[.int .i64 x.kind, .int .i64 x.num, .string ⟨x.txt.toArray⟩, .slice ai x.items.length ci, .slice ak x.keys.length ck] 25)) := hbW.trans (hba.mono hB)
      replace hcW : Calm b W (wr.alloc (.cells #[.int .i64 x.kind, .int .i64 x.num, .string ⟨x.txt.toArray⟩, .slice ai x.items.length ci, .slice ak x.keys.length ck] 25)) := hcW.trans (Calm.below hba)
      replace hB : W0.heap.size ≤ (wr.alloc (.cells #[.int .i64 x.kind, .int .i64 x.num, .string ⟨x.txt.toArray⟩, .slice ai x.items.length ci, .slice ak x.keys.length ck] 25)).heap.size := Nat.le_trans hB hba.size
      have q3 := lA.cell 3; have q4 := lA.cell 4; simp only [List.getElem?_toArray, List.getElem?_cons_succ, List.getElem?_cons_zero] at q3 q4
      have p0 := lX.cell 0; have p1 := lX.cell 1; have p2 := lX.cell 2; have p3 := lX.cell 3; have p4 := lX.cell 4; simp only [List.getElem?_toArray, List.getElem?_cons_succ, List.getElem?_cons_zero] at p0 p1 p2 p3 p4
      clear hr hv hx HX HI hlen hxm HE HCN hxi hba
      rcases Nat.eq_zero_or_pos j with hz | hz
      · have hz0 : decide (j = 0) = true := decide_eq_true hz
        subst hz
        simp only [Nat.zero_mul, Nat.add_zero] at k0 k1 k2 k3 k4
        have HS2 := Lib.hid (show S ++ ([] ++ ([] ++ (x.wr ++ wrI false false (l.drop (0 + 1)) (List.drop (0 + 1) [])))) = T by
          have h1 := HS.out
          rw [HW.out, hz0] at h1
          simpa using h1)
        have hSz : S.length + x.wr.length ≤ 100000000 := by
          have h1 := congrArg List.length HS2.out
          simp only [List.length_append, List.length_nil] at h1 ⊢
          omega
        have hSz2 : S.length ≤ 100000000 := by omega
        clear HS HW hTl
        go_wp2_with (go_at_call 41; (with_reducible refine (HC.out S _ hbW hbu hSz).mono ?_); rintro e w5 ⟨rfl, hbu5, hb5, hc5⟩)
        go_roundw
        case rel => exact ⟨0 + 1, S ++ x.wr, by go_num, by omega, Lib.hid (by rw [← HS2.out]; simp), hbu5, hbW.trans hb5, hcW.trans hc5, Nat.le_trans hB hb5.size, hc5.lies (by omega) (by decide) lA⟩
        case measure => simp [intOf]; omega
      · have hz0 : decide (j = 0) = false := decide_eq_false (by omega)
        have hz1 : (j : Int) > 0 := by omega
        have HS2 := Lib.hid (show S ++ ([44] ++ ([] ++ (x.wr ++ wrI false false (l.drop (j + 1)) (List.drop (j + 1) [])))) = T by
          have h1 := HS.out
          rw [HW.out, hz0] at h1
          simpa using h1)
        have hSz : (S ++ [44]).length + x.wr.length ≤ 100000000 := by
          have h1 := congrArg List.length HS2.out
          simp only [List.length_append, List.length_cons, List.length_nil] at h1 ⊢
          omega
        have hSz2 : (S ++ [44]).length ≤ 100000000 := by omega
        simp only [List.length_append, List.length_cons, List.length_nil] at hSz2
        clear HS HW hTl
        go_wp2_with (first | (go_at_call 52; (with_reducible refine (write_s _ _ S [44] ⟨#[44]⟩ _ rfl hbu (by simp only [List.length_cons, List.length_nil]; omega) hB).mono ?_); rintro e w2 ⟨rfl, hbu2, hb2, hc2⟩; replace hbu := hbu2; replace hbW := hbW.trans hb2; replace hcW := hcW.trans hc2; replace hB : W0.heap.size ≤ w2.heap.size := Nat.le_trans hB hb2.size; replace lA := hc2.lies (by omega) (by decide) lA; replace lX := hc2.lies (by omega) (by decide) lX; have q3 := lA.cell 3; have q4 := lA.cell 4; simp only [List.getElem?_toArray, List.getElem?_cons_succ, List.getElem?_cons_zero] at q3 q4; have p0 := lX.cell 0; have p1 := lX.cell 1; have p2 := lX.cell 2; have p3 := lX.cell 3; have p4 := lX.cell 4; simp only [List.getElem?_toArray, List.getElem?_cons_succ, List.getElem?_cons_zero] at p0 p1 p2 p3 p4) | (go_at_call 41; (with_reducible refine (HC.out (S ++ [44]) _ hbW hbu hSz).mono ?_); rintro e w5 ⟨rfl, hbu5, hb5, hc5⟩))
        go_roundw
        case rel => exact ⟨j + 1, (S ++ [44]) ++ x.wr, by go_num, by omega, Lib.hid (by rw [← HS2.out]; simp), hbu5, hbW.trans hb5, hcW.trans hc5, Nat.le_trans hB hb5.size, hc5.lies (by omega) (by decide) lA⟩
        case measure => simp [intOf]; omega
    · have hS := HS.out
      rw [wrI_nil _ _ _ _ _ (by omega), List.append_nil] at hS
      subst hS
      clear HS HX HI HE HCN
      go_wp2_with (go_at_call 52; (with_reducible refine (write_s _ _ S [e] ⟨#[e]⟩ _ rfl hbu (by simp only [List.length_cons, List.length_nil]; omega) hB).mono ?_); rintro e w2 ⟨rfl, hbu2, hb2, hc2⟩)
      go_end0
      exact ⟨rfl, hbu2, hbW.trans hb2, hcW.trans hc2⟩
set_option maxHeartbeats 6400000 in
theorem items_with (W0 : World) (b d : Nat) (hI : WriteSays W0 b d) (o e : UInt8) (k n : Int) (s : List UInt8) (l : List VT) (ks : List (List UInt8)) (a ka : Option Addr) (c kc : Nat) (acc : List UInt8) (W : World)
    (hc : l.length ≤ c) (hm : c ≤ maxLen) (hkl : ks.length = l.length) (hkp : 0 < ks.length) (hko : ∀ y ∈ ks, y.length ≤ 4000) (hkx : ks ≠ [] → ∃ b off, ka = some ⟨b, off, none⟩ ∧ ∀ i x, ks[i]? = some x → W0.cell? ⟨b, off + i, none⟩ = some (str x))
    (hx : 0 < l.length → ∃ b off, a = some ⟨b, off, none⟩ ∧ ∀ i, i < l.length → ∃ cs, cs.length = 5 ∧ W0.rangeAt b (off + i * 5) cs ∧ ∃ x, l[i]? = some x ∧ IsV W0 d cs x)
    (he : eachL l = true) (hcn : countL l ≤ 2000) (hM : MaxAt W0) (hb0 : Below W0.heap.size W0 W) (hbu : IsB W0.heap.size b acc W) (hlen : acc.length + (wrI true true l ks).length + 2 ≤ 100000000) :
    Calls Tryd.prog 54 #[.pointer (some ⟨b, 0, none⟩), .string ⟨#[o]⟩, .agg #[.int .i64 k, .int .i64 n, .string ⟨s.toArray⟩, .slice a l.length c, .slice ka ks.length kc], .string ⟨#[e]⟩] W fun r w' => r = .returned (.tuple #[]) ∧ (IsB W0.heap.size b (acc ++ (o :: (wrI true true l ks ++ [e]))) w' ∧ Below W0.heap.size W w' ∧ Calm b W w') := by
  have HI := Lib.hid hI
  have HX := Lib.hid hx
  have HE := Lib.hid (fun (x : VT) (h : x ∈ l) => eachL_mem he h)
  have HCN := Lib.hid (fun (x : VT) (h : x ∈ l) => countL_mem h)
  have HK := Lib.hid hkx
  have HKO := Lib.hid hko
  have HKL := Lib.hid hkl
  clear hI hx he hkx hko hkl
  unfold maxLen at hm
  have hbl := hbu.lt
  have hB := hb0.size
  have hb1 : Below W.heap.size W (W.alloc (.cells #[.int .i64 k, .int .i64 n, .string ⟨s.toArray⟩, .slice a l.length c, .slice ka ks.length kc] 25)) := (Below.refl W.heap.size W).alloc (Nat.le_refl _) _
  have lA : Lies (W.alloc (.cells #[.int .i64 k, .int .i64 n, .string ⟨s.toArray⟩, .slice a l.length c, .slice ka ks.length kc] 25)) W.heap.size 25 #[.int .i64 k, .int .i64 n, .string ⟨s.toArray⟩, .slice a l.length c, .slice ka ks.length kc] := Lies.new W _ _
  have hbW : Below W0.heap.size W (W.alloc (.cells #[.int .i64 k, .int .i64 n, .string ⟨s.toArray⟩, .slice a l.length c, .slice ka ks.length kc] 25)) := hb1.mono hB
  have hcW : Calm b W (W.alloc (.cells #[.int .i64 k, .int .i64 n, .string ⟨s.toArray⟩, .slice a l.length c, .slice ka ks.length kc] 25)) := Calm.below hb1
  replace hB : W0.heap.size ≤ (W.alloc (.cells #[.int .i64 k, .int .i64 n, .string ⟨s.toArray⟩, .slice a l.length c, .slice ka ks.length kc] 25)).heap.size := Nat.le_trans hB hb1.size
  replace hbu := hbu.below hb1
  clear hb1
  obtain ⟨T, hT⟩ : ∃ T, acc ++ o :: wrI true true l ks = T := ⟨_, rfl⟩
  have hTl : T.length + 1 ≤ 100000000 := by rw [← hT, List.length_append, List.length_cons]; omega
  have HT := Lib.hid hT
  have hal : acc.length + 2 ≤ 100000000 := by omega
  rw [show acc ++ (o :: (wrI true true l ks ++ [e])) = T ++ [e] by rw [← hT]; simp]
  have HST := Lib.hid (show (acc ++ [o]) ++ wrI true true l ks = T by rw [← hT]; simp)
  clear hT hlen
  go_enter Tryd.func54, Tryd.ntmps54
  go_wp2_with (go_at_call 52; (with_reducible refine (write_s _ _ acc [o] ⟨#[o]⟩ _ rfl hbu (by simp only [List.length_cons, List.length_nil]; omega) hB).mono ?_); rintro e w1 ⟨rfl, hbu1, hb1, hc1⟩; replace hbu := hbu1; replace hbW := hbW.trans hb1; replace hcW := hcW.trans hc1; replace hB : W0.heap.size ≤ w1.heap.size := Nat.le_trans hB hb1.size; replace lA := hc1.lies (by omega) (by decide) lA; have q3 := lA.cell 3; have q4 := lA.cell 4; simp only [List.getElem?_toArray, List.getElem?_cons_succ, List.getElem?_cons_zero] at q3 q4)
  go_loopw [16] (fun iv wr => ∃ (j : Nat) (S : List UInt8), iv = .int .i64 j ∧ j ≤ l.length ∧ Hid (S ++ wrI true (decide (j = 0)) (l.drop j) (List.drop j ks) = T) ∧ IsB W0.heap.size b S wr ∧ Below W0.heap.size W wr ∧ Calm b W wr ∧ W0.heap.size ≤ wr.heap.size ∧ Lies wr W.heap.size 25 #[.int .i64 k, .int .i64 n, .string ⟨s.toArray⟩, .slice a l.length c, .slice ka ks.length kc]) (fun iv _ => l.length - (intOf iv).toNat)
  case atStart => exact ⟨0, acc ++ [o], rfl, by omega, Lib.hid HST.out, hbu, hbW, hcW, hB, lA⟩
  case round =>
    clear hbu hbW hcW hB lA q3 q4 HST hb1 hc1 hbu1
    obtain ⟨j, S, rfl, hj, HS, hbu, hbW, hcW, hB, lA⟩ := hrel
    have hcW0 := hcW.1
    have hbl2 := hbu.lt
    by_cases hlt : j < l.length
    · obtain ⟨b2, off, rfl, hx⟩ := HX.out (by omega)
      obtain ⟨cs', hlen, hr, x, hxi, hv⟩ := hx j hlt
      obtain ⟨ai, ci, ak, ck, rfl⟩ := hv.form
      obtain ⟨k0, k1, k2, k3, k4⟩ := range5 (range_below (hb0.trans hbW) hr)
      have hxm := List.mem_of_getElem? hxi
      have hxc := HCN.out x hxm
      have HC := Lib.hid (fun (S2 : List UInt8) (w1 : World) (hb1 : Below W0.heap.size W w1) (hbu : IsB W0.heap.size b S2 w1) (hl : S2.length + x.wr.length ≤ 100000000) => HI.out _ x S2 w1 hv (HE.out x hxm) (by omega) (hb0.trans hb1) hbu hl)
      obtain ⟨b3, off3, rfl, hkx⟩ := HK.out (by intro h; rw [h] at hkp; simp at hkp)
      obtain ⟨y, hyi⟩ : ∃ y, ks[j]? = some y := ⟨ks[j]'(by rw [HKL.out]; exact hlt), List.getElem?_eq_getElem _⟩
      have hyl := HKO.out y (List.mem_of_getElem? hyi)
      have HKC := Lib.hid (fun (w1 : World) (hb1 : Below W0.heap.size W w1) => ((hb0.trans hb1).cell (p := ⟨b3, off3 + j, none⟩) (World.block_lt_of_cell? W0 _ (hkx j y hyi))).trans (show W0.cell? ⟨b3, off3 + j, none⟩ = some (.string ⟨y.toArray⟩) from hkx j y hyi))
      have HQ := Lib.hid (fun (w1 : World) (hb1 : Below W0.heap.size W w1) => quoted_any y w1 (by omega) (hM.below (hb0.trans hb1)))
      have hqy := quot_len y
      have hjk : (j : Int) < (ks.length : Int) := by rw [HKL.out]; omega
      have hkp2 : (ks.length : Int) > 0 := by omega
      have HW := Lib.hid (wrI_at (m := true) (first := decide (j = 0)) hxi (fun _ => hyi))
      have lX : Lies (wr.alloc (.cells #[.int .i64 x.kind, .int .i64 x.num, .string ⟨x.txt.toArray⟩, .slice ai x.items.length ci, .slice ak x.keys.length ck] 25)) wr.heap.size 25 #[.int .i64 x.kind, .int .i64 x.num, .string ⟨x.txt.toArray⟩, .slice ai x.items.length ci, .slice ak x.keys.length ck] := Lies.new wr _ _
      have hba : Below wr.heap.size wr (wr.alloc (.cells #[.int .i64 x.kind, .int .i64 x.num, .string ⟨x.txt.toArray⟩, .slice ai x.items.length ci, .slice ak x.keys.length ck] 25)) := (Below.refl wr.heap.size wr).alloc (Nat.le_refl _) _
      replace lA : Lies (wr.alloc (.cells #[.int .i64 x.kind, .int .i64 x.num, .string ⟨x.txt.toArray⟩, .slice ai x.items.length ci, .slice ak x.keys.length ck] 25)) W.heap.size 25 #[.int .i64 k, .int .i64 n, .string ⟨s.toArray⟩, .slice (some ⟨b2, off, none⟩) l.length c, .slice (some ⟨b3, off3, none⟩) ks.length kc] := lA.on hba
      replace hbu := hbu.below hba
      replace hbW : Below W0.heap.size W (wr.alloc (.cells #[.int .i64 x.kind, .int .i64 x.num, .string ⟨x.txt.toArray⟩, .slice ai x.items.length ci, .slice ak x.keys.length ck] 25)) := hbW.trans (hba.mono hB)
      replace hcW : Calm b W (wr.alloc (.cells #[.int .i64 x.kind, .int .i64 x.num, .string ⟨x.txt.toArray⟩, .slice ai x.items.length ci, .slice ak x.keys.length ck] 25)) := hcW.trans (Calm.below hba)
      replace hB : W0.heap.size ≤ (wr.alloc (.cells #[.int .i64 x.kind, .int .i64 x.num, .string ⟨x.txt.toArray⟩, .slice ai x.items.length ci, .slice ak x.keys.length ck] 25)).heap.size := Nat.le_trans hB hba.size
      have q3 := lA.cell 3; have q4 := lA.cell 4; simp only [List.getElem?_toArray, List.getElem?_cons_succ, List.getElem?_cons_zero] at q3 q4
      have p0 := lX.cell 0; have p1 := lX.cell 1; have p2 := lX.cell 2; have p3 := lX.cell 3; have p4 := lX.cell 4; simp only [List.getElem?_toArray, List.getElem?_cons_succ, List.getElem?_cons_zero] at p0 p1 p2 p3 p4
      clear hr hv hx HX HI hlen hxm HE HCN hxi hba hkx HK HKO
      rcases Nat.eq_zero_or_pos j with hz | hz
      · have hz0 : decide (j = 0) = true := decide_eq_true hz
        subst hz
        simp only [Nat.zero_mul, Nat.add_zero] at k0 k1 k2 k3 k4 HKC
        have HS2 := Lib.hid (show S ++ ([] ++ ((quotL y ++ [58]) ++ (x.wr ++ wrI true false (l.drop (0 + 1)) (List.drop (0 + 1) ks)))) = T by
          have h1 := HS.out
          rw [HW.out, hz0] at h1
          simpa using h1)
        have hSz : (S ++ (quotL y ++ [58])).length + x.wr.length ≤ 100000000 := by
          have h1 := congrArg List.length HS2.out
          simp only [List.length_append, List.length_cons, List.length_nil] at h1 ⊢
          omega
        have hSz2 : (S ++ (quotL y ++ [58])).length ≤ 100000000 := by omega
        simp only [List.length_append, List.length_cons, List.length_nil] at hSz2
        clear HS HW hTl
        have g9 := HKC.out _ hbW
        go_wp2_with (first | (go_at_call 53; (with_reducible refine (HQ.out _ hbW).mono ?_); rintro e w3 ⟨rfl, hb3⟩; replace lA := lA.on hb3; replace lX := lX.on hb3; replace hbu := hbu.below hb3; replace hbW := hbW.trans (hb3.mono hB); replace hcW := hcW.trans (Calm.below hb3); replace hB : W0.heap.size ≤ w3.heap.size := Nat.le_trans hB hb3.size; have q3 := lA.cell 3; have q4 := lA.cell 4; simp only [List.getElem?_toArray, List.getElem?_cons_succ, List.getElem?_cons_zero] at q3 q4; have p0 := lX.cell 0; have p1 := lX.cell 1; have p2 := lX.cell 2; have p3 := lX.cell 3; have p4 := lX.cell 4; simp only [List.getElem?_toArray, List.getElem?_cons_succ, List.getElem?_cons_zero] at p0 p1 p2 p3 p4) | (go_at_call 52; (with_reducible refine (write_s _ _ S (quotL y ++ [58]) _ _ (cat_list _ _) hbu (by simp only [List.length_append, List.length_cons, List.length_nil]; omega) hB).mono ?_); rintro e w4 ⟨rfl, hbu4, hb4, hc4⟩; replace hbu := hbu4; replace hbW := hbW.trans hb4; replace hcW := hcW.trans hc4; replace hB : W0.heap.size ≤ w4.heap.size := Nat.le_trans hB hb4.size; replace lA := hc4.lies (by omega) (by decide) lA; replace lX := hc4.lies (by omega) (by decide) lX; have q3 := lA.cell 3; have q4 := lA.cell 4; simp only [List.getElem?_toArray, List.getElem?_cons_succ, List.getElem?_cons_zero] at q3 q4; have p0 := lX.cell 0; have p1 := lX.cell 1; have p2 := lX.cell 2; have p3 := lX.cell 3; have p4 := lX.cell 4; simp only [List.getElem?_toArray, List.getElem?_cons_succ, List.getElem?_cons_zero] at p0 p1 p2 p3 p4) | (go_at_call 41; (with_reducible refine (HC.out (S ++ (quotL y ++ [58])) _ hbW hbu hSz).mono ?_); rintro e w5 ⟨rfl, hbu5, hb5, hc5⟩))
        go_roundw
        case rel => exact ⟨0 + 1, (S ++ (quotL y ++ [58])) ++ x.wr, by go_num, by omega, Lib.hid (by rw [← HS2.out]; simp), hbu5, hbW.trans hb5, hcW.trans hc5, Nat.le_trans hB hb5.size, hc5.lies (by omega) (by decide) lA⟩
        case measure => simp [intOf]; omega
      · have hz0 : decide (j = 0) = false := decide_eq_false (by omega)
        have hz1 : (j : Int) > 0 := by omega
        have HS2 := Lib.hid (show S ++ ([44] ++ ((quotL y ++ [58]) ++ (x.wr ++ wrI true false (l.drop (j + 1)) (List.drop (j + 1) ks)))) = T by
          have h1 := HS.out
          rw [HW.out, hz0] at h1
          simpa using h1)
        have hSz : ((S ++ [44]) ++ (quotL y ++ [58])).length + x.wr.length ≤ 100000000 := by
          have h1 := congrArg List.length HS2.out
          simp only [List.length_append, List.length_cons, List.length_nil] at h1 ⊢
          omega
        have hSz2 : ((S ++ [44]) ++ (quotL y ++ [58])).length ≤ 100000000 := by omega
        simp only [List.length_append, List.length_cons, List.length_nil] at hSz2
        clear HS HW hTl
        go_wp2_with (first | (go_at_call 52; (with_reducible refine (write_s _ _ S [44] ⟨#[44]⟩ _ rfl hbu (by simp only [List.length_cons, List.length_nil]; omega) hB).mono ?_); rintro e w2 ⟨rfl, hbu2, hb2, hc2⟩; replace hbu := hbu2; replace hbW := hbW.trans hb2; replace hcW := hcW.trans hc2; replace hB : W0.heap.size ≤ w2.heap.size := Nat.le_trans hB hb2.size; replace lA := hc2.lies (by omega) (by decide) lA; replace lX := hc2.lies (by omega) (by decide) lX; have q3 := lA.cell 3; have q4 := lA.cell 4; simp only [List.getElem?_toArray, List.getElem?_cons_succ, List.getElem?_cons_zero] at q3 q4; have p0 := lX.cell 0; have p1 := lX.cell 1; have p2 := lX.cell 2; have p3 := lX.cell 3; have p4 := lX.cell 4; simp only [List.getElem?_toArray, List.getElem?_cons_succ, List.getElem?_cons_zero] at p0 p1 p2 p3 p4; have g9 := HKC.out _ hbW) | (go_at_call 53; (with_reducible refine (HQ.out _ hbW).mono ?_); rintro e w3 ⟨rfl, hb3⟩; replace lA := lA.on hb3; replace lX := lX.on hb3; replace hbu := hbu.below hb3; replace hbW := hbW.trans (hb3.mono hB); replace hcW := hcW.trans (Calm.below hb3); replace hB : W0.heap.size ≤ w3.heap.size := Nat.le_trans hB hb3.size; have q3 := lA.cell 3; have q4 := lA.cell 4; simp only [List.getElem?_toArray, List.getElem?_cons_succ, List.getElem?_cons_zero] at q3 q4; have p0 := lX.cell 0; have p1 := lX.cell 1; have p2 := lX.cell 2; have p3 := lX.cell 3; have p4 := lX.cell 4; simp only [List.getElem?_toArray, List.getElem?_cons_succ, List.getElem?_cons_zero] at p0 p1 p2 p3 p4) | (go_at_call 52; (with_reducible refine (write_s _ _ (S ++ [44]) (quotL y ++ [58]) _ _ (cat_list _ _) hbu (by simp only [List.length_append, List.length_cons, List.length_nil]; omega) hB).mono ?_); rintro e w4 ⟨rfl, hbu4, hb4, hc4⟩; replace hbu := hbu4; replace hbW := hbW.trans hb4; replace hcW := hcW.trans hc4; replace hB : W0.heap.size ≤ w4.heap.size := Nat.le_trans hB hb4.size; replace lA := hc4.lies (by omega) (by decide) lA; replace lX := hc4.lies (by omega) (by decide) lX; have q3 := lA.cell 3; have q4 := lA.cell 4; simp only [List.getElem?_toArray, List.getElem?_cons_succ, List.getElem?_cons_zero] at q3 q4; have p0 := lX.cell 0; have p1 := lX.cell 1; have p2 := lX.cell 2; have p3 := lX.cell 3; have p4 := lX.cell 4; simp only [List.getElem?_toArray, List.getElem?_cons_succ, List.getElem?_cons_zero] at p0 p1 p2 p3 p4) | (go_at_call 41; (with_reducible refine (HC.out ((S ++ [44]) ++ (quotL y ++ [58])) _ hbW hbu hSz).mono ?_); rintro e w5 ⟨rfl, hbu5, hb5, hc5⟩))
        go_roundw
        case rel => exact ⟨j + 1, ((S ++ [44]) ++ (quotL y ++ [58])) ++ x.wr, by go_num, by omega, Lib.hid (by rw [← HS2.out]; simp), hbu5, hbW.trans hb5, hcW.trans hc5, Nat.le_trans hB hb5.size, hc5.lies (by omega) (by decide) lA⟩
        case measure => simp [intOf]; omega
    · have hS := HS.out
      rw [wrI_nil _ _ _ _ _ (by omega), List.append_nil] at hS
      subst hS
      clear HS HX HI HE HCN
      go_wp2_with (go_at_call 52; (with_reducible refine (write_s _ _ S [e] ⟨#[e]⟩ _ rfl hbu (by simp only [List.length_cons, List.length_nil]; omega) hB).mono ?_); rintro e w2 ⟨rfl, hbu2, hb2, hc2⟩)
      go_end0
      exact ⟨rfl, hbu2, hbW.trans hb2, hcW.trans hc2⟩
set_option maxHeartbeats 6400000 in
theorem write_says (W0 : World) (b : Nat) (hM : MaxAt W0) (hT : Tab W0) : ∀ d, WriteSays W0 b d := by
  intro d
  induction d with
  | zero => intro cs t acc w h; exact h.elim
  | succ d ih =>
    intro cs t acc w h he hct hb0 hbu hlen
    obtain ⟨k, n, s, l, ks⟩ := t
    obtain ⟨vi, vk, rfl, hfit, hks, a, c, rfl, hc, hm, hna, hx⟩ := h
    obtain ⟨ka, kc, rfl, hkc, hkm, hkn, hkx⟩ := hks
    rw [each_eq, Bool.and_eq_true] at he
    rw [count_eq] at hct
    rw [wr_eq] at hlen ⊢
    have htx := one_txt he.2
    have hbl := hbu.lt
    simp only [VT.items, VT.kind, VT.num, VT.txt, VT.keys, str] at *
    rcases one_of he.2 with ⟨rfl, rfl, hl0, rfl⟩ | ⟨rfl, rfl, hl0, rfl⟩ | ⟨rfl, rfl, rfl, rfl⟩ | ⟨rfl, rfl, rfl, hkl⟩
    · obtain rfl := List.eq_nil_of_length_eq_zero hl0
      rw [if_pos rfl] at hlen ⊢
      have hn := htx.2.2
      have HF := Lib.hid (fun (w1 : World) (hb1 : Below W0.heap.size W0 w1) => fmt_says n w1 (by omega) (by omega) (hT.below hb1))
      clear hfit hx hkx he htx ih hM hT
      have hb1 : Below w.heap.size w (w.alloc (.cells #[.int .i64 1, .int .i64 n, .string ⟨#[]⟩, .slice a 0 c, .slice ka 0 kc] 25)) := (Below.refl w.heap.size w).alloc (Nat.le_refl _) _
      have lA : Lies (w.alloc (.cells #[.int .i64 1, .int .i64 n, .string ⟨#[]⟩, .slice a 0 c, .slice ka 0 kc] 25)) w.heap.size 25 #[.int .i64 1, .int .i64 n, .string ⟨#[]⟩, .slice a 0 c, .slice ka 0 kc] := Lies.new w _ _
      have q0 := lA.cell 0; have q1 := lA.cell 1; have q2 := lA.cell 2; have q3 := lA.cell 3; have q4 := lA.cell 4; simp only [List.getElem?_toArray, List.getElem?_cons_succ, List.getElem?_cons_zero] at q0 q1 q2 q3 q4
      have hB0 := hb0.size
      have hb0 : Below W0.heap.size W0 (w.alloc (.cells #[.int .i64 1, .int .i64 n, .string ⟨#[]⟩, .slice a 0 c, .slice ka 0 kc] 25)) := hb0.trans (hb1.mono hB0)
      have hcW : Calm b w (w.alloc (.cells #[.int .i64 1, .int .i64 n, .string ⟨#[]⟩, .slice a 0 c, .slice ka 0 kc] 25)) := Calm.below hb1
      have hbW : Below W0.heap.size w (w.alloc (.cells #[.int .i64 1, .int .i64 n, .string ⟨#[]⟩, .slice a 0 c, .slice ka 0 kc] 25)) := hb1.mono hB0
      have hB : W0.heap.size ≤ (w.alloc (.cells #[.int .i64 1, .int .i64 n, .string ⟨#[]⟩, .slice a 0 c, .slice ka 0 kc] 25)).heap.size := Nat.le_trans hB0 hb1.size
      replace hbu := hbu.below hb1
      generalize Lib.itoa n = tx at *
      go_enter Tryd.func41, Tryd.ntmps41
      go_wp2_with (first | (go_at_call 31; (with_reducible refine (HF.out _ hb0).mono ?_); rintro e w2 ⟨rfl, hb2⟩; replace hbu := hbu.below hb2; replace hbW := hbW.trans (hb2.mono hB); replace hcW := hcW.trans (Calm.below hb2); replace hB : W0.heap.size ≤ w2.heap.size := Nat.le_trans hB hb2.size) | (go_at_call 52; (with_reducible refine (write_s _ _ acc tx ⟨tx.toArray⟩ _ (by simp) hbu (by omega) hB).mono ?_); rintro e w3 ⟨rfl, hbu3, hb3, hc3⟩))
      go_end0
      exact ⟨rfl, hbu3, (hbW.trans hb3), (hcW.trans hc3)⟩
    · obtain rfl := List.eq_nil_of_length_eq_zero hl0
      rw [if_neg (by decide), if_pos rfl] at hlen ⊢
      have hsl := text_len htx.1
      have HQ := Lib.hid (fun (w1 : World) (hb1 : Below W0.heap.size W0 w1) => quoted_any s w1 (by omega) (hM.below hb1))
      clear hfit hx hkx he htx ih hM hT
      have hb1 : Below w.heap.size w (w.alloc (.cells #[.int .i64 2, .int .i64 0, .string ⟨s.toArray⟩, .slice a 0 c, .slice ka 0 kc] 25)) := (Below.refl w.heap.size w).alloc (Nat.le_refl _) _
      have lA : Lies (w.alloc (.cells #[.int .i64 2, .int .i64 0, .string ⟨s.toArray⟩, .slice a 0 c, .slice ka 0 kc] 25)) w.heap.size 25 #[.int .i64 2, .int .i64 0, .string ⟨s.toArray⟩, .slice a 0 c, .slice ka 0 kc] := Lies.new w _ _
      have q0 := lA.cell 0; have q1 := lA.cell 1; have q2 := lA.cell 2; have q3 := lA.cell 3; have q4 := lA.cell 4; simp only [List.getElem?_toArray, List.getElem?_cons_succ, List.getElem?_cons_zero] at q0 q1 q2 q3 q4
      have hB0 := hb0.size
      have hb0 : Below W0.heap.size W0 (w.alloc (.cells #[.int .i64 2, .int .i64 0, .string ⟨s.toArray⟩, .slice a 0 c, .slice ka 0 kc] 25)) := hb0.trans (hb1.mono hB0)
      have hcW : Calm b w (w.alloc (.cells #[.int .i64 2, .int .i64 0, .string ⟨s.toArray⟩, .slice a 0 c, .slice ka 0 kc] 25)) := Calm.below hb1
      have hbW : Below W0.heap.size w (w.alloc (.cells #[.int .i64 2, .int .i64 0, .string ⟨s.toArray⟩, .slice a 0 c, .slice ka 0 kc] 25)) := hb1.mono hB0
      have hB : W0.heap.size ≤ (w.alloc (.cells #[.int .i64 2, .int .i64 0, .string ⟨s.toArray⟩, .slice a 0 c, .slice ka 0 kc] 25)).heap.size := Nat.le_trans hB0 hb1.size
      replace hbu := hbu.below hb1
      generalize quotL s = tx at *
      go_enter Tryd.func41, Tryd.ntmps41
      go_wp2_with (first | (go_at_call 53; (with_reducible refine (HQ.out _ hb0).mono ?_); rintro e w2 ⟨rfl, hb2⟩; replace hbu := hbu.below hb2; replace hbW := hbW.trans (hb2.mono hB); replace hcW := hcW.trans (Calm.below hb2); replace hB : W0.heap.size ≤ w2.heap.size := Nat.le_trans hB hb2.size) | (go_at_call 52; (with_reducible refine (write_s _ _ acc tx ⟨tx.toArray⟩ _ (by simp) hbu (by omega) hB).mono ?_); rintro e w3 ⟨rfl, hbu3, hb3, hc3⟩))
      go_end0
      exact ⟨rfl, hbu3, (hbW.trans hb3), (hcW.trans hc3)⟩
    · rw [if_neg (by decide), if_neg (by decide), if_neg (by decide)] at hlen ⊢
      have HIT := Lib.hid (fun (w1 : World) (hb1 : Below W0.heap.size W0 w1) (hbu1 : IsB W0.heap.size b acc w1) => items_bare W0 b d ih 91 93 3 0 [] l a ka c kc acc w1 hc hm hx he.1 (by omega) hb1 hbu1 (by
        simp only [List.length_append, List.length_cons, List.length_nil] at hlen
        show acc.length + (wrL true l).length + 2 ≤ _
        omega))
      clear hfit hx hkx he htx ih hM hT hlen
      have hb1 : Below w.heap.size w (w.alloc (.cells #[.int .i64 3, .int .i64 0, .string ⟨#[]⟩, .slice a l.length c, .slice ka 0 kc] 25)) := (Below.refl w.heap.size w).alloc (Nat.le_refl _) _
      have lA : Lies (w.alloc (.cells #[.int .i64 3, .int .i64 0, .string ⟨#[]⟩, .slice a l.length c, .slice ka 0 kc] 25)) w.heap.size 25 #[.int .i64 3, .int .i64 0, .string ⟨#[]⟩, .slice a l.length c, .slice ka 0 kc] := Lies.new w _ _
      have q0 := lA.cell 0; have q1 := lA.cell 1; have q2 := lA.cell 2; have q3 := lA.cell 3; have q4 := lA.cell 4; simp only [List.getElem?_toArray, List.getElem?_cons_succ, List.getElem?_cons_zero] at q0 q1 q2 q3 q4
      have hB0 := hb0.size
      have hb0 : Below W0.heap.size W0 (w.alloc (.cells #[.int .i64 3, .int .i64 0, .string ⟨#[]⟩, .slice a l.length c, .slice ka 0 kc] 25)) := hb0.trans (hb1.mono hB0)
      have hcW : Calm b w (w.alloc (.cells #[.int .i64 3, .int .i64 0, .string ⟨#[]⟩, .slice a l.length c, .slice ka 0 kc] 25)) := Calm.below hb1
      have hbW : Below W0.heap.size w (w.alloc (.cells #[.int .i64 3, .int .i64 0, .string ⟨#[]⟩, .slice a l.length c, .slice ka 0 kc] 25)) := hb1.mono hB0
      have hB : W0.heap.size ≤ (w.alloc (.cells #[.int .i64 3, .int .i64 0, .string ⟨#[]⟩, .slice a l.length c, .slice ka 0 kc] 25)).heap.size := Nat.le_trans hB0 hb1.size
      replace hbu := hbu.below hb1
      go_enter Tryd.func41, Tryd.ntmps41
      go_wp2_with (go_at_call 54; (with_reducible refine (HIT.out _ hb0 hbu).mono ?_); rintro e w3 ⟨rfl, hbu3, hb3, hc3⟩)
      go_end0
      exact ⟨rfl, hbu3, (hbW.trans hb3), (hcW.trans hc3)⟩
    · rw [if_neg (by decide), if_neg (by decide), if_pos rfl] at hlen ⊢
      by_cases hk0 : ks = []
      case pos =>
        subst hk0
        obtain rfl : l = [] := List.eq_nil_of_length_eq_zero (by simpa using hkl.symm)
        have HIT := Lib.hid (fun (w1 : World) (hb1 : Below W0.heap.size W0 w1) (hbu1 : IsB W0.heap.size b acc w1) => items_bare W0 b d ih 123 125 4 0 [] [] a ka c kc acc w1 (by simp) hm (fun h => absurd h (by simp)) eachL_nil (by omega) hb1 hbu1 (by
          simp only [List.length_append, List.length_cons, List.length_nil] at hlen
          show acc.length + (wrL true []).length + 2 ≤ _
          rw [wrL_nil]
          rw [wrM_nil] at hlen
          simpa using hlen))
        have e0 : wrI false true [] [] = [] := by show wrL true [] = []; rw [wrL_nil]
        rw [e0, show ([] : List VT).length = 0 from rfl] at HIT
        rw [wrM_nil]
        clear hfit hx hkx he htx ih hM hT hlen
        have hb1 : Below w.heap.size w (w.alloc (.cells #[.int .i64 4, .int .i64 0, .string ⟨#[]⟩, .slice a 0 c, .slice ka 0 kc] 25)) := (Below.refl w.heap.size w).alloc (Nat.le_refl _) _
        have lA : Lies (w.alloc (.cells #[.int .i64 4, .int .i64 0, .string ⟨#[]⟩, .slice a 0 c, .slice ka 0 kc] 25)) w.heap.size 25 #[.int .i64 4, .int .i64 0, .string ⟨#[]⟩, .slice a 0 c, .slice ka 0 kc] := Lies.new w _ _
        have q0 := lA.cell 0; have q1 := lA.cell 1; have q2 := lA.cell 2; have q3 := lA.cell 3; have q4 := lA.cell 4; simp only [List.getElem?_toArray, List.getElem?_cons_succ, List.getElem?_cons_zero] at q0 q1 q2 q3 q4
        have hB0 := hb0.size
        have hb0 : Below W0.heap.size W0 (w.alloc (.cells #[.int .i64 4, .int .i64 0, .string ⟨#[]⟩, .slice a 0 c, .slice ka 0 kc] 25)) := hb0.trans (hb1.mono hB0)
        have hcW : Calm b w (w.alloc (.cells #[.int .i64 4, .int .i64 0, .string ⟨#[]⟩, .slice a 0 c, .slice ka 0 kc] 25)) := Calm.below hb1
        have hbW : Below W0.heap.size w (w.alloc (.cells #[.int .i64 4, .int .i64 0, .string ⟨#[]⟩, .slice a 0 c, .slice ka 0 kc] 25)) := hb1.mono hB0
        have hB : W0.heap.size ≤ (w.alloc (.cells #[.int .i64 4, .int .i64 0, .string ⟨#[]⟩, .slice a 0 c, .slice ka 0 kc] 25)).heap.size := Nat.le_trans hB0 hb1.size
        replace hbu := hbu.below hb1
        go_enter Tryd.func41, Tryd.ntmps41
        go_wp2_with (go_at_call 54; (with_reducible refine (HIT.out _ hb0 hbu).mono ?_); rintro e w3 ⟨rfl, hbu3, hb3, hc3⟩)
        go_end0
        exact ⟨rfl, hbu3, (hbW.trans hb3), (hcW.trans hc3)⟩
      have hkp : 0 < ks.length := List.length_pos_iff.2 hk0
      have HIT := Lib.hid (fun (w1 : World) (hb1 : Below W0.heap.size W0 w1) (hbu1 : IsB W0.heap.size b acc w1) => items_with W0 b d ih 123 125 4 0 [] l ks a ka c kc acc w1 hc hm hkl hkp (fun y hy => text_len (keys_mem htx.2.1 y hy)) hkx hx he.1 (by omega) hM hb1 hbu1 (by
        simp only [List.length_append, List.length_cons, List.length_nil] at hlen
        show acc.length + (wrM true l ks).length + 2 ≤ _
        omega))
      clear hfit hx hkx he htx ih hM hT hlen hk0 hkl
      have hb1 : Below w.heap.size w (w.alloc (.cells #[.int .i64 4, .int .i64 0, .string ⟨#[]⟩, .slice a l.length c, .slice ka ks.length kc] 25)) := (Below.refl w.heap.size w).alloc (Nat.le_refl _) _
      have lA : Lies (w.alloc (.cells #[.int .i64 4, .int .i64 0, .string ⟨#[]⟩, .slice a l.length c, .slice ka ks.length kc] 25)) w.heap.size 25 #[.int .i64 4, .int .i64 0, .string ⟨#[]⟩, .slice a l.length c, .slice ka ks.length kc] := Lies.new w _ _
      have q0 := lA.cell 0; have q1 := lA.cell 1; have q2 := lA.cell 2; have q3 := lA.cell 3; have q4 := lA.cell 4; simp only [List.getElem?_toArray, List.getElem?_cons_succ, List.getElem?_cons_zero] at q0 q1 q2 q3 q4
      have hB0 := hb0.size
      have hb0 : Below W0.heap.size W0 (w.alloc (.cells #[.int .i64 4, .int .i64 0, .string ⟨#[]⟩, .slice a l.length c, .slice ka ks.length kc] 25)) := hb0.trans (hb1.mono hB0)
      have hcW : Calm b w (w.alloc (.cells #[.int .i64 4, .int .i64 0, .string ⟨#[]⟩, .slice a l.length c, .slice ka ks.length kc] 25)) := Calm.below hb1
      have hbW : Below W0.heap.size w (w.alloc (.cells #[.int .i64 4, .int .i64 0, .string ⟨#[]⟩, .slice a l.length c, .slice ka ks.length kc] 25)) := hb1.mono hB0
      have hB : W0.heap.size ≤ (w.alloc (.cells #[.int .i64 4, .int .i64 0, .string ⟨#[]⟩, .slice a l.length c, .slice ka ks.length kc] 25)).heap.size := Nat.le_trans hB0 hb1.size
      replace hbu := hbu.below hb1
      go_enter Tryd.func41, Tryd.ntmps41
      go_wp2_with (go_at_call 54; (with_reducible refine (HIT.out _ hb0 hbu).mono ?_); rintro e w3 ⟨rfl, hbu3, hb3, hc3⟩)
      go_end0
      exact ⟨rfl, hbu3, (hbW.trans hb3), (hcW.trans hc3)⟩
set_option maxHeartbeats 1600000 in
theorem textOf_any (d : Nat) (cs : List Value) (t : VT) (W : World) (h : IsV W d cs t) (he : t.each = true) (hc : t.count ≤ 2000) (hM : MaxAt W) (hT : Tab W) :
    Calls Tryd.prog 27 #[.agg cs.toArray] W fun e w' => e = .returned (.string ⟨t.wr.toArray⟩) ∧ Below W.heap.size W w' := by
  have hwl := wr_len t.count t (Nat.le_refl _) he
  obtain ⟨ai, ci, ak, ck, rfl⟩ := h.form
  have hb1 : Below W.heap.size W (W.alloc (.cells #[.int .i64 t.kind, .int .i64 t.num, .string ⟨t.txt.toArray⟩, .slice ai t.items.length ci, .slice ak t.keys.length ck] 25)) := (Below.refl W.heap.size W).alloc (Nat.le_refl _) _
  have hsz : (W.alloc (.cells #[.int .i64 t.kind, .int .i64 t.num, .string ⟨t.txt.toArray⟩, .slice ai t.items.length ci, .slice ak t.keys.length ck] 25)).heap.size = W.heap.size + 1 := by simp
  have HW := Lib.hid (fun (w1 : World) (hb : Below (W.alloc (.cells #[.int .i64 t.kind, .int .i64 t.num, .string ⟨t.txt.toArray⟩, .slice ai t.items.length ci, .slice ak t.keys.length ck] 25)).heap.size (W.alloc (.cells #[.int .i64 t.kind, .int .i64 t.num, .string ⟨t.txt.toArray⟩, .slice ai t.items.length ci, .slice ak t.keys.length ck] 25)) w1) (hbu : IsB (W.alloc (.cells #[.int .i64 t.kind, .int .i64 t.num, .string ⟨t.txt.toArray⟩, .slice ai t.items.length ci, .slice ak t.keys.length ck] 25)).heap.size (W.alloc (.cells #[.int .i64 t.kind, .int .i64 t.num, .string ⟨t.txt.toArray⟩, .slice ai t.items.length ci, .slice ak t.keys.length ck] 25)).heap.size [] w1) =>
    write_says (W.alloc (.cells #[.int .i64 t.kind, .int .i64 t.num, .string ⟨t.txt.toArray⟩, .slice ai t.items.length ci, .slice ak t.keys.length ck] 25)) (W.alloc (.cells #[.int .i64 t.kind, .int .i64 t.num, .string ⟨t.txt.toArray⟩, .slice ai t.items.length ci, .slice ak t.keys.length ck] 25)).heap.size (hM.below hb1) (hT.below hb1) d _ t [] w1 (h.below hb1) he hc hb hbu (by simp; omega))
  have hbu := builder_new (W.alloc (.cells #[.int .i64 t.kind, .int .i64 t.num, .string ⟨t.txt.toArray⟩, .slice ai t.items.length ci, .slice ak t.keys.length ck] 25))
  have lA : Lies (W.alloc (.cells #[.int .i64 t.kind, .int .i64 t.num, .string ⟨t.txt.toArray⟩, .slice ai t.items.length ci, .slice ak t.keys.length ck] 25)) W.heap.size 25 #[.int .i64 t.kind, .int .i64 t.num, .string ⟨t.txt.toArray⟩, .slice ai t.items.length ci, .slice ak t.keys.length ck] := Lies.new W _ _
  have hbv : Below (W.alloc (.cells #[.int .i64 t.kind, .int .i64 t.num, .string ⟨t.txt.toArray⟩, .slice ai t.items.length ci, .slice ak t.keys.length ck] 25)).heap.size (W.alloc (.cells #[.int .i64 t.kind, .int .i64 t.num, .string ⟨t.txt.toArray⟩, .slice ai t.items.length ci, .slice ak t.keys.length ck] 25)) ((W.alloc (.cells #[.int .i64 t.kind, .int .i64 t.num, .string ⟨t.txt.toArray⟩, .slice ai t.items.length ci, .slice ak t.keys.length ck] 25)).alloc (.cells #[.pointer none, .slice none 0 0] 67)) := (Below.refl _ _).alloc (Nat.le_refl _) _
  have lB := lA.on hbv
  have q0 := lB.cell 0; have q1 := lB.cell 1; have q2 := lB.cell 2; have q3 := lB.cell 3; have q4 := lB.cell 4; simp only [List.getElem?_toArray, List.getElem?_cons_succ, List.getElem?_cons_zero] at q0 q1 q2 q3 q4
  rw [hsz] at HW hbu hbv
  have hB1 : W.heap.size ≤ W.heap.size + 1 := Nat.le_succ _
  clear h he hc hM hT lA lB
  simp only [List.nil_append] at HW
  generalize t.wr = tx at *
  go_enter Tryd.func27, Tryd.ntmps27
  go_wp2_with (first | (go_at_call 41; (with_reducible refine (HW.out _ hbv hbu).mono ?_); rintro e w3 ⟨rfl, hbu3, hb3, hc3⟩; replace hbv := hbv.trans hb3; clear hb3 hc3) | (go_at_call 42; (with_reducible refine (string_b _ _ _ _ hbu3 (Nat.le_trans (Nat.le_of_eq hsz.symm) hbv.size)).mono ?_); rintro e w4 ⟨rfl, hb4⟩))
  go_ret
  exact ⟨rfl, (hb1.trans ((hbv.trans hb4).mono hB1))⟩
set_option maxHeartbeats 1600000 in
theorem print_yes (d : Nat) (cs : List Value) (t : VT) (W : World) (h : IsV W d cs t) (ho : t.okB = true) (hM : MaxAt W) (hT : Tab W) :
    Calls Tryd.prog 11 #[.agg cs.toArray] W fun e w' => e = .returned (.tuple #[.string ⟨t.wr.toArray⟩, .int .i64 0]) ∧ Below W.heap.size W w' := by
  have ho2 := ho
  unfold VT.okB at ho2
  rw [Bool.and_eq_true, Bool.and_eq_true, decide_eq_true_eq] at ho2
  have HR := Lib.hid (fun (w1 : World) (hb : Below W.heap.size W w1) => right_any d cs t w1 (h.below hb))
  have HX := Lib.hid (fun (w1 : World) (hb : Below W.heap.size W w1) => textOf_any d cs t w1 (h.below hb) ho2.2 ho2.1.1 (hM.below hb) (hT.below hb))
  rw [ho] at HR
  obtain ⟨ai, ci, ak, ck, rfl⟩ := h.form
  have hbW : Below W.heap.size W (W.alloc (.cells #[.int .i64 t.kind, .int .i64 t.num, .string ⟨t.txt.toArray⟩, .slice ai t.items.length ci, .slice ak t.keys.length ck] 25)) := (Below.refl W.heap.size W).alloc (Nat.le_refl _) _
  have lA : Lies (W.alloc (.cells #[.int .i64 t.kind, .int .i64 t.num, .string ⟨t.txt.toArray⟩, .slice ai t.items.length ci, .slice ak t.keys.length ck] 25)) W.heap.size 25 #[.int .i64 t.kind, .int .i64 t.num, .string ⟨t.txt.toArray⟩, .slice ai t.items.length ci, .slice ak t.keys.length ck] := Lies.new W _ _
  have q0 := lA.cell 0; have q1 := lA.cell 1; have q2 := lA.cell 2; have q3 := lA.cell 3; have q4 := lA.cell 4; simp only [List.getElem?_toArray, List.getElem?_cons_succ, List.getElem?_cons_zero] at q0 q1 q2 q3 q4
  clear h ho ho2 hM hT
  generalize t.wr = tx at *
  go_enter Tryd.func11, Tryd.ntmps11
  go_wp2_with (first | (go_at_call 16; (with_reducible refine (HR.out _ hbW).mono ?_); rintro e w1 ⟨rfl, hb1⟩; replace hbW := below_on hbW hb1; replace lA := lA.on hb1; have q0 := lA.cell 0; have q1 := lA.cell 1; have q2 := lA.cell 2; have q3 := lA.cell 3; have q4 := lA.cell 4; simp only [List.getElem?_toArray, List.getElem?_cons_succ, List.getElem?_cons_zero] at q0 q1 q2 q3 q4) | (go_at_call 27; (with_reducible refine (HX.out _ hbW).mono ?_); rintro e w2 ⟨rfl, hb2⟩))
  go_ret2
  exact ⟨rfl, below_on hbW hb2⟩
end Go.Proofs.YtdfdpckcemdimaaDoor.V

/- The reference's Less. -/
namespace Go.Proofs.YtdfdpckcemdimaaDoor.V
open Go.RowKit Go.Sort
set_option maxRecDepth 100000

theorem lessL_drop {l m : List UInt8} {k : Nat} (hl : k < l.length) (hm : k < m.length) : lessL (l.drop k) (m.drop k) = if l[k] = m[k] then lessL (l.drop (k + 1)) (m.drop (k + 1)) else decide (l[k].toNat < m[k].toNat) := by
  rw [List.drop_eq_getElem_cons hl, List.drop_eq_getElem_cons hm, lessL]
theorem lessL_end {l m : List UInt8} {k : Nat} (h1 : k ≤ l.length) (h2 : k ≤ m.length) (h : l.length ≤ k ∨ m.length ≤ k) : lessL (l.drop k) (m.drop k) = decide (l.length < m.length) := by
  rcases h with h | h
  · rw [List.drop_eq_nil_of_le h]
    cases hd : m.drop k with
    | nil =>
      have := congrArg List.length hd
      simp at this
      rw [lessL, decide_eq_false (by omega)]
    | cons c r =>
      have := congrArg List.length hd
      simp at this
      rw [lessL, decide_eq_true (by omega)]
  · rw [List.drop_eq_nil_of_le h]
    cases hd : l.drop k with
    | nil => 
      have := congrArg List.length hd
      simp at this
      rw [lessL, decide_eq_false (by omega)]
    | cons c r => rw [lessL, decide_eq_false (by omega)]
set_option maxHeartbeats 1600000 in
theorem refLess_any (s t : ByteArray) (W : World) (hs : s.size ≤ maxLen) :
    Calls Tryd.prog 38 #[.string s, .string t] W fun e w' => e = .returned (.bool (lessL s.data.toList t.data.toList)) ∧ Below W.heap.size W w' := by
  unfold maxLen at hs
  have hl1 : s.data.toList.length = s.size := Array.length_toList
  have hl2 : t.data.toList.length = t.size := Array.length_toList
  go_enter Tryd.func38, Tryd.ntmps38
  go_wp2
  go_loopw [5] (fun iv wr => ∃ k : Nat, iv = .int .i64 k ∧ k ≤ s.size ∧ k ≤ t.size ∧ Hid (lessL s.data.toList t.data.toList = lessL (s.data.toList.drop k) (t.data.toList.drop k)) ∧ Below W.heap.size W wr) (fun iv _ => s.size - (intOf iv).toNat)
  case atStart => exact ⟨0, rfl, Nat.zero_le _, Nat.zero_le _, Lib.hid (by rw [List.drop_zero, List.drop_zero]), Below.refl _ _⟩
  case round =>
    obtain ⟨k, rfl, hk1, hk2, HS, hb⟩ := hrel
    by_cases hlt1 : k < s.size
    · have h1 : (k : Int) < (s.size : Int) := by omega
      by_cases hlt2 : k < t.size
      · have h2 : (k : Int) < (t.size : Int) := by omega
        have hS := HS.out
        have he : s.data.toList[k]'(by omega) = s[k] := rfl
        have he2 : t.data.toList[k]'(by omega) = t[k] := rfl
        rw [lessL_drop (by omega) (by omega), he, he2] at hS
        by_cases hne : s[k] = t[k]
        · rw [if_pos hne] at hS
          have HS2 := Lib.hid hS
          have h3 : ((s[k].toNat : Int) != (t[k].toNat : Int)) = false := by rw [hne]; simp
          clear HS hS he he2 
          go_wp2
          go_region
          go_wp2
          go_roundw
          case rel => exact ⟨k + 1, by go_num, by omega, by omega, HS2, hb.drew⟩
          case measure => simp [intOf]; omega
        · rw [if_neg hne] at hS
          have hr := Lib.hid hS
          have h3 : ((s[k].toNat : Int) != (t[k].toNat : Int)) = true := by
            simp only [bne_iff_ne, ne_eq]
            intro e
            exact hne (UInt8.toNat_inj.1 (by omega))
          clear HS hS he he2
          go_wp2
          go_region
          go_wp2
          go_region
          go_wp2
          go_ret
          exact ⟨ret1_of (by rw [hr.out]; simp), hb.drew.drew⟩
      · have h2 : ¬ (k : Int) < (t.size : Int) := by omega
        have hr := Lib.hid (show lessL s.data.toList t.data.toList = decide (s.size < t.size) by
          rw [HS.out, lessL_end (by omega) (by omega) (.inr (by omega)), hl1, hl2])
        clear HS
        go_wp2
        go_ret
        exact ⟨ret1_of (by rw [hr.out]; rfl), hb⟩
    · have h1 : ¬ (k : Int) < (s.size : Int) := by omega
      have hr := Lib.hid (show lessL s.data.toList t.data.toList = decide (s.size < t.size) by
        rw [HS.out, lessL_end (by omega) (by omega) (.inl (by omega)), hl1, hl2])
      clear HS
      go_wp2
      go_ret
      exact ⟨ret1_of (by rw [hr.out]; rfl), hb⟩
end Go.Proofs.YtdfdpckcemdimaaDoor.V

/- The reference's Count. -/
namespace Go.Proofs.YtdfdpckcemdimaaDoor.V
open Go.RowKit Go.Sort Go.Joins
set_option maxRecDepth 100000

set_option maxHeartbeats 1600000 in
theorem refCount_any : ∀ (d : Nat) (cs : List Value) (t : VT) (lim : Int) (w : World), IsV w d cs t → 0 ≤ lim → lim ≤ 4000 →
    Calls Tryd.prog 13 #[.agg cs.toArray, .int .i64 lim] w fun e w' => e = .returned (.int .i64 (t.cnt lim)) ∧ Below w.heap.size w w' := by
  intro d
  induction d with
  | zero => intro cs t lim w h; exact h.elim
  | succ d ih =>
    intro cs t lim W h hl1 hl2
    obtain ⟨vi, vk, rfl, hfit, hks, a, c, rfl, hc, hm, hna, hx⟩ := h
    obtain ⟨k, n, s, l, ks⟩ := t
    have HI := Lib.hid ih
    have HX := Lib.hid hx
    rw [cnt_eq]
    simp only [VT.items, VT.kind, VT.num, VT.txt] at *
    clear ih hfit hks hx hna
    unfold maxLen at hm
    have hbW := (Below.refl W.heap.size W).alloc (Nat.le_refl _) (.cells #[.int .i64 k, .int .i64 n, .string ⟨s.toArray⟩, .slice a l.length c, vk] 25)
    go_enter Tryd.func13, Tryd.ntmps13
    go_wp2
    go_loopw [5, 11] (fun nv iv wr => ∃ (m : Int) (j : Nat), nv = .int .i64 m ∧ iv = .int .i64 j ∧ j ≤ l.length ∧ 1 ≤ m ∧ m ≤ 4001 ∧ Hid (cntL (l.drop j) lim m = cntL l lim 1) ∧ Below W.heap.size W wr) (fun _ iv _ => l.length - (intOf iv).toNat)
    case atStart => exact ⟨1, 0, rfl, rfl, by omega, by omega, by omega, Lib.hid (by rw [List.drop_zero]), hbW⟩
    case round =>
      obtain ⟨m, j, rfl, rfl, hj, hm1, hm2, HS, hb⟩ := hrel
      by_cases hlt : j < l.length
      · obtain ⟨b, off, rfl, hx⟩ := HX.out (by omega)
        obtain ⟨cs', hlen, hr, x, hxi, hv⟩ := hx j hlt
        obtain ⟨ai, ci, ak, ck, rfl⟩ := hv.form
        obtain ⟨k0, k1, k2, k3, k4⟩ := range5 (range_below hb hr)
        have hv := hv.below hb
        have HC := Lib.hid (fun (w1 : World) (hb1 : Below wr.heap.size wr w1) (h1 : m ≤ lim) => HI.out _ x (lim - m) w1 (hv.below hb1) (by omega) (by omega))
        clear hr hv hx HX HI hlen
        have hS : cntL (l.drop j) lim m = if lim < m then m else cntL (l.drop (j + 1)) lim (m + x.cnt (lim - m)) := by
          rw [List.drop_eq_getElem_cons hlt, cntL_cons, (List.getElem?_eq_some_iff.1 hxi).2]
        clear hxi
        by_cases hgt : lim < m
        · have hr2 := Lib.hid (show m = cntL l lim 1 by rw [← HS.out, hS, if_pos hgt])
          clear hS HS HC
          go_wp2
          go_ret
          exact ⟨ret1_of (by rw [← hr2.out]; rfl), hb.trans ((below_alloc1 wr _).mono hb.size)⟩
        · have hS2 := Lib.hid (show cntL (l.drop (j + 1)) lim (m + x.cnt (lim - m)) = cntL l lim 1 by rw [← HS.out, hS, if_neg hgt])
          clear hS HS
          have hmo := cnt_more x (lim - m)
          have hle : m ≤ lim := by omega
          go_wp2_with (go_at_call 13; refine (HC.out _ (below_alloc1 wr _) hle).mono ?_; rintro e w2 ⟨rfl, hb2⟩)
          go_roundw
          case rel => exact ⟨m + x.cnt (lim - m), j + 1, by go_num, by go_num, by omega, by omega, by omega, hS2, on_below hb (on_new _ hb2) hb.size⟩
          case measure => simp [intOf]; omega
      · have hr2 := Lib.hid (show m = cntL l lim 1 by rw [← HS.out, List.drop_eq_nil_of_le (by omega), cntL_nil])
        obtain rfl : j = l.length := by omega
        go_wp2
        go_ret
        exact ⟨ret1_of (by rw [← hr2.out]; rfl), hb⟩
end Go.Proofs.YtdfdpckcemdimaaDoor.V

/- The reference's one: which may be, but for its items. -/
namespace Go.Proofs.YtdfdpckcemdimaaDoor.V
open Go.RowKit Go.Sort Go.Joins
set_option maxRecDepth 100000

theorem refLess_l (x y : List UInt8) (W : World) (hs : x.length ≤ maxLen) : Calls Tryd.prog 38 #[.string ⟨x.toArray⟩, .string ⟨y.toArray⟩] W fun e w' => e = .returned (.bool (lessL x y)) ∧ Below W.heap.size W w' :=
  refLess_any ⟨x.toArray⟩ ⟨y.toArray⟩ W (by rw [str_size]; exact hs)
end Go.Proofs.YtdfdpckcemdimaaDoor.V

/- The reference's Right. -/
namespace Go.Proofs.YtdfdpckcemdimaaDoor.V
open Go.RowKit Go.Sort Go.Joins
set_option maxRecDepth 100000

theorem cnt_le (t : VT) (lim : Int) : (t.cnt lim ≤ lim) ↔ ((t.count : Int) ≤ lim) := by
  obtain ⟨h1, h2, _⟩ := cnt_ok t.count t (Nat.le_refl _) lim
  constructor
  · intro h
    rcases Int.lt_or_le lim (t.count : Int) with h3 | h3
    · have := (h2 h3).1; omega
    · exact h3
  · intro h
    rw [h1 h]; exact h
end Go.Proofs.YtdfdpckcemdimaaDoor.V

/- The statements' alive and big. -/
namespace Go.Proofs.YtdfdpckcemdimaaDoor.V
open Go.RowKit Go.Sort Go.Joins
set_option maxRecDepth 100000

theorem RowL.whole {w : World} {g : Nat} {e : TypeId} {k : Nat} {css : List (List Value)} (h0 : ∀ cs ∈ css, cs.length = k) (hn : css.length ≤ maxLen) (h : Lies w g e css.flatten.toArray) : RowL w k (.slice (some ⟨g, 0, none⟩) css.length css.length) css := by
  refine ⟨h0, some ⟨g, 0, none⟩, css.length, rfl, Nat.le_refl _, hn, (fun e => by cases e), fun _ => ⟨g, 0, rfl, fun i cs hi j u hu => ?_⟩⟩
  have := h.cell (i * k + j)
  rw [List.getElem?_toArray, flat_at h0 hi j u hu] at this
  rwa [show 0 + i * k + j = i * k + j by omega]
def numT (n : Int) : VT := .mk 1 n [] [] []
def txtT (s : List UInt8) : VT := .mk 2 0 s [] []
def listT (l : List VT) : VT := .mk 3 0 [] l []
theorem isV_num (w : World) (n : Int) (h : -9223372036854775808 ≤ n ∧ n ≤ 9223372036854775807) : IsV w 1 [.int .i64 1, .int .i64 n, .string ⟨#[]⟩, .slice none 0 0, .slice none 0 0] (numT n) :=
  isV_make (s := []) (css := []) (RowL.nil w 5) rfl (fun i cs h => by simp at h) (Strs.nil w) ⟨(show -9223372036854775808 ≤ (1 : Int) ∧ (1 : Int) ≤ 9223372036854775807 by decide), h, Nat.zero_le _, fun x h => by cases h⟩
theorem isV_txt (w : World) (s : List UInt8) (h : s.length ≤ maxLen) : IsV w 1 [.int .i64 2, .int .i64 0, .string ⟨s.toArray⟩, .slice none 0 0, .slice none 0 0] (txtT s) :=
  isV_make (s := s) (css := []) (RowL.nil w 5) rfl (fun i cs h => by simp at h) (Strs.nil w) ⟨(show -9223372036854775808 ≤ (2 : Int) ∧ (2 : Int) ≤ 9223372036854775807 by decide), (show -9223372036854775808 ≤ (0 : Int) ∧ (0 : Int) ≤ 9223372036854775807 by decide), h, fun x h => by cases h⟩
theorem isV_list {w : World} {d : Nat} {v : Value} {css : List (List Value)} {l : List VT} (hv : RowL w 5 v css) (hl : css.length = l.length) (hx : ∀ (i : Nat) (cs : List Value), css[i]? = some cs → ∃ x, l[i]? = some x ∧ IsV w d cs x) :
    IsV w (d + 1) [.int .i64 3, .int .i64 0, .string ⟨#[]⟩, v, .slice none 0 0] (listT l) :=
  isV_make (s := []) hv hl hx (Strs.nil w) ⟨(show -9223372036854775808 ≤ (3 : Int) ∧ (3 : Int) ≤ 9223372036854775807 by decide), (show -9223372036854775808 ≤ (0 : Int) ∧ (0 : Int) ≤ 9223372036854775807 by decide), Nat.zero_le _, fun x h => by cases h⟩
def aliveT : VT := listT [numT 1, txtT [97, 34, 98]]
theorem alive_ok : aliveT.okB = true := by
  unfold VT.okB aliveT listT numT txtT
  simp [count_eq, countL_cons, countL_nil, depth_eq, depthL_cons, depthL_nil, each_eq, eachL_cons, eachL_nil, oneB, textOk, keysOk_nil]
theorem alive_wr : aliveT.wr = [91, 49, 44, 34, 97, 92, 34, 98, 34, 93] := by
  unfold aliveT listT numT txtT
  have e : Lib.itoa 1 = [49] := by
    unfold Lib.itoa
    rw [if_neg (by decide), Lib.decDigits_one (by decide)]
    rfl
  simp [wr_eq, wrL_cons, wrL_nil, e, quotL, escL]
def aliveC : List (List Value) := [[.int .i64 1, .int .i64 1, .string ⟨#[]⟩, .slice none 0 0, .slice none 0 0], [.int .i64 2, .int .i64 0, .string ⟨#[97, 34, 98]⟩, .slice none 0 0, .slice none 0 0]]
theorem aliveC_row (w : World) : RowL (w.alloc (.cells #[.int .i64 1, .int .i64 1, .string ⟨#[]⟩, .slice none 0 0, .slice none 0 0, .int .i64 2, .int .i64 0, .string ⟨#[97, 34, 98]⟩, .slice none 0 0, .slice none 0 0] 25)) 5 (.slice (some ⟨w.heap.size, 0, none⟩) 2 2) aliveC :=
  RowL.whole (css := aliveC) (by intro cs h; simp only [aliveC, List.mem_cons, List.mem_nil_iff, or_false] at h; rcases h with rfl | rfl <;> rfl) (by decide) (Lies.new w _ _)
theorem aliveC_isV {w : World} {v : Value} (h : RowL w 5 v aliveC) : IsV w 2 [.int .i64 3, .int .i64 0, .string ⟨#[]⟩, v, .slice none 0 0] aliveT := by
  refine isV_list h rfl (fun i cs hi => ?_)
  match i with
  | 0 =>
    simp only [aliveC, List.getElem?_cons_zero, Option.some.injEq] at hi
    subst hi
    exact ⟨numT 1, rfl, isV_num w 1 (by decide)⟩
  | 1 =>
    simp only [aliveC, List.getElem?_cons_succ, List.getElem?_cons_zero, Option.some.injEq] at hi
    subst hi
    exact ⟨txtT [97, 34, 98], rfl, isV_txt w [97, 34, 98] (by decide)⟩
  | i + 2 => simp [aliveC] at hi
theorem aliveC_one : ∀ u ∈ aliveC.flatten, u.oneCell' = true := by
  intro u hu
  simp only [aliveC, List.flatten_cons, List.flatten_nil, List.cons_append, List.nil_append, List.mem_cons, List.mem_nil_iff, or_false] at hu
  rcases hu with rfl | rfl | rfl | rfl | rfl | rfl | rfl | rfl | rfl | rfl <;> rfl
set_option maxHeartbeats 1600000 in
theorem alive_any (W : World) (hM : MaxAt W) (hT : Tab W) :
    Calls Tryd.prog 10 #[] W fun e w' => e = .returned (.bool true) ∧ Below W.heap.size W w' := by
  have HN := Lib.hid (fun w1 => number_any 1 w1)
  have HT := Lib.hid (fun w1 => text_any ⟨#[97, 34, 98]⟩ w1)
  have HL := Lib.hid (fun (w1 : World) => list_any _ aliveC _ (aliveC_row w1) aliveC_one (by decide))
  have HP := Lib.hid (fun (v : Value) (w1 : World) (hb : Below W.heap.size W w1) (hr : RowL w1 5 v aliveC) => print_yes 2 _ aliveT w1 (aliveC_isV hr) alive_ok (hM.below hb) (hT.below hb))
  rw [alive_wr] at HP
  have hb := Below.refl W.heap.size W
  go_enter Tryd.func10, Tryd.ntmps10
  go_wp2_with (first
    | (go_at_call 24; (with_reducible refine (HN.out _).mono ?_); rintro e w1 ⟨rfl, hb1⟩; replace hb := below_on hb hb1)
    | (go_at_call 23; (with_reducible refine (HT.out _).mono ?_); rintro e w2 ⟨rfl, hb2⟩; replace hb := below_on hb hb2)
    | (go_at_call 25; (with_reducible refine (HL.out _).mono ?_); rintro e w3 ⟨v', rfl, ho, hb3⟩; replace hb := below_on (hb.alloc hb.size _) hb3; have hr := ho.read; have hf := ho.form; obtain ⟨va, vc, rfl, _, _, _⟩ := hf)
    | (go_at_call 11; (with_reducible refine (HP.out _ _ hb hr).mono ?_); rintro e w4 ⟨rfl, hb4⟩; replace hb := below_on hb hb4))
  go_ret
  exact ⟨rfl, hb⟩
set_option maxHeartbeats 800000 in
theorem big_any (d : Nat) (cs : List Value) (t : VT) (w : World) (h : IsV w d cs t) :
    Calls Tryd.prog 9 #[.agg cs.toArray] w fun e w' => e = .returned (.bool (decide (2100 < t.count))) ∧ Below w.heap.size w w' := by
  have HC := Lib.hid (fun (w1 : World) (hb : Below w.heap.size w w1) => refCount_any d cs t 2100 w1 (h.below hb) (by decide) (by decide))
  obtain ⟨ai, ci, ak, ck, rfl⟩ := h.form
  have hm1 := cnt_le t 2100
  have hbW := (Below.refl w.heap.size w).alloc (Nat.le_refl _) (.cells #[.int .i64 t.kind, .int .i64 t.num, .string ⟨t.txt.toArray⟩, .slice ai t.items.length ci, .slice ak t.keys.length ck] 25)
  have lA := Lies.new w 25 #[.int .i64 t.kind, .int .i64 t.num, .string ⟨t.txt.toArray⟩, .slice ai t.items.length ci, .slice ak t.keys.length ck]
  have q0 := lA.cell 0
  have q1 := lA.cell 1
  have q2 := lA.cell 2
  have q3 := lA.cell 3
  have q4 := lA.cell 4
  simp only [List.getElem?_toArray, List.getElem?_cons_succ, List.getElem?_cons_zero] at q0 q1 q2 q3 q4
  clear h
  have he : decide (2100 < t.count) = decide (t.cnt 2100 > 2100) := by
    by_cases hc : t.count ≤ 2100
    · rw [decide_eq_false (by omega), decide_eq_false (by have := hm1.2 (by omega); omega)]
    · rw [decide_eq_true (by omega), decide_eq_true (by
        rcases Int.lt_or_le 2100 (t.cnt 2100) with h | h
        · exact h
        · have := hm1.1 h; omega)]
  rw [he]
  clear hm1 he
  generalize t.cnt 2100 = m at *
  go_enter Tryd.func9, Tryd.ntmps9
  go_wp2_with (go_at_call 13; (with_reducible refine (HC.out _ hbW).mono ?_); rintro e w1 ⟨rfl, hb1⟩)
  go_ret
  exact ⟨rfl, below_on hbW hb1⟩
end Go.Proofs.YtdfdpckcemdimaaDoor.V

/- The developers' extent, Count and Depth. -/
namespace Go.Proofs.YtdfdpckcemdimaaDoor.V
open Go.RowKit Go.Sort Go.Joins
set_option maxRecDepth 100000

/-- so many, and so deep, with the first j items -/
def ExtTo (l : List VT) (j m p : Nat) : Prop := m = 1 + countL (l.take j) ∧ p = 1 + depthL (l.take j)
theorem ExtTo.next {l : List VT} {j m p : Nat} {x : VT} (h : ExtTo l j m p) (hx : l[j]? = some x) : ExtTo l (j + 1) (m + x.count) (max p (x.depth + 1)) := by
  obtain ⟨hlt, rfl⟩ := List.getElem?_eq_some_iff.1 hx
  refine ⟨?_, ?_⟩
  · rw [List.take_succ_eq_append_getElem hlt, countL_append, countL_cons, countL_nil, h.1]; omega
  · rw [List.take_succ_eq_append_getElem hlt, depthL_append, depthL_cons, depthL_nil, h.2]; omega
end Go.Proofs.YtdfdpckcemdimaaDoor.V

/- The walk of the statement of how many and how deep values are: whatever pairs, it answers true. -/
namespace Go.Proofs.YtdfdpckcemdimaaDoor.V
open Go.RowKit Go.Sort Go.Joins
set_option maxRecDepth 100000

theorem RowL.front {w : World} {k : Nat} {a : Option Addr} {n c : Nat} {css : List (List Value)} (h : RowL w k (.slice a n c) css) {j : Nat} (hj : j ≤ css.length) : RowL w k (.slice a j c) (css.take j) := by
  obtain ⟨h0, a', c', hv, hc, hm, hn, hl⟩ := h
  injection hv with e1 e2 e3
  subst e1
  subst e3
  have hlen : (css.take j).length = j := by rw [List.length_take]; omega
  refine ⟨fun cs hcs => h0 cs (List.mem_of_mem_take hcs), a, c, by rw [hlen], by omega, hm, hn, fun hpos => ?_⟩
  obtain ⟨b, off, ha, hx⟩ := hl (by omega)
  refine ⟨b, off, ha, fun i cs hi => hx i cs ?_⟩
  rw [List.getElem?_take] at hi
  split at hi
  · exact hi
  · cases hi
theorem Pairs.front {w : World} {d : Nat} {a : Option Addr} {n c : Nat} {S : List PairT} (h : Pairs w d (.slice a n c) S) {j : Nat} (hj : j ≤ S.length) : Pairs w d (.slice a j c) (S.take j) :=
  ⟨by rw [List.map_take]; exact h.1.front (by rw [List.length_map]; exact hj), fun p hp => h.2 p (List.mem_of_mem_take hp)⟩
/-- how many, and how deep, the first ones are -/
def SizeTo (S : List PairT) (j n e : Nat) : Prop := n = 1 + countL ((S.take j).map (·.val)) ∧ e = depthL ((S.take j).map (·.val))
theorem SizeTo.next {S : List PairT} {j n e : Nat} {p : PairT} (h : SizeTo S j n e) (hp : S[j]? = some p) : SizeTo S (j + 1) (n + p.val.count) (max e p.val.depth) := by
  obtain ⟨hlt, rfl⟩ := List.getElem?_eq_some_iff.1 hp
  obtain ⟨rfl, rfl⟩ := h
  unfold SizeTo
  rw [List.take_succ_eq_append_getElem hlt, List.map_append, countL_append, depthL_append]
  simp only [List.map_cons, List.map_nil, countL_cons, countL_nil, depthL_cons, depthL_nil]
  omega
/-- what is no value -/
def zeroT : VT := .mk 0 0 [] [] []
theorem isV_zero (w : World) (d : Nat) : IsV w (d + 1) [.int .i64 0, .int .i64 0, .string ⟨#[]⟩, .slice none 0 0, .slice none 0 0] zeroT :=
  isV_make (s := []) (RowL.nil w 5) rfl (fun i cs h => by simp at h) (Strs.nil w) ⟨(show -9223372036854775808 ≤ (0 : Int) ∧ (0 : Int) ≤ 9223372036854775807 by decide), (show -9223372036854775808 ≤ (0 : Int) ∧ (0 : Int) ≤ 9223372036854775807 by decide), Nat.zero_le _, fun x hx => by cases hx⟩
/-- Map's answer: a value, and a number -/
theorem Ans.val {B d : Nat} {S : List PairT} {cs : List Value} {er : Int} {w : World} (h : Ans B S cs er w) (hp : ∀ p ∈ S, IsV w d p.cells p.val ∧ p.key.length ≤ maxLen) : ∃ t : VT, IsV w (d + 1) cs t ∧
    ((er = 0 ∧ ∃ S' : List PairT, S'.Perm S ∧ Rising S' ∧ t = mapT S') ∨ (er = 23 ∧ ¬ (S.map (·.key)).Nodup ∧ t = zeroT)) := by
  rcases h with ⟨he, S', h1, h2, vi, vk, rfl, hi, hk⟩ | ⟨he, hn, rfl⟩
  · exact ⟨_, mapT_isV hi.read hk.read (fun p hq => hp p (h1.mem_iff.1 hq)), .inl ⟨he, S', h1, h2, rfl⟩⟩
  · exact ⟨_, isV_zero w d, .inr ⟨he, hn, rfl⟩⟩
theorem one_valL {W : World} {d : Nat} {S : List PairT} (h : ∀ p ∈ S, IsV W d p.cells p.val) : ∀ u ∈ (valL S).flatten, u.oneCell' = true := by
  intro u hu
  obtain ⟨cs, hcs, hu⟩ := List.mem_flatten.1 hu
  obtain ⟨p, hp, rfl⟩ := List.mem_map.1 hcs
  exact (h p hp).ones u hu
end Go.Proofs.YtdfdpckcemdimaaDoor.V

/- Values by keys: rising pairs, their one order, what a key gets. -/
namespace Go.Proofs.YtdfdpckcemdimaaDoor.V
open Go.RowKit Go.Sort Go.Joins
set_option maxRecDepth 100000

theorem Rising.tail {p : PairT} {S : List PairT} (h : Rising (p :: S)) : Rising S := fun i x y h1 h2 => h (i + 1) x y (by simpa using h1) (by simpa using h2)
theorem Rising.pair : ∀ {S : List PairT}, Rising S → S.Pairwise (fun p q => lessL p.key q.key = true) := by
  intro S
  induction S with
  | nil => intro _; exact List.Pairwise.nil
  | cons p r ih =>
    intro h
    refine List.Pairwise.cons ?_ (ih h.tail)
    cases r with
    | nil => intro x hx; cases hx
    | cons q r =>
      have hpq := h 0 p q rfl rfl
      intro x hx
      rcases List.mem_cons.1 hx with rfl | hx
      · exact hpq
      · exact less_trans _ _ _ hpq (List.rel_of_pairwise_cons (ih h.tail) hx)
theorem less_anti {x y : List UInt8} (h : lessL x y = true) : lessL y x = false := by
  rcases less_three x y with ⟨_, _, h1⟩ | ⟨h1, _, _⟩ | ⟨h1, _, _⟩
  · exact h1
  · rw [h1, lessL_same] at h; cases h
  · rw [h1] at h; cases h
theorem rising_one {S S' : List PairT} (hp : S.Perm S') (h : Rising S) (h' : Rising S') : S = S' :=
  List.Perm.eq_of_pairwise (fun a b _ _ hab hba => by rw [less_anti hab] at hba; cases hba) h.pair h'.pair hp
theorem Rising.nodup {S : List PairT} (h : Rising S) : (S.map (·.key)).Nodup := by
  rw [List.nodup_iff_pairwise_ne, List.pairwise_map]
  exact h.pair.imp fun hab he => by rw [he, lessL_same] at hab; cases hab
theorem perm_nodup {S S' : List PairT} (hp : S'.Perm S) (h : Rising S') : (S.map (·.key)).Nodup := ((hp.map (·.key)).nodup_iff).1 h.nodup
/-- what a key gets, or no value -/
def getT (t : VT) (key : List UInt8) : VT := (getV t key).getD zeroT
theorem get_any (d : Nat) (cs : List Value) (t : VT) (key : List UInt8) (W : World) (h : IsV W (d + 1) cs t) :
    Calls Tryd.prog 19 #[.agg cs.toArray, .string ⟨key.toArray⟩] W fun e w' => ∃ cs', e = .returned (.tuple #[.agg cs'.toArray, .bool (getV t key).isSome]) ∧ IsV w' (d + 1) cs' (getT t key) ∧ Below W.heap.size W w' := by
  unfold getT
  cases hg : getV t key with
  | none =>
    refine (get_none (d + 1) cs t key W h hg).mono ?_
    rintro e w' ⟨rfl, hb⟩
    exact ⟨_, rfl, isV_zero w' d, hb⟩
  | some x =>
    refine (get_some d cs t x key W h hg).mono ?_
    rintro e w' ⟨cs', rfl, hv, hb⟩
    exact ⟨cs', rfl, hv.mono (Nat.le_succ _), hb⟩
theorem Pairs.mono {w : World} {d d' : Nat} {v : Value} {S : List PairT} (h : Pairs w d v S) (hd : d ≤ d') : Pairs w d' v S := ⟨h.1, fun p hp => ⟨(h.2 p hp).1.mono hd, (h.2 p hp).2⟩⟩
end Go.Proofs.YtdfdpckcemdimaaDoor.V

/- What the statement of values that are made goes through, place by place. -/
namespace Go.Proofs.YtdfdpckcemdimaaDoor.V
open Go.RowKit Go.Sort Go.Joins
set_option maxRecDepth 100000

/-- with the first j keys gone through: is it found, and what is wanted -/
def WantTo (t : VT) (key : List UInt8) (j : Nat) (f : Bool) (x : VT) : Prop :=
  (f = false ∧ x = zeroT ∧ FirstTo t.keys key j) ∨ (f = true ∧ ∃ i, i < j ∧ FirstTo t.keys key i ∧ t.keys[i]? = some key ∧ t.items[i]? = some x)
theorem WantTo.zero (t : VT) (key : List UInt8) : WantTo t key 0 false zeroT := .inl ⟨rfl, rfl, fun i k h => absurd h (by omega)⟩
theorem WantTo.other {t : VT} {key k : List UInt8} {j : Nat} {f : Bool} {x : VT} (h : WantTo t key j f x) (hk : t.keys[j]? = some k) (hne : k ≠ key) : WantTo t key (j + 1) f x := by
  rcases h with ⟨h1, h2, h3⟩ | ⟨h1, i, h2, h3⟩
  · refine .inl ⟨h1, h2, fun i y hi hy => ?_⟩
    rcases Nat.lt_or_ge i j with h4 | h4
    · exact h3 i y h4 hy
    · obtain rfl : i = j := by omega
      rw [hk] at hy
      cases hy
      exact hne
  · exact .inr ⟨h1, i, by omega, h3⟩
theorem WantTo.was {t : VT} {key : List UInt8} {j : Nat} {x : VT} (h : WantTo t key j true x) : WantTo t key (j + 1) true x := by
  rcases h with ⟨h1, _⟩ | ⟨h1, i, h2, h3⟩
  · cases h1
  · exact .inr ⟨h1, i, by omega, h3⟩
theorem WantTo.hit {t : VT} {key : List UInt8} {j : Nat} {x y : VT} (h : WantTo t key j false x) (hk : t.keys[j]? = some key) (hy : t.items[j]? = some y) : WantTo t key (j + 1) true y := by
  rcases h with ⟨_, _, h3⟩ | ⟨h1, _⟩
  · exact .inr ⟨rfl, j, by omega, h3, hk, hy⟩
  · cases h1
theorem WantTo.done {t : VT} {key : List UInt8} {f : Bool} {x : VT} (hk : t.kind = 4) (hl : t.keys.length = t.items.length) (h : WantTo t key t.keys.length f x) : f = (getV t key).isSome ∧ x = getT t key := by
  rcases h with ⟨rfl, rfl, h3⟩ | ⟨rfl, i, h2, h3, h4, h5⟩
  · have hf := firstAt_none t.keys key (fun k hk => by
      obtain ⟨i, hi⟩ := List.mem_iff_getElem?.1 hk
      exact h3 i k (List.getElem?_eq_some_iff.1 hi).1 hi)
    have hg : getV t key = none := by unfold getV; rw [hf]; exact if_neg (fun h => absurd h.2.2 (by decide))
    unfold getT
    rw [hg]
    exact ⟨rfl, rfl⟩
  · have hf := firstAt_some t.keys key i h3 h4
    have hg : getV t key = some x := by unfold getV; rw [hf, if_pos ⟨hk, hl, Int.natCast_nonneg i⟩, Int.toNat_natCast]; exact h5
    unfold getT
    rw [hg]
    exact ⟨rfl, rfl⟩
theorem getV_kind {t : VT} {key : List UInt8} (h : ¬ (t.kind = 4 ∧ t.keys.length = t.items.length)) : (getV t key).isSome = false ∧ getT t key = zeroT := by
  have hg : getV t key = none := by unfold getV; exact if_neg (fun g => h ⟨g.1, g.2.1⟩)
  unfold getT
  rw [hg]
  exact ⟨rfl, rfl⟩
/-- with the first i pairs gone through, and of the next one the first j -/
def TwiceIn (S : List PairT) (key : List UInt8) (i j : Nat) (b : Bool) : Prop := b = true ↔ (¬ ((S.take i).map (·.key)).Nodup ∨ ∃ k q, k < j ∧ S[k]? = some q ∧ q.key = key)
def TwiceTo (S : List PairT) (i : Nat) (b : Bool) : Prop := b = true ↔ ¬ ((S.take i).map (·.key)).Nodup
theorem TwiceTo.zero (S : List PairT) : TwiceTo S 0 false := by
  unfold TwiceTo
  rw [List.take_zero, List.map_nil]
  exact ⟨(fun h => by cases h), fun h => absurd List.nodup_nil h⟩
theorem TwiceTo.begin {S : List PairT} {i : Nat} {b : Bool} (h : TwiceTo S i b) (key : List UInt8) : TwiceIn S key i 0 b := by
  unfold TwiceIn
  refine h.trans ⟨.inl, fun g => g.elim id fun ⟨k, q, hk, _⟩ => absurd hk (by omega)⟩
theorem TwiceIn.was {S : List PairT} {key : List UInt8} {i j : Nat} (h : TwiceIn S key i j true) : TwiceIn S key i (j + 1) true := by
  refine ⟨fun _ => ?_, fun _ => rfl⟩
  rcases h.1 rfl with h1 | ⟨k, q, hk, h2⟩
  · exact .inl h1
  · exact .inr ⟨k, q, by omega, h2⟩
theorem TwiceIn.hit {S : List PairT} {i j : Nat} {q : PairT} (hq : S[j]? = some q) : TwiceIn S q.key i (j + 1) true := ⟨fun _ => .inr ⟨j, q, by omega, hq, rfl⟩, fun _ => rfl⟩
theorem TwiceIn.other {S : List PairT} {key : List UInt8} {i j : Nat} {q : PairT} (h : TwiceIn S key i j false) (hq : S[j]? = some q) (hne : key ≠ q.key) : TwiceIn S key i (j + 1) false := by
  refine ⟨(fun h => by cases h), fun g => ?_⟩
  refine h.2 ?_
  rcases g with h1 | ⟨k, x, hk, hx, he⟩
  · exact .inl h1
  · rcases Nat.lt_or_ge k j with h4 | h4
    · exact .inr ⟨k, x, h4, hx, he⟩
    · obtain rfl : k = j := by omega
      rw [hq] at hx
      cases hx
      exact absurd he.symm hne
theorem TwiceIn.done {S : List PairT} {i : Nat} {b : Bool} {p : PairT} (hp : S[i]? = some p) (h : TwiceIn S p.key i i b) : TwiceTo S (i + 1) b := by
  refine h.trans ?_
  have ht : (S.take (i + 1)).map (·.key) = (S.take i).map (·.key) ++ [p.key] := by
    obtain ⟨hl, rfl⟩ := List.getElem?_eq_some_iff.1 hp
    rw [List.take_succ_eq_append_getElem hl, List.map_append]
    rfl
  rw [ht, List.nodup_append]
  constructor
  · rintro (h1 | ⟨k, q, hk, hq, he⟩) ⟨g1, _, g3⟩
    · exact h1 g1
    · refine g3 q.key (List.mem_map_of_mem (List.mem_of_getElem? (i := k) ?_)) p.key (List.mem_singleton_self _) he
      rw [List.getElem?_take, if_pos hk]; exact hq
  · intro g
    by_cases h1 : ((S.take i).map (·.key)).Nodup
    · refine .inr ?_
      by_cases h2 : ∃ k q, k < i ∧ S[k]? = some q ∧ q.key = p.key
      · exact h2
      · refine absurd ⟨h1, by simp, fun a ha b hb => ?_⟩ g
        rcases List.mem_singleton.1 hb with rfl
        intro he
        obtain ⟨q, hq, rfl⟩ := List.mem_map.1 ha
        obtain ⟨k, hk⟩ := List.mem_iff_getElem?.1 hq
        rw [List.getElem?_take] at hk
        split at hk
        case isFalse => cases hk
        rename_i hki
        exact h2 ⟨k, q, hki, hk, he⟩
    · exact .inl h1
theorem TwiceTo.done {S : List PairT} {b : Bool} (h : TwiceTo S S.length b) : b = true ↔ ¬ (S.map (·.key)).Nodup := by
  unfold TwiceTo at h
  rwa [List.take_length] at h
end Go.Proofs.YtdfdpckcemdimaaDoor.V

