/- Texts that stand on one another, put together: ShelfR, VRefWrite, VQuote, ShelfF, VFmt, VWrite. -/
import Derived.Test.YtmbmeidkmhajbaaDoorL6
import Derived.Lib.AppendIntMem
import Derived.Lib.Replace
import Derived.Lib.SmallJoins
import Derived.Lib.SplitLaws
import Derived.Shelf.LaysC
import Derived.Shelf.LaysM
import Derived.Shelf.Strconv.Clone
import Derived.Shelf.Strconv.ErrVarParseInt
import Derived.Shelf.Strconv.Itoa0
import Derived.Shelf.Strconv.Itoa1
import Derived.Shelf.Strconv.Itoa2
import Derived.Shelf.Strconv.Itoa3
import Derived.Shelf.Strconv.Itoa4
import Derived.Shelf.Strconv.Lower
import Derived.Shelf.Strconv.ParseInt10
import Derived.Shelf.Strconv.ParseInt10All
import Derived.Shelf.Strconv.ParseInt10At16
import Derived.Shelf.Strconv.ParseInt10At32
import Derived.Shelf.Strconv.ParseInt10At64
import Derived.Shelf.Strconv.ParseInt10At8
import Derived.Shelf.Strconv.ParseIntEmpty
import Derived.Shelf.Strconv.ParseIntPublic10
import Derived.Shelf.Strconv.ParseUint10
import Derived.Shelf.Strconv.ParseUint10Any
import Derived.Shelf.Strconv.ParseUint10At
import Derived.Shelf.Strconv.ParseUint10Empty
import Derived.Shelf.Strconv.ParseUint10b16
import Derived.Shelf.Strconv.ParseUint10b32
import Derived.Shelf.Strconv.ParseUint10b64
import Derived.Shelf.Strconv.ParseUint10b8
import Derived.Shelf.Strconv.ParseUintEmpty
import Derived.Shelf.Strconv.RangeError
import Derived.Shelf.Strconv.SyntaxError
import Derived.Shelf.Strconv.ToError
import Derived.Shelf.Strconv.ToErrorRange
import Derived.Shelf.Strings.Builder1
import Derived.Shelf.Strings.Builder2
import Derived.Shelf.Strings.Builder2Cap
import Derived.Shelf.Strings.BuilderCap
import Derived.Shelf.Strings.BuilderF
import Derived.Shelf.Strings.BuilderK
import Derived.Shelf.Strings.Count
import Derived.Shelf.Strings.Replace
import Derived.Shelf.Strings.Search1
import Derived.Shelf.Strings.Search2
import Derived.Shelf.Strings.Search3
import Derived.Shelf.Strings.Shaped
import Derived.Shelf.Strings.Split
import Derived.Shelf.Strings.SplitShaped
import Derived.Shelf.Unicode.DecodeSlow
import Derived.Test.YtmbmeidkmhajbaaDoorProg
/- The library's own contracts laid at this program: one application each. -/
namespace Go.Proofs
open Go.Shelf
def Tryd.lays155_ren : Go.Shelf.Ren := ⟨fun | 155 => 56 | 154 => 67 | 138 => 75 | 165 => 76 | 143 => 77 | 166 => 35 | 197 => 78 | 169 => 30 | 195 => 86 | 218 => 87 | 240 => 54 | 241 => 88 | 219 => 89 | 260 => 90 | 276 => 62 | 277 => 96 | 217 => 97 | 225 => 98 | 224 => 99 | 267 => 100 | 266 => 102 | 314 => 103 | n => n, fun | 9 => 9 | 3 => 3 | 4 => 4 | 72 => 63 | 0 => 0 | 76 => 72 | 105 => 113 | 21 => 21 | 5 => 5 | 70 => 61 | 20 => 20 | 37 => 42 | 75 => 71 | 127 => 77 | 164 => 92 | 46 => 109 | 119 => 131 | 139 => 134 | 138 => 133 | 146 => 138 | 51 => 106 | 80 => 65 | n => n, fun | 1 => 5 | 3 => 6 | 4 => 7 | n => n⟩
theorem Tryd.lays155 : Go.Proofs.Lays.n155 Tryd.prog Tryd.lays155_ren := {
  mixed := by kernel_rfl
  f138 := Tryd.func75.trans (congrArg some (by kernel_rfl))
  f143 := Tryd.func77.trans (congrArg some (by kernel_rfl))
  f154 := Tryd.func67.trans (congrArg some (by kernel_rfl))
  f155 := Tryd.func56.trans (congrArg some (by kernel_rfl))
  f165 := Tryd.func76.trans (congrArg some (by kernel_rfl))
  f166 := Tryd.func35.trans (congrArg some (by kernel_rfl))
  f169 := Tryd.func30.trans (congrArg some (by kernel_rfl))
  f195 := Tryd.func86.trans (congrArg some (by kernel_rfl))
  f197 := Tryd.func78.trans (congrArg some (by kernel_rfl))
  f217 := Tryd.func97.trans (congrArg some (by kernel_rfl))
  f218 := Tryd.func87.trans (congrArg some (by kernel_rfl))
  f219 := Tryd.func89.trans (congrArg some (by kernel_rfl))
  f224 := Tryd.func99.trans (congrArg some (by kernel_rfl))
  f225 := Tryd.func98.trans (congrArg some (by kernel_rfl))
  f240 := Tryd.func54.trans (congrArg some (by kernel_rfl))
  f241 := Tryd.func88.trans (congrArg some (by kernel_rfl))
  f260 := Tryd.func90.trans (congrArg some (by kernel_rfl))
  f266 := Tryd.func102.trans (congrArg some (by kernel_rfl))
  f267 := Tryd.func100.trans (congrArg some (by kernel_rfl))
  f276 := Tryd.func62.trans (congrArg some (by kernel_rfl))
  f277 := Tryd.func96.trans (congrArg some (by kernel_rfl))
  f314 := Tryd.func103.trans (congrArg some (by kernel_rfl))
  t0 := Tryd.underlying0
  a0 := Tryd.isAgg0
  z0 := Tryd.sizeOf0
  v0 := Tryd.zeroValue0
  t3 := Tryd.underlying3
  a3 := Tryd.isAgg3
  z3 := Tryd.sizeOf3
  v3 := Tryd.zeroValue3
  t4 := Tryd.underlying4
  a4 := Tryd.isAgg4
  z4 := Tryd.sizeOf4
  v4 := Tryd.zeroValue4
  t5 := Tryd.underlying5
  a5 := Tryd.isAgg5
  z5 := Tryd.sizeOf5
  v5 := Tryd.zeroValue5
  t9 := Tryd.underlying9
  a9 := Tryd.isAgg9
  z9 := Tryd.sizeOf9
  v9 := Tryd.zeroValue9
  t20 := Tryd.underlying20
  a20 := Tryd.isAgg20
  z20 := Tryd.sizeOf20
  v20 := Tryd.zeroValue20
  t21 := Tryd.underlying21
  a21 := Tryd.isAgg21
  z21 := Tryd.sizeOf21
  v21 := Tryd.zeroValue21
  t37 := Tryd.underlying42
  a37 := Tryd.isAgg42
  z37 := Tryd.sizeOf42
  v37 := Tryd.zeroValue42
  t46 := Tryd.underlying109
  a46 := Tryd.isAgg109
  z46 := Tryd.sizeOf109
  v46 := Tryd.zeroValue109
  t51 := Tryd.underlying106
  a51 := Tryd.isAgg106
  z51 := Tryd.sizeOf106
  v51 := Tryd.zeroValue106
  t70 := Tryd.underlying61
  a70 := Tryd.isAgg61
  z70 := Tryd.sizeOf61
  v70 := Tryd.zeroValue61
  t72 := Tryd.underlying63
  a72 := Tryd.isAgg63
  z72 := Tryd.sizeOf63
  v72 := Tryd.zeroValue63
  t75 := Tryd.underlying71
  a75 := Tryd.isAgg71
  z75 := Tryd.sizeOf71
  v75 := Tryd.zeroValue71
  t76 := Tryd.underlying72
  a76 := Tryd.isAgg72
  z76 := Tryd.sizeOf72
  v76 := Tryd.zeroValue72
  t105 := Tryd.underlying113
  a105 := Tryd.isAgg113
  z105 := Tryd.sizeOf113
  v105 := Tryd.zeroValue113
  t119 := Tryd.underlying131
  a119 := Tryd.isAgg131
  z119 := Tryd.sizeOf131
  t127 := Tryd.underlying77
  a127 := Tryd.isAgg77
  z127 := Tryd.sizeOf77
  v127 := Tryd.zeroValue77
  t138 := Tryd.underlying133
  a138 := Tryd.isAgg133
  z138 := Tryd.sizeOf133
  v138 := Tryd.zeroValue133
  t139 := Tryd.underlying134
  a139 := Tryd.isAgg134
  z139 := Tryd.sizeOf134
  v139 := Tryd.zeroValue134
  t146 := Tryd.underlying138
  a146 := Tryd.isAgg138
  z146 := Tryd.sizeOf138
  v146 := Tryd.zeroValue138
  t164 := Tryd.underlying92
  a164 := Tryd.isAgg92
  z164 := Tryd.sizeOf92
  v164 := Tryd.zeroValue92
  g1 := by kernel_rfl
  g3 := by kernel_rfl
  g4 := by kernel_rfl }
theorem Tryd.Builder_Extra_155 : Builder.Extra Tryd.prog Tryd.lays155_ren := {
  sizeBuilder := by kernel_rfl
  liesBuilder := by kernel_rfl
  t5 := Tryd.underlying5
  a5 := Tryd.isAgg5
  z5 := Tryd.sizeOf5
  v5 := Tryd.zeroValue5
  infoByte := by kernel_rfl
  cellsByte := by kernel_rfl
  sizeByte := by kernel_rfl
  neB5 := by decide }
open Go.RowKit Go.Lib in
theorem Tryd.strings_ReplaceAll (s old new : ByteArray) (m : Int) (w : World) (hs : s.size < 4294967281) (hm : w.cell? ⟨5, 0, none⟩ = some (.int .i64 m)) (h1 : 1 ≤ old.size) (hlen : s.size + Lib.countB s old * new.size ≤ 140737488355328) :
    Calls Tryd.prog 56 #[.string s, .string old, .string new] w fun e w' =>
      e = .returned (.string ⟨(Lib.replaceAll s.data.toList old.data.toList new.data.toList).toArray⟩) ∧ Below w.heap.size w w' := Any.strings_ReplaceAll Tryd.lays155 Tryd.Builder_Extra_155 s old new m w hs hm h1 hlen
end Go.Proofs

/- The reference's Write, of a value that may be. -/
namespace Go.Proofs.YtmbmeidkmhajbaaDoor.V
open Go.RowKit Go.Sort Go.Joins
set_option maxRecDepth 100000

/-- the library's table of powers of ten lies there -/
def Tab (w : World) : Prop := Lib.TabIs Tryd.prog w "internal/strconv.uint64pow10" .u64 Lib.pow10Tab
theorem Tab.below {w w' : World} (h : Tab w) (hb : Below w.heap.size w w') : Tab w' := tab_stays (show Tryd.prog.globalNamed "internal/strconv.uint64pow10" = some 0 by kernel_rfl) h hb (Nat.le_refl _)
/-- what the library's FormatInt gives -/
def FmtSays : Prop := ∀ (n : Int) (w : World), -9223372036854775808 ≤ n → n ≤ 9223372036854775807 → Tab w → Calls Tryd.prog 36 #[.int .i64 n, .int .i64 10] w fun e w' => e = .returned (.string ⟨(Lib.itoa n).toArray⟩) ∧ Below w.heap.size w w'
/-- the items' text, with keys or without -/
def wrI (m first : Bool) (l : List VT) (ks : List (List UInt8)) : List UInt8 := if m then wrM first l ks else wrL first l
theorem wrI_at {m first : Bool} {l : List VT} {ks : List (List UInt8)} {j : Nat} {x : VT} {y : List UInt8} (hx : l[j]? = some x) (hy : m = true → ks[j]? = some y) :
    wrI m first (l.drop j) (ks.drop j) = (if first then [] else [44]) ++ ((if m then quotL y ++ [58] else []) ++ (x.wr ++ wrI m false (l.drop (j + 1)) (ks.drop (j + 1)))) := by
  obtain ⟨hlt, hx⟩ := List.getElem?_eq_some_iff.1 hx
  unfold wrI
  rw [List.drop_eq_getElem_cons hlt, hx]
  cases m with
  | false => simp [wrL_cons]
  | true =>
    obtain ⟨hlt2, hy⟩ := List.getElem?_eq_some_iff.1 (hy rfl)
    rw [List.drop_eq_getElem_cons hlt2, hy]
    simp [wrM_cons]
theorem wrI_nil (m first : Bool) (l : List VT) (ks : List (List UInt8)) (j : Nat) (h : l.length ≤ j) : wrI m first (l.drop j) (ks.drop j) = [] := by
  rw [List.drop_eq_nil_of_le h]
  unfold wrI
  cases m <;> simp [wrL_nil, wrM_nil]

theorem cat2 (a b : Array UInt8) : ({ data := a } : ByteArray) ++ { data := b } = { data := a ++ b } := by
  show ByteArray.append _ _ = _
  apply ByteArray.ext
  simp [ByteArray.append]
theorem close_eq {S : ByteArray} {T : List UInt8} (o c : UInt8) (h : S.data.toList = T) : (⟨#[o]⟩ : ByteArray) ++ S ++ ⟨#[c]⟩ = ⟨(o :: (T ++ [c])).toArray⟩ := by
  obtain ⟨d⟩ := S
  subst h
  rw [cat2, cat2]
  apply ByteArray.ext
  apply Array.ext'
  simp
/-! ### how long a text is -/
theorem quot_len (s : List UInt8) : (quotL s).length ≤ 2 * s.length + 2 := by
  have := esc_len s
  unfold quotL
  simp
  omega
theorem text_len {s : List UInt8} (h : textOk s = true) : s.length ≤ 4000 := by
  unfold textOk at h
  simp at h
  exact h.2
theorem keys_mem : ∀ {ks : List (List UInt8)}, keysOk ks = true → ∀ x ∈ ks, textOk x = true := by
  intro ks
  induction ks with
  | nil => intro _ x hx; cases hx
  | cons k r ih =>
    intro h x hx
    cases r with
    | nil =>
      rw [keysOk] at h
      rcases List.mem_cons.1 hx with rfl | hx
      · exact h
      · cases hx
    | cons k' r' =>
      rw [keysOk, Bool.and_eq_true, Bool.and_eq_true] at h
      rcases List.mem_cons.1 hx with rfl | hx
      · exact h.1.1
      · exact ih h.2 x hx
theorem one_txt {k n : Int} {s : List UInt8} {m : Nat} {ks : List (List UInt8)} (h : oneB k n s m ks = true) : textOk s = true ∧ keysOk ks = true ∧ (-1099511627776 ≤ n ∧ n ≤ 1099511627776) := by
  unfold oneB at h
  simp only [Bool.and_eq_true, decide_eq_true_eq] at h
  exact ⟨h.1.1.2, h.2, h.1.1.1.2⟩
theorem dec_len : ∀ (d u : Nat), u < 10 ^ d → (Lib.decDigits u).length ≤ max 1 d := by
  intro d
  induction d with
  | zero =>
    intro u h
    rw [Lib.decDigits_one (by simp at h; omega)]
    simp
  | succ d ih =>
    intro u h
    by_cases h10 : u < 10
    · rw [Lib.decDigits_one h10]
      show 1 ≤ _
      omega
    · have e : Lib.decDigits u = Lib.decDigits (u / 10) ++ [UInt8.ofNat (48 + u % 10)] := by rw [Lib.decDigits, dif_neg h10]
      have h2 : u / 10 < 10 ^ d := by rw [Nat.pow_succ] at h; omega
      have := ih (u / 10) h2
      rw [e, List.length_append, List.length_singleton]
      have hd : d ≠ 0 := by rintro rfl; simp at h2; omega
      omega
theorem itoa_len {n : Int} (h : -1099511627776 ≤ n ∧ n ≤ 1099511627776) : (Lib.itoa n).length ≤ 14 := by
  unfold Lib.itoa
  split
  · have := dec_len 13 n.natAbs (by omega)
    rw [List.length_cons]
    omega
  · have := dec_len 13 n.toNat (by omega)
    omega

/-! ### how long the text of one that may be is -/
theorem wrI_len {m : Bool} : ∀ (l : List VT) (ks : List (List UInt8)) (first : Bool), (∀ x ∈ l, x.wr.length + 8004 ≤ 16006 * x.count) → (∀ y ∈ ks, y.length ≤ 4000) → (wrI m first l ks).length ≤ 16006 * countL l := by
  intro l
  induction l with
  | nil => intro ks first _ _; unfold wrI; cases m <;> simp [wrL_nil, wrM_nil]
  | cons x l ih =>
    intro ks first hx hk
    have h1 := hx x (by simp)
    have h2 := ih ks.tail false (fun y hy => hx y (by simp [hy])) (fun y hy => hk y (List.mem_of_mem_tail hy))
    have h3 : (ks.headD []).length ≤ 4000 := by
      cases ks with
      | nil => simp
      | cons y r => exact hk y (by simp)
    have h4 := quot_len (ks.headD [])
    have h5 : (if first then ([] : List UInt8) else [44]).length ≤ 1 := by cases first <;> simp
    rw [countL_cons]
    unfold wrI at h2 ⊢
    cases m with
    | false =>
      simp only [Bool.false_eq_true, if_false, wrL_cons, List.length_append] at h2 ⊢
      have h6 := ih ks false (fun y hy => hx y (by simp [hy])) hk
      unfold wrI at h6
      simp only [Bool.false_eq_true, if_false] at h6
      omega
    | true =>
      simp only [if_true, wrM_cons, List.length_append, List.length_cons] at h2 ⊢
      omega
theorem wr_len : ∀ (m : Nat) (v : VT), v.count ≤ m → v.each = true → v.wr.length + 8004 ≤ 16006 * v.count := by
  intro m
  induction m with
  | zero => intro v h; have := count_pos v; omega
  | succ m ih =>
    intro v hc he
    obtain ⟨k, n, s, l, ks⟩ := v
    rw [count_eq] at hc ⊢
    rw [each_eq, Bool.and_eq_true] at he
    rw [wr_eq]
    obtain ⟨t1, t2, t3⟩ := one_txt he.2
    have hx : ∀ x ∈ l, x.wr.length + 8004 ≤ 16006 * x.count := fun x hx => ih x (by have := countL_mem hx; omega) (eachL_mem he.1 hx)
    have hk : ∀ y ∈ ks, y.length ≤ 4000 := fun y hy => text_len (keys_mem t2 y hy)
    have h1 := itoa_len t3
    have h2 := quot_len s
    have h3 := text_len t1
    have h4 := wrI_len (m := true) l ks true hx hk
    have h5 := wrI_len (m := false) l ks true hx hk
    unfold wrI at h4 h5
    simp only [Bool.false_eq_true, if_false, if_true] at h4 h5
    split
    · omega
    split
    · omega
    split
    · simp only [List.length_cons, List.length_append, List.length_nil]; omega
    · simp only [List.length_cons, List.length_append, List.length_nil]; omega
end Go.Proofs.YtmbmeidkmhajbaaDoor.V

/- The developers' quoted: by the library's ReplaceAll, twice. -/
namespace Go.Proofs.YtmbmeidkmhajbaaDoor.V
open Go.RowKit Go.Sort Go.Joins
set_option maxRecDepth 100000

/-! ### one byte replaced by several -/
def sub1 (c : UInt8) (new : List UInt8) : List UInt8 → List UInt8
  | [] => []
  | b :: r => (if b = c then new else [b]) ++ sub1 c new r
theorem pre_one (c b : UInt8) (l : List UInt8) : [c].isPrefixOf (b :: l) = decide (c = b) := by
  by_cases h : c = b
  · subst h; simp [List.isPrefixOf]
  · simp [List.isPrefixOf, h]
theorem index_hit (c : UInt8) (l : List UInt8) : Lib.index (c :: l) [c] = 0 := by rw [Lib.index, pre_one, decide_eq_true rfl, if_pos rfl]
theorem index_more (c b : UInt8) (l : List UInt8) (h : ¬ b = c) (i : Nat) (hi : Lib.index l [c] = i) : Lib.index (b :: l) [c] = ((i + 1 : Nat) : Int) := by
  rw [Lib.index, pre_one, decide_eq_false (fun e => h e.symm), if_neg (by decide), hi, if_neg (by rw [beq_iff_eq]; omega)]
  rfl
theorem repl_one (c : UInt8) (new : List UInt8) : ∀ s : List UInt8, Lib.replaceK [c] new (Lib.count s [c]) s = sub1 c new s := by
  intro s
  induction s with
  | nil => rw [Lib.count_one]; rfl
  | cons b l ih =>
    rw [Lib.count_one] at ih ⊢
    by_cases h : b = c
    · subst h
      rw [List.count_cons_self, Lib.replaceK_hit _ _ _ _ 0 (index_hit b l), sub1, if_pos rfl]
      simp [ih]
    · rw [List.count_cons_of_ne (fun e => h e), sub1, if_neg h]
      cases hk : l.count c with
      | zero =>
        rw [hk] at ih
        have e : l = sub1 c new l := ih
        show b :: l = [b] ++ sub1 c new l
        rw [← e]; rfl
      | succ k =>
        rw [hk] at ih
        obtain ⟨i, hi⟩ := Lib.index_of_count (s := l) (old := [c]) (by rw [Lib.count_one, hk]; omega)
        rw [Lib.replaceK_hit _ _ _ _ (i + 1) (index_more c b l h i hi)]
        rw [Lib.replaceK_hit _ _ _ _ i hi] at ih
        rw [← ih]
        simp
theorem replAll_one (c : UInt8) (new s : List UInt8) (h : ([c] == new) = false) : Lib.replaceAll s [c] new = sub1 c new s := by
  unfold Lib.replaceAll Lib.replace
  rw [if_neg (by rw [h]; decide)]
  have : Lib.replaceNum s [c] (-1) = Lib.count s [c] := by unfold Lib.replaceNum; rw [if_pos (.inl (by decide))]
  rw [this, repl_one]
theorem sub1_append (c : UInt8) (new a b : List UInt8) : sub1 c new (a ++ b) = sub1 c new a ++ sub1 c new b := by
  induction a with
  | nil => rfl
  | cons x a ih => rw [List.cons_append, sub1, sub1, ih, List.append_assoc]
theorem sub_esc : ∀ s : List UInt8, sub1 34 [92, 34] (sub1 92 [92, 92] s) = escL s := by
  intro s
  induction s with
  | nil => rfl
  | cons b r ih =>
    rw [sub1, sub1_append, ih, escL]
    by_cases h1 : b = 92
    · subst h1; rfl
    · rw [if_neg h1]
      by_cases h2 : b = 34
      · subst h2; rfl
      · rw [if_neg (by simp [h1, h2])]
        simp [sub1, h2]
theorem sub1_len (c : UInt8) (x y : UInt8) : ∀ s : List UInt8, (sub1 c [x, y] s).length ≤ 2 * s.length := by
  intro s
  induction s with
  | nil => simp [sub1]
  | cons b r ih =>
    rw [sub1, List.length_append, List.length_cons]
    split <;> simp <;> omega
/-! ### the library's variable that says how long a text it looks for at once -/
def MaxAt (w : World) : Prop := ∃ m, w.cell? ⟨5, 0, none⟩ = some (.int .i64 m)
theorem MaxAt.below {w w' : World} (h : MaxAt w) (hb : Below w.heap.size w w') : MaxAt w' := by
  obtain ⟨m, hm⟩ := h
  exact ⟨m, (hb.cell (World.block_lt_of_cell? w _ hm)).trans hm⟩
theorem repl_any (s : List UInt8) (c x y : UInt8) (w : World) (hM : MaxAt w) (hs : s.length ≤ 2000000) (h : ([c] == [x, y]) = false) :
    Calls Tryd.prog 56 #[.string ⟨s.toArray⟩, .string ⟨#[c]⟩, .string ⟨#[x, y]⟩] w fun e w' => e = .returned (.string ⟨(sub1 c [x, y] s).toArray⟩) ∧ Below w.heap.size w w' := by
  obtain ⟨m, hm⟩ := hM
  have h1 := Tryd.strings_ReplaceAll ⟨s.toArray⟩ ⟨#[c]⟩ ⟨#[x, y]⟩ m w (by rw [str_size]; omega) hm (by show 1 ≤ 1; omega) (by
    show _ + Lib.count s [c] * 2 ≤ _
    rw [str_size, Lib.count_one]
    have := List.count_le_length (a := c) (l := s)
    omega)
  have e : Lib.replaceAll (⟨s.toArray⟩ : ByteArray).data.toList (⟨#[c]⟩ : ByteArray).data.toList (⟨#[x, y]⟩ : ByteArray).data.toList = sub1 c [x, y] s := replAll_one c [x, y] s h
  rw [e] at h1
  exact h1
set_option maxHeartbeats 800000 in
theorem quoted_any (s : List UInt8) (W : World) (hs : s.length ≤ 1000000) (hM : MaxAt W) :
    Calls Tryd.prog 37 #[.string ⟨s.toArray⟩] W fun e w' => e = .returned (.string ⟨(quotL s).toArray⟩) ∧ Below W.heap.size W w' := by
  have hl := sub1_len 92 92 92 s
  have H1 := Lib.hid (repl_any s 92 92 92 W hM (by omega) (by decide))
  have H2 := Lib.hid (fun w (hb : Below W.heap.size W w) => repl_any (sub1 92 [92, 92] s) 34 92 34 w (hM.below hb) (by omega) (by decide))
  rw [sub_esc] at H2
  have he := esc_len s
  have hq := Lib.hid (show (⟨#[34]⟩ : ByteArray) ++ ⟨(escL s).toArray⟩ ++ ⟨#[34]⟩ = ⟨(quotL s).toArray⟩ from close_eq 34 34 (by simp))
  generalize sub1 92 [92, 92] s = t at *
  have hsz : ((⟨(escL s).toArray⟩ : ByteArray).size : Int) ≤ 2000000 := by rw [str_size]; omega
  go_enter Tryd.func37, Tryd.ntmps37
  go_wp2_with (first | (go_at_call 56; (with_reducible refine H1.out.mono ?_); rintro e w1 ⟨rfl, hb1⟩) | (go_at_call 56; (with_reducible refine (H2.out _ hb1).mono ?_); rintro e w2 ⟨rfl, hb2⟩))
  go_ret
  exact ⟨ret1_of (congrArg Value.string hq.out), below_on hb1 hb2⟩
end Go.Proofs.YtmbmeidkmhajbaaDoor.V

/- The library's own contracts laid at this program: one application each. -/
namespace Go.Proofs
open Go.Shelf
def Tryd.laysM173_ren : Go.Shelf.Ren := ⟨fun | 173 => 36 | 246 => 55 | 283 => 63 | 284 => 64 | 285 => 65 | 286 => 66 | 129 => 71 | 317 => 70 | 318 => 72 | 319 => 73 | 320 => 74 | 337 => 84 | 338 => 85 | n => n, fun | 2 => 2 | 3 => 3 | 9 => 9 | 4 => 4 | 171 => 95 | 0 => 0 | 53 => 96 | 37 => 42 | 5 => 5 | 173 => 99 | 212 => 105 | 51 => 106 | 20 => 20 | 213 => 107 | 46 => 109 | 232 => 128 | 233 => 129 | n => n, fun | 17 => 0 | 18 => 3 | 19 => 4 | n => n⟩
theorem Tryd.laysM173 : Go.Proofs.LaysM.n173 Tryd.prog Tryd.laysM173_ren := {
  mixed := by kernel_rfl
  f129 := Tryd.func71.trans (congrArg some (by kernel_rfl))
  f173 := Tryd.func36.trans (congrArg some (by kernel_rfl))
  f246 := Tryd.func55.trans (congrArg some (by kernel_rfl))
  f283 := Tryd.func63.trans (congrArg some (by kernel_rfl))
  f284 := Tryd.func64.trans (congrArg some (by kernel_rfl))
  f285 := Tryd.func65.trans (congrArg some (by kernel_rfl))
  f286 := Tryd.func66.trans (congrArg some (by kernel_rfl))
  f317 := Tryd.func70.trans (congrArg some (by kernel_rfl))
  f318 := Tryd.func72.trans (congrArg some (by kernel_rfl))
  f319 := Tryd.func73.trans (congrArg some (by kernel_rfl))
  f320 := Tryd.func74.trans (congrArg some (by kernel_rfl))
  f337 := Tryd.func84.trans (congrArg some (by kernel_rfl))
  f338 := Tryd.func85.trans (congrArg some (by kernel_rfl))
  t0 := Tryd.underlying0
  a0 := Tryd.isAgg0
  z0 := Tryd.sizeOf0
  v0 := Tryd.zeroValue0
  t2 := Tryd.underlying2
  a2 := Tryd.isAgg2
  z2 := Tryd.sizeOf2
  v2 := Tryd.zeroValue2
  t3 := Tryd.underlying3
  a3 := Tryd.isAgg3
  z3 := Tryd.sizeOf3
  v3 := Tryd.zeroValue3
  t4 := Tryd.underlying4
  a4 := Tryd.isAgg4
  z4 := Tryd.sizeOf4
  v4 := Tryd.zeroValue4
  t5 := Tryd.underlying5
  a5 := Tryd.isAgg5
  z5 := Tryd.sizeOf5
  v5 := Tryd.zeroValue5
  t9 := Tryd.underlying9
  a9 := Tryd.isAgg9
  z9 := Tryd.sizeOf9
  v9 := Tryd.zeroValue9
  t20 := Tryd.underlying20
  a20 := Tryd.isAgg20
  z20 := Tryd.sizeOf20
  v20 := Tryd.zeroValue20
  t37 := Tryd.underlying42
  a37 := Tryd.isAgg42
  z37 := Tryd.sizeOf42
  v37 := Tryd.zeroValue42
  t46 := Tryd.underlying109
  a46 := Tryd.isAgg109
  z46 := Tryd.sizeOf109
  v46 := Tryd.zeroValue109
  t51 := Tryd.underlying106
  a51 := Tryd.isAgg106
  z51 := Tryd.sizeOf106
  v51 := Tryd.zeroValue106
  t53 := Tryd.underlying96
  a53 := Tryd.isAgg96
  z53 := Tryd.sizeOf96
  v53 := Tryd.zeroValue96
  t171 := Tryd.underlying95
  a171 := Tryd.isAgg95
  z171 := Tryd.sizeOf95
  v171 := Tryd.zeroValue95
  t173 := Tryd.underlying99
  a173 := Tryd.isAgg99
  z173 := Tryd.sizeOf99
  v173 := Tryd.zeroValue99
  t212 := Tryd.underlying105
  a212 := Tryd.isAgg105
  z212 := Tryd.sizeOf105
  v212 := Tryd.zeroValue105
  t213 := Tryd.underlying107
  a213 := Tryd.isAgg107
  z213 := Tryd.sizeOf107
  t232 := Tryd.underlying128
  a232 := Tryd.isAgg128
  z232 := Tryd.sizeOf128
  v232 := Tryd.zeroValue128
  t233 := Tryd.underlying129
  a233 := Tryd.isAgg129
  z233 := Tryd.sizeOf129
  v233 := Tryd.zeroValue129
  g17 := by kernel_rfl
  g18 := by kernel_rfl
  g19 := by kernel_rfl
  i0 := by kernel_rfl
  i2 := by kernel_rfl
  i3 := by kernel_rfl
  i4 := by kernel_rfl
  i5 := by kernel_rfl
  i9 := by kernel_rfl
  i20 := by kernel_rfl
  i37 := by kernel_rfl
  i46 := by kernel_rfl
  i51 := by kernel_rfl
  i53 := by kernel_rfl
  i171 := by kernel_rfl
  i173 := by kernel_rfl
  i212 := by kernel_rfl
  i232 := by kernel_rfl
  i233 := by kernel_rfl
  m17 := by kernel_rfl
  m18 := by kernel_rfl
  m19 := by kernel_rfl }
open Go.RowKit Go.Sort Go.Lib in
theorem Tryd.strconv_FormatInt_10 (n : Int) (h0 : -9223372036854775808 ≤ n) (h1 : n ≤ 9223372036854775807) (w : World) (htab : Lib.TabIs Tryd.prog w "internal/strconv.uint64pow10" .u64 Lib.pow10Tab) :
    Calls Tryd.prog 36 #[.int .i64 n, .int .i64 10] w fun e w' => e = .returned (.string ⟨(Lib.itoa n).toArray⟩) ∧ ∃ k os, w' = grow (w.drewN k) os := Any.strconv_FormatInt_10 Tryd.laysM173 n h0 h1 w htab
end Go.Proofs

/- The library's FormatInt in base ten, by the shelf (OUT=ShelfF shelf.py SEAT strconv_FormatInt_10). -/
namespace Go.Proofs.YtmbmeidkmhajbaaDoor.V
open Go.RowKit
theorem fmt_says : FmtSays := by
  intro n w h0 h1 ht
  refine (Tryd.strconv_FormatInt_10 n h0 h1 w ht).mono ?_
  rintro e w' ⟨he, k, os, rfl⟩
  exact ⟨he, Lib.below_grow _ w (Nat.le_refl _) k os⟩
end Go.Proofs.YtmbmeidkmhajbaaDoor.V

/- The developers' write, writeItems, textOf and Print. -/
namespace Go.Proofs.YtmbmeidkmhajbaaDoor.V
open Go.RowKit Go.Sort Go.Joins
set_option maxRecDepth 100000

def WriteSays (W0 : World) (b d : Nat) : Prop := ∀ (cs : List Value) (t : VT) (acc : List UInt8) (w : World), IsV W0 d cs t → t.each = true → t.count ≤ 2000 → Below W0.heap.size W0 w → IsB W0.heap.size b acc w → acc.length + t.wr.length ≤ 100000000 →
    Calls Tryd.prog 29 #[.pointer (some ⟨b, 0, none⟩), .agg cs.toArray] w fun e w' => e = .returned (.tuple #[]) ∧ (IsB W0.heap.size b (acc ++ t.wr) w' ∧ Below W0.heap.size w w' ∧ Calm b w w')
theorem IsB.lt {B b : Nat} {l : List UInt8} {w : World} (h : IsB B b l w) : b < w.heap.size := by
  rcases h with h | h <;> exact h.lt
theorem cat_list (a : List UInt8) (c : UInt8) : ((⟨a.toArray⟩ : ByteArray) ++ ⟨#[c]⟩).data.toList = a ++ [c] := by rw [cat2]; simp
set_option maxHeartbeats 6400000 in
theorem items_bare (W0 : World) (b d : Nat) (hI : WriteSays W0 b d) (o e : UInt8) (k n : Int) (s : List UInt8) (l : List VT) (a ka : Option Addr) (c kc : Nat) (acc : List UInt8) (W : World)
    (hc : l.length ≤ c) (hm : c ≤ maxLen) 
    (hx : 0 < l.length → ∃ b off, a = some ⟨b, off, none⟩ ∧ ∀ i, i < l.length → ∃ cs, cs.length = 5 ∧ W0.rangeAt b (off + i * 5) cs ∧ ∃ x, l[i]? = some x ∧ IsV W0 d cs x)
    (he : eachL l = true) (hcn : countL l ≤ 2000) (hb0 : Below W0.heap.size W0 W) (hbu : IsB W0.heap.size b acc W) (hlen : acc.length + (wrI false true l []).length + 2 ≤ 100000000) :
    Calls Tryd.prog 38 #[.pointer (some ⟨b, 0, none⟩), .string ⟨#[o]⟩, .agg #[.int .i64 k, .int .i64 n, .string ⟨s.toArray⟩, .slice a l.length c, .slice ka 0 kc], .string ⟨#[e]⟩] W fun r w' => r = .returned (.tuple #[]) ∧ (IsB W0.heap.size b (acc ++ (o :: (wrI false true l [] ++ [e]))) w' ∧ Below W0.heap.size W w' ∧ Calm b W w') := by
  have HI := Lib.hid hI
  have HX := Lib.hid hx
  have HE := Lib.hid (fun (x : VT) (h : x ∈ l) => eachL_mem he h)
  have HCN := Lib.hid (fun (x : VT) (h : x ∈ l) => countL_mem h)
  clear hI hx he
  unfold maxLen at hm
  have hbl := hbu.lt
  have hB := hb0.size
  have hb1 : Below W.heap.size W (W.alloc (.cells #[.int .i64 k, .int .i64 n, .string ⟨s.toArray⟩, .slice a l.length c, .slice ka 0 kc] 25)) := (Below.refl W.heap.size W).alloc (Nat.le_refl _) _
  have lA : Lies (W.alloc (.cells #[.int .i64 k, .int .i64 n, .string ⟨s.toArray⟩, .slice a l.length c, .slice ka 0 kc] 25)) W.heap.size 25 #[.int .i64 k, .int .i64 n, .string ⟨s.toArray⟩, .slice a l.length c, .slice ka 0 kc] := Lies.new W _ _
  have hbW : Below W0.heap.size W (W.alloc (.cells #[.int .i64 k, .int .i64 n, .string ⟨s.toArray⟩, .slice a l.length c, .slice ka 0 kc] 25)) := hb1.mono hB
  have hcW : Calm b W (W.alloc (.cells #[.int .i64 k, .int .i64 n, .string ⟨s.toArray⟩, .slice a l.length c, .slice ka 0 kc] 25)) := Calm.below hb1
  replace hB : W0.heap.size ≤ (W.alloc (.cells #[.int .i64 k, .int .i64 n, .string ⟨s.toArray⟩, .slice a l.length c, .slice ka 0 kc] 25)).heap.size := Nat.le_trans hB hb1.size
  replace hbu := hbu.below hb1
  clear hb1
  obtain ⟨T, hT⟩ : ∃ T, acc ++ o :: wrI false true l [] = T := ⟨_, rfl⟩
  have hTl : T.length + 1 ≤ 100000000 := by rw [← hT, List.length_append, List.length_cons]; omega
  have HT := Lib.hid hT
  have hal : acc.length + 2 ≤ 100000000 := by omega
  rw [show acc ++ (o :: (wrI false true l [] ++ [e])) = T ++ [e] by rw [← hT]; simp]
  have HST := Lib.hid (show (acc ++ [o]) ++ wrI false true l [] = T by rw [← hT]; simp)
  clear hT hlen
  go_enter Tryd.func38, Tryd.ntmps38
  go_wp2_with (go_at_call 35; (with_reducible refine (write_s _ _ acc [o] ⟨#[o]⟩ _ rfl hbu (by simp only [List.length_cons, List.length_nil]; omega) hB).mono ?_); rintro e w1 ⟨rfl, hbu1, hb1, hc1⟩; replace hbu := hbu1; replace hbW := hbW.trans hb1; replace hcW := hcW.trans hc1; replace hB : W0.heap.size ≤ w1.heap.size := Nat.le_trans hB hb1.size; replace lA := hc1.lies (by omega) (by decide) lA; have q3 := lA.cell 3; have q4 := lA.cell 4; simp only [List.getElem?_toArray, List.getElem?_cons_succ, List.getElem?_cons_zero] at q3 q4)
  go_loopw [16] (fun iv wr => ∃ (j : Nat) (S : List UInt8), iv = .int .i64 j ∧ j ≤ l.length ∧ Hid (S ++ wrI false (decide (j = 0)) (l.drop j) (List.drop j []) = T) ∧ IsB W0.heap.size b S wr ∧ Below W0.heap.size W wr ∧ Calm b W wr ∧ W0.heap.size ≤ wr.heap.size ∧ Lies wr W.heap.size 25 #[.int .i64 k, .int .i64 n, .string ⟨s.toArray⟩, .slice a l.length c, .slice ka 0 kc]) (fun iv _ => l.length - (intOf iv).toNat)
  case atStart => exact ⟨0, acc ++ [o], rfl, by omega, Lib.hid HST.out, hbu, hbW, hcW, hB, lA⟩
  case round =>
    clear hbu hbW hcW hB lA q3 q4 HST hb1 hc1 hbu1
    obtain ⟨j, S, rfl, hj, HS, hbu, hbW, hcW, hB, lA⟩ := hrel
    have hcW0 := hcW.1
    have hbl2 := hbu.lt
    by_cases hlt : j < l.length
    · obtain ⟨b2, off, rfl, hx⟩ := HX.out (by omega)
      obtain ⟨cs', hlen, hr, x, hxi, hv⟩ := hx j hlt
      obtain ⟨ai, ci, ak, ck, rfl⟩ := hv.form
      obtain ⟨k0, k1, k2, k3, k4⟩ := range5 (range_below (hb0.trans hbW) hr)
      have hxm := List.mem_of_getElem? hxi
      have hxc := HCN.out x hxm
      have HC := Lib.hid (fun (S2 : List UInt8) (w1 : World) (hb1 : Below W0.heap.size W w1) (hbu : IsB W0.heap.size b S2 w1) (hl : S2.length + x.wr.length ≤ 100000000) => HI.out _ x S2 w1 hv (HE.out x hxm) (by omega) (hb0.trans hb1) hbu hl)
      have HW := Lib.hid (wrI_at (m := false) (first := decide (j = 0)) (ks := []) (y := []) hxi (fun h => by cases h))
      have lX : Lies (wr.alloc (.cells #[.int .i64 x.kind, .int .i64 x.num, .string ⟨x.txt.toArray⟩, .slice ai x.items.length ci, .slice ak x.keys.length ck] 25)) wr.heap.size 25 #[.int .i64 x.kind, .int .i64 x.num, .string ⟨x.txt.toArray⟩, .slice ai x.items.length ci, .slice ak x.keys.length ck] := Lies.new wr _ _
      have hba : Below wr.heap.size wr (wr.alloc (.cells #[.int .i64 x.kind, .int .i64 x.num, .string ⟨x.txt.toArray⟩, .slice ai x.items.length ci, .slice ak x.keys.length ck] 25)) := (Below.refl wr.heap.size wr).alloc (Nat.le_refl _) _
      replace lA : Lies (wr.alloc (.cells #[.int .i64 x.kind, .int .i64 x.num, .string ⟨x.txt.toArray⟩, .slice ai x.items.length ci, .slice ak x.keys.length ck] 25)) W.heap.size 25 #[.int .i64 k, .int .i64 n, .string ⟨s.toArray⟩, .slice (some ⟨b2, off, none⟩) l.length c, .slice ka 0 kc] := lA.on hba
      replace hbu := hbu.below hba
      replace hbW : Below W0.heap.size W (wr.alloc (.cells #[.int .i64 x.kind, .int .i64 x.num, .string ⟨x.txt.toArray⟩, .slice ai x.items.length ci, .slice ak x.keys.length ck] 25)) := hbW.trans (hba.mono hB)
      replace hcW : Calm b W (wr.alloc (.cells #[.int .i64 x.kind, .int .i64 x.num, .string ⟨x.txt.toArray⟩, .slice ai x.items.length ci, .slice ak x.keys.length ck] 25)) := hcW.trans (Calm.below hba)
      replace hB : W0.heap.size ≤ (wr.alloc (.cells #[.int .i64 x.kind, .int .i64 x.num, .string ⟨x.txt.toArray⟩, .slice ai x.items.length ci, .slice ak x.keys.length ck] 25)).heap.size := Nat.le_trans hB hba.size
      have q3 := lA.cell 3; have q4 := lA.cell 4; simp only [List.getElem?_toArray, List.getElem?_cons_succ, List.getElem?_cons_zero] at q3 q4
      have p0 := lX.cell 0; have p1 := lX.cell 1; have p2 := lX.cell 2; have p3 := lX.cell 3; have p4 := lX.cell 4; simp only [List.getElem?_toArray, List.getElem?_cons_succ, List.getElem?_cons_zero] at p0 p1 p2 p3 p4
      clear hr hv hx HX HI hlen hxm HE HCN hxi hba
      rcases Nat.eq_zero_or_pos j with hz | hz
      · have hz0 : decide (j = 0) = true := decide_eq_true hz
        subst hz
        simp only [Nat.zero_mul, Nat.add_zero] at k0 k1 k2 k3 k4
        have HS2 := Lib.hid (show S ++ ([] ++ ([] ++ (x.wr ++ wrI false false (l.drop (0 + 1)) (List.drop (0 + 1) [])))) = T by
          have h1 := HS.out
          rw [HW.out, hz0] at h1
          simpa using h1)
        have hSz : S.length + x.wr.length ≤ 100000000 := by
          have h1 := congrArg List.length HS2.out
          simp only [List.length_append, List.length_nil] at h1 ⊢
          omega
        have hSz2 : S.length ≤ 100000000 := by omega
        clear HS HW hTl
        go_wp2_with (go_at_call 29; (with_reducible refine (HC.out S _ hbW hbu hSz).mono ?_); rintro e w5 ⟨rfl, hbu5, hb5, hc5⟩)
        go_roundw
        case rel => exact ⟨0 + 1, S ++ x.wr, by go_num, by omega, Lib.hid (by rw [← HS2.out]; simp), hbu5, hbW.trans hb5, hcW.trans hc5, Nat.le_trans hB hb5.size, hc5.lies (by omega) (by decide) lA⟩
        case measure => simp [intOf]; omega
      · have hz0 : decide (j = 0) = false := decide_eq_false (by omega)
        have hz1 : (j : Int) > 0 := by omega
        have HS2 := Lib.hid (show S ++ ([44] ++ ([] ++ (x.wr ++ wrI false false (l.drop (j + 1)) (List.drop (j + 1) [])))) = T by
          have h1 := HS.out
          rw [HW.out, hz0] at h1
          simpa using h1)
        have hSz : (S ++ [44]).length + x.wr.length ≤ 100000000 := by
          have h1 := congrArg List.length HS2.out
          simp only [List.length_append, List.length_cons, List.length_nil] at h1 ⊢
          omega
        have hSz2 : (S ++ [44]).length ≤ 100000000 := by omega
        simp only [List.length_append, List.length_cons, List.length_nil] at hSz2
        clear HS HW hTl
        go_wp2_with (first | (go_at_call 35; (with_reducible refine (write_s _ _ S [44] ⟨#[44]⟩ _ rfl hbu (by simp only [List.length_cons, List.length_nil]; omega) hB).mono ?_); rintro e w2 ⟨rfl, hbu2, hb2, hc2⟩; replace hbu := hbu2; replace hbW := hbW.trans hb2; replace hcW := hcW.trans hc2; replace hB : W0.heap.size ≤ w2.heap.size := Nat.le_trans hB hb2.size; replace lA := hc2.lies (by omega) (by decide) lA; replace lX := hc2.lies (by omega) (by decide) lX; have q3 := lA.cell 3; have q4 := lA.cell 4; simp only [List.getElem?_toArray, List.getElem?_cons_succ, List.getElem?_cons_zero] at q3 q4; have p0 := lX.cell 0; have p1 := lX.cell 1; have p2 := lX.cell 2; have p3 := lX.cell 3; have p4 := lX.cell 4; simp only [List.getElem?_toArray, List.getElem?_cons_succ, List.getElem?_cons_zero] at p0 p1 p2 p3 p4) | (go_at_call 29; (with_reducible refine (HC.out (S ++ [44]) _ hbW hbu hSz).mono ?_); rintro e w5 ⟨rfl, hbu5, hb5, hc5⟩))
        go_roundw
        case rel => exact ⟨j + 1, (S ++ [44]) ++ x.wr, by go_num, by omega, Lib.hid (by rw [← HS2.out]; simp), hbu5, hbW.trans hb5, hcW.trans hc5, Nat.le_trans hB hb5.size, hc5.lies (by omega) (by decide) lA⟩
        case measure => simp [intOf]; omega
    · have hS := HS.out
      rw [wrI_nil _ _ _ _ _ (by omega), List.append_nil] at hS
      subst hS
      clear HS HX HI HE HCN
      go_wp2_with (go_at_call 35; (with_reducible refine (write_s _ _ S [e] ⟨#[e]⟩ _ rfl hbu (by simp only [List.length_cons, List.length_nil]; omega) hB).mono ?_); rintro e w2 ⟨rfl, hbu2, hb2, hc2⟩)
      go_end0
      exact ⟨rfl, hbu2, hbW.trans hb2, hcW.trans hc2⟩
set_option maxHeartbeats 6400000 in
theorem items_with (W0 : World) (b d : Nat) (hI : WriteSays W0 b d) (o e : UInt8) (k n : Int) (s : List UInt8) (l : List VT) (ks : List (List UInt8)) (a ka : Option Addr) (c kc : Nat) (acc : List UInt8) (W : World)
    (hc : l.length ≤ c) (hm : c ≤ maxLen) (hkl : ks.length = l.length) (hkp : 0 < ks.length) (hko : ∀ y ∈ ks, y.length ≤ 4000) (hkx : ks ≠ [] → ∃ b off, ka = some ⟨b, off, none⟩ ∧ ∀ i x, ks[i]? = some x → W0.cell? ⟨b, off + i, none⟩ = some (str x))
    (hx : 0 < l.length → ∃ b off, a = some ⟨b, off, none⟩ ∧ ∀ i, i < l.length → ∃ cs, cs.length = 5 ∧ W0.rangeAt b (off + i * 5) cs ∧ ∃ x, l[i]? = some x ∧ IsV W0 d cs x)
    (he : eachL l = true) (hcn : countL l ≤ 2000) (hM : MaxAt W0) (hb0 : Below W0.heap.size W0 W) (hbu : IsB W0.heap.size b acc W) (hlen : acc.length + (wrI true true l ks).length + 2 ≤ 100000000) :
    Calls Tryd.prog 38 #[.pointer (some ⟨b, 0, none⟩), .string ⟨#[o]⟩, .agg #[.int .i64 k, .int .i64 n, .string ⟨s.toArray⟩, .slice a l.length c, .slice ka ks.length kc], .string ⟨#[e]⟩] W fun r w' => r = .returned (.tuple #[]) ∧ (IsB W0.heap.size b (acc ++ (o :: (wrI true true l ks ++ [e]))) w' ∧ Below W0.heap.size W w' ∧ Calm b W w') := by
  have HI := Lib.hid hI
  have HX := Lib.hid hx
  have HE := Lib.hid (fun (x : VT) (h : x ∈ l) => eachL_mem he h)
  have HCN := Lib.hid (fun (x : VT) (h : x ∈ l) => countL_mem h)
  have HK := Lib.hid hkx
  have HKO := Lib.hid hko
  have HKL := Lib.hid hkl
  clear hI hx he hkx hko hkl
  unfold maxLen at hm
  have hbl := hbu.lt
  have hB := hb0.size
  have hb1 : Below W.heap.size W (W.alloc (.cells #[.int .i64 k, .int .i64 n, .string ⟨s.toArray⟩, .slice a l.length c, .slice ka ks.length kc] 25)) := (Below.refl W.heap.size W).alloc (Nat.le_refl _) _
  have lA : Lies (W.alloc (.cells #[.int .i64 k, .int .i64 n, .string ⟨s.toArray⟩, .slice a l.length c, .slice ka ks.length kc] 25)) W.heap.size 25 #[.int .i64 k, .int .i64 n, .string ⟨s.toArray⟩, .slice a l.length c, .slice ka ks.length kc] := Lies.new W _ _
  have hbW : Below W0.heap.size W (W.alloc (.cells #[.int .i64 k, .int .i64 n, .string ⟨s.toArray⟩, .slice a l.length c, .slice ka ks.length kc] 25)) := hb1.mono hB
  have hcW : Calm b W (W.alloc (.cells #[.int .i64 k, .int .i64 n, .string ⟨s.toArray⟩, .slice a l.length c, .slice ka ks.length kc] 25)) := Calm.below hb1
  replace hB : W0.heap.size ≤ (W.alloc (.cells #[.int .i64 k, .int .i64 n, .string ⟨s.toArray⟩, .slice a l.length c, .slice ka ks.length kc] 25)).heap.size := Nat.le_trans hB hb1.size
  replace hbu := hbu.below hb1
  clear hb1
  obtain ⟨T, hT⟩ : ∃ T, acc ++ o :: wrI true true l ks = T := ⟨_, rfl⟩
  have hTl : T.length + 1 ≤ 100000000 := by rw [← hT, List.length_append, List.length_cons]; omega
  have HT := Lib.hid hT
  have hal : acc.length + 2 ≤ 100000000 := by omega
  rw [show acc ++ (o :: (wrI true true l ks ++ [e])) = T ++ [e] by rw [← hT]; simp]
  have HST := Lib.hid (show (acc ++ [o]) ++ wrI true true l ks = T by rw [← hT]; simp)
  clear hT hlen
  go_enter Tryd.func38, Tryd.ntmps38
  go_wp2_with (go_at_call 35; (with_reducible refine (write_s _ _ acc [o] ⟨#[o]⟩ _ rfl hbu (by simp only [List.length_cons, List.length_nil]; omega) hB).mono ?_); rintro e w1 ⟨rfl, hbu1, hb1, hc1⟩; replace hbu := hbu1; replace hbW := hbW.trans hb1; replace hcW := hcW.trans hc1; replace hB : W0.heap.size ≤ w1.heap.size := Nat.le_trans hB hb1.size; replace lA := hc1.lies (by omega) (by decide) lA; have q3 := lA.cell 3; have q4 := lA.cell 4; simp only [List.getElem?_toArray, List.getElem?_cons_succ, List.getElem?_cons_zero] at q3 q4)
  go_loopw [16] (fun iv wr => ∃ (j : Nat) (S : List UInt8), iv = .int .i64 j ∧ j ≤ l.length ∧ Hid (S ++ wrI true (decide (j = 0)) (l.drop j) (List.drop j ks) = T) ∧ IsB W0.heap.size b S wr ∧ Below W0.heap.size W wr ∧ Calm b W wr ∧ W0.heap.size ≤ wr.heap.size ∧ Lies wr W.heap.size 25 #[.int .i64 k, .int .i64 n, .string ⟨s.toArray⟩, .slice a l.length c, .slice ka ks.length kc]) (fun iv _ => l.length - (intOf iv).toNat)
  case atStart => exact ⟨0, acc ++ [o], rfl, by omega, Lib.hid HST.out, hbu, hbW, hcW, hB, lA⟩
  case round =>
    clear hbu hbW hcW hB lA q3 q4 HST hb1 hc1 hbu1
    obtain ⟨j, S, rfl, hj, HS, hbu, hbW, hcW, hB, lA⟩ := hrel
    have hcW0 := hcW.1
    have hbl2 := hbu.lt
    by_cases hlt : j < l.length
    · obtain ⟨b2, off, rfl, hx⟩ := HX.out (by omega)
      obtain ⟨cs', hlen, hr, x, hxi, hv⟩ := hx j hlt
      obtain ⟨ai, ci, ak, ck, rfl⟩ := hv.form
      obtain ⟨k0, k1, k2, k3, k4⟩ := range5 (range_below (hb0.trans hbW) hr)
      have hxm := List.mem_of_getElem? hxi
      have hxc := HCN.out x hxm
      have HC := Lib.hid (fun (S2 : List UInt8) (w1 : World) (hb1 : Below W0.heap.size W w1) (hbu : IsB W0.heap.size b S2 w1) (hl : S2.length + x.wr.length ≤ 100000000) => HI.out _ x S2 w1 hv (HE.out x hxm) (by omega) (hb0.trans hb1) hbu hl)
      obtain ⟨b3, off3, rfl, hkx⟩ := HK.out (by intro h; rw [h] at hkp; simp at hkp)
      obtain ⟨y, hyi⟩ : ∃ y, ks[j]? = some y := ⟨ks[j]'(by rw [HKL.out]; exact hlt), List.getElem?_eq_getElem _⟩
      have hyl := HKO.out y (List.mem_of_getElem? hyi)
      have HKC := Lib.hid (fun (w1 : World) (hb1 : Below W0.heap.size W w1) => ((hb0.trans hb1).cell (p := ⟨b3, off3 + j, none⟩) (World.block_lt_of_cell? W0 _ (hkx j y hyi))).trans (show W0.cell? ⟨b3, off3 + j, none⟩ = some (.string ⟨y.toArray⟩) from hkx j y hyi))
      have HQ := Lib.hid (fun (w1 : World) (hb1 : Below W0.heap.size W w1) => quoted_any y w1 (by omega) (hM.below (hb0.trans hb1)))
      have hqy := quot_len y
      have hjk : (j : Int) < (ks.length : Int) := by rw [HKL.out]; omega
      have hkp2 : (ks.length : Int) > 0 := by omega
      have HW := Lib.hid (wrI_at (m := true) (first := decide (j = 0)) hxi (fun _ => hyi))
      have lX : Lies (wr.alloc (.cells #[.int .i64 x.kind, .int .i64 x.num, .string ⟨x.txt.toArray⟩, .slice ai x.items.length ci, .slice ak x.keys.length ck] 25)) wr.heap.size 25 #[.int .i64 x.kind, .int .i64 x.num, .string ⟨x.txt.toArray⟩, .slice ai x.items.length ci, .slice ak x.keys.length ck] := Lies.new wr _ _
      have hba : Below wr.heap.size wr (wr.alloc (.cells #[.int .i64 x.kind, .int .i64 x.num, .string ⟨x.txt.toArray⟩, .slice ai x.items.length ci, .slice ak x.keys.length ck] 25)) := (Below.refl wr.heap.size wr).alloc (Nat.le_refl _) _
      replace lA : Lies (wr.alloc (.cells #[.int .i64 x.kind, .int .i64 x.num, .string ⟨x.txt.toArray⟩, .slice ai x.items.length ci, .slice ak x.keys.length ck] 25)) W.heap.size 25 #[.int .i64 k, .int .i64 n, .string ⟨s.toArray⟩, .slice (some ⟨b2, off, none⟩) l.length c, .slice (some ⟨b3, off3, none⟩) ks.length kc] := lA.on hba
      replace hbu := hbu.below hba
      replace hbW : Below W0.heap.size W (wr.alloc (.cells #[.int .i64 x.kind, .int .i64 x.num, .string ⟨x.txt.toArray⟩, .slice ai x.items.length ci, .slice ak x.keys.length ck] 25)) := hbW.trans (hba.mono hB)
      replace hcW : Calm b W (wr.alloc (.cells #[.int .i64 x.kind, .int .i64 x.num, .string ⟨x.txt.toArray⟩, .slice ai x.items.length ci, .slice ak x.keys.length ck] 25)) := hcW.trans (Calm.below hba)
      replace hB : W0.heap.size ≤ (wr.alloc (.cells #[.int .i64 x.kind, .int .i64 x.num, .string ⟨x.txt.toArray⟩, .slice ai x.items.length ci, .slice ak x.keys.length ck] 25)).heap.size := Nat.le_trans hB hba.size
      have q3 := lA.cell 3; have q4 := lA.cell 4; simp only [List.getElem?_toArray, List.getElem?_cons_succ, List.getElem?_cons_zero] at q3 q4
      have p0 := lX.cell 0; have p1 := lX.cell 1; have p2 := lX.cell 2; have p3 := lX.cell 3; have p4 := lX.cell 4; simp only [List.getElem?_toArray, List.getElem?_cons_succ, List.getElem?_cons_zero] at p0 p1 p2 p3 p4
      clear hr hv hx HX HI hlen hxm HE HCN hxi hba hkx HK HKO
      rcases Nat.eq_zero_or_pos j with hz | hz
      · have hz0 : decide (j = 0) = true := decide_eq_true hz
        subst hz
        simp only [Nat.zero_mul, Nat.add_zero] at k0 k1 k2 k3 k4 HKC
        have HS2 := Lib.hid (show S ++ ([] ++ ((quotL y ++ [58]) ++ (x.wr ++ wrI true false (l.drop (0 + 1)) (List.drop (0 + 1) ks)))) = T by
          have h1 := HS.out
          rw [HW.out, hz0] at h1
          simpa using h1)
        have hSz : (S ++ (quotL y ++ [58])).length + x.wr.length ≤ 100000000 := by
          have h1 := congrArg List.length HS2.out
          simp only [List.length_append, List.length_cons, List.length_nil] at h1 ⊢
          omega
        have hSz2 : (S ++ (quotL y ++ [58])).length ≤ 100000000 := by omega
        simp only [List.length_append, List.length_cons, List.length_nil] at hSz2
        clear HS HW hTl
        have g9 := HKC.out _ hbW
        go_wp2_with (first | (go_at_call 37; (with_reducible refine (HQ.out _ hbW).mono ?_); rintro e w3 ⟨rfl, hb3⟩; replace lA := lA.on hb3; replace lX := lX.on hb3; replace hbu := hbu.below hb3; replace hbW := hbW.trans (hb3.mono hB); replace hcW := hcW.trans (Calm.below hb3); replace hB : W0.heap.size ≤ w3.heap.size := Nat.le_trans hB hb3.size; have q3 := lA.cell 3; have q4 := lA.cell 4; simp only [List.getElem?_toArray, List.getElem?_cons_succ, List.getElem?_cons_zero] at q3 q4; have p0 := lX.cell 0; have p1 := lX.cell 1; have p2 := lX.cell 2; have p3 := lX.cell 3; have p4 := lX.cell 4; simp only [List.getElem?_toArray, List.getElem?_cons_succ, List.getElem?_cons_zero] at p0 p1 p2 p3 p4) | (go_at_call 35; (with_reducible refine (write_s _ _ S (quotL y ++ [58]) _ _ (cat_list _ _) hbu (by simp only [List.length_append, List.length_cons, List.length_nil]; omega) hB).mono ?_); rintro e w4 ⟨rfl, hbu4, hb4, hc4⟩; replace hbu := hbu4; replace hbW := hbW.trans hb4; replace hcW := hcW.trans hc4; replace hB : W0.heap.size ≤ w4.heap.size := Nat.le_trans hB hb4.size; replace lA := hc4.lies (by omega) (by decide) lA; replace lX := hc4.lies (by omega) (by decide) lX; have q3 := lA.cell 3; have q4 := lA.cell 4; simp only [List.getElem?_toArray, List.getElem?_cons_succ, List.getElem?_cons_zero] at q3 q4; have p0 := lX.cell 0; have p1 := lX.cell 1; have p2 := lX.cell 2; have p3 := lX.cell 3; have p4 := lX.cell 4; simp only [List.getElem?_toArray, List.getElem?_cons_succ, List.getElem?_cons_zero] at p0 p1 p2 p3 p4) | (go_at_call 29; (with_reducible refine (HC.out (S ++ (quotL y ++ [58])) _ hbW hbu hSz).mono ?_); rintro e w5 ⟨rfl, hbu5, hb5, hc5⟩))
        go_roundw
        case rel => exact ⟨0 + 1, (S ++ (quotL y ++ [58])) ++ x.wr, by go_num, by omega, Lib.hid (by rw [← HS2.out]; simp), hbu5, hbW.trans hb5, hcW.trans hc5, Nat.le_trans hB hb5.size, hc5.lies (by omega) (by decide) lA⟩
        case measure => simp [intOf]; omega
      · have hz0 : decide (j = 0) = false := decide_eq_false (by omega)
        have hz1 : (j : Int) > 0 := by omega
        have HS2 := Lib.hid (show S ++ ([44] ++ ((quotL y ++ [58]) ++ (x.wr ++ wrI true false (l.drop (j + 1)) (List.drop (j + 1) ks)))) = T by
          have h1 := HS.out
          rw [HW.out, hz0] at h1
          simpa using h1)
        have hSz : ((S ++ [44]) ++ (quotL y ++ [58])).length + x.wr.length ≤ 100000000 := by
          have h1 := congrArg List.length HS2.out
          simp only [List.length_append, List.length_cons, List.length_nil] at h1 ⊢
          omega
        have hSz2 : ((S ++ [44]) ++ (quotL y ++ [58])).length ≤ 100000000 := by omega
        simp only [List.length_append, List.length_cons, List.length_nil] at hSz2
        clear HS HW hTl
        go_wp2_with (first | (go_at_call 35; (with_reducible refine (write_s _ _ S [44] ⟨#[44]⟩ _ rfl hbu (by simp only [List.length_cons, List.length_nil]; omega) hB).mono ?_); rintro e w2 ⟨rfl, hbu2, hb2, hc2⟩; replace hbu := hbu2; replace hbW := hbW.trans hb2; replace hcW := hcW.trans hc2; replace hB : W0.heap.size ≤ w2.heap.size := Nat.le_trans hB hb2.size; replace lA := hc2.lies (by omega) (by decide) lA; replace lX := hc2.lies (by omega) (by decide) lX; have q3 := lA.cell 3; have q4 := lA.cell 4; simp only [List.getElem?_toArray, List.getElem?_cons_succ, List.getElem?_cons_zero] at q3 q4; have p0 := lX.cell 0; have p1 := lX.cell 1; have p2 := lX.cell 2; have p3 := lX.cell 3; have p4 := lX.cell 4; simp only [List.getElem?_toArray, List.getElem?_cons_succ, List.getElem?_cons_zero] at p0 p1 p2 p3 p4; have g9 := HKC.out _ hbW) | (go_at_call 37; (with_reducible refine (HQ.out _ hbW).mono ?_); rintro e w3 ⟨rfl, hb3⟩; replace lA := lA.on hb3; replace lX := lX.on hb3; replace hbu := hbu.below hb3; replace hbW := hbW.trans (hb3.mono hB); replace hcW := hcW.trans (Calm.below hb3); replace hB : W0.heap.size ≤ w3.heap.size := Nat.le_trans hB hb3.size; have q3 := lA.cell 3; have q4 := lA.cell 4; simp only [List.getElem?_toArray, List.getElem?_cons_succ, List.getElem?_cons_zero] at q3 q4; have p0 := lX.cell 0; have p1 := lX.cell 1; have p2 := lX.cell 2; have p3 := lX.cell 3; have p4 := lX.cell 4; simp only [List.getElem?_toArray, List.getElem?_cons_succ, List.getElem?_cons_zero] at p0 p1 p2 p3 p4) | (go_at_call 35; (with_reducible refine (write_s _ _ (S ++ [44]) (quotL y ++ [58]) _ _ (cat_list _ _) hbu (by simp only [List.length_append, List.length_cons, List.length_nil]; omega) hB).mono ?_); rintro e w4 ⟨rfl, hbu4, hb4, hc4⟩; replace hbu := hbu4; replace hbW := hbW.trans hb4; replace hcW := hcW.trans hc4; replace hB : W0.heap.size ≤ w4.heap.size := Nat.le_trans hB hb4.size; replace lA := hc4.lies (by omega) (by decide) lA; replace lX := hc4.lies (by omega) (by decide) lX; have q3 := lA.cell 3; have q4 := lA.cell 4; simp only [List.getElem?_toArray, List.getElem?_cons_succ, List.getElem?_cons_zero] at q3 q4; have p0 := lX.cell 0; have p1 := lX.cell 1; have p2 := lX.cell 2; have p3 := lX.cell 3; have p4 := lX.cell 4; simp only [List.getElem?_toArray, List.getElem?_cons_succ, List.getElem?_cons_zero] at p0 p1 p2 p3 p4) | (go_at_call 29; (with_reducible refine (HC.out ((S ++ [44]) ++ (quotL y ++ [58])) _ hbW hbu hSz).mono ?_); rintro e w5 ⟨rfl, hbu5, hb5, hc5⟩))
        go_roundw
        case rel => exact ⟨j + 1, ((S ++ [44]) ++ (quotL y ++ [58])) ++ x.wr, by go_num, by omega, Lib.hid (by rw [← HS2.out]; simp), hbu5, hbW.trans hb5, hcW.trans hc5, Nat.le_trans hB hb5.size, hc5.lies (by omega) (by decide) lA⟩
        case measure => simp [intOf]; omega
    · have hS := HS.out
      rw [wrI_nil _ _ _ _ _ (by omega), List.append_nil] at hS
      subst hS
      clear HS HX HI HE HCN
      go_wp2_with (go_at_call 35; (with_reducible refine (write_s _ _ S [e] ⟨#[e]⟩ _ rfl hbu (by simp only [List.length_cons, List.length_nil]; omega) hB).mono ?_); rintro e w2 ⟨rfl, hbu2, hb2, hc2⟩)
      go_end0
      exact ⟨rfl, hbu2, hbW.trans hb2, hcW.trans hc2⟩
set_option maxHeartbeats 6400000 in
theorem write_says (W0 : World) (b : Nat) (hM : MaxAt W0) (hT : Tab W0) : ∀ d, WriteSays W0 b d := by
  intro d
  induction d with
  | zero => intro cs t acc w h; exact h.elim
  | succ d ih =>
    intro cs t acc w h he hct hb0 hbu hlen
    obtain ⟨k, n, s, l, ks⟩ := t
    obtain ⟨vi, vk, rfl, hfit, hks, a, c, rfl, hc, hm, hna, hx⟩ := h
    obtain ⟨ka, kc, rfl, hkc, hkm, hkn, hkx⟩ := hks
    rw [each_eq, Bool.and_eq_true] at he
    rw [count_eq] at hct
    rw [wr_eq] at hlen ⊢
    have htx := one_txt he.2
    have hbl := hbu.lt
    simp only [VT.items, VT.kind, VT.num, VT.txt, VT.keys, str] at *
    rcases one_of he.2 with ⟨rfl, rfl, hl0, rfl⟩ | ⟨rfl, rfl, hl0, rfl⟩ | ⟨rfl, rfl, rfl, rfl⟩ | ⟨rfl, rfl, rfl, hkl⟩
    · obtain rfl := List.eq_nil_of_length_eq_zero hl0
      rw [if_pos rfl] at hlen ⊢
      have hn := htx.2.2
      have HF := Lib.hid (fun (w1 : World) (hb1 : Below W0.heap.size W0 w1) => fmt_says n w1 (by omega) (by omega) (hT.below hb1))
      clear hfit hx hkx he htx ih hM hT
      have hb1 : Below w.heap.size w (w.alloc (.cells #[.int .i64 1, .int .i64 n, .string ⟨#[]⟩, .slice a 0 c, .slice ka 0 kc] 25)) := (Below.refl w.heap.size w).alloc (Nat.le_refl _) _
      have lA : Lies (w.alloc (.cells #[.int .i64 1, .int .i64 n, .string ⟨#[]⟩, .slice a 0 c, .slice ka 0 kc] 25)) w.heap.size 25 #[.int .i64 1, .int .i64 n, .string ⟨#[]⟩, .slice a 0 c, .slice ka 0 kc] := Lies.new w _ _
      have q0 := lA.cell 0; have q1 := lA.cell 1; have q2 := lA.cell 2; have q3 := lA.cell 3; have q4 := lA.cell 4; simp only [List.getElem?_toArray, List.getElem?_cons_succ, List.getElem?_cons_zero] at q0 q1 q2 q3 q4
      have hB0 := hb0.size
      have hb0 : Below W0.heap.size W0 (w.alloc (.cells #[.int .i64 1, .int .i64 n, .string ⟨#[]⟩, .slice a 0 c, .slice ka 0 kc] 25)) := hb0.trans (hb1.mono hB0)
      have hcW : Calm b w (w.alloc (.cells #[.int .i64 1, .int .i64 n, .string ⟨#[]⟩, .slice a 0 c, .slice ka 0 kc] 25)) := Calm.below hb1
      have hbW : Below W0.heap.size w (w.alloc (.cells #[.int .i64 1, .int .i64 n, .string ⟨#[]⟩, .slice a 0 c, .slice ka 0 kc] 25)) := hb1.mono hB0
      have hB : W0.heap.size ≤ (w.alloc (.cells #[.int .i64 1, .int .i64 n, .string ⟨#[]⟩, .slice a 0 c, .slice ka 0 kc] 25)).heap.size := Nat.le_trans hB0 hb1.size
      replace hbu := hbu.below hb1
      generalize Lib.itoa n = tx at *
      go_enter Tryd.func29, Tryd.ntmps29
      go_wp2_with (first | (go_at_call 36; (with_reducible refine (HF.out _ hb0).mono ?_); rintro e w2 ⟨rfl, hb2⟩; replace hbu := hbu.below hb2; replace hbW := hbW.trans (hb2.mono hB); replace hcW := hcW.trans (Calm.below hb2); replace hB : W0.heap.size ≤ w2.heap.size := Nat.le_trans hB hb2.size) | (go_at_call 35; (with_reducible refine (write_s _ _ acc tx ⟨tx.toArray⟩ _ (by simp) hbu (by omega) hB).mono ?_); rintro e w3 ⟨rfl, hbu3, hb3, hc3⟩))
      go_end0
      exact ⟨rfl, hbu3, (hbW.trans hb3), (hcW.trans hc3)⟩
    · obtain rfl := List.eq_nil_of_length_eq_zero hl0
      rw [if_neg (by decide), if_pos rfl] at hlen ⊢
      have hsl := text_len htx.1
      have HQ := Lib.hid (fun (w1 : World) (hb1 : Below W0.heap.size W0 w1) => quoted_any s w1 (by omega) (hM.below hb1))
      clear hfit hx hkx he htx ih hM hT
      have hb1 : Below w.heap.size w (w.alloc (.cells #[.int .i64 2, .int .i64 0, .string ⟨s.toArray⟩, .slice a 0 c, .slice ka 0 kc] 25)) := (Below.refl w.heap.size w).alloc (Nat.le_refl _) _
      have lA : Lies (w.alloc (.cells #[.int .i64 2, .int .i64 0, .string ⟨s.toArray⟩, .slice a 0 c, .slice ka 0 kc] 25)) w.heap.size 25 #[.int .i64 2, .int .i64 0, .string ⟨s.toArray⟩, .slice a 0 c, .slice ka 0 kc] := Lies.new w _ _
      have q0 := lA.cell 0; have q1 := lA.cell 1; have q2 := lA.cell 2; have q3 := lA.cell 3; have q4 := lA.cell 4; simp only [List.getElem?_toArray, List.getElem?_cons_succ, List.getElem?_cons_zero] at q0 q1 q2 q3 q4
      have hB0 := hb0.size
      have hb0 : Below W0.heap.size W0 (w.alloc (.cells #[.int .i64 2, .int .i64 0, .string ⟨s.toArray⟩, .slice a 0 c, .slice ka 0 kc] 25)) := hb0.trans (hb1.mono hB0)
      have hcW : Calm b w (w.alloc (.cells #[.int .i64 2, .int .i64 0, .string ⟨s.toArray⟩, .slice a 0 c, .slice ka 0 kc] 25)) := Calm.below hb1
      have hbW : Below W0.heap.size w (w.alloc (.cells #[.int .i64 2, .int .i64 0, .string ⟨s.toArray⟩, .slice a 0 c, .slice ka 0 kc] 25)) := hb1.mono hB0
      have hB : W0.heap.size ≤ (w.alloc (.cells #[.int .i64 2, .int .i64 0, .string ⟨s.toArray⟩, .slice a 0 c, .slice ka 0 kc] 25)).heap.size := Nat.le_trans hB0 hb1.size
      replace hbu := hbu.below hb1
      generalize quotL s = tx at *
      go_enter Tryd.func29, Tryd.ntmps29
      go_wp2_with (first | (go_at_call 37; (with_reducible refine (HQ.out _ hb0).mono ?_); rintro e w2 ⟨rfl, hb2⟩; replace hbu := hbu.below hb2; replace hbW := hbW.trans (hb2.mono hB); replace hcW := hcW.trans (Calm.below hb2); replace hB : W0.heap.size ≤ w2.heap.size := Nat.le_trans hB hb2.size) | (go_at_call 35; (with_reducible refine (write_s _ _ acc tx ⟨tx.toArray⟩ _ (by simp) hbu (by omega) hB).mono ?_); rintro e w3 ⟨rfl, hbu3, hb3, hc3⟩))
      go_end0
      exact ⟨rfl, hbu3, (hbW.trans hb3), (hcW.trans hc3)⟩
    · rw [if_neg (by decide), if_neg (by decide), if_neg (by decide)] at hlen ⊢
      have HIT := Lib.hid (fun (w1 : World) (hb1 : Below W0.heap.size W0 w1) (hbu1 : IsB W0.heap.size b acc w1) => items_bare W0 b d ih 91 93 3 0 [] l a ka c kc acc w1 hc hm hx he.1 (by omega) hb1 hbu1 (by
        simp only [List.length_append, List.length_cons, List.length_nil] at hlen
        show acc.length + (wrL true l).length + 2 ≤ _
        omega))
      clear hfit hx hkx he htx ih hM hT hlen
      have hb1 : Below w.heap.size w (w.alloc (.cells #[.int .i64 3, .int .i64 0, .string ⟨#[]⟩, .slice a l.length c, .slice ka 0 kc] 25)) := (Below.refl w.heap.size w).alloc (Nat.le_refl _) _
      have lA : Lies (w.alloc (.cells #[.int .i64 3, .int .i64 0, .string ⟨#[]⟩, .slice a l.length c, .slice ka 0 kc] 25)) w.heap.size 25 #[.int .i64 3, .int .i64 0, .string ⟨#[]⟩, .slice a l.length c, .slice ka 0 kc] := Lies.new w _ _
      have q0 := lA.cell 0; have q1 := lA.cell 1; have q2 := lA.cell 2; have q3 := lA.cell 3; have q4 := lA.cell 4; simp only [List.getElem?_toArray, List.getElem?_cons_succ, List.getElem?_cons_zero] at q0 q1 q2 q3 q4
      have hB0 := hb0.size
      have hb0 : Below W0.heap.size W0 (w.alloc (.cells #[.int .i64 3, .int .i64 0, .string ⟨#[]⟩, .slice a l.length c, .slice ka 0 kc] 25)) := hb0.trans (hb1.mono hB0)
      have hcW : Calm b w (w.alloc (.cells #[.int .i64 3, .int .i64 0, .string ⟨#[]⟩, .slice a l.length c, .slice ka 0 kc] 25)) := Calm.below hb1
      have hbW : Below W0.heap.size w (w.alloc (.cells #[.int .i64 3, .int .i64 0, .string ⟨#[]⟩, .slice a l.length c, .slice ka 0 kc] 25)) := hb1.mono hB0
      have hB : W0.heap.size ≤ (w.alloc (.cells #[.int .i64 3, .int .i64 0, .string ⟨#[]⟩, .slice a l.length c, .slice ka 0 kc] 25)).heap.size := Nat.le_trans hB0 hb1.size
      replace hbu := hbu.below hb1
      go_enter Tryd.func29, Tryd.ntmps29
      go_wp2_with (go_at_call 38; (with_reducible refine (HIT.out _ hb0 hbu).mono ?_); rintro e w3 ⟨rfl, hbu3, hb3, hc3⟩)
      go_end0
      exact ⟨rfl, hbu3, (hbW.trans hb3), (hcW.trans hc3)⟩
    · rw [if_neg (by decide), if_neg (by decide), if_pos rfl] at hlen ⊢
      by_cases hk0 : ks = []
      case pos =>
        subst hk0
        obtain rfl : l = [] := List.eq_nil_of_length_eq_zero (by simpa using hkl.symm)
        have HIT := Lib.hid (fun (w1 : World) (hb1 : Below W0.heap.size W0 w1) (hbu1 : IsB W0.heap.size b acc w1) => items_bare W0 b d ih 123 125 4 0 [] [] a ka c kc acc w1 (by simp) hm (fun h => absurd h (by simp)) eachL_nil (by omega) hb1 hbu1 (by
          simp only [List.length_append, List.length_cons, List.length_nil] at hlen
          show acc.length + (wrL true []).length + 2 ≤ _
          rw [wrL_nil]
          rw [wrM_nil] at hlen
          simpa using hlen))
        have e0 : wrI false true [] [] = [] := by show wrL true [] = []; rw [wrL_nil]
        rw [e0, show ([] : List VT).length = 0 from rfl] at HIT
        rw [wrM_nil]
        clear hfit hx hkx he htx ih hM hT hlen
        have hb1 : Below w.heap.size w (w.alloc (.cells #[.int .i64 4, .int .i64 0, .string ⟨#[]⟩, .slice a 0 c, .slice ka 0 kc] 25)) := (Below.refl w.heap.size w).alloc (Nat.le_refl _) _
        have lA : Lies (w.alloc (.cells #[.int .i64 4, .int .i64 0, .string ⟨#[]⟩, .slice a 0 c, .slice ka 0 kc] 25)) w.heap.size 25 #[.int .i64 4, .int .i64 0, .string ⟨#[]⟩, .slice a 0 c, .slice ka 0 kc] := Lies.new w _ _
        have q0 := lA.cell 0; have q1 := lA.cell 1; have q2 := lA.cell 2; have q3 := lA.cell 3; have q4 := lA.cell 4; simp only [List.getElem?_toArray, List.getElem?_cons_succ, List.getElem?_cons_zero] at q0 q1 q2 q3 q4
        have hB0 := hb0.size
        have hb0 : Below W0.heap.size W0 (w.alloc (.cells #[.int .i64 4, .int .i64 0, .string ⟨#[]⟩, .slice a 0 c, .slice ka 0 kc] 25)) := hb0.trans (hb1.mono hB0)
        have hcW : Calm b w (w.alloc (.cells #[.int .i64 4, .int .i64 0, .string ⟨#[]⟩, .slice a 0 c, .slice ka 0 kc] 25)) := Calm.below hb1
        have hbW : Below W0.heap.size w (w.alloc (.cells #[.int .i64 4, .int .i64 0, .string ⟨#[]⟩, .slice a 0 c, .slice ka 0 kc] 25)) := hb1.mono hB0
        have hB : W0.heap.size ≤ (w.alloc (.cells #[.int .i64 4, .int .i64 0, .string ⟨#[]⟩, .slice a 0 c, .slice ka 0 kc] 25)).heap.size := Nat.le_trans hB0 hb1.size
        replace hbu := hbu.below hb1
        go_enter Tryd.func29, Tryd.ntmps29
        go_wp2_with (go_at_call 38; (with_reducible refine (HIT.out _ hb0 hbu).mono ?_); rintro e w3 ⟨rfl, hbu3, hb3, hc3⟩)
        go_end0
        exact ⟨rfl, hbu3, (hbW.trans hb3), (hcW.trans hc3)⟩
      have hkp : 0 < ks.length := List.length_pos_iff.2 hk0
      have HIT := Lib.hid (fun (w1 : World) (hb1 : Below W0.heap.size W0 w1) (hbu1 : IsB W0.heap.size b acc w1) => items_with W0 b d ih 123 125 4 0 [] l ks a ka c kc acc w1 hc hm hkl hkp (fun y hy => text_len (keys_mem htx.2.1 y hy)) hkx hx he.1 (by omega) hM hb1 hbu1 (by
        simp only [List.length_append, List.length_cons, List.length_nil] at hlen
        show acc.length + (wrM true l ks).length + 2 ≤ _
        omega))
      clear hfit hx hkx he htx ih hM hT hlen hk0 hkl
      have hb1 : Below w.heap.size w (w.alloc (.cells #[.int .i64 4, .int .i64 0, .string ⟨#[]⟩, .slice a l.length c, .slice ka ks.length kc] 25)) := (Below.refl w.heap.size w).alloc (Nat.le_refl _) _
      have lA : Lies (w.alloc (.cells #[.int .i64 4, .int .i64 0, .string ⟨#[]⟩, .slice a l.length c, .slice ka ks.length kc] 25)) w.heap.size 25 #[.int .i64 4, .int .i64 0, .string ⟨#[]⟩, .slice a l.length c, .slice ka ks.length kc] := Lies.new w _ _
      have q0 := lA.cell 0; have q1 := lA.cell 1; have q2 := lA.cell 2; have q3 := lA.cell 3; have q4 := lA.cell 4; simp only [List.getElem?_toArray, List.getElem?_cons_succ, List.getElem?_cons_zero] at q0 q1 q2 q3 q4
      have hB0 := hb0.size
      have hb0 : Below W0.heap.size W0 (w.alloc (.cells #[.int .i64 4, .int .i64 0, .string ⟨#[]⟩, .slice a l.length c, .slice ka ks.length kc] 25)) := hb0.trans (hb1.mono hB0)
      have hcW : Calm b w (w.alloc (.cells #[.int .i64 4, .int .i64 0, .string ⟨#[]⟩, .slice a l.length c, .slice ka ks.length kc] 25)) := Calm.below hb1
      have hbW : Below W0.heap.size w (w.alloc (.cells #[.int .i64 4, .int .i64 0, .string ⟨#[]⟩, .slice a l.length c, .slice ka ks.length kc] 25)) := hb1.mono hB0
      have hB : W0.heap.size ≤ (w.alloc (.cells #[.int .i64 4, .int .i64 0, .string ⟨#[]⟩, .slice a l.length c, .slice ka ks.length kc] 25)).heap.size := Nat.le_trans hB0 hb1.size
      replace hbu := hbu.below hb1
      go_enter Tryd.func29, Tryd.ntmps29
      go_wp2_with (go_at_call 38; (with_reducible refine (HIT.out _ hb0 hbu).mono ?_); rintro e w3 ⟨rfl, hbu3, hb3, hc3⟩)
      go_end0
      exact ⟨rfl, hbu3, (hbW.trans hb3), (hcW.trans hc3)⟩
set_option maxHeartbeats 1600000 in
theorem textOf_any (d : Nat) (cs : List Value) (t : VT) (W : World) (h : IsV W d cs t) (he : t.each = true) (hc : t.count ≤ 2000) (hM : MaxAt W) (hT : Tab W) :
    Calls Tryd.prog 20 #[.agg cs.toArray] W fun e w' => e = .returned (.string ⟨t.wr.toArray⟩) ∧ Below W.heap.size W w' := by
  have hwl := wr_len t.count t (Nat.le_refl _) he
  obtain ⟨ai, ci, ak, ck, rfl⟩ := h.form
  have hb1 : Below W.heap.size W (W.alloc (.cells #[.int .i64 t.kind, .int .i64 t.num, .string ⟨t.txt.toArray⟩, .slice ai t.items.length ci, .slice ak t.keys.length ck] 25)) := (Below.refl W.heap.size W).alloc (Nat.le_refl _) _
  have hsz : (W.alloc (.cells #[.int .i64 t.kind, .int .i64 t.num, .string ⟨t.txt.toArray⟩, .slice ai t.items.length ci, .slice ak t.keys.length ck] 25)).heap.size = W.heap.size + 1 := by simp
  have HW := Lib.hid (fun (w1 : World) (hb : Below (W.alloc (.cells #[.int .i64 t.kind, .int .i64 t.num, .string ⟨t.txt.toArray⟩, .slice ai t.items.length ci, .slice ak t.keys.length ck] 25)).heap.size (W.alloc (.cells #[.int .i64 t.kind, .int .i64 t.num, .string ⟨t.txt.toArray⟩, .slice ai t.items.length ci, .slice ak t.keys.length ck] 25)) w1) (hbu : IsB (W.alloc (.cells #[.int .i64 t.kind, .int .i64 t.num, .string ⟨t.txt.toArray⟩, .slice ai t.items.length ci, .slice ak t.keys.length ck] 25)).heap.size (W.alloc (.cells #[.int .i64 t.kind, .int .i64 t.num, .string ⟨t.txt.toArray⟩, .slice ai t.items.length ci, .slice ak t.keys.length ck] 25)).heap.size [] w1) =>
    write_says (W.alloc (.cells #[.int .i64 t.kind, .int .i64 t.num, .string ⟨t.txt.toArray⟩, .slice ai t.items.length ci, .slice ak t.keys.length ck] 25)) (W.alloc (.cells #[.int .i64 t.kind, .int .i64 t.num, .string ⟨t.txt.toArray⟩, .slice ai t.items.length ci, .slice ak t.keys.length ck] 25)).heap.size (hM.below hb1) (hT.below hb1) d _ t [] w1 (h.below hb1) he hc hb hbu (by simp; omega))
  have hbu := builder_new (W.alloc (.cells #[.int .i64 t.kind, .int .i64 t.num, .string ⟨t.txt.toArray⟩, .slice ai t.items.length ci, .slice ak t.keys.length ck] 25))
  have lA : Lies (W.alloc (.cells #[.int .i64 t.kind, .int .i64 t.num, .string ⟨t.txt.toArray⟩, .slice ai t.items.length ci, .slice ak t.keys.length ck] 25)) W.heap.size 25 #[.int .i64 t.kind, .int .i64 t.num, .string ⟨t.txt.toArray⟩, .slice ai t.items.length ci, .slice ak t.keys.length ck] := Lies.new W _ _
  have hbv : Below (W.alloc (.cells #[.int .i64 t.kind, .int .i64 t.num, .string ⟨t.txt.toArray⟩, .slice ai t.items.length ci, .slice ak t.keys.length ck] 25)).heap.size (W.alloc (.cells #[.int .i64 t.kind, .int .i64 t.num, .string ⟨t.txt.toArray⟩, .slice ai t.items.length ci, .slice ak t.keys.length ck] 25)) ((W.alloc (.cells #[.int .i64 t.kind, .int .i64 t.num, .string ⟨t.txt.toArray⟩, .slice ai t.items.length ci, .slice ak t.keys.length ck] 25)).alloc (.cells #[.pointer none, .slice none 0 0] 63)) := (Below.refl _ _).alloc (Nat.le_refl _) _
  have lB := lA.on hbv
  have q0 := lB.cell 0; have q1 := lB.cell 1; have q2 := lB.cell 2; have q3 := lB.cell 3; have q4 := lB.cell 4; simp only [List.getElem?_toArray, List.getElem?_cons_succ, List.getElem?_cons_zero] at q0 q1 q2 q3 q4
  rw [hsz] at HW hbu hbv
  have hB1 : W.heap.size ≤ W.heap.size + 1 := Nat.le_succ _
  clear h he hc hM hT lA lB
  simp only [List.nil_append] at HW
  generalize t.wr = tx at *
  go_enter Tryd.func20, Tryd.ntmps20
  go_wp2_with (first | (go_at_call 29; (with_reducible refine (HW.out _ hbv hbu).mono ?_); rintro e w3 ⟨rfl, hbu3, hb3, hc3⟩; replace hbv := hbv.trans hb3; clear hb3 hc3) | (go_at_call 30; (with_reducible refine (string_b _ _ _ _ hbu3 (Nat.le_trans (Nat.le_of_eq hsz.symm) hbv.size)).mono ?_); rintro e w4 ⟨rfl, hb4⟩))
  go_ret
  exact ⟨rfl, (hb1.trans ((hbv.trans hb4).mono hB1))⟩
set_option maxHeartbeats 1600000 in
theorem print_yes (d : Nat) (cs : List Value) (t : VT) (W : World) (h : IsV W d cs t) (ho : t.okB = true) (hM : MaxAt W) (hT : Tab W) :
    Calls Tryd.prog 14 #[.agg cs.toArray] W fun e w' => e = .returned (.tuple #[.string ⟨t.wr.toArray⟩, .int .i64 0]) ∧ Below W.heap.size W w' := by
  have ho2 := ho
  unfold VT.okB at ho2
  rw [Bool.and_eq_true, Bool.and_eq_true, decide_eq_true_eq] at ho2
  have HR := Lib.hid (fun (w1 : World) (hb : Below W.heap.size W w1) => right_any d cs t w1 (h.below hb))
  have HX := Lib.hid (fun (w1 : World) (hb : Below W.heap.size W w1) => textOf_any d cs t w1 (h.below hb) ho2.2 ho2.1.1 (hM.below hb) (hT.below hb))
  rw [ho] at HR
  obtain ⟨ai, ci, ak, ck, rfl⟩ := h.form
  have hbW : Below W.heap.size W (W.alloc (.cells #[.int .i64 t.kind, .int .i64 t.num, .string ⟨t.txt.toArray⟩, .slice ai t.items.length ci, .slice ak t.keys.length ck] 25)) := (Below.refl W.heap.size W).alloc (Nat.le_refl _) _
  have lA : Lies (W.alloc (.cells #[.int .i64 t.kind, .int .i64 t.num, .string ⟨t.txt.toArray⟩, .slice ai t.items.length ci, .slice ak t.keys.length ck] 25)) W.heap.size 25 #[.int .i64 t.kind, .int .i64 t.num, .string ⟨t.txt.toArray⟩, .slice ai t.items.length ci, .slice ak t.keys.length ck] := Lies.new W _ _
  have q0 := lA.cell 0; have q1 := lA.cell 1; have q2 := lA.cell 2; have q3 := lA.cell 3; have q4 := lA.cell 4; simp only [List.getElem?_toArray, List.getElem?_cons_succ, List.getElem?_cons_zero] at q0 q1 q2 q3 q4
  clear h ho ho2 hM hT
  generalize t.wr = tx at *
  go_enter Tryd.func14, Tryd.ntmps14
  go_wp2_with (first | (go_at_call 19; (with_reducible refine (HR.out _ hbW).mono ?_); rintro e w1 ⟨rfl, hb1⟩; replace hbW := below_on hbW hb1; replace lA := lA.on hb1; have q0 := lA.cell 0; have q1 := lA.cell 1; have q2 := lA.cell 2; have q3 := lA.cell 3; have q4 := lA.cell 4; simp only [List.getElem?_toArray, List.getElem?_cons_succ, List.getElem?_cons_zero] at q0 q1 q2 q3 q4) | (go_at_call 20; (with_reducible refine (HX.out _ hbW).mono ?_); rintro e w2 ⟨rfl, hb2⟩))
  go_ret2
  exact ⟨rfl, below_on hbW hb2⟩
set_option maxHeartbeats 1600000 in
theorem print_no (d : Nat) (cs : List Value) (t : VT) (W : World) (h : IsV W d cs t) (ho : t.okB = false) :
    Calls Tryd.prog 14 #[.agg cs.toArray] W fun e w' => e = .returned (.tuple #[.string ⟨#[]⟩, .int .i64 1]) ∧ Below W.heap.size W w' := by
  have HR := Lib.hid (fun (w1 : World) (hb : Below W.heap.size W w1) => right_any d cs t w1 (h.below hb))
  rw [ho] at HR
  obtain ⟨ai, ci, ak, ck, rfl⟩ := h.form
  have hbW : Below W.heap.size W (W.alloc (.cells #[.int .i64 t.kind, .int .i64 t.num, .string ⟨t.txt.toArray⟩, .slice ai t.items.length ci, .slice ak t.keys.length ck] 25)) := (Below.refl W.heap.size W).alloc (Nat.le_refl _) _
  have lA : Lies (W.alloc (.cells #[.int .i64 t.kind, .int .i64 t.num, .string ⟨t.txt.toArray⟩, .slice ai t.items.length ci, .slice ak t.keys.length ck] 25)) W.heap.size 25 #[.int .i64 t.kind, .int .i64 t.num, .string ⟨t.txt.toArray⟩, .slice ai t.items.length ci, .slice ak t.keys.length ck] := Lies.new W _ _
  have q0 := lA.cell 0; have q1 := lA.cell 1; have q2 := lA.cell 2; have q3 := lA.cell 3; have q4 := lA.cell 4; simp only [List.getElem?_toArray, List.getElem?_cons_succ, List.getElem?_cons_zero] at q0 q1 q2 q3 q4
  clear h ho
  go_enter Tryd.func14, Tryd.ntmps14
  go_wp2_with (go_at_call 19; (with_reducible refine (HR.out _ hbW).mono ?_); rintro e w1 ⟨rfl, hb1⟩)
  go_ret2
  exact ⟨rfl, below_on hbW hb1⟩
end Go.Proofs.YtmbmeidkmhajbaaDoor.V

