/- Texts that stand on one another, put together: YNum, ShelfP, YNumber, YKey, YRow, YPutIn, YBegin, YValue. -/
import Derived.Test.YtmbmeidkmhajbaaDoorF5
import Derived.Deep.CutBlock
import Derived.Deep.CutRange
import Derived.Lib.ParseIntBCases
import Derived.Shelf.LaysC
import Derived.Shelf.LaysM
import Derived.Shelf.Strconv.Clone
import Derived.Shelf.Strconv.ErrVarParseInt
import Derived.Shelf.Strconv.Lower
import Derived.Shelf.Strconv.ParseInt10
import Derived.Shelf.Strconv.ParseInt10All
import Derived.Shelf.Strconv.ParseInt10At16
import Derived.Shelf.Strconv.ParseInt10At32
import Derived.Shelf.Strconv.ParseInt10At64
import Derived.Shelf.Strconv.ParseInt10At8
import Derived.Shelf.Strconv.ParseIntEmpty
import Derived.Shelf.Strconv.ParseIntPublic10
import Derived.Shelf.Strconv.ParseUint10
import Derived.Shelf.Strconv.ParseUint10Any
import Derived.Shelf.Strconv.ParseUint10At
import Derived.Shelf.Strconv.ParseUint10Empty
import Derived.Shelf.Strconv.ParseUint10b16
import Derived.Shelf.Strconv.ParseUint10b32
import Derived.Shelf.Strconv.ParseUint10b64
import Derived.Shelf.Strconv.ParseUint10b8
import Derived.Shelf.Strconv.ParseUintEmpty
import Derived.Shelf.Strconv.RangeError
import Derived.Shelf.Strconv.SyntaxError
import Derived.Shelf.Strconv.ToError
import Derived.Shelf.Strconv.ToErrorRange
import Derived.Shelf.Strings.Search1
import Derived.Shelf.Unicode.DecodeSlow
import Derived.Test.YtmbmeidkmhajbaaDoorProg
/- Digits and what strconv.ParseInt makes of them. Nothing of the program is named here. -/
namespace Go.Proofs.YtmbmeidkmhajbaaDoor.V
open Go

theorem fold_ge : ∀ (d : List UInt8) (a : Nat), a ≤ d.foldl (fun a c => 10 * a + (c.toNat - 48)) a := by
  intro d
  induction d with
  | nil => intro a; exact Nat.le_refl _
  | cons c d ih =>
    intro a
    rw [List.foldl_cons]
    have := ih (10 * a + (c.toNat - 48))
    omega
theorem uint_of : ∀ (d : List UInt8) (a : Nat), (∀ c ∈ d, isDig c = true) → a ≤ 18446744073709551615 →
    Lib.parseUintM 18446744073709551615 a d = if d.foldl (fun a c => 10 * a + (c.toNat - 48)) a ≤ 18446744073709551615 then .ok (d.foldl (fun a c => 10 * a + (c.toNat - 48)) a) else .range := by
  intro d
  induction d with
  | nil => intro a _ ha; rw [Lib.parseUintM, List.foldl_nil, if_pos ha]
  | cons c d ih =>
    intro a hd ha
    have hc := hd c (by simp)
    unfold isDig at hc
    rw [Bool.and_eq_true, decide_eq_true_eq, decide_eq_true_eq] at hc
    rw [Lib.parseUintM, if_pos hc, List.foldl_cons]
    have hge := fold_ge d (10 * a + (c.toNat - 48))
    by_cases h1 : 1844674407370955162 ≤ a
    · rw [if_pos h1, if_neg (by omega)]
    · rw [if_neg h1]
      by_cases h2 : 18446744073709551615 < a * 10 + (c.toNat - 48)
      · rw [if_pos h2, if_neg (by omega)]
      · rw [if_neg h2, ih _ (fun x hx => hd x (by simp [hx])) (by omega), show a * 10 + (c.toNat - 48) = 10 * a + (c.toNat - 48) by omega]
theorem uintB_of {d : List UInt8} (hd : ∀ c ∈ d, isDig c = true) (hn : d ≠ []) : Lib.parseUintB 64 d = if decVal d ≤ 18446744073709551615 then .ok (decVal d) else .range := by
  unfold Lib.parseUintB
  rw [if_neg hn]
  exact uint_of d 0 hd (by decide)
def signed (b : Bool) (n : Nat) : Int := if b then -(n : Int) else n
/-- what is parsed of a sign and digits -/
theorem parse_of {d : List UInt8} (b : Bool) (hd : ∀ c ∈ d, isDig c = true) (hn : d ≠ []) :
    (Lib.parseIntB 64 (if b then 45 :: d else d) = .ok (signed b (decVal d)) ∧ (-9223372036854775808 ≤ signed b (decVal d) ∧ signed b (decVal d) ≤ 9223372036854775807)) ∨
    (Lib.parseIntB 64 (if b then 45 :: d else d) = .range ∧ 1099511627776 < decVal d ∧ (Lib.intSat 64 (if b then 45 :: d else d) < -1099511627776 ∨ 1099511627776 < Lib.intSat 64 (if b then 45 :: d else d)) ∧ (-9223372036854775808 ≤ Lib.intSat 64 (if b then 45 :: d else d) ∧ Lib.intSat 64 (if b then 45 :: d else d) ≤ 9223372036854775807)) := by
  have hu := uintB_of hd hn
  cases b with
  | true =>
    simp only [if_true]
    rw [Lib.parseIntB_minus, hu]
    have hs : Lib.intSat 64 (45 :: d) = -9223372036854775808 := rfl
    rw [hs]
    unfold signed
    by_cases h1 : decVal d ≤ 18446744073709551615
    · rw [if_pos h1]
      by_cases h2 : 9223372036854775808 < decVal d
      · refine .inr ⟨?_, by omega, by omega, by omega⟩
        show (if 2 ^ (64 - 1) < decVal d then _ else _) = _
        rw [if_pos (by simpa using h2)]
      · refine .inl ⟨?_, by simp only [if_true]; omega⟩
        show (if 2 ^ (64 - 1) < decVal d then _ else _) = _
        rw [if_neg (by simpa using h2)]
        rfl
    · rw [if_neg h1]
      exact .inr ⟨rfl, by omega, by omega, by omega⟩
  | false =>
    simp only [Bool.false_eq_true, if_false]
    obtain ⟨c, r, rfl⟩ : ∃ c r, d = c :: r := by
      cases d with
      | nil => exact absurd rfl hn
      | cons c r => exact ⟨c, r, rfl⟩
    have hc := hd c (by simp)
    unfold isDig at hc
    rw [Bool.and_eq_true, decide_eq_true_eq, decide_eq_true_eq] at hc
    rw [Lib.parseIntB_plain 64 c r (by omega) (by omega), hu]
    have hs : Lib.intSat 64 (c :: r) = 9223372036854775807 := by
      unfold Lib.intSat
      rw [if_neg]
      · rfl
      · simp only [List.head?_cons, Option.map_some, Option.some.injEq]
        omega
    rw [hs]
    unfold signed
    generalize decVal (c :: r) = u
    simp only [Bool.false_eq_true, if_false]
    by_cases h1 : u ≤ 18446744073709551615
    · rw [if_pos h1]
      by_cases h2 : 9223372036854775808 ≤ u
      · refine .inr ⟨?_, by omega, by omega, by omega⟩
        show (if 2 ^ (64 - 1) ≤ u then _ else _) = _
        rw [if_pos (by simpa using h2)]
      · refine .inl ⟨?_, by omega⟩
        show (if 2 ^ (64 - 1) ≤ u then _ else _) = _
        rw [if_neg (by simpa using h2)]
    · rw [if_neg h1]
      exact .inr ⟨rfl, by omega, by omega, by omega⟩
end Go.Proofs.YtmbmeidkmhajbaaDoor.V

/- The library's own contracts laid at this program: one application each. -/
namespace Go.Proofs
open Go.Shelf
def Tryd.laysC174_ren : Go.Shelf.Ren := ⟨fun | 174 => 59 | 247 => 68 | 245 => 69 | 287 => 79 | 279 => 80 | 280 => 81 | 281 => 82 | 282 => 83 | 321 => 91 | 322 => 92 | 316 => 93 | 171 => 95 | 205 => 94 | 243 => 101 | 246 => 55 | 283 => 63 | 284 => 64 | 285 => 65 | 286 => 66 | 129 => 71 | 317 => 70 | 318 => 72 | 319 => 73 | 320 => 74 | 337 => 84 | 338 => 85 | n => n, fun | 9 => 9 | 3 => 3 | 2 => 2 | 75 => 71 | 85 => 89 | 4 => 4 | 167 => 115 | 5 => 5 | 53 => 96 | 175 => 116 | 46 => 109 | 168 => 118 | 37 => 42 | 0 => 0 | 210 => 126 | 21 => 21 | 127 => 77 | 145 => 137 | 143 => 135 | 171 => 95 | 173 => 99 | 212 => 105 | 51 => 106 | 20 => 20 | 213 => 107 | 232 => 128 | 233 => 129 | 80 => 65 | n => n, fun | 15 => 1 | 16 => 2 | 17 => 0 | 18 => 3 | 19 => 4 | n => n⟩
theorem Tryd.laysC174 : Go.Proofs.LaysC.n174 Tryd.prog Tryd.laysC174_ren := {
  mixed := by kernel_rfl
  f129 := Tryd.func71.trans (congrArg some (by kernel_rfl))
  f171 := Tryd.func95.trans (congrArg some (by kernel_rfl))
  f174 := Tryd.func59.trans (congrArg some (by kernel_rfl))
  f205 := Tryd.func94.trans (congrArg some (by kernel_rfl))
  f243 := Tryd.func101.trans (congrArg some (by kernel_rfl))
  f245 := Tryd.func69.trans (congrArg some (by kernel_rfl))
  f246 := Tryd.func55.trans (congrArg some (by kernel_rfl))
  f247 := Tryd.func68.trans (congrArg some (by kernel_rfl))
  f279 := Tryd.func80.trans (congrArg some (by kernel_rfl))
  f280 := Tryd.func81.trans (congrArg some (by kernel_rfl))
  f281 := Tryd.func82.trans (congrArg some (by kernel_rfl))
  f282 := Tryd.func83.trans (congrArg some (by kernel_rfl))
  f283 := Tryd.func63.trans (congrArg some (by kernel_rfl))
  f284 := Tryd.func64.trans (congrArg some (by kernel_rfl))
  f285 := Tryd.func65.trans (congrArg some (by kernel_rfl))
  f286 := Tryd.func66.trans (congrArg some (by kernel_rfl))
  f287 := Tryd.func79.trans (congrArg some (by kernel_rfl))
  f316 := Tryd.func93.trans (congrArg some (by kernel_rfl))
  f317 := Tryd.func70.trans (congrArg some (by kernel_rfl))
  f318 := Tryd.func72.trans (congrArg some (by kernel_rfl))
  f319 := Tryd.func73.trans (congrArg some (by kernel_rfl))
  f320 := Tryd.func74.trans (congrArg some (by kernel_rfl))
  f321 := Tryd.func91.trans (congrArg some (by kernel_rfl))
  f322 := Tryd.func92.trans (congrArg some (by kernel_rfl))
  f337 := Tryd.func84.trans (congrArg some (by kernel_rfl))
  f338 := Tryd.func85.trans (congrArg some (by kernel_rfl))
  t0 := Tryd.underlying0
  a0 := Tryd.isAgg0
  z0 := Tryd.sizeOf0
  v0 := Tryd.zeroValue0
  t2 := Tryd.underlying2
  a2 := Tryd.isAgg2
  z2 := Tryd.sizeOf2
  v2 := Tryd.zeroValue2
  t3 := Tryd.underlying3
  a3 := Tryd.isAgg3
  z3 := Tryd.sizeOf3
  v3 := Tryd.zeroValue3
  t4 := Tryd.underlying4
  a4 := Tryd.isAgg4
  z4 := Tryd.sizeOf4
  v4 := Tryd.zeroValue4
  t5 := Tryd.underlying5
  a5 := Tryd.isAgg5
  z5 := Tryd.sizeOf5
  v5 := Tryd.zeroValue5
  t9 := Tryd.underlying9
  a9 := Tryd.isAgg9
  z9 := Tryd.sizeOf9
  v9 := Tryd.zeroValue9
  t20 := Tryd.underlying20
  a20 := Tryd.isAgg20
  z20 := Tryd.sizeOf20
  v20 := Tryd.zeroValue20
  t21 := Tryd.underlying21
  a21 := Tryd.isAgg21
  z21 := Tryd.sizeOf21
  v21 := Tryd.zeroValue21
  t37 := Tryd.underlying42
  a37 := Tryd.isAgg42
  z37 := Tryd.sizeOf42
  v37 := Tryd.zeroValue42
  t46 := Tryd.underlying109
  a46 := Tryd.isAgg109
  z46 := Tryd.sizeOf109
  v46 := Tryd.zeroValue109
  t51 := Tryd.underlying106
  a51 := Tryd.isAgg106
  z51 := Tryd.sizeOf106
  v51 := Tryd.zeroValue106
  t53 := Tryd.underlying96
  a53 := Tryd.isAgg96
  z53 := Tryd.sizeOf96
  v53 := Tryd.zeroValue96
  t75 := Tryd.underlying71
  a75 := Tryd.isAgg71
  z75 := Tryd.sizeOf71
  v75 := Tryd.zeroValue71
  t85 := Tryd.underlying89
  a85 := Tryd.isAgg89
  z85 := Tryd.sizeOf89
  v85 := Tryd.zeroValue89
  t127 := Tryd.underlying77
  a127 := Tryd.isAgg77
  z127 := Tryd.sizeOf77
  v127 := Tryd.zeroValue77
  t143 := Tryd.underlying135
  a143 := Tryd.isAgg135
  z143 := Tryd.sizeOf135
  v143 := Tryd.zeroValue135
  t145 := Tryd.underlying137
  a145 := Tryd.isAgg137
  z145 := Tryd.sizeOf137
  v145 := Tryd.zeroValue137
  t167 := Tryd.underlying115
  a167 := Tryd.isAgg115
  z167 := Tryd.sizeOf115
  v167 := Tryd.zeroValue115
  t168 := Tryd.underlying118
  a168 := Tryd.isAgg118
  z168 := Tryd.sizeOf118
  v168 := Tryd.zeroValue118
  t171 := Tryd.underlying95
  a171 := Tryd.isAgg95
  z171 := Tryd.sizeOf95
  v171 := Tryd.zeroValue95
  t173 := Tryd.underlying99
  a173 := Tryd.isAgg99
  z173 := Tryd.sizeOf99
  v173 := Tryd.zeroValue99
  t175 := Tryd.underlying116
  a175 := Tryd.isAgg116
  z175 := Tryd.sizeOf116
  v175 := Tryd.zeroValue116
  t210 := Tryd.underlying126
  a210 := Tryd.isAgg126
  z210 := Tryd.sizeOf126
  v210 := Tryd.zeroValue126
  t212 := Tryd.underlying105
  a212 := Tryd.isAgg105
  z212 := Tryd.sizeOf105
  v212 := Tryd.zeroValue105
  t213 := Tryd.underlying107
  a213 := Tryd.isAgg107
  z213 := Tryd.sizeOf107
  t232 := Tryd.underlying128
  a232 := Tryd.isAgg128
  z232 := Tryd.sizeOf128
  v232 := Tryd.zeroValue128
  t233 := Tryd.underlying129
  a233 := Tryd.isAgg129
  z233 := Tryd.sizeOf129
  v233 := Tryd.zeroValue129
  g15 := by kernel_rfl
  g16 := by kernel_rfl
  g17 := by kernel_rfl
  g18 := by kernel_rfl
  g19 := by kernel_rfl
  t80 := Tryd.underlying65
  a80 := Tryd.isAgg65
  z80 := Tryd.sizeOf65
  v80 := Tryd.zeroValue65
  i0 := by kernel_rfl
  i2 := by kernel_rfl
  i3 := by kernel_rfl
  i4 := by kernel_rfl
  i5 := by kernel_rfl
  i9 := by kernel_rfl
  i20 := by kernel_rfl
  i21 := by kernel_rfl
  i37 := by kernel_rfl
  i46 := by kernel_rfl
  i51 := by kernel_rfl
  i53 := by kernel_rfl
  i75 := by kernel_rfl
  i80 := by kernel_rfl
  i85 := by kernel_rfl
  i127 := by kernel_rfl
  i143 := by kernel_rfl
  i145 := by kernel_rfl
  i167 := by kernel_rfl
  i168 := by kernel_rfl
  i171 := by kernel_rfl
  i173 := by kernel_rfl
  i175 := by kernel_rfl
  i210 := by kernel_rfl
  i212 := by kernel_rfl
  i232 := by kernel_rfl
  i233 := by kernel_rfl
  m15 := by kernel_rfl
  m16 := by kernel_rfl
  m17 := by kernel_rfl
  m18 := by kernel_rfl
  m19 := by kernel_rfl
  c0 := by kernel_rfl
  c2 := by kernel_rfl
  c3 := by kernel_rfl
  c4 := by kernel_rfl
  c5 := by kernel_rfl
  c9 := by kernel_rfl
  c20 := by kernel_rfl
  c21 := by kernel_rfl
  c37 := by kernel_rfl
  c46 := by kernel_rfl
  c51 := by kernel_rfl
  c53 := by kernel_rfl
  c75 := by kernel_rfl
  c80 := by kernel_rfl
  c85 := by kernel_rfl
  c127 := by kernel_rfl
  c143 := by kernel_rfl
  c145 := by kernel_rfl
  c167 := by kernel_rfl
  c168 := by kernel_rfl
  c171 := by kernel_rfl
  c173 := by kernel_rfl
  c175 := by kernel_rfl
  c210 := by kernel_rfl
  c212 := by kernel_rfl
  c213 := by kernel_rfl
  c232 := by kernel_rfl
  c233 := by kernel_rfl }
open Go.RowKit in
theorem Tryd.strconv_ParseInt_10_at64_ok (s : ByteArray) (hmax : s.size ≤ 9223372036854775806) (v : Int) (h : Lib.parseIntB 64 s.data.toList = .ok v) (w : World) :
    Calls Tryd.prog 59 #[.string s, .int .i64 10, .int .i64 64] w fun e w' => e = .returned (.tuple #[.int .i64 v, .nilIface]) ∧ (w' = w ∨ ∃ t, w' = Lib.bytesWorld w 5 t) := Any.strconv_ParseInt_10_at64_ok Tryd.laysC174 s hmax v h w
open Go.RowKit in
theorem Tryd.strconv_ParseInt_10_at64_range_var (s : ByteArray) (hlim : s.size ≤ 281474976710656) (h : Lib.parseIntB 64 s.data.toList = .range) (tp : TypeId) (p : Value) (w : World) (hvar : w.var? Tryd.prog "strconv.ErrRange" = some #[.iface tp p]) :
    Calls Tryd.prog 59 #[.string s, .int .i64 10, .int .i64 64] w fun e w' => ∃ N, e = .returned (.tuple #[.int .i64 (Lib.intSat 64 s.data.toList), .iface 118 (.pointer (some ⟨N, 0, none⟩))]) ∧ w.heap.size ≤ N ∧ w'.heap[N]? = some (.cells #[.string ⟨#[80, 97, 114, 115, 101, 73, 110, 116]⟩, .string s, .iface tp p] 126 (0, 0)) ∧ Below w.heap.size w w' := Any.strconv_ParseInt_10_at64_range_var Tryd.laysC174 s hlim h tp p w hvar
end Go.Proofs

/- The reader's number. -/
namespace Go.Proofs.YtmbmeidkmhajbaaDoor.V
set_option maxRecDepth 100000
open Go.RowKit Go.Sort Go.Joins

/-- what strconv.ParseInt makes of a sign and digits -/
def SatZ (b : Bool) (d : List UInt8) (z : Int) : Prop := (decVal d ≤ 1099511627776 → z = signed b (decVal d)) ∧ (1099511627776 < decVal d → z < -1099511627776 ∨ 1099511627776 < z) ∧ (-9223372036854775808 ≤ z ∧ z ≤ 9223372036854775807)
theorem parseInt_any (t : ByteArray) (b : Bool) (d : List UInt8) (ht : t.data.toList = if b then 45 :: d else d) (hd : ∀ c ∈ d, isDig c = true) (hn : d ≠ []) (hs : t.size ≤ 65536) :
    ∃ z, SatZ b d z ∧ ∀ w, ErrAt w → Calls Tryd.prog 59 #[.string t, .int .i64 10, .int .i64 64] w fun e w' => ∃ er, e = .returned (.tuple #[.int .i64 z, er]) ∧ RowKit.Below w.heap.size w w' := by
  rcases parse_of b hd hn with ⟨h1, h2⟩ | ⟨h1, h2, h3, h4⟩
  · refine ⟨signed b (decVal d), ⟨fun _ => rfl, fun h => ?_, h2⟩, fun w _ => (Tryd.strconv_ParseInt_10_at64_ok t (by omega) _ (by rw [ht]; exact h1) w).mono ?_⟩
    · unfold signed
      cases b with
      | true => left; simp only [if_true]; omega
      | false => right; simp only [Bool.false_eq_true, if_false]; omega
    · rintro e w' ⟨rfl, hw⟩
      refine ⟨_, rfl, ?_⟩
      rcases hw with rfl | ⟨t, rfl⟩
      · exact RowKit.Below.refl _ _
      · exact Lib.bytesWorld_below _ _ _
  · refine ⟨Lib.intSat 64 (if b then 45 :: d else d), ⟨fun h => by omega, fun _ => h3, h4⟩, fun w he => ?_⟩
    obtain ⟨tp, p, hv⟩ := he.var
    refine (Tryd.strconv_ParseInt_10_at64_range_var t (by omega) (by rw [ht]; exact h1) tp p w hv).mono ?_
    rintro e w' ⟨N, rfl, _, _, hb⟩
    rw [ht]
    exact ⟨_, rfl, hb⟩
theorem str_empty {t : ByteArray} (h : t.size = 0) : t = ⟨#[]⟩ := by
  obtain ⟨d⟩ := t
  have : d.size = 0 := h
  rw [Array.eq_empty_of_size_eq_zero this]
theorem text_some {t : ByteArray} (h : 0 < t.size) : (t.toList == (⟨#[]⟩ : ByteArray).toList) = false := by
  rw [beq_eq_false_iff_ne, ByteArray.toList_eq, ByteArray.toList_eq]
  intro e
  have : t.size = 0 := by
    have h2 := congrArg List.length e
    rw [Array.length_toList] at h2
    exact h2
  omega
theorem text_full {t : ByteArray} (h : 0 < t.size) : t.toList.isEmpty = false := by
  rw [List.isEmpty_eq_false_iff, ByteArray.toList_eq]
  intro e
  have h2 := congrArg List.length e
  rw [Array.length_toList] at h2
  have : t.size = 0 := h2
  omega
/-- how the sign is passed over -/
theorem sign_any (w : World) (g : Nat) (s : ByteArray) (p n : Nat) (vo : Value) (hl : Lies w g 55 (rdC s p n vo)) (hp : p < s.size) (hs : s.size ≤ 65536) :
    ∃ p1, p ≤ p1 ∧ p1 ≤ s.size ∧ afterSign (rest s p) = rest s p1 ∧ (if minus (rest s p) then p1 = p + 1 ∧ (∀ q, p1 ≤ q → q ≤ s.size → (s.extract p q).data.toList = 45 :: (s.extract p1 q).data.toList) else p1 = p) ∧
    Calls Tryd.prog 57 #[.pointer (some ⟨g, 0, none⟩), .int .u8 45] w fun e w' => e = .returned (.bool (minus (rest s p))) ∧ Lies w' g 55 (rdC s p1 n vo) ∧ w.grownBy w' (some g) := by
  have ex : ∀ (x y : Nat), x ≤ y → y ≤ s.size → (s.extract x y).data.toList = (rest s x).take (y - x) := fun x y _ _ => by
    unfold rest
    rw [ByteArray.data_extract, Array.toList_extract, List.extract_eq_take_drop]
  by_cases h : s[p] = 45
  · have hm : minus (rest s p) = true := by unfold minus; rw [rest_cons hp]; simp [h]
    refine ⟨p + 1, by omega, by omega, ?_, ?_, ?_⟩
    · unfold afterSign; rw [hm, if_pos rfl, rest_cons hp, List.tail_cons]
    · rw [hm, if_pos rfl]
      refine ⟨rfl, fun q h1 h2 => ?_⟩
      rw [ex p q (by omega) h2, ex (p + 1) q h1 h2, rest_cons hp, h, show q - p = (q - (p + 1)) + 1 by omega, List.take_succ_cons]
    · rw [hm]
      exact skip_yes w g s p n vo 45 hl hs hp h
  · have hm : minus (rest s p) = false := by unfold minus; rw [rest_cons hp]; simp [h]
    refine ⟨p, by omega, by omega, ?_, ?_, ?_⟩
    · unfold afterSign; rw [hm]; rfl
    · rw [hm]; simp
    · rw [hm]
      exact (skip_no w g s p n vo 45 hl (by omega) (by rw [rest_cons hp, List.head?_cons]; intro e; exact h (Option.some.inj e))).mono fun e w' ⟨h1, h2⟩ => ⟨h1, hl.on h2, grown_of g h2⟩
/-- what the reader's number comes to -/
def NumPost (w : World) (g : Nat) (s : ByteArray) (p n : Nat) (vo : Value) (e : Ending) (w' : World) : Prop := w.grownBy w' (some g) ∧
      ((∃ er, rdN (rest s p) = .bad er ∧ e = errP er) ∨ (∃ z q, rdN (rest s p) = .ok z (rest s q) ∧ e = .returned (.int .i64 z) ∧ p < q ∧ q ≤ s.size ∧ Lies w' g 55 (rdC s q n vo)))
set_option maxHeartbeats 6400000 in
theorem number_ok (w : World) (g : Nat) (s : ByteArray) (p n : Nat) (vo : Value) (hl : Lies w g 55 (rdC s p n vo)) (hp : p < s.size) (hs : s.size ≤ 65536) (her : ErrAt w) (hg : 2 < g) :
    Calls Tryd.prog 43 #[.pointer (some ⟨g, 0, none⟩)] w fun e w' => NumPost w g s p n vo e w' := by
  obtain ⟨p1, hp1, hp2, hsg, hb, HS⟩ := sign_any w g s p n vo hl hp hs
  have c1 := rd_c1 hl
  generalize hB : minus (rest s p) = b at *
  have HR : ∀ D R, (rest s p1).takeWhile isDig = D → (rest s p1).dropWhile isDig = R → rdN (rest s p) = if D = [] ∨ (1 < D.length ∧ D.head? = some 48) ∨ (b = true ∧ D = [48]) then .bad 20 else if 1099511627776 < decVal D then .bad 2 else .ok (signed b (decVal D)) R := by
    rintro D R rfl rfl
    unfold rdN
    rw [hsg, hB]
    rfl
  go_enter Tryd.func43, Tryd.ntmps43
  go_upto_region 4 with (first
    | (go_at_call 57; refine HS.mono ?_; rintro e w1 ⟨rfl, hl1, hb1⟩)
    | (go_at_call 58; refine (digits_any _ g s p1 n vo hl1 hp2 hs).mono ?_; rintro e w2 ⟨q, rfl, hD, hE, hl2, hb2⟩; obtain ⟨hd1, hd2⟩ := hD.done hE; replace hb2 := grown_two hb1 hb2; replace her := her.grown hb2 hg))
  have HR := HR _ _ hd1 hd2
  have hq := hD.2.1
  have hpq1 := hD.1
  have hsz : (s.extract p1 q).size = (s.extract p1 q).data.toList.length := by rw [Array.length_toList]; rfl
  have hsz2 : (s.extract p1 q).size = q - p1 := by rw [ByteArray.size_extract]; omega
  have hall : ∀ c ∈ (s.extract p1 q).data.toList, isDig c = true := by rw [← hd1]; exact takeWhile_all _
  generalize hds : s.extract p1 q = ds at *
  generalize hD0 : ds.data.toList = D at *
  have hc : ∃ cd : Bool, cd = decide (D = [] ∨ (1 < D.length ∧ D.head? = some 48) ∨ (b = true ∧ D = [48])) := ⟨_, rfl⟩
  obtain ⟨cd, hcd⟩ := hc
  have HCD := Lib.hid hcd
  have HB := Lib.hid hb
  have HR := Lib.hid HR
  clear hcd hb HS hd1 hd2
  go_cut [30] from 16 to 30 (fun v wx => v = .bool cd ∧ wx = w2)
  case first =>
    have hcd := HCD.out
    clear HCD HB
    by_cases h0 : ds.size = 0
    · obtain rfl := str_empty h0
      obtain rfl : D = [] := by rw [← hD0]
      obtain rfl : cd = true := by rw [hcd]; simp
      try clear hsz; try clear hsz2; try clear hcd; try clear hD0; try clear hds; try clear hall; try clear hne; try clear hhd; try clear h0; try clear h48; try clear hsg; try clear hB; try clear h1
      go_wp2
      go_meet
      exact ⟨rfl, rfl⟩
    · have h0 : 0 < ds.size := by omega
      have t0 := text_some h0
      have t1 : ds.toList.isEmpty = false := text_full h0
      have t2 : ¬ ds.toList = [] := by intro e; rw [e] at t1; cases t1
      have hne : ¬ D = [] := by intro e; rw [e, List.length_nil] at hsz; omega
      have hhd : D.head? = some ds[0] := by
        rw [← hD0, List.head?_eq_getElem?, List.getElem?_eq_getElem (by rw [Array.length_toList]; exact h0)]
        rfl
      by_cases h48 : ds[0] = 48
      · have e48 : ((ds[0].toNat : Int) == 48) = true := by rw [h48]; rfl
        cases b with
        | true =>
          obtain rfl : cd = true := by
            rw [hcd]
            refine decide_eq_true ?_
            by_cases h1 : 1 < D.length
            · exact .inr (.inl ⟨h1, by rw [hhd, h48]⟩)
            · refine .inr (.inr ⟨rfl, ?_⟩)
              match D, hhd with
              | [c], hh => simp at hh; rw [hh, h48]
              | c :: c2 :: r, hh => simp at h1
          try clear hsz; try clear hsz2; try clear hcd; try clear hD0; try clear hds; try clear hall; try clear hne; try clear hhd; try clear h0; try clear h48; try clear hsg; try clear hB; try clear h1
          go_wp2
          go_meet
          exact ⟨rfl, rfl⟩
        | false =>
          by_cases h1 : 1 < ds.size
          · have i1 : ((1 : Int) < (ds.size : Int)) := by omega
            obtain rfl : cd = true := by
              rw [hcd]
              exact decide_eq_true (.inr (.inl ⟨by omega, by rw [hhd, h48]⟩))
            try clear hsz; try clear hsz2; try clear hcd; try clear hD0; try clear hds; try clear hall; try clear hne; try clear hhd; try clear h0; try clear h48; try clear hsg; try clear hB; try clear h1
            go_wp2
            go_meet
            exact ⟨rfl, rfl⟩
          · have i1 : ¬ ((1 : Int) < (ds.size : Int)) := by omega
            obtain rfl : cd = false := by
              rw [hcd]
              exact decide_eq_false (by rintro (h | ⟨h, _⟩ | ⟨h, _⟩); exact hne h; omega; cases h)
            try clear hsz; try clear hsz2; try clear hcd; try clear hD0; try clear hds; try clear hall; try clear hne; try clear hhd; try clear h0; try clear h48; try clear hsg; try clear hB; try clear h1
            go_wp2
            go_meet
            exact ⟨rfl, rfl⟩
      · have e48 : ((ds[0].toNat : Int) == 48) = false := by
          rw [beq_eq_false_iff_ne]
          exact byte_ne h48
        obtain rfl : cd = false := by
          rw [hcd]
          refine decide_eq_false ?_
          rintro (h | ⟨_, h⟩ | ⟨_, h⟩)
          · exact hne h
          · rw [hhd] at h; exact h48 (Option.some.inj h)
          · rw [h] at hhd; simp at hhd; exact h48 hhd.symm
        try clear hsz; try clear hsz2; try clear hcd; try clear hD0; try clear hds; try clear hall; try clear hne; try clear hhd; try clear h0; try clear h48; try clear hsg; try clear hB; try clear h1
        go_wp2
        go_meet
        exact ⟨rfl, rfl⟩
  obtain ⟨rfl, rfl⟩ := hcut
  cases cd with
  | true =>
    go_wp2
    have hcd := of_decide_eq_true HCD.out.symm
    exact ⟨rfl, by unfold NumPost; exact ⟨hb2, .inl ⟨20, by rw [HR.out, if_pos hcd], rfl⟩⟩⟩
  | false =>
    have hcd := of_decide_eq_false HCD.out.symm
    have HR2 := Lib.hid (HR.out.trans (if_neg hcd))
    have hDn : D ≠ [] := fun e => hcd (.inl e)
    have hpq : p ≤ q := by omega
    have hpl : p < q := by
      rcases Nat.lt_or_ge p q with h | h
      · exact h
      · exfalso
        have : ds.size = 0 := by omega
        rw [hsz] at this
        exact hDn (List.eq_nil_of_length_eq_zero this)
    have htl : (s.extract p q).data.toList = if b then 45 :: D else D := by
      have hb := HB.out
      cases b with
      | true =>
        rw [if_pos rfl] at hb ⊢
        rw [hb.2 q hD.1 hq, hds, hD0]
      | false =>
        simp only [Bool.false_eq_true, if_false] at hb ⊢
        rw [← hb, hds, hD0]
    obtain ⟨z, hz, hP⟩ := parseInt_any (s.extract p q) b D htl hall hDn (by rw [ByteArray.size_extract]; omega)
    have HP := Lib.hid hP
    have HZ := Lib.hid hz
    clear hP hz htl hcd HCD HR HB hall hsz hsz2 hD0 hds hsg hB
    go_upto_region 6 with fail
    refine wp_held_any (S := fun w => Lies w g 55 (rdC s q n vo)) 16 rfl (by kernel_rfl) ?_
    have hdr : RowKit.Below wc.heap.size wc { wc with drawn := wc.drawn + 1 } := (RowKit.Below.refl _ _).drew
    have hS0 := hl2.on hdr
    replace hb2 := grown_two hb2 (grown_of g hdr)
    replace her := her.below hdr
    clear hdr
    generalize ({ wc with drawn := wc.drawn + 1 } : World) = wd at *
    refine held_put 0 33 (.pointer (some ⟨g, 0, none⟩)) rfl rfl (by kernel_rfl) (by kernel_rfl) (by kernel_rfl) (by kernel_rfl) (fun w hS => rfl) hS0 ?_
    simp only [List.setIfInBounds_toArray, List.set_cons_succ, List.set_cons_zero]
    refine held_put 1 34 (.pointer (some ⟨g, 0, none⟩)) rfl rfl (by kernel_rfl) (by kernel_rfl) (by kernel_rfl) (by kernel_rfl) (fun w hS => rfl) hS0 ?_
    simp only [List.setIfInBounds_toArray, List.set_cons_succ, List.set_cons_zero]
    refine held_put 2 35 (.pointer (some ⟨g, 0, none⟩)) rfl rfl (by kernel_rfl) (by kernel_rfl) (by kernel_rfl) (by kernel_rfl) (fun w hS => rfl) hS0 ?_
    simp only [List.setIfInBounds_toArray, List.set_cons_succ, List.set_cons_zero]
    refine held_put 3 36 (.string s) rfl rfl (by kernel_rfl) (by kernel_rfl) (by kernel_rfl) (by kernel_rfl) (fun w hS => run_ldS _ _ (rd_c0 hS) rfl) hS0 ?_
    simp only [List.setIfInBounds_toArray, List.set_cons_succ, List.set_cons_zero]
    refine held_put 4 37 (.int .i64 p) rfl rfl (by kernel_rfl) (by kernel_rfl) (by kernel_rfl) (by kernel_rfl) (fun w hS => rfl) hS0 ?_
    simp only [List.setIfInBounds_toArray, List.set_cons_succ, List.set_cons_zero]
    refine held_put 5 38 (.pointer (some ⟨g, 0, none⟩)) rfl rfl (by kernel_rfl) (by kernel_rfl) (by kernel_rfl) (by kernel_rfl) (fun w hS => rfl) hS0 ?_
    simp only [List.setIfInBounds_toArray, List.set_cons_succ, List.set_cons_zero]
    refine held_put 6 39 (.pointer (some ⟨g, 0, none⟩)) rfl rfl (by kernel_rfl) (by kernel_rfl) (by kernel_rfl) (by kernel_rfl) (fun w hS => rfl) hS0 ?_
    simp only [List.setIfInBounds_toArray, List.set_cons_succ, List.set_cons_zero]
    refine held_put 7 40 (.pointer (some ⟨g, 1, none⟩)) rfl rfl (by kernel_rfl) (by kernel_rfl) (by kernel_rfl) (by kernel_rfl) (fun w hS => rfl) hS0 ?_
    simp only [List.setIfInBounds_toArray, List.set_cons_succ, List.set_cons_zero]
    refine held_put 8 41 (.int .i64 q) rfl rfl (by kernel_rfl) (by kernel_rfl) (by kernel_rfl) (by kernel_rfl) (fun w hS => run_ldI _ _ (rd_c1 hS) rfl) hS0 ?_
    simp only [List.setIfInBounds_toArray, List.set_cons_succ, List.set_cons_zero]
    refine held_put 9 42 (.string (s.extract p q)) rfl rfl (by kernel_rfl) (by kernel_rfl) (by kernel_rfl) (by kernel_rfl) (fun w hS => run_cutS s p q hpq hq rfl rfl rfl) hS0 ?_
    simp only [List.setIfInBounds_toArray, List.set_cons_succ, List.set_cons_zero]
    refine held_one 10 (by kernel_rfl) (wpOp_call 43 rfl rfl (by kernel_rfl) (by kernel_rfl) ((HP.out _ her).mono ?_))
    rintro e w3 ⟨er, rfl, hb3⟩
    replace hS0 := hS0.on hb3
    replace hb2 := grown_two hb2 (grown_of g hb3)
    refine ⟨_, rfl, hS0, ?_⟩
    simp only [List.setIfInBounds_toArray, List.set_cons_succ, List.set_cons_zero]
    refine held_put 11 32 (.tuple #[.int .i64 z, er]) rfl rfl (by kernel_rfl) (by kernel_rfl) (by kernel_rfl) (by kernel_rfl) (fun w hS => rfl) hS0 ?_
    simp only [List.setIfInBounds_toArray, List.set_cons_succ, List.set_cons_zero]
    refine held_put 12 44 (.int .i64 z) rfl rfl (by kernel_rfl) (by kernel_rfl) (by kernel_rfl) (by kernel_rfl) (fun w hS => rfl) hS0 ?_
    simp only [List.setIfInBounds_toArray, List.set_cons_succ, List.set_cons_zero]
    refine held_put 13 45 er rfl rfl (by kernel_rfl) (by kernel_rfl) (by kernel_rfl) (by kernel_rfl) (fun w hS => rfl) hS0 ?_
    simp only [List.setIfInBounds_toArray, List.set_cons_succ, List.set_cons_zero]
    refine held_put 14 6 (.int .i64 z) rfl rfl (by kernel_rfl) (by kernel_rfl) (by kernel_rfl) (by kernel_rfl) (fun w hS => rfl) hS0 ?_
    simp only [List.setIfInBounds_toArray, List.set_cons_succ, List.set_cons_zero]
    refine held_put 15 7 er rfl rfl (by kernel_rfl) (by kernel_rfl) (by kernel_rfl) (by kernel_rfl) (fun w hS => rfl) hS0 ?_
    simp only [List.setIfInBounds_toArray, List.set_cons_succ, List.set_cons_zero]
    refine held_done (by kernel_rfl) ?_
    simp only [Exit.then]
    have H7 := HZ.out
    by_cases hbig : 1099511627776 < decVal D
    · have hzb := H7.2.1 hbig
      have hr := Lib.hid (HR2.out.trans (if_pos hbig))
      clear HR2 HZ H7 HP hDn
      by_cases hlo : z < -1099511627776
      · go_wp2
        exact ⟨rfl, by unfold NumPost; exact ⟨hb2, .inl ⟨2, hr.out, rfl⟩⟩⟩
      · have hhi : 1099511627776 < z := by omega
        go_wp2
        exact ⟨rfl, by unfold NumPost; exact ⟨hb2, .inl ⟨2, hr.out, rfl⟩⟩⟩
    · have hze := H7.1 (by omega)
      have hr := Lib.hid (show rdN (rest s p) = .ok z (rest s q) by rw [HR2.out, if_neg hbig, hze])
      have hlo : ¬ z < -1099511627776 := by rw [hze]; unfold signed; cases b <;> simp <;> omega
      have hhi : ¬ 1099511627776 < z := by rw [hze]; unfold signed; cases b <;> simp <;> omega
      clear HR2 HZ H7 HP hDn hze hbig
      go_wp2
      go_ret
      unfold NumPost
      exact ⟨hb2, .inr ⟨z, q, hr.out, rfl, hpl, hq, hS0⟩⟩
end Go.Proofs.YtmbmeidkmhajbaaDoor.V

/- What stands ahead of an item: in a list nothing, else a key and its colon. -/
namespace Go.Proofs.YtmbmeidkmhajbaaDoor.V
set_option maxRecDepth 100000
open Go.RowKit Go.Sort Go.Joins

section
variable {w : World} {g : Nat} {s : ByteArray} {p n : Nat} {vo : Value} (hl : Lies w g 55 (rdC s p n vo)) (hp : p < s.size) (hs : s.size ≤ 65536)
include hl hp hs
theorem quoted_bad {er : Int} (hR : rdT 0 (rest s (p + 1)) = .bad er) : Calls Tryd.prog 44 #[.pointer (some ⟨g, 0, none⟩)] w fun e w' => e = errP er ∧ w.grownBy w' (some g) := by
  refine (quotedY_any w g s p n vo hl hp hs).mono ?_
  rintro e w' ⟨hg, ⟨er', h1, h2⟩ | ⟨k, q, h1, _⟩⟩
  · rw [hR] at h1; cases h1; exact ⟨h2, hg⟩
  · rw [hR] at h1; cases h1
theorem quoted_ok {k r : List UInt8} (hR : rdT 0 (rest s (p + 1)) = .ok k r) : Calls Tryd.prog 44 #[.pointer (some ⟨g, 0, none⟩)] w fun e w' => e = .returned (.string ⟨k.toArray⟩) ∧ ∃ q, r = rest s q ∧ p + 1 < q ∧ q ≤ s.size ∧ Lies w' g 55 (rdC s q n vo) ∧ w.grownBy w' (some g) := by
  refine (quotedY_any w g s p n vo hl hp hs).mono ?_
  rintro e w' ⟨hg, ⟨er', h1, h2⟩ | ⟨k', q, h1, h2, h3, h4, h5⟩⟩
  · rw [hR] at h1; cases h1
  · rw [hR] at h1; cases h1; exact ⟨h2, q, rfl, h3, h4, h5, hg⟩
variable (her : ErrAt w) (hg : 2 < g)
include her hg
theorem number_bad {er : Int} (hR : rdN (rest s p) = .bad er) : Calls Tryd.prog 43 #[.pointer (some ⟨g, 0, none⟩)] w fun e w' => e = errP er ∧ w.grownBy w' (some g) := by
  refine (number_ok w g s p n vo hl hp hs her hg).mono ?_
  rintro e w' ⟨hg, ⟨er', h1, h2⟩ | ⟨k, q, h1, _⟩⟩
  · rw [hR] at h1; cases h1; exact ⟨h2, hg⟩
  · rw [hR] at h1; cases h1
theorem number_good {z : Int} {r : List UInt8} (hR : rdN (rest s p) = .ok z r) : Calls Tryd.prog 43 #[.pointer (some ⟨g, 0, none⟩)] w fun e w' => e = .returned (.int .i64 z) ∧ ∃ q, r = rest s q ∧ p < q ∧ q ≤ s.size ∧ Lies w' g 55 (rdC s q n vo) ∧ w.grownBy w' (some g) := by
  refine (number_ok w g s p n vo hl hp hs her hg).mono ?_
  rintro e w' ⟨hg, ⟨er', h1, h2⟩ | ⟨k', q, h1, h2, h3, h4, h5⟩⟩
  · rw [hR] at h1; cases h1
  · rw [hR] at h1; cases h1; exact ⟨h2, q, rfl, h3, h4, h5, hg⟩
end
/-- the colon behind a key -/
def colon (k : List UInt8) : List UInt8 → Rd (List UInt8)
  | [] => .bad 3
  | c :: s => if c ≠ 58 then .bad 20 else .ok k s
theorem rdK_key {prev : Option (List UInt8)} {k r x : List UInt8} (h : rdT 0 x = .ok k r) : rdK prev (34 :: x) = if prev.any (fun p => !lessL p k) = true then .bad 23 else colon k r := by
  rw [rdK, if_neg (by decide), h]
  cases r <;> rfl
theorem below_grown {w w' : World} {g : Nat} (h : w.grownBy w' (some g)) (hg : g ≤ w.heap.size) : RowKit.Below g w w' := ⟨h.os, h.tape, h.output, h.size, fun k hk => h.block k (by omega) (fun e => by injection e; omega)⟩
set_option maxHeartbeats 1600000 in
theorem key_list (w : World) (g : Nat) (E : List Nat) (B : Nat) (s : ByteArray) (p n : Nat) (vo : Value) (m : Fm) (ms : List Fm) (h : St w g E B s p n vo (m :: ms)) (hm : m.fr.map = false) :
    Calls Tryd.prog 48 #[.pointer (some ⟨g, 0, none⟩)] w fun e w' => e = .returned (.tuple #[]) ∧ RowKit.Below w.heap.size w w' := by
  obtain ⟨sb, cap, hvo, hcap, hr, ⟨C, hC⟩, hne⟩ := below_top h
  have hms := h.hms
  rw [List.length_cons] at hms
  have hkd : m.fr.kind = 3 := by unfold Fr.kind; rw [hm]; rfl
  have c3 := rd_c3 h.rd
  rw [hvo] at c3
  have q0 := hr 0 (.int .i64 3) (by unfold Fm.cells; rw [hkd]; rfl)
  rw [Nat.add_zero] at q0
  go_enter Tryd.func48, Tryd.ntmps48
  go_wp2_with (go_at_call 46; refine (top_any _ g sb ms.length cap c3 (by omega)).mono ?_; rintro e w2 ⟨rfl, hb2⟩; replace q0 := (hb2.cell (p := ⟨sb, ms.length * 5, none⟩) (World.block_lt_of_cell? w _ q0)).trans q0)
  first | go_end0 | refine bodyPost_ret (results_none rfl _ _ _) rfl ?_
  exact ⟨rfl, hb2⟩
/-- what a key comes to -/
def KeyPost (w : World) (g : Nat) (E : List Nat) (B : Nat) (s : ByteArray) (p n : Nat) (vo : Value) (m : Fm) (ms : List Fm) (e : Ending) (w' : World) : Prop :=
  (∃ er, rdK m.fr.keys.getLast? (rest s p) = .bad er ∧ e = errP er ∧ RowKit.Below g w w') ∨
  (∃ k q v'', rdK m.fr.keys.getLast? (rest s p) = .ok k (rest s q) ∧ e = .returned (.tuple #[]) ∧ p < q ∧ q ≤ s.size ∧ St w' g E B s q n vo (⟨⟨m.fr.map, m.fr.items, m.fr.keys ++ [k], m.fr.f⟩, m.vi, v''⟩ :: ms) ∧
    Turn (live g [] vo (m :: ms)) (live g [] vo (⟨⟨m.fr.map, m.fr.items, m.fr.keys ++ [k], m.fr.f⟩, m.vi, v''⟩ :: ms)) w w')
set_option maxHeartbeats 12800000 in
theorem key_map (w : World) (g : Nat) (E : List Nat) (B : Nat) (s : ByteArray) (p n : Nat) (vo : Value) (m : Fm) (ms : List Fm) (h : St w g E B s p n vo (m :: ms)) (hm : m.fr.map = true) :
    Calls Tryd.prog 48 #[.pointer (some ⟨g, 0, none⟩)] w fun e w' => KeyPost w g E B s p n vo m ms e w' := by
  obtain ⟨sb, cap, hvo, hcap, hr, ⟨C, hC⟩, hne⟩ := below_top h
  have hms := h.hms
  rw [List.length_cons] at hms
  have hs := h.hs
  have hgw : g ≤ w.heap.size := Nat.le_of_lt h.rd.lt
  have hkd : m.fr.kind = 4 := by unfold Fr.kind; rw [hm]; rfl
  obtain ⟨ak, ck, hvk, _⟩ := (h.fm m (by simp)).keys.form
  rw [List.length_map] at hvk
  have c3 := rd_c3 h.rd
  rw [hvo] at c3
  have q0 := hr 0 (.int .i64 4) (by unfold Fm.cells; rw [hkd]; rfl)
  rw [Nat.add_zero] at q0
  have hcell0 : ∀ w2, RowKit.Below w.heap.size w w2 → w2.cell? ⟨sb, ms.length * 5, none⟩ = some (.int .i64 4) := fun w2 hb2 => (hb2.cell (p := ⟨sb, ms.length * 5, none⟩) (World.block_lt_of_cell? w _ q0)).trans q0
  by_cases hlt : p < s.size
  case neg =>
    obtain rfl : p = s.size := by have := h.hp; omega
    have HX := Lib.hid (show rdK m.fr.keys.getLast? (rest s s.size) = .bad 3 by rw [rest_none, rdK])
    go_enter Tryd.func48, Tryd.ntmps48
    go_wp2_with (first
      | (go_at_call 46; refine (top_any _ g sb ms.length cap c3 (by omega)).mono ?_; rintro e w2 ⟨rfl, hb2⟩; have q0 := hcell0 w2 hb2)
      | (go_at_call 40; refine (here_short _ g s n vo (h.rd.on hb2)).mono ?_; rintro e w3 ⟨rfl, hb3⟩))
    refine ⟨rfl, ?_⟩
    unfold KeyPost
    exact .inl ⟨3, HX.out, rfl, (hb2.trans (hb3.mono hb2.size)).mono hgw⟩
  obtain ⟨c, hc⟩ : ∃ c, s[p] = c := ⟨_, rfl⟩
  have hrc := rest_cons hlt
  rw [hc] at hrc
  have HH := fun w1 hl => here_ok w1 g s p n vo hl hlt
  rw [hc] at HH
  by_cases h34 : c = 34
  case neg =>
    have HX := Lib.hid (show rdK m.fr.keys.getLast? (rest s p) = .bad 20 by rw [hrc, rdK, if_pos h34])
    have e34 : ((c.toNat : Int) != 34) = true := by
      have := byte_ne h34
      simpa using this
    clear hrc hc
    go_enter Tryd.func48, Tryd.ntmps48
    go_wp2_with (first
      | (go_at_call 46; refine (top_any _ g sb ms.length cap c3 (by omega)).mono ?_; rintro e w2 ⟨rfl, hb2⟩; have q0 := hcell0 w2 hb2)
      | (go_at_call 40; refine (HH _ (h.rd.on hb2)).mono ?_; rintro e w3 ⟨rfl, hb3⟩))
    refine ⟨rfl, ?_⟩
    unfold KeyPost
    exact .inl ⟨20, HX.out, rfl, (hb2.trans (hb3.mono hb2.size)).mono hgw⟩
  subst h34
  have HH : ∀ w1, Lies w1 g 55 (rdC s p n vo) → Calls Tryd.prog 40 #[.pointer (some ⟨g, 0, none⟩)] w1 fun e w' => e = .returned (.int .u8 34) ∧ RowKit.Below w1.heap.size w1 w' := HH
  cases hR : rdT 0 (rest s (p + 1)) with
  | bad er =>
    have HX := Lib.hid (show rdK m.fr.keys.getLast? (rest s p) = .bad er by rw [hrc, rdK, if_neg (by decide), hR])
    clear hrc hc
    go_enter Tryd.func48, Tryd.ntmps48
    go_wp2_with (first
      | (go_at_call 46; refine (top_any _ g sb ms.length cap c3 (by omega)).mono ?_; rintro e w2 ⟨rfl, hb2⟩; have q0 := hcell0 w2 hb2)
      | (go_at_call 40; refine (HH _ (h.rd.on hb2)).mono ?_; rintro e w3 ⟨rfl, hb3⟩)
      | (go_at_call 44; refine (quoted_bad ((h.rd.on hb2).on hb3) hlt hs hR).mono ?_; rintro e w4 ⟨rfl, hb4⟩))
    refine ⟨rfl, ?_⟩
    unfold KeyPost
    exact .inl ⟨er, HX.out, rfl, ((hb2.trans (hb3.mono hb2.size)).mono hgw).trans (below_grown hb4 (Nat.le_trans hgw (Nat.le_trans hb2.size hb3.size)))⟩
  | ok k r =>
    have HQ := Lib.hid hR
    have HX : rdK m.fr.keys.getLast? (rest s p) = if m.fr.keys.getLast?.any (fun p => !lessL p k) = true then .bad 23 else colon k r := by rw [hrc, rdK_key hR]
    have HX := Lib.hid HX
    obtain ⟨_, _, hk4⟩ := rdT_ok _ _ (Nat.le_refl _) 0 k r (by decide) hR
    clear hrc hc hR
    go_enter Tryd.func48, Tryd.ntmps48
    go_upto_region 5 with (first
      | (go_at_call 46; refine (top_any _ g sb ms.length cap c3 (by omega)).mono ?_; rintro e w2 ⟨rfl, hb2⟩; have q0 := hcell0 w2 hb2)
      | (go_at_call 40; refine (HH _ (h.rd.on hb2)).mono ?_; rintro e w3 ⟨rfl, hb3⟩)
      | (go_at_call 44; refine (quoted_ok ((h.rd.on hb2).on hb3) hlt hs HQ.out).mono ?_; rintro e w4 ⟨rfl, q, hrq, hpq, hq, hl4, hb4⟩))
    have hg4 : w.grownBy w4 (some g) := grown_two (grown_of g (hb2.trans (hb3.mono hb2.size))) hb4
    have h4 := (h.seek hg4 hl4 (by omega) hq h.hn).1
    have ht4 := (h.drop.seek hg4 hl4 (by omega) hq h.hn).2
    subst hrq
    clear HQ hb2 hb3 hb4 HH c3 q0 hcell0
    obtain ⟨sb', cap', hvo', _, hr4, _, _⟩ := below_top h4
    rw [hvo] at hvo'
    obtain ⟨rfl, rfl⟩ := slice_inj hvo'
    have q4 := hr4 4 (.slice ak m.fr.keys.length ck) (by unfold Fm.cells; rw [hvk]; rfl)
    obtain ⟨bad, hbad⟩ : ∃ bad, m.fr.keys.getLast?.any (fun p => !lessL p k) = bad := ⟨_, rfl⟩
    rw [hbad] at HX
    have hko := (h4.fm m (by simp)).keys
    have hfew : m.fr.keys.length ≤ p := (h.fm m (by simp)).fewk
    have hnk : m.fr.keys.length ≤ 100000 := by omega
    rw [hvk] at hko
    have HX := Lib.hid HX
    obtain ⟨nk, hnke⟩ : ∃ nk, m.fr.keys.length = nk := ⟨_, rfl⟩
    rw [hnke] at q4 hnk hko hvk
    go_upto_region 6 with fail
    go_cut [38] from 25 to 38 (fun v wx => v = .bool bad ∧ wx = w4)
    case first =>
      clear HX
      rcases List.eq_nil_or_concat m.fr.keys with hke | ⟨ks, last, hke⟩
      · rw [hke] at hnke hbad
        obtain rfl : nk = 0 := hnke.symm
        obtain rfl : bad = false := by rw [← hbad]; rfl
        clear hke hnk hvk hbad hnke
        go_wp2
        go_meet
        exact ⟨rfl, rfl⟩
      · have hlen : nk = ks.length + 1 := by rw [← hnke, hke]; simp
        rw [hke, List.concat_eq_append, List.getLast?_concat] at hbad
        have hbad : (!lessL last k) = bad := hbad
        have hlast : (m.fr.keys.map fun k => [str k])[ks.length]? = some [str last] := by rw [hke]; simp
        obtain ⟨kb, off, rfl, hkr, _⟩ := hko.read.at hlast
        have k0 := hkr 0 _ rfl
        rw [Nat.mul_one, Nat.add_zero] at k0
        replace k0 : w4.cell? ⟨kb, off + ks.length, none⟩ = some (.string ⟨last.toArray⟩) := k0
        subst hlen
        have e1 : (0 : Int) < ((ks.length + 1 : Nat) : Int) := by omega
        cases bad with
        | true =>
          have hless : Op.bytesLess k last = true ∨ (k == last) = true := by
            rw [bytesLess_is]
            rcases less_three k last with ⟨h1, _, _⟩ | ⟨h1, _, _⟩ | ⟨_, _, h3⟩
            · exact .inl h1
            · exact .inr (by rw [h1]; simp)
            · rw [h3] at hbad; cases hbad
          clear hko hkr hlast hke hvk hbad hnke
          have hor : (Op.bytesLess k last || k == last) = true := by simpa using hless
          go_wp2
          all_goals
            go_meet
            exact ⟨rfl, rfl⟩
        | false =>
          have hless : Op.bytesLess k last = false ∧ (k == last) = false := by
            rw [bytesLess_is]
            rcases less_three k last with ⟨_, _, h3⟩ | ⟨h1, h2, h3⟩ | ⟨h1, h2, _⟩
            · rw [h3] at hbad; cases hbad
            · rw [h3] at hbad; cases hbad
            · exact ⟨h1, by rw [beq_eq_false_iff_ne]; exact h2⟩
          clear hko hkr hlast hke hvk hbad hnke
          have hor : (Op.bytesLess k last || k == last) = false := by simpa using hless
          go_wp2
          all_goals
            go_meet
            exact ⟨rfl, rfl⟩
    obtain ⟨rfl, rfl⟩ := hcut
    have hgs : g ≤ wc.heap.size := Nat.le_of_lt h4.rd.lt
    cases bad with
    | true =>
      go_wp2
      refine ⟨rfl, ?_⟩
      unfold KeyPost
      exact .inl ⟨23, by rw [HX.out]; simp, rfl, below_grown hg4 hgw⟩
    | false =>
      have HX := Lib.hid (HX.out.trans (if_neg (by decide)))
      by_cases hlt2 : q < s.size
      case neg =>
        obtain rfl : q = s.size := by omega
        have HX := Lib.hid (show rdK m.fr.keys.getLast? (rest s p) = .bad 3 by rw [HX.out, rest_none]; rfl)
        go_wp2_with (go_at_call 47; refine (take_short _ g s n vo hl4).mono ?_; rintro e w5 ⟨rfl, hb5⟩)
        refine ⟨rfl, ?_⟩
        unfold KeyPost
        exact .inl ⟨3, HX.out, rfl, (below_grown hg4 hgw).trans (hb5.mono hgs)⟩
      obtain ⟨c2, hc2⟩ : ∃ c, s[q] = c := ⟨_, rfl⟩
      have hrc2 := rest_cons hlt2
      rw [hc2] at hrc2
      have HT := take_ok wc g s q n vo hl4 hlt2 hs
      rw [hc2] at HT
      by_cases h58 : c2 = 58
      case neg =>
        have HX := Lib.hid (show rdK m.fr.keys.getLast? (rest s p) = .bad 20 by rw [HX.out, hrc2, colon, if_pos h58])
        have e58 : ((c2.toNat : Int) != 58) = true := by
          have := byte_ne h58
          simpa using this
        clear hrc2 hc2
        go_wp2_with (go_at_call 47; refine HT.mono ?_; rintro e w5 ⟨rfl, hl5, hb5⟩)
        refine ⟨rfl, ?_⟩
        unfold KeyPost
        exact .inl ⟨20, HX.out, rfl, below_grown (grown_two hg4 hb5) hgw⟩
      subst h58
      have HX := Lib.hid (show rdK m.fr.keys.getLast? (rest s p) = .ok k (rest s (q + 1)) by rw [HX.out, hrc2, colon, if_neg (by decide)])
      have HT : Calls Tryd.prog 47 #[.pointer (some ⟨g, 0, none⟩)] wc fun e w' => e = .returned (.int .u8 58) ∧ Lies w' g 55 (rdC s (q + 1) n vo) ∧ wc.grownBy w' (some g) := HT
      clear hrc2 hc2
      go_upto_region 10 with (go_at_call 47; refine HT.mono ?_; rintro e w5 ⟨rfl, hl5, hb5⟩)
      have h5 := (h4.seek hb5 hl5 (by omega) (by omega) h.hn).1
      have ht5 := (h4.drop.seek hb5 hl5 (by omega) (by omega) h.hn).2
      obtain ⟨_, _, e5, _, hr5, ⟨C5, hC5⟩, _⟩ := below_top h5
      rw [hvo] at e5
      obtain ⟨rfl, rfl⟩ := slice_inj e5
      have q5 := hr5 4 (.slice ak nk ck) (by unfold Fm.cells; rw [hvk]; rfl)
      have hfm5 := h5.fm m (by simp)
      have hko5 := hfm5.keys
      rw [hvk] at hko5
      have hcn : (m.fr.keys.map fun k => [str k]).length ≤ 100000 := by rw [List.length_map, hnke]; exact hnk
      have zb : RowKit.Below w5.heap.size w5 (w5.alloc (.cells #[.string ⟨k.toArray⟩] 9)) := (RowKit.Below.refl _ _).alloc (Nat.le_refl _) _
      have zA := Lies.new w5 9 #[.string ⟨k.toArray⟩]
      have hkoA := hko5.on zb
      have hBA := Nat.le_trans h5.Bw zb.size
      have hsbv : sb ∉ blks (.slice ak nk ck) := fun hx => by
        have := (h5.sepTop).2.1 sb (by rw [hvk]; exact hx)
        exact this (List.mem_cons_of_mem _ (by rw [hvo]; simp [blks, Value.ownBlock]))
      have hgz := World.grownBy_alloc w5 (.cells #[.string ⟨k.toArray⟩] 9) (Value.slice ak nk ck).ownBlock
      have hCA := hC5.alloc (.cells #[.string ⟨k.toArray⟩] 9)
      have qC : C5[ms.length * 5 + 4]? = some (.slice ak nk ck) := (hC5.cell _).symm.trans q5
      clear hr4 hr5 hr HT hb5 h4 hl4 q4 hko hg4
      go_wp2_with ((with_reducible refine wpL_putS B (.slice ak nk ck) (m.fr.keys.map fun k => [str k]) (.string ⟨k.toArray⟩) w5.heap.size hkoA rfl zA hcn hBA ?_ ?_ ?_); rfl; rfl; intro kb2 cap2 w7 hown7 hgr7 hloc7; have hC7 := hCA.only hgr7 (own_ne hsbv); have q7 := (hC7.cell (ms.length * 5 + 4)).trans qC; have f7 := hC7.frozen (ms.length * 5 + 4); have hw7 := grown_two hgz hgr7)
      first | go_end0 | refine bodyPost_ret (results_none rfl _ _ _) rfl ?_
      rw [List.length_map, hnke] at hown7
      have hloc := loc_of (n := nk + 1) (cap := cap2) hloc7 zb.size
      have PD := put_value (i := ms.length * 5 + 4) hw7 hloc hC5.lt hsbv hown7
      rw [← hvk] at PD
      have h6 := (h5.key (key := k) (by omega) hm hvo (by omega) PD).1
      have ht6 := (h5.drop.key (key := k) (by omega) hm hvo (by omega) PD).2
      unfold KeyPost
      exact .inr ⟨k, q + 1, _, HX.out, rfl, by omega, by omega, h6, (ht4.trans ht5).trans ht6⟩
end Go.Proofs.YtmbmeidkmhajbaaDoor.V

/- A list, or values by keys, that ends behind its sign, or is opened. -/
namespace Go.Proofs.YtmbmeidkmhajbaaDoor.V
set_option maxRecDepth 100000
open Go.RowKit Go.Sort Go.Joins

section
variable {w : World} {g B p n : Nat} {E : List Nat} {s : ByteArray} {vo : Value} {m : Fm} {ms : List Fm} (h : St w g E B s p n vo (m :: ms)) (hm : m.fr.map = true)
include h hm
theorem key_bad {er : Int} (hR : rdK m.fr.keys.getLast? (rest s p) = .bad er) : Calls Tryd.prog 48 #[.pointer (some ⟨g, 0, none⟩)] w fun e w' => e = errP er ∧ RowKit.Below g w w' := by
  refine (key_map w g E B s p n vo m ms h hm).mono ?_
  rintro e w' (⟨er', h1, h2, h3⟩ | ⟨k, q, v'', h1, _⟩)
  · rw [hR] at h1; cases h1; exact ⟨h2, h3⟩
  · rw [hR] at h1; cases h1
theorem key_good {k r : List UInt8} (hR : rdK m.fr.keys.getLast? (rest s p) = .ok k r) : Calls Tryd.prog 48 #[.pointer (some ⟨g, 0, none⟩)] w fun e w' => e = .returned (.tuple #[]) ∧ ∃ q v'', r = rest s q ∧ p < q ∧ q ≤ s.size ∧ St w' g E B s q n vo (⟨⟨m.fr.map, m.fr.items, m.fr.keys ++ [k], m.fr.f⟩, m.vi, v''⟩ :: ms) ∧
    Turn (live g [] vo (m :: ms)) (live g [] vo (⟨⟨m.fr.map, m.fr.items, m.fr.keys ++ [k], m.fr.f⟩, m.vi, v''⟩ :: ms)) w w' := by
  refine (key_map w g E B s p n vo m ms h hm).mono ?_
  rintro e w' (⟨er', h1, h2, h3⟩ | ⟨k', q, v'', h1, h2, h3, h4, h5, h6⟩)
  · rw [hR] at h1; cases h1
  · rw [hR] at h1; cases h1; exact ⟨h2, q, v'', rfl, h3, h4, h5, h6⟩
end
def endC (map : Bool) : UInt8 := if map then 125 else 93
theorem endOf_any (map : Bool) (w : World) : Calls Tryd.prog 49 #[.int .i64 (Fr.kind ⟨map, [], [], 0⟩)] w fun e w' => e = .returned (.int .u8 ((endC map).toNat : Int)) ∧ w' = w := by
  cases map with
  | true => exact endOf_map w
  | false => exact endOf_list w
def RowPost (w : World) (g : Nat) (E : List Nat) (B : Nat) (s : ByteArray) (p n : Nat) (vo : Value) (ms : List Fm) (map : Bool) (e : Ending) (w' : World) : Prop :=
  ((rest s (p + 1)).head? = some (endC map) ∧ e = .returned (.tuple #[.agg #[.int .i64 (Fr.kind ⟨map, [], [], 0⟩), .int .i64 0, .string ⟨#[]⟩, .slice none 0 0, .slice none 0 0], .bool true]) ∧ p + 2 ≤ s.size ∧ St w' g E B s (p + 2) n vo ms ∧ Turn (live g [] vo ms) (live g [] vo ms) w w') ∨
  ((rest s (p + 1)).head? ≠ some (endC map) ∧ map = false ∧ ∃ v'', e = .returned (.tuple #[.agg valZ, .bool false]) ∧ St w' g E B s (p + 1) n v'' (⟨⟨false, [], [], (rest s (p + 1)).length⟩, .slice none 0 0, .slice none 0 0⟩ :: ms) ∧ Turn (live g [] vo ms) (live g [] v'' (⟨⟨false, [], [], (rest s (p + 1)).length⟩, .slice none 0 0, .slice none 0 0⟩ :: ms)) w w') ∨
  ((rest s (p + 1)).head? ≠ some (endC map) ∧ map = true ∧ ∃ er, rdK none (rest s (p + 1)) = .bad er ∧ e = errP er ∧ RowKit.Below g w w') ∨
  ((rest s (p + 1)).head? ≠ some (endC map) ∧ map = true ∧ ∃ k q v'' vk, rdK none (rest s (p + 1)) = .ok k (rest s q) ∧ p + 1 < q ∧ q ≤ s.size ∧ e = .returned (.tuple #[.agg valZ, .bool false]) ∧ St w' g E B s q n v'' (⟨⟨true, [], [k], (rest s (p + 1)).length⟩, .slice none 0 0, vk⟩ :: ms) ∧
    Turn (live g [] vo ms) (live g [] v'' (⟨⟨true, [], [k], (rest s (p + 1)).length⟩, .slice none 0 0, vk⟩ :: ms)) w w')
set_option maxHeartbeats 12800000 in
theorem row_any (w : World) (g : Nat) (E : List Nat) (B : Nat) (s : ByteArray) (p n : Nat) (vo : Value) (ms : List Fm) (h : St w g E B s p n vo ms) (map : Bool) (hp : p < s.size) (hms : ms.length < 12) :
    Calls Tryd.prog 45 #[.pointer (some ⟨g, 0, none⟩), .int .i64 (Fr.kind ⟨map, [], [], 0⟩)] w fun e w' => RowPost w g E B s p n vo ms map e w' := by
  have HE := endOf_any map
  have HP := fun w1 E1 f h1 hf => push_any w1 g E1 B s (p + 1) n vo ms h1 map f hf hms
  have hkf : ∀ f, Fr.kind ⟨map, [], [], f⟩ = Fr.kind ⟨map, [], [], 0⟩ := fun _ => rfl
  simp only [hkf] at HP
  have hgw : g ≤ w.heap.size := Nat.le_of_lt h.rd.lt
  have hs := h.hs
  obtain ⟨kd, hkd⟩ : ∃ kd, Fr.kind ⟨map, [], [], 0⟩ = kd := ⟨_, rfl⟩
  have hba := (RowKit.Below.refl w.heap.size w).alloc (Nat.le_refl _) (.cells valZ 25)
  have lV := Lies.new w 25 valZ
  have h0 := (h.enter hba (Nat.le_refl _) lV.lt).1
  have t0 := (h.drop.below hba).2
  rw [hkd] at HE HP ⊢
  go_enter Tryd.func45, Tryd.ntmps45
  go_upto_region 1 with fail
  generalize World.alloc w _ = w0 at *
  obtain ⟨bv, hbv⟩ : ∃ b, w.heap.size = b := ⟨_, rfl⟩
  rw [hbv] at h0 lV ⊢
  have hgb : g ≠ bv := fun e => h0.out (by rw [← e]; simp [live])
  have c1 := rd_c1 h0.rd
  have f1 := h0.rd.frozen 1
  go_upto_region 2 with fail
  have hg1 := grown_set g (RowKit.Below.refl w0.heap.size w0) 1 (.int .i64 ((p : Int) + 1))
  have l1 := rd_at h0.rd (z := (p : Int) + 1) (p + 1) (by omega)
  have h1 := (h0.seek hg1 l1 (by omega) (by omega) h.hn).1
  have t1 := t0.trans (h0.drop.seek hg1 l1 (by omega) (by omega) h.hn).2
  have lV1 := lV.only hg1 (by intro e; injection e with e; exact hgb e.symm)
  generalize World.setCell _ _ _ = w1 at *
  clear h0 t0 lV c1 f1 hg1 l1 hba
  go_upto_region 3 with ((with_reducible refine wpL_store bv 25 valZ #[.int .i64 kd, .int .i64 0, .string ⟨#[]⟩, .slice none 0 0, .slice none 0 0] 5 rowVal rfl rfl (valC_one _ _ _ _ _ _ _ _ _) lV1 ?_ ?_ ?_); rfl; rfl)
  have lV2 := lV1.row #[.int .i64 kd, .int .i64 0, .string ⟨#[]⟩, .slice none 0 0, .slice none 0 0]
  have hg2 := grown_row (w := w1) bv #[.int .i64 kd, .int .i64 0, .string ⟨#[]⟩, .slice none 0 0, .slice none 0 0]
  have h2 := (h1.local hg2).1
  have t2 := t1.local hg2 (Nat.le_of_eq hbv)
  simp only [Act.put]
  generalize World.setRow _ _ _ = w2 at *
  clear h1 t1 lV1 hg2
  by_cases hw : (rest s (p + 1)).head? = some (endC map)
  · have hlt : p + 1 < s.size := by
      rcases Nat.lt_or_ge (p + 1) s.size with h' | h'
      · exact h'
      · exfalso
        obtain he : p + 1 = s.size := by omega
        rw [he, rest_none] at hw
        cases hw
    have hc : s[p + 1] = endC map := by
      rw [rest_cons hlt, List.head?_cons] at hw
      exact Option.some.inj hw
    have HS := skip_yes w2 g s (p + 1) n vo (endC map) h2.rd hs hlt hc
    go_wp2_with (first
      | (go_at_call 49; refine (HE _).mono ?_; rintro e w3 ⟨rfl, hw3⟩; subst hw3)
      | (go_at_call 57; refine HS.mono ?_; rintro e w4 ⟨rfl, hl4, hg4⟩; have lV4 := lV2.only hg4 (by intro e; injection e with e; exact hgb e.symm))
      | ((with_reducible refine wpL_load bv 25 _ 5 rowVal rfl lV4 ?_ ?_); rfl)
      | ((with_reducible refine wpL_store bv 25 #[.int .i64 kd, .int .i64 0, .string ⟨#[]⟩, .slice none 0 0, .slice none 0 0] #[.int .i64 kd, .int .i64 0, .string ⟨#[]⟩, .slice none 0 0, .slice none 0 0] 5 rowVal rfl rfl (valC_one _ _ _ _ _ _ _ _ _) lV4 ?_ ?_ ?_); rfl; rfl))
    have h4 := (h2.seek hg4 hl4 (by omega) (by omega) h.hn).1
    have t4 := t2.trans (h2.drop.seek hg4 hl4 (by omega) (by omega) h.hn).2
    have h5 := (h4.local (grown_row bv #[.int .i64 kd, .int .i64 0, .string ⟨#[]⟩, .slice none 0 0, .slice none 0 0])).1.leave.1
    have t5 := t4.local (grown_row bv #[.int .i64 kd, .int .i64 0, .string ⟨#[]⟩, .slice none 0 0, .slice none 0 0]) (Nat.le_of_eq hbv)
    refine bodyPost_ret (results_row_tmp Tryd.results45 rowVal rfl (lV4.row _) rfl rfl) rfl ?_
    unfold RowPost
    exact .inl ⟨hw, by rw [hkd]; rfl, by omega, h5, t5⟩
  · have HS := skip_no w2 g s (p + 1) n vo (endC map) h2.rd (by omega) hw
    have HW := Lib.hid hw
    clear hw
    go_upto_region 5 with (first
      | (go_at_call 49; refine (HE _).mono ?_; rintro e w3 ⟨rfl, hw3⟩; subst hw3)
      | (go_at_call 57; refine HS.mono ?_; rintro e w4 ⟨rfl, hb4⟩; have h3 := (h2.below hb4).1; have t3 := t2.trans (h2.drop.below hb4).2; have lV3 := lV2.on hb4))
    refine wp_held_any (S := fun w => Lies w bv 25 #[.int .i64 kd, .int .i64 0, .string ⟨#[]⟩, .slice none 0 0, .slice none 0 0]) 5 rfl (by kernel_rfl) ?_
    have hdr : RowKit.Below w4.heap.size w4 { w4 with drawn := w4.drawn + 1 } := (RowKit.Below.refl _ _).drew
    have h4 := (h3.below hdr).1
    have t4 := t3.trans (h3.drop.below hdr).2
    have lV4 := lV3.on hdr
    clear hdr
    generalize ({ w4 with drawn := w4.drawn + 1 } : World) = wd at *
    refine held_put 0 20 (.pointer (some ⟨g, 0, none⟩)) rfl rfl (by kernel_rfl) (by kernel_rfl) (by kernel_rfl) (by kernel_rfl) (fun w hS => rfl) lV4 ?_
    simp only [List.setIfInBounds_toArray, List.set_cons_succ, List.set_cons_zero]
    refine held_put 1 21 (.pointer (some ⟨g, 0, none⟩)) rfl rfl (by kernel_rfl) (by kernel_rfl) (by kernel_rfl) (by kernel_rfl) (fun w hS => rfl) lV4 ?_
    simp only [List.setIfInBounds_toArray, List.set_cons_succ, List.set_cons_zero]
    refine held_put 2 22 (.pointer (some ⟨g, 3, none⟩)) rfl rfl (by kernel_rfl) (by kernel_rfl) (by kernel_rfl) (by kernel_rfl) (fun w hS => rfl) lV4 ?_
    simp only [List.setIfInBounds_toArray, List.set_cons_succ, List.set_cons_zero]
    refine held_put 3 23 (.agg #[.int .i64 kd, .int .i64 0, .string ⟨#[]⟩, .slice none 0 0, .slice none 0 0]) rfl rfl (by kernel_rfl) (by kernel_rfl) (by kernel_rfl) (by kernel_rfl) (fun w hS => run_ldV bv _ _ rfl hS rfl) lV4 ?_
    simp only [List.setIfInBounds_toArray, List.set_cons_succ, List.set_cons_zero]
    refine held_one 4 (by kernel_rfl) (wpOp_call 24 rfl rfl (by kernel_rfl) (by kernel_rfl) ((HP wd (bv :: E) (rest s (p + 1)).length h4 (by rw [rest_len]; exact Nat.le_refl _)).mono ?_))
    rintro e w5 ⟨rfl, v5, h5, t5⟩
    have lV5 := t5.lies h4.out lV4
    have t6 := t4.trans t5
    refine ⟨_, rfl, lV5, ?_⟩
    simp only [List.setIfInBounds_toArray, List.set_cons_succ, List.set_cons_zero]
    refine held_done (by kernel_rfl) ?_
    simp only [Exit.then]
    cases map with
    | false =>
      have HK := key_list w5 g (bv :: E) B s (p + 1) n v5 _ ms h5 rfl
      go_wp2_with (first
        | (go_at_call 48; refine HK.mono ?_; rintro e w6 ⟨rfl, hb6⟩; have h7 := (h5.below hb6).1; have t7 := t6.trans (h5.drop.below hb6).2; have lV7 := lV5.on hb6)
        | ((with_reducible refine wpL_store bv 25 #[.int .i64 kd, .int .i64 0, .string ⟨#[]⟩, .slice none 0 0, .slice none 0 0] valZ 5 rowVal rfl rfl (valC_one _ _ _ _ _ _ _ _ _) lV7 ?_ ?_ ?_); rfl; rfl))
      refine bodyPost_ret (results_row_tmp Tryd.results45 rowVal rfl (lV7.row _) rfl rfl) rfl ?_
      unfold RowPost
      exact .inr (.inl ⟨HW.out, rfl, v5, rfl, (h7.local (grown_row bv valZ)).1.leave.1, t7.local (grown_row bv valZ) (Nat.le_of_eq hbv)⟩)
    | true =>
      cases hR : rdK none (rest s (p + 1)) with
      | bad er =>
        have HK := key_bad h5 rfl (er := er) hR
        have HR := Lib.hid hR
        clear hR
        go_wp2_with (go_at_call 48; refine HK.mono ?_; rintro e w6 ⟨rfl, hb6⟩)
        refine ⟨rfl, ?_⟩
        unfold RowPost
        exact .inr (.inr (.inl ⟨HW.out, rfl, er, HR.out, rfl, (t6.below (fun k hk => (h.core_lt k hk).1) hgw).trans hb6⟩))
      | ok k r =>
        have HK := key_good h5 rfl (k := k) (r := r) hR
        have HR := Lib.hid hR
        clear hR
        go_wp2_with (first
          | (go_at_call 48; refine HK.mono ?_; rintro e w6 ⟨rfl, q, vk, hrq, hpq, hq, h7, t7⟩; have lV7 := t7.lies h5.out lV5; replace t7 := t6.trans t7)
          | ((with_reducible refine wpL_store bv 25 #[.int .i64 kd, .int .i64 0, .string ⟨#[]⟩, .slice none 0 0, .slice none 0 0] valZ 5 rowVal rfl rfl (valC_one _ _ _ _ _ _ _ _ _) lV7 ?_ ?_ ?_); rfl; rfl))
        refine bodyPost_ret (results_row_tmp Tryd.results45 rowVal rfl (lV7.row _) rfl rfl) rfl ?_
        unfold RowPost
        exact .inr (.inr (.inr ⟨HW.out, rfl, k, q, v5, vk, by rw [HR.out, hrq], by omega, hq, rfl, (h7.local (grown_row bv valZ)).1.leave.1, t7.local (grown_row bv valZ) (Nat.le_of_eq hbv)⟩))
end Go.Proofs.YtmbmeidkmhajbaaDoor.V

/- An item put into the innermost list or map that is open. -/
namespace Go.Proofs.YtmbmeidkmhajbaaDoor.V
set_option maxRecDepth 100000
open Go.RowKit Go.Sort Go.Joins

section
variable {w w' : World} {g B p n : Nat} {E : List Nat} {s : ByteArray} {vo : Value} {m : Fm} {ms : List Fm}
theorem dropT (w : World) (g : Nat) (E : List Nat) (vo : Value) (ms : List Fm) : Turn (live g E vo ms) (live g [] vo ms) w w := (Turn.refl _ w).wide (fun k hk => hk) (fun k hk => .inl (by
  simp only [live, List.mem_cons, List.mem_append, List.nil_append] at hk ⊢
  rcases hk with hk | hk
  · exact .inl hk
  · exact .inr (.inr hk)))
theorem St.less (h : St w g E B s p n vo (m :: ms)) (f : Nat) (hf : s.size - p ≤ f) : St w g E B s p n vo (⟨⟨m.fr.map, m.fr.items, m.fr.keys, f⟩, m.vi, m.vk⟩ :: ms) := by
  have hm := h.fm m (by simp)
  refine ⟨h.rd, h.gB, h.Bw, h.er, h.hE, h.own, h.nd, fun m' hm' => ?_, h.hp, h.hs, h.hms, h.hn, fun m' hm' => ?_⟩
  · rcases List.mem_cons.1 hm' with rfl | hm'
    · exact ⟨hm.items, hm.keys, hm.none, hm.few, hm.fewk, hm.short⟩
    · exact h.fm m' (by simp [hm'])
  · rcases List.mem_cons.1 hm' with rfl | hm'
    · exact hf
    · exact h.hf m' (by simp [hm'])
end
theorem after_list' (L : Nat) (fr : Fr) (x : VT) (n : Nat) (r : List UInt8) (hm : fr.map = false) (hk : fr.keys = []) (hf : 0 < fr.f) : fr.after L (.ok (x, n) (44 :: r)) = (Fr.mk fr.map (fr.items ++ [x]) fr.keys (fr.f - 1)).after L (rdV L n r) := by
  obtain ⟨mp, it, ks, f⟩ := fr
  obtain ⟨f, rfl⟩ : ∃ k, f = k + 1 := ⟨f - 1, by simp only at hf; omega⟩
  simp only at hm hk
  subst hm hk
  exact after_list L it f x n r
theorem after_map' (L : Nat) (fr : Fr) (x : VT) (n : Nat) (r : List UInt8) (hm : fr.map = true) (hf : 0 < fr.f) : fr.after L (.ok (x, n) (44 :: r)) = keyed L (fr.items ++ [x]) fr.keys (fr.f - 1) n (rdK fr.keys.getLast? r) := by
  obtain ⟨mp, it, ks, f⟩ := fr
  obtain ⟨f, rfl⟩ : ∃ k, f = k + 1 := ⟨f - 1, by simp only at hf; omega⟩
  simp only at hm
  subst hm
  exact after_map L it ks f x n r
def PutPost (w : World) (g : Nat) (E : List Nat) (B : Nat) (s : ByteArray) (p n : Nat) (vo : Value) (m : Fm) (ms : List Fm) (x : VT) (e : Ending) (w' : World) : Prop :=
  (∃ er, m.fr.after (11 - ms.length) (.ok (x, n) (rest s p)) = .bad er ∧ e = errP er ∧ RowKit.Below g w w') ∨
  (∃ cs t d q vo', m.fr.after (11 - ms.length) (.ok (x, n) (rest s p)) = .ok (t, n) (rest s q) ∧ e = .returned (.tuple #[.agg (List.toArray cs), .bool true]) ∧ p < q ∧ q ≤ s.size ∧ St w' g E B s q n vo' ms ∧ IsVX (live g E vo' ms) w' d cs t ∧ Turn (live g [] vo (m :: ms)) (live g [] vo' ms) w w') ∨
  (∃ m' q, m.fr.after (11 - ms.length) (.ok (x, n) (rest s p)) = m'.fr.after (11 - ms.length) (rdV (11 - ms.length) n (rest s q)) ∧ e = .returned (.tuple #[.agg valZ, .bool false]) ∧ p < q ∧ q ≤ s.size ∧ St w' g E B s q n vo (m' :: ms) ∧ Turn (live g [] vo (m :: ms)) (live g [] vo (m' :: ms)) w w')
set_option maxHeartbeats 12800000 in
theorem putIn_any (w : World) (g : Nat) (E : List Nat) (B : Nat) (s : ByteArray) (p n : Nat) (vo : Value) (m : Fm) (ms : List Fm) (h : St w g E B s p n vo (m :: ms)) (few : m.fr.items.length + 1 ≤ p) (d : Nat) (cs : List Value) (x : VT) (hx : IsVX (live g E vo (m :: ms)) w d cs x) :
    Calls Tryd.prog 33 #[.pointer (some ⟨g, 0, none⟩), .agg cs.toArray] w fun e w' => PutPost w g E B s p n vo m ms x e w' := by
  obtain ⟨sb, cap, hvo, hcap, hr, ⟨C, hC⟩, hne⟩ := below_top h
  have hms := h.hms
  rw [List.length_cons] at hms
  have hs := h.hs
  have hgw : g ≤ w.heap.size := Nat.le_of_lt h.rd.lt
  obtain ⟨ai, ci, ak, ck, hcs⟩ := hx.isV.form
  have hcs5 : cs.length = 5 := by rw [hcs]; rfl
  have hone : ∀ u ∈ cs, u.oneCell' = true := by
    rw [hcs]
    intro u hu
    simp only [List.mem_cons, List.not_mem_nil, or_false] at hu
    rcases hu with rfl | rfl | rfl | rfl | rfl <;> rfl
  -- the box, the variable
  have hb1 := (RowKit.Below.refl w.heap.size w).alloc (Nat.le_refl _) (.cells cs.toArray 25)
  have lX := Lies.new w 25 cs.toArray
  have h1 := (h.enter hb1 (Nat.le_refl _) lX.lt).1
  have T1 := (h.enter hb1 (Nat.le_refl _) lX.lt).2
  have t1 := (h.drop.below hb1).2
  rw [hcs] at h1 T1 t1 lX hb1 ⊢
  go_enter Tryd.func33, Tryd.ntmps33
  go_upto_region 1 with fail
  have hbs : w.heap.size + 1 = (w.alloc (.cells #[.int .i64 x.kind, .int .i64 x.num, .string ⟨x.txt.toArray⟩, .slice ai x.items.length ci, .slice ak x.keys.length ck] 25)).heap.size := by simp
  rw [hbs]
  generalize World.alloc w _ = w1 at *
  have hb2 := (RowKit.Below.refl w1.heap.size w1).alloc (Nat.le_refl _) (.cells valZ 25)
  have lV := Lies.new w1 25 valZ
  have h2 := (h1.enter hb2 (Nat.le_refl _) lV.lt).1
  have T2 := T1.trans (h1.enter hb2 (Nat.le_refl _) lV.lt).2
  have t2 := t1.trans (h1.drop.below hb2).2
  have lX2 := lX.on hb2
  generalize World.alloc w1 _ = w2 at *
  have hbv0 : w.heap.size ≤ w1.heap.size := hb1.size
  have hbxv0 : w.heap.size ≠ w1.heap.size := fun e => by have := lX.lt; omega
  obtain ⟨bv, hbv⟩ : ∃ b, w1.heap.size = b := ⟨_, rfl⟩
  rw [hbv] at h2 T2 lV hbxv0 hbv0 ⊢
  obtain ⟨bx, hbx⟩ : ∃ b, w.heap.size = b := ⟨_, rfl⟩
  rw [hbx] at h2 T2 lX2 hbxv0 hbv0 ⊢
  clear hb1 hb2 h1 T1 t1 lX hbs
  have c3 := rd_c3 h2.rd
  rw [hvo] at c3
  go_upto_region 2 with (go_at_call 46; refine (top_any _ g sb ms.length cap c3 (by omega)).mono ?_; rintro e w3 ⟨rfl, hb3⟩)
  have h3 := (h2.below hb3).1
  have T3 := T2.trans (h2.below hb3).2
  have t3 := t2.trans (h2.drop.below hb3).2
  have lV3 := lV.on hb3
  have lX3 := lX2.on hb3
  have hx3 := hx.turn T3
  obtain ⟨css, hO3, hi3⟩ := (h3.fm m (by simp)).items
  obtain ⟨a, c, hvi, hc1, _⟩ := hO3.form
  rw [hvi] at hO3
  obtain ⟨sb', cap', e3, _, hr3, ⟨C3, hL3⟩, _⟩ := below_top h3
  rw [hvo] at e3
  obtain ⟨rfl, rfl⟩ := slice_inj e3
  have hn : css.length ≤ 100000 := by rw [hi3.1]; have := h.hp; omega
  have hCi : C3[ms.length * 5 + 3]? = some (.slice a css.length c) := by
    have q := hr3 3 (.slice a css.length c) (by unfold Fm.cells; rw [hvi]; rfl)
    exact (hL3.cell _).symm.trans q
  rw [← hcs] at lX3
  have hXE : ∀ b ∈ blks vo ++ (m :: ms).flatMap Fm.blks, b ∉ bv :: bx :: E := h3.sepE
  have hviX : ∀ b ∈ blks (.slice a css.length c), b ∉ bv :: bx :: E := fun b hb => hXE b (List.mem_append_right _ (List.mem_flatMap.2 ⟨m, by simp, List.mem_append_left _ (by rw [hvi]; exact hb)⟩))
  have hbxv : bx ∉ blks (.slice a css.length c) := fun hb => hviX bx hb (by simp)
  have hsbX : sb ∉ bv :: bx :: E := hXE sb (List.mem_append_left _ (by rw [hvo]; simp [blks, Value.ownBlock]))
  have hbxh : bx ≠ sb := fun e => hsbX (by rw [← e]; simp)
  have hbvh : bv ≠ sb := fun e => hsbX (by rw [← e]; simp)
  have hhv : sb ∉ blks (.slice a css.length c) := fun hb => ((h3.sepTop).1 sb (by rw [hvi]; exact hb)).1 (List.mem_cons_of_mem _ (by rw [hvo]; simp [blks, Value.ownBlock]))
  have hbvn : bv ∉ sb :: blks (.slice a css.length c) := fun hb => by
    rcases List.mem_cons.1 hb with hb | hb
    · exact hbvh hb
    · exact hviX bv hb (by simp)
  go_cut [11] from 11 to 21 (fun _ wx => ∃ vi', St wx g (bv :: bx :: E) B s p n vo (⟨⟨m.fr.map, m.fr.items ++ [x], m.fr.keys, m.fr.f⟩, vi', m.vk⟩ :: ms) ∧ Turn (live g [] vo (m :: ms)) (live g [] vo (⟨⟨m.fr.map, m.fr.items ++ [x], m.fr.keys, m.fr.f⟩, vi', m.vk⟩ :: ms)) w wx ∧ Lies wx bv 25 valZ)
  case first =>
    rename_i J1 K1 hJ1 hK1
    refine wp_held_any (S := fun w => Lies w bx 25 cs.toArray) 13 rfl (by kernel_rfl) ?_
    have hdr : RowKit.Below w3.heap.size w3 { w3 with drawn := w3.drawn + 1 } := (RowKit.Below.refl _ _).drew
    have h4 := (h3.below hdr).1
    have t4 := t3.trans (h3.drop.below hdr).2
    have lV4 := lV3.on hdr
    have hS0 := lX3.on hdr
    have hL := hL3.on hdr
    have hO := hO3.on hdr
    have hBw := h4.Bw
    have hiX := hi3.turn (h3.below hdr).2
    have hxX := hx3.turn (h3.below hdr).2
    clear hdr
    generalize ({ w3 with drawn := w3.drawn + 1 } : World) = wd at *
    refine held_put 0 11 (.pointer (some ⟨sb, ms.length * 5, none⟩)) rfl rfl (by kernel_rfl) (by kernel_rfl) (by kernel_rfl) (by kernel_rfl) (fun w hS => rfl) hS0 ?_
    simp only [List.setIfInBounds_toArray, List.set_cons_succ, List.set_cons_zero]
    refine held_put 1 12 (.pointer (some ⟨sb, ms.length * 5, none⟩)) rfl rfl (by kernel_rfl) (by kernel_rfl) (by kernel_rfl) (by kernel_rfl) (fun w hS => rfl) hS0 ?_
    simp only [List.setIfInBounds_toArray, List.set_cons_succ, List.set_cons_zero]
    refine held_put 2 13 (.pointer (some ⟨sb, ms.length * 5 + 3, none⟩)) rfl rfl (by kernel_rfl) (by kernel_rfl) (by kernel_rfl) (by kernel_rfl) (fun w hS => rfl) hS0 ?_
    simp only [List.setIfInBounds_toArray, List.set_cons_succ, List.set_cons_zero]
    refine held_put 4 15 (.agg cs.toArray) rfl rfl (by kernel_rfl) (by kernel_rfl) (by kernel_rfl) (by kernel_rfl) (fun w hS => run_ldV bx _ _ (by simpa using hcs5) hS rfl) hS0 ?_
    simp only [List.setIfInBounds_toArray, List.set_cons_succ, List.set_cons_zero]
    have zA := Lies.new wd 25 #[.int .i64 0, .int .i64 0, .string ⟨#[]⟩, .slice none 0 0, .slice none 0 0]
    have zb : RowKit.Below wd.heap.size wd (wd.alloc (.cells #[.int .i64 0, .int .i64 0, .string ⟨#[]⟩, .slice none 0 0, .slice none 0 0] 25)) := (RowKit.Below.refl _ _).alloc (Nat.le_refl _) _
    refine held_two 3 6 (by kernel_rfl) (wpOp_put 14 (w' := wd) (v := (.slice a css.length c)) rfl rfl (by kernel_rfl) (run_ldR _ _ ((hL.cell (ms.length * 5 + 3)).trans hCi) rfl) ⟨hS0, ?_⟩) (wpOp_put 17 (w' := (wd.alloc (.cells #[.int .i64 0, .int .i64 0, .string ⟨#[]⟩, .slice none 0 0, .slice none 0 0] 25))) (v := .slice (some ⟨wd.heap.size, 0, none⟩) 1 1) rfl rfl (by kernel_rfl) (by kernel_rfl) ⟨hS0.alloc _, ?_⟩)
    focus
      simp only [List.setIfInBounds_toArray, List.set_cons_succ, List.set_cons_zero]
      refine held_put 5 16 (.int .i64 (css.length : Int)) rfl rfl (by kernel_rfl) (by kernel_rfl) (by kernel_rfl) (by kernel_rfl) (fun w hS => run_lenR _ _ _ rfl w) hS0 ?_
      simp only [List.setIfInBounds_toArray, List.set_cons_succ, List.set_cons_zero]
      refine held_one 6 (by kernel_rfl) (wpOp_put 17 (w' := (wd.alloc (.cells #[.int .i64 0, .int .i64 0, .string ⟨#[]⟩, .slice none 0 0, .slice none 0 0] 25))) (v := .slice (some ⟨wd.heap.size, 0, none⟩) 1 1) rfl rfl (by kernel_rfl) (by kernel_rfl) ⟨hS0.alloc _, ?_⟩)
      simp only [List.setIfInBounds_toArray, List.set_cons_succ, List.set_cons_zero]
    rotate_left
    focus
      simp only [List.setIfInBounds_toArray, List.set_cons_succ, List.set_cons_zero]
      refine held_one 3 (by kernel_rfl) (wpOp_put 14 (w' := (wd.alloc (.cells #[.int .i64 0, .int .i64 0, .string ⟨#[]⟩, .slice none 0 0, .slice none 0 0] 25))) (v := (.slice a css.length c)) rfl rfl (by kernel_rfl) (run_ldR _ _ (((hL.alloc _).cell (ms.length * 5 + 3)).trans hCi) rfl) ⟨hS0.alloc _, ?_⟩)
      simp only [List.setIfInBounds_toArray, List.set_cons_succ, List.set_cons_zero]
      refine held_put 5 16 (.int .i64 (css.length : Int)) rfl rfl (by kernel_rfl) (by kernel_rfl) (by kernel_rfl) (by kernel_rfl) (fun w hS => run_lenR _ _ _ rfl w) (hS0.alloc _) ?_
      simp only [List.setIfInBounds_toArray, List.set_cons_succ, List.set_cons_zero]
    all_goals
      have hSz := hS0.alloc (.cells #[.int .i64 0, .int .i64 0, .string ⟨#[]⟩, .slice none 0 0, .slice none 0 0] 25)
      have hOz := hO.on zb
      have hLz := hL.alloc (.cells #[.int .i64 0, .int .i64 0, .string ⟨#[]⟩, .slice none 0 0, .slice none 0 0] 25)
      have hBz : B ≤ (wd.alloc (.cells #[.int .i64 0, .int .i64 0, .string ⟨#[]⟩, .slice none 0 0, .slice none 0 0] 25)).heap.size := Nat.le_trans hBw zb.size
      have hgz := World.grownBy_alloc wd (.cells #[.int .i64 0, .int .i64 0, .string ⟨#[]⟩, .slice none 0 0, .slice none 0 0] 25) (Value.slice a css.length c).ownBlock
      generalize (wd.alloc (.cells #[.int .i64 0, .int .i64 0, .string ⟨#[]⟩, .slice none 0 0, .slice none 0 0] 25)) = wz at *
      refine held_one 7 (by kernel_rfl) (wpOp_lawD 18 rfl rfl (by kernel_rfl) (wpL_roomV B _ css wd.heap.size hOz zA hn hBz rfl rfl ?_))
      intro b cap w7 hown7 hgr7 hloc7
      have hloc := loc_of (n := css.length + 1) (cap := cap) hloc7 zb.size
      have hbb : bx ≠ b := loc_ne hloc hbxv hS0.lt
      have hhb : sb ≠ b := loc_ne hloc hhv hL.lt
      have hS7 := hSz.only hgr7 (own_ne hbxv)
      have hL7 := hLz.only hgr7 (own_ne hhv)
      have hg7 := grown_two hgz hgr7
      refine ⟨hS7, ?_⟩
      simp only [Act.put, List.setIfInBounds_toArray, List.set_cons_succ, List.set_cons_zero]
      refine held_put 8 19 (.pointer (some ⟨b, css.length * 5, none⟩)) rfl rfl (by kernel_rfl) (by kernel_rfl) (by kernel_rfl) (by kernel_rfl) (fun w hS => run_idxV b _ _ _ (by omega) rfl rfl) hS7 ?_
      simp only [List.setIfInBounds_toArray, List.set_cons_succ, List.set_cons_zero]
      refine held_put 10 20 (.pointer (some ⟨sb, ms.length * 5, none⟩)) rfl rfl (by kernel_rfl) (by kernel_rfl) (by kernel_rfl) (by kernel_rfl) (fun w hS => rfl) hS7 ?_
      simp only [List.setIfInBounds_toArray, List.set_cons_succ, List.set_cons_zero]
      refine held_put 11 21 (.pointer (some ⟨sb, ms.length * 5 + 3, none⟩)) rfl rfl (by kernel_rfl) (by kernel_rfl) (by kernel_rfl) (by kernel_rfl) (fun w hS => rfl) hS7 ?_
      simp only [List.setIfInBounds_toArray, List.set_cons_succ, List.set_cons_zero]
      obtain ⟨b2, cap2, cur, e2, hB2, hh7, hsz7, hcap7, _, hfill⟩ := hown7.fill
      obtain ⟨rfl, rfl⟩ := slice_inj e2
      refine held_two 9 12 (by kernel_rfl) (wpOp_skpN rfl rfl (by kernel_rfl) (run_stV cs (hh7) hcs5 (by omega) hone rfl rfl) ⟨hS7.rowFar hbb _, ?_⟩) (wpOp_skpN rfl rfl (by kernel_rfl) (run_stR _ _ _ _ _ ((hL7.cell (ms.length * 5 + 3)).trans hCi) (hL7.frozen (ms.length * 5 + 3)) rfl rfl) ⟨hS7.far hbxh _, ?_⟩)
      focus
        refine held_one 12 (by kernel_rfl) (wpOp_skpN rfl rfl (by kernel_rfl) (run_stR _ _ _ _ _ (((hL7.rowFar hhb _).cell (ms.length * 5 + 3)).trans hCi) ((hL7.rowFar hhb _).frozen (ms.length * 5 + 3)) rfl rfl) ⟨(hS7.rowFar hbb _).far hbxh _, ?_⟩)
        have PD := put_first (i := (ms.length * 5 + 3)) hg7 rfl hloc hL.lt hhv hhb hh7 (fun w2 h2 => hfill w2 cs hcs5 h2)
      rotate_left
      focus
        refine held_one 9 (by kernel_rfl) (wpOp_skpN rfl rfl (by kernel_rfl) (run_stV cs ((heap_setCell_other _ ⟨sb, (ms.length * 5 + 3), none⟩ _ _ (fun e => hhb e.symm)).trans hh7) hcs5 (by omega) hone rfl rfl) ⟨(hS7.far hbxh _).rowFar hbb _, ?_⟩)
        have PD := put_last (i := (ms.length * 5 + 3)) hg7 rfl hloc hL.lt hhv hhb hh7 (fun w2 h2 => hfill w2 cs hcs5 h2)
      all_goals
        refine held_done (by kernel_rfl) ?_
        simp only [Exit.then]
        refine hK1 _ _ (Met.intro (hJ1 _ _ ⟨_, _, _, _, _, _, _, _, _, _, _, ?_, rfl⟩))
        rw [← hvi] at PD
        have h5 := (h4.item hiX hxX hvo few PD).1
        have t5 := t4.trans (h4.drop.item (hiX.turn (dropT wd g _ vo (m :: ms))) (hxX.turn (dropT wd g _ vo (m :: ms))) hvo few PD).2
        have lV5 := PD.turn.lies (by rw [hvi]; exact hbvn) lV4
        exact ⟨_, h5, t5, lV5⟩
  obtain ⟨vi', h5, t5, lV5⟩ := hcut
  clear hcs T2 T3 h2 h3 lX2 lX3 lV lV3 hx3 hO3 hi3 hL3 hr3 hCi hXE hviX hbxv hsbX hhv hbvn t2 t3 hb3 c3
  have hpos : p < s.size → 0 < m.fr.f := fun hlt => by have := h.hf m (by simp); omega
  have hgb : g ≠ bv := fun e => h5.out (by rw [← e]; simp [live])
  have fin : ∀ (w6 : World) (vo' : Value) (ms' : List Fm) (q : Nat) (C6 cc : Array Value), St w6 g (bv :: bx :: E) B s q n vo' ms' → Turn (live g [] vo (m :: ms)) (live g [] vo' ms') w w6 → Lies w6 bv 25 C6 →
      St (w6.setRow bv cc) g E B s q n vo' ms' ∧ Turn (live g [] vo (m :: ms)) (live g [] vo' ms') w (w6.setRow bv cc) ∧ Turn (live g (bv :: bx :: E) vo' ms') (live g E vo' ms') w6 (w6.setRow bv cc) := by
    intro w6 vo' ms' q C6 cc h6 t6 _
    have h7 := h6.local (grown_row bv cc)
    have h8 := h7.1.leave
    have h9 := h8.1.leave
    exact ⟨h9.1, t6.local (grown_row bv cc) (by omega), (h7.2.trans h8.2).trans h9.2⟩
  by_cases hlt : p < s.size
  case neg =>
    obtain rfl : p = s.size := by have := h.hp; omega
    have HX := Lib.hid (show m.fr.after (11 - ms.length) (.ok (x, n) (rest s s.size)) = .bad 3 by rw [rest_none, after_end])
    go_wp2_with (go_at_call 47; refine (take_short _ g s n vo h5.rd).mono ?_; rintro e w6 ⟨rfl, hb6⟩)
    refine ⟨rfl, ?_⟩
    unfold PutPost
    exact .inl ⟨3, HX.out, rfl, (t5.below (fun k hk => (h.core_lt k hk).1) hgw).trans (hb6.mono (Nat.le_trans hgw t5.size))⟩
  obtain ⟨c0, hc0⟩ : ∃ c, s[p] = c := ⟨_, rfl⟩
  have hrc := rest_cons hlt
  rw [hc0] at hrc
  have HT := take_ok wc g s p n vo h5.rd hlt hs
  rw [hc0] at HT
  clear hc0
  by_cases h44 : c0 = 44
  · subst h44
    have HT : Calls Tryd.prog 47 #[.pointer (some ⟨g, 0, none⟩)] wc fun e w' => e = .returned (.int .u8 44) ∧ Lies w' g 55 (rdC s (p + 1) n vo) ∧ wc.grownBy w' (some g) := HT
    go_upto_region 5 with (go_at_call 47; refine HT.mono ?_; rintro e w6 ⟨rfl, hl6, hg6⟩)
    have h6 := (h5.seek hg6 hl6 (by omega) (by omega) h.hn).1
    have t6 := t5.trans (h5.drop.seek hg6 hl6 (by omega) (by omega) h.hn).2
    have lV6 := lV5.only hg6 (by intro e; injection e with e; exact hgb e.symm)
    have h6 := h6.less (m.fr.f - 1) (by have := h.hf m (by simp); omega)
    cases hmap : m.fr.map with
    | false =>
      have hkn := (h.fm m (by simp)).none hmap
      have HX := Lib.hid (show m.fr.after (11 - ms.length) (.ok (x, n) (rest s p)) = (Fr.mk m.fr.map (m.fr.items ++ [x]) m.fr.keys (m.fr.f - 1)).after (11 - ms.length) (rdV (11 - ms.length) n (rest s (p + 1))) by rw [hrc]; exact after_list' _ _ _ _ _ hmap hkn (hpos hlt))
      have HK := key_list w6 g (bv :: bx :: E) B s (p + 1) n vo _ ms h6 hmap
      clear hrc HT hkn
      go_wp2_with (first
        | (go_at_call 48; refine HK.mono ?_; rintro e w7 ⟨rfl, hb7⟩; have h7 := (h6.below hb7).1; have t7 := t6.trans (h6.drop.below hb7).2; have lV7 := lV6.on hb7)
        | ((with_reducible refine wpL_store bv 25 valZ valZ 5 rowVal rfl rfl (valC_one _ _ _ _ _ _ _ _ _) lV7 ?_ ?_ ?_); rfl; rfl))
      obtain ⟨h8, t8, _⟩ := fin _ _ _ _ _ valZ h7 t7 lV7
      refine bodyPost_ret (results_row_tmp Tryd.results33 rowVal rfl (lV7.row _) rfl rfl) rfl ?_
      unfold PutPost
      exact .inr (.inr ⟨_, p + 1, HX.out, rfl, by omega, by omega, h8, t8⟩)
    | true =>
      have HX := Lib.hid (show m.fr.after (11 - ms.length) (.ok (x, n) (rest s p)) = keyed (11 - ms.length) (m.fr.items ++ [x]) m.fr.keys (m.fr.f - 1) n (rdK m.fr.keys.getLast? (rest s (p + 1))) by rw [hrc]; exact after_map' _ _ _ _ _ hmap (hpos hlt))
      cases hR : rdK m.fr.keys.getLast? (rest s (p + 1)) with
      | bad er =>
        have HX := Lib.hid (HX.out.trans (by rw [hR]; rfl) : m.fr.after (11 - ms.length) (.ok (x, n) (rest s p)) = .bad er)
        have HK := key_bad h6 hmap (er := er) hR
        clear hrc HT hR
        go_wp2_with (go_at_call 48; refine HK.mono ?_; rintro e w7 ⟨rfl, hb7⟩)
        refine ⟨rfl, ?_⟩
        unfold PutPost
        exact .inl ⟨er, HX.out, rfl, (t6.below (fun k hk => (h.core_lt k hk).1) hgw).trans hb7⟩
      | ok k r =>
        have HK := key_good h6 hmap (k := k) (r := r) hR
        have HX := Lib.hid (HX.out.trans (by rw [hR]; rfl) : m.fr.after (11 - ms.length) (.ok (x, n) (rest s p)) = (Fr.mk true (m.fr.items ++ [x]) (m.fr.keys ++ [k]) (m.fr.f - 1)).after (11 - ms.length) (rdV (11 - ms.length) n r))
        clear hrc HT hR
        go_wp2_with (first
          | (go_at_call 48; refine HK.mono ?_; rintro e w7 ⟨rfl, q, vk, hrq, hpq, hq, h7, t7⟩; have lV7 := t7.lies h6.out lV6; replace t7 := t6.trans t7)
          | ((with_reducible refine wpL_store bv 25 valZ valZ 5 rowVal rfl rfl (valC_one _ _ _ _ _ _ _ _ _) lV7 ?_ ?_ ?_); rfl; rfl))
        obtain ⟨h8, t8, _⟩ := fin _ _ _ _ _ valZ h7 t7 lV7
        refine bodyPost_ret (results_row_tmp Tryd.results33 rowVal rfl (lV7.row _) rfl rfl) rfl ?_
        unfold PutPost
        exact .inr (.inr ⟨_, q, by rw [HX.out, hrq, hmap], rfl, by omega, hq, h8, t8⟩)
  · have e44 : ((c0.toNat : Int) == 44) = false := by rw [beq_eq_false_iff_ne]; exact byte_ne h44
    obtain ⟨kd, hkd⟩ : ∃ kd, m.fr.kind = kd := ⟨_, rfl⟩
    have HE : ∀ w, Calls Tryd.prog 49 #[.int .i64 kd] w fun e w' => e = .returned (.int .u8 ((endC m.fr.map).toNat : Int)) ∧ w' = w := by
      rw [← hkd]; exact endOf_any m.fr.map
    have hlast : m.fr.last = endC m.fr.map := rfl
    have hkr : ∀ w6 q (h6 : St w6 g (bv :: bx :: E) B s q n vo (⟨⟨m.fr.map, m.fr.items ++ [x], m.fr.keys, m.fr.f⟩, vi', m.vk⟩ :: ms)), w6.cell? ⟨sb, ms.length * 5, none⟩ = some (.int .i64 kd) := by
      intro w6 q h6
      obtain ⟨sb', cap', e3, _, hr6, _, _⟩ := below_top h6
      rw [hvo] at e3
      obtain ⟨rfl, rfl⟩ := slice_inj e3
      have q0 := hr6 0 (.int .i64 kd) (by unfold Fm.cells; rw [← hkd]; rfl)
      rwa [Nat.add_zero] at q0
    by_cases hl : c0 = endC m.fr.map
    · have HX := Lib.hid (show m.fr.after (11 - ms.length) (.ok (x, n) (rest s p)) = .ok (.mk m.fr.kind 0 [] (m.fr.items ++ [x]) m.fr.keys, n) (rest s (p + 1)) by rw [hrc, hl, ← hlast]; exact after_close _ _ _ _ _)
      have eL : ((c0.toNat : Int) == ((endC m.fr.map).toNat : Int)) = true := by rw [hl]; simp
      generalize ((endC m.fr.map).toNat : Int) = ec at *
      clear hrc hl hlast
      go_upto_region 7 with (go_at_call 47; refine HT.mono ?_; rintro e w6 ⟨rfl, hl6, hg6⟩; have h6 := (h5.seek hg6 hl6 (by omega) (by omega) h.hn).1; have t6 := t5.trans (h5.drop.seek hg6 hl6 (by omega) (by omega) h.hn).2; have lV6 := lV5.only hg6 (by intro e; injection e with e; exact hgb e.symm))
      have q6 := hkr _ _ h6
      have HPo := pop_any w6 g (bv :: bx :: E) B s (p + 1) n vo _ ms h6
      have hfm := h6.fm _ (List.mem_cons_self ..)
      obtain ⟨ics', hio', _⟩ := hfm.items
      obtain ⟨ai', ci', hvi', _⟩ := hio'.form
      obtain ⟨ak', ck', hvk', _⟩ := hfm.keys.form
      have hvi' : vi' = .slice ai' ics'.length ci' := hvi'
      have hcc : (Fm.mk ⟨m.fr.map, m.fr.items ++ [x], m.fr.keys, m.fr.f⟩ vi' m.vk).cells = [.int .i64 kd, .int .i64 0, .string ⟨#[]⟩, vi', m.vk] := by unfold Fm.cells; rw [← hkd]; rfl
      have hon : Ones (Fm.mk ⟨m.fr.map, m.fr.items ++ [x], m.fr.keys, m.fr.f⟩ vi' m.vk).cells.toArray := by
        rw [hcc, hvi', hvk']
        exact valC_one _ _ _ _ _ _ _ _ _
      have hc5 : (Fm.mk ⟨m.fr.map, m.fr.items ++ [x], m.fr.keys, m.fr.f⟩ vi' m.vk).cells.toArray.size = 5 := rfl
      generalize hcv : (Fm.mk ⟨m.fr.map, m.fr.items ++ [x], m.fr.keys, m.fr.f⟩ vi' m.vk).cells = cv at *
      clear hcc hio' hfm HT hkr hvi' hvk'
      go_wp2_with (first
        | (go_at_call 49; refine (HE _).mono ?_; rintro e w7 ⟨rfl, hw7⟩; subst hw7)
        | (go_at_call 50; refine HPo.mono ?_; rintro e w8 ⟨rfl, vo', h8, t8, d8, hx8⟩; have lV8 := t8.lies h6.out lV6; replace t8 := t6.trans t8)
        | ((with_reducible refine wpL_store bv 25 valZ cv.toArray 5 rowVal rfl hc5 hon lV8 ?_ ?_ ?_); rfl; rfl))
      obtain ⟨h9, t9, T9⟩ := fin _ _ _ _ _ cv.toArray h8 t8 lV8
      refine bodyPost_ret (results_row_tmp Tryd.results33 rowVal hc5 (lV8.row _) rfl rfl) rfl ?_
      unfold PutPost
      exact .inr (.inl ⟨cv, _, d8, p + 1, vo', HX.out, rfl, by omega, by omega, h9, hx8.turn T9, t9⟩)
    · have HX := Lib.hid (show m.fr.after (11 - ms.length) (.ok (x, n) (rest s p)) = .bad 20 by rw [hrc]; exact after_odd _ _ _ _ _ (by rw [hlast]; exact hl) h44)
      have eL : ((c0.toNat : Int) == ((endC m.fr.map).toNat : Int)) = false := by rw [beq_eq_false_iff_ne]; exact byte_ne hl
      generalize ((endC m.fr.map).toNat : Int) = ec at *
      clear hrc hl hlast
      go_upto_region 7 with (go_at_call 47; refine HT.mono ?_; rintro e w6 ⟨rfl, hl6, hg6⟩; have h6 := (h5.seek hg6 hl6 (by omega) (by omega) h.hn).1; have t6 := t5.trans (h5.drop.seek hg6 hl6 (by omega) (by omega) h.hn).2)
      have q6 := hkr _ _ h6
      clear HT hkr
      go_wp2_with (go_at_call 49; refine (HE _).mono ?_; rintro e w7 ⟨rfl, hw7⟩; subst hw7)
      refine ⟨rfl, ?_⟩
      unfold PutPost
      exact .inl ⟨20, HX.out, rfl, t6.below (fun k hk => (h.core_lt k hk).1) hgw⟩
end Go.Proofs.YtmbmeidkmhajbaaDoor.V

/- A value begins: read whole where nothing stands in it, or opened. -/
namespace Go.Proofs.YtmbmeidkmhajbaaDoor.V
set_option maxRecDepth 100000
open Go.RowKit Go.Sort Go.Joins

theorem isVX_num (X : List Nat) (w : World) {z : Int} (hz : -9223372036854775808 ≤ z ∧ z ≤ 9223372036854775807) : IsVX X w 1 [.int .i64 1, .int .i64 z, .string ⟨#[]⟩, .slice none 0 0, .slice none 0 0] (.mk 1 z [] [] []) :=
  ⟨_, _, rfl, ⟨(show (-9223372036854775808 : Int) ≤ 1 ∧ (1 : Int) ≤ 9223372036854775807 by decide), hz, Nat.zero_le _, fun x h => by cases h⟩, Strs.nil w, RowC.nil w 5 _, fun h => absurd h (Nat.lt_irrefl 0), fun h => absurd h (Nat.lt_irrefl 0)⟩
theorem isVX_txt (X : List Nat) (w : World) {k : List UInt8} (hk : k.length ≤ maxLen) : IsVX X w 1 [.int .i64 2, .int .i64 0, .string ⟨k.toArray⟩, .slice none 0 0, .slice none 0 0] (.mk 2 0 k [] []) :=
  ⟨_, _, rfl, ⟨(show (-9223372036854775808 : Int) ≤ 2 ∧ (2 : Int) ≤ 9223372036854775807 by decide), (show (-9223372036854775808 : Int) ≤ 0 ∧ (0 : Int) ≤ 9223372036854775807 by decide), hk, fun x h => by cases h⟩, Strs.nil w, RowC.nil w 5 _, fun h => absurd h (Nat.lt_irrefl 0), fun h => absurd h (Nat.lt_irrefl 0)⟩
theorem isVX_none (X : List Nat) (w : World) (k : Int) (hk : k = 3 ∨ k = 4) : IsVX X w 1 [.int .i64 k, .int .i64 0, .string ⟨#[]⟩, .slice none 0 0, .slice none 0 0] (.mk k 0 [] [] []) :=
  ⟨_, _, rfl, ⟨(show -9223372036854775808 ≤ k ∧ k ≤ 9223372036854775807 by omega), (show (-9223372036854775808 : Int) ≤ 0 ∧ (0 : Int) ≤ 9223372036854775807 by decide), Nat.zero_le _, fun x h => by cases h⟩, Strs.nil w, RowC.nil w 5 _, fun h => absurd h (Nat.lt_irrefl 0), fun h => absurd h (Nat.lt_irrefl 0)⟩
section
variable {w : World} {g B p n : Nat} {E : List Nat} {s : ByteArray} {vo : Value} {ms : List Fm} (h : St w g E B s p n vo ms) (map : Bool) (hp : p < s.size) (hms : ms.length < 12)
include h hp hms
theorem row_whole (hw : (rest s (p + 1)).head? = some (endC map)) : Calls Tryd.prog 45 #[.pointer (some ⟨g, 0, none⟩), .int .i64 (Fr.kind ⟨map, [], [], 0⟩)] w fun e w' => e = .returned (.tuple #[.agg #[.int .i64 (Fr.kind ⟨map, [], [], 0⟩), .int .i64 0, .string ⟨#[]⟩, .slice none 0 0, .slice none 0 0], .bool true]) ∧ p + 2 ≤ s.size ∧ St w' g E B s (p + 2) n vo ms ∧ Turn (live g [] vo ms) (live g [] vo ms) w w' := by
  refine (row_any w g E B s p n vo ms h map hp hms).mono ?_
  rintro e w' (⟨_, h1, h2, h3, h4⟩ | ⟨h1, _⟩ | ⟨h1, _⟩ | ⟨h1, _⟩)
  · exact ⟨h1, h2, h3, h4⟩
  · exact absurd hw h1
  · exact absurd hw h1
  · exact absurd hw h1
theorem row_open (hw : (rest s (p + 1)).head? ≠ some (endC map)) (hm : map = false) : Calls Tryd.prog 45 #[.pointer (some ⟨g, 0, none⟩), .int .i64 (Fr.kind ⟨map, [], [], 0⟩)] w fun e w' => e = .returned (.tuple #[.agg valZ, .bool false]) ∧ ∃ v'', St w' g E B s (p + 1) n v'' (⟨⟨false, [], [], (rest s (p + 1)).length⟩, .slice none 0 0, .slice none 0 0⟩ :: ms) ∧ Turn (live g [] vo ms) (live g [] v'' (⟨⟨false, [], [], (rest s (p + 1)).length⟩, .slice none 0 0, .slice none 0 0⟩ :: ms)) w w' := by
  refine (row_any w g E B s p n vo ms h map hp hms).mono ?_
  rintro e w' (⟨h1, _⟩ | ⟨_, _, v'', h1, h2, h3⟩ | ⟨_, h1, _⟩ | ⟨_, h1, _⟩)
  · exact absurd h1 hw
  · exact ⟨h1, v'', h2, h3⟩
  · rw [hm] at h1; cases h1
  · rw [hm] at h1; cases h1
theorem row_bad (hw : (rest s (p + 1)).head? ≠ some (endC map)) (hm : map = true) {er : Int} (hR : rdK none (rest s (p + 1)) = .bad er) : Calls Tryd.prog 45 #[.pointer (some ⟨g, 0, none⟩), .int .i64 (Fr.kind ⟨map, [], [], 0⟩)] w fun e w' => e = errP er ∧ RowKit.Below g w w' := by
  refine (row_any w g E B s p n vo ms h map hp hms).mono ?_
  rintro e w' (⟨h1, _⟩ | ⟨_, h1, _⟩ | ⟨_, _, er', h1, h2, h3⟩ | ⟨_, _, k, q, v'', vk, h1, _⟩)
  · exact absurd h1 hw
  · rw [hm] at h1; cases h1
  · rw [hR] at h1; cases h1; exact ⟨h2, h3⟩
  · rw [hR] at h1; cases h1
theorem row_key (hw : (rest s (p + 1)).head? ≠ some (endC map)) (hm : map = true) {k r : List UInt8} (hR : rdK none (rest s (p + 1)) = .ok k r) : Calls Tryd.prog 45 #[.pointer (some ⟨g, 0, none⟩), .int .i64 (Fr.kind ⟨map, [], [], 0⟩)] w fun e w' => e = .returned (.tuple #[.agg valZ, .bool false]) ∧ ∃ q v'' vk, r = rest s q ∧ p + 1 < q ∧ q ≤ s.size ∧ St w' g E B s q n v'' (⟨⟨true, [], [k], (rest s (p + 1)).length⟩, .slice none 0 0, vk⟩ :: ms) ∧
    Turn (live g [] vo ms) (live g [] v'' (⟨⟨true, [], [k], (rest s (p + 1)).length⟩, .slice none 0 0, vk⟩ :: ms)) w w' := by
  refine (row_any w g E B s p n vo ms h map hp hms).mono ?_
  rintro e w' (⟨h1, _⟩ | ⟨_, h1, _⟩ | ⟨_, _, er', h1, h2, h3⟩ | ⟨_, _, k', q, v'', vk, h1, h2, h3, h4, h5, h6⟩)
  · exact absurd h1 hw
  · rw [hm] at h1; cases h1
  · rw [hR] at h1; cases h1
  · rw [hR] at h1; cases h1; exact ⟨h4, q, v'', vk, rfl, h2, h3, h5, h6⟩
end
def BegPost (w : World) (g : Nat) (E : List Nat) (B : Nat) (s : ByteArray) (p n : Nat) (vo : Value) (ms : List Fm) (e : Ending) (w' : World) : Prop :=
  (∃ er, rdV (12 - ms.length) n (rest s p) = .bad er ∧ e = errP er ∧ RowKit.Below g w w') ∨
  (∃ cs t d q, rdV (12 - ms.length) n (rest s p) = .ok (t, n + 1) (rest s q) ∧ e = .returned (.tuple #[.agg (List.toArray cs), .bool true]) ∧ p < q ∧ q ≤ s.size ∧ St w' g E B s q (n + 1) vo ms ∧ IsVX (live g E vo ms) w' d cs t ∧ Turn (live g [] vo ms) (live g [] vo ms) w w') ∨
  (∃ m' q v'', rdV (12 - ms.length) n (rest s p) = m'.fr.after (11 - ms.length) (rdV (11 - ms.length) (n + 1) (rest s q)) ∧ e = .returned (.tuple #[.agg valZ, .bool false]) ∧ p < q ∧ q ≤ s.size ∧ St w' g E B s q (n + 1) v'' (m' :: ms) ∧ Turn (live g [] vo ms) (live g [] v'' (m' :: ms)) w w')
set_option maxHeartbeats 25600000 in
theorem begin_any (w : World) (g : Nat) (E : List Nat) (B : Nat) (s : ByteArray) (p n : Nat) (vo : Value) (ms : List Fm) (h : St w g E B s p n vo ms) :
    Calls Tryd.prog 31 #[.pointer (some ⟨g, 0, none⟩)] w fun e w' => BegPost w g E B s p n vo ms e w' := by
  have hs := h.hs
  have hgw : g ≤ w.heap.size := Nat.le_of_lt h.rd.lt
  have hmsl := h.hms
  obtain ⟨a, c, hvo, hcc⟩ := h.form
  have hba := (RowKit.Below.refl w.heap.size w).alloc (Nat.le_refl _) (.cells valZ 25)
  have lV := Lies.new w 25 valZ
  have h0 := (h.enter hba (Nat.le_refl _) lV.lt).1
  have t0 := (h.drop.below hba).2
  have l0 := h0.rd
  by_cases h12 : ms.length = 12
  · have HX := Lib.hid (show rdV (12 - ms.length) n (rest s p) = .bad 21 by rw [h12]; exact begin_deep _ _)
    rw [hvo, h12] at l0
    go_enter Tryd.func31, Tryd.ntmps31
    go_wp2_with (go_at_call 39; refine (may_deep _ g s p n a c l0).mono ?_; rintro e w1 ⟨rfl, rfl⟩)
    refine ⟨rfl, ?_⟩
    unfold BegPost
    exact .inl ⟨21, HX.out, rfl, hba.mono hgw⟩
  have hms : ms.length < 12 := by omega
  have hL : 12 - ms.length = (11 - ms.length) + 1 := by omega
  by_cases hn : n = 2000
  · have HX := Lib.hid (show rdV (12 - ms.length) n (rest s p) = .bad 22 by rw [hL, hn]; exact begin_many _ _)
    rw [hvo, hn] at l0
    go_enter Tryd.func31, Tryd.ntmps31
    go_wp2_with (go_at_call 39; refine (may_many _ g s p _ a c l0 hms).mono ?_; rintro e w1 ⟨rfl, rfl⟩)
    refine ⟨rfl, ?_⟩
    unfold BegPost
    exact .inl ⟨22, HX.out, rfl, hba.mono hgw⟩
  have hn2 : n < 2000 := by have := h.hn; omega
  have HM : Calls Tryd.prog 39 #[.pointer (some ⟨g, 0, none⟩)] (w.alloc (.cells valZ 25)) fun e w' => e = .returned (.tuple #[]) ∧ St w' g (w.heap.size :: E) B s p (n + 1) vo ms ∧ Turn (live g [] vo ms) (live g [] vo ms) w w' ∧ Lies w' w.heap.size 25 valZ := by
    have l1 := l0
    rw [hvo] at l1
    refine (may_ok _ g s p n _ a c l1 hms hn2).mono ?_
    rintro e w1 ⟨h1, h2, h3⟩
    rw [← hvo] at h2
    have h4 := h0.seek h3 h2 (Nat.le_refl _) h.hp (by omega)
    have h5 := h0.drop.seek h3 h2 (Nat.le_refl _) h.hp (by omega)
    exact ⟨h1, h4.1, t0.trans h5.2, lV.only h3 (by intro e; injection e with e; have := h.rd.lt; omega)⟩
  clear h0 t0 l0 lV
  obtain ⟨bv, hbv⟩ : ∃ b, w.heap.size = b := ⟨_, rfl⟩
  have fin : ∀ (w6 : World) (vo' : Value) (ms' : List Fm) (q n' : Nat) (cc : Array Value), St w6 g (bv :: E) B s q n' vo' ms' → Turn (live g [] vo ms) (live g [] vo' ms') w w6 →
      St (w6.setRow bv cc) g E B s q n' vo' ms' ∧ Turn (live g [] vo ms) (live g [] vo' ms') w (w6.setRow bv cc) ∧ Turn (live g (bv :: E) vo' ms') (live g E vo' ms') w6 (w6.setRow bv cc) := by
    intro w6 vo' ms' q n' cc h6 t6
    have h7 := h6.local (grown_row bv cc)
    have h8 := h7.1.leave
    exact ⟨h8.1, t6.local (grown_row bv cc) (by omega), h7.2.trans h8.2⟩
  by_cases hlt : p < s.size
  case neg =>
    obtain rfl : p = s.size := by have := h.hp; omega
    have HX := Lib.hid (show rdV (12 - ms.length) n (rest s s.size) = .bad 3 by rw [hL, rest_none]; exact begin_none _ _ hn)
    go_enter Tryd.func31, Tryd.ntmps31
    go_wp2_with (first
      | (go_at_call 39; refine HM.mono ?_; rintro e w1 ⟨rfl, h1, t1, lV1⟩)
      | (go_at_call 40; refine (here_short _ g s _ vo h1.rd).mono ?_; rintro e w2 ⟨rfl, hb2⟩))
    refine ⟨rfl, ?_⟩
    unfold BegPost
    exact .inl ⟨3, HX.out, rfl, (t1.below (fun k hk => (h.core_lt k hk).1) hgw).trans (hb2.mono (Nat.le_of_lt h1.rd.lt))⟩
  obtain ⟨c0, hc0⟩ : ∃ c, s[p] = c := ⟨_, rfl⟩
  have hrc := rest_cons hlt
  rw [hc0] at hrc
  have HH := fun w1 h1 => here_ok w1 g s p (n + 1) vo h1 hlt
  rw [hc0] at HH
  have HD := isDigit_any c0
  rw [hbv] at HM
  have hbel : ∀ {X' : List Nat} {w' : World}, Turn (live g [] vo ms) X' w w' → RowKit.Below g w w' := fun ht => ht.below (fun k hk => (h.core_lt k hk).1) hgw
  by_cases h45 : c0 = 45
  · have e45 : ((c0.toNat : Int) == 45) = true := by rw [h45]; rfl
    cases hR : rdN (c0 :: rest s (p + 1)) with
    | bad er =>
      have HX := Lib.hid (show rdV (12 - ms.length) n (rest s p) = .bad er by rw [hL, hrc, begin_num _ _ _ hn (.inl h45), hR]; rfl)
      rw [← hrc] at hR
      have HR := Lib.hid hR
      clear hrc hR hc0
      go_enter Tryd.func31, Tryd.ntmps31
      go_upto_region 1 with fail
      try rw [hbv]
      go_wp2_with (first
        | (go_at_call 39; refine HM.mono ?_; rintro e w1 ⟨rfl, h1, t1, lV1⟩)
        | (go_at_call 40; refine (HH _ h1.rd).mono ?_; rintro e w2 ⟨rfl, hb2⟩; have h2 := (h1.below hb2).1; have t2 := t1.trans (h1.drop.below hb2).2; have lV2 := lV1.on hb2)
        | (go_at_call 43; refine (number_bad h2.rd hlt hs h2.er.1 h2.er.2 HR.out).mono ?_; rintro e w5 ⟨rfl, hg5⟩))
      refine ⟨rfl, ?_⟩
      unfold BegPost
      exact .inl ⟨er, HX.out, rfl, (hbel t2).trans (below_grown hg5 (Nat.le_of_lt h2.rd.lt))⟩
    | ok z r =>
      have HX := Lib.hid (show rdV (12 - ms.length) n (rest s p) = .ok (.mk 1 z [] [] [], n + 1) r by rw [hL, hrc, begin_num _ _ _ hn (.inl h45), hR]; rfl)
      have hzb := (rdN_ok hR).2.1
      rw [← hrc] at hR
      have HR := Lib.hid hR
      clear hrc hR hc0
      go_enter Tryd.func31, Tryd.ntmps31
      go_upto_region 1 with fail
      try rw [hbv]
      go_wp2_with (first
        | (go_at_call 39; refine HM.mono ?_; rintro e w1 ⟨rfl, h1, t1, lV1⟩)
        | (go_at_call 40; refine (HH _ h1.rd).mono ?_; rintro e w2 ⟨rfl, hb2⟩; have h2 := (h1.below hb2).1; have t2 := t1.trans (h1.drop.below hb2).2; have lV2 := lV1.on hb2)
        | (go_at_call 43; refine (number_good h2.rd hlt hs h2.er.1 h2.er.2 HR.out).mono ?_; rintro e w5 ⟨rfl, q, hrq, hpq, hq, hl5, hg5⟩; have h5 := (h2.seek hg5 hl5 (by omega) hq h2.hn).1; have t5 := t2.trans (h2.drop.seek hg5 hl5 (by omega) hq h2.hn).2; have lV5 := lV2.only hg5 (by intro e; injection e with e; exact h2.out (by rw [e]; simp [live])))
        | (go_at_call 42; refine (number_any z _).mono ?_; rintro e w6 ⟨rfl, hb6⟩; have h6 := (h5.below hb6).1; have t6 := t5.trans (h5.drop.below hb6).2; have lV4 := lV5.on hb6)
        | ((with_reducible refine wpL_store bv 25 valZ #[.int .i64 1, .int .i64 z, .string ⟨#[]⟩, .slice none 0 0, .slice none 0 0] 5 rowVal rfl rfl (valC_one _ _ _ _ _ _ _ _ _) lV4 ?_ ?_ ?_); rfl; rfl))
      obtain ⟨h7, t7, _⟩ := fin _ _ _ _ _ #[.int .i64 1, .int .i64 z, .string ⟨#[]⟩, .slice none 0 0, .slice none 0 0] h6 t6
      refine bodyPost_ret (results_row_tmp Tryd.results31 rowVal rfl (lV4.row _) rfl rfl) rfl ?_
      unfold BegPost
      exact .inr (.inl ⟨[.int .i64 1, .int .i64 z, .string ⟨#[]⟩, .slice none 0 0, .slice none 0 0], _, 1, q, by rw [HX.out, hrq], rfl, hpq, hq, h7, isVX_num _ _ (by omega), t7⟩)
  have e45 : ((c0.toNat : Int) == 45) = false := by rw [beq_eq_false_iff_ne]; exact byte_ne h45
  cases hdg : isDig c0 with
  | true =>
    rw [hdg] at HD
    cases hR : rdN (c0 :: rest s (p + 1)) with
    | bad er =>
      have HX := Lib.hid (show rdV (12 - ms.length) n (rest s p) = .bad er by rw [hL, hrc, begin_num _ _ _ hn (.inr hdg), hR]; rfl)
      rw [← hrc] at hR
      have HR := Lib.hid hR
      clear hrc hR hc0
      go_enter Tryd.func31, Tryd.ntmps31
      go_upto_region 1 with fail
      try rw [hbv]
      go_wp2_with (first
        | (go_at_call 39; refine HM.mono ?_; rintro e w1 ⟨rfl, h1, t1, lV1⟩)
        | (go_at_call 40; refine (HH _ h1.rd).mono ?_; rintro e w2 ⟨rfl, hb2⟩; have h2 := (h1.below hb2).1; have t2 := t1.trans (h1.drop.below hb2).2; have lV2 := lV1.on hb2)
        | (go_at_call 41; refine (HD _).mono ?_; rintro e w3 ⟨rfl, hb3⟩; have h3 := (h2.below hb3).1; have t3 := t2.trans (h2.drop.below hb3).2; have lV3 := lV2.on hb3)
        | (go_at_call 43; refine (number_bad h3.rd hlt hs h3.er.1 h3.er.2 HR.out).mono ?_; rintro e w5 ⟨rfl, hg5⟩))
      refine ⟨rfl, ?_⟩
      unfold BegPost
      exact .inl ⟨er, HX.out, rfl, (hbel t3).trans (below_grown hg5 (Nat.le_of_lt h3.rd.lt))⟩
    | ok z r =>
      have HX := Lib.hid (show rdV (12 - ms.length) n (rest s p) = .ok (.mk 1 z [] [] [], n + 1) r by rw [hL, hrc, begin_num _ _ _ hn (.inr hdg), hR]; rfl)
      have hzb := (rdN_ok hR).2.1
      rw [← hrc] at hR
      have HR := Lib.hid hR
      clear hrc hR hc0
      go_enter Tryd.func31, Tryd.ntmps31
      go_upto_region 1 with fail
      try rw [hbv]
      go_wp2_with (first
        | (go_at_call 39; refine HM.mono ?_; rintro e w1 ⟨rfl, h1, t1, lV1⟩)
        | (go_at_call 40; refine (HH _ h1.rd).mono ?_; rintro e w2 ⟨rfl, hb2⟩; have h2 := (h1.below hb2).1; have t2 := t1.trans (h1.drop.below hb2).2; have lV2 := lV1.on hb2)
        | (go_at_call 41; refine (HD _).mono ?_; rintro e w3 ⟨rfl, hb3⟩; have h3 := (h2.below hb3).1; have t3 := t2.trans (h2.drop.below hb3).2; have lV3 := lV2.on hb3)
        | (go_at_call 43; refine (number_good h3.rd hlt hs h3.er.1 h3.er.2 HR.out).mono ?_; rintro e w5 ⟨rfl, q, hrq, hpq, hq, hl5, hg5⟩; have h5 := (h3.seek hg5 hl5 (by omega) hq h3.hn).1; have t5 := t3.trans (h3.drop.seek hg5 hl5 (by omega) hq h3.hn).2; have lV5 := lV3.only hg5 (by intro e; injection e with e; exact h3.out (by rw [e]; simp [live])))
        | (go_at_call 42; refine (number_any z _).mono ?_; rintro e w6 ⟨rfl, hb6⟩; have h6 := (h5.below hb6).1; have t6 := t5.trans (h5.drop.below hb6).2; have lV4 := lV5.on hb6)
        | ((with_reducible refine wpL_store bv 25 valZ #[.int .i64 1, .int .i64 z, .string ⟨#[]⟩, .slice none 0 0, .slice none 0 0] 5 rowVal rfl rfl (valC_one _ _ _ _ _ _ _ _ _) lV4 ?_ ?_ ?_); rfl; rfl))
      obtain ⟨h7, t7, _⟩ := fin _ _ _ _ _ #[.int .i64 1, .int .i64 z, .string ⟨#[]⟩, .slice none 0 0, .slice none 0 0] h6 t6
      refine bodyPost_ret (results_row_tmp Tryd.results31 rowVal rfl (lV4.row _) rfl rfl) rfl ?_
      unfold BegPost
      exact .inr (.inl ⟨[.int .i64 1, .int .i64 z, .string ⟨#[]⟩, .slice none 0 0, .slice none 0 0], _, 1, q, by rw [HX.out, hrq], rfl, hpq, hq, h7, isVX_num _ _ (by omega), t7⟩)
  | false =>
    rw [hdg] at HD
    have hnd : ¬ (c0 = 45 ∨ isDig c0 = true) := by rintro (h | h); exact h45 h; rw [hdg] at h; cases h
    by_cases h34 : c0 = 34
    · subst h34
      have HH : ∀ w1, Lies w1 g 55 (rdC s p (n + 1) vo) → Calls Tryd.prog 40 #[.pointer (some ⟨g, 0, none⟩)] w1 fun e w' => e = .returned (.int .u8 34) ∧ RowKit.Below w1.heap.size w1 w' := HH
      have HD : ∀ w, Calls Tryd.prog 41 #[.int .u8 34] w fun e w' => e = .returned (.bool false) ∧ RowKit.Below w.heap.size w w' := HD
      clear e45 hdg
      cases hR : rdT 0 (rest s (p + 1)) with
      | bad er =>
        have HX := Lib.hid (show rdV (12 - ms.length) n (rest s p) = .bad er by rw [hL, hrc, begin_txt _ _ _ hn, hR]; rfl)
        have HR := Lib.hid hR
        clear hrc hR hc0
        go_enter Tryd.func31, Tryd.ntmps31
        go_upto_region 1 with fail
        try rw [hbv]
        go_wp2_with (first
          | (go_at_call 39; refine HM.mono ?_; rintro e w1 ⟨rfl, h1, t1, lV1⟩)
          | (go_at_call 40; refine (HH _ h1.rd).mono ?_; rintro e w2 ⟨rfl, hb2⟩; have h2 := (h1.below hb2).1; have t2 := t1.trans (h1.drop.below hb2).2; have lV2 := lV1.on hb2)
          | (go_at_call 41; refine (HD _).mono ?_; rintro e w3 ⟨rfl, hb3⟩; have h3 := (h2.below hb3).1; have t3 := t2.trans (h2.drop.below hb3).2; have lV3 := lV2.on hb3)
          | (go_at_call 44; refine (quoted_bad h3.rd hlt hs HR.out).mono ?_; rintro e w5 ⟨rfl, hg5⟩))
        refine ⟨rfl, ?_⟩
        unfold BegPost
        exact .inl ⟨er, HX.out, rfl, (hbel t3).trans (below_grown hg5 (Nat.le_of_lt h3.rd.lt))⟩
      | ok k r =>
        have HX := Lib.hid (show rdV (12 - ms.length) n (rest s p) = .ok (.mk 2 0 k [] [], n + 1) r by rw [hL, hrc, begin_txt _ _ _ hn, hR]; rfl)
        obtain ⟨_, _, hk4⟩ := rdT_ok _ _ (Nat.le_refl _) 0 k r (by decide) hR
        have HR := Lib.hid hR
        clear hrc hR hc0
        go_enter Tryd.func31, Tryd.ntmps31
        go_upto_region 1 with fail
        try rw [hbv]
        go_wp2_with (first
          | (go_at_call 39; refine HM.mono ?_; rintro e w1 ⟨rfl, h1, t1, lV1⟩)
          | (go_at_call 40; refine (HH _ h1.rd).mono ?_; rintro e w2 ⟨rfl, hb2⟩; have h2 := (h1.below hb2).1; have t2 := t1.trans (h1.drop.below hb2).2; have lV2 := lV1.on hb2)
          | (go_at_call 41; refine (HD _).mono ?_; rintro e w3 ⟨rfl, hb3⟩; have h3 := (h2.below hb3).1; have t3 := t2.trans (h2.drop.below hb3).2; have lV3 := lV2.on hb3)
          | (go_at_call 44; refine (quoted_ok h3.rd hlt hs HR.out).mono ?_; rintro e w5 ⟨rfl, q, hrq, hpq, hq, hl5, hg5⟩; have h5 := (h3.seek hg5 hl5 (by omega) hq h3.hn).1; have t5 := t3.trans (h3.drop.seek hg5 hl5 (by omega) hq h3.hn).2; have lV5 := lV3.only hg5 (by intro e; injection e with e; exact h3.out (by rw [e]; simp [live])))
          | (go_at_call 15; refine (text_any ⟨k.toArray⟩ _).mono ?_; rintro e w6 ⟨rfl, hb6⟩; have h6 := (h5.below hb6).1; have t6 := t5.trans (h5.drop.below hb6).2; have lV4 := lV5.on hb6)
          | ((with_reducible refine wpL_store bv 25 valZ #[.int .i64 2, .int .i64 0, .string ⟨k.toArray⟩, .slice none 0 0, .slice none 0 0] 5 rowVal rfl rfl (valC_one _ _ _ _ _ _ _ _ _) lV4 ?_ ?_ ?_); rfl; rfl))
        obtain ⟨h7, t7, _⟩ := fin _ _ _ _ _ #[.int .i64 2, .int .i64 0, .string ⟨k.toArray⟩, .slice none 0 0, .slice none 0 0] h6 t6
        refine bodyPost_ret (results_row_tmp Tryd.results31 rowVal rfl (lV4.row _) rfl rfl) rfl ?_
        unfold BegPost
        exact .inr (.inl ⟨[.int .i64 2, .int .i64 0, .string ⟨k.toArray⟩, .slice none 0 0, .slice none 0 0], _, 1, q, by rw [HX.out, hrq], rfl, by omega, hq, h7, isVX_txt _ _ (by unfold maxLen; omega), t7⟩)
    have e34 : ((c0.toNat : Int) == 34) = false := by rw [beq_eq_false_iff_ne]; exact byte_ne h34
    by_cases h91 : c0 = 91
    · subst h91
      have HH : ∀ w1, Lies w1 g 55 (rdC s p (n + 1) vo) → Calls Tryd.prog 40 #[.pointer (some ⟨g, 0, none⟩)] w1 fun e w' => e = .returned (.int .u8 91) ∧ RowKit.Below w1.heap.size w1 w' := HH
      have HD : ∀ w, Calls Tryd.prog 41 #[.int .u8 91] w fun e w' => e = .returned (.bool false) ∧ RowKit.Below w.heap.size w w' := HD
      clear e45 hdg e34
      by_cases hw : (rest s (p + 1)).head? = some (endC false)
      · have HX := Lib.hid (show rdV (12 - ms.length) n (rest s p) = .ok (.mk 3 0 [] [] [], n + 1) (rest s (p + 2)) by
            rw [hL, hrc, begin_list _ _ _ hn, if_pos (show (rest s (p + 1)).head? = some 93 from hw)]
            have hlt2 : p + 1 < s.size := by
              rcases Nat.lt_or_ge (p + 1) s.size with h' | h'
              · exact h'
              · exfalso
                obtain he : p + 1 = s.size := by omega
                rw [he, rest_none] at hw
                cases hw
            rw [rest_cons hlt2, List.tail_cons])
        have HR := fun (w3 : World) (h3 : St w3 g (bv :: E) B s p (n + 1) vo ms) => row_whole h3 false hlt hms hw
        have HW := Lib.hid hw
        clear hrc hc0 hw
        go_enter Tryd.func31, Tryd.ntmps31
        go_upto_region 1 with fail
        try rw [hbv]
        go_wp2_with (first
          | (go_at_call 39; refine HM.mono ?_; rintro e w1 ⟨rfl, h1, t1, lV1⟩)
          | (go_at_call 40; refine (HH _ h1.rd).mono ?_; rintro e w2 ⟨rfl, hb2⟩; have h2 := (h1.below hb2).1; have t2 := t1.trans (h1.drop.below hb2).2; have lV2 := lV1.on hb2)
          | (go_at_call 41; refine (HD _).mono ?_; rintro e w3 ⟨rfl, hb3⟩; have h3 := (h2.below hb3).1; have t3 := t2.trans (h2.drop.below hb3).2; have lV3 := lV2.on hb3)
          | (go_at_call 45; refine (HR _ h3).mono ?_; rintro e w5 ⟨rfl, hp2, h5, t5⟩; have lV4 := t5.lies h3.out lV3; replace t5 := t3.trans t5)
          | ((with_reducible refine wpL_store bv 25 valZ #[.int .i64 3, .int .i64 0, .string ⟨#[]⟩, .slice none 0 0, .slice none 0 0] 5 rowVal rfl rfl (valC_one _ _ _ _ _ _ _ _ _) lV4 ?_ ?_ ?_); rfl; rfl))
        obtain ⟨h7, t7, _⟩ := fin _ _ _ _ _ #[.int .i64 3, .int .i64 0, .string ⟨#[]⟩, .slice none 0 0, .slice none 0 0] h5 t5
        refine bodyPost_ret (results_row_tmp Tryd.results31 rowVal rfl (lV4.row _) rfl rfl) rfl ?_
        unfold BegPost
        exact .inr (.inl ⟨[.int .i64 3, .int .i64 0, .string ⟨#[]⟩, .slice none 0 0, .slice none 0 0], _, 1, p + 2, HX.out, rfl, by omega, hp2, h7, isVX_none _ _ 3 (.inl rfl), t7⟩)
      · have HX := Lib.hid (show rdV (12 - ms.length) n (rest s p) = (Fr.mk false [] [] (rest s (p + 1)).length).after (11 - ms.length) (rdV (11 - ms.length) (n + 1) (rest s (p + 1))) by rw [hL, hrc, begin_list _ _ _ hn, if_neg (show ¬ (rest s (p + 1)).head? = some 93 from hw)])
        have HR := fun (w3 : World) (h3 : St w3 g (bv :: E) B s p (n + 1) vo ms) => row_open h3 false hlt hms hw rfl
        have HW := Lib.hid hw
        clear hrc hc0 hw
        go_enter Tryd.func31, Tryd.ntmps31
        go_upto_region 1 with fail
        try rw [hbv]
        go_wp2_with (first
          | (go_at_call 39; refine HM.mono ?_; rintro e w1 ⟨rfl, h1, t1, lV1⟩)
          | (go_at_call 40; refine (HH _ h1.rd).mono ?_; rintro e w2 ⟨rfl, hb2⟩; have h2 := (h1.below hb2).1; have t2 := t1.trans (h1.drop.below hb2).2; have lV2 := lV1.on hb2)
          | (go_at_call 41; refine (HD _).mono ?_; rintro e w3 ⟨rfl, hb3⟩; have h3 := (h2.below hb3).1; have t3 := t2.trans (h2.drop.below hb3).2; have lV3 := lV2.on hb3)
          | (go_at_call 45; refine (HR _ h3).mono ?_; rintro e w5 ⟨rfl, v5, h5, t5⟩; have lV4 := t5.lies h3.out lV3; replace t5 := t3.trans t5)
          | ((with_reducible refine wpL_store bv 25 valZ valZ 5 rowVal rfl rfl (valC_one _ _ _ _ _ _ _ _ _) lV4 ?_ ?_ ?_); rfl; rfl))
        obtain ⟨h7, t7, _⟩ := fin _ _ _ _ _ valZ h5 t5
        refine bodyPost_ret (results_row_tmp Tryd.results31 rowVal rfl (lV4.row _) rfl rfl) rfl ?_
        unfold BegPost
        exact .inr (.inr ⟨_, p + 1, v5, HX.out, rfl, by omega, by omega, h7, t7⟩)
    have e91 : ((c0.toNat : Int) == 91) = false := by rw [beq_eq_false_iff_ne]; exact byte_ne h91
    by_cases h123 : c0 = 123
    · subst h123
      have HH : ∀ w1, Lies w1 g 55 (rdC s p (n + 1) vo) → Calls Tryd.prog 40 #[.pointer (some ⟨g, 0, none⟩)] w1 fun e w' => e = .returned (.int .u8 123) ∧ RowKit.Below w1.heap.size w1 w' := HH
      have HD : ∀ w, Calls Tryd.prog 41 #[.int .u8 123] w fun e w' => e = .returned (.bool false) ∧ RowKit.Below w.heap.size w w' := HD
      clear e45 hdg e34 e91
      by_cases hw : (rest s (p + 1)).head? = some (endC true)
      · have HX := Lib.hid (show rdV (12 - ms.length) n (rest s p) = .ok (.mk 4 0 [] [] [], n + 1) (rest s (p + 2)) by
            rw [hL, hrc, begin_map _ _ _ hn, if_pos (show (rest s (p + 1)).head? = some 125 from hw)]
            have hlt2 : p + 1 < s.size := by
              rcases Nat.lt_or_ge (p + 1) s.size with h' | h'
              · exact h'
              · exfalso
                obtain he : p + 1 = s.size := by omega
                rw [he, rest_none] at hw
                cases hw
            rw [rest_cons hlt2, List.tail_cons])
        have HR := fun (w3 : World) (h3 : St w3 g (bv :: E) B s p (n + 1) vo ms) => row_whole h3 true hlt hms hw
        have HW := Lib.hid hw
        clear hrc hc0 hw
        go_enter Tryd.func31, Tryd.ntmps31
        go_upto_region 1 with fail
        try rw [hbv]
        go_wp2_with (first
          | (go_at_call 39; refine HM.mono ?_; rintro e w1 ⟨rfl, h1, t1, lV1⟩)
          | (go_at_call 40; refine (HH _ h1.rd).mono ?_; rintro e w2 ⟨rfl, hb2⟩; have h2 := (h1.below hb2).1; have t2 := t1.trans (h1.drop.below hb2).2; have lV2 := lV1.on hb2)
          | (go_at_call 41; refine (HD _).mono ?_; rintro e w3 ⟨rfl, hb3⟩; have h3 := (h2.below hb3).1; have t3 := t2.trans (h2.drop.below hb3).2; have lV3 := lV2.on hb3)
          | (go_at_call 45; refine (HR _ h3).mono ?_; rintro e w5 ⟨rfl, hp2, h5, t5⟩; have lV4 := t5.lies h3.out lV3; replace t5 := t3.trans t5)
          | ((with_reducible refine wpL_store bv 25 valZ #[.int .i64 4, .int .i64 0, .string ⟨#[]⟩, .slice none 0 0, .slice none 0 0] 5 rowVal rfl rfl (valC_one _ _ _ _ _ _ _ _ _) lV4 ?_ ?_ ?_); rfl; rfl))
        obtain ⟨h7, t7, _⟩ := fin _ _ _ _ _ #[.int .i64 4, .int .i64 0, .string ⟨#[]⟩, .slice none 0 0, .slice none 0 0] h5 t5
        refine bodyPost_ret (results_row_tmp Tryd.results31 rowVal rfl (lV4.row _) rfl rfl) rfl ?_
        unfold BegPost
        exact .inr (.inl ⟨[.int .i64 4, .int .i64 0, .string ⟨#[]⟩, .slice none 0 0, .slice none 0 0], _, 1, p + 2, HX.out, rfl, by omega, hp2, h7, isVX_none _ _ 4 (.inr rfl), t7⟩)
      · have HX := Lib.hid (show rdV (12 - ms.length) n (rest s p) = keyed (11 - ms.length) [] [] (rest s (p + 1)).length (n + 1) (rdK none (rest s (p + 1))) by rw [hL, hrc, begin_map _ _ _ hn, if_neg (show ¬ (rest s (p + 1)).head? = some 125 from hw)])
        cases hR : rdK none (rest s (p + 1)) with
        | bad er =>
          have HX := Lib.hid (HX.out.trans (by rw [hR]; rfl) : rdV (12 - ms.length) n (rest s p) = .bad er)
          have HR := fun (w3 : World) (h3 : St w3 g (bv :: E) B s p (n + 1) vo ms) => row_bad h3 true hlt hms hw rfl hR
          have HW := Lib.hid hw
          clear hrc hc0 hw hR
          go_enter Tryd.func31, Tryd.ntmps31
          go_upto_region 1 with fail
          try rw [hbv]
          go_wp2_with (first
            | (go_at_call 39; refine HM.mono ?_; rintro e w1 ⟨rfl, h1, t1, lV1⟩)
            | (go_at_call 40; refine (HH _ h1.rd).mono ?_; rintro e w2 ⟨rfl, hb2⟩; have h2 := (h1.below hb2).1; have t2 := t1.trans (h1.drop.below hb2).2; have lV2 := lV1.on hb2)
            | (go_at_call 41; refine (HD _).mono ?_; rintro e w3 ⟨rfl, hb3⟩; have h3 := (h2.below hb3).1; have t3 := t2.trans (h2.drop.below hb3).2; have lV3 := lV2.on hb3)
            | (go_at_call 45; refine (HR _ h3).mono ?_; rintro e w5 ⟨rfl, hb5⟩))
          refine ⟨rfl, ?_⟩
          unfold BegPost
          exact .inl ⟨er, HX.out, rfl, (hbel t3).trans hb5⟩
        | ok k r =>
          have HX := Lib.hid (HX.out.trans (by rw [hR]; rfl) : rdV (12 - ms.length) n (rest s p) = (Fr.mk true [] ([] ++ [k]) (rest s (p + 1)).length).after (11 - ms.length) (rdV (11 - ms.length) (n + 1) r))
          have HR := fun (w3 : World) (h3 : St w3 g (bv :: E) B s p (n + 1) vo ms) => row_key h3 true hlt hms hw rfl hR
          have HW := Lib.hid hw
          clear hrc hc0 hw hR
          go_enter Tryd.func31, Tryd.ntmps31
          go_upto_region 1 with fail
          try rw [hbv]
          go_wp2_with (first
            | (go_at_call 39; refine HM.mono ?_; rintro e w1 ⟨rfl, h1, t1, lV1⟩)
            | (go_at_call 40; refine (HH _ h1.rd).mono ?_; rintro e w2 ⟨rfl, hb2⟩; have h2 := (h1.below hb2).1; have t2 := t1.trans (h1.drop.below hb2).2; have lV2 := lV1.on hb2)
            | (go_at_call 41; refine (HD _).mono ?_; rintro e w3 ⟨rfl, hb3⟩; have h3 := (h2.below hb3).1; have t3 := t2.trans (h2.drop.below hb3).2; have lV3 := lV2.on hb3)
            | (go_at_call 45; refine (HR _ h3).mono ?_; rintro e w5 ⟨rfl, q, v5, vk, hrq, hpq, hq, h5, t5⟩; have lV4 := t5.lies h3.out lV3; replace t5 := t3.trans t5)
            | ((with_reducible refine wpL_store bv 25 valZ valZ 5 rowVal rfl rfl (valC_one _ _ _ _ _ _ _ _ _) lV4 ?_ ?_ ?_); rfl; rfl))
          obtain ⟨h7, t7, _⟩ := fin _ _ _ _ _ valZ h5 t5
          refine bodyPost_ret (results_row_tmp Tryd.results31 rowVal rfl (lV4.row _) rfl rfl) rfl ?_
          unfold BegPost
          exact .inr (.inr ⟨_, q, v5, by rw [HX.out, hrq]; rfl, rfl, by omega, hq, h7, t7⟩)
    have e123 : ((c0.toNat : Int) == 123) = false := by rw [beq_eq_false_iff_ne]; exact byte_ne h123
    have HX := Lib.hid (show rdV (12 - ms.length) n (rest s p) = .bad 20 by rw [hL, hrc]; exact begin_odd _ _ _ hn hnd h34 h91 h123)
    clear hrc hc0
    go_enter Tryd.func31, Tryd.ntmps31
    go_upto_region 1 with fail
    try rw [hbv]
    go_wp2_with (first
      | (go_at_call 39; refine HM.mono ?_; rintro e w1 ⟨rfl, h1, t1, lV1⟩)
      | (go_at_call 40; refine (HH _ h1.rd).mono ?_; rintro e w2 ⟨rfl, hb2⟩; have h2 := (h1.below hb2).1; have t2 := t1.trans (h1.drop.below hb2).2; have lV2 := lV1.on hb2)
      | (go_at_call 41; refine (HD _).mono ?_; rintro e w3 ⟨rfl, hb3⟩; have h3 := (h2.below hb3).1; have t3 := t2.trans (h2.drop.below hb3).2; have lV3 := lV2.on hb3))
    refine ⟨rfl, ?_⟩
    unfold BegPost
    exact .inl ⟨20, HX.out, rfl, hbel t3⟩
end Go.Proofs.YtmbmeidkmhajbaaDoor.V

/- The reader's loop: a value with all that stands in it. -/
namespace Go.Proofs.YtmbmeidkmhajbaaDoor.V
set_option maxRecDepth 100000
open Go.RowKit Go.Sort Go.Joins

def frs (ms : List Fm) : List Fr := ms.map Fm.fr
theorem frs_len (ms : List Fm) : (frs ms).length = ms.length := List.length_map ..
theorem frs_cons (m : Fm) (ms : List Fm) : frs (m :: ms) = m.fr :: frs ms := rfl
/-- where the reader stands: with a value whole in hand, or ahead of one -/
def Inn (w : World) (g : Nat) (E : List Nat) (B : Nat) (s : ByteArray) (q n : Nat) (vo : Value) (ms : List Fm) (C : Array Value) (whole : Bool) (R : Rd (VT × Nat)) : Prop :=
  St w g E B s q n vo ms ∧ (whole = true → ∃ cs t d, C = List.toArray cs ∧ IsVX (live g E vo ms) w d cs t ∧ plug (frs ms) (.ok (t, n) (rest s q)) = R ∧ ∀ m ∈ ms, m.fr.items.length + 1 ≤ q) ∧
  (whole = false → plug (frs ms) (rdV (12 - ms.length) n (rest s q)) = R)
theorem isVX_ones {X : List Nat} {w : World} {d : Nat} {cs : List Value} {t : VT} (h : IsVX X w d cs t) : cs.toArray.size = 5 ∧ Ones cs.toArray := by
  obtain ⟨ai, ci, ak, ck, hcs⟩ := h.isV.form
  rw [hcs]
  exact ⟨rfl, valC_one _ _ _ _ _ _ _ _ _⟩
theorem valZ_ones : valZ.size = 5 ∧ Ones valZ := ⟨rfl, valC_one _ _ _ _ _ _ _ _ _⟩
/-- a value begins -/
theorem BegPost.inn {w w1 : World} {g B p n : Nat} {E : List Nat} {s : ByteArray} {vo : Value} {ms : List Fm} {e : Ending} {R : Rd (VT × Nat)} (h : BegPost w g E B s p n vo ms e w1) (h0 : St w g E B s p n vo ms) (hR : plug (frs ms) (rdV (12 - ms.length) n (rest s p)) = R) :
    (∃ er, R = .bad er ∧ e = errP er ∧ RowKit.Below g w w1) ∨
    (∃ C whole q n' vo' ms', e = .returned (.tuple #[.agg C, .bool whole]) ∧ C.size = 5 ∧ Ones C ∧ p < q ∧ q ≤ s.size ∧ Inn w1 g E B s q n' vo' ms' C whole R ∧ Turn (live g [] vo ms) (live g [] vo' ms') w w1) := by
  rcases h with ⟨er, h1, h2, h3⟩ | ⟨cs, t, d, q, h1, h2, h3, h4, h5, h6, h7⟩ | ⟨m', q, v'', h1, h2, h3, h4, h5, h6⟩
  · exact .inl ⟨er, by rw [← hR, h1, plug_bad], h2, h3⟩
  · obtain ⟨z1, z2⟩ := isVX_ones h6
    exact .inr ⟨_, true, q, n + 1, vo, ms, h2, z1, z2, h3, h4, ⟨h5, fun _ => ⟨cs, t, d, rfl, h6, by rw [← hR, h1], fun m hm => by have := (h0.fm m hm).few; omega⟩, fun h => by cases h⟩, h7⟩
  · refine .inr ⟨valZ, false, q, n + 1, v'', m' :: ms, h2, valZ_ones.1, valZ_ones.2, h3, h4, ⟨h5, (fun h => by cases h), fun _ => ?_⟩, h6⟩
    rw [← hR, h1, frs_cons, plug, frs_len, List.length_cons, show 12 - (ms.length + 1) = 11 - ms.length by omega]
/-- an item was put in -/
theorem PutPost.inn {w w1 : World} {g B p n : Nat} {E : List Nat} {s : ByteArray} {vo : Value} {m : Fm} {ms : List Fm} {x : VT} {e : Ending} {R : Rd (VT × Nat)} (h : PutPost w g E B s p n vo m ms x e w1) (h0 : St w g E B s p n vo (m :: ms)) (hR : plug (frs (m :: ms)) (.ok (x, n) (rest s p)) = R) :
    (∃ er, R = .bad er ∧ e = errP er ∧ RowKit.Below g w w1) ∨
    (∃ C whole q n' vo' ms', e = .returned (.tuple #[.agg C, .bool whole]) ∧ C.size = 5 ∧ Ones C ∧ p < q ∧ q ≤ s.size ∧ Inn w1 g E B s q n' vo' ms' C whole R ∧ Turn (live g [] vo (m :: ms)) (live g [] vo' ms') w w1) := by
  rw [frs_cons, plug, frs_len] at hR
  rcases h with ⟨er, h1, h2, h3⟩ | ⟨cs, t, d, q, vo', h1, h2, h3, h4, h5, h6, h7⟩ | ⟨m', q, h1, h2, h3, h4, h5, h6⟩
  · exact .inl ⟨er, by rw [← hR, h1, plug_bad], h2, h3⟩
  · obtain ⟨z1, z2⟩ := isVX_ones h6
    exact .inr ⟨_, true, q, n, vo', ms, h2, z1, z2, h3, h4, ⟨h5, fun _ => ⟨cs, t, d, rfl, h6, by rw [← hR, h1], fun m' hm => by have := (h0.fm m' (by simp [hm])).few; omega⟩, fun h => by cases h⟩, h7⟩
  · refine .inr ⟨valZ, false, q, n, vo, m' :: ms, h2, valZ_ones.1, valZ_ones.2, h3, h4, ⟨h5, (fun h => by cases h), fun _ => ?_⟩, h6⟩
    rw [← hR, h1, frs_cons, plug, frs_len, List.length_cons, show 12 - (ms.length + 1) = 11 - ms.length by omega]
theorem Inn.turn {w w1 : World} {g B q n : Nat} {E E' : List Nat} {s : ByteArray} {vo : Value} {ms : List Fm} {C : Array Value} {whole : Bool} {R : Rd (VT × Nat)} (h : Inn w g E B s q n vo ms C whole R) (h1 : St w1 g E' B s q n vo ms) (ht : Turn (live g E vo ms) (live g E' vo ms) w w1) : Inn w1 g E' B s q n vo ms C whole R :=
  ⟨h1, fun hw => let ⟨cs, t, d, e1, e2, e3, e4⟩ := h.2.1 hw; ⟨cs, t, d, e1, e2.turn ht, e3, e4⟩, h.2.2⟩
def ValPost (w : World) (g : Nat) (E : List Nat) (B : Nat) (s : ByteArray) (p n : Nat) (vo : Value) (e : Ending) (w' : World) : Prop :=
  (∃ er, rdV 12 n (rest s p) = .bad er ∧ e = errP er ∧ RowKit.Below g w w') ∨
  (∃ cs t d q n' vo', rdV 12 n (rest s p) = .ok (t, n') (rest s q) ∧ e = .returned (.agg (List.toArray cs)) ∧ p < q ∧ q ≤ s.size ∧ St w' g E B s q n' vo' [] ∧ IsVX (live g E vo' []) w' d cs t ∧ Turn (live g [] vo []) (live g [] vo' []) w w')
set_option maxHeartbeats 25600000 in
theorem value_any (w : World) (g : Nat) (E : List Nat) (B : Nat) (s : ByteArray) (p n : Nat) (vo : Value) (h : St w g E B s p n vo []) :
    Calls Tryd.prog 22 #[.pointer (some ⟨g, 0, none⟩)] w fun e w' => ValPost w g E B s p n vo e w' := by
  have hs := h.hs
  have hgw : g ≤ w.heap.size := Nat.le_of_lt h.rd.lt
  have hba := (RowKit.Below.refl w.heap.size w).alloc (Nat.le_refl _) (.cells valZ 25)
  have lV := Lies.new w 25 valZ
  have h0 := (h.enter hba (Nat.le_refl _) lV.lt).1
  have t0 := (h.drop.below hba).2
  obtain ⟨R, hR⟩ : ∃ R, rdV 12 n (rest s p) = R := ⟨_, rfl⟩
  have hbel : ∀ {X' : List Nat} {w' : World}, Turn (live g [] vo []) X' w w' → RowKit.Below g w w' := fun ht => ht.below (fun k hk => (h.core_lt k hk).1) hgw
  obtain ⟨b2, hb2⟩ : ∃ b, w.heap.size = b := ⟨_, rfl⟩
  rw [hb2] at h0 lV
  go_enter Tryd.func22, Tryd.ntmps22
  go_wp2_with fail
  try rw [hb2]
  generalize World.alloc w _ = wa at *
  go_loopw [3, 4, 5] (fun _ _ _ wr => ∃ (q n' : Nat) (vo' : Value) (ms : List Fm), St wr g (b2 :: E) B s q n' vo' ms ∧ Hid (plug (frs ms) (rdV (12 - ms.length) n' (rest s q)) = R) ∧ Turn (live g [] vo []) (live g [] vo' ms) w wr ∧ Lies wr b2 25 valZ ∧ p ≤ q ∧ q ≤ s.size) (fun _ _ _ wr => s.size - placeOf wr g)
  case atStart => exact ⟨p, n, vo, [], h0, Lib.hid hR, t0, lV, Nat.le_refl _, h.hp⟩
  case round =>
    obtain ⟨q, n', vo', ms, h1, HR, t1, lV1, hpq, hq⟩ := hrel
    obtain ⟨wq, hwq⟩ : ∃ wq, wq = wr := ⟨_, rfl⟩
    subst hwq
    have hpanic : ∀ {w2 : World} {er : Int}, R = .bad er → RowKit.Below g wq w2 → ValPost w g E B s p n vo (errP er) w2 := by
      intro w2 er hRe hbe
      unfold ValPost
      exact .inl ⟨er, by rw [hR, hRe], rfl, (hbel t1).trans hbe⟩
    go_wp2_with (first
      | (go_at_call 31; refine (begin_any _ g (b2 :: E) B s q n' vo' ms h1).mono ?_; rintro e w2 hB; rcases hB.inn h1 HR.out with ⟨er, hRe, rfl, hbe⟩ | ⟨C, whole, q2, n2, vo2, ms2, rfl, hC5, hC1, hq2, hq2s, hI, t2⟩)
      | ((with_reducible refine wpL_store w2.heap.size 25 valZ C 5 rowVal rfl hC5 hC1 (Lies.new w2 _ _) ?_ ?_ ?_); rfl; rfl))
    · exact ⟨rfl, hpanic hRe hbe⟩
    have hb3 : RowKit.Below w2.heap.size w2 ((w2.alloc (.cells valZ 25)).setRow w2.heap.size C) := below_rowSet ((RowKit.Below.refl _ _).alloc (Nat.le_refl _) _) (Nat.le_refl _) _
    have l3 : Lies ((w2.alloc (.cells valZ 25)).setRow w2.heap.size C) w2.heap.size 25 C := (Lies.new w2 _ _).row C
    have h3 := hI.1.enter hb3 (Nat.le_refl _) l3.lt
    have hI3 := hI.turn h3.1 h3.2
    have t3 := (t1.trans t2).trans (hI.1.drop.below hb3).2
    have lV3 := (t2.lies h1.out lV1).on hb3
    generalize World.setRow _ _ _ = w3 at *
    obtain ⟨b3, hb3e⟩ : ∃ b, w2.heap.size = b := ⟨_, rfl⟩
    rw [hb3e] at l3 hI3 ⊢
    have hbb : b2 ≠ b3 := fun e => by have := (h3.1.hE b2 (by simp)).2; have h5 := h3.1.nd; have := (hI.1.hE b2 (by simp)).2; omega
    have hb3w : w.heap.size ≤ b3 := by have := (t1.trans t2).size; omega
    have HI3 := Lib.hid hI3
    clear hI3 h3 hI hb3 t2 hb3e
    go_loopw [4] (fun tw wr => ∃ (C : Array Value) (whole : Bool) (q2 n2 : Nat) (vo2 : Value) (ms2 : List Fm), tw = .bool whole ∧ C.size = 5 ∧ Ones C ∧ Lies wr b3 25 C ∧ Lies wr b2 25 valZ ∧ q < q2 ∧ q2 ≤ s.size ∧ Hid (Inn wr g (b3 :: b2 :: E) B s q2 n2 vo2 ms2 C whole R) ∧ Turn (live g [] vo []) (live g [] vo2 ms2) w wr) (fun _ wr => s.size - placeOf wr g)
    case atStart => exact ⟨C, whole, q2, n2, vo2, ms2, rfl, hC5, hC1, l3, lV3, hq2, hq2s, HI3, t3⟩
    case round =>
      clear l3 lV3 t3 HI3 hC5 hC1 hq2 hq2s
      obtain ⟨C, whole, q2, n2, vo2, ms2, rfl, hC5, hC1, l3, lV3, hq2, hq2s, HI, t3⟩ := hrel
      have h3 := HI.out.1
      obtain ⟨a, c, hvo2, _⟩ := h3.form
      have c3 := rd_c3 h3.rd
      rw [hvo2] at c3
      cases whole with
      | false =>
        have HR2 := Lib.hid (HI.out.2.2 rfl)
        go_wp2
        refine ⟨⟨q2, n2, vo2, ms2, h3.leave.1, HR2, t3, lV3, by omega, hq2s⟩, ?_⟩
        rw [placeOf_rd h3.rd, placeOf_rd h1.rd]
        omega
      | true =>
        obtain ⟨cs, t, d, rfl, hx, hpl, hfew⟩ := HI.out.2.1 rfl
        have HPL := Lib.hid hpl
        have HF := Lib.hid hfew
        clear hpl hfew HI
        cases ms2 with
        | nil =>
          have c3 : wr.cell? ⟨g, 3, none⟩ = some (.slice a 0 c) := c3
          go_wp2_with (first
            | (go_at_call 32; refine (size_any _ g _ _ _ c3).mono ?_; rintro e w4 ⟨rfl, rfl⟩)
            | ((with_reducible refine wpL_load b3 25 _ 5 rowVal hC5 l3 ?_ ?_); rfl)
            | ((with_reducible refine wpL_store b2 25 valZ cs.toArray 5 rowVal rfl hC5 hC1 lV3 ?_ ?_ ?_); rfl; rfl))
          have h4 := h3.leave
          have h5 := h4.1.local (grown_row b2 cs.toArray)
          have h6 := h5.1.leave
          refine bodyPost_ret (results_row Tryd.results22 rowVal hC5 (lV3.row _) rfl) rfl ?_
          unfold ValPost
          exact .inr ⟨cs, t, d, q2, n2, vo2, by rw [hR, ← HPL.out]; rfl, rfl, by omega, hq2s, h6.1, ((hx.turn h4.2).turn h5.2).turn h6.2, t3.local (grown_row b2 cs.toArray) (Nat.le_of_eq hb2)⟩
        | cons m ms3 =>
          have c3 : wr.cell? ⟨g, 3, none⟩ = some (.slice a (ms3.length + 1) c) := c3
          have e1 : (0 : Int) < ((ms3.length + 1 : Nat) : Int) := by omega
          have hP := putIn_any wr g (b3 :: b2 :: E) B s q2 n2 vo2 m ms3 h3 (HF.out m (by simp)) d cs t hx
          go_wp2_with (first
            | (go_at_call 32; refine (size_any _ g _ _ _ c3).mono ?_; rintro e w4 ⟨rfl, rfl⟩)
            | ((with_reducible refine wpL_load b3 25 _ 5 rowVal hC5 l3 ?_ ?_); rfl)
            | (go_at_call 33; refine hP.mono ?_; rintro e w5 hB; rcases hB.inn h3 HPL.out with ⟨er, hRe, rfl, hbe⟩ | ⟨C4, whole4, q4, n4, vo4, ms4, rfl, hC45, hC41, hq4, hq4s, hI4, t4⟩)
            | ((with_reducible refine wpL_store b3 25 cs.toArray C4 5 rowVal hC5 hC45 hC41 (t4.lies h3.out l3) ?_ ?_ ?_); rfl; rfl))
          · refine ⟨rfl, ?_⟩
            unfold ValPost
            exact .inl ⟨er, by rw [hR, hRe], rfl, (hbel t3).trans hbe⟩
          have h6 := hI4.1.local (grown_row b3 C4)
          have hI6 := Lib.hid (hI4.turn h6.1 h6.2)
          have T6 := (t3.trans t4).local (grown_row b3 C4) hb3w
          have l6 := (t4.lies h3.out l3).row C4
          have lV6 := (t4.lies h3.leave.1.out lV3).rowFar hbb C4
          have pl6 := placeOf_rd h6.1.rd
          clear hI4
          try go_wp2
          refine ⟨⟨C4, whole4, q4, n4, vo4, ms4, rfl, hC45, hC41, l6, lV6, by omega, hq4s, hI6, T6⟩, ?_⟩
          rw [pl6, placeOf_rd h3.rd]
          omega
end Go.Proofs.YtmbmeidkmhajbaaDoor.V

