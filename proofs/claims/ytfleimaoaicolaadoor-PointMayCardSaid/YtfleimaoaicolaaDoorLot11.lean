/- Texts that stand on one another, put together: FByteMath, CSignMath, CText, CStrRun, CParse. -/
import Derived.Test.YtfleimaoaicolaaDoorLot10
import Derived.Laws.BitsAllLaws
import Derived.Laws.DeepStrings4
import Derived.Laws.ShiftsVarLaws
/- Bytes of words, and words of bytes. Nothing of the program is named here. -/
namespace Go.Proofs.YtfleimaoaicolaaDoor.F

/-- a byte of a word is a byte of the number -/
theorem word_byte (n i : Nat) : wordN n (i / 8) / 2 ^ (8 * (i % 8)) % 256 = n / 256 ^ i % 256 := by
  unfold wordN
  obtain ⟨q, hq⟩ : ∃ q, i / 8 = q := ⟨_, rfl⟩
  obtain ⟨r, hr⟩ : ∃ r, i % 8 = r := ⟨_, rfl⟩
  have hr8 : r < 8 := by omega
  have e2 : (256 : Nat) ^ i = 18446744073709551616 ^ q * 256 ^ r := by
    rw [show i = 8 * q + r by omega, Nat.pow_add, Nat.pow_mul]
  have e1 : (18446744073709551616 : Nat) = 256 ^ r * 256 ^ (8 - r) := by rw [← Nat.pow_add, show r + (8 - r) = 8 by omega]
  have e3 : (256 : Nat) ^ (8 - r) = 256 * 256 ^ (7 - r) := by rw [show 8 - r = (7 - r) + 1 by omega, Nat.pow_succ, Nat.mul_comm]
  rw [hq, hr, e2, ← Nat.div_div_eq_div_mul, show (2 : Nat) ^ (8 * r) = 256 ^ r by rw [Nat.pow_mul]]
  generalize n / 18446744073709551616 ^ q = m
  rw [e1, Nat.mod_mul_right_div_self, e3, Nat.mod_mul_right_mod]
theorem leL_succ (n k : Nat) : leL n (k + 1) = leL n k ++ [(n / 256 ^ k % 256).toUInt8] := rfl
/-- a byte laid above what a word has -/
theorem or_byte (a b r : Nat) (ha : a < 256 ^ r) (hb : b < 256) (hr : r < 8) : a ||| b * 2 ^ (8 * r) = a + b * 256 ^ r ∧ b * 2 ^ (8 * r) < 18446744073709551616 ∧ a + b * 256 ^ r < 18446744073709551616 := by
  have e : (2 : Nat) ^ (8 * r) = 256 ^ r := by rw [Nat.pow_mul]
  have h1 : a + b * 256 ^ r < 256 ^ (r + 1) := by
    rw [Nat.pow_succ]
    have := Nat.mul_le_mul_right (256 ^ r) (show b ≤ 255 by omega)
    omega
  have h2 : (256 : Nat) ^ (r + 1) ≤ 256 ^ 8 := Nat.pow_le_pow_right (by decide) (by omega)
  have h3 : (256 : Nat) ^ 8 = 18446744073709551616 := by decide
  refine ⟨?_, by rw [e]; omega, by omega⟩
  rw [Nat.or_comm, Nat.mul_comm b (2 ^ (8 * r)), ← Nat.two_pow_add_eq_or_of_lt (by rw [e]; exact ha), e, Nat.mul_comm (256 ^ r) b]
  omega
theorem valK_at_le (l : List Nat) (q : Nat) : 18446744073709551616 ^ q * l.getD q 0 ≤ valK l := by
  by_cases h : q < l.length
  · have h1 := valK_append (l.take (q + 1)) (l.drop (q + 1))
    rw [List.take_append_drop, valK_take_succ] at h1
    omega
  · rw [getD_past (by omega)]
    omega
/-- one byte more -/
theorem put_byte (l : List Nat) (i b : Nat) (hl : l.length = 4) (hi : i < 32) (hv : valK l < 256 ^ i) :
    l.getD (i / 8) 0 < 256 ^ (i % 8) ∧ valK (l.set (i / 8) (l.getD (i / 8) 0 + b * 256 ^ (i % 8))) = valK l + 256 ^ i * b := by
  have e : (256 : Nat) ^ i = 18446744073709551616 ^ (i / 8) * 256 ^ (i % 8) := by
    rw [show (18446744073709551616 : Nat) = 256 ^ 8 by decide, ← Nat.pow_mul, ← Nat.pow_add, Nat.div_add_mod]
  constructor
  · have h1 := valK_at_le l (i / 8)
    rw [e] at hv
    exact Nat.lt_of_mul_lt_mul_left (Nat.lt_of_le_of_lt h1 hv)
  · have h1 := valK_set l (i / 8) (l.getD (i / 8) 0 + b * 256 ^ (i % 8)) (by omega)
    rw [e]
    rw [Nat.mul_add] at h1
    have h2 : 18446744073709551616 ^ (i / 8) * (b * 256 ^ (i % 8)) = 18446744073709551616 ^ (i / 8) * 256 ^ (i % 8) * b := by
      rw [Nat.mul_comm b, Nat.mul_assoc]
    omega
theorem numLE_take (l : List UInt8) (i : Nat) (h : i < l.length) : numLE (l.take (i + 1)) = numLE (l.take i) + 256 ^ i * (l.getD i 0).toNat := by
  rw [take_getD l i h, numLE_append, List.length_take, Nat.min_eq_left (by omega)]
  simp [numLE]
end Go.Proofs.YtfleimaoaicolaaDoor.F

/- The bytes of a point and of its contrary. -/
namespace Go.Proofs.YtfleimaoaicolaaDoor.C
open Go.RowKit Go.Proofs.YtfleimaoaicolaaDoor.F
set_option maxRecDepth 100000

theorem leL_same (y b : Nat) : ∀ k, k ≤ 31 → leL (y + two255 * b) k = leL y k
  | 0, _ => rfl
  | k + 1, h => by
    rw [leL_succ, leL_succ, leL_same y b k (by omega)]
    congr 2
    have e : two255 * b = 256 ^ k * (256 * (2 ^ (255 - 8 * (k + 1)) * b)) := by
      have h1 : two255 = 256 ^ k * (256 * 2 ^ (255 - 8 * (k + 1))) := by
        rw [show two255 = 2 ^ 255 by decide, show (256 : Nat) = 2 ^ 8 by decide, ← Nat.pow_mul, ← Nat.pow_add, ← Nat.pow_add]
        congr 1
        omega
      rw [h1, Nat.mul_assoc, Nat.mul_assoc]
    rw [e, Nat.add_mul_div_left _ _ (Nat.pow_pos (by decide)), Nat.add_mul_mod_self_left]
/-- y's highest seven bits -/
def topN (P : Pt) : Nat := P.y.val / 256 ^ 31
theorem topN_lt (P : Pt) : topN P < 128 := by
  have h : P.y.val < p25 := P.y.isLt
  unfold topN p25 at *
  omega
theorem text_list (P : Pt) : textN P = ⟨(leL P.y.val 31 ++ [(topN P + 128 * (P.x.val % 2)).toUInt8]).toArray⟩ := by
  have ht := topN_lt P
  have hb : P.x.val % 2 < 2 := Nat.mod_lt _ (by decide)
  unfold textN
  rw [show (32 : Nat) = 31 + 1 from rfl, leL_succ, leL_same _ _ 31 (Nat.le_refl _)]
  have e : (P.y.val + two255 * (P.x.val % 2)) / 256 ^ 31 % 256 = topN P + 128 * (P.x.val % 2) := by
    unfold topN at *
    rw [show two255 = 256 ^ 31 * 128 by decide, Nat.mul_assoc, Nat.add_mul_div_left _ _ (Nat.pow_pos (by decide))]
    omega
  rw [e]
theorem neg_parity (P : Pt) : (P.x.val = 0 ∧ P.neg.x.val = 0) ∨ (P.x.val ≠ 0 ∧ P.neg.x.val % 2 = 1 - P.x.val % 2) := by
  have hx : P.x.val < p25 := P.x.isLt
  have hn : P.neg.x.val = (p25 - P.x.val) % p25 := by
    have h := val_mod (p25 - P.x.val % p25)
    rw [z_neg, z_back, Nat.mod_eq_of_lt hx] at h
    exact h
  have hp : p25 % 2 = 1 := by decide
  by_cases h0 : P.x.val = 0
  · refine .inl ⟨h0, ?_⟩
    rw [hn, h0, Nat.sub_zero, Nat.mod_self]
  · refine .inr ⟨h0, ?_⟩
    have h3 : (p25 - P.x.val) % p25 = p25 - P.x.val := Nat.mod_eq_of_lt (by omega)
    rw [hn, h3]
    omega
theorem xor_same : ∀ n : Fin 256, bits BinOp.xor IntKind.u8 ((n.val : Nat) : Int) ((n.val : Nat) : Int) = 0 := by decide +kernel
theorem xor_top : ∀ n : Fin 128, bits BinOp.xor IntKind.u8 ((n.val : Nat) : Int) ((n.val + 128 : Nat) : Int) = 128 ∧ bits BinOp.xor IntKind.u8 ((n.val + 128 : Nat) : Int) ((n.val : Nat) : Int) = 128 := by decide +kernel
theorem last_byte {A : List UInt8} {x : Nat} {s : ByteArray} (hl : A.length = 31) (hx : x < 256) (es : s = ⟨(A ++ [x.toUInt8]).toArray⟩) (h : 31 < s.size) : (s[31]'h).toNat = x := by
  subst es
  show ((A ++ [x.toUInt8]).toArray[31]'_).toNat = x
  rw [List.getElem_toArray, List.getElem_append_right (by omega)]
  simp only [hl, Nat.sub_self, List.getElem_cons_zero]
  rw [Nat.toUInt8, UInt8.toNat_ofNat']
  omega
theorem sign_bytes {A : List UInt8} {h b c : Nat} {s t : ByteArray} (hl : A.length = 31) (hh : h < 128) (hb : b < 2) (hc : c < 2) (es : s = ⟨(A ++ [(h + 128 * b).toUInt8]).toArray⟩) (et : t = ⟨(A ++ [(h + 128 * c).toUInt8]).toArray⟩) (ps : 31 < s.size) (pt : 31 < t.size) (z : Bool)
    (hz : (z = true ∧ b = c) ∨ (z = false ∧ c = 1 - b)) :
    (bits BinOp.xor IntKind.u8 (((s[31]'ps).toNat : Nat) : Int) (((t[31]'pt).toNat : Nat) : Int) == 128) = !z ∧ (s.toList == t.toList) = z := by
  rw [last_byte hl (by omega) es ps, last_byte hl (by omega) et pt]
  rcases hz with ⟨rfl, rfl⟩ | ⟨rfl, hbc⟩
  · rw [xor_same ⟨h + 128 * b, by omega⟩]
    refine ⟨rfl, ?_⟩
    rw [es, et]
    exact beq_self_eq_true _
  · have hx : bits BinOp.xor IntKind.u8 ((h + 128 * b : Nat) : Int) ((h + 128 * c : Nat) : Int) = 128 := by
      have h2 := xor_top ⟨h, hh⟩
      have : b = 0 ∨ b = 1 := by omega
      rcases this with rfl | rfl
      · obtain rfl : c = 1 := by omega
        exact h2.1
      · obtain rfl : c = 0 := by omega
        exact h2.2
    rw [hx]
    refine ⟨rfl, ?_⟩
    rw [beq_eq_false_iff_ne]
    intro e
    rw [ByteArray.toList_eq, ByteArray.toList_eq, es, et] at e
    have e2 : A ++ [(h + 128 * b).toUInt8] = A ++ [(h + 128 * c).toUInt8] := e
    have e3 := List.append_cancel_left e2
    injection e3 with e4 _
    have e5 := congrArg UInt8.toNat e4
    simp only [Nat.toUInt8, UInt8.toNat_ofNat'] at e5
    omega
/-- two texts: the same but for the last byte -/
theorem sign_texts (P : Pt) : ∃ (A : List UInt8) (h : Nat) (b c : Nat), A.length = 31 ∧ h < 128 ∧ b < 2 ∧ c < 2 ∧ textN P = ⟨(A ++ [(h + 128 * b).toUInt8]).toArray⟩ ∧ textN P.neg = ⟨(A ++ [(h + 128 * c).toUInt8]).toArray⟩ ∧
    ((P.x.val = 0 ∧ b = c) ∨ (P.x.val ≠ 0 ∧ c = 1 - b)) := by
  refine ⟨leL P.y.val 31, topN P, P.x.val % 2, P.neg.x.val % 2, leL_length _ _, topN_lt P, Nat.mod_lt _ (by decide), Nat.mod_lt _ (by decide), text_list P, text_list P.neg, ?_⟩
  rcases neg_parity P with ⟨h1, h2⟩ | ⟨h1, h2⟩
  · exact .inl ⟨h1, by rw [h1, h2]⟩
  · exact .inr ⟨h1, h2⟩
end Go.Proofs.YtfleimaoaicolaaDoor.C

/- The contract of the reference's Text. -/
namespace Go.Proofs.YtfleimaoaicolaaDoor.C
open Go.RowKit Go.Sort Go.Proofs.YtfleimaoaicolaaDoor.F
set_option maxRecDepth 100000

theorem text_even (P : Pt) (h : P.x.val % 2 = 0) : textN P = ⟨(leL P.y.val 32).toArray⟩ := by
  unfold textN
  rw [h, Nat.mul_zero, Nat.add_zero]
theorem y_list (P : Pt) : (⟨(leL P.y.val 32).toArray⟩ : ByteArray) = ⟨(leL P.y.val 31 ++ [(topN P).toUInt8]).toArray⟩ := by
  have ht := topN_lt P
  rw [show (32 : Nat) = 31 + 1 from rfl, leL_succ]
  unfold topN at *
  rw [Nat.mod_eq_of_lt (show P.y.val / 256 ^ 31 < 256 by omega)]
attribute [local irreducible] feA

set_option maxHeartbeats 800000 in
theorem refText_any (P : Pt) (W : World) :
    Calls Tryd.prog 25 #[af P.x.val P.y.val] W fun e w' => e = .returned (.string (textN P)) ∧ Below W.heap.size W w' := by
  have hyK := below_K P.y.isLt
  have HB := Lib.hid (fun w => refBytes_any P.y.val w hyK)
  rw [Nat.mod_eq_of_lt P.y.isLt, y_list P] at HB
  obtain ⟨x0, x1, x2, x3, hx, hx2, _⟩ := word_low P.x.val
  have ht := topN_lt P
  have htl := text_list P
  have hl := leL_length P.y.val 31
  generalize leL P.y.val 31 = LA at *
  generalize topN P = tp at *
  generalize hV : textN P = V at *
  clear hV
  obtain ⟨S, hS⟩ : ∃ S : ByteArray, (⟨(LA ++ [tp.toUInt8]).toArray⟩ : ByteArray) = S := ⟨_, rfl⟩
  rw [hS] at HB
  go_enter Tryd.func25, Tryd.ntmps25
  have hz := Lies.new W 31 (afA P.x.val P.y.val)
  have hB := (Below.refl W.heap.size W).alloc (Nat.le_refl _) (.cells (afA P.x.val P.y.val) 31)
  go_upto_region 1 with fail
  generalize World.alloc W _ = w0 at *
  have hzY := af_Y hz
  go_upto_region 2 with (first
    | ((with_reducible refine wpL_loadMid W.heap.size 4 (feA P.y.val).toList 4 rowFe (by rw [Array.length_toList]; exact feA_size _) hzY ?_ ?_); rfl; rw [Array.toArray_toList])
    | (go_at_call 52; (with_reducible refine (HB.out _).mono ?_); rintro e w1 ⟨rfl, hb⟩; replace hz := hz.on hb; replace hB := below_on hB hb; clear hb hzY))
  have c0 : w1.cell? ⟨W.heap.size, 0, none⟩ = some (w64 x0) := by
    have h := af_X hz 0 (w64 x0) (by rw [hx]; rfl)
    exact h
  clear hx hz
  by_cases h1 : P.x.val % 2 = 1
  · have hx1 : (x0 : Int) % 2 = 1 := by omega
    have hSs : (S.size : Int) = 32 := by
      rw [← hS]
      show (((LA ++ [tp.toUInt8]).toArray.size : Nat) : Int) = 32
      simp [hl]
    have hSz : 31 < S.size := by omega
    have hidx : (((S[31]'hSz).toNat : Nat) : Int) = (tp : Int) := by rw [last_byte hl (by omega) hS.symm hSz]
    obtain ⟨q, hq⟩ : ∃ q, tp + 128 = q := ⟨_, rfl⟩
    have hq1 : ((tp : Int) + 128) % 256 = (q : Int) := by omega
    have hq2 : IntKind.u8.wrap ((tp : Int) + 128) = (q : Int) := by rw [IntKind.wrap_u8]; omega
    have hsl : S.extract 0 31 = ⟨LA.toArray⟩ := by
      rw [← hS]
      apply ByteArray.ext
      apply Array.ext'
      simp only [ByteArray.data_extract, Array.toList_extract, List.extract_eq_take_drop, List.drop_zero]
      rw [List.take_append_of_le_length (by omega), List.take_of_length_le (by omega)]
    have hcv : (convert 76 9 (.slice (some ⟨w1.heap.size, 0, none⟩) 1 1)).run Tryd.prog (w1.alloc (.cells #[.int .u8 (q : Int)] 5)).drew = .ok (.string ⟨[q.toUInt8].toArray⟩) (w1.alloc (.cells #[.int .u8 (q : Int)] 5)).drew := by
      refine run_convert_bytes_back (P := Tryd.prog) _ 76 9 5 ⟨w1.heap.size, 0, none⟩ 1 [q.toUInt8] Tryd.underlying76 Tryd.underlying5 Tryd.underlying9 (fun j hj => ?_)
      obtain rfl : j = 0 := by simpa using hj
      have hn := (Lies.new w1 5 #[.int .u8 (q : Int)]).drew.cell 0
      rw [Addr.add_mid]
      refine hn.trans ?_
      show some (Value.int .u8 (q : Int)) = some (Value.int .u8 ((q.toUInt8.toNat : Nat) : Int))
      rw [show q.toUInt8.toNat = q by rw [Nat.toUInt8, UInt8.toNat_ofNat']; omega]
    have hV : V = ⟨LA.toArray⟩ ++ ⟨[q.toUInt8].toArray⟩ := by
      rw [htl, h1, Nat.mul_one, hq]
      apply ByteArray.ext
      apply Array.ext'
      simp
    have hsz1 : ((⟨LA.toArray⟩ : ByteArray).size : Int) = 31 := by
      show ((LA.toArray.size : Nat) : Int) = 31
      simp [hl]
    have hsz2 : ((⟨[q.toUInt8].toArray⟩ : ByteArray).size : Int) = 1 := rfl
    have hBn := (hB.alloc (Nat.le_trans hB.size (Nat.le_refl _)) (.cells #[.int .u8 (q : Int)] 5)).drew
    clear htl hq ht
    generalize (⟨LA.toArray⟩ : ByteArray) = L1 at *
    generalize (⟨[q.toUInt8].toArray⟩ : ByteArray) = L2 at *
    go_upto_region 3 with fail
    go_region
    all_goals
      go_wp2_with fail
      go_ret
      exact ⟨by rw [hV]; rfl, hBn⟩
  · have hx1 : (x0 : Int) % 2 = 0 := by omega
    have hV : V = S := by
      rw [htl, ← hS, show P.x.val % 2 = 0 by omega, Nat.mul_zero, Nat.add_zero]
    go_wp2_with fail
    go_ret
    exact ⟨by rw [hV]; rfl, hB⟩
end Go.Proofs.YtfleimaoaicolaaDoor.C

/- Operations on texts, run by themselves. -/
namespace Go.Proofs.YtfleimaoaicolaaDoor.C
open Go.RowKit Go.Sort Go.Proofs.YtfleimaoaicolaaDoor.F
set_option maxRecDepth 100000
section
variable {a : Act} {d : Option Tmp} {x y : Tmp} {t' : TypeId} {pos : String} {after : Array Edge} {gd : Option (Nat × Bool)} {r : TypeId}
theorem run_slice31 (s : ByteArray) (hs : s.size = 32) (hx : a.eval (.tmp x) = .string s) (w : World) :
    (execOp a.eval ⟨d, .slice 9 (.tmp x) none (some (.const (.int .i64 31))) none, t', pos, after, gd⟩).run Tryd.prog w = .ok (.value (.string (s.extract 0 31))) w := by
  have h2 : a.eval (.const (.int .i64 31)) = .int .i64 31 := rfl
  unfold execOp
  simp only [hx, h2, Option.map_some, Option.map_none]
  simp [Instr.sliceAt, run_underlying Tryd.underlying9, go_sem, hs]
theorem run_index31 (s : ByteArray) (hs : 31 < s.size) (c : Nat) (hc : (s[31]'hs).toNat = c) (hx : a.eval (.tmp x) = .string s) (w : World) :
    (execOp a.eval ⟨d, .index 9 (.tmp x) (.const (.int .i64 31)), t', pos, after, gd⟩).run Tryd.prog w = .ok (.value (.int .u8 (c : Int))) w := by
  have h2 : a.eval (.const (.int .i64 31)) = .int .i64 31 := rfl
  have h3 : s[31]? = some (s[31]'hs) := getElem?_pos s 31 hs
  unfold execOp
  simp only [hx, h2]
  simp [Instr.index, run_underlying Tryd.underlying9, go_sem, h3, hc]
theorem run_rem128 (c : Nat) (hx : a.eval (.tmp x) = .int .u8 (c : Int)) (w : World) :
    (execOp a.eval ⟨d, .binOp .rem 5 (.tmp x) (.const (.int .u8 128)) r, t', pos, after, gd⟩).run Tryd.prog w = .ok (.value (.int .u8 ((c % 128 : Nat) : Int))) w := by
  have h2 : a.eval (.const (.int .u8 128)) = .int .u8 128 := rfl
  have h3 : Int.tmod (c : Int) 128 = (c : Int) % 128 := Int.tmod_eq_emod_of_nonneg (by omega)
  unfold execOp
  simp only [hx, h2]
  simp [go_sem, h3]
theorem run_cat (s t : ByteArray) (hs : s.size + t.size ≤ 100) (hx : a.eval (.tmp x) = .string s) (hy : a.eval (.tmp y) = .string t) (w : World) :
    (execOp a.eval ⟨d, .binOp .add 9 (.tmp x) (.tmp y) r, t', pos, after, gd⟩).run Tryd.prog w = .ok (.value (.string (s ++ t))) w := by
  have h3 : ¬ (9223372036854775807 < s.size + t.size) := by omega
  unfold execOp
  simp only [hx, hy]
  simp [go_sem, h3]
theorem run_conv1 (g c : Nat) (hc : c < 256) (w : World) (hcell : w.cell? ⟨g, 0, none⟩ = some (.int .u8 (c : Int))) (hx : a.eval (.tmp x) = .slice (some ⟨g, 0, none⟩) 1 1) :
    (execOp a.eval ⟨d, .convert 76 9 (.tmp x), t', pos, after, gd⟩).run Tryd.prog w = .ok (.value (.string ⟨[c.toUInt8].toArray⟩)) w := by
  have h := run_convert_bytes_back (P := Tryd.prog) w 76 9 5 ⟨g, 0, none⟩ 1 [c.toUInt8] Tryd.underlying76 Tryd.underlying5 Tryd.underlying9 (fun j hj => by
    obtain rfl : j = 0 := by simpa using hj
    rw [Addr.add_mid]
    refine hcell.trans ?_
    show some (Value.int .u8 (c : Int)) = some (Value.int .u8 ((c.toUInt8.toNat : Nat) : Int))
    rw [show c.toUInt8.toNat = c by rw [Nat.toUInt8, UInt8.toNat_ofNat']; omega])
  unfold execOp
  simp only [hx, Sem.run_bind, Sem.run_pure]
  rw [show ([c.toUInt8] : List UInt8).length = 1 from rfl] at h
  rw [h]
  rfl
end
end Go.Proofs.YtfleimaoaicolaaDoor.C

/- The contract of the reference's Parse. -/
namespace Go.Proofs.YtfleimaoaicolaaDoor.C
open Go.RowKit Go.Sort Go.Proofs.YtfleimaoaicolaaDoor.F
set_option maxRecDepth 100000

theorem last_split (s : ByteArray) (hs : s.size = 32) : ∃ (A : List UInt8) (c : Nat), A.length = 31 ∧ c < 256 ∧ s = ⟨(A ++ [c.toUInt8]).toArray⟩ := by
  have hl : s.data.toList.length = 32 := by rw [← Lib.size_eq]; exact hs
  refine ⟨s.data.toList.take 31, (s.data.toList[31]'(by omega)).toNat, by rw [List.length_take]; omega, u8_lt _, ?_⟩
  apply ByteArray.ext
  apply Array.ext'
  show s.data.toList = s.data.toList.take 31 ++ [((s.data.toList[31]'(by omega)).toNat).toUInt8]
  rw [show ((s.data.toList[31]'(by omega)).toNat).toUInt8 = s.data.toList[31]'(by omega) by simp [Nat.toUInt8]]
  have h2 : s.data.toList.drop 31 = [s.data.toList[31]'(by omega)] := by
    rw [List.drop_eq_getElem_cons (by omega), List.drop_of_length_le (by omega)]
  conv => lhs; rw [← List.take_append_drop 31 s.data.toList, h2]
theorem num_parts (A : List UInt8) (c : Nat) (hl : A.length = 31) (hc : c < 256) : numLE (A ++ [(c % 128).toUInt8]) = numLE (A ++ [c.toUInt8]) % two255 ∧ decide (two255 ≤ numLE (A ++ [c.toUInt8])) = decide (128 ≤ c) := by
  have hA := numLE_lt A
  rw [hl] at hA
  rw [numLE_append, numLE_append, hl]
  have e1 : numLE [c.toUInt8] = c := by
    simp only [numLE, Nat.toUInt8, UInt8.toNat_ofNat']
    omega
  have e2 : numLE [(c % 128).toUInt8] = c % 128 := by
    simp only [numLE, Nat.toUInt8, UInt8.toNat_ofNat']
    omega
  rw [e1, e2, show two255 = 256 ^ 31 * 128 by decide]
  generalize (256 : Nat) ^ 31 = K at *
  generalize numLE A = N at *
  have hdm := Nat.div_add_mod c 128
  have hc2 : c / 128 < 2 := by omega
  constructor
  · have h1 : K * (c % 128) + K * 128 * (c / 128) = K * c := by
      conv => rhs; rw [← hdm, Nat.mul_add]
      rw [Nat.mul_assoc]
      omega
    have h2 : K * (c % 128) ≤ K * 127 := Nat.mul_le_mul_left K (by omega)
    rw [← h1, ← Nat.add_assoc, Nat.add_mul_mod_self_left]
    exact (Nat.mod_eq_of_lt (by omega)).symm
  · by_cases h : 128 ≤ c
    · rw [decide_eq_true h, decide_eq_true]
      have := Nat.mul_le_mul_left K h
      omega
    · rw [decide_eq_false h, decide_eq_false]
      have := Nat.mul_le_mul_left K (show c ≤ 127 by omega)
      omega
theorem af_zero : af 0 0 = .agg #[.int .u64 0, .int .u64 0, .int .u64 0, .int .u64 0, .int .u64 0, .int .u64 0, .int .u64 0, .int .u64 0] := by unfold af afA feA; rfl
attribute [local irreducible] feA
abbrev sayByte (c : Nat) : Said := fun v w => ∃ g, v = .slice (some ⟨g, 0, none⟩) 1 1 ∧ w.cell? ⟨g, 0, none⟩ = some (.int .u8 (c : Int))
theorem sayByte_mono (c : Nat) : ∀ v w w', sayByte c v w → Below w.heap.size w w' → sayByte c v w' := fun _ _ _ ⟨g, h1, h2⟩ hb => ⟨g, h1, (hb.cell (p := ⟨g, 0, none⟩) (World.block_lt_of_cell? _ _ h2)).trans h2⟩
abbrev sayNew (B : Nat) : Said := fun v w => ∃ k, v = .pointer (some ⟨k, 0, none⟩) ∧ B ≤ k ∧ Lies w k 24 fe0A
theorem sayNew_mono (B : Nat) : ∀ v w w', sayNew B v w → Below w.heap.size w w' → sayNew B v w' := fun _ _ _ ⟨k, h1, h2, h3⟩ hb => ⟨k, h1, h2, h3.on hb⟩

set_option maxHeartbeats 3200000 in
theorem refParseP_any (s : ByteArray) (hs : s.size = 32) (W : World) :
    Calls Tryd.prog 27 #[.string s] W fun e w' =>
      e = .returned (if parseB (numLE s.data.toList % two255) (decide (two255 ≤ numLE s.data.toList)) = true then .tuple #[af (xOf (numLE s.data.toList % two255) (decide (two255 ≤ numLE s.data.toList))) (numLE s.data.toList % two255), .bool true] else .tuple #[af 0 0, .bool false]) ∧ Below W.heap.size W w' := by
  obtain ⟨A, c, hl, hc, es⟩ := last_split s hs
  obtain ⟨hn1, hn2⟩ := num_parts A c hl hc
  have hnum : numLE s.data.toList = numLE (A ++ [c.toUInt8]) := by rw [es]
  rw [hnum, ← hn1, hn2]
  have hS31 : 31 < s.size := by omega
  have hidx := last_byte hl hc es hS31
  have hsl : s.extract 0 31 = ⟨A.toArray⟩ := by
    rw [es]
    apply ByteArray.ext
    apply Array.ext'
    simp only [ByteArray.data_extract, Array.toList_extract, List.extract_eq_take_drop, List.drop_zero]
    rw [List.take_append_of_le_length (by omega), List.take_of_length_le (by omega)]
  have hcat : (⟨A.toArray⟩ ++ ⟨[(c % 128).toUInt8].toArray⟩ : ByteArray) = ⟨(A ++ [(c % 128).toUInt8]).toArray⟩ := by
    apply ByteArray.ext
    apply Array.ext'
    simp
  have hcs : (⟨(A ++ [(c % 128).toUInt8]).toArray⟩ : ByteArray).size = 32 := by
    show (A ++ [(c % 128).toUInt8]).toArray.size = 32
    simp [hl]
  have HP := Lib.hid (fun w => refParse_any ⟨(A ++ [(c % 128).toUInt8]).toArray⟩ hcs w)
  rw [show ((⟨(A ++ [(c % 128).toUInt8]).toArray⟩ : ByteArray).data.toList) = A ++ [(c % 128).toUInt8] from rfl] at HP
  have hyK : numLE (A ++ [(c % 128).toUInt8]) < K256 := by
    have h := numLE_lt (A ++ [(c % 128).toUInt8])
    rw [show (A ++ [(c % 128).toUInt8]).length = 32 by simp [hl]] at h
    exact h
  generalize numLE (A ++ [(c % 128).toUInt8]) = y at *
  have hsz1 : (⟨A.toArray⟩ : ByteArray).size = 31 := by
    show A.toArray.size = 31
    simp [hl]
  have hsz2 : (⟨[(c % 128).toUInt8].toArray⟩ : ByteArray).size = 1 := rfl
  clear hnum hn1 hn2 es hl
  obtain ⟨S1, hS1⟩ : ∃ S, (⟨A.toArray⟩ : ByteArray) = S := ⟨_, rfl⟩
  obtain ⟨S3, hS3⟩ : ∃ S, (⟨(A ++ [(c % 128).toUInt8]).toArray⟩ : ByteArray) = S := ⟨_, rfl⟩
  rw [hS1] at hsl hcat hsz1
  rw [hS3] at hcat hcs HP
  clear hS1 hS3
  have hoB : decide ((128 : Int) ≤ (c : Int)) = decide (128 ≤ c) := by
    by_cases h : 128 ≤ c
    · rw [decide_eq_true h, decide_eq_true (show (128 : Int) ≤ (c : Int) by omega)]
    · rw [decide_eq_false h, decide_eq_false (show ¬ (128 : Int) ≤ (c : Int) by omega)]
  have hidx' : (((s[31]'hS31).toNat : Nat) : Int) = (c : Int) := by rw [hidx]
  obtain ⟨ob, hob⟩ : ∃ ob, decide (128 ≤ c) = ob := ⟨_, rfl⟩
  rw [hob] at hoB ⊢
  clear hob
  have hs32i : (s.size : Int) = 32 := by omega
  obtain ⟨V, hVV⟩ : ∃ V, (if parseB y ob = true then Value.tuple #[af (xOf y ob) y, .bool true] else .tuple #[af 0 0, .bool false]) = V := ⟨_, rfl⟩
  rw [hVV]
  have HVV := Lib.hid hVV
  clear hVV
  go_enter Tryd.func27, Tryd.ntmps27
  have hr := Lies.new W 31 (#[.int .u64 0, .int .u64 0, .int .u64 0, .int .u64 0, .int .u64 0, .int .u64 0, .int .u64 0, .int .u64 0] : Array Value)
  have hB := (Below.refl W.heap.size W).alloc (Nat.le_refl _) (.cells (#[.int .u64 0, .int .u64 0, .int .u64 0, .int .u64 0, .int .u64 0, .int .u64 0, .int .u64 0, .int .u64 0] : Array Value) 31)
  go_upto_region 1 with fail
  generalize World.alloc W _ = w0 at *
  go_upto_region 2 with fail
  obtain ⟨yb, hyb⟩ : ∃ yb, decide (y < p25) = yb := ⟨_, rfl⟩
  rw [hyb] at HP
  refine wp_region_rel_late 11 13 13 _ [sayFix (.string s), sayFix (.string S1), sayFix (.string s), sayFix (.int .u8 (c : Int)), sayFix (.int .u8 ((c % 128 : Nat) : Int)), sayByte (c % 128), sayFix (.string ⟨[(c % 128).toUInt8].toArray⟩), sayFix (.string S3), sayFix (.tuple #[fe y, .bool yb]), sayFix (.tuple #[fe y, .bool yb]), sayFix (fe y), sayFix (.bool yb), sayNew w0.heap.size] rfl rfl (by kernel_rfl) (by kernel_rfl) (by kernel_rfl) (fun r hr => by
    simp only [List.mem_cons, List.not_mem_nil, or_false] at hr
    rcases hr with rfl | rfl | rfl | rfl | rfl | rfl | rfl | rfl | rfl | rfl | rfl | rfl | rfl <;> first | exact sayFix_mono _ | exact sayByte_mono _ | exact sayNew_mono _) ?_
  simp only [addEdge, List.take_succ_cons, List.take_zero, List.drop_succ_cons, List.drop_zero, List.zip_cons_cons, List.zip_nil_right]
  refine wpRel_step (fun w hb hG => does_run (.string s) rfl rfl) (fun v0 => ?_)
  simp only [Act.put, List.setIfInBounds_toArray, List.set_cons_succ, List.set_cons_zero, Option.getD_some]
  refine wpRel_step (fun w hb hG => ?_) (fun v1 => ?_)
  · obtain rfl := laid_at 0 hG rfl (by decide)
    exact does_run (.string S1) (by rw [← hsl]; exact run_slice31 s hs rfl w) rfl
  simp only [Act.put, List.setIfInBounds_toArray, List.set_cons_succ, List.set_cons_zero, Option.getD_some]
  refine wpRel_step (fun w hb hG => does_run (.string s) rfl rfl) (fun v2 => ?_)
  simp only [Act.put, List.setIfInBounds_toArray, List.set_cons_succ, List.set_cons_zero, Option.getD_some]
  refine wpRel_step (fun w hb hG => ?_) (fun v3 => ?_)
  · obtain rfl := laid_at 0 hG rfl (by decide)
    exact does_run (.int .u8 (c : Int)) (run_index31 s hS31 c hidx rfl w) rfl
  simp only [Act.put, List.setIfInBounds_toArray, List.set_cons_succ, List.set_cons_zero, Option.getD_some]
  refine wpRel_step (fun w hb hG => ?_) (fun v4 => ?_)
  · obtain rfl := laid_at 0 hG rfl (by decide)
    exact does_run (.int .u8 ((c % 128 : Nat) : Int)) (run_rem128 c rfl w) rfl
  simp only [Act.put, List.setIfInBounds_toArray, List.set_cons_succ, List.set_cons_zero, Option.getD_some]
  refine wpRel_step (fun w hb hG => ?_) (fun v5 => ?_)
  · obtain rfl := laid_at 0 hG rfl (by decide)
    exact does_made (.slice (some ⟨w.heap.size, 0, none⟩) 1 1) (w' := w.alloc (.cells #[.int .u8 ((c % 128 : Nat) : Int)] 5)) (by kernel_rfl) (grown_one w _) ⟨w.heap.size, rfl, (Lies.new w 5 #[.int .u8 ((c % 128 : Nat) : Int)]).cell 0⟩
  simp only [Act.put, List.setIfInBounds_toArray, List.set_cons_succ, List.set_cons_zero, Option.getD_some]
  refine wpRel_step (fun w hb hG => ?_) (fun v6 => ?_)
  · obtain ⟨g, rfl, hg⟩ := laid_at 0 hG rfl (by decide)
    exact does_run (.string ⟨[(c % 128).toUInt8].toArray⟩) (run_conv1 g (c % 128) (by omega) w hg rfl) rfl
  simp only [Act.put, List.setIfInBounds_toArray, List.set_cons_succ, List.set_cons_zero, Option.getD_some]
  refine wpRel_step (fun w hb hG => ?_) (fun v7 => ?_)
  · obtain rfl := laid_at 5 hG rfl (by decide)
    obtain rfl := laid_at 0 hG rfl (by decide)
    exact does_run (.string S3) (by rw [← hcat]; exact run_cat S1 _ (by rw [hsz1, hsz2]; decide) rfl rfl w) rfl
  simp only [Act.put, List.setIfInBounds_toArray, List.set_cons_succ, List.set_cons_zero, Option.getD_some]
  refine wpRel_step (fun w hb hG => ?_) (fun v8 => ?_)
  · obtain rfl := laid_at 0 hG rfl (by decide)
    exact does_call 55 #[.string S3] (by kernel_rfl) ((HP.out w).mono fun e w' ⟨he, h2⟩ => ⟨_, he, h2, rfl⟩)
  simp only [Act.put, List.setIfInBounds_toArray, List.set_cons_succ, List.set_cons_zero, Option.getD_some]
  refine wpRel_step (fun w hb hG => ?_) (fun v9 => ?_)
  · obtain rfl := laid_at 0 hG rfl (by decide)
    exact does_run (.tuple #[fe y, .bool yb]) rfl rfl
  simp only [Act.put, List.setIfInBounds_toArray, List.set_cons_succ, List.set_cons_zero, Option.getD_some]
  refine wpRel_step (fun w hb hG => ?_) (fun v10 => ?_)
  · obtain rfl := laid_at 0 hG rfl (by decide)
    exact does_run (fe y) (by kernel_rfl) rfl
  simp only [Act.put, List.setIfInBounds_toArray, List.set_cons_succ, List.set_cons_zero, Option.getD_some]
  refine wpRel_step (fun w hb hG => ?_) (fun v11 => ?_)
  · obtain rfl := laid_at 1 hG rfl (by decide)
    exact does_run (.bool yb) (by kernel_rfl) rfl
  simp only [Act.put, List.setIfInBounds_toArray, List.set_cons_succ, List.set_cons_zero, Option.getD_some]
  refine wpRel_step (fun w hb hG => does_made (.pointer (some ⟨w.heap.size, 0, none⟩)) (w' := w.alloc (.cells fe0A 24)) (by kernel_rfl) (grown_one w _) ⟨w.heap.size, rfl, hb.size, Lies.new w _ _⟩) (fun v12 => ?_)
  simp only [Act.put, List.setIfInBounds_toArray, List.set_cons_succ, List.set_cons_zero, Option.getD_some]
  refine wpRel_nil (fun w2 hb hG => ?_)
  obtain ⟨gy, rfl, hgy, hy0⟩ := hG _ (List.mem_of_getElem? (i := 0) rfl)
  obtain rfl := hG _ (List.mem_of_getElem? (i := 1) rfl)
  obtain rfl := hG _ (List.mem_of_getElem? (i := 2) rfl)
  clear hG
  have hrl := hr.lt
  replace hr := (hr.on hb).rowFar (show W.heap.size ≠ gy by omega) (feA y)
  have hsz := hB.size
  replace hB := below_rowSet (below_on hB hb) (show W.heap.size ≤ gy by omega) (feA y)
  have hy := hy0.row (feA y)
  go_upto_region 3 with ((with_reducible refine wpL_store gy 24 _ (feA y) 4 rowFe rfl (feA_size _) (feA_one _) hy0 ?_ ?_ ?_); rfl; rfl)
  clear hb hy0 HP hsl hcat hidx hidx' hoB hs32i hsz1 hsz2 hcs hS31 hs hc
  generalize World.setRow _ _ _ = w3 at *
  have zA : (#[.int .u64 0, .int .u64 0, .int .u64 0, .int .u64 0, .int .u64 0, .int .u64 0, .int .u64 0, .int .u64 0] : Array Value).size = 8 := rfl
  have z1 : Ones (#[.int .u64 0, .int .u64 0, .int .u64 0, .int .u64 0, .int .u64 0, .int .u64 0, .int .u64 0, .int .u64 0] : Array Value) := by unfold Ones; simp [Value.oneCell']
  have haf : af 0 0 = .agg #[.int .u64 0, .int .u64 0, .int .u64 0, .int .u64 0, .int .u64 0, .int .u64 0, .int .u64 0, .int .u64 0] := af_zero
  cases yb with
  | false =>
    have HR : Hid (V = .tuple #[af 0 0, .bool false]) := Lib.hid (by rw [← HVV.out, if_neg (by unfold parseB; rw [hyb]; simp)])
    rw [haf] at HR
    clear haf HVV hyb hsz hrl hgy hyK
    go_wp2_with ((with_reducible refine wpL_store W.heap.size 31 _ (#[.int .u64 0, .int .u64 0, .int .u64 0, .int .u64 0, .int .u64 0, .int .u64 0, .int .u64 0, .int .u64 0] : Array Value) 8 rowAf rfl zA z1 hr ?_ ?_ ?_); rfl; rfl)
    exact bodyPost_ret (results_row_tmp Tryd.results27 rowAf zA (hr.row _) rfl rfl) rfl ⟨by rw [HR.out]; rfl, below_rowSet hB (Nat.le_refl _) _⟩
  | true =>
    have HX := Lib.hid (fun w => refX_any y w hyK)
    have kxe := below_K (xE_lt y)
    have hxt : xOf y true = (0 + (p25 - xE y % p25)) % p25 := by unfold xOf; rw [if_pos rfl]
    have hxf : xOf y false = xE y := by unfold xOf; rw [if_neg (by decide)]
    have HS : Hid (∀ w, Calls Tryd.prog 49 #[.agg fe0A, fe (xE y)] w fun e w' => e = .returned (fe (xOf y true)) ∧ Below w.heap.size w w') := Lib.hid (fun w => by
      have h := refSub_any 0 (xE y) w (by decide) kxe
      rw [← hxt, show fe 0 = .agg fe0A from fe_word 0 (by decide)] at h
      exact h)
    have heq := fun w => zero_four (xE y) kxe w
    obtain ⟨bx, hbx⟩ : ∃ bx, xB y = bx := ⟨_, rfl⟩
    obtain ⟨ze, hze⟩ : ∃ ze, decide (xE y = 0) = ze := ⟨_, rfl⟩
    rw [hbx] at HX
    rw [hze] at heq
    obtain ⟨xe, hxe⟩ : ∃ xe, xE y = xe := ⟨_, rfl⟩
    rw [hxe] at HX HS heq hxf
    obtain ⟨xo, hxo⟩ : ∃ xo, xOf y true = xo := ⟨_, rfl⟩
    rw [hxo] at HS
    have HXF := Lib.hid hxf
    have HXO := Lib.hid hxo
    have HBX := Lib.hid hbx
    have HZE := Lib.hid hze
    have HYB := Lib.hid hyb
    clear hxt hxf hxo hbx hze hyb kxe
    go_upto_region 6 with (first
      | ((with_reducible refine wpL_load gy 24 (feA y) 4 rowFe (feA_size _) hy ?_ ?_); rfl)
      | (go_at_call 38; (with_reducible refine (HX.out _).mono ?_); rintro e w4 ⟨rfl, hb⟩; replace hy := hy.on hb; replace hr := hr.on hb; replace hB := below_on hB hb; clear hb)
      | ((with_reducible refine wpL_store w4.heap.size 24 _ (feA xe) 4 rowFe ?_ (feA_size _) (feA_one _) (Lies.new w4 _ _) ?_ ?_ ?_); rfl; rfl; rfl))
    have hx := newly_lies w4 24 fe0A (feA xe)
    have hnw := newly w4 (.cells fe0A 24) (feA xe)
    have hsz2 := hB.size
    have hrl2 := hr.lt
    have hyl2 := hy.lt
    replace hy := hy.on hnw
    replace hr := hr.on hnw
    replace hB := below_on hB hnw
    clear hnw HX
    generalize World.setRow _ _ _ = w5 at *
    generalize w4.heap.size = gx at *
    go_upto_region 7 with ((with_reducible refine wpL_store w5.heap.size 24 _ fe0A 4 rowFe ?_ rfl fe0A_one (Lies.new w5 _ _) ?_ ?_ ?_); rfl; rfl; rfl)
    have hz := newly_lies w5 24 fe0A fe0A
    have hnw := newly w5 (.cells fe0A 24) fe0A
    replace hx := hx.on hnw
    replace hy := hy.on hnw
    replace hr := hr.on hnw
    replace hB := below_on hB hnw
    clear hnw
    generalize World.setRow _ _ _ = w6 at *
    generalize w5.heap.size = gz at *
    have hyb := HYB.out
    cases bx with
    | false =>
      have HR : Hid (V = .tuple #[af 0 0, .bool false]) := Lib.hid (by rw [← HVV.out, if_neg (by unfold parseB; rw [hyb, HBX.out]; simp)])
      rw [haf] at HR
      clear haf HVV hyb hsz hrl hgy hyK HS hxe
      go_wp2_with (first
        | ((with_reducible refine wpL_load_g (gx) 24 (feA xe) 4 rowFe (feA_size _) hx ?_ ?_ ?_); rfl; rfl)
        | ((with_reducible refine wpL_load_g (gz) 24 fe0A 4 rowFe rfl hz ?_ ?_ ?_); rfl; rfl)
        | ((with_reducible refine wpL_store W.heap.size 31 _ (#[.int .u64 0, .int .u64 0, .int .u64 0, .int .u64 0, .int .u64 0, .int .u64 0, .int .u64 0, .int .u64 0] : Array Value) 8 rowAf rfl zA z1 hr ?_ ?_ ?_); rfl; rfl))
      exact bodyPost_ret (results_row_tmp Tryd.results27 rowAf zA (hr.row _) rfl rfl) rfl ⟨by rw [HR.out]; rfl, below_rowSet hB (Nat.le_refl _) _⟩
    | true =>
      cases ob with
      | false =>
        have HR : Hid (V = .tuple #[af xe y, .bool true]) := Lib.hid (by rw [← HVV.out, if_pos (by unfold parseB; rw [hyb, HBX.out]; rfl), HXF.out])
        clear haf HVV hyb hsz hrl hgy hyK HS hxe
        go_wp2_with (first
          | ((with_reducible refine wpL_load gx 24 (feA xe) 4 rowFe (feA_size _) hx ?_ ?_); rfl)
          | ((with_reducible refine wpL_load gy 24 (feA y) 4 rowFe (feA_size _) hy ?_ ?_); rfl)
          | ((with_reducible refine wpL_buildV (afA xe y) ?_ ?_); kernel_rfl)
          | ((with_reducible refine wpL_store W.heap.size 31 _ (afA xe y) 8 rowAf rfl (afA_size _ _) (afA_one _ _) hr ?_ ?_ ?_); rfl; rfl))
        exact bodyPost_ret (results_row_tmp Tryd.results27 rowAf (afA_size _ _) (hr.row _) rfl rfl) rfl ⟨by rw [HR.out]; rfl, below_rowSet hB (Nat.le_refl _) _⟩
      | true =>
        cases ze with
        | true =>
          have HR : Hid (V = .tuple #[af 0 0, .bool false]) := Lib.hid (by rw [← HVV.out, if_neg (by unfold parseB; rw [hyb, HBX.out, HZE.out]; simp)])
          rw [haf] at HR
          clear haf HVV hyb hsz hrl hgy hyK HS hxe
          go_wp2_with (first
            | ((with_reducible refine wpL_load_g (gx) 24 (feA xe) 4 rowFe (feA_size _) hx ?_ ?_ ?_); rfl; rfl)
            | ((with_reducible refine wpL_load_g (gz) 24 fe0A 4 rowFe rfl hz ?_ ?_ ?_); rfl; rfl)
            | ((with_reducible refine wpL_store W.heap.size 31 _ (#[.int .u64 0, .int .u64 0, .int .u64 0, .int .u64 0, .int .u64 0, .int .u64 0, .int .u64 0, .int .u64 0] : Array Value) 8 rowAf rfl zA z1 hr ?_ ?_ ?_); rfl; rfl))
          exact bodyPost_ret (results_row_tmp Tryd.results27 rowAf zA (hr.row _) rfl rfl) rfl ⟨by rw [HR.out]; rfl, below_rowSet hB (Nat.le_refl _) _⟩
        | false =>
          have HR : Hid (V = .tuple #[af xo y, .bool true]) := Lib.hid (by rw [← HVV.out, if_pos (by unfold parseB; rw [hyb, HBX.out, HZE.out]; rfl), HXO.out])
          clear haf HVV hyb hsz hrl hgy hyK hxe
          go_upto_region 10 with (first
            | ((with_reducible refine wpL_load_g (gx) 24 (feA xe) 4 rowFe (feA_size _) hx ?_ ?_ ?_); rfl; rfl)
            | ((with_reducible refine wpL_load_g (gz) 24 fe0A 4 rowFe rfl hz ?_ ?_ ?_); rfl; rfl))
          clear heq
          go_upto_region 11 with (first
            | ((with_reducible refine wpL_load gz 24 fe0A 4 rowFe rfl hz ?_ ?_); rfl)
            | ((with_reducible refine wpL_load gx 24 (feA xe) 4 rowFe (feA_size _) hx ?_ ?_); rfl)
            | (go_at_call 49; (with_reducible refine (HS.out _).mono ?_); rintro e w7 ⟨rfl, hb⟩; replace hx := hx.on hb; replace hy := hy.on hb; replace hr := hr.on hb; replace hB := below_on hB hb; clear hb)
            | ((with_reducible refine wpL_store gx 24 _ (feA xo) 4 rowFe (feA_size _) (feA_size _) (feA_one _) hx ?_ ?_ ?_); rfl; rfl))
          replace hx := hx.row (feA xo)
          replace hy := hy.rowFar (show gy ≠ gx by omega) (feA xo)
          replace hr := hr.rowFar (show W.heap.size ≠ gx by omega) (feA xo)
          replace hB := below_rowSet hB (show W.heap.size ≤ gx by omega) (feA xo)
          generalize World.setRow _ _ _ = w8 at *
          go_wp2_with (first
            | ((with_reducible refine wpL_load gx 24 (feA xo) 4 rowFe (feA_size _) hx ?_ ?_); rfl)
            | ((with_reducible refine wpL_load gy 24 (feA y) 4 rowFe (feA_size _) hy ?_ ?_); rfl)
            | ((with_reducible refine wpL_buildV (afA xo y) ?_ ?_); kernel_rfl)
            | ((with_reducible refine wpL_store W.heap.size 31 _ (afA xo y) 8 rowAf rfl (afA_size _ _) (afA_one _ _) hr ?_ ?_ ?_); rfl; rfl))
          exact bodyPost_ret (results_row_tmp Tryd.results27 rowAf (afA_size _ _) (hr.row _) rfl rfl) rfl ⟨by rw [HR.out]; rfl, below_rowSet hB (Nat.le_refl _) _⟩
end Go.Proofs.YtfleimaoaicolaaDoor.C

