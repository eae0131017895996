/- Texts that stand on one another, put together: Math, RowsMath, JMath, UMath. -/
import Derived.Laws.Bits64
import Derived.Laws.BitsLemmas
import Derived.Lib.Bytealg
import Derived.Lib.UnsafeStr
/- Plain facts about bytes' digits and numbers' bytes, as lists of bytes: nothing of the program is named here. -/
namespace Go.Proofs.YtdjglghecekeoaaGreatDoor

/-! ### numbers -/
/-- the number of bytes, the highest first -/
def numL (l : List UInt8) : Nat := l.foldl (fun a b => 256 * a + b.toNat) 0
theorem numL_snoc (l : List UInt8) (b : UInt8) : numL (l ++ [b]) = 256 * numL l + b.toNat := by simp [numL]
theorem u8_lt (b : UInt8) : b.toNat < 256 := UInt8.toNat_lt b
theorem toNat_mod (n : Nat) : ((n % 256).toUInt8).toNat = n % 256 := by simp
theorem numL_lt (l : List UInt8) : numL l < 256 ^ l.length := by
  suffices h : ∀ r : List UInt8, numL r.reverse < 256 ^ r.length by simpa using h l.reverse
  intro r
  induction r with
  | nil => simp [numL]
  | cons b r ih =>
    rw [List.reverse_cons, numL_snoc, List.length_cons, Nat.pow_succ]
    have := u8_lt b
    omega

/-- so many bytes of a number, the highest first -/
def bigL (n : Nat) : Nat → List UInt8
  | 0 => []
  | w + 1 => bigL (n / 256) w ++ [(n % 256).toUInt8]
theorem bigL_length (n w : Nat) : (bigL n w).length = w := by
  induction w generalizing n with
  | zero => rfl
  | succ w ih => simp [bigL, ih]
theorem bigL_head (n w : Nat) : bigL n (w + 1) = (n / 256 ^ w % 256).toUInt8 :: bigL n w := by
  induction w generalizing n with
  | zero => simp [bigL]
  | succ w ih =>
    rw [bigL, ih (n / 256), bigL, List.cons_append]
    rw [Nat.div_div_eq_div_mul, Nat.pow_succ, Nat.mul_comm]
theorem numL_bigL (n w : Nat) : numL (bigL n w) = n % 256 ^ w := by
  induction w generalizing n with
  | zero => simp [bigL, numL, Nat.mod_one]
  | succ w ih =>
    rw [bigL, numL_snoc, ih, toNat_mod, Nat.pow_succ, Nat.mul_comm (256 ^ w) 256, Nat.mod_mul]
    omega
/-! ### digits -/
/-- the sixteen digits -/
def digs : List UInt8 := [48, 49, 50, 51, 52, 53, 54, 55, 56, 57, 97, 98, 99, 100, 101, 102]
/-- what a digit is worth; -1: it is none -/
def dv (c : UInt8) : Int := Lib.indexByte digs c
/-! ### numbers in the walk's spelling -/
theorem u64_or_low (x y : Int) (hx₀ : 0 ≤ x) (hx : x % 256 = 0) (hx₁ : x < 2 ^ 64) (hy₀ : 0 ≤ y) (hy : y < 256) : bits .or .u64 x y = x + y :=
  bits_join .u64 64 (by decide) (fun n h0 h1 => by rw [IntKind.wrap_u64]; omega) 8 x y hx₀ (by omega) hx₁ hy₀ (by omega) (by omega)
theorem numL_step (a : Nat) (b : UInt8) (ha : a < 256 ^ 7) : bits BinOp.or IntKind.u64 (IntKind.u64.wrap ((a : Int) * 256)) (IntKind.u64.wrap (b.toNat : Int)) = ((256 * a + b.toNat : Nat) : Int) := by
  have hb := u8_lt b
  have e1 : IntKind.u64.wrap ((a : Int) * 256) = (a : Int) * 256 := by rw [IntKind.wrap_u64]; omega
  have e2 : IntKind.u64.wrap (b.toNat : Int) = (b.toNat : Int) := by rw [IntKind.wrap_u64]; omega
  rw [e1, e2, u64_or_low _ _ (by omega) (by omega) (by omega) (by omega) (by omega)]
  omega
theorem take_snoc (s : ByteArray) (k : Nat) (h : k < s.size) : s.data.toList.take (k + 1) = s.data.toList.take k ++ [s[k]] := by
  rw [List.take_succ_eq_append_getElem (by simpa using h)]; rfl

end Go.Proofs.YtdjglghecekeoaaGreatDoor

/- Plain facts about rows of parts packed into one text, as lists of bytes: nothing of the program is named here. -/
namespace Go.Proofs.YtdjglghecekeoaaGreatDoor

/-! ### rows put together -/
/-- one part, behind its length -/
def frameL (x : List UInt8) : List UInt8 := bigL x.length 4 ++ x
/-- parts, each behind its length -/
def packL : List (List UInt8) → List UInt8
  | [] => []
  | x :: r => frameL x ++ packL r
theorem frameL_length (x : List UInt8) : (frameL x).length = 4 + x.length := by simp [frameL, bigL_length]
theorem packL_append (a b : List (List UInt8)) : packL (a ++ b) = packL a ++ packL b := by
  induction a with
  | nil => rfl
  | cons x a ih => simp [packL, ih]
theorem packL_snoc (a : List (List UInt8)) (x : List UInt8) : packL (a ++ [x]) = packL a ++ frameL x := by simp [packL_append, packL]

/-- is there room for all of the parts? -/
def fitR : Int → List (List UInt8) → Bool
  | _, [] => true
  | room, x :: r => if room - 4 < (x.length : Int) then false else fitR (room - 4 - x.length) r
theorem fitR_iff (l : List (List UInt8)) : ∀ room : Int, 0 ≤ room → (fitR room l = true ↔ ((packL l).length : Int) ≤ room) := by
  induction l with
  | nil => intro room h; simp [fitR, packL]; omega
  | cons x r ih =>
    intro room h
    rw [fitR, packL, List.length_append, frameL_length]
    by_cases hc : room - 4 < (x.length : Int)
    · rw [if_pos hc]; simp; omega
    · rw [if_neg hc, ih _ (by omega)]; simp; omega

/-- Pack's error and text -/
def packE (l : List (List UInt8)) : Int := if 64 < l.length then 22 else if fitR 65536 l then 0 else 2
def packS (l : List (List UInt8)) : ByteArray := if packE l = 0 then ⟨(packL l).toArray⟩ else ByteArray.empty
theorem pack_ok {l : List (List UInt8)} (h : packE l = 0) : l.length ≤ 64 ∧ (packL l).length ≤ 65536 := by
  unfold packE at h
  by_cases h1 : 64 < l.length
  · rw [if_pos h1] at h; omega
  · rw [if_neg h1] at h
    by_cases h2 : fitR 65536 l = true
    · exact ⟨by omega, by have := (fitR_iff l 65536 (by omega)).1 h2; omega⟩
    · rw [if_neg h2] at h; omega
theorem packE_ok {l : List (List UInt8)} (h1 : l.length ≤ 64) (h2 : (packL l).length ≤ 65536) : packE l = 0 := by
  unfold packE
  rw [if_neg (by omega), if_pos ((fitR_iff l 65536 (by omega)).2 (by omega))]
theorem packE_many {l : List (List UInt8)} (h1 : 64 < l.length) : packE l = 22 := by unfold packE; rw [if_pos h1]
theorem packE_long {l : List (List UInt8)} (h1 : l.length ≤ 64) (h2 : fitR 65536 l = false) : packE l = 2 := by unfold packE; rw [if_neg (by omega), h2]; rfl
theorem packS_ok {l : List (List UInt8)} (h : packE l = 0) : packS l = ⟨(packL l).toArray⟩ := by unfold packS; rw [if_pos h]
theorem packS_no {l : List (List UInt8)} (h : packE l ≠ 0) : packS l = ByteArray.empty := by unfold packS; rw [if_neg h]

/-! ### texts told apart -/
/-- an error, or the parts -/
abbrev Told := Int × List (List UInt8)
/-- parts that were there before -/
def onto (acc : List (List UInt8)) (t : Told) : Told := if t.1 = 0 then (0, acc ++ t.2) else (t.1, [])
/-- what Unpack tells of a text, n parts being there -/
def tell (n : Nat) (l : List UInt8) : Told :=
  if l = [] then (0, []) else if n = 64 then (22, []) else if l.length < 4 then (3, []) else
  if l.length - 4 < numL (l.take 4) then (3, []) else onto [(l.drop 4).take (numL (l.take 4))] (tell (n + 1) (l.drop (4 + numL (l.take 4))))
termination_by l.length
decreasing_by simp; omega
theorem tell_nil (n : Nat) : tell n [] = (0, []) := by rw [tell]; rfl
theorem tell_many (l : List UInt8) (h : l ≠ []) : tell 64 l = (22, []) := by rw [tell, if_neg h]; rfl
theorem tell_short (n : Nat) (l : List UInt8) (h : l ≠ []) (hn : n ≠ 64) (h4 : l.length < 4 ∨ l.length - 4 < numL (l.take 4)) : tell n l = (3, []) := by
  rw [tell, if_neg h, if_neg hn]
  by_cases hc : l.length < 4
  · rw [if_pos hc]
  · rw [if_neg hc, if_pos (by omega)]
theorem tell_step (n : Nat) (l : List UInt8) (hn : n ≠ 64) (h4 : 4 ≤ l.length) (hk : numL (l.take 4) ≤ l.length - 4) :
    tell n l = onto [(l.drop 4).take (numL (l.take 4))] (tell (n + 1) (l.drop (4 + numL (l.take 4)))) := by
  conv => lhs; rw [tell]
  rw [if_neg (by intro h; subst h; simp at h4), if_neg hn, if_neg (by omega), if_neg (by omega)]
theorem onto_onto (a b : List (List UInt8)) (t : Told) : onto a (onto b t) = onto (a ++ b) t := by
  unfold onto
  by_cases h : t.1 = 0
  · simp [h]
  · simp [h]

/-- reading goes on: acc is told already, r is left -/
def Goes (l : List UInt8) (acc : List (List UInt8)) (r : List UInt8) : Prop := tell 0 l = onto acc (tell acc.length r)
theorem onto_nil (t : Told) (h : t.1 ≠ 0 → t.2 = []) : onto [] t = t := by
  unfold onto
  by_cases h0 : t.1 = 0
  · rw [if_pos h0]; exact Prod.ext h0.symm rfl
  · rw [if_neg h0]; exact Prod.ext rfl (h h0).symm
theorem tell_err (n : Nat) (l : List UInt8) : (tell n l).1 ≠ 0 → (tell n l).2 = [] := by
  rw [tell]
  split
  · intro h; simp at h
  · split
    · intro _; rfl
    · split
      · intro _; rfl
      · split
        · intro _; rfl
        · unfold onto
          split
          · intro h; simp at h
          · intro _; rfl
theorem goes_start (l : List UInt8) : Goes l [] l := (onto_nil _ (tell_err 0 l)).symm
theorem goes_step {l r : List UInt8} {acc : List (List UInt8)} (h : Goes l acc r) (hn : acc.length ≠ 64) (h4 : 4 ≤ r.length) (hk : numL (r.take 4) ≤ r.length - 4) :
    Goes l (acc ++ [(r.drop 4).take (numL (r.take 4))]) (r.drop (4 + numL (r.take 4))) := by
  unfold Goes at h ⊢
  rw [h, tell_step _ _ hn h4 hk, onto_onto, List.length_append]
  rfl
theorem goes_end {l : List UInt8} {acc : List (List UInt8)} (h : Goes l acc []) : tell 0 l = (0, acc) := by
  unfold Goes at h
  rw [h, tell_nil]; simp [onto]
theorem goes_err {l r : List UInt8} {acc : List (List UInt8)} {e : Int} (h : Goes l acc r) (he : tell acc.length r = (e, [])) (h0 : e ≠ 0) : tell 0 l = (e, []) := by
  unfold Goes at h
  rw [h, he]; simp [onto, h0]

/-- Unpack's answer -/
def unpackT (l : List UInt8) : Told := if 65536 < l.length then (2, []) else tell 0 l

theorem take_frame (x r : List UInt8) (hx : x.length < 2 ^ 32) : numL ((frameL x ++ r).take 4) = x.length := by
  unfold frameL
  rw [List.append_assoc, List.take_append_of_le_length (by simp [bigL_length]), List.take_of_length_le (by simp [bigL_length]), numL_bigL]
  exact Nat.mod_eq_of_lt (by simpa using hx)
theorem drop_frame (x r : List UInt8) : (frameL x ++ r).drop 4 = x ++ r := by
  unfold frameL
  rw [List.append_assoc, List.drop_append_of_le_length (by simp [bigL_length]), List.drop_of_length_le (by simp [bigL_length])]
  rfl
theorem tell_frame (n : Nat) (x r : List UInt8) (hx : x.length < 2 ^ 32) (hn : n ≠ 64) : tell n (frameL x ++ r) = onto [x] (tell (n + 1) r) := by
  have h1 := take_frame x r hx
  rw [tell_step n _ hn (by simp [frameL_length]; omega) (by rw [h1]; simp [frameL_length]; omega), h1, drop_frame, List.take_left, ← List.drop_drop, drop_frame, List.drop_left]

/-- what is put together is told apart -/
theorem tell_pack (l : List (List UInt8)) : ∀ n, n + l.length ≤ 64 → (∀ x ∈ l, x.length < 2 ^ 32) → tell n (packL l) = (0, l) := by
  induction l with
  | nil => intro n _ _; exact tell_nil n
  | cons x r ih =>
    intro n hn hx
    rw [packL, tell_frame n x _ (hx x (by simp)) (by simp at hn; omega), ih (n + 1) (by simp at hn; omega) (fun y hy => hx y (by simp [hy]))]
    simp [onto]
theorem part_lt {l : List (List UInt8)} {x : List UInt8} (h : x ∈ l) : x.length ≤ (packL l).length := by
  induction l with
  | nil => cases h
  | cons y r ih =>
    rw [packL, List.length_append, frameL_length]
    rcases List.mem_cons.1 h with e | e
    · subst e; omega
    · have := ih e; omega
theorem unpack_pack {l : List (List UInt8)} (h : packE l = 0) : unpackT (packL l) = (0, l) := by
  have hp := pack_ok h
  unfold unpackT
  rw [if_neg (by omega)]
  exact tell_pack l 0 (by omega) (fun x hx => by have := part_lt hx; omega)
end Go.Proofs.YtdjglghecekeoaaGreatDoor

/- Heads as data: which may be, what is signed of one, its text; a text tells its head. Nothing of the program is named here. -/
namespace Go.Proofs.YtdjglghecekeoaaGreatDoor.J

/-- all but the signature may be -/
def mayH (s : Int) (r : List UInt8) (t : Int) : Bool := decide (0 ≤ s) && decide (s ≤ 4096) && decide (0 ≤ t) && decide (t ≤ 1099511627776) && decide (r.length = 32)
/-- a head may be -/
def rightH (s : Int) (r : List UInt8) (t : Int) (g : List UInt8) : Bool := mayH s r t && decide (g.length = 64)
theorem mayH_of {s t : Int} {r : List UInt8} (h : mayH s r t = true) : 0 ≤ s ∧ s ≤ 4096 ∧ 0 ≤ t ∧ t ≤ 1099511627776 ∧ r.length = 32 := by
  unfold mayH at h
  simp only [Bool.and_eq_true, decide_eq_true_eq] at h
  exact ⟨h.1.1.1.1, h.1.1.1.2, h.1.1.2, h.1.2, h.2⟩
theorem mayH_yes {s t : Int} {r : List UInt8} (h1 : 0 ≤ s) (h2 : s ≤ 4096) (h3 : 0 ≤ t) (h4 : t ≤ 1099511627776) (h5 : r.length = 32) : mayH s r t = true := by
  unfold mayH
  simp only [Bool.and_eq_true, decide_eq_true_eq]
  exact ⟨⟨⟨⟨h1, h2⟩, h3⟩, h4⟩, h5⟩
theorem mayH_no {s t : Int} {r : List UInt8} (h : ¬ (0 ≤ s ∧ s ≤ 4096 ∧ 0 ≤ t ∧ t ≤ 1099511627776 ∧ r.length = 32)) : mayH s r t = false := by
  cases hm : mayH s r t with
  | false => rfl
  | true => exact absurd (mayH_of hm) h
theorem rightH_of {s t : Int} {r g : List UInt8} (h : rightH s r t g = true) : mayH s r t = true ∧ g.length = 64 := by
  unfold rightH at h
  simpa only [Bool.and_eq_true, decide_eq_true_eq] using h
theorem rightH_yes {s t : Int} {r g : List UInt8} (h : mayH s r t = true) (hg : g.length = 64) : rightH s r t g = true := by
  unfold rightH
  rw [h, decide_eq_true hg]
  rfl
theorem rightH_no {s t : Int} {r g : List UInt8} (h : ¬ (mayH s r t = true ∧ g.length = 64)) : rightH s r t g = false := by
  cases hm : rightH s r t g with
  | false => rfl
  | true => exact absurd (rightH_of hm) h

/-- the word ahead of what is signed -/
def markL : List UInt8 := [104, 101, 97, 100]
/-- the parts of what is signed -/
def partsS (s : Int) (r : List UInt8) (t : Int) : List (List UInt8) := [markL, bigL s.toNat 8, bigL t.toNat 8, r]
/-- what is signed -/
def signedT (s : Int) (r : List UInt8) (t : Int) : List UInt8 := packL (partsS s r t)
/-- a head's text -/
def textT (s : Int) (r : List UInt8) (t : Int) (g : List UInt8) : List UInt8 := packL [signedT s r t, g]

theorem signed_eq (s : Int) (r : List UInt8) (t : Int) : signedT s r t = bigL 4 4 ++ (markL ++ (bigL 8 4 ++ (bigL s.toNat 8 ++ (bigL 8 4 ++ (bigL t.toNat 8 ++ (bigL r.length 4 ++ r)))))) := by
  unfold signedT partsS
  simp [packL, frameL, bigL_length, markL]
theorem signed_length (s t : Int) (r : List UInt8) : (signedT s r t).length = 36 + r.length := by
  rw [signed_eq]
  simp [bigL_length, markL]
  omega
theorem text_eq (s : Int) (r : List UInt8) (t : Int) (g : List UInt8) : textT s r t g = bigL (signedT s r t).length 4 ++ (signedT s r t ++ (bigL g.length 4 ++ g)) := by
  unfold textT
  simp [packL, frameL]
theorem text_length (s t : Int) (r g : List UInt8) : (textT s r t g).length = 44 + r.length + g.length := by
  rw [text_eq]
  simp [bigL_length, signed_length]
  omega
theorem parts_pack {s t : Int} {r : List UInt8} (hr : r.length ≤ 64) : packE (partsS s r t) = 0 := by
  refine packE_ok (show 4 ≤ 64 by decide) ?_
  show (signedT s r t).length ≤ 65536
  rw [signed_length]
  omega
theorem text_pack {s t : Int} {r g : List UInt8} (hr : r.length ≤ 64) (hg : g.length ≤ 100) : packE [signedT s r t, g] = 0 := by
  refine packE_ok (show 2 ≤ 64 by decide) ?_
  show (textT s r t g).length ≤ 65536
  rw [text_length]
  omega
theorem signed_packS {s t : Int} {r : List UInt8} (hr : r.length ≤ 64) : packS (partsS s r t) = ⟨(signedT s r t).toArray⟩ := packS_ok (parts_pack hr)
theorem text_packS {s t : Int} {r g : List UInt8} (hr : r.length ≤ 64) (hg : g.length ≤ 100) : packS [signedT s r t, g] = ⟨(textT s r t g).toArray⟩ := packS_ok (text_pack hr hg)

/-- a text is that of a head that may be -/
def IsHead (x : List UInt8) (s : Int) (r : List UInt8) (t : Int) (g : List UInt8) : Prop := rightH s r t g = true ∧ textT s r t g = x
theorem num_time {s : Int} (h0 : 0 ≤ s) (h1 : s ≤ 1099511627776) : numL (bigL s.toNat 8) = s.toNat := by
  rw [numL_bigL]
  exact Nat.mod_eq_of_lt (by omega)
theorem head_unpack {x : List UInt8} {s t : Int} {r g : List UInt8} (h : IsHead x s r t g) : unpackT x = (0, [signedT s r t, g]) ∧ unpackT (signedT s r t) = (0, partsS s r t) ∧ (numL (bigL s.toNat 8) : Int) = s ∧ (numL (bigL t.toNat 8) : Int) = t := by
  obtain ⟨h1, h2⟩ := h
  obtain ⟨h3, h4⟩ := rightH_of h1
  obtain ⟨a1, a2, a3, a4, a5⟩ := mayH_of h3
  refine ⟨?_, ?_, ?_, ?_⟩
  · rw [← h2]
    exact unpack_pack (text_pack (by omega) (by omega))
  · exact unpack_pack (parts_pack (by omega))
  · rw [num_time a1 (by omega)]; omega
  · rw [num_time a3 a4]; omega
theorem head_one {x : List UInt8} {s t s' t' : Int} {r g r' g' : List UInt8} (h : IsHead x s r t g) (h' : IsHead x s' r' t' g') : s = s' ∧ r = r' ∧ t = t' ∧ g = g' := by
  obtain ⟨a1, a2, a3, a4⟩ := head_unpack h
  obtain ⟨b1, b2, b3, b4⟩ := head_unpack h'
  rw [a1] at b1
  simp only [Prod.mk.injEq, List.cons.injEq, and_true, true_and] at b1
  obtain ⟨e1, e2⟩ := b1
  rw [← e1, a2] at b2
  unfold partsS at b2
  simp only [Prod.mk.injEq, List.cons.injEq, and_true, true_and] at b2
  obtain ⟨c1, c2, c3⟩ := b2
  refine ⟨?_, c3, ?_, e2⟩
  · rw [← a3, ← b3, c1]
  · rw [← a4, ← b4, c2]
theorem cut_seven {a b c d e f h g : List UInt8} (ha : a.length = 16) (hb : b.length = 8) (hc : c.length = 4) (hd : d.length = 8) (he : e.length = 4) (hf : f.length = 32) (hh : h.length = 4) :
    ((a ++ (b ++ (c ++ (d ++ (e ++ (f ++ (h ++ g))))))).drop 16).take 8 = b ∧ ((a ++ (b ++ (c ++ (d ++ (e ++ (f ++ (h ++ g))))))).drop 28).take 8 = d ∧ ((a ++ (b ++ (c ++ (d ++ (e ++ (f ++ (h ++ g))))))).drop 40).take 32 = f ∧ (a ++ (b ++ (c ++ (d ++ (e ++ (f ++ (h ++ g))))))).drop 76 = g := by
  have d16 : (a ++ (b ++ (c ++ (d ++ (e ++ (f ++ (h ++ g))))))).drop 16 = b ++ (c ++ (d ++ (e ++ (f ++ (h ++ g))))) := List.drop_left' ha
  have d28 : (a ++ (b ++ (c ++ (d ++ (e ++ (f ++ (h ++ g))))))).drop 28 = d ++ (e ++ (f ++ (h ++ g))) := by
    rw [show 28 = 16 + (8 + 4) from rfl, ← List.drop_drop, d16, ← List.drop_drop, List.drop_left' hb, List.drop_left' hc]
  have d40 : (a ++ (b ++ (c ++ (d ++ (e ++ (f ++ (h ++ g))))))).drop 40 = f ++ (h ++ g) := by
    rw [show 40 = 28 + (8 + 4) from rfl, ← List.drop_drop, d28, ← List.drop_drop, List.drop_left' hd, List.drop_left' he]
  have d76 : (a ++ (b ++ (c ++ (d ++ (e ++ (f ++ (h ++ g))))))).drop 76 = g := by
    rw [show 76 = 40 + (32 + 4) from rfl, ← List.drop_drop, d40, ← List.drop_drop, List.drop_left' hf, List.drop_left' hh]
  exact ⟨by rw [d16, List.take_left' hb], by rw [d28, List.take_left' hd], by rw [d40, List.take_left' hf], d76⟩
/-- where what is told stands in a head's text -/
theorem head_cut {x : List UInt8} {s t : Int} {r g : List UInt8} (h : IsHead x s r t g) : x.length = 140 ∧ (numL ((x.drop 16).take 8) : Int) = s ∧ (numL ((x.drop 28).take 8) : Int) = t ∧ (x.drop 40).take 32 = r ∧ x.drop 76 = g := by
  obtain ⟨_, _, n1, n2⟩ := head_unpack h
  obtain ⟨h1, h2⟩ := h
  obtain ⟨h3, h4⟩ := rightH_of h1
  obtain ⟨a1, a2, a3, a4, a5⟩ := mayH_of h3
  have hx : x = (bigL (signedT s r t).length 4 ++ (bigL 4 4 ++ (markL ++ bigL 8 4))) ++ (bigL s.toNat 8 ++ (bigL 8 4 ++ (bigL t.toNat 8 ++ (bigL r.length 4 ++ (r ++ (bigL g.length 4 ++ g)))))) := by
    rw [← h2, text_eq]
    conv => lhs; rw [show signedT s r t ++ (bigL g.length 4 ++ g) = (bigL 4 4 ++ (markL ++ (bigL 8 4 ++ (bigL s.toNat 8 ++ (bigL 8 4 ++ (bigL t.toNat 8 ++ (bigL r.length 4 ++ r))))))) ++ (bigL g.length 4 ++ g) by rw [← signed_eq]]
    simp only [List.append_assoc]
  obtain ⟨c1, c2, c3, c4⟩ := cut_seven (a := bigL (signedT s r t).length 4 ++ (bigL 4 4 ++ (markL ++ bigL 8 4))) (b := bigL s.toNat 8) (c := bigL 8 4) (d := bigL t.toNat 8) (e := bigL r.length 4) (f := r) (h := bigL g.length 4) (g := g) (by simp [bigL_length, markL]) (bigL_length _ _) (bigL_length _ _) (bigL_length _ _) (bigL_length _ _) a5 (bigL_length _ _)
  rw [← hx] at c1 c2 c3 c4
  refine ⟨by rw [← h2, text_length]; omega, by rw [c1]; exact n1, by rw [c2]; exact n2, c3, c4⟩
/-- what the parts of a text come to, whatever they are: no head but the one whose text it is -/
theorem no_head {x : List UInt8} (hno : ∀ s r t g, ¬ IsHead x s r t g) (s : Int) (r : List UInt8) (t : Int) (g : List UInt8) (h : rightH s r t g = true) : textT s r t g ≠ x := fun e => hno s r t g ⟨h, e⟩
end Go.Proofs.YtdjglghecekeoaaGreatDoor.J

/- Plain facts about sums of 256 bits, as numbers and lists of bytes: nothing of the program is named here. -/
namespace Go.Proofs.YtdjglghecekeoaaGreatDoor.U

/-! ### words -/
/-- a word turned right -/
def rotr (x n : Nat) : Nat := x / 2 ^ n + x % 2 ^ n * 2 ^ (32 - n)
theorem rotr_lt (x n : Nat) (hx : x < 4294967296) (hn : n ≤ 32) : rotr x n < 4294967296 := by
  unfold rotr
  obtain ⟨m, hm⟩ : ∃ m, 32 = n + m := ⟨32 - n, by omega⟩
  have e : 32 - n = m := by omega
  rw [e]
  have hp : (4294967296 : Nat) = 2 ^ n * 2 ^ m := by rw [← Nat.pow_add, ← hm]
  have h1 : x / 2 ^ n < 2 ^ m := by rw [Nat.div_lt_iff_lt_mul (Nat.two_pow_pos n), Nat.mul_comm, ← hp]; exact hx
  have h2 : x % 2 ^ n < 2 ^ n := Nat.mod_lt _ (Nat.two_pow_pos n)
  have h3 : (x % 2 ^ n + 1) * 2 ^ m ≤ 2 ^ n * 2 ^ m := Nat.mul_le_mul_right _ h2
  rw [Nat.add_mul] at h3
  omega
theorem rotr_or (x n : Nat) (hn : n ≤ 32) (hx : x < 4294967296) : (x * 2 ^ (32 - n) % 4294967296) ||| (x / 2 ^ n) = rotr x n := by
  unfold rotr
  obtain ⟨m, hm⟩ : ∃ m, 32 = n + m := ⟨32 - n, by omega⟩
  have e : 32 - n = m := by omega
  rw [e]
  have hp : (4294967296 : Nat) = 2 ^ n * 2 ^ m := by rw [← Nat.pow_add, ← hm]
  have h1 : x / 2 ^ n < 2 ^ m := by rw [Nat.div_lt_iff_lt_mul (Nat.two_pow_pos n), Nat.mul_comm, ← hp]; exact hx
  rw [hp, Nat.mul_mod_mul_right, ← Nat.shiftLeft_eq, ← Nat.shiftLeft_add_eq_or_of_lt h1, Nat.add_comm]

theorem xor_lt (a b : Nat) (ha : a < 4294967296) (hb : b < 4294967296) : a ^^^ b < 4294967296 := Nat.xor_lt_two_pow (n := 32) ha hb
theorem and_lt (a b : Nat) (hb : b < 4294967296) : a &&& b < 4294967296 := Nat.and_lt_two_pow (n := 32) a hb

def bsig0 (x : Nat) : Nat := rotr x 2 ^^^ rotr x 13 ^^^ rotr x 22
def bsig1 (x : Nat) : Nat := rotr x 6 ^^^ rotr x 11 ^^^ rotr x 25
def ssig0 (x : Nat) : Nat := rotr x 7 ^^^ rotr x 18 ^^^ x / 2 ^ 3
def ssig1 (x : Nat) : Nat := rotr x 17 ^^^ rotr x 19 ^^^ x / 2 ^ 10
def chs (e f g : Nat) : Nat := (e &&& f) ^^^ ((4294967295 - e) &&& g)
def maj (a b c : Nat) : Nat := (a &&& b) ^^^ (a &&& c) ^^^ (b &&& c)
/-! ### eight words -/
structure H8 where
  a : Nat
  b : Nat
  c : Nat
  d : Nat
  e : Nat
  f : Nat
  g : Nat
  h : Nat
  deriving DecidableEq
def H8.Ok (s : H8) : Prop := s.a < 4294967296 ∧ s.b < 4294967296 ∧ s.c < 4294967296 ∧ s.d < 4294967296 ∧ s.e < 4294967296 ∧ s.f < 4294967296 ∧ s.g < 4294967296 ∧ s.h < 4294967296
def H8.at (s : H8) : Nat → Nat
  | 0 => s.a
  | 1 => s.b
  | 2 => s.c
  | 3 => s.d
  | 4 => s.e
  | 5 => s.f
  | 6 => s.g
  | _ => s.h
theorem H8.at_lt {s : H8} (h : s.Ok) (i : Nat) : s.at i < 4294967296 := by
  obtain ⟨h0, h1, h2, h3, h4, h5, h6, h7⟩ := h
  unfold H8.at
  split <;> assumption
def H8.plus (s v : H8) : H8 := ⟨(s.a + v.a) % 4294967296, (s.b + v.b) % 4294967296, (s.c + v.c) % 4294967296, (s.d + v.d) % 4294967296, (s.e + v.e) % 4294967296, (s.f + v.f) % 4294967296, (s.g + v.g) % 4294967296, (s.h + v.h) % 4294967296⟩
theorem H8.plus_ok (s v : H8) : (s.plus v).Ok := by
  unfold H8.plus H8.Ok
  simp only
  omega

def tmp1 (s : H8) (k w : Nat) : Nat := (s.h + bsig1 s.e + chs s.e s.f s.g + k + w) % 4294967296
def tmp2 (s : H8) : Nat := (bsig0 s.a + maj s.a s.b s.c) % 4294967296
def rnd (s : H8) (k w : Nat) : H8 := ⟨(tmp1 s k w + tmp2 s) % 4294967296, s.a, s.b, s.c, (s.d + tmp1 s k w) % 4294967296, s.e, s.f, s.g⟩
theorem rnd_ok {s : H8} (h : s.Ok) (k w : Nat) : (rnd s k w).Ok := by
  obtain ⟨h0, h1, h2, h3, h4, h5, h6, h7⟩ := h
  exact ⟨Nat.mod_lt _ (by decide), h0, h1, h2, Nat.mod_lt _ (by decide), h4, h5, h6⟩

/-! ### constants -/
def ks : List Nat := [
  1116352408, 1899447441, 3049323471, 3921009573, 961987163, 1508970993, 2453635748, 2870763221,
  3624381080, 310598401, 607225278, 1426881987, 1925078388, 2162078206, 2614888103, 3248222580,
  3835390401, 4022224774, 264347078, 604807628, 770255983, 1249150122, 1555081692, 1996064986,
  2554220882, 2821834349, 2952996808, 3210313671, 3336571891, 3584528711, 113926993, 338241895,
  666307205, 773529912, 1294757372, 1396182291, 1695183700, 1986661051, 2177026350, 2456956037,
  2730485921, 2820302411, 3259730800, 3345764771, 3516065817, 3600352804, 4094571909, 275423344,
  430227734, 506948616, 659060556, 883997877, 958139571, 1322822218, 1537002063, 1747873779,
  1955562222, 2024104815, 2227730452, 2361852424, 2428436474, 2756734187, 3204031479, 3329325298]
def kAt (t : Nat) : Nat := ks.getD t 0
theorem kAt_all : ∀ t : Fin 64, kAt t.val < 4294967296 := by decide +kernel
theorem kAt_lt (t : Nat) (h : t < 64) : kAt t < 4294967296 := kAt_all ⟨t, h⟩
def h0 : H8 := ⟨1779033703, 3144134277, 1013904242, 2773480762, 1359893119, 2600822924, 528734635, 1541459225⟩
theorem h0_ok : h0.Ok := by unfold h0 H8.Ok; decide

/-! ### a block -/
/-- the words of a block's first rounds -/
def sched (b : List UInt8) : Nat → List Nat
  | 0 => []
  | t + 1 => sched b t ++ [if t < 16 then numL ((b.drop (4 * t)).take 4) else (ssig1 ((sched b t).getD (t - 2) 0) + (sched b t).getD (t - 7) 0 + ssig0 ((sched b t).getD (t - 15) 0) + (sched b t).getD (t - 16) 0) % 4294967296]
theorem sched_length (b : List UInt8) (t : Nat) : (sched b t).length = t := by
  induction t with
  | zero => rfl
  | succ t ih => simp [sched, ih]
theorem sched_lt (b : List UInt8) (t : Nat) : ∀ x ∈ sched b t, x < 4294967296 := by
  induction t with
  | zero => intro x hx; cases hx
  | succ t ih =>
    intro x hx
    rw [sched, List.mem_append] at hx
    rcases hx with hx | hx
    · exact ih x hx
    · rw [List.mem_singleton] at hx
      subst hx
      split
      · refine Nat.lt_of_lt_of_le (numL_lt _) ?_
        have : ((b.drop (4 * t)).take 4).length ≤ 4 := List.length_take_le _ _
        calc 256 ^ ((b.drop (4 * t)).take 4).length ≤ 256 ^ 4 := Nat.pow_le_pow_right (by decide) this
          _ = 4294967296 := by decide
      · exact Nat.mod_lt _ (by decide)
theorem sched_at_lt (b : List UInt8) (t i : Nat) : (sched b t).getD i 0 < 4294967296 := by
  rw [List.getD_eq_getElem?_getD]
  rcases h : (sched b t)[i]? with _ | x
  · simp
  · exact sched_lt b t x (List.mem_of_getElem? h)

def rnds (w : List Nat) (s : H8) : Nat → H8
  | 0 => s
  | t + 1 => rnd (rnds w s t) (kAt t) (w.getD t 0)
/-- eight words behind a block -/
def mix (s : H8) (b : List UInt8) : H8 := s.plus (rnds (sched b 64) s 64)
theorem mix_ok (s : H8) (b : List UInt8) : (mix s b).Ok := H8.plus_ok _ _

/-! ### blocks -/
def absorb (s : H8) : Nat → List UInt8 → H8
  | 0, _ => s
  | n + 1, l => absorb (mix s (l.take 64)) n (l.drop 64)
/-- eight words behind all whole blocks of bytes -/
def feed (s : H8) (l : List UInt8) : H8 := absorb s (l.length / 64) l
/-- what is left behind all whole blocks -/
def tailB (l : List UInt8) : List UInt8 := l.drop (64 * (l.length / 64))
theorem feed_short (s : H8) (l : List UInt8) (h : l.length < 64) : feed s l = s := by
  unfold feed; rw [Nat.div_eq_of_lt h]; rfl
theorem tail_short (l : List UInt8) (h : l.length < 64) : tailB l = l := by
  unfold tailB; rw [Nat.div_eq_of_lt h]; rfl
theorem feed_long (s : H8) (l : List UInt8) (h : 64 ≤ l.length) : feed s l = feed (mix s (l.take 64)) (l.drop 64) := by
  unfold feed
  obtain ⟨n, hn⟩ : ∃ n, l.length / 64 = n + 1 := ⟨l.length / 64 - 1, by omega⟩
  rw [hn, absorb, List.length_drop, show (l.length - 64) / 64 = n by omega]
theorem tail_long (l : List UInt8) (h : 64 ≤ l.length) : tailB l = tailB (l.drop 64) := by
  unfold tailB
  rw [List.length_drop, List.drop_drop]
  congr 1
  omega
theorem tail_length (l : List UInt8) : (tailB l).length = l.length % 64 := by
  unfold tailB
  rw [List.length_drop]
  omega
theorem feed_ok {s : H8} (h : s.Ok) : ∀ (n : Nat) (l : List UInt8), l.length ≤ n → (feed s l).Ok := by
  intro n
  induction n generalizing s with
  | zero => intro l hl; rw [feed_short _ _ (by omega)]; exact h
  | succ n ih =>
    intro l hl
    by_cases hs : l.length < 64
    · rw [feed_short _ _ hs]; exact h
    · rw [feed_long _ _ (by omega)]
      exact ih (mix_ok _ _) _ (by rw [List.length_drop]; omega)
theorem feed_ok' {s : H8} (h : s.Ok) (l : List UInt8) : (feed s l).Ok := feed_ok h _ l (Nat.le_refl _)
theorem feed_append (m : List UInt8) : ∀ (n : Nat) (s : H8) (l : List UInt8), l.length ≤ n → feed s (l ++ m) = feed (feed s l) (tailB l ++ m) := by
  intro n
  induction n with
  | zero => intro s l hl; rw [feed_short s l (by omega), tail_short l (by omega)]
  | succ n ih =>
    intro s l hl
    by_cases hs : l.length < 64
    · rw [feed_short s l hs, tail_short l hs]
    · rw [feed_long s l (by omega), tail_long l (by omega), feed_long s (l ++ m) (by rw [List.length_append]; omega), List.take_append_of_le_length (by omega), List.drop_append_of_le_length (by omega)]
      exact ih _ _ (by rw [List.length_drop]; omega)
theorem tail_append (m : List UInt8) : ∀ (n : Nat) (l : List UInt8), l.length ≤ n → tailB (l ++ m) = tailB (tailB l ++ m) := by
  intro n
  induction n with
  | zero => intro l hl; rw [tail_short l (by omega)]
  | succ n ih =>
    intro l hl
    by_cases hs : l.length < 64
    · rw [tail_short l hs]
    · rw [tail_long l (by omega), tail_long (l ++ m) (by rw [List.length_append]; omega), List.drop_append_of_le_length (by omega)]
      exact ih _ (by rw [List.length_drop]; omega)

/-! ### the sum -/
/-- what comes to so many bytes -/
def pad (n : Nat) : List UInt8 := 128 :: (List.replicate ((119 - n % 64) % 64) 0 ++ bigL (8 * n) 8)
theorem pad_length (n : Nat) : (pad n).length = 9 + (119 - n % 64) % 64 := by simp [pad, bigL_length]; omega
/-- the words' bytes -/
def outT (s : H8) : List UInt8 := bigL s.a 4 ++ bigL s.b 4 ++ bigL s.c 4 ++ bigL s.d 4 ++ bigL s.e 4 ++ bigL s.f 4 ++ bigL s.g 4 ++ bigL s.h 4
theorem outT_length (s : H8) : (outT s).length = 32 := by simp [outT, bigL_length]
/-- the sum of all bytes that were taken: the words, what waits, how many there were -/
def endT (s : H8) (b : List UInt8) (n : Nat) : List UInt8 := outT (feed s (b ++ pad n))
/-- the sum of bytes -/
def sumT (l : List UInt8) : List UInt8 := outT (feed h0 (l ++ pad l.length))
theorem sumT_length (l : List UInt8) : (sumT l).length = 32 := outT_length _
theorem end_sum (l : List UInt8) : endT (feed h0 l) (tailB l) l.length = sumT l := by
  unfold endT sumT
  rw [← feed_append _ l.length h0 l (Nat.le_refl _)]

end Go.Proofs.YtdjglghecekeoaaGreatDoor.U

