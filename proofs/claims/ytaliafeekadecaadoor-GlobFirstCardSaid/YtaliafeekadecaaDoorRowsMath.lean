/- Plain facts about rows of parts packed into one text, as lists of bytes: nothing of the program is named here. -/
import Derived.Test.YtaliafeekadecaaDoorMath
namespace Go.Proofs.YtaliafeekadecaaDoor

/-! ### rows put together -/
/-- one part, behind its length -/
def frameL (x : List UInt8) : List UInt8 := bigL x.length 4 ++ x
/-- parts, each behind its length -/
def packL : List (List UInt8) → List UInt8
  | [] => []
  | x :: r => frameL x ++ packL r
theorem frameL_length (x : List UInt8) : (frameL x).length = 4 + x.length := by simp [frameL, bigL_length]
theorem packL_append (a b : List (List UInt8)) : packL (a ++ b) = packL a ++ packL b := by
  induction a with
  | nil => rfl
  | cons x a ih => simp [packL, ih]
theorem packL_snoc (a : List (List UInt8)) (x : List UInt8) : packL (a ++ [x]) = packL a ++ frameL x := by simp [packL_append, packL]

/-- is there room for all of the parts? -/
def fitR : Int → List (List UInt8) → Bool
  | _, [] => true
  | room, x :: r => if room - 4 < (x.length : Int) then false else fitR (room - 4 - x.length) r
theorem fitR_iff (l : List (List UInt8)) : ∀ room : Int, 0 ≤ room → (fitR room l = true ↔ ((packL l).length : Int) ≤ room) := by
  induction l with
  | nil => intro room h; simp [fitR, packL]; omega
  | cons x r ih =>
    intro room h
    rw [fitR, packL, List.length_append, frameL_length]
    by_cases hc : room - 4 < (x.length : Int)
    · rw [if_pos hc]; simp; omega
    · rw [if_neg hc, ih _ (by omega)]; simp; omega

/-- Pack's error and text -/
def packE (l : List (List UInt8)) : Int := if 64 < l.length then 22 else if fitR 65536 l then 0 else 2
def packS (l : List (List UInt8)) : ByteArray := if packE l = 0 then ⟨(packL l).toArray⟩ else ByteArray.empty
theorem pack_ok {l : List (List UInt8)} (h : packE l = 0) : l.length ≤ 64 ∧ (packL l).length ≤ 65536 := by
  unfold packE at h
  by_cases h1 : 64 < l.length
  · rw [if_pos h1] at h; omega
  · rw [if_neg h1] at h
    by_cases h2 : fitR 65536 l = true
    · exact ⟨by omega, by have := (fitR_iff l 65536 (by omega)).1 h2; omega⟩
    · rw [if_neg h2] at h; omega
theorem packE_ok {l : List (List UInt8)} (h1 : l.length ≤ 64) (h2 : (packL l).length ≤ 65536) : packE l = 0 := by
  unfold packE
  rw [if_neg (by omega), if_pos ((fitR_iff l 65536 (by omega)).2 (by omega))]
theorem packE_many {l : List (List UInt8)} (h1 : 64 < l.length) : packE l = 22 := by unfold packE; rw [if_pos h1]
theorem packE_long {l : List (List UInt8)} (h1 : l.length ≤ 64) (h2 : fitR 65536 l = false) : packE l = 2 := by unfold packE; rw [if_neg (by omega), h2]; rfl
theorem packS_ok {l : List (List UInt8)} (h : packE l = 0) : packS l = ⟨(packL l).toArray⟩ := by unfold packS; rw [if_pos h]
theorem packS_no {l : List (List UInt8)} (h : packE l ≠ 0) : packS l = ByteArray.empty := by unfold packS; rw [if_neg h]

/-! ### texts told apart -/
/-- an error, or the parts -/
abbrev Told := Int × List (List UInt8)
/-- parts that were there before -/
def onto (acc : List (List UInt8)) (t : Told) : Told := if t.1 = 0 then (0, acc ++ t.2) else (t.1, [])
/-- what Unpack tells of a text, n parts being there -/
def tell (n : Nat) (l : List UInt8) : Told :=
  if l = [] then (0, []) else if n = 64 then (22, []) else if l.length < 4 then (3, []) else
  if l.length - 4 < numL (l.take 4) then (3, []) else onto [(l.drop 4).take (numL (l.take 4))] (tell (n + 1) (l.drop (4 + numL (l.take 4))))
termination_by l.length
decreasing_by simp; omega
theorem tell_nil (n : Nat) : tell n [] = (0, []) := by rw [tell]; rfl
theorem tell_many (l : List UInt8) (h : l ≠ []) : tell 64 l = (22, []) := by rw [tell, if_neg h]; rfl
theorem tell_short (n : Nat) (l : List UInt8) (h : l ≠ []) (hn : n ≠ 64) (h4 : l.length < 4 ∨ l.length - 4 < numL (l.take 4)) : tell n l = (3, []) := by
  rw [tell, if_neg h, if_neg hn]
  by_cases hc : l.length < 4
  · rw [if_pos hc]
  · rw [if_neg hc, if_pos (by omega)]
theorem tell_step (n : Nat) (l : List UInt8) (hn : n ≠ 64) (h4 : 4 ≤ l.length) (hk : numL (l.take 4) ≤ l.length - 4) :
    tell n l = onto [(l.drop 4).take (numL (l.take 4))] (tell (n + 1) (l.drop (4 + numL (l.take 4)))) := by
  conv => lhs; rw [tell]
  rw [if_neg (by intro h; subst h; simp at h4), if_neg hn, if_neg (by omega), if_neg (by omega)]
theorem onto_onto (a b : List (List UInt8)) (t : Told) : onto a (onto b t) = onto (a ++ b) t := by
  unfold onto
  by_cases h : t.1 = 0
  · simp [h]
  · simp [h]

/-- reading goes on: acc is told already, r is left -/
def Goes (l : List UInt8) (acc : List (List UInt8)) (r : List UInt8) : Prop := tell 0 l = onto acc (tell acc.length r)
theorem onto_nil (t : Told) (h : t.1 ≠ 0 → t.2 = []) : onto [] t = t := by
  unfold onto
  by_cases h0 : t.1 = 0
  · rw [if_pos h0]; exact Prod.ext h0.symm rfl
  · rw [if_neg h0]; exact Prod.ext rfl (h h0).symm
theorem tell_err (n : Nat) (l : List UInt8) : (tell n l).1 ≠ 0 → (tell n l).2 = [] := by
  rw [tell]
  split
  · intro h; simp at h
  · split
    · intro _; rfl
    · split
      · intro _; rfl
      · split
        · intro _; rfl
        · unfold onto
          split
          · intro h; simp at h
          · intro _; rfl
theorem goes_start (l : List UInt8) : Goes l [] l := (onto_nil _ (tell_err 0 l)).symm
theorem goes_step {l r : List UInt8} {acc : List (List UInt8)} (h : Goes l acc r) (hn : acc.length ≠ 64) (h4 : 4 ≤ r.length) (hk : numL (r.take 4) ≤ r.length - 4) :
    Goes l (acc ++ [(r.drop 4).take (numL (r.take 4))]) (r.drop (4 + numL (r.take 4))) := by
  unfold Goes at h ⊢
  rw [h, tell_step _ _ hn h4 hk, onto_onto, List.length_append]
  rfl
theorem goes_end {l : List UInt8} {acc : List (List UInt8)} (h : Goes l acc []) : tell 0 l = (0, acc) := by
  unfold Goes at h
  rw [h, tell_nil]; simp [onto]
theorem goes_err {l r : List UInt8} {acc : List (List UInt8)} {e : Int} (h : Goes l acc r) (he : tell acc.length r = (e, [])) (h0 : e ≠ 0) : tell 0 l = (e, []) := by
  unfold Goes at h
  rw [h, he]; simp [onto, h0]

/-- Unpack's answer -/
def unpackT (l : List UInt8) : Told := if 65536 < l.length then (2, []) else tell 0 l

theorem take_frame (x r : List UInt8) (hx : x.length < 2 ^ 32) : numL ((frameL x ++ r).take 4) = x.length := by
  unfold frameL
  rw [List.append_assoc, List.take_append_of_le_length (by simp [bigL_length]), List.take_of_length_le (by simp [bigL_length]), numL_bigL]
  exact Nat.mod_eq_of_lt (by simpa using hx)
theorem drop_frame (x r : List UInt8) : (frameL x ++ r).drop 4 = x ++ r := by
  unfold frameL
  rw [List.append_assoc, List.drop_append_of_le_length (by simp [bigL_length]), List.drop_of_length_le (by simp [bigL_length])]
  rfl
theorem tell_frame (n : Nat) (x r : List UInt8) (hx : x.length < 2 ^ 32) (hn : n ≠ 64) : tell n (frameL x ++ r) = onto [x] (tell (n + 1) r) := by
  have h1 := take_frame x r hx
  rw [tell_step n _ hn (by simp [frameL_length]; omega) (by rw [h1]; simp [frameL_length]; omega), h1, drop_frame, List.take_left, ← List.drop_drop, drop_frame, List.drop_left]

/-- what is put together is told apart -/
theorem tell_pack (l : List (List UInt8)) : ∀ n, n + l.length ≤ 64 → (∀ x ∈ l, x.length < 2 ^ 32) → tell n (packL l) = (0, l) := by
  induction l with
  | nil => intro n _ _; exact tell_nil n
  | cons x r ih =>
    intro n hn hx
    rw [packL, tell_frame n x _ (hx x (by simp)) (by simp at hn; omega), ih (n + 1) (by simp at hn; omega) (fun y hy => hx y (by simp [hy]))]
    simp [onto]
theorem part_lt {l : List (List UInt8)} {x : List UInt8} (h : x ∈ l) : x.length ≤ (packL l).length := by
  induction l with
  | nil => cases h
  | cons y r ih =>
    rw [packL, List.length_append, frameL_length]
    rcases List.mem_cons.1 h with e | e
    · subst e; omega
    · have := ih e; omega
theorem unpack_pack {l : List (List UInt8)} (h : packE l = 0) : unpackT (packL l) = (0, l) := by
  have hp := pack_ok h
  unfold unpackT
  rw [if_neg (by omega)]
  exact tell_pack l 0 (by omega) (fun x hx => by have := part_lt hx; omega)
theorem pack_inj {a b : List (List UInt8)} (ha : packE a = 0) (hb : packE b = 0) (h : packL a = packL b) : a = b := by
  have h1 := unpack_pack ha
  rw [h, unpack_pack hb] at h1
  exact (Prod.ext_iff.1 h1).2.symm

/-- what is told apart, put together, is the text -/
theorem pack_tell (m : Nat) : ∀ (n : Nat) (l : List UInt8) (p : List (List UInt8)), l.length ≤ m → n ≤ 64 → tell n l = (0, p) → packL p = l ∧ n + p.length ≤ 64 := by
  induction m with
  | zero =>
    intro n l p hl hn h
    have : l = [] := List.eq_nil_of_length_eq_zero (by omega)
    subst this
    rw [tell_nil] at h
    obtain ⟨_, rfl⟩ := Prod.ext_iff.1 h |>.imp id Eq.symm
    exact ⟨rfl, by simpa using hn⟩
  | succ m ih =>
    intro n l p hl hn64 h
    by_cases h0 : l = []
    · subst h0
      rw [tell_nil] at h
      obtain ⟨_, rfl⟩ := Prod.ext_iff.1 h |>.imp id Eq.symm
      exact ⟨rfl, by simpa using hn64⟩
    · by_cases hn : n = 64
      · subst hn; rw [tell_many l h0] at h; simp at h
      · by_cases hs : l.length < 4 ∨ l.length - 4 < numL (l.take 4)
        · rw [tell_short n l h0 hn hs] at h; simp at h
        · rw [tell_step n l hn (by omega) (by omega)] at h
          unfold onto at h
          by_cases he : (tell (n + 1) (l.drop (4 + numL (l.take 4)))).1 = 0
          · rw [if_pos he] at h
            have hp := (Prod.ext_iff.1 h).2
            simp only at hp
            subst hp
            have hr := ih (n + 1) (l.drop (4 + numL (l.take 4))) (tell (n + 1) (l.drop (4 + numL (l.take 4)))).2 (by simp; omega) (by omega) (Prod.ext he rfl)
            refine ⟨?_, by simp; omega⟩
            rw [List.singleton_append, packL, hr.1, frameL]
            have hlen : ((l.drop 4).take (numL (l.take 4))).length = numL (l.take 4) := by simp; omega
            rw [hlen]
            have hb := bigL_numL (l.take 4)
            rw [show (l.take 4).length = 4 by simp; omega] at hb
            rw [hb, List.append_assoc, ← List.drop_drop, List.take_append_drop, List.take_append_drop]
          · rw [if_neg he] at h
            exact absurd (Prod.ext_iff.1 h).1 he
theorem pack_unpack {l : List UInt8} {p : List (List UInt8)} (h : unpackT l = (0, p)) : packL p = l ∧ packE p = 0 := by
  unfold unpackT at h
  by_cases hl : 65536 < l.length
  · rw [if_pos hl] at h; simp at h
  · rw [if_neg hl] at h
    have := pack_tell l.length 0 l p (Nat.le_refl _) (by omega) h
    exact ⟨this.1, packE_ok (by omega) (by rw [this.1]; omega)⟩

/-- a packed text that breaks off: behind a part, or too short -/
theorem tell_cut (l : List (List UInt8)) : ∀ (n c : Nat), n + l.length ≤ 64 → (∀ x ∈ l, x.length < 2 ^ 32) → c ≤ (packL l).length →
    (∃ i, i ≤ l.length ∧ (packL (l.take i)).length = c ∧ tell n ((packL l).take c) = (0, l.take i)) ∨ ((∀ i, i ≤ l.length → (packL (l.take i)).length ≠ c) ∧ tell n ((packL l).take c) = (3, [])) := by
  induction l with
  | nil =>
    intro n c _ _ hc
    have : c = 0 := by simpa [packL] using hc
    subst this
    exact Or.inl ⟨0, by simp, rfl, by simp [packL, tell_nil]⟩
  | cons x r ih =>
    intro n c hn hx hc
    have hx0 := hx x (by simp)
    simp only [List.length_cons] at hn
    by_cases hc0 : c = 0
    · subst hc0
      exact Or.inl ⟨0, by simp, rfl, by simp [tell_nil]⟩
    · by_cases hlt : c < 4 + x.length
      · refine Or.inr ⟨?_, ?_⟩
        · intro i _ h
          cases i with
          | zero => simp [packL] at h; omega
          | succ i => rw [List.take_succ_cons, packL, List.length_append, frameL_length] at h; omega
        · have hne : (packL (x :: r)).take c ≠ [] := by
            intro h
            have := congrArg List.length h
            simp [packL, frameL_length] at this
            omega
          refine tell_short n _ hne (by omega) ?_
          have hlen : ((packL (x :: r)).take c).length = c := by rw [List.length_take]; omega
          by_cases h4 : c < 4
          · left; omega
          · right
            rw [hlen, List.take_take, show min 4 c = 4 by omega, packL, take_frame x _ hx0]
            omega
      · rw [packL, List.length_append, frameL_length] at hc
        have e : (packL (x :: r)).take c = frameL x ++ (packL r).take (c - (4 + x.length)) := by
          rw [packL, List.take_append, frameL_length, List.take_of_length_le (by rw [frameL_length]; omega)]
        rw [e, tell_frame n x _ hx0 (by omega)]
        rcases ih (n + 1) (c - (4 + x.length)) (by omega) (fun y hy => hx y (by simp [hy])) (by omega) with ⟨i, hi, h1, h2⟩ | ⟨h1, h2⟩
        · exact Or.inl ⟨i + 1, by simp; omega, by rw [List.take_succ_cons, packL, List.length_append, frameL_length]; omega, by rw [h2]; simp [onto]⟩
        · refine Or.inr ⟨?_, by rw [h2]; simp [onto]⟩
          intro i hi h
          cases i with
          | zero => simp [packL] at h; omega
          | succ i =>
            rw [List.take_succ_cons, packL, List.length_append, frameL_length] at h
            exact h1 i (by simp at hi; omega) (by omega)
end Go.Proofs.YtaliafeekadecaaDoor
