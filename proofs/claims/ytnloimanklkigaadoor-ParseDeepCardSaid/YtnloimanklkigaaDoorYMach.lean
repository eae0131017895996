/- What is open stands on a stack: reading as a row of steps, and that these come to what reading by descent comes to. Nothing of the program is named here. -/
import Derived.Test.YtnloimanklkigaaDoorYRead
namespace Go.Proofs.YtnloimanklkigaaDoor.V
open Go

/-- a list, or values by keys, that has not ended: what was read of it, and a bound of the bytes behind -/
structure Fr where
  map : Bool
  items : List VT
  keys : List (List UInt8)
  f : Nat
def Fr.kind (fr : Fr) : Int := if fr.map then 4 else 3
def Fr.last (fr : Fr) : UInt8 := if fr.map then 125 else 93
/-- what comes of it behind an item -/
def Fr.after (L : Nat) (fr : Fr) : Rd (VT × Nat) → Rd (VT × Nat)
  | .bad e => .bad e
  | .ok _ [] => .bad 3
  | .ok (x, n) (c :: r) => if c = fr.last then .ok (.mk fr.kind 0 [] (fr.items ++ [x]) fr.keys, n) r else
    if c = 44 then
      (if fr.map then (rdM (rdV L) fr.f fr.keys.getLast? n r).map (fun p => (.mk 4 0 [] (fr.items ++ x :: p.1) (fr.keys ++ p.2.1), p.2.2))
      else (rdL (rdV L) fr.f n r).map (fun p => (.mk 3 0 [] (fr.items ++ x :: p.1) fr.keys, p.2)))
    else .bad 20
/-- .. and of all, the innermost first -/
def plug : List Fr → Rd (VT × Nat) → Rd (VT × Nat)
  | [], R => R
  | fr :: fs, R => plug fs (fr.after (11 - fs.length) R)
theorem plug_bad : ∀ (fs : List Fr) (e : Int), plug fs (.bad e) = .bad e := by
  intro fs
  induction fs with
  | nil => intro e; rfl
  | cons fr fs ih => intro e; rw [plug]; exact ih e
theorem after_end (L : Nat) (fr : Fr) (x : VT) (n : Nat) : fr.after L (.ok (x, n) []) = .bad 3 := rfl
theorem after_close (L : Nat) (fr : Fr) (x : VT) (n : Nat) (r : List UInt8) : fr.after L (.ok (x, n) (fr.last :: r)) = .ok (.mk fr.kind 0 [] (fr.items ++ [x]) fr.keys, n) r := by
  rw [Fr.after, if_pos rfl]
theorem after_odd (L : Nat) (fr : Fr) (x : VT) (n : Nat) {c : UInt8} (r : List UInt8) (h : c ≠ fr.last) (h2 : c ≠ 44) : fr.after L (.ok (x, n) (c :: r)) = .bad 20 := by
  rw [Fr.after, if_neg h, if_neg h2]
theorem last_no (fr : Fr) : (44 : UInt8) ≠ fr.last := by
  unfold Fr.last
  cases fr.map <;> decide
/-- a list goes on behind a comma -/
theorem after_list (L : Nat) (it : List VT) (f : Nat) (x : VT) (n : Nat) (r : List UInt8) : (Fr.mk false it [] (f + 1)).after L (.ok (x, n) (44 :: r)) = (Fr.mk false (it ++ [x]) [] f).after L (rdV L n r) := by
  rw [Fr.after, if_neg (last_no _), if_pos rfl]
  simp only [Bool.false_eq_true, if_false]
  rw [rdL]
  cases rdV L n r with
  | bad e => rfl
  | ok p r1 =>
    obtain ⟨y, n1⟩ := p
    cases r1 with
    | nil => rfl
    | cons c r1 =>
      simp only [Fr.after, Fr.last, Fr.kind, Bool.false_eq_true, if_false]
      by_cases h1 : c = 93
      · rw [if_pos h1, if_pos h1]
        unfold Rd.map
        simp
      · rw [if_neg h1, if_neg h1]
        by_cases h2 : c = 44
        · rw [if_pos h2, if_pos h2]
          cases rdL (rdV L) f n1 r1 with
          | bad e => rfl
          | ok p r2 =>
            unfold Rd.map
            simp
        · rw [if_neg h2, if_neg h2]
          rfl
/-- behind a key -/
def keyed (L : Nat) (it : List VT) (ks : List (List UInt8)) (f n : Nat) : Rd (List UInt8) → Rd (VT × Nat)
  | .bad e => .bad e
  | .ok k s => (Fr.mk true it (ks ++ [k]) f).after L (rdV L n s)
theorem after_map (L : Nat) (it : List VT) (ks : List (List UInt8)) (f : Nat) (x : VT) (n : Nat) (r : List UInt8) : (Fr.mk true it ks (f + 1)).after L (.ok (x, n) (44 :: r)) = keyed L (it ++ [x]) ks f n (rdK ks.getLast? r) := by
  rw [Fr.after, if_neg (last_no _), if_pos rfl]
  simp only [if_true]
  rw [rdM]
  cases rdK ks.getLast? r with
  | bad e => rfl
  | ok k s =>
    simp only [keyed]
    cases rdV L n s with
    | bad e => rfl
    | ok p r1 =>
      obtain ⟨y, n1⟩ := p
      cases r1 with
      | nil => rfl
      | cons c r1 =>
        simp only [Fr.after, Fr.last, Fr.kind, if_true]
        by_cases h1 : c = 125
        · rw [if_pos h1, if_pos h1]
          unfold Rd.map
          simp
        · rw [if_neg h1, if_neg h1]
          by_cases h2 : c = 44
          · rw [if_pos h2, if_pos h2, List.getLast?_concat]
            cases rdM (rdV L) f (some k) n1 r1 with
            | bad e => rfl
            | ok p r2 =>
              unfold Rd.map
              simp
          · rw [if_neg h2, if_neg h2]
            rfl
/-- a list begins -/
theorem begin_list (L n : Nat) (r : List UInt8) (hn : n ≠ 2000) : rdV (L + 1) n (91 :: r) = if r.head? = some 93 then .ok (.mk 3 0 [] [] [], n + 1) r.tail else (Fr.mk false [] [] r.length).after L (rdV L (n + 1) r) := by
  rw [rdV, if_neg hn, if_neg (by decide), if_neg (by decide), if_pos rfl]
  unfold rdB
  by_cases h : r.head? = some 93
  · rw [if_pos h, if_pos h]
  · rw [if_neg h, if_neg h, rdL]
    cases rdV L (n + 1) r with
    | bad e => rfl
    | ok p r1 =>
      obtain ⟨y, n1⟩ := p
      cases r1 with
      | nil => rfl
      | cons c r1 =>
        simp only [Fr.after, Fr.last, Fr.kind, Bool.false_eq_true, if_false]
        by_cases h1 : c = 93
        · rw [if_pos h1, if_pos h1]
          rfl
        · rw [if_neg h1, if_neg h1]
          by_cases h2 : c = 44
          · rw [if_pos h2, if_pos h2]
            cases rdL (rdV L) r.length n1 r1 with
            | bad e => rfl
            | ok p r2 => rfl
          · rw [if_neg h2, if_neg h2]
            rfl
theorem begin_map (L n : Nat) (r : List UInt8) (hn : n ≠ 2000) : rdV (L + 1) n (123 :: r) = if r.head? = some 125 then .ok (.mk 4 0 [] [] [], n + 1) r.tail else keyed L [] [] r.length (n + 1) (rdK none r) := by
  rw [rdV, if_neg hn, if_neg (by decide), if_neg (by decide), if_neg (by decide), if_pos rfl]
  unfold rdO
  by_cases h : r.head? = some 125
  · rw [if_pos h, if_pos h]
  · rw [if_neg h, if_neg h, rdM]
    cases rdK none r with
    | bad e => rfl
    | ok k s =>
      simp only [keyed]
      cases rdV L (n + 1) s with
      | bad e => rfl
      | ok p r1 =>
        obtain ⟨y, n1⟩ := p
        cases r1 with
        | nil => rfl
        | cons c r1 =>
          simp only [Fr.after, Fr.last, Fr.kind, if_true]
          by_cases h1 : c = 125
          · rw [if_pos h1, if_pos h1]
            rfl
          · rw [if_neg h1, if_neg h1]
            by_cases h2 : c = 44
            · rw [if_pos h2, if_pos h2, List.nil_append, List.getLast?_singleton]
              cases rdM (rdV L) r.length (some k) n1 r1 with
              | bad e => rfl
              | ok p r2 => rfl
            · rw [if_neg h2, if_neg h2]
              rfl
/-- the one of no levels, of too many values, of nothing, of a number, of a text, of a byte that begins none -/
theorem begin_deep (n : Nat) (s : List UInt8) : rdV 0 n s = .bad 21 := by rw [rdV]
theorem begin_many (L : Nat) (s : List UInt8) : rdV (L + 1) 2000 s = .bad 22 := by cases s <;> rw [rdV, if_pos rfl]
theorem begin_none (L n : Nat) (hn : n ≠ 2000) : rdV (L + 1) n [] = .bad 3 := by rw [rdV, if_neg hn]
theorem begin_num (L n : Nat) {c : UInt8} (r : List UInt8) (hn : n ≠ 2000) (h : c = 45 ∨ isDig c = true) : rdV (L + 1) n (c :: r) = (rdN (c :: r)).map (fun z => (.mk 1 z [] [] [], n + 1)) := by rw [rdV, if_neg hn, if_pos h]
theorem begin_txt (L n : Nat) (r : List UInt8) (hn : n ≠ 2000) : rdV (L + 1) n (34 :: r) = (rdT 0 r).map (fun w => (.mk 2 0 w [] [], n + 1)) := by rw [rdV, if_neg hn, if_neg (by decide), if_pos rfl]
theorem begin_odd (L n : Nat) {c : UInt8} (r : List UInt8) (hn : n ≠ 2000) (h : ¬ (c = 45 ∨ isDig c = true)) (h1 : c ≠ 34) (h2 : c ≠ 91) (h3 : c ≠ 123) : rdV (L + 1) n (c :: r) = .bad 20 := by rw [rdV, if_neg hn, if_neg h, if_neg h1, if_neg h2, if_neg h3]
end Go.Proofs.YtnloimanklkigaaDoor.V
