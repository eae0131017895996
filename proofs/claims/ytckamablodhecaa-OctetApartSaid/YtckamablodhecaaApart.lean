/- What is proved: whatever two rows of parts and whatever place a packed text breaks off at, the statement on rows that are packed alike answers true; no condition. -/
import Derived.Test.YtckamablodhecaaFrame
import Derived.Test.YtckamablodhecaaFew
import Derived.Test.YtckamablodhecaaPack
import Derived.Test.YtckamablodhecaaAlive
namespace Go.Proofs.Ytckamablodhecaa
open Go.ChangeShapes Go.WideShapes Go.ChangeAt Go.RowKit
open Go.ChangeMaps (open_string shut_string)

theorem cut_short (l : List (List UInt8)) : ∀ x ∈ fewL l, x.length ≤ 1000000 := fun x hx => by have := fewL_part hx; omega

set_option maxHeartbeats 1600000 in
theorem apart_none (v u : Value) (l m : List (List UInt8)) (c : Int) (W : World) (hl : Strs W v l) (hx : ∀ x ∈ l, x.length ≤ maxLen) (hm : Strs W u m) (hy : ∀ x ∈ m, x.length ≤ maxLen)
    (he : (packE (fewL l) != 0) = true ∨ (packE (fewL l) != 0) = false ∧ (packE (fewL m) != 0) = true) :
    Calls Try.prog 6 #[v, u, .int .i64 c] W fun e W' => e = .returned (.bool true) ∧ Below W.heap.size W W' := by
  have hb := Below.refl W.heap.size W
  have HP1 := Lib.hid (fun w v h => pack_any w v (fewL l) h (cut_short l))
  have HP2 := Lib.hid (fun w v h => pack_any w v (fewL m) h (cut_short m))
  have HF1 := Lib.hid (fun w h => few_any w v l h hx)
  have HF2 := Lib.hid (fun w h => few_any w u m h hy)
  clear hx hy
  generalize packE (fewL l) = e1 at he HP1
  generalize packE (fewL m) = e2 at he HP2
  rcases he with he | ⟨he, he'⟩
  all_goals
    go_enter Try.func6, Try.ntmps6
    go_wp2_with (go_at_call 18; ((with_reducible refine (HF1.out _ hl).mono ?_); rintro e w1 ⟨v1, rfl, hs1, hb1⟩; replace hm := hm.below hb1; replace hb := below_on hb hb1; clear hb1))
    go_wp2_with (go_at_call 18; ((with_reducible refine (HF2.out _ hm).mono ?_); rintro e w1 ⟨v2, rfl, hs2, hb1⟩; replace hs1 := hs1.below hb1; replace hb := below_on hb hb1; clear hb1))
    go_wp2_with (go_at_call 19; ((with_reducible refine (HP1.out _ _ hs1).mono ?_); rintro e w1 ⟨rfl, hb1⟩; replace hs1 := hs1.below hb1; replace hs2 := hs2.below hb1; replace hb := below_on hb hb1; clear hb1))
    go_wp2_with (go_at_call 19; ((with_reducible refine (HP2.out _ _ hs2).mono ?_); rintro e w1 ⟨rfl, hb1⟩; replace hs1 := hs1.below hb1; replace hs2 := hs2.below hb1; replace hb := below_on hb hb1; clear hb1))
    go_wp2_with (go_at_call 14; refine (alive_any _).mono ?_; rintro e w1 ⟨rfl, hb1⟩; replace hb := below_on hb hb1; clear hb1)
    go_ret
    exact ⟨rfl, hb⟩

/-- a row's beginning -/
theorem Strs.take {w : World} {a : Option Addr} {c : Nat} {l : List (List UInt8)} (h : Strs w (.slice a l.length c) l) (i : Nat) (hi : i ≤ l.length) : Strs w (.slice a i c) (l.take i) := by
  obtain ⟨a', c', hv, hc, hm, hn, hx⟩ := h
  simp only [Value.slice.injEq, true_and] at hv
  obtain ⟨rfl, rfl⟩ := hv
  refine ⟨a, c, by rw [List.length_take, Nat.min_eq_left hi], by rw [List.length_take]; omega, hm, hn, fun hne => ?_⟩
  obtain ⟨b, off, ha, hcell⟩ := hx (by intro h; subst h; simp at hne)
  refine ⟨b, off, ha, fun j x hj => hcell j x ?_⟩
  rw [List.getElem?_take] at hj
  split at hj
  · exact hj
  · cases hj

theorem take_len {l : List (List UInt8)} {k : Nat} {x : List UInt8} (h : l[k]? = some x) : (packL (l.take (k + 1))).length = (packL (l.take k)).length + 4 + x.length := by
  rw [take_frames h, List.length_append, List.length_append, bigL_length]
theorem take_le (l : List (List UInt8)) (i j : Nat) (h : i ≤ j) : (packL (l.take i)).length ≤ (packL (l.take j)).length := by
  have h1 := take_packed (l.take j) i
  rw [List.take_take, Nat.min_eq_left h] at h1
  exact h1

/-- how the text that breaks off is told -/
def Off (l : List (List UInt8)) (k : Nat) (e : Int) (r : List (List UInt8)) : Prop :=
  (∃ i, i ≤ l.length ∧ (packL (l.take i)).length = k ∧ e = 0 ∧ r = l.take i) ∨ ((∀ i, i ≤ l.length → (packL (l.take i)).length ≠ k) ∧ e = 3 ∧ r = [])
theorem off_told {l : List (List UInt8)} {k : Nat} (h : packE l = 0) (hk : k ≤ (packL l).length) : Off l k (unpackT ((packL l).take k)).1 (unpackT ((packL l).take k)).2 := by
  have hp := pack_ok h
  have e : unpackT ((packL l).take k) = tell 0 ((packL l).take k) := by unfold unpackT; rw [if_neg (by rw [List.length_take]; omega)]
  rw [e]
  rcases tell_cut l 0 k (by omega) (fun x hx => by have := part_lt hx; omega) hk with ⟨i, hi, h1, h2⟩ | ⟨h1, h2⟩
  · exact Or.inl ⟨i, hi, h1, by rw [h2], by rw [h2]⟩
  · exact Or.inr ⟨h1, by rw [h2], by rw [h2]⟩
theorem unpack_cut (l : List (List UInt8)) (k : Nat) (h : packE l = 0) (hk : k ≤ (packL l).length) :
    ∃ e r, Off l k e r ∧ ∀ w, Calls Try.prog 20 #[.string (({ data := (packL l).toArray } : ByteArray).extract 0 k)] w fun x w' => ∃ v, x = .returned (.tuple #[v, .int .i64 e]) ∧ Strs w' v r ∧ Below w.heap.size w w' := by
  refine ⟨_, _, off_told h hk, fun w => ?_⟩
  have h1 := unpack_any (({ data := (packL l).toArray } : ByteArray).extract 0 k) w
  have e : (({ data := (packL l).toArray } : ByteArray).extract 0 k).data.toList = (packL l).take k := by
    rw [Lib.extract_data]
    rfl
  rw [e] at h1
  exact h1

set_option maxRecDepth 100000 in
set_option maxHeartbeats 1600000 in
theorem apart_both (v u : Value) (l m : List (List UInt8)) (c : Int) (W : World) (hl : Strs W v l) (hx : ∀ x ∈ l, x.length ≤ maxLen) (hm : Strs W u m) (hy : ∀ x ∈ m, x.length ≤ maxLen)
    (he : packE (fewL l) = 0) (hf : packE (fewL m) = 0) :
    Calls Try.prog 6 #[v, u, .int .i64 c] W fun e W' => e = .returned (.bool true) ∧ Below W.heap.size W W' := by
  have hb := Below.refl W.heap.size W
  have HP1 := Lib.hid (fun w v h => pack_any w v (fewL l) h (cut_short l))
  have HP2 := Lib.hid (fun w v h => pack_any w v (fewL m) h (cut_short m))
  rw [packS_ok he, he] at HP1
  rw [packS_ok hf, hf] at HP2
  have HF1 := Lib.hid (fun w h => few_any w v l h hx)
  have HF2 := Lib.hid (fun w h => few_any w u m h hy)
  have hp := (pack_ok he).2
  have hpn := (pack_ok he).1
  clear hx hy
  generalize fewL l = a at he HP1 HF1 hp hpn
  generalize fewL m = b at hf HP2 HF2
  have HC := Lib.hid (fun k hk => unpack_cut a k he hk)
  have k0 : 0 ≤ min (max c 0) ((packL a).length : Int) := by omega
  have k1 : min (max c 0) ((packL a).length : Int) ≤ ((packL a).length : Int) := by omega
  go_enter Try.func6, Try.ntmps6
  go_wp2_with (go_at_call 18; ((with_reducible refine (HF1.out _ hl).mono ?_); rintro e w1 ⟨v1, rfl, hs1, hb1⟩; replace hm := hm.below hb1; replace hb := below_on hb hb1; clear hb1))
  go_wp2_with (go_at_call 18; ((with_reducible refine (HF2.out _ hm).mono ?_); rintro e w1 ⟨v2, rfl, hs2, hb1⟩; replace hs1 := hs1.below hb1; replace hb := below_on hb hb1; clear hb1))
  go_wp2_with (go_at_call 19; ((with_reducible refine (HP1.out _ _ hs1).mono ?_); rintro e w1 ⟨rfl, hb1⟩; replace hs1 := hs1.below hb1; replace hs2 := hs2.below hb1; replace hb := below_on hb hb1; clear hb1))
  go_wp2_with (go_at_call 19; ((with_reducible refine (HP2.out _ _ hs2).mono ?_); rintro e w1 ⟨rfl, hb1⟩; replace hs1 := hs1.below hb1; replace hs2 := hs2.below hb1; replace hb := below_on hb hb1; clear hb1))
  go_wp2_with (go_at_call 23; refine (same_any _ _ _ _ _ hs1 hs2).mono ?_; rintro e w1 ⟨rfl, hb1⟩; replace hs1 := hs1.below hb1; replace hb := below_on hb hb1; clear hb1)
  rotate_left
  · rename_i h
    refine absurd ?_ h
    by_cases hab : a = b
    · subst hab; simp
    · have hne : packL a ≠ packL b := fun hh => hab (pack_inj he hf hh)
      simp [hab, hne]
  clear hs2 HP1 HP2 HF1 HF2
  go_wp2_with (go_at_call 14; refine (alive_any _).mono ?_; rintro e w1 ⟨rfl, hb1⟩; replace hs1 := hs1.below hb1; replace hb := below_on hb hb1; clear hb1)
  generalize min (max c 0) ((packL a).length : Int) = K at k0 k1 ⊢
  obtain ⟨k, rfl⟩ := Int.eq_ofNat_of_zero_le k0
  rw [Int.toNat_natCast]
  obtain ⟨e3, r, HO, HK⟩ := HC.out k (by omega)
  replace HO := Lib.hid HO
  replace HK := Lib.hid HK
  go_wp2_with (go_at_call 20; ((with_reducible refine (HK.out _).mono ?_); rintro e w1 ⟨v3, rfl, hs3, hb1⟩; replace hs1 := hs1.below hb1; replace hb := below_on hb hb1; clear hb1))
  have HS1 := Lib.hid hs1
  obtain ⟨ao, cp, rfl, hcp, hcm, hcn, hcell⟩ := hs1
  unfold maxLen at hcm
  have HA := Lib.hid he
  clear k0 he hf HC HK hl hm
  rcases HO.out with ⟨i0, hi0, hk0, rfl, rfl⟩ | ⟨hne, rfl, rfl⟩
  · subst hk0
    clear HO
    go_loop [13, 14] (fun q i => ∃ j : Nat, j ≤ i0 ∧ i = .int .i64 j ∧ q = .int .i64 (packL (a.take j)).length) (fun _ i => i0 + 1 - (intOf i).toNat)
    case atStart => exact ⟨0, Nat.zero_le _, rfl, rfl⟩
    case round =>
      obtain ⟨j, hj, rfl, rfl⟩ := hrel
      by_cases hji : j = i0
      · subst hji
        have HT := Lib.hid (HS1.out.take j hi0)
        go_wp2_with (go_at_call 23; refine (same_any _ _ _ _ _ hs3 HT.out).mono ?_; rintro e w1 ⟨rfl, hb1⟩; replace hb := below_on hb hb1; clear hb1)
        go_ret
        exact ⟨ret1_of rfl, hb⟩
      · have hja : j < a.length := by omega
        obtain ⟨b', off, rfl, hcl⟩ := hcell (by intro h; subst h; simp at hja)
        obtain ⟨x, hxk⟩ : ∃ x, a[j]? = some x := ⟨a[j], List.getElem?_eq_getElem hja⟩
        have hc1 := hcl j x hxk
        unfold str at hc1
        have HL := Lib.hid (take_len hxk)
        have hle := take_le a (j + 1) i0 (by omega)
        rw [HL.out] at hle
        have hq : (((packL (a.take j)).length : Int) == ((packL (a.take i0)).length : Int)) = false := by simp; omega
        have hq2 : ((j : Int) == (a.length : Int)) = false := by simp; omega
        have hq3 : ¬ ((packL (a.take i0)).length : Int) < ((packL (a.take j)).length : Int) := by omega
        clear hxk hcl hcell HS1 hs3
        go_wp2_with fail
        go_round
        case rel => exact ⟨j + 1, by omega, by go_num, val_int (by rw [HL.out]; omega)⟩
        case measure => simp [intOf]; omega
  · obtain ⟨a3, cp3, rfl, _⟩ := hs3
    clear HO
    replace hne := Lib.hid hne
    go_loop [13, 14] (fun q i => ∃ j : Nat, j ≤ a.length ∧ i = .int .i64 j ∧ q = .int .i64 (packL (a.take j)).length) (fun _ i => a.length + 1 - (intOf i).toNat)
    case atStart => exact ⟨0, Nat.zero_le _, rfl, rfl⟩
    case round =>
      obtain ⟨j, hj, rfl, rfl⟩ := hrel
      have hlen := take_packed a j
      have hq : (((packL (a.take j)).length : Int) == (k : Int)) = false := by have := hne.out j hj; simp; omega
      by_cases hja : j = a.length
      · have hq2 : ((j : Int) == (a.length : Int)) = true := by simp; omega
        clear hja
        go_wp2_with fail
        go_ret
        exact ⟨ret1_of rfl, hb⟩
      · have hja' : j < a.length := by omega
        have hq2 : ((j : Int) == (a.length : Int)) = false := by simp; omega
        by_cases hgt : (k : Int) < ((packL (a.take j)).length : Int)
        · clear hja
          go_wp2_with fail
          go_ret
          exact ⟨ret1_of rfl, hb⟩
        · obtain ⟨b', off, rfl, hcl⟩ := hcell (by intro h; subst h; simp at hja')
          obtain ⟨x, hxk⟩ : ∃ x, a[j]? = some x := ⟨a[j], List.getElem?_eq_getElem hja'⟩
          have hc1 := hcl j x hxk
          unfold str at hc1
          have HL := Lib.hid (take_len hxk)
          have hle := take_packed a (j + 1)
          rw [HL.out] at hle
          clear hxk hcl hcell HS1 hja
          go_wp2_with fail
          go_round
          case rel => exact ⟨j + 1, by omega, by go_num, val_int (by rw [HL.out]; omega)⟩
          case measure => simp [intOf]; omega
end Go.Proofs.Ytckamablodhecaa
