/- The contracts of the reference's Roots, Begins, First, Same. -/
import Derived.Test.YtmebiidgeaalpaaDoorTRefRoot
import Derived.Test.YtmebiidgeaalpaaDoorTRefPrimes
import Derived.Test.YtmebiidgeaalpaaDoorTRefPlain
namespace Go.Proofs.YtmebiidgeaalpaaDoor.T
open Go.RowKit

/-- words lie there -/
def Row32 (w : World) (g : Nat) (l : List Nat) : Prop := ∀ i, i < l.length → w.cell? ⟨g, i, none⟩ = some (w64 (l.getD i 0))
theorem Row32.on {w w' : World} {g : Nat} {l : List Nat} (h : Row32 w g l) (hb : Below w.heap.size w w') : Row32 w' g l := fun i hi => by
  have h1 := h i hi
  exact (hb.cell (p := ⟨g, i, none⟩) (World.block_lt_of_cell? w _ h1)).trans h1
theorem own_row32 {w : World} {B g n cap : Nat} {e : TypeId} {l : List Nat} (h : w.ownsRow B e 1 (.slice (some ⟨g, 0, none⟩) n cap) n (l.map w64)) : Row32 w g l := fun i hi => by
  have hn : l.length = n := by simpa using h.1
  rw [h.cellAt i (by omega), List.getElem?_map, List.getElem?_eq_getElem hi, List.getD_eq_getElem?_getD, List.getElem?_eq_getElem hi]
  rfl
theorem lies_row32 {w : World} {g : Nat} {t : TypeId} {l : List Nat} (h : Lies w g t (l.map w64).toArray) : Row32 w g l := fun i hi => by
  rw [h.cell i, List.getElem?_toArray, List.getElem?_map, List.getElem?_eq_getElem hi, List.getD_eq_getElem?_getD, List.getElem?_eq_getElem hi]
  rfl
theorem take_next (l : List Nat) (k : Nat) (h : k < l.length) : l.take (k + 1) = l.take k ++ [l.getD k 0] := by
  rw [List.take_add_one, List.getElem?_eq_getElem h, List.getD_eq_getElem?_getD, List.getElem?_eq_getElem h]
  rfl

/-- one value goes behind a row that the call owns, and where it lies then -/
theorem wpL_append2 {P : Program} {ops : Array Oper} {rest : List Oper} {a : Act} {w : World} {Q : Exit → Act → World → Prop} {t' : TypeId} {pos : String} {after : Array Edge} {d : Option Tmp} {x y : Tmp} {ty : TypeId}
    (B : Nat) (e : TypeId) (i : TypeInfo) (z : Value) (bytes : Nat) (ht : P.underlying ty = some (.slice e)) (hi : P.info? e = some i) (hz : i.zero = some z) (hsize : i.size = 1) (hby : i.bytes = bytes) (hzs : z.cells.size = 1)
    (v : Value) (n : Nat) (xs : List Value) (hown : w.ownsRow B e 1 v n xs) (b : Nat) (u : Value) (hl : Lies w b e #[u]) (hu : u.oneCell' = true) (h63 : n + 1 ≤ maxLen) (hbytes : (n + 1) * bytes ≤ 140737488355328) (hbase : B ≤ w.heap.size)
    (hs : a.eval (.tmp x) = v) (hx : a.eval (.tmp y) = .slice (some ⟨b, 0, none⟩) 1 1)
    (h : ∀ g cap w', w'.ownsRow B e 1 (.slice (some ⟨g, 0, none⟩) (n + 1) cap) (n + 1) (xs ++ [u]) → w.grownBy w' v.ownBlock → (v.ownBlock = some g ∨ g = w.heap.size) → wpList P ops Q rest (a.put d (.slice (some ⟨g, 0, none⟩) (n + 1) cap)) w') :
    wpList P ops Q (⟨d, .call { callee := .builtin .append, args := #[.tmp x, .tmp y], argTypes := #[ty, ty] }, t', pos, after, none⟩ :: rest) a w :=
  wpList_append_lies (o := ⟨d, .call { callee := .builtin .append, args := #[.tmp x, .tmp y], argTypes := #[ty, ty] }, t', pos, after, none⟩) w rfl _ _ ty rfl B e i z 1 bytes ht hi hz hsize hby hzs (by decide) v n xs hs hown ⟨b, 0, none⟩ 1 1 [u] hx rfl (World.news_of_block hl) (by simpa using hu) (by decide) h63 hbytes hbase w.heap.size rfl (fun g cap w' h2 h3 h4 _ => h g cap w' h2 h3 h4)

set_option maxRecDepth 100000 in
set_option maxHeartbeats 800000 in
theorem same_any (l : List Nat) (ga gb ca cb : Nat) (W : World) (ha : Row32 W ga l) (hb : Row32 W gb l) (hl : l.length ≤ 1000) :
    Calls Tryd.prog 12 #[.slice (some ⟨ga, 0, none⟩) l.length ca, .slice (some ⟨gb, 0, none⟩) l.length cb] W fun e W' => e = .returned (.bool true) ∧ Below W.heap.size W W' := by
  go_enter Tryd.func12, Tryd.ntmps12
  go_wp2_with fail
  go_loopw [13] (fun ix wr => ∃ k : Nat, k ≤ l.length ∧ ix = .int .i64 k ∧ Below W.heap.size W wr) (fun ix _ => l.length - (intOf ix).toNat)
  case atStart => exact ⟨0, Nat.zero_le _, rfl, Below.refl _ _⟩
  case round =>
    obtain ⟨k, hk, rfl, hB⟩ := hrel
    by_cases hlk : k < l.length
    · have hX := (ha.on hB) k hlk
      have hY := (hb.on hB) k hlk
      generalize l.getD k 0 = X at hX hY
      go_wp2_with fail
      go_quiet (fail)
      go_wp2_with fail
      go_roundw
      case rel => exact ⟨k + 1, by omega, by go_num, below_drawn hB nq⟩
      case measure => simp [intOf]; omega
    · obtain rfl : k = l.length := by omega
      go_wp2_with fail
      go_ret
      exact ⟨rfl, hB⟩

/-- the first words as a list -/
def h0L : List Nat := [h0.a, h0.b, h0.c, h0.d, h0.e, h0.f, h0.g, h0.h]
set_option maxHeartbeats 400000 in
theorem first_any (w : World) :
    Calls Tryd.prog 15 #[] w fun e w' => ∃ g, e = .returned (.slice (some ⟨g, 0, none⟩) 8 8) ∧ w.heap.size ≤ g ∧ Row32 w' g h0L ∧ Below w.heap.size w w' := by
  go_enter Tryd.func15, Tryd.ntmps15
  go_wp2
  go_ret
  exact ⟨_, rfl, Nat.le_refl _, lies_row32 (l := h0L) (Lies.new w 25 (h0L.map w64).toArray), (Below.refl _ w).alloc (Nat.le_refl _) _⟩

set_option maxRecDepth 100000 in
set_option maxHeartbeats 1600000 in
theorem roots_any (W : World) (L : List Nat) (hL : sieveL (407 + 1) = L) (h1 : L.length = 80) (h2 : (sieveL 407).length < 80) :
    Calls Tryd.prog 14 #[] W fun e W' => ∃ g cap, e = .returned (.slice (some ⟨g, 0, none⟩) 80 cap) ∧ Row32 W' g (L.map fun p => rootL p 3) ∧ Below W.heap.size W W' := by
  obtain ⟨i0, hi, hz0, hz1, hz2⟩ := info_parts info27
  have hPr := fun W => primes_any 80 407 W (by rw [hL]; exact h1) h2 (by decide)
  rw [hL] at hPr
  have HP := Lib.hid hPr
  clear hPr hL h2
  go_enter Tryd.func14, Tryd.ntmps14
  have hb0 := (Below.refl W.heap.size W).alloc (Nat.le_refl _) (.cells #[] 25)
  have ho0 := own_empty (B := W.heap.size) (Lies.new W 25 #[]) (Nat.le_refl _)
  go_wp2_with (go_at_call 27; refine (HP.out _).mono ?_; rintro e w1 ⟨gp, cp, rfl, hop, hb1⟩; replace hb0 := below_on hb0 hb1; replace ho0 := own_on ho0 hb1; clear hb1)
  go_loopw [1, 7] (fun ox ix wr => ∃ k g cap : Nat, k ≤ 80 ∧ ix = .int .i64 k ∧ g ≠ gp ∧ ox = .slice (some ⟨g, 0, none⟩) k cap ∧ wr.ownsRow W.heap.size 25 1 (.slice (some ⟨g, 0, none⟩) k cap) k (((L.take k).map fun p => rootL p 3).map w64) ∧ wr.ownsRow (W.alloc (.cells #[] 25)).heap.size 25 1 (.slice (some ⟨gp, 0, none⟩) 80 cp) 80 (L.map w64) ∧ Below W.heap.size W wr) (fun _ ix _ => 80 - (intOf ix).toNat)
  case atStart =>
    have hgp := (hop.lt gp rfl).1
    simp at hgp
    exact ⟨0, _, _, by omega, rfl, by omega, rfl, ho0, hop, hb0⟩
  case round =>
    clear ho0 hop hb0
    obtain ⟨k, g, cap, hk, rfl, hgg, rfl, ho, hop, hB⟩ := hrel
    by_cases hlk : k < 80
    · have hX := own_dig hop k (by omega)
      have HT := Lib.hid (show (L.take (k + 1)).map (fun p => rootL p 3) = (L.take k).map (fun p => rootL p 3) ++ [rootL (L.getD k 0) 3] by rw [take_next L k (by omega), List.map_append]; rfl)
      generalize L.getD k 0 = P at hX HT
      have HC := Lib.hid (fun w => root_any P 3 w (by decide) (by decide))
      generalize rootL P 3 = Q at *
      go_wp2_with (first | (go_at_call 28; refine (HC.out _).mono ?_; rintro e w5 ⟨rfl, hb5⟩; replace ho := own_on ho hb5; replace hop := own_on hop hb5; replace hB := below_on hB hb5; clear hb5; have hsz := hB.size) | ((with_reducible refine wpL_append2 W.heap.size 25 i0 (.int .u64 0) 8 Tryd.underlying31 hi hz0 hz1 hz2 rfl _ k _ (ho.alloc _) w5.heap.size _ (Lies.new w5 _ _) rfl (by unfold maxLen; omega) (by omega) (by simp; omega) ?_ ?_ ?_); rfl; rfl; intro g6 cap6 w6 ho6 hgrow6 h46))
      have hgp := (hop.lt gp rfl).2
      have hap : ∀ x, (Value.slice (some ⟨gp, 0, none⟩) 80 cp).ownBlock = some x → (Value.slice (some ⟨g, 0, none⟩) k cap).ownBlock ≠ some x := fun x hx e => hgg (by rw [show (Value.slice (some ⟨g, 0, none⟩) k cap).ownBlock = some g from rfl] at e; rw [show (Value.slice (some ⟨gp, 0, none⟩) 80 cp).ownBlock = some gp from rfl] at hx; injection e with e; injection hx with hx; omega)
      have hg6 : g6 ≠ gp := by
        rcases h46 with h | h
        · rw [show (Value.slice (some ⟨g, 0, none⟩) k cap).ownBlock = some g from rfl] at h
          injection h with h
          omega
        · simp at h
          omega
      go_roundw
      case rel => exact ⟨k + 1, g6, cap6, by omega, by go_num, hg6, rfl, by rw [HT.out, List.map_append]; exact ho6, own_grown (hop.alloc _) hgrow6 hap, (hB.alloc hsz _).grown hgrow6 (by simp; omega) (fun j hj => (ho.lt j hj).1)⟩
      case measure => simp [intOf]; omega
    · obtain rfl : k = 80 := by omega
      rw [List.take_of_length_le (by omega)] at ho
      go_wp2_with fail
      go_ret
      exact ⟨g, cap, rfl, own_row32 ho, hB⟩

set_option maxRecDepth 100000 in
set_option maxHeartbeats 1600000 in
theorem begins_any (W : World) (L : List Nat) (hL : sieveL (17 + 1) = L) (h1 : L.length = 8) (h2 : (sieveL 17).length < 8) :
    Calls Tryd.prog 16 #[] W fun e W' => ∃ g cap, e = .returned (.slice (some ⟨g, 0, none⟩) 8 cap) ∧ Row32 W' g (L.map fun p => rootL p 2) ∧ Below W.heap.size W W' := by
  obtain ⟨i0, hi, hz0, hz1, hz2⟩ := info_parts info27
  have hPr := fun W => primes_any 8 17 W (by rw [hL]; exact h1) h2 (by decide)
  rw [hL] at hPr
  have HP := Lib.hid hPr
  clear hPr hL h2
  go_enter Tryd.func16, Tryd.ntmps16
  have hb0 := (Below.refl W.heap.size W).alloc (Nat.le_refl _) (.cells #[] 25)
  have ho0 := own_empty (B := W.heap.size) (Lies.new W 25 #[]) (Nat.le_refl _)
  go_wp2_with (go_at_call 27; refine (HP.out _).mono ?_; rintro e w1 ⟨gp, cp, rfl, hop, hb1⟩; replace hb0 := below_on hb0 hb1; replace ho0 := own_on ho0 hb1; clear hb1)
  go_loopw [1, 7] (fun ox ix wr => ∃ k g cap : Nat, k ≤ 8 ∧ ix = .int .i64 k ∧ g ≠ gp ∧ ox = .slice (some ⟨g, 0, none⟩) k cap ∧ wr.ownsRow W.heap.size 25 1 (.slice (some ⟨g, 0, none⟩) k cap) k (((L.take k).map fun p => rootL p 2).map w64) ∧ wr.ownsRow (W.alloc (.cells #[] 25)).heap.size 25 1 (.slice (some ⟨gp, 0, none⟩) 8 cp) 8 (L.map w64) ∧ Below W.heap.size W wr) (fun _ ix _ => 8 - (intOf ix).toNat)
  case atStart =>
    have hgp := (hop.lt gp rfl).1
    simp at hgp
    exact ⟨0, _, _, by omega, rfl, by omega, rfl, ho0, hop, hb0⟩
  case round =>
    clear ho0 hop hb0
    obtain ⟨k, g, cap, hk, rfl, hgg, rfl, ho, hop, hB⟩ := hrel
    by_cases hlk : k < 8
    · have hX := own_dig hop k (by omega)
      have HT := Lib.hid (show (L.take (k + 1)).map (fun p => rootL p 2) = (L.take k).map (fun p => rootL p 2) ++ [rootL (L.getD k 0) 2] by rw [take_next L k (by omega), List.map_append]; rfl)
      generalize L.getD k 0 = P at hX HT
      have HC := Lib.hid (fun w => root_any P 2 w (by decide) (by decide))
      generalize rootL P 2 = Q at *
      go_wp2_with (first | (go_at_call 28; refine (HC.out _).mono ?_; rintro e w5 ⟨rfl, hb5⟩; replace ho := own_on ho hb5; replace hop := own_on hop hb5; replace hB := below_on hB hb5; clear hb5; have hsz := hB.size) | ((with_reducible refine wpL_append2 W.heap.size 25 i0 (.int .u64 0) 8 Tryd.underlying31 hi hz0 hz1 hz2 rfl _ k _ (ho.alloc _) w5.heap.size _ (Lies.new w5 _ _) rfl (by unfold maxLen; omega) (by omega) (by simp; omega) ?_ ?_ ?_); rfl; rfl; intro g6 cap6 w6 ho6 hgrow6 h46))
      have hgp := (hop.lt gp rfl).2
      have hap : ∀ x, (Value.slice (some ⟨gp, 0, none⟩) 8 cp).ownBlock = some x → (Value.slice (some ⟨g, 0, none⟩) k cap).ownBlock ≠ some x := fun x hx e => hgg (by rw [show (Value.slice (some ⟨g, 0, none⟩) k cap).ownBlock = some g from rfl] at e; rw [show (Value.slice (some ⟨gp, 0, none⟩) 8 cp).ownBlock = some gp from rfl] at hx; injection e with e; injection hx with hx; omega)
      have hg6 : g6 ≠ gp := by
        rcases h46 with h | h
        · rw [show (Value.slice (some ⟨g, 0, none⟩) k cap).ownBlock = some g from rfl] at h
          injection h with h
          omega
        · simp at h
          omega
      go_roundw
      case rel => exact ⟨k + 1, g6, cap6, by omega, by go_num, hg6, rfl, by rw [HT.out, List.map_append]; exact ho6, own_grown (hop.alloc _) hgrow6 hap, (hB.alloc hsz _).grown hgrow6 (by simp; omega) (fun j hj => (ho.lt j hj).1)⟩
      case measure => simp [intOf]; omega
    · obtain rfl : k = 8 := by omega
      rw [List.take_of_length_le (by omega)] at ho
      go_wp2_with fail
      go_ret
      exact ⟨g, cap, rfl, own_row32 ho, hB⟩
end Go.Proofs.YtmebiidgeaalpaaDoor.T
