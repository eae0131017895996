/- The contract of the reference's Write. -/
import Derived.Test.YtmebiidgeaalpaaDoorTRefPlain
namespace Go.Proofs.YtmebiidgeaalpaaDoor.T
open Go.RowKit

/-- values go into a row, from a place on -/
def putAll (cs : Array Value) (o : Nat) : List Value → Array Value
  | [] => cs
  | v :: r => putAll (cs.setIfInBounds o v) (o + 1) r
theorem Lies.putAll {g : Nat} {t : TypeId} : ∀ (vs : List Value) (o : Nat) {w : World} {cs : Array Value}, Lies w g t cs → Lies (w.setCells g o vs) g t (Go.Proofs.YtmebiidgeaalpaaDoor.T.putAll cs o vs)
  | [], _, _, _, h => h
  | v :: r, o, _, _, h => Lies.putAll r (o + 1) (h.put o v)
theorem Only.putAll {g : Nat} {a : World} : ∀ (vs : List Value) (o : Nat) {w : World}, Only g a w → Only g a (w.setCells g o vs)
  | [], _, _, h => h
  | v :: r, o, _, h => Only.putAll r (o + 1) (h.put (p := ⟨g, o, none⟩) (Or.inl rfl) v)
theorem putAll_words (K M : H8) (buf : ByteArray) (n : Nat) : putAll (sumA K buf n) 0 (wordsA M).toList = sumA M buf n := by
  simp [putAll, sumA]
theorem words_one (M : H8) : ∀ v ∈ (wordsA M).toList, v.oneCell' = true := by
  intro v hv
  simp at hv
  rcases hv with rfl | rfl | rfl | rfl | rfl | rfl | rfl | rfl <;> rfl
theorem sum_some {w : World} {g n : Nat} {K : H8} {buf : ByteArray} (hl : Lies w g 28 (sumA K buf n)) (j : Nat) (hj : j < 8) : (w.cell? ⟨g, j, none⟩).isSome = true := by
  rw [hl.cell j, Array.getElem?_eq_getElem (show j < (sumA K buf n).size from Nat.lt_of_lt_of_le hj (show 8 ≤ 10 by decide))]
  rfl
/-- eight words go into a sum -/
theorem store_mix {w : World} {g n : Nat} {K M : H8} {buf : ByteArray} {cs : Array Value} (hl : Lies w g 28 (sumA K buf n)) (hcs : wordsA M = cs) :
    ∃ w', (storeCells ⟨g, 0, none⟩ cs.toList).run Tryd.prog w = .ok () w' ∧ Lies w' g 28 (sumA M buf n) ∧ Only g w w' := by
  have h1 := words_one M
  have h2 := hl.putAll (wordsA M).toList 0
  rw [putAll_words] at h2
  have h3 := (Only.refl w g).putAll (wordsA M).toList 0
  have h8 : (wordsA M).toList.length = 8 := rfl
  rw [hcs] at h1 h2 h3 h8
  have hs := run_storeCells_cells (P := Tryd.prog) g 0 cs.toList 0 w
    (fun j hj => by rw [Nat.zero_add]; exact sum_some hl j (by omega))
    (fun j hj => by rw [Nat.zero_add]; exact hl.frozen j) h1
  rw [Nat.zero_add] at hs
  exact ⟨_, hs, h2, h3⟩
theorem Lies.eight {w : World} {g : Nat} {t : TypeId} {s : H8} {buf : ByteArray} {n : Nat} (h : Lies w g t (sumA s buf n)) :
    w.cell? ⟨g, 0, none⟩ = some (w64 s.a) ∧ w.cell? ⟨g, 1, none⟩ = some (w64 s.b) ∧ w.cell? ⟨g, 2, none⟩ = some (w64 s.c) ∧ w.cell? ⟨g, 3, none⟩ = some (w64 s.d) ∧ w.cell? ⟨g, 4, none⟩ = some (w64 s.e) ∧ w.cell? ⟨g, 5, none⟩ = some (w64 s.f) ∧ w.cell? ⟨g, 6, none⟩ = some (w64 s.g) ∧ w.cell? ⟨g, 7, none⟩ = some (w64 s.h) :=
  ⟨h.cell 0, h.cell 1, h.cell 2, h.cell 3, h.cell 4, h.cell 5, h.cell 6, h.cell 7⟩

set_option maxRecDepth 100000 in
set_option maxHeartbeats 1600000 in
theorem refWrite_any (H : H8) (buf s : ByteArray) (n : Nat) (w : World) (hb : buf.size ≤ 1000) (hs : s.size ≤ 1000) (hn : n + s.size < 18446744073709551616) (hok : H.Ok) :
    Calls Tryd.prog 23 #[.agg (sumA H buf n), .string s] w fun e w' => e = .returned (.agg (sumA (feed H (buf.data.toList ++ s.data.toList)) (bytesOf (tailB (buf.data.toList ++ s.data.toList))) (n + s.size))) ∧ Below w.heap.size w w' := by
  have hno : ¬ 9223372036854775807 < buf.size + s.size := by omega
  have hno2 : (buf ++ s).size ≤ 2000 := by rw [ByteArray.size_append]; omega
  have HA := Lib.hid (list_append buf s)
  obtain ⟨gk, hgk0⟩ : ∃ gk : Nat, gk = 0 := ⟨0, rfl⟩
  clear hgk0 gk
  have HX := Lib.hid (heap_alloc2_old w (.cells (sumA H buf n) 28) (.cells (sumA h8zero noBytes 0) 28))
  unfold sumA
  go_enter Tryd.func23, Tryd.ntmps23
  go_wp2_with (go_at_call 13; refine (keys_any _).mono ?_; rintro e w1 ⟨gk, rfl, hgk, hk, hb1⟩; have hx : Lies w1 w.heap.size 28 (sumA H buf n) := Lies.on (heap_alloc2_old w _ _) hb1; have hz : Lies w1 (w.heap.size + 1) 28 (sumA h8zero noBytes 0) := Lies.on (heap_alloc2_new w _ _) hb1; replace hb1 := (((Below.refl _ w).alloc (Nat.le_refl _) _).alloc (by simp) _).trans (hb1.mono (by simp; omega)); simp at hgk; have k8 := hx.c8)
  go_loopw [6] (fun v wr => ∃ (r : ByteArray) (K : H8), v = .string r ∧ r.size ≤ 2000 ∧ Lies wr w.heap.size 28 (sumA K buf n) ∧ Lies wr (w.heap.size + 1) 28 (sumA h8zero noBytes 0) ∧ Keysat wr gk ∧ K.Ok ∧ Hid (feed H (buf.data.toList ++ s.data.toList) = feed K r.data.toList) ∧ Hid (tailB (buf.data.toList ++ s.data.toList) = tailB r.data.toList) ∧ Below w.heap.size w wr) (fun v _ => strSize v)
  case atStart => exact ⟨_, H, rfl, hno2, hx, hz, hk, hok, Lib.hid (by rw [HA.out]), Lib.hid (by rw [HA.out]), hb1⟩
  case round =>
    clear hx hz hk hb1 k8 hno hno2 HX
    obtain ⟨r, K, rfl, hr, hx, hz, hk, hK, HF, HL, hb1⟩ := hrel
    by_cases hlt : 128 ≤ r.size
    · have HM := Lib.hid (fun w hk => mix_any K (r.extract 0 128) gk w (by rw [extract_size _ _ _ hlt]) hK hk)
      have hM := mix_ok K (r.extract 0 128).data.toList
      obtain ⟨M, hMd⟩ : ∃ M, mix K (r.extract 0 128).data.toList = M := ⟨_, rfl⟩
      rw [hMd] at HM hM
      have HD := Lib.hid hMd
      clear hMd
      obtain ⟨cs, hcs⟩ : ∃ cs, wordsA M = cs := ⟨_, rfl⟩
      rw [hcs] at HM
      have hsz : cs.size = 8 := by rw [← hcs]; rfl
      have HC := Lib.hid hcs
      clear hcs
      obtain ⟨c0, c1, c2, c3, c4, c5, c6, c7⟩ := hx.eight
      go_upto_region 4 with fail
      go_region_with (go_at_call 30; refine (HM.out wr.drew hk).mono ?_; rintro e w4 ⟨rfl, hb4⟩; have hx4 := Lies.on hx.drew hb4; have hz4 := Lies.on hz.drew hb4; have hk4 := Lies.on (Lies.drew hk) hb4; obtain ⟨w5, hst, hl5, hO5⟩ := store_mix (M := M) hx4 HC.out)
      all_goals
        go_wp2
        go_roundw
        case rel =>
          exact ⟨_, M, rfl, by rw [ByteArray.size_extract]; omega, hl5, hz4.only hO5 (by intro e; injection e; omega), Lies.only hk4 hO5 (by intro e; injection e; omega), hM, Lib.hid (by rw [HF.out, feed_long K r.data.toList (by rw [← Lib.size_eq]; exact hlt), ← head_list, HD.out, rest_list]), Lib.hid (by rw [HL.out, tail_long r.data.toList (by rw [← Lib.size_eq]; exact hlt), rest_list]), hO5.below (below_on hb1.drew hb4) (below_on hb1.drew hb4).size (Nat.le_refl _)⟩
        case measure => simp [strSize]; omega
    · have k8 := hx.c8
      have f8 := hx.frozen 8
      have k9 := hx.c9
      have f9 := hx.frozen 9
      go_upto_region 8 with fail
      generalize hW : World.setCell (World.setCell wr _ _) _ _ = w6
      have hx6 : Lies w6 w.heap.size 28 (sumA K r (n + s.size)) := by rw [← hW]; exact (Lies.buf hx r).len (n + s.size)
      have hz6 : Lies w6 (w.heap.size + 1) 28 (sumA h8zero noBytes 0) := by rw [← hW]; exact (hz.far (by simp) _).far (by simp) _
      have hb6 : Below w.heap.size w w6 := by rw [← hW]; exact (hb1.setCell (p := ⟨w.heap.size, 8, none⟩) (Nat.le_refl _) _).setCell (p := ⟨w.heap.size, 9, none⟩) (Nat.le_refl _) _
      clear hW
      have hsh : r.data.toList.length < 128 := by rw [← Lib.size_eq]; omega
      have HE : Ending.returned (.agg (sumA K r (n + s.size))) = .returned (.agg (sumA (feed H (buf.data.toList ++ s.data.toList)) (bytesOf (tailB (buf.data.toList ++ s.data.toList))) (n + s.size))) := by
        rw [HF.out, HL.out, feed_short K _ hsh, tail_short _ hsh, show bytesOf r.data.toList = r from Lib.mk_data r]
      go_wp2_with (first | ((with_reducible refine wpL_load w.heap.size 28 (sumA K r (n + s.size)) 10 row29 rfl hx6 ?_ ?_); rfl) | ((with_reducible refine wpL_store (w.heap.size + 1) 28 _ (sumA K r (n + s.size)) 10 row29 rfl rfl (sumA_one _ _ _) hz6 ?_ ?_ ?_); rfl; rfl))
      exact bodyPost_ret (results_row Tryd.results23 row29 rfl (hz6.row _) rfl) rfl ⟨HE, below_rowSet hb6 (by omega) _⟩
end Go.Proofs.YtmebiidgeaalpaaDoor.T
