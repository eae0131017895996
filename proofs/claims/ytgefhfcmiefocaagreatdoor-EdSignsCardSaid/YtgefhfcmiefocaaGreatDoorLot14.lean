/- Texts that stand on one another, put together: TRefWrite, TRefEnd, TEq, TGoes, TSums, ERef, CAfEq, HRefAdd, HRefMul, ERSign. -/
import Derived.Test.YtgefhfcmiefocaaGreatDoorLot13
import Derived.Deep.CutRange
import Derived.Deep.RegionWith
import Derived.Laws.StructEq
/- The contract of the reference's Write. -/
namespace Go.Proofs.YtgefhfcmiefocaaGreatDoor.T
open Go.RowKit
set_option maxRecDepth 100000

/-- values go into a row, from a place on -/
def putAll (cs : Array Value) (o : Nat) : List Value → Array Value
  | [] => cs
  | v :: r => putAll (cs.setIfInBounds o v) (o + 1) r
theorem Lies.putAll {g : Nat} {t : TypeId} : ∀ (vs : List Value) (o : Nat) {w : World} {cs : Array Value}, Lies w g t cs → Lies (w.setCells g o vs) g t (Go.Proofs.YtgefhfcmiefocaaGreatDoor.T.putAll cs o vs)
  | [], _, _, _, h => h
  | v :: r, o, _, _, h => Lies.putAll r (o + 1) (h.put o v)
theorem Only.putAll {g : Nat} {a : World} : ∀ (vs : List Value) (o : Nat) {w : World}, Only g a w → Only g a (w.setCells g o vs)
  | [], _, _, h => h
  | v :: r, o, _, h => Only.putAll r (o + 1) (h.put (p := ⟨g, o, none⟩) (Or.inl rfl) v)
theorem putAll_words (K M : H8) (buf : ByteArray) (n : Nat) : putAll (sumA K buf n) 0 (wordsA M).toList = sumA M buf n := by
  simp [putAll, sumA]
theorem words_one (M : H8) : ∀ v ∈ (wordsA M).toList, v.oneCell' = true := by
  intro v hv
  simp at hv
  rcases hv with rfl | rfl | rfl | rfl | rfl | rfl | rfl | rfl <;> rfl
theorem sum_some {w : World} {g n : Nat} {K : H8} {buf : ByteArray} (hl : Lies w g 81 (sumA K buf n)) (j : Nat) (hj : j < 8) : (w.cell? ⟨g, j, none⟩).isSome = true := by
  rw [hl.cell j, Array.getElem?_eq_getElem (show j < (sumA K buf n).size from Nat.lt_of_lt_of_le hj (show 8 ≤ 10 by decide))]
  rfl
/-- eight words go into a sum -/
theorem store_mix {w : World} {g n : Nat} {K M : H8} {buf : ByteArray} {cs : Array Value} (hl : Lies w g 81 (sumA K buf n)) (hcs : wordsA M = cs) :
    ∃ w', (storeCells ⟨g, 0, none⟩ cs.toList).run Tryz.prog w = .ok () w' ∧ Lies w' g 81 (sumA M buf n) ∧ Only g w w' := by
  have h1 := words_one M
  have h2 := hl.putAll (wordsA M).toList 0
  rw [putAll_words] at h2
  have h3 := (Only.refl w g).putAll (wordsA M).toList 0
  have h8 : (wordsA M).toList.length = 8 := rfl
  rw [hcs] at h1 h2 h3 h8
  have hs := run_storeCells_cells (P := Tryz.prog) g 0 cs.toList 0 w
    (fun j hj => by rw [Nat.zero_add]; exact sum_some hl j (by omega))
    (fun j hj => by rw [Nat.zero_add]; exact hl.frozen j) h1
  rw [Nat.zero_add] at hs
  exact ⟨_, hs, h2, h3⟩
theorem Lies.eight {w : World} {g : Nat} {t : TypeId} {s : H8} {buf : ByteArray} {n : Nat} (h : Lies w g t (sumA s buf n)) :
    w.cell? ⟨g, 0, none⟩ = some (w64 s.a) ∧ w.cell? ⟨g, 1, none⟩ = some (w64 s.b) ∧ w.cell? ⟨g, 2, none⟩ = some (w64 s.c) ∧ w.cell? ⟨g, 3, none⟩ = some (w64 s.d) ∧ w.cell? ⟨g, 4, none⟩ = some (w64 s.e) ∧ w.cell? ⟨g, 5, none⟩ = some (w64 s.f) ∧ w.cell? ⟨g, 6, none⟩ = some (w64 s.g) ∧ w.cell? ⟨g, 7, none⟩ = some (w64 s.h) :=
  ⟨h.cell 0, h.cell 1, h.cell 2, h.cell 3, h.cell 4, h.cell 5, h.cell 6, h.cell 7⟩

set_option maxRecDepth 100000 in
set_option maxHeartbeats 1600000 in
theorem refWrite_any (H : H8) (buf s : ByteArray) (n : Nat) (w : World) (hb : buf.size ≤ 1000) (hs : s.size ≤ 1000) (hn : n + s.size < 18446744073709551616) (hok : H.Ok) :
    Calls Tryz.prog 53 #[.agg (sumA H buf n), .string s] w fun e w' => e = .returned (.agg (sumA (feed H (buf.data.toList ++ s.data.toList)) (bytesOf (tailB (buf.data.toList ++ s.data.toList))) (n + s.size))) ∧ Below w.heap.size w w' := by
  have hno : ¬ 9223372036854775807 < buf.size + s.size := by omega
  have hno2 : (buf ++ s).size ≤ 2000 := by rw [ByteArray.size_append]; omega
  have HA := Lib.hid (list_append buf s)
  obtain ⟨gk, hgk0⟩ : ∃ gk : Nat, gk = 0 := ⟨0, rfl⟩
  clear hgk0 gk
  have HX := Lib.hid (heap_alloc2_old w (.cells (sumA H buf n) 81) (.cells (sumA h8zero noBytes 0) 81))
  unfold sumA
  go_enter Tryz.func53, Tryz.ntmps53
  go_wp2_with (go_at_call 87; refine (keys_any _).mono ?_; rintro e w1 ⟨gk, rfl, hgk, hk, hb1⟩; have hx : Lies w1 w.heap.size 81 (sumA H buf n) := Lies.on (heap_alloc2_old w _ _) hb1; have hz : Lies w1 (w.heap.size + 1) 81 (sumA h8zero noBytes 0) := Lies.on (heap_alloc2_new w _ _) hb1; replace hb1 := (((Below.refl _ w).alloc (Nat.le_refl _) _).alloc (by simp) _).trans (hb1.mono (by simp; omega)); simp at hgk; have k8 := hx.c8)
  go_loopw [6] (fun v wr => ∃ (r : ByteArray) (K : H8), v = .string r ∧ r.size ≤ 2000 ∧ Lies wr w.heap.size 81 (sumA K buf n) ∧ Lies wr (w.heap.size + 1) 81 (sumA h8zero noBytes 0) ∧ Keysat wr gk ∧ K.Ok ∧ Hid (feed H (buf.data.toList ++ s.data.toList) = feed K r.data.toList) ∧ Hid (tailB (buf.data.toList ++ s.data.toList) = tailB r.data.toList) ∧ Below w.heap.size w wr) (fun v _ => strSize v)
  case atStart => exact ⟨_, H, rfl, hno2, hx, hz, hk, hok, Lib.hid (by rw [HA.out]), Lib.hid (by rw [HA.out]), hb1⟩
  case round =>
    clear hx hz hk hb1 k8 hno hno2 HX
    obtain ⟨r, K, rfl, hr, hx, hz, hk, hK, HF, HL, hb1⟩ := hrel
    by_cases hlt : 128 ≤ r.size
    · have HM := Lib.hid (fun w hk => mix_any K (r.extract 0 128) gk w (by rw [extract_size _ _ _ hlt]) hK hk)
      have hM := mix_ok K (r.extract 0 128).data.toList
      obtain ⟨M, hMd⟩ : ∃ M, mix K (r.extract 0 128).data.toList = M := ⟨_, rfl⟩
      rw [hMd] at HM hM
      have HD := Lib.hid hMd
      clear hMd
      obtain ⟨cs, hcs⟩ : ∃ cs, wordsA M = cs := ⟨_, rfl⟩
      rw [hcs] at HM
      have hsz : cs.size = 8 := by rw [← hcs]; rfl
      have HC := Lib.hid hcs
      clear hcs
      obtain ⟨c0, c1, c2, c3, c4, c5, c6, c7⟩ := hx.eight
      go_upto_region 4 with fail
      go_region_with (go_at_call 88; refine (HM.out wr.drew hk).mono ?_; rintro e w4 ⟨rfl, hb4⟩; have hx4 := Lies.on hx.drew hb4; have hz4 := Lies.on hz.drew hb4; have hk4 := Lies.on (Lies.drew hk) hb4; obtain ⟨w5, hst, hl5, hO5⟩ := store_mix (M := M) hx4 HC.out)
      all_goals
        go_wp2
        go_roundw
        case rel =>
          exact ⟨_, M, rfl, by rw [ByteArray.size_extract]; omega, hl5, hz4.only hO5 (by intro e; injection e; omega), Lies.only hk4 hO5 (by intro e; injection e; omega), hM, Lib.hid (by rw [HF.out, feed_long K r.data.toList (by rw [← Lib.size_eq]; exact hlt), ← head_list, HD.out, rest_list]), Lib.hid (by rw [HL.out, tail_long r.data.toList (by rw [← Lib.size_eq]; exact hlt), rest_list]), hO5.below (below_on hb1.drew hb4) (below_on hb1.drew hb4).size (Nat.le_refl _)⟩
        case measure => simp [strSize]; omega
    · have k8 := hx.c8
      have f8 := hx.frozen 8
      have k9 := hx.c9
      have f9 := hx.frozen 9
      go_upto_region 8 with fail
      generalize hW : World.setCell (World.setCell wr _ _) _ _ = w6
      have hx6 : Lies w6 w.heap.size 81 (sumA K r (n + s.size)) := by rw [← hW]; exact (Lies.buf hx r).len (n + s.size)
      have hz6 : Lies w6 (w.heap.size + 1) 81 (sumA h8zero noBytes 0) := by rw [← hW]; exact (hz.far (by simp) _).far (by simp) _
      have hb6 : Below w.heap.size w w6 := by rw [← hW]; exact (hb1.setCell (p := ⟨w.heap.size, 8, none⟩) (Nat.le_refl _) _).setCell (p := ⟨w.heap.size, 9, none⟩) (Nat.le_refl _) _
      clear hW
      have hsh : r.data.toList.length < 128 := by rw [← Lib.size_eq]; omega
      have HE : Ending.returned (.agg (sumA K r (n + s.size))) = .returned (.agg (sumA (feed H (buf.data.toList ++ s.data.toList)) (bytesOf (tailB (buf.data.toList ++ s.data.toList))) (n + s.size))) := by
        rw [HF.out, HL.out, feed_short K _ hsh, tail_short _ hsh, show bytesOf r.data.toList = r from Lib.mk_data r]
      go_wp2_with (first | ((with_reducible refine wpL_load w.heap.size 81 (sumA K r (n + s.size)) 10 row29 rfl hx6 ?_ ?_); rfl) | ((with_reducible refine wpL_store (w.heap.size + 1) 81 _ (sumA K r (n + s.size)) 10 row29 rfl rfl (sumA_one _ _ _) hz6 ?_ ?_ ?_); rfl; rfl))
      exact bodyPost_ret (results_row Tryz.results53 row29 rfl (hz6.row _) rfl) rfl ⟨HE, below_rowSet hb6 (by omega) _⟩
end Go.Proofs.YtgefhfcmiefocaaGreatDoor.T

/- The contract of the reference's End. -/
namespace Go.Proofs.YtgefhfcmiefocaaGreatDoor.T
open Go.RowKit
set_option maxRecDepth 100000

def lenOf : Value → Nat
  | .slice _ l _ => l
  | _ => 0
/-- what lies in a row of so many bytes while a number goes into it, from the last one down to i -/
def downC (N w i : Nat) : List Value := List.replicate i (Value.int .u8 0) ++ (Lib.byteCells (bigL N w)).drop i
theorem downC_start (N w : Nat) : downC N w w = List.replicate w (Value.int .u8 0) := by
  unfold downC
  rw [List.drop_of_length_le (by rw [Lib.byteCells_length, bigL_length]; exact Nat.le_refl _), List.append_nil]
theorem downC_end (N w : Nat) : downC N w 0 = Lib.byteCells (bigL N w) := rfl
theorem downC_at (N w i : Nat) : (downC N w (i + 1))[i]? = some (Value.int .u8 0) := by
  unfold downC
  rw [List.getElem?_append_left (by simp), List.getElem?_replicate, if_pos (by omega)]
theorem bigL_at (N w i : Nat) (h : i < w) : (bigL N w)[i]? = some (N / 256 ^ (w - 1 - i) % 256).toUInt8 := by
  have h1 := bigL_take N w i h
  have h2 := congrArg (fun l => l[i]?) h1
  have hl : ((bigL N w).take i).length = i := by rw [List.length_take, bigL_length]; omega
  simp only [List.getElem?_take_of_lt (Nat.lt_succ_self i)] at h2
  rw [h2, List.getElem?_append_right (by omega), hl, Nat.sub_self]
  rfl
theorem downC_set (N w i : Nat) (h : i < w) : (downC N w (i + 1)).set i (Value.int .u8 ((N / 256 ^ (w - (i + 1)) % 256 : Nat) : Int)) = downC N w i := by
  have e : w - (i + 1) = w - 1 - i := by omega
  rw [e]
  have hb : i < (Lib.byteCells (bigL N w)).length := by rw [Lib.byteCells_length, bigL_length]; exact h
  have hx : (Lib.byteCells (bigL N w))[i] = Value.int .u8 ((N / 256 ^ (w - 1 - i) % 256 : Nat) : Int) := by
    have h1 := bigL_at N w i h
    have h2 : (Lib.byteCells (bigL N w))[i]? = some (Value.int .u8 ((N / 256 ^ (w - 1 - i) % 256 : Nat) : Int)) := by
      unfold Lib.byteCells
      rw [List.getElem?_map, h1]
      simp only [Option.map_some]
      rw [toNat_lt256 _ (Nat.mod_lt _ (by decide))]
    rw [List.getElem?_eq_getElem hb] at h2
    injection h2
  unfold downC
  rw [List.set_append_left _ _ (by simp), List.replicate_succ', List.set_append_right _ _ (by simp), List.length_replicate, Nat.sub_self, List.set_cons_zero, List.append_assoc, List.drop_eq_getElem_cons hb, hx]
  rfl
theorem down_next (N w i : Nat) (h : i < w) : N / 256 ^ (w - (i + 1)) / 256 = N / 256 ^ (w - i) := by
  rw [Nat.div_div_eq_div_mul, ← Nat.pow_succ, show (w - (i + 1)).succ = w - i by omega]

theorem bigL_more (N w : Nat) (h : N < 256 ^ w) (k : Nat) : bigL N (w + k) = List.replicate k 0 ++ bigL N w := by
  induction k with
  | zero => rfl
  | succ k ih =>
    rw [← Nat.add_assoc, bigL_head, ih, Nat.div_eq_of_lt (Nat.lt_of_lt_of_le h (Nat.pow_le_pow_right (by decide) (by omega))), List.replicate_succ]
    rfl
theorem downC_half (N : Nat) (h : N < 18446744073709551616) : downC N 16 8 = Lib.byteCells (bigL N 16) := by
  unfold downC
  rw [show (16 : Nat) = 8 + 8 from rfl, bigL_more N 8 h 8, Lib.byteCells_append]
  rfl
theorem own_news {w : World} {B e g n cap : Nat} {xs : List Value} (h : w.ownsRow B e 1 (.slice (some ⟨g, 0, none⟩) n cap) n xs) : ∀ j u, xs[j]? = some u → w.cell? ((⟨g, 0, none⟩ : Addr).add j) = some u := fun j u hu => by
  have hj : j < xs.length := (List.getElem?_eq_some_iff.1 hu).1
  have hn : xs.length = n := by simpa using h.1
  rw [Addr.add_mid, Nat.zero_add]
  exact (h.cellAt j (by omega)).trans hu
/-- a row goes behind a row that the call owns -/
theorem wpL_appendRow {P : Program} {ops : Array Oper} {rest : List Oper} {a : Act} {w : World} {Q : Exit → Act → World → Prop} {t' : TypeId} {pos : String} {after : Array Edge} {d : Option Tmp} {x y : Tmp} {ty : TypeId}
    (B : Nat) (e : TypeId) (i : TypeInfo) (z : Value) (bytes : Nat) (ht : P.underlying ty = some (.slice e)) (hi : P.info? e = some i) (hz : i.zero = some z) (hsize : i.size = 1) (hby : i.bytes = bytes) (hzs : z.cells.size = 1)
    (v : Value) (n : Nat) (xs : List Value) (hown : w.ownsRow B e 1 v n xs) (B' b m c : Nat) (us : List Value) (hrow : w.ownsRow B' e 1 (.slice (some ⟨b, 0, none⟩) m c) m us) (hu : ∀ u ∈ us, u.oneCell' = true) (hm : 0 < m) (h63 : n + m ≤ maxLen) (hbytes : (n + m) * bytes ≤ 140737488355328) (hbase : B ≤ w.heap.size)
    (hs : a.eval (.tmp x) = v) (hx : a.eval (.tmp y) = .slice (some ⟨b, 0, none⟩) m c)
    (h : ∀ g cap w', w'.ownsRow B e 1 (.slice (some ⟨g, 0, none⟩) (n + m) cap) (n + m) (xs ++ us) → w.grownBy w' v.ownBlock → wpList P ops Q rest (a.put d (.slice (some ⟨g, 0, none⟩) (n + m) cap)) w') :
    wpList P ops Q (⟨d, .call { callee := .builtin .append, args := #[.tmp x, .tmp y], argTypes := #[ty, ty] }, t', pos, after, none⟩ :: rest) a w :=
  wpList_append_lies (o := ⟨d, .call { callee := .builtin .append, args := #[.tmp x, .tmp y], argTypes := #[ty, ty] }, t', pos, after, none⟩) w rfl _ _ ty rfl B e i z 1 bytes ht hi hz hsize hby hzs (by decide) v n xs hs hown ⟨b, 0, none⟩ m c us hx (by simpa using hrow.1) (own_news hrow) hu hm h63 hbytes hbase w.heap.size rfl (fun g cap w' h2 h3 _ _ => h g cap w' h2 h3)
theorem byteCells_one (l : List UInt8) : ∀ u ∈ Lib.byteCells l, u.oneCell' = true := by
  intro u hu
  unfold Lib.byteCells at hu
  rw [List.mem_map] at hu
  obtain ⟨x, _, rfl⟩ := hu
  rfl
/-- what pads, with so many zeros -/
def padTo (k : Nat) : List UInt8 := 128 :: List.replicate k 0
theorem padTo_succ (k : Nat) : padTo (k + 1) = padTo k ++ [0] := by unfold padTo; rw [List.replicate_succ']; rfl
theorem padTo_length (k : Nat) : (padTo k).length = k + 1 := by simp [padTo]
theorem own_single {w : World} {B g : Nat} {e : TypeId} {u : Value} (hl : Lies w g e #[u]) (hB : B ≤ g) : w.ownsRow B e 1 (.slice (some ⟨g, 0, none⟩) 1 1) 1 [u] :=
  ⟨rfl, .inr ⟨g, 1, _, rfl, hB, hl, Nat.le_refl _, by unfold maxLen; omega, rfl, rfl⟩⟩

set_option maxRecDepth 100000 in
set_option maxHeartbeats 1600000 in
theorem refEnd_any (H : H8) (buf : ByteArray) (n : Nat) (W : World) (hr : rightB buf.size n = true) (hok : H.Ok) :
    Calls Tryz.prog 52 #[.agg (sumA H buf n)] W fun e W' => e = .returned (.string (bytesOf (endT H buf.data.toList n))) ∧ Below W.heap.size W W' := by
  obtain ⟨hr1, hr2, hr3⟩ := right_of hr
  obtain ⟨i0, hi, hz0, hz1, hz2⟩ := info_parts info5
  have HR2 := Lib.hid hr2
  clear hr hr2
  unfold sumA
  go_enter Tryz.func52, Tryz.ntmps52
  go_upto_region 1 with fail
  have hx : Lies (W.alloc (.cells (sumA H buf n) 81)) W.heap.size 81 (sumA H buf n) := Lies.new W _ _
  have hb := (Below.refl W.heap.size W).alloc (Nat.le_refl _) (.cells (sumA H buf n) 81)
  unfold sumA at hb hx
  generalize World.alloc W _ = w1 at *
  go_wp2_with fail
  go_loopw [3] (fun v wr => ∃ k g cap : Nat, k ≤ (239 - n % 128) % 128 ∧ v = .slice (some ⟨g, 0, none⟩) (k + 1) cap ∧ wr.ownsRow W.heap.size 5 1 (.slice (some ⟨g, 0, none⟩) (k + 1) cap) (k + 1) (Lib.byteCells (padTo k)) ∧ Lies wr W.heap.size 81 (sumA H buf n) ∧ Below W.heap.size W wr) (fun v _ => 200 - lenOf v)
  case atStart => exact ⟨0, _, _, by omega, rfl, own_single (Lies.new w1 _ _) hb.size, hx.alloc _, hb.alloc hb.size _⟩
  case round =>
    clear hx hb
    obtain ⟨k, g, cap, hk, rfl, ho, hx, hb⟩ := hrel
    have k8 := hx.c8
    have k9 := hx.c9
    have hgw := own_far ho (t := 81) hx (by decide)
    have hsz := hb.size
    have hBw := hx.lt
    by_cases h0 : (buf.size + (k + 1) + 16) % 128 = 0
    · have hk2 : k = (239 - n % 128) % 128 := by have := HR2.out; omega
      have HP := Lib.hid (show pad n = padTo k ++ bigL (8 * n) 16 by rw [hk2]; rfl)
      clear hk2
      have h1 : ((buf.size : Int) + ((k + 1 : Nat) : Int) + 16) % 128 = 0 := by omega
      go_upto_region 5 with fail
      obtain ⟨wq, hwq⟩ : ∃ wq, wq = wr := ⟨_, rfl⟩
      subst hwq
      go_wp2_with (at_make; refine wpList_make_full _ rfl _ _ 50 rfl wq.heap.size 5 i0 (.int .u8 0) 1 Tryz.underlying50 hi hz0 hz1 _ _ _ _ 16 rfl rfl rfl rfl ?b2 ?b3 (Nat.le_refl _) ?_)
      case b2 => rw [hz2]; omega
      case b3 => unfold maxLen; omega
      intro w5 hown5 hgrow5
      have hb5 : Below wq.heap.size wq w5 := (Below.refl _ _).grown hgrow5 (Nat.le_refl _) (fun k hk => by cases hk)
      clear hgrow5
      go_wp2_with fail
      go_loopw [4, 6] (fun nv i wv => ∃ j : Nat, 8 ≤ j ∧ j ≤ 16 ∧ i = .int .i64 j ∧ nv = .int .u64 ((8 * n / 256 ^ (16 - j) : Nat) : Int) ∧ wv.ownsRow wq.heap.size 5 1 (.slice (some ⟨wq.heap.size, 0, none⟩) 16 16) 16 (downC (8 * n) 16 j) ∧ Below wq.heap.size wq wv) (fun _ i _ => (intOf i).toNat)
      case atStart => exact ⟨16, by omega, by omega, rfl, val_int (by rw [Nat.sub_self, Nat.pow_zero, Nat.div_one]; omega), by rw [downC_start]; simpa [toList_madeCells_one] using hown5, hb5⟩
      case round =>
        clear hown5 hb5
        obtain ⟨j, hj8, hj, rfl, rfl, ho5, hb5⟩ := hrel
        by_cases hj0 : 8 < j
        · obtain ⟨m, rfl⟩ : ∃ m, j = m + 1 := ⟨j - 1, by omega⟩
          have hc := (ho5.cellAt m (by omega)).trans (downC_at (8 * n) 16 m)
          have hf := ho5.frozenAt m
          have HD := Lib.hid (downC_set (8 * n) 16 m (by omega))
          have HN := Lib.hid (down_next (8 * n) 16 m (by omega))
          have hX : 8 * n / 256 ^ (16 - (m + 1)) ≤ 8 * n := Nat.div_le_self _ _
          have e1 : IntKind.i64.wrap (((m + 1 : Nat) : Int) - 1) = (m : Int) := by rw [IntWalk.i64_in _ (by omega)]; omega
          have b1 : (m : Int) < 16 := by omega
          generalize 8 * n / 256 ^ (16 - (m + 1)) = X at *
          go_wp2_with fail
          go_roundw
          case rel => exact ⟨m, by omega, by omega, rfl, val_int (by rw [← HN.out]; omega), by rw [← HD.out]; exact (ho5.stored m _).1, hb5.setCell (p := ⟨wq.heap.size, m, none⟩) (Nat.le_refl _) _⟩
          case measure => simp [intOf]
        · obtain rfl : j = 8 := by omega
          rw [downC_half (8 * n) (by omega)] at ho5
          have ho2 := own_on ho hb5
          have hx2 := hx.on hb5
          have hb2 := below_on hb hb5
          have hB2 := hb2.size
          have hge := fun j hj => (ho.lt j hj).1
          obtain ⟨Y, y8, y9, HY, hY, HW⟩ : ∃ (Y : H8) (b : ByteArray) (m : Nat), Hid (outT Y = endT H buf.data.toList n) ∧ Y.Ok ∧ Hid (∀ w, Calls Tryz.prog 53 #[.agg (sumA H buf n), .string ⟨(pad n).toArray⟩] w fun e w' => e = .returned (.agg (sumA Y b m)) ∧ Below w.heap.size w w') :=
            ⟨_, _, _, Lib.hid rfl, feed_ok' hok _, Lib.hid fun w => refWrite_any H buf (bytesOf (pad n)) n w (by omega) (by rw [bytes_size, pad_length]; omega) (by rw [bytes_size, pad_length]; omega) hok⟩
          clear k8 k9 hx hb h0 h1 hb5
          go_upto_region 13 with (first | ((with_reducible refine wpL_appendRow W.heap.size 5 i0 (.int .u8 0) 1 Tryz.underlying50 hi hz0 hz1 hz2 rfl _ (k + 1) _ ho2 wq.heap.size wq.heap.size 16 16 _ ho5 (byteCells_one _) (by omega) (by unfold maxLen; omega) (by omega) hB2 ?_ ?_ ?_); rfl; rfl; intro g6 cap6 w6 ho6 hgrow6; rw [← Lib.byteCells_append, ← HP.out] at ho6; have hcv := str_own ho6; have hx6 := hx2.only hgrow6 (fun e => hgw e.symm); have hb6 := hb2.grown hgrow6 hB2 hge; clear hgrow6) | ((with_reducible refine wpL_load W.heap.size 81 (sumA H buf n) 10 row29 rfl hx6 ?_ ?_); rfl) | (go_at_call 53; refine (HW.out w6).mono ?_; rintro e w7 ⟨rfl, hb7⟩; replace hb7 := below_on hb6 hb7) | ((with_reducible refine wpL_store w7.heap.size 81 _ (sumA Y y8 y9) 10 row29 ?_ ?_ ?_ (Lies.new w7 _ _) ?_ ?_ ?_); rfl; rfl; exact sumA_one _ _ _; rfl; rfl))
          generalize hW8 : World.setRow _ _ _ = w8
          have hl8 : Lies w8 w7.heap.size 81 (sumA Y y8 y9) := by rw [← hW8]; exact (Lies.new w7 _ _).row _
          have hb8 : Below W.heap.size W w8 := by rw [← hW8]; exact below_rowSet (hb7.alloc hb7.size _) hb7.size _
          clear hW8
          have HWd := Lib.hid (fun o : Obj => (Lies.alloc hl8 o).words)
          have HB8 := hb8.alloc hb8.size (.cells #[] 5)
          have hB8 := hb8.size
          have ho8 := Lies.new w8 5 #[]
          have hix := index_eight Y
          clear hl8 hb8 hb7 hb6 hx6 ho6 hcv ho5 ho2 hx2 hb2 hgw hge ho HW HP
          go_wp2_with ((with_reducible refine wpL_loadMid w7.heap.size 0 (wordsL Y) 8 row26 rfl (HWd.out _) ?_ ?_); rfl)
          simp only [wordsL]
          go_loopw [8, 53] (fun o i wr => ∃ k g cap : Nat, k ≤ 8 ∧ i = .int .i64 k ∧ o = .slice (some ⟨g, 0, none⟩) (8 * k) cap ∧ wr.ownsRow W.heap.size 5 1 (.slice (some ⟨g, 0, none⟩) (8 * k) cap) (8 * k) (Lib.byteCells (outTo Y k)) ∧ Below W.heap.size W wr) (fun _ i _ => 8 - (intOf i).toNat)
          case atStart => exact ⟨0, _, _, by omega, rfl, rfl, own_empty ho8 hB8, HB8⟩
          case round =>
            clear ho8 HB8 HWd
            obtain ⟨k, g, cap, hk, rfl, rfl, ho, hb⟩ := hrel
            obtain ⟨wq, hwq⟩ : ∃ wq, wq = wr := ⟨_, rfl⟩
            subst hwq
            by_cases hlt : k < 8
            · have hx := hix k hlt
              clear hix
              have hV := H8.at_lt hY k
              have HS := Lib.hid (show outTo Y (k + 1) = outTo Y k ++ bigL (Y.at k) 8 from rfl)
              generalize Y.at k = V at hx hV HS
              go_wp2_with (at_make; refine wpList_make_full _ rfl _ _ 50 rfl wq.heap.size 5 i0 (.int .u8 0) 1 Tryz.underlying50 hi hz0 hz1 _ _ _ _ 8 rfl rfl rfl rfl ?b2 ?b3 (Nat.le_refl _) ?_)
              case b2 => rw [hz2]; omega
              case b3 => unfold maxLen; omega
              intro w5 hown5 hgrow5
              have hb5 : Below wq.heap.size wq w5 := (Below.refl _ _).grown hgrow5 (Nat.le_refl _) (fun k hk => by cases hk)
              clear hgrow5
              go_wp2_with fail
              go_loopw [10, 12] (fun nv i wv => ∃ j : Nat, j ≤ 8 ∧ i = .int .i64 j ∧ nv = .int .u64 ((V / 256 ^ (8 - j) : Nat) : Int) ∧ wv.ownsRow wq.heap.size 5 1 (.slice (some ⟨wq.heap.size, 0, none⟩) 8 8) 8 (downC V 8 j) ∧ Below wq.heap.size wq wv) (fun _ i _ => (intOf i).toNat)
              case atStart => exact ⟨8, by omega, rfl, val_int (by rw [Nat.sub_self, Nat.pow_zero, Nat.div_one]), by rw [downC_start]; simpa [toList_madeCells_one] using hown5, hb5⟩
              case round =>
                clear hown5 hb5
                obtain ⟨j, hj, rfl, rfl, ho5, hb5⟩ := hrel
                by_cases hj0 : 0 < j
                · obtain ⟨m, rfl⟩ : ∃ m, j = m + 1 := ⟨j - 1, by omega⟩
                  have hc := (ho5.cellAt m (by omega)).trans (downC_at V 8 m)
                  have hf := ho5.frozenAt m
                  have HD := Lib.hid (downC_set V 8 m (by omega))
                  have HN := Lib.hid (down_next V 8 m (by omega))
                  have hX : V / 256 ^ (8 - (m + 1)) ≤ V := Nat.div_le_self _ _
                  have e1 : IntKind.i64.wrap (((m + 1 : Nat) : Int) - 1) = (m : Int) := by rw [IntWalk.i64_in _ (by omega)]; omega
                  have b1 : (m : Int) < 8 := by omega
                  generalize V / 256 ^ (8 - (m + 1)) = X at *
                  go_wp2_with fail
                  go_roundw
                  case rel => exact ⟨m, by omega, rfl, val_int (by rw [← HN.out]; omega), by rw [← HD.out]; exact (ho5.stored m _).1, hb5.setCell (p := ⟨wq.heap.size, m, none⟩) (Nat.le_refl _) _⟩
                  case measure => simp [intOf]
                · obtain rfl : j = 0 := by omega
                  rw [downC_end] at ho5
                  have ho2 := own_on ho hb5
                  have hb2 := below_on hb hb5
                  have hB2 := hb2.size
                  have hge := fun j hj => (ho.lt j hj).1
                  go_wp2_with ((with_reducible refine wpL_appendRow W.heap.size 5 i0 (.int .u8 0) 1 Tryz.underlying50 hi hz0 hz1 hz2 rfl _ (8 * k) _ ho2 wq.heap.size wq.heap.size 8 8 _ ho5 (byteCells_one _) (by omega) (by unfold maxLen; omega) (by omega) hB2 ?_ ?_ ?_); rfl; rfl; intro g6 cap6 w6 ho6 hgrow6)
                  go_roundw
                  case rel => exact ⟨k + 1, g6, cap6, by omega, by go_num, rfl, by rw [HS.out, Lib.byteCells_append]; exact ho6, hb2.grown hgrow6 hB2 hge⟩
                  case measure => simp [intOf]; omega
            · obtain rfl : k = 8 := by omega
              have hcv := str_own ho
              clear hix
              go_wp2
              go_ret
              exact ⟨ret1_of (val_str (by rw [outTo_end, HY.out])), hb⟩
    · have h1 : ¬ ((buf.size : Int) + ((k + 1 : Nat) : Int) + 16) % 128 = 0 := by omega
      have hk2 : k + 1 ≤ (239 - n % 128) % 128 := by have := HR2.out; omega
      have HS := Lib.hid (padTo_succ k)
      go_wp2_with ((with_reducible refine wpL_append W.heap.size 5 i0 (.int .u8 0) 1 Tryz.underlying50 hi hz0 hz1 hz2 rfl _ (k + 1) _ (ho.alloc _) wr.heap.size (.int .u8 0) (Lies.new wr _ _) rfl (by unfold maxLen; omega) (by omega) (by simp; omega) ?_ ?_ ?_); rfl; rfl; intro g6 cap6 w6 ho6 hgrow6)
      go_roundw
      case rel =>
        exact ⟨k + 1, g6, cap6, hk2, rfl, by rw [HS.out, Lib.byteCells_append]; exact ho6, Lies.only (hx.alloc _) hgrow6 (fun e => hgw e.symm), (hb.alloc hsz _).grown hgrow6 (by simp; omega) (fun j hj => (ho.lt j hj).1)⟩
      case measure => simp [lenOf]; omega
end Go.Proofs.YtgefhfcmiefocaaGreatDoor.T

/- Two rows of eight words are compared. -/
namespace Go.Proofs.YtgefhfcmiefocaaGreatDoor.T
open Go.RowKit

theorem eq_words (d : Nat) (w : World) (a0 a1 a2 a3 a4 a5 a6 a7 b0 b1 b2 b3 b4 b5 b6 b7 : Int) :
    (Op.equalIn (d + 2) 79 (.agg #[.int .u64 a0, .int .u64 a1, .int .u64 a2, .int .u64 a3, .int .u64 a4, .int .u64 a5, .int .u64 a6, .int .u64 a7]) (.agg #[.int .u64 b0, .int .u64 b1, .int .u64 b2, .int .u64 b3, .int .u64 b4, .int .u64 b5, .int .u64 b6, .int .u64 b7])).run Tryz.prog w = .ok (a0 == b0 && a1 == b1 && a2 == b2 && a3 == b3 && a4 == b4 && a5 == b5 && a6 == b6 && a7 == b7) w := by
  have h1 : ∀ w, (sizeOf 29).run Tryz.prog w = .ok 1 w := fun _ => by kernel_rfl
  have h2 : ∀ w, (isAgg 29).run Tryz.prog w = .ok false w := fun _ => by kernel_rfl
  have h3 : ∀ (a b : Int) w, (Op.equalIn (d + 1) 29 (.int .u64 a) (.int .u64 b)).run Tryz.prog w = .ok (a == b) w := fun a b w => run_equalIn_int w d 29 .u64 .u64 a b Tryz.underlying29
  rw [Op.equalIn]
  simp only [Sem.run_bind, run_underlying Tryz.underlying79, Result.andThen_ok, h1, Std.Legacy.Range.forIn_eq_forIn_range', Std.Legacy.Range.size]
  simp only [Nat.sub_zero, Nat.reduceAdd, Nat.reduceSub, Nat.div_one, List.range', List.forIn_cons, List.forIn_nil]
  simp [part, h2, h3]
  (repeat' split) <;> simp [*]

theorem eq_h8 (s v : H8) : ((s.a : Int) == v.a && (s.b : Int) == v.b && (s.c : Int) == v.c && (s.d : Int) == v.d && (s.e : Int) == v.e && (s.f : Int) == v.f && (s.g : Int) == v.g && (s.h : Int) == v.h) = decide (s = v) := by
  cases s
  cases v
  rw [Bool.eq_iff_iff]
  simp only [Bool.and_eq_true, beq_iff_eq, decide_eq_true_eq, H8.mk.injEq]
  omega
theorem eql_words (w : World) (s v : H8) : (binOp .eql 79 (.agg (wordsL s).toArray) (.agg (wordsL v).toArray)).run Tryz.prog w = .ok (.bool (decide (s = v))) w := by
  rw [run_eql_struct, ← eq_h8]
  unfold wordsL
  rw [eq_words 9998]
  rfl
theorem eql_sums (w : World) (s v : H8) (b c : ByteArray) (n m : Nat) : (binOp .eql 81 (.agg (sumA s b n)) (.agg (sumA v c m))).run Tryz.prog w = .ok (.bool (decide (s = v) && (b.toList == c.toList && (n : Int) == (m : Int)))) w := by
  have h1 : ∀ w, (isAgg 79).run Tryz.prog w = .ok true w := fun _ => by kernel_rfl
  have h2 : ∀ w, (isAgg 9).run Tryz.prog w = .ok false w := fun _ => by kernel_rfl
  have h3 : ∀ w, (isAgg 29).run Tryz.prog w = .ok false w := fun _ => by kernel_rfl
  have h4 : ∀ w, (sizeOf 79).run Tryz.prog w = .ok 8 w := fun _ => by kernel_rfl
  have h5 : ∀ w : World, (Op.equalIn 9999 79 (.agg #[w64 s.a, w64 s.b, w64 s.c, w64 s.d, w64 s.e, w64 s.f, w64 s.g, w64 s.h]) (.agg #[w64 v.a, w64 v.b, w64 v.c, w64 v.d, w64 v.e, w64 v.f, w64 v.g, w64 v.h])).run Tryz.prog w = .ok (decide (s = v)) w := fun w => by rw [← eq_h8]; exact eq_words 9997 w _ _ _ _ _ _ _ _ _ _ _ _ _ _ _ _
  have h6 : ∀ (a b : ByteArray) w, (Op.equalIn 9999 9 (.string a) (.string b)).run Tryz.prog w = .ok (a.toList == b.toList) w := fun a b w => run_equalIn_string w 9998 9 a b Tryz.underlying9
  have h7 : ∀ (a b : Int) w, (Op.equalIn 9999 29 (.int .u64 a) (.int .u64 b)).run Tryz.prog w = .ok (a == b) w := fun a b w => run_equalIn_int w 9998 29 .u64 .u64 a b Tryz.underlying29
  rw [run_eql_struct, run_equalIn_agg _ 9999 _ _ _ (by kernel_rfl) (by kernel_rfl)]
  have hf : ((Tryz.prog.fieldsOf 81).toList.map fun f => (f.name, f.type, f.offset)) = [("H", 79, 0), ("Buf", 9, 8), ("N", 29, 9)] := by kernel_rfl
  generalize (Tryz.prog.fieldsOf 81).toList = fs at hf
  obtain ⟨f0, fs, rfl, e0, hf⟩ := List.map_eq_cons_iff.1 hf
  obtain ⟨f1, fs, rfl, e1, hf⟩ := List.map_eq_cons_iff.1 hf
  obtain ⟨f2, fs, rfl, e2, hf⟩ := List.map_eq_cons_iff.1 hf
  obtain rfl := List.map_eq_nil_iff.1 hf
  simp only [Prod.mk.injEq] at e0 e1 e2
  obtain ⟨n0, t0, o0⟩ := e0
  obtain ⟨n1, t1, o1⟩ := e1
  obtain ⟨n2, t2, o2⟩ := e2
  simp [Op.eqFields, n0, n1, n2, t0, t1, t2, o0, o1, o2, part, h1, h2, h3, h4, h5, h6, h7, sumA]
  by_cases hs : s = v <;> by_cases hb : b.toList = c.toList <;> by_cases hn : (n : Int) = (m : Int) <;> simp [hs, hb, hn]
end Go.Proofs.YtgefhfcmiefocaaGreatDoor.T

/- What is proved: whatever sum that goes on and whatever bytes the statement of sums that go on is called with, it answers true; no condition. -/
namespace Go.Proofs.YtgefhfcmiefocaaGreatDoor.T
open Go.RowKit
set_option maxRecDepth 100000

theorem sums_size (K : H8) (b : ByteArray) (n : Nat) : (sumA K b n).size = 10 := rfl
/-- a sum goes into a variable that holds one -/
theorem store_over {K L : H8} {b c : ByteArray} {n m : Nat} {w : World} {g : Nat} (hl : Lies w g 81 (sumA L c m)) :
    (storeCells ⟨g, 0, none⟩ (sumA K b n).toList).run Tryz.prog w = .ok () (w.setRow g (sumA K b n)) := by
  have h := run_storeCells_from (P := Tryz.prog) g 81 (sumA K b n).toList 0 _ w hl rfl (fun v hv => (Array.all_eq_true_iff_forall_mem.1 (sumA_one K b n)) v (by simpa using hv))
  rw [List.take_zero, List.nil_append, Array.toArray_toList] at h
  exact h
theorem Lies.zeros {w : World} {g : Nat} {t : TypeId} (h : Lies w g t (sumA h8zero noBytes 0)) :
    w.cell? ⟨g, 0, none⟩ = some (.int .u64 0) ∧ w.cell? ⟨g, 1, none⟩ = some (.int .u64 0) ∧ w.cell? ⟨g, 2, none⟩ = some (.int .u64 0) ∧ w.cell? ⟨g, 3, none⟩ = some (.int .u64 0) ∧ w.cell? ⟨g, 4, none⟩ = some (.int .u64 0) ∧ w.cell? ⟨g, 5, none⟩ = some (.int .u64 0) ∧ w.cell? ⟨g, 6, none⟩ = some (.int .u64 0) ∧ w.cell? ⟨g, 7, none⟩ = some (.int .u64 0) ∧ w.cell? ⟨g, 8, none⟩ = some (.string { data := #[] }) ∧ w.cell? ⟨g, 9, none⟩ = some (.int .u64 0) :=
  ⟨h.cell 0, h.cell 1, h.cell 2, h.cell 3, h.cell 4, h.cell 5, h.cell 6, h.cell 7, h.cell 8, h.cell 9⟩

theorem eql_zero (w : World) : (binOp .eql 81 (.agg #[.int .u64 0, .int .u64 0, .int .u64 0, .int .u64 0, .int .u64 0, .int .u64 0, .int .u64 0, .int .u64 0, .string { data := #[] }, .int .u64 0]) (.agg #[.int .u64 0, .int .u64 0, .int .u64 0, .int .u64 0, .int .u64 0, .int .u64 0, .int .u64 0, .int .u64 0, .string { data := #[] }, .int .u64 0])).run Tryz.prog w = .ok (.bool true) w := by
  have h := eql_sums w h8zero h8zero noBytes noBytes 0 0
  rw [show (decide (h8zero = h8zero) && (noBytes.toList == noBytes.toList && ((0 : Nat) : Int) == ((0 : Nat) : Int))) = true by simp] at h
  exact h

theorem eql_self (F : H8) (B : ByteArray) (M : Nat) (w : World) : (binOp .eql 81 (.agg #[w64 F.a, w64 F.b, w64 F.c, w64 F.d, w64 F.e, w64 F.f, w64 F.g, w64 F.h, .string B, .int .u64 (M : Int)]) (.agg (sumA F B M))).run Tryz.prog w = .ok (.bool true) w := by
  have h := eql_sums w F F B B M M
  rw [show (decide (F = F) && (B.toList == B.toList && (M : Int) == (M : Int))) = true by simp] at h
  exact h

end Go.Proofs.YtgefhfcmiefocaaGreatDoor.T

/- What is proved: whatever bytes the statement of sums is called with, it answers true; no condition. -/
namespace Go.Proofs.YtgefhfcmiefocaaGreatDoor.T
open Go.RowKit
set_option maxRecDepth 100000

theorem eql_new (w : World) : (binOp .eql 81 (.agg (sumA h0 noBytes 0)) (.agg (sumA h0 noBytes 0))).run Tryz.prog w = .ok (.bool true) w := by
  have h := eql_sums w h0 h0 noBytes noBytes 0 0
  rw [show (decide (h0 = h0) && (noBytes.toList == noBytes.toList && ((0 : Nat) : Int) == ((0 : Nat) : Int))) = true by simp] at h
  exact h
/-- a new sum, of so many words -/
def newA (i : Nat) : Array Value :=
  let f := fun (j x : Nat) => w64 (if j < i then x else 0)
  #[f 0 h0.a, f 1 h0.b, f 2 h0.c, f 3 h0.d, f 4 h0.e, f 5 h0.f, f 6 h0.g, f 7 h0.h, .string noBytes, .int .u64 0]
theorem newA_at (i : Nat) (h : i < 8) : (newA i)[i]? = some (w64 0) := by
  match i, h with
  | 0, _ | 1, _ | 2, _ | 3, _ | 4, _ | 5, _ | 6, _ | 7, _ => rfl
theorem newA_set (i : Nat) (h : i < 8) : (newA i).setIfInBounds i (w64 (h0L.getD i 0)) = newA (i + 1) := by
  match i, h with
  | 0, _ | 1, _ | 2, _ | 3, _ | 4, _ | 5, _ | 6, _ | 7, _ => rfl
theorem newA_end : newA 8 = sumA h0 noBytes 0 := rfl

theorem Row32.far {w : World} {g : Nat} {l : List Nat} (h : Row32 w g l) {p : Addr} (hp : p.block ≠ g) (v : Value) : Row32 (w.setCell p v) g l := fun i hi => by
  rw [World.cell?_setCell_other w p ⟨g, i, none⟩ v (fun e => hp (by rw [e]))]
  exact h i hi

set_option maxRecDepth 100000 in
set_option maxHeartbeats 800000 in
theorem refNew_any (w : World) :
    Calls Tryz.prog 54 #[] w fun e w' => e = .returned (.agg (sumA h0 noBytes 0)) ∧ Below w.heap.size w w' := by
  go_enter Tryz.func54, Tryz.ntmps54
  go_upto_region 2 with fail
  generalize hW : World.alloc (World.alloc w _) _ = w2
  have hz : Lies w2 w.heap.size 81 (sumA h8zero noBytes 0) := by rw [← hW]; exact heap_alloc2_old w _ _
  have hx : Lies w2 (w.heap.size + 1) 81 (newA 0) := by rw [← hW]; exact heap_alloc2_new w _ _
  have hb : Below w.heap.size w w2 := by rw [← hW]; exact ((Below.refl w.heap.size w).alloc (Nat.le_refl _) _).alloc (by simp) _
  clear hW
  go_wp2_with (go_at_call 89; refine (first_any _).mono ?_; rintro e w3 ⟨gf, rfl, hgf, hf, hb3⟩; replace hz := hz.on hb3; replace hgf := Nat.lt_of_lt_of_le (Lies.lt hx) hgf; replace hx := hx.on hb3; replace hb := below_on hb hb3; clear hb3)
  go_loopw [7] (fun ix wr => ∃ k : Nat, k ≤ 8 ∧ ix = .int .i64 k ∧ Lies wr w.heap.size 81 (sumA h8zero noBytes 0) ∧ Lies wr (w.heap.size + 1) 81 (newA k) ∧ Row32 wr gf h0L ∧ Below w.heap.size w wr) (fun ix _ => 8 - (intOf ix).toNat)
  case atStart => exact ⟨0, by omega, rfl, hz, hx, hf, hb⟩
  case round =>
    clear hz hx hf hb
    obtain ⟨k, hk, rfl, hz, hx, hf, hb⟩ := hrel
    by_cases hlk : k < 8
    · have hX := hf k hlk
      have HP := Lib.hid (newA_set k hlk)
      have hc := (hx.cell k).trans (newA_at k hlk)
      have hfz := hx.frozen k
      generalize h0L.getD k 0 = X at hX HP
      have b1 : (k : Int) < 8 := by omega
      go_wp2_with fail
      go_roundw
      case rel => exact ⟨k + 1, by omega, by go_num, hz.far (by simp only; omega) _, by rw [← HP.out]; exact hx.put k _, hf.far (by simp only; omega) _, hb.setCell (p := ⟨w.heap.size + 1, k, none⟩) (by simp only; omega) _⟩
      case measure => simp [intOf]; omega
    · obtain rfl : k = 8 := by omega
      rw [newA_end] at hx
      go_wp2_with (first | ((with_reducible refine wpL_load (w.heap.size + 1) 81 (sumA h0 noBytes 0) 10 row29 rfl hx ?_ ?_); rfl) | ((with_reducible refine wpL_store w.heap.size 81 _ (sumA h0 noBytes 0) 10 row29 rfl rfl (sumA_one _ _ _) hz ?_ ?_ ?_); rfl; rfl))
      exact bodyPost_ret (results_row Tryz.results54 row29 rfl (hz.row _) rfl) rfl ⟨rfl, below_rowSet hb (Nat.le_refl _) _⟩

set_option maxHeartbeats 800000 in
theorem refSum_any (s : ByteArray) (w : World) (hs : s.size ≤ 1000) :
    Calls Tryz.prog 21 #[.string s] w fun e w' => e = .returned (.string (bytesOf (sumT s.data.toList))) ∧ Below w.heap.size w w' := by
  have hz : s.data.toList.length = s.size := (Lib.size_eq s).symm
  have hW := fun w => refWrite_any h0 noBytes s 0 w (by decide) hs (by omega) h0_ok
  rw [show noBytes.data.toList ++ s.data.toList = s.data.toList from rfl, Nat.zero_add] at hW
  have hE := fun w => refEnd_any (feed h0 s.data.toList) (bytesOf (tailB s.data.toList)) s.size w (by unfold rightB; rw [bytes_size, tail_length]; simp; omega) (feed_ok' h0_ok _)
  rw [show (bytesOf (tailB s.data.toList)).data.toList = tailB s.data.toList from rfl, ← hz, end_sum] at hE
  rw [← hz] at hW
  have HW := Lib.hid hW
  have HE := Lib.hid hE
  clear hW hE
  go_enter Tryz.func21, Tryz.ntmps21
  go_wp2_with (first | (go_at_call 54; refine (refNew_any _).mono ?_; rintro e w1 ⟨rfl, hb1⟩) | (go_at_call 53; refine (HW.out _).mono ?_; rintro e w2 ⟨rfl, hb2⟩; replace hb1 := below_on hb1 hb2) | (go_at_call 52; refine (HE.out _).mono ?_; rintro e w3 ⟨rfl, hb3⟩; replace hb1 := below_on hb1 hb3))
  go_ret
  exact ⟨rfl, hb1⟩

/-- the sum of one text -/
theorem sum_text (t : ByteArray) (w : World) (h : t.size ≤ 1000) (hw : Tab w) :
    Calls Tryz.prog 37 #[.slice (some ⟨w.heap.size, 0, none⟩) 1 1] (w.alloc (.cells #[.string t] 9)) fun e w' => e = .returned (.string (bytesOf (sumT t.data.toList))) ∧ Below w.heap.size w w' := by
  have hs := sum_one w t.data.toList (by rw [← Lib.size_eq]; omega) hw
  rw [show (⟨t.data.toList.toArray⟩ : ByteArray) = t from Lib.mk_data t] at hs
  exact hs
theorem rows_cubes {w : World} {g : Nat} (h : Keysat w g) : Row32 w g ks := lies_row32 h
theorem ks_length : ks.length = 80 := rfl
theorem first_squares : (sieveL 18).map (fun p => rootL p 2) = h0L := squares

end Go.Proofs.YtgefhfcmiefocaaGreatDoor.T

/- The contracts of the reference's Wide, Prefix, Number and Times. -/
namespace Go.Proofs.YtgefhfcmiefocaaGreatDoor.E
open Go.RowKit Go.Sort Go.Proofs.YtgefhfcmiefocaaGreatDoor.F Go.Proofs.YtgefhfcmiefocaaGreatDoor.C
set_option maxRecDepth 100000

/-! ### what the bytes come to -/
theorem clamp_parts (l : List UInt8) (h : 32 ≤ l.length) :
    clampL l = [((l.getD 0 0).toNat - (l.getD 0 0).toNat % 8).toUInt8] ++ (l.drop 1).take 30 ++ [((l.getD 31 0).toNat % 64 + 64).toUInt8] := by
  unfold clampL
  generalize ((l.getD 0 0).toNat - (l.getD 0 0).toNat % 8).toUInt8 = a
  generalize ((l.getD 31 0).toNat % 64 + 64).toUInt8 = b
  apply List.ext_getElem
  · simp
    omega
  · intro i h1 h2
    have hi : i < 32 := by simp at h1; omega
    rw [List.getElem_set]
    by_cases e : 31 = i
    · subst e
      rw [if_pos rfl, List.getElem_append_right (by simp; omega)]
      simp
    · rw [if_neg e, List.getElem_append_left (by simp; omega), List.getElem_set]
      by_cases e0 : 0 = i
      · subst e0
        rw [if_pos rfl]
        rfl
      · rw [if_neg e0, List.getElem_append_right (by simp; omega)]
        simp only [List.getElem_take, List.getElem_drop, List.length_singleton]
        congr 1
        omega
theorem seedN_K (s : List UInt8) : seedN s < K256 := by
  unfold seedN
  have h := numLE_lt (clampL (T.sumT s))
  rw [clamp_length _ (by rw [T.sumT_length]; decide)] at h
  exact h
theorem base_af : af bxN byN = af Bp.x.val Bp.y.val := by
  rw [show Bp.x.val = bxN from val_z (by decide), show Bp.y.val = byN from val_z (by decide)]
attribute [local irreducible] feA afA ptA

set_option maxHeartbeats 800000 in
theorem rwide_any (s : ByteArray) (hs : s.size ≤ 1000) (W : World) :
    Calls Tryz.prog 24 #[.string s] W fun e w' => e = .returned (fe (leftN s.data.toList)) ∧ Below W.heap.size W w' := by
  have HS := Lib.hid (fun w => T.refSum_any s w hs)
  have hsz : (T.bytesOf (T.sumT s.data.toList)).size = 64 := by rw [T.bytes_size, T.sumT_length]
  have HW := Lib.hid (fun w => G.refWide_any (T.bytesOf (T.sumT s.data.toList)) (by omega) w)
  rw [show numLE (T.bytesOf (T.sumT s.data.toList)).data.toList % G.l25 = leftN s.data.toList from rfl] at HW
  generalize leftN s.data.toList = n at *
  generalize T.bytesOf (T.sumT s.data.toList) = S at *
  clear hsz hs
  go_enter Tryz.func24, Tryz.ntmps24
  have hr := Lies.new W 31 fe0A
  have hB := (Below.refl W.heap.size W).alloc (Nat.le_refl _) (.cells fe0A 31)
  go_upto_region 1 with fail
  generalize World.alloc W _ = w0 at *
  go_wp2_with (first
    | (go_at_call 21; (with_reducible refine (HS.out _).mono ?_); rintro e w1 ⟨rfl, hb⟩; replace hr := hr.on hb; replace hB := below_on hB hb; clear hb)
    | (go_at_call 36; (with_reducible refine (HW.out _).mono ?_); rintro e w2 ⟨rfl, hb⟩; replace hr := hr.on hb; replace hB := below_on hB hb; clear hb)
    | ((with_reducible refine wpL_store W.heap.size 31 _ (feA n) 4 G.rowFe rfl (feA_size _) (feA_one _) hr ?_ ?_ ?_); rfl; rfl))
  exact bodyPost_ret (results_row Tryz.results24 G.rowFe (feA_size _) (hr.row _) rfl) rfl ⟨rfl, below_rowSet hB (Nat.le_refl _) _⟩

set_option maxHeartbeats 800000 in
theorem rprefix_any (s : ByteArray) (hs : s.size ≤ 1000) (W : World) :
    Calls Tryz.prog 25 #[.string s] W fun e w' => e = .returned (.string ⟨(prefixL s.data.toList).toArray⟩) ∧ Below W.heap.size W w' := by
  have HS := Lib.hid (fun w => T.refSum_any s w hs)
  have hsz : (T.bytesOf (T.sumT s.data.toList)).size = 64 := by rw [T.bytes_size, T.sumT_length]
  have e2 : (T.bytesOf (T.sumT s.data.toList)).extract 32 (T.bytesOf (T.sumT s.data.toList)).size = ⟨(prefixL s.data.toList).toArray⟩ := by
    rw [← Lib.mk_data (ByteArray.extract _ _ _), T.rest_list]
    rfl
  rw [← e2]
  clear e2
  generalize T.bytesOf (T.sumT s.data.toList) = S at *
  have hi : (S.size : Int) = 64 := by omega
  have hB := Below.refl W.heap.size W
  clear hs
  go_enter Tryz.func25, Tryz.ntmps25
  go_wp2_with (go_at_call 21; (with_reducible refine (HS.out _).mono ?_); rintro e w1 ⟨rfl, hb⟩; replace hB := below_on hB hb; clear hb)
  go_ret
  exact ⟨by rw [hsz]; rfl, hB⟩

set_option maxHeartbeats 800000 in
theorem rtimes_any (n : Nat) (hn : n < K256) (W : World) :
    Calls Tryz.prog 9 #[fe n] W fun e w' => e = .returned (.string (textN (Bp.smul n))) ∧ Below W.heap.size W w' := by
  have HB := Lib.hid (fun w => refBase_any w)
  have HT := Lib.hid (fun w => refTimes_any n Bp Bp_on w)
  rw [Nat.mod_eq_of_lt hn, ← base_af] at HT
  have HX := Lib.hid (fun w => refText_any (Bp.smul n) w)
  generalize textN (Bp.smul n) = s at *
  generalize (Bp.smul n).x.val = x at *
  generalize (Bp.smul n).y.val = y at *
  generalize bxN = bx at *
  generalize byN = b_y at *
  clear hn
  go_enter Tryz.func9, Tryz.ntmps9
  have hz := Lies.new W 31 (feA n)
  have hB := (Below.refl W.heap.size W).alloc (Nat.le_refl _) (.cells (feA n) 31)
  go_upto_region 1 with fail
  generalize World.alloc W _ = w0 at *
  refine wp_region_all (by kernel_rfl) (by kernel_rfl) ?_
  refine wpQB_sc W.heap.size n hz rfl ?_
  simp only [Act.put, List.setIfInBounds_toArray, List.set_cons_succ, List.set_cons_zero]
  refine wpQB_call 20 #[] (af bx b_y) rfl rfl (fun _ => by kernel_rfl) (fun w _ => HB.out w) ?_
  simp only [Act.put, List.setIfInBounds_toArray, List.set_cons_succ, List.set_cons_zero]
  refine wpQB_call 19 #[fe n, af bx b_y] (af x y) rfl rfl (fun _ => by kernel_rfl) (fun w _ => HT.out w) ?_
  simp only [Act.put, List.setIfInBounds_toArray, List.set_cons_succ, List.set_cons_zero]
  refine wpQB_call 18 #[af x y] (.string s) rfl rfl (fun _ => by kernel_rfl) (fun w _ => HX.out w) ?_
  simp only [Act.put, List.setIfInBounds_toArray, List.set_cons_succ, List.set_cons_zero]
  refine wpQB_run (.string s) rfl (fun _ _ => rfl) ?_
  simp only [Act.put, List.setIfInBounds_toArray, List.set_cons_succ, List.set_cons_zero]
  refine wpQB_nil ?_
  intro w1 hb
  replace hB := below_on hB hb
  go_wp2_with fail
  go_ret
  exact ⟨rfl, hB⟩

/-! ### operations on texts and bytes -/
section
variable {a : Act} {d : Option Tmp} {x y : Tmp} {t' : TypeId} {pos : String} {after : Array Edge} {gd : Option (Nat × Bool)} {r : TypeId}
theorem run_index0 (s : ByteArray) (hs : 0 < s.size) (c : Nat) (hc : (s[0]'hs).toNat = c) (hx : a.eval (.tmp x) = .string s) (w : World) :
    (execOp a.eval ⟨d, .index 9 (.tmp x) (.const (.int .i64 0)), t', pos, after, gd⟩).run Tryz.prog w = .ok (.value (.int .u8 (c : Int))) w := by
  have h2 : a.eval (.const (.int .i64 0)) = .int .i64 0 := rfl
  have h3 : s[0]? = some (s[0]'hs) := getElem?_pos s 0 hs
  unfold execOp
  simp only [hx, h2]
  simp [Instr.index, run_underlying Tryz.underlying9, go_sem, h3, hc]
theorem run_rem8 (c : Nat) (hx : a.eval (.tmp x) = .int .u8 (c : Int)) (w : World) :
    (execOp a.eval ⟨d, .binOp .rem 5 (.tmp x) (.const (.int .u8 8)) r, t', pos, after, gd⟩).run Tryz.prog w = .ok (.value (.int .u8 ((c % 8 : Nat) : Int))) w := by
  have h2 : a.eval (.const (.int .u8 8)) = .int .u8 8 := rfl
  have h3 : Int.tmod (c : Int) 8 = (c : Int) % 8 := Int.tmod_eq_emod_of_nonneg (by omega)
  unfold execOp
  simp only [hx, h2]
  simp [go_sem, h3]
theorem run_subU8 (c e : Nat) (he : e ≤ c) (hc : c < 256) (hx : a.eval (.tmp x) = .int .u8 (c : Int)) (hy : a.eval (.tmp y) = .int .u8 (e : Int)) (w : World) :
    (execOp a.eval ⟨d, .binOp .sub 5 (.tmp x) (.tmp y) r, t', pos, after, gd⟩).run Tryz.prog w = .ok (.value (.int .u8 ((c - e : Nat) : Int))) w := by
  have h3 : IntKind.u8.wrap ((c : Int) - (e : Int)) = ((c - e : Nat) : Int) := by rw [IntKind.wrap_u8]; omega
  unfold execOp
  simp only [hx, hy]
  simp [go_sem, h3]
theorem run_mid (s : ByteArray) (hs : s.size = 64) (hx : a.eval (.tmp x) = .string s) (w : World) :
    (execOp a.eval ⟨d, .slice 9 (.tmp x) (some (.const (.int .i64 1))) (some (.const (.int .i64 31))) none, t', pos, after, gd⟩).run Tryz.prog w = .ok (.value (.string (s.extract 1 31))) w := by
  have h2 : a.eval (.const (.int .i64 1)) = .int .i64 1 := rfl
  have h3 : a.eval (.const (.int .i64 31)) = .int .i64 31 := rfl
  unfold execOp
  simp only [hx, h2, h3, Option.map_some, Option.map_none]
  simp [Instr.sliceAt, run_underlying Tryz.underlying9, go_sem, hs]
end
theorem grown_byte (w : World) (o : Obj) : Below w.heap.size w (w.alloc o) := (Below.refl w.heap.size w).alloc (Nat.le_refl _) o
abbrev sayRead (l : List Nat) : Said := fun v w => ∃ g cap, v = .slice (some ⟨g, 0, none⟩) 16 cap ∧ 16 ≤ cap ∧ Dig w g 0 l
theorem sayRead_mono (l : List Nat) : ∀ v w w', sayRead l v w → Below w.heap.size w w' → sayRead l v w' := fun _ _ _ ⟨g, cap, h1, h2, h3⟩ hb => ⟨g, cap, h1, h2, h3.on hb⟩

set_option maxHeartbeats 3200000 in
theorem rnumber_any (s : ByteArray) (hs : s.size ≤ 1000) (W : World) :
    Calls Tryz.prog 10 #[.string s] W fun e w' => e = .returned (fe (seedN s.data.toList)) ∧ Below W.heap.size W w' := by
  have HS := Lib.hid (fun w => T.refSum_any s w hs)
  have hl := T.sumT_length s.data.toList
  have hcp := clamp_parts (T.sumT s.data.toList) (by omega)
  have hcl := clamp_length (T.sumT s.data.toList) (by omega)
  have hsn : seedN s.data.toList = numLE (clampL (T.sumT s.data.toList)) := rfl
  generalize seedN s.data.toList = n at *
  generalize clampL (T.sumT s.data.toList) = L at *
  obtain ⟨S, hS⟩ : ∃ S, T.bytesOf (T.sumT s.data.toList) = S := ⟨_, rfl⟩
  rw [hS] at HS
  have hSl : S.data.toList = T.sumT s.data.toList := by rw [← hS]; rfl
  have hSs : S.size = 64 := by rw [Lib.size_eq, hSl]; exact hl
  rw [← hSl] at hcp
  have h0 : 0 < S.size := by omega
  have h31 : 31 < S.size := by omega
  have g0 : S.data.toList.getD 0 0 = S[0]'h0 := by rw [List.getD_eq_getElem?_getD, List.getElem?_eq_getElem (by rw [← Lib.size_eq]; omega)]; rfl
  have g31 : S.data.toList.getD 31 0 = S[31]'h31 := by rw [List.getD_eq_getElem?_getD, List.getElem?_eq_getElem (by rw [← Lib.size_eq]; omega)]; rfl
  rw [g0, g31] at hcp
  obtain ⟨c0, hc0⟩ : ∃ c, (S[0]'h0).toNat = c := ⟨_, rfl⟩
  obtain ⟨c1, hc1⟩ : ∃ c, (S[31]'h31).toNat = c := ⟨_, rfl⟩
  have k0 : c0 < 256 := by rw [← hc0]; exact UInt8.toNat_lt _
  have k1 : c1 < 256 := by rw [← hc1]; exact UInt8.toNat_lt _
  rw [hc0, hc1] at hcp
  have hM : (S.extract 1 31).data.toList = (S.data.toList.drop 1).take 30 := T.extract_list S 1 31
  have hMs : (S.extract 1 31).size = 30 := by rw [ByteArray.size_extract]; omega
  rw [← hM] at hcp
  obtain ⟨M, hMe⟩ : ∃ M, S.extract 1 31 = M := ⟨_, rfl⟩
  rw [hMe] at hcp hMs
  have x1 : Int.tmod (c1 : Int) 64 = ((c1 % 64 : Nat) : Int) := by rw [Int.tmod_eq_emod_of_nonneg (by omega)]; omega
  have kd0 : c0 - c0 % 8 < 256 := by omega
  have kd1 : c1 % 64 + 64 < 256 := by omega
  obtain ⟨d0, hd0⟩ : ∃ d, c0 - c0 % 8 = d := ⟨_, rfl⟩
  obtain ⟨m1, hm1⟩ : ∃ m, c1 % 64 = m := ⟨_, rfl⟩
  obtain ⟨d1, hd1⟩ : ∃ d, m1 + 64 = d := ⟨_, rfl⟩
  have HD0 := Lib.hid hd0
  rw [hm1] at x1 hcp kd1
  rw [hd0] at hcp kd0
  rw [hd1] at hcp kd1
  have x2 : IntKind.u8.wrap ((m1 : Int) + 64) = (d1 : Int) := by rw [IntKind.wrap_u8]; omega
  have x3 : ((m1 : Int) + 64) = (d1 : Int) := by omega
  have x4 : ((m1 : Int) + 64) % 256 = (d1 : Int) := by omega
  obtain ⟨X, hX⟩ : ∃ X : ByteArray, (⟨[d0.toUInt8].toArray⟩ : ByteArray) ++ M = X := ⟨_, rfl⟩
  obtain ⟨Y, hY⟩ : ∃ Y : ByteArray, X ++ (⟨[d1.toUInt8].toArray⟩ : ByteArray) = Y := ⟨_, rfl⟩
  have hYl : Y.data.toList = L := by rw [← hY, ← hX, T.list_append, T.list_append, hcp]
  have hYs : Y.size = 32 := by rw [Lib.size_eq, hYl]; exact hcl
  have hXs : X.size = 31 := by rw [← hX, ByteArray.size_append, hMs]; rfl
  have HR := Lib.hid (fun w => read_any Y hYs w)
  rw [hYl] at HR
  have hLl : L.length = 32 := hcl
  have hrv := rdL_full L hLl
  rw [← hsn] at hrv
  have hrd := rdL_dg L 16
  have hrl := rdL_length L 16
  generalize rdL L 16 = rl at *
  have HWd := Lib.hid (fun g cap w (hd : Dig w g 0 rl) => words_any rl g 0 cap w hd (by omega) hrd)
  rw [hrv, hrl] at HWd
  have HX := Lib.hid hX
  have HY := Lib.hid hY
  have HM := Lib.hid hMe
  have hidx1 : (((S[31]'h31).toNat : Nat) : Int) = (c1 : Int) := by rw [hc1]
  have hSi : (S.size : Int) = 64 := by omega
  clear hsn hcp hcl hS hSl hl g0 g31 hM hMe hX hY hYl hYs hLl hrv hrd hrl hs hd0 hm1 hd1 kd0
  go_enter Tryz.func10, Tryz.ntmps10
  have hr := Lies.new W 31 fe0A
  have hB := (Below.refl W.heap.size W).alloc (Nat.le_refl _) (.cells fe0A 31)
  go_upto_region 1 with fail
  generalize World.alloc W _ = w0 at *
  go_upto_region 2 with (go_at_call 21; (with_reducible refine (HS.out _).mono ?_); rintro e w1 ⟨rfl, hb⟩; replace hr := hr.on hb; replace hB := below_on hB hb; clear hb)
  refine wp_region_all (by kernel_rfl) (by kernel_rfl) ?_
  refine wpQB_run (.string S) rfl (fun _ _ => rfl) ?_
  simp only [Act.put, List.setIfInBounds_toArray, List.set_cons_succ, List.set_cons_zero]
  refine wpQB_run (.int .u8 (c0 : Int)) rfl (fun w _ => run_index0 S h0 c0 hc0 rfl w) ?_
  simp only [Act.put, List.setIfInBounds_toArray, List.set_cons_succ, List.set_cons_zero]
  refine wpQB_run (.string S) rfl (fun _ _ => rfl) ?_
  simp only [Act.put, List.setIfInBounds_toArray, List.set_cons_succ, List.set_cons_zero]
  refine wpQB_run (.int .u8 (c0 : Int)) rfl (fun w _ => run_index0 S h0 c0 hc0 rfl w) ?_
  simp only [Act.put, List.setIfInBounds_toArray, List.set_cons_succ, List.set_cons_zero]
  refine wpQB_run (.int .u8 ((c0 % 8 : Nat) : Int)) rfl (fun w _ => run_rem8 c0 rfl w) ?_
  simp only [Act.put, List.setIfInBounds_toArray, List.set_cons_succ, List.set_cons_zero]
  refine wpQB_run (.int .u8 (d0 : Int)) rfl (fun w _ => by rw [← HD0.out]; exact run_subU8 c0 (c0 % 8) (by omega) k0 rfl rfl w) ?_
  simp only [Act.put, List.setIfInBounds_toArray, List.set_cons_succ, List.set_cons_zero]
  refine wpQB_run (.int .u8 (d0 : Int)) rfl (fun _ _ => rfl) ?_
  simp only [Act.put, List.setIfInBounds_toArray, List.set_cons_succ, List.set_cons_zero]
  refine wpQB_nil ?_
  intro w2 hb
  replace hr := hr.on hb
  replace hB := below_on hB hb
  clear hb
  go_upto_region 4 with fail
  refine wp_region_rel 12 _ [sayFix (.int .u8 (d0 : Int)), sayByte d0, sayFix (.string ⟨[d0.toUInt8].toArray⟩), sayFix (.string S), sayFix (.string M), sayFix (.string X), sayFix (.int .u8 (d1 : Int)), sayByte d1, sayFix (.string ⟨[d1.toUInt8].toArray⟩), sayFix (.string Y), sayRead rl, sayFix (fe n)] rfl rfl (by kernel_rfl) (by kernel_rfl) (fun r hr => by
    simp only [List.mem_cons, List.not_mem_nil, or_false] at hr
    rcases hr with rfl | rfl | rfl | rfl | rfl | rfl | rfl | rfl | rfl | rfl | rfl | rfl <;> first | exact sayFix_mono _ | exact sayByte_mono _ | exact sayRead_mono _) ?_
  simp only [List.take_succ_cons, List.take_zero, List.drop_succ_cons, List.drop_zero, List.zip_cons_cons, List.zip_nil_right]
  refine wpRel_step (fun w hb hG => does_run (.int .u8 (d0 : Int)) rfl rfl) (fun v0 => ?_)
  simp only [Act.put, List.setIfInBounds_toArray, List.set_cons_succ, List.set_cons_zero, Option.getD_some]
  refine wpRel_step (fun w hb hG => ?_) (fun v1 => ?_)
  · obtain rfl := laid_at 0 hG rfl (by decide)
    exact does_made (.slice (some ⟨w.heap.size, 0, none⟩) 1 1) (w' := w.alloc (.cells #[.int .u8 (d0 : Int)] 5)) (by kernel_rfl) (grown_byte w _) ⟨w.heap.size, rfl, (Lies.new w 5 #[.int .u8 (d0 : Int)]).cell 0⟩
  simp only [Act.put, List.setIfInBounds_toArray, List.set_cons_succ, List.set_cons_zero, Option.getD_some]
  refine wpRel_step (fun w hb hG => ?_) (fun v2 => ?_)
  · obtain ⟨g, rfl, hg⟩ := laid_at 0 hG rfl (by decide)
    exact does_run (.string ⟨[d0.toUInt8].toArray⟩) (run_conv1 g d0 (by have := HD0.out; omega) w hg rfl) rfl
  simp only [Act.put, List.setIfInBounds_toArray, List.set_cons_succ, List.set_cons_zero, Option.getD_some]
  refine wpRel_step (fun w hb hG => does_run (.string S) rfl rfl) (fun v3 => ?_)
  simp only [Act.put, List.setIfInBounds_toArray, List.set_cons_succ, List.set_cons_zero, Option.getD_some]
  refine wpRel_step (fun w hb hG => ?_) (fun v4 => ?_)
  · obtain rfl := laid_at 0 hG rfl (by decide)
    exact does_run (.string M) (by rw [← HM.out]; exact run_mid S hSs rfl w) rfl
  simp only [Act.put, List.setIfInBounds_toArray, List.set_cons_succ, List.set_cons_zero, Option.getD_some]
  refine wpRel_step (fun w hb hG => ?_) (fun v5 => ?_)
  · obtain rfl := laid_at 2 hG rfl (by decide)
    obtain rfl := laid_at 0 hG rfl (by decide)
    exact does_run (.string X) (by rw [← HX.out]; exact run_cat _ M (by rw [hMs]; show 1 + 30 ≤ 100; decide) rfl rfl w) rfl
  simp only [Act.put, List.setIfInBounds_toArray, List.set_cons_succ, List.set_cons_zero, Option.getD_some]
  refine wpRel_step (fun w hb hG => does_run (.int .u8 (d1 : Int)) rfl rfl) (fun v6 => ?_)
  simp only [Act.put, List.setIfInBounds_toArray, List.set_cons_succ, List.set_cons_zero, Option.getD_some]
  refine wpRel_step (fun w hb hG => ?_) (fun v7 => ?_)
  · obtain rfl := laid_at 0 hG rfl (by decide)
    exact does_made (.slice (some ⟨w.heap.size, 0, none⟩) 1 1) (w' := w.alloc (.cells #[.int .u8 (d1 : Int)] 5)) (by kernel_rfl) (grown_byte w _) ⟨w.heap.size, rfl, (Lies.new w 5 #[.int .u8 (d1 : Int)]).cell 0⟩
  simp only [Act.put, List.setIfInBounds_toArray, List.set_cons_succ, List.set_cons_zero, Option.getD_some]
  refine wpRel_step (fun w hb hG => ?_) (fun v8 => ?_)
  · obtain ⟨g, rfl, hg⟩ := laid_at 0 hG rfl (by decide)
    exact does_run (.string ⟨[d1.toUInt8].toArray⟩) (run_conv1 g d1 kd1 w hg rfl) rfl
  simp only [Act.put, List.setIfInBounds_toArray, List.set_cons_succ, List.set_cons_zero, Option.getD_some]
  refine wpRel_step (fun w hb hG => ?_) (fun v9 => ?_)
  · obtain rfl := laid_at 3 hG rfl (by decide)
    obtain rfl := laid_at 0 hG rfl (by decide)
    exact does_run (.string Y) (by rw [← HY.out]; exact run_cat X _ (by rw [hXs]; show 31 + 1 ≤ 100; decide) rfl rfl w) rfl
  simp only [Act.put, List.setIfInBounds_toArray, List.set_cons_succ, List.set_cons_zero, Option.getD_some]
  refine wpRel_step (fun w hb hG => ?_) (fun v10 => ?_)
  · obtain rfl := laid_at 0 hG rfl (by decide)
    exact does_call 23 #[.string Y] (by kernel_rfl) ((HR.out w).mono fun e w' ⟨g, cap, he, h1, h2, h3⟩ => ⟨_, he, h3, g, cap, rfl, h1, h2⟩)
  simp only [Act.put, List.setIfInBounds_toArray, List.set_cons_succ, List.set_cons_zero, Option.getD_some]
  refine wpRel_step (fun w hb hG => ?_) (fun v11 => ?_)
  · obtain ⟨g, cap, rfl, h1, h2⟩ := laid_at 0 hG rfl (by decide)
    exact does_call 22 #[.slice (some ⟨g, 0, none⟩) 16 cap] (by kernel_rfl) ((HWd.out g cap w h2).mono fun e w' ⟨he, h3⟩ => ⟨_, he, h3, rfl⟩)
  simp only [Act.put, List.setIfInBounds_toArray, List.set_cons_succ, List.set_cons_zero, Option.getD_some]
  refine wpRel_nil (fun w3 hb hG => ?_)
  obtain rfl := hG _ (List.mem_of_getElem? (i := 0) rfl)
  clear hG
  replace hr := hr.on hb
  replace hB := below_on hB hb
  clear hb
  go_wp2_with ((with_reducible refine wpL_store W.heap.size 31 _ (feA n) 4 G.rowFe rfl (feA_size _) (feA_one _) hr ?_ ?_ ?_); rfl; rfl)
  exact bodyPost_ret (results_row Tryz.results10 G.rowFe (feA_size _) (hr.row _) rfl) rfl ⟨rfl, below_rowSet hB (Nat.le_refl _) _⟩
end Go.Proofs.YtgefhfcmiefocaaGreatDoor.E

/- Two points by x and y are compared. -/
namespace Go.Proofs.YtgefhfcmiefocaaGreatDoor.C
open Go.RowKit Go.Sort Go.Proofs.YtgefhfcmiefocaaGreatDoor.F
set_option maxRecDepth 100000

theorem eq_af (w : World) (a0 a1 a2 a3 b0 b1 b2 b3 c0 c1 c2 c3 d0 d1 d2 d3 : Int) :
    (Op.equalIn 10000 44 (.agg #[.int .u64 a0, .int .u64 a1, .int .u64 a2, .int .u64 a3, .int .u64 b0, .int .u64 b1, .int .u64 b2, .int .u64 b3]) (.agg #[.int .u64 c0, .int .u64 c1, .int .u64 c2, .int .u64 c3, .int .u64 d0, .int .u64 d1, .int .u64 d2, .int .u64 d3])).run Tryz.prog w = .ok ((a0 == c0 && a1 == c1 && a2 == c2 && a3 == c3) && (b0 == d0 && b1 == d1 && b2 == d2 && b3 == d3)) w := by
  have h0 := eq_four 9997 w a0 a1 a2 a3 c0 c1 c2 c3
  have h1 := eq_four 9997 w b0 b1 b2 b3 d0 d1 d2 d3
  rw [run_equalIn_agg (P := Tryz.prog) w 9999 44 _ _ (by kernel_rfl) (by kernel_rfl)]
  generalize (a0 == c0 && a1 == c1 && a2 == c2 && a3 == c3) = A at *
  generalize (b0 == d0 && b1 == d1 && b2 == d2 && b3 == d3) = B at *
  simp only [Program.fieldsOf, Tryz.underlying44]
  cases A <;> cases B <;> simp [go_sem, h0, h1]
theorem eql_af (w : World) (x y u v : Nat) (hx : x < K256) (hy : y < K256) (hu : u < K256) (hv : v < K256) : (binOp .eql 44 (af x y) (af u v)).run Tryz.prog w = .ok (.bool (decide (x = u) && decide (y = v))) w := by
  rw [← fe_same x u hx hu, ← fe_same y v hy hv, run_eql_struct]
  exact (congrArg (fun r => Result.andThen r _) (eq_af w _ _ _ _ _ _ _ _ _ _ _ _ _ _ _ _)).trans rfl
theorem neq_af (w : World) (x y : Nat) (hx : x < K256) (hy : y < K256) : (binOp .neq 44 (af x y) (af x y)).run Tryz.prog w = .ok (.bool false) w := by
  have h1 := fe_same x x hx hx
  have h2 := fe_same y y hy hy
  rw [decide_eq_true rfl] at h1 h2
  rw [run_neq_struct]
  refine (congrArg (fun r => Result.andThen r _) (eq_af w _ _ _ _ _ _ _ _ _ _ _ _ _ _ _ _)).trans ?_
  rw [h1, h2]
  rfl
theorem neq_af_exec {o : Oper} {a : Act} {p q : Operand} {r : TypeId} (ho : o.op = .binOp .neq 44 p q r) (x y : Nat) (hx : x < K256) (hy : y < K256) (hp : a.eval p = af x y) (hq : a.eval q = af x y) (w : World) :
    (execOp a.eval o).run Tryz.prog w = .ok (.value (.bool false)) w := by
  unfold execOp
  simp only [ho, hp, hq, Sem.run_bind, run_eqGuard_agg (hm := Tryz.eqGuardType44), Result.andThen_ok, neq_af w x y hx hy, Sem.run_pure]
theorem eql_af_exec {o : Oper} {a : Act} {p q : Operand} {r : TypeId} (ho : o.op = .binOp .eql 44 p q r) (x y u v : Nat) (hx : x < K256) (hy : y < K256) (hu : u < K256) (hv : v < K256) (hp : a.eval p = af x y) (hq : a.eval q = af u v) (w : World) :
    (execOp a.eval o).run Tryz.prog w = .ok (.value (.bool (decide (x = u) && decide (y = v)))) w := by
  unfold execOp
  simp only [ho, hp, hq, Sem.run_bind, run_eqGuard_agg (hm := Tryz.eqGuardType44), Result.andThen_ok, eql_af w x y u v hx hy hu hv, Sem.run_pure]
end Go.Proofs.YtgefhfcmiefocaaGreatDoor.C

/- The contract of the reference's Add. -/
namespace Go.Proofs.YtgefhfcmiefocaaGreatDoor.G
open Go.Proofs.YtgefhfcmiefocaaGreatDoor.F
open Go.RowKit

set_option maxRecDepth 100000 in
set_option maxHeartbeats 1600000 in
theorem refAdd_any (m n : Nat) (W : World) (hm : m < K256) (hn : n < K256) :
    Calls Tryz.prog 27 #[fe m, fe n] W fun e W' => e = .returned (fe ((m + n) % l25)) ∧ Below W.heap.size W W' := by
  have HP := Lib.hid (digits_plus m n hm hn)
  have HM := Lib.hid (digits_any m)
  have HN := Lib.hid (digits_any n)
  rw [fe, fe]
  obtain ⟨a0, a1, a2, a3, ha⟩ := fe_four m
  obtain ⟨b0, b1, b2, b3, hb⟩ := fe_four n
  rw [fe, ha] at HM
  rw [fe, hb] at HN
  rw [ha, hb]
  clear ha hb
  go_enter Tryz.func27, Tryz.ntmps27
  have hx := ((Lies.new W 31 #[w64 a0, w64 a1, w64 a2, w64 a3]).alloc (.cells #[w64 b0, w64 b1, w64 b2, w64 b3] 31)).alloc (.cells fe0A 31)
  have hy : Lies ((W.alloc (.cells #[w64 a0, w64 a1, w64 a2, w64 a3] 31)).alloc (.cells #[w64 b0, w64 b1, w64 b2, w64 b3] 31)) (W.heap.size + 1) 31 #[w64 b0, w64 b1, w64 b2, w64 b3] := heap_alloc2_new W _ _
  replace hy := hy.alloc (.cells fe0A 31)
  have hr := lies3 W (.cells #[w64 a0, w64 a1, w64 a2, w64 a3] 31) (.cells #[w64 b0, w64 b1, w64 b2, w64 b3] 31) 31 fe0A
  have hB := (((Below.refl W.heap.size W).alloc (Nat.le_refl _) (.cells #[w64 a0, w64 a1, w64 a2, w64 a3] 31)).alloc (by simp) (.cells #[w64 b0, w64 b1, w64 b2, w64 b3] 31)).alloc (by simp; omega) (.cells fe0A 31)
  go_upto_region 1 with fail
  generalize World.alloc (World.alloc (World.alloc W _) _) _ = w0 at *
  obtain ⟨x0, x1, x2, x3⟩ := hx.four
  obtain ⟨y0, y1, y2, y3⟩ := hy.four
  replace hx := hx.drew
  replace hy := hy.drew
  replace hr := hr.drew
  replace hB := hB.drew
  go_region_with (first
    | (go_at_call 47; first
      | ((with_reducible refine (HM.out _).mono ?_); rintro e w1 ⟨gx, cx, rfl, hcx, hdx, hb⟩; replace hy := hy.on hb; replace hr := hr.on hb; replace hB := below_on hB hb; clear hb x0 x1 x2 x3 y0 y1 y2 y3; obtain ⟨y0, y1, y2, y3⟩ := hy.four)
      | ((with_reducible refine (HN.out _).mono ?_); rintro e w2 ⟨gy, cy, rfl, hcy, hdy, hb⟩; replace hr := hr.on hb; replace hB := below_on hB hb; replace hdx := hdx.on hb; clear hb))
    | (go_at_call 58; refine (HP.out gx cx gy cy _ hdx hdy).mono ?_; rintro e w3 ⟨r, gr, cr, rfl, r1, r2, r3, r4, r5, hb⟩; replace hr := hr.on hb; replace hB := below_on hB hb; clear hb)
    | (go_at_call 57; refine (val_fold r (m + n) _ gr cr r2 r1 r3 r4 r5).mono ?_; rintro e w4 ⟨rfl, hb⟩; replace hr := hr.on hb; replace hB := below_on hB hb; clear hb; have hst := hr.storeFe ((m + n) % l25); have hsz := feA_size ((m + n) % l25)))
  all_goals
    go_wp2_with fail
    exact bodyPost_ret (results_row Tryz.results27 rowFe (feA_size _) (hr.row _) rfl) rfl ⟨rfl, below_rowSet hB (by omega) _⟩
end Go.Proofs.YtgefhfcmiefocaaGreatDoor.G

/- The contract of the reference's Mul. -/
namespace Go.Proofs.YtgefhfcmiefocaaGreatDoor.G
open Go.Proofs.YtgefhfcmiefocaaGreatDoor.F
open Go.RowKit

set_option maxRecDepth 100000 in
set_option maxHeartbeats 1600000 in
theorem refMul_any (m n : Nat) (W : World) (hm : m < K256) (hn : n < K256) :
    Calls Tryz.prog 28 #[fe m, fe n] W fun e W' => e = .returned (fe ((m * n) % l25)) ∧ Below W.heap.size W W' := by
  have HP := Lib.hid (digits_times m n hm hn)
  have HM := Lib.hid (digits_any m)
  have HN := Lib.hid (digits_any n)
  rw [fe, fe]
  obtain ⟨a0, a1, a2, a3, ha⟩ := fe_four m
  obtain ⟨b0, b1, b2, b3, hb⟩ := fe_four n
  rw [fe, ha] at HM
  rw [fe, hb] at HN
  rw [ha, hb]
  clear ha hb
  go_enter Tryz.func28, Tryz.ntmps28
  have hx := ((Lies.new W 31 #[w64 a0, w64 a1, w64 a2, w64 a3]).alloc (.cells #[w64 b0, w64 b1, w64 b2, w64 b3] 31)).alloc (.cells fe0A 31)
  have hy : Lies ((W.alloc (.cells #[w64 a0, w64 a1, w64 a2, w64 a3] 31)).alloc (.cells #[w64 b0, w64 b1, w64 b2, w64 b3] 31)) (W.heap.size + 1) 31 #[w64 b0, w64 b1, w64 b2, w64 b3] := heap_alloc2_new W _ _
  replace hy := hy.alloc (.cells fe0A 31)
  have hr := lies3 W (.cells #[w64 a0, w64 a1, w64 a2, w64 a3] 31) (.cells #[w64 b0, w64 b1, w64 b2, w64 b3] 31) 31 fe0A
  have hB := (((Below.refl W.heap.size W).alloc (Nat.le_refl _) (.cells #[w64 a0, w64 a1, w64 a2, w64 a3] 31)).alloc (by simp) (.cells #[w64 b0, w64 b1, w64 b2, w64 b3] 31)).alloc (by simp; omega) (.cells fe0A 31)
  go_upto_region 1 with fail
  generalize World.alloc (World.alloc (World.alloc W _) _) _ = w0 at *
  obtain ⟨x0, x1, x2, x3⟩ := hx.four
  obtain ⟨y0, y1, y2, y3⟩ := hy.four
  replace hx := hx.drew
  replace hy := hy.drew
  replace hr := hr.drew
  replace hB := hB.drew
  go_region_with (first
    | (go_at_call 47; first
      | ((with_reducible refine (HM.out _).mono ?_); rintro e w1 ⟨gx, cx, rfl, hcx, hdx, hb⟩; replace hy := hy.on hb; replace hr := hr.on hb; replace hB := below_on hB hb; clear hb x0 x1 x2 x3 y0 y1 y2 y3; obtain ⟨y0, y1, y2, y3⟩ := hy.four)
      | ((with_reducible refine (HN.out _).mono ?_); rintro e w2 ⟨gy, cy, rfl, hcy, hdy, hb⟩; replace hr := hr.on hb; replace hB := below_on hB hb; replace hdx := hdx.on hb; clear hb))
    | (go_at_call 59; refine (HP.out gx cx gy cy _ hdx hdy).mono ?_; rintro e w3 ⟨r, gr, cr, rfl, r1, r2, r3, r4, r5, hb⟩; replace hr := hr.on hb; replace hB := below_on hB hb; clear hb)
    | (go_at_call 57; refine (val_fold r (m * n) _ gr cr r2 r1 r3 r4 r5).mono ?_; rintro e w4 ⟨rfl, hb⟩; replace hr := hr.on hb; replace hB := below_on hB hb; clear hb; have hst := hr.storeFe ((m * n) % l25); have hsz := feA_size ((m * n) % l25)))
  all_goals
    go_wp2_with fail
    exact bodyPost_ret (results_row Tryz.results28 rowFe (feA_size _) (hr.row _) rfl) rfl ⟨rfl, below_rowSet hB (by omega) _⟩
end Go.Proofs.YtgefhfcmiefocaaGreatDoor.G

/- The contracts of the reference's Sign and Verify. -/
namespace Go.Proofs.YtgefhfcmiefocaaGreatDoor.E
open Go.RowKit Go.Sort Go.Proofs.YtgefhfcmiefocaaGreatDoor.F Go.Proofs.YtgefhfcmiefocaaGreatDoor.C
set_option maxRecDepth 100000
theorem signS_seed (a b : List UInt8) : (signR a b + signK a b * seedN a % l25) % l25 = signS a b := by
  unfold signS
  rw [Nat.mul_mod (signK a b) (seedN a % l25), Nat.mod_mod, ← Nat.mul_mod]
theorem keyT_seed (a : List UInt8) : textN (Bp.smul (seedN a)) = keyT a := by
  unfold keyT keyP
  rw [smul_left]
attribute [local irreducible] feA afA ptA

set_option maxHeartbeats 3200000 in
theorem rsign_any (s m : ByteArray) (hs : s.size ≤ 1000) (hm : m.size ≤ 300) (W : World) :
    Calls Tryz.prog 11 #[.string s, .string m] W fun e w' => e = .returned (.string (seedT s m)) ∧ Below W.heap.size W w' := by
  have HN := Lib.hid (fun w => rnumber_any s hs w)
  have hnK := seedN_K s.data.toList
  have HP := Lib.hid (fun w => rprefix_any s hs w)
  have hPs : (⟨(prefixL s.data.toList).toArray⟩ : ByteArray).size = 32 := by unfold prefixL; simp [ByteArray.size, T.sumT_length]
  have HW := Lib.hid (fun w => rwide_any (⟨(prefixL s.data.toList).toArray⟩ ++ m) (by rw [ByteArray.size_append]; omega) w)
  rw [show leftN ((⟨(prefixL s.data.toList).toArray⟩ : ByteArray) ++ m).data.toList = signR s.data.toList m.data.toList by unfold signR; rw [T.list_append]] at HW
  have hrK : signR s.data.toList m.data.toList < K256 := G.modL_K _
  have HT1 := Lib.hid (fun w => rtimes_any (signR s.data.toList m.data.toList) hrK w)
  rw [show textN (Bp.smul (signR s.data.toList m.data.toList)) = signT s.data.toList m.data.toList from rfl] at HT1
  have HT2 := Lib.hid (fun w => rtimes_any (seedN s.data.toList) hnK w)
  rw [keyT_seed] at HT2
  have hRs : (signT s.data.toList m.data.toList).size = 32 := text_size _
  have hKs : (keyT s.data.toList).size = 32 := text_size _
  have HW2 := Lib.hid (fun w => rwide_any ((signT s.data.toList m.data.toList ++ keyT s.data.toList) ++ m) (by rw [ByteArray.size_append, ByteArray.size_append]; omega) w)
  rw [show leftN ((signT s.data.toList m.data.toList ++ keyT s.data.toList) ++ m).data.toList = signK s.data.toList m.data.toList by unfold signK; rw [T.list_append, T.list_append, List.append_assoc]] at HW2
  have hkK : signK s.data.toList m.data.toList < K256 := G.modL_K _
  have HM := Lib.hid (fun w => G.refMul_any (signK s.data.toList m.data.toList) (seedN s.data.toList) w hkK hnK)
  have hqK : signK s.data.toList m.data.toList * seedN s.data.toList % G.l25 < K256 := G.modL_K _
  have HA := Lib.hid (fun w => G.refAdd_any (signR s.data.toList m.data.toList) (signK s.data.toList m.data.toList * seedN s.data.toList % G.l25) w hrK hqK)
  rw [show (signR s.data.toList m.data.toList + signK s.data.toList m.data.toList * seedN s.data.toList % G.l25) % G.l25 = signS s.data.toList m.data.toList from signS_seed _ _] at HA
  have hSK : signS s.data.toList m.data.toList < K256 := Nat.lt_trans (Nat.mod_lt _ (by decide)) (by decide : l25 < K256)
  have HBy := Lib.hid (fun w => G.refBytes_any (signS s.data.toList m.data.toList) w hSK)
  rw [show signS s.data.toList m.data.toList % G.l25 = signS s.data.toList m.data.toList from Nat.mod_mod _ _] at HBy
  have hBs : (⟨(leL (signS s.data.toList m.data.toList) 32).toArray⟩ : ByteArray).size = 32 := by simp [ByteArray.size, leL_length]
  rw [show seedT s m = signT s.data.toList m.data.toList ++ ⟨(leL (signS s.data.toList m.data.toList) 32).toArray⟩ from rfl]
  generalize (⟨(leL (signS s.data.toList m.data.toList) 32).toArray⟩ : ByteArray) = SB at *
  generalize signS s.data.toList m.data.toList = S at *
  generalize signK s.data.toList m.data.toList * seedN s.data.toList % G.l25 = q at *
  generalize signK s.data.toList m.data.toList = k at *
  generalize signT s.data.toList m.data.toList = R at *
  generalize keyT s.data.toList = K at *
  generalize signR s.data.toList m.data.toList = r at *
  generalize (⟨(prefixL s.data.toList).toArray⟩ : ByteArray) = P at *
  generalize seedN s.data.toList = n at *
  clear hs hnK hrK hkK hqK hSK
  go_enter Tryz.func11, Tryz.ntmps11
  have hB := Below.refl W.heap.size W
  go_upto_region 2 with (first
    | (go_at_call 10; (with_reducible refine (HN.out _).mono ?_); rintro e w1 ⟨rfl, hb⟩; replace hB := below_on hB hb; clear hb)
    | ((with_reducible refine wpL_store w1.heap.size 31 _ (feA n) 4 G.rowFe ?_ (feA_size _) (feA_one _) (Lies.new w1 _ _) ?_ ?_ ?_); rfl; rfl; rfl))
  have hn := newly_lies w1 31 fe0A (feA n)
  replace hB := below_on hB (newly w1 (.cells fe0A 31) (feA n))
  generalize World.setRow _ _ _ = w2 at *
  generalize w1.heap.size = gn at *
  go_upto_region 3 with (first
    | (go_at_call 25; (with_reducible refine (HP.out _).mono ?_); rintro e w3 ⟨rfl, hb⟩; replace hn := hn.on hb; replace hB := below_on hB hb; clear hb)
    | (go_at_call 24; (with_reducible refine (HW.out _).mono ?_); rintro e w4 ⟨rfl, hb⟩; replace hn := hn.on hb; replace hB := below_on hB hb; clear hb)
    | ((with_reducible refine wpL_store w4.heap.size 31 _ (feA r) 4 G.rowFe ?_ (feA_size _) (feA_one _) (Lies.new w4 _ _) ?_ ?_ ?_); rfl; rfl; rfl))
  have hr := newly_lies w4 31 fe0A (feA r)
  have hnw := newly w4 (.cells fe0A 31) (feA r)
  replace hn := hn.on hnw
  replace hB := below_on hB hnw
  clear hnw
  generalize World.setRow _ _ _ = w5 at *
  generalize w4.heap.size = gr at *
  go_upto_region 4 with (first
    | ((with_reducible refine wpL_load gr 31 (feA r) 4 G.rowFe (feA_size _) hr ?_ ?_); rfl)
    | (go_at_call 9; (with_reducible refine (HT1.out _).mono ?_); rintro e w6 ⟨rfl, hb⟩; replace hn := hn.on hb; replace hr := hr.on hb; replace hB := below_on hB hb; clear hb))
  go_upto_region 5 with (first
    | ((with_reducible refine wpL_load gn 31 (feA n) 4 G.rowFe (feA_size _) hn ?_ ?_); rfl)
    | (go_at_call 9; (with_reducible refine (HT2.out _).mono ?_); rintro e w7 ⟨rfl, hb⟩; replace hn := hn.on hb; replace hr := hr.on hb; replace hB := below_on hB hb; clear hb)
    | (go_at_call 24; (with_reducible refine (HW2.out _).mono ?_); rintro e w8 ⟨rfl, hb⟩; replace hn := hn.on hb; replace hr := hr.on hb; replace hB := below_on hB hb; clear hb)
    | ((with_reducible refine wpL_store w8.heap.size 31 _ (feA k) 4 G.rowFe ?_ (feA_size _) (feA_one _) (Lies.new w8 _ _) ?_ ?_ ?_); rfl; rfl; rfl))
  have hk := newly_lies w8 31 fe0A (feA k)
  have hnw := newly w8 (.cells fe0A 31) (feA k)
  replace hn := hn.on hnw
  replace hr := hr.on hnw
  replace hB := below_on hB hnw
  clear hnw
  generalize World.setRow _ _ _ = w9 at *
  generalize w8.heap.size = gk at *
  refine wp_region_all (by kernel_rfl) (by kernel_rfl) ?_
  refine wpQB_run (.string R) rfl (fun _ _ => rfl) ?_
  simp only [Act.put, List.setIfInBounds_toArray, List.set_cons_succ, List.set_cons_zero]
  refine wpQB_sc gr r hr rfl ?_
  simp only [Act.put, List.setIfInBounds_toArray, List.set_cons_succ, List.set_cons_zero]
  refine wpQB_sc gk k hk rfl ?_
  simp only [Act.put, List.setIfInBounds_toArray, List.set_cons_succ, List.set_cons_zero]
  refine wpQB_sc gn n hn rfl ?_
  simp only [Act.put, List.setIfInBounds_toArray, List.set_cons_succ, List.set_cons_zero]
  refine wpQB_call 28 #[fe k, fe n] (fe q) rfl rfl (fun _ => by kernel_rfl) (fun w _ => HM.out w) ?_
  simp only [Act.put, List.setIfInBounds_toArray, List.set_cons_succ, List.set_cons_zero]
  refine wpQB_call 27 #[fe r, fe q] (fe S) rfl rfl (fun _ => by kernel_rfl) (fun w _ => HA.out w) ?_
  simp only [Act.put, List.setIfInBounds_toArray, List.set_cons_succ, List.set_cons_zero]
  refine wpQB_call 26 #[fe S] (.string SB) rfl rfl (fun _ => by kernel_rfl) (fun w _ => HBy.out w) ?_
  simp only [Act.put, List.setIfInBounds_toArray, List.set_cons_succ, List.set_cons_zero]
  refine wpQB_run (.string (R ++ SB)) rfl (fun w _ => run_cat R SB (by omega) rfl rfl w) ?_
  simp only [Act.put, List.setIfInBounds_toArray, List.set_cons_succ, List.set_cons_zero]
  refine wpQB_run (.string (R ++ SB)) rfl (fun _ _ => rfl) ?_
  simp only [Act.put, List.setIfInBounds_toArray, List.set_cons_succ, List.set_cons_zero]
  refine wpQB_nil ?_
  intro w10 hb
  replace hB := below_on hB hb
  clear hb
  go_wp2_with fail
  go_ret
  exact ⟨rfl, hB⟩
end Go.Proofs.YtgefhfcmiefocaaGreatDoor.E

