/- Texts that stand on one another, put together: FRef, FLE, FRefBytes, FRefParse, FOk, FPow, FNum, CSem, FLimbs, FMulMath. -/
import Derived.Test.YtgefhfcmiefocaaGreatDoorLot3
import Derived.BigQuiet
import Derived.Deep.CutRange
import Derived.Deep.QuietTactic
import Derived.Deep.RegionWith
import Derived.Deep.WholeRow
import Derived.Laws.StructEq
import Derived.Lib.QuietBelow
/- The contracts of the reference's Least, Add, Sub and Mul. -/
namespace Go.Proofs.YtgefhfcmiefocaaGreatDoor.F
set_option maxRecDepth 100000
open Go.RowKit

theorem lies3 (w : World) (a b : Obj) (t : TypeId) (cs : Array Value) : Lies (((w.alloc a).alloc b).alloc (.cells cs t)) (w.heap.size + 2) t cs := by
  have h := Lies.new ((w.alloc a).alloc b) t cs
  have e : ((w.alloc a).alloc b).heap.size = w.heap.size + 2 := by simp
  rwa [e] at h
abbrev fe0A : Array Value := #[.int .u64 0, .int .u64 0, .int .u64 0, .int .u64 0]
theorem digits_fold (n : Nat) (h : n < K256) (W : World) (g cap : Nat) (hc : 16 ≤ cap) (hd : Dig W g 0 (dgL n 16)) :
    Calls Tryz.prog 85 #[.slice (some ⟨g, 0, none⟩) 16 cap] W fun e W' => e = .returned (fe (n % p25)) ∧ Below W.heap.size W W' := by
  have hl := dgL_length n 16
  have hf := fold_any (dgL n 16) g 0 cap W hd (by omega) (by omega) (dgL_dg n 16)
  rw [hl, dgL_full h] at hf
  exact hf

set_option maxRecDepth 100000 in
set_option maxHeartbeats 800000 in
theorem refLeast_any (n : Nat) (W : World) (hn : n < K256) :
    Calls Tryz.prog 81 #[fe n] W fun e W' => e = .returned (fe (n % p25)) ∧ Below W.heap.size W W' := by
  have HF := Lib.hid (digits_fold n hn)
  go_enter Tryz.func81, Tryz.ntmps81
  have hx := (Lies.new W 42 (feA n)).alloc (.cells fe0A 42)
  have hr : Lies ((W.alloc (.cells (feA n) 42)).alloc (.cells fe0A 42)) (W.heap.size + 1) 42 fe0A := heap_alloc2_new W _ _
  have hB := ((Below.refl W.heap.size W).alloc (Nat.le_refl _) (.cells (feA n) 42)).alloc (by simp) (.cells fe0A 42)
  go_upto_region 1 with fail
  generalize World.alloc (World.alloc W _) _ = w0 at *
  go_wp2_with (first
    | ((with_reducible refine wpL_load W.heap.size 42 (feA n) 4 rowFe rfl hx ?_ ?_); rfl)
    | (go_at_call 47; refine (digits_any n _).mono ?_; rintro e w1 ⟨g, cap, rfl, hc, hd, hb⟩; replace hr := hr.on hb; replace hB := below_on hB hb; clear hb)
    | (go_at_call 85; refine (HF.out _ g cap hc hd).mono ?_; rintro e w2 ⟨rfl, hb⟩; replace hr := hr.on hb; replace hB := below_on hB hb; clear hb)
    | ((with_reducible refine wpL_store (W.heap.size + 1) 42 _ (feA (n % p25)) 4 rowFe rfl (feA_size _) (feA_one _) hr ?_ ?_ ?_); rfl; rfl))
  exact bodyPost_ret (results_row Tryz.results81 rowFe (feA_size _) (hr.row _) rfl) rfl ⟨rfl, below_rowSet hB (Nat.le_succ _) _⟩

/-- digits of a sum or a product, folded -/
theorem val_fold (r : List Nat) (v : Nat) (W : World) (g cap : Nat) (hl : r.length ≤ 100) (hc : r.length ≤ cap) (hd : Dig W g 0 r) (dr : Dg r) (hv : val r = v) :
    Calls Tryz.prog 85 #[.slice (some ⟨g, 0, none⟩) r.length cap] W fun e W' => e = .returned (fe (v % p25)) ∧ Below W.heap.size W W' := by
  subst hv
  exact fold_any r g 0 cap W hd hl hc dr
theorem digits_plus (m n : Nat) (hm : m < K256) (hn : n < K256) (gx cx gy cy : Nat) (W : World) (hx : Dig W gx 0 (dgL m 16)) (hy : Dig W gy 0 (dgL n 16)) :
    Calls Tryz.prog 58 #[.slice (some ⟨gx, 0, none⟩) 16 cx, .slice (some ⟨gy, 0, none⟩) 16 cy] W fun e W' => ∃ r g' cap', e = .returned (.slice (some ⟨g', 0, none⟩) r.length cap') ∧ r.length ≤ cap' ∧ r.length ≤ 100 ∧ Dig W' g' 0 r ∧ Dg r ∧ val r = m + n ∧ Below W.heap.size W W' := by
  have hl := dgL_length m 16
  have hl2 := dgL_length n 16
  have h := plus_any (dgL m 16) (dgL n 16) gx 0 cx gy 0 cy W hx hy (by omega) (by omega) (dgL_dg m 16) (dgL_dg n 16)
  rw [hl, hl2, dgL_full hm, dgL_full hn] at h
  refine h.mono ?_
  rintro e W' ⟨r, g', cap', rfl, h1, h2, h3, h4, h5, h6, h7⟩
  exact ⟨r, g', cap', rfl, h1, by omega, h3, h4, h6, h7⟩
theorem digits_times (m n : Nat) (hm : m < K256) (hn : n < K256) (gx cx gy cy : Nat) (W : World) (hx : Dig W gx 0 (dgL m 16)) (hy : Dig W gy 0 (dgL n 16)) :
    Calls Tryz.prog 59 #[.slice (some ⟨gx, 0, none⟩) 16 cx, .slice (some ⟨gy, 0, none⟩) 16 cy] W fun e W' => ∃ r g' cap', e = .returned (.slice (some ⟨g', 0, none⟩) r.length cap') ∧ r.length ≤ cap' ∧ r.length ≤ 100 ∧ Dig W' g' 0 r ∧ Dg r ∧ val r = m * n ∧ Below W.heap.size W W' := by
  have hl := dgL_length m 16
  have hl2 := dgL_length n 16
  have h := times_any (dgL m 16) (dgL n 16) gx 0 cx gy 0 cy W hx hy (by omega) (by omega) (dgL_dg m 16) (dgL_dg n 16)
  rw [hl, hl2, dgL_full hm, dgL_full hn] at h
  refine h.mono ?_
  rintro e W' ⟨r, g', cap', rfl, h1, h2, h3, h4, h5, h6, h7⟩
  exact ⟨r, g', cap', rfl, h1, by omega, h3, h4, h6, h7⟩

theorem Lies.four {w : World} {g t : Nat} {x0 x1 x2 x3 : Value} (h : Lies w g t #[x0, x1, x2, x3]) : w.cell? ⟨g, 0, none⟩ = some x0 ∧ w.cell? ⟨g, 1, none⟩ = some x1 ∧ w.cell? ⟨g, 2, none⟩ = some x2 ∧ w.cell? ⟨g, 3, none⟩ = some x3 := ⟨h.cell 0, h.cell 1, h.cell 2, h.cell 3⟩
theorem fe_four (n : Nat) : ∃ a b c d : Nat, feA n = #[w64 a, w64 b, w64 c, w64 d] := ⟨_, _, _, _, rfl⟩

end Go.Proofs.YtgefhfcmiefocaaGreatDoor.F

/- Bytes as a number, the lowest first, and back. Nothing of the program is named here. -/
namespace Go.Proofs.YtgefhfcmiefocaaGreatDoor.F

/-- the first k bytes of a number, the lowest first -/
def leL (n : Nat) : Nat → List UInt8
  | 0 => []
  | k + 1 => leL n k ++ [(n / 256 ^ k % 256).toUInt8]
theorem leL_length (n k : Nat) : (leL n k).length = k := by
  induction k with
  | zero => rfl
  | succ k ih => rw [leL, List.length_append, ih]; rfl
theorem dig_low (n k : Nat) : digN n k % 256 = n / 256 ^ (2 * k) % 256 := by
  unfold digN
  rw [show (65536 : Nat) ^ k = 256 ^ (2 * k) by rw [Nat.pow_mul], show (65536 : Nat) = 256 * 256 from rfl, Nat.mod_mul_right_mod]
theorem dig_high (n k : Nat) : digN n k / 256 = n / 256 ^ (2 * k + 1) % 256 := by
  unfold digN
  rw [show (65536 : Nat) ^ k = 256 ^ (2 * k) by rw [Nat.pow_mul], show (65536 : Nat) = 256 * 256 from rfl, Nat.mod_mul_right_div_self, Nat.div_div_eq_div_mul, Nat.pow_succ]
theorem leL_two (n k : Nat) : leL n (2 * (k + 1)) = leL n (2 * k) ++ [(digN n k % 256).toUInt8, (digN n k / 256).toUInt8] := by
  rw [show 2 * (k + 1) = (2 * k + 1) + 1 by omega, leL, leL, dig_low, dig_high, List.append_assoc]
  rfl
theorem byte_two (d : Nat) (h : d < 65536) : Lib.byteCells [(d % 256).toUInt8, (d / 256).toUInt8] = [.int .u8 ((d : Int) % 256), .int .u8 ((d : Int) / 256)] := by
  have h1 : ((d % 256).toUInt8).toNat = d % 256 := by rw [Nat.toUInt8, UInt8.toNat_ofNat']; omega
  have h2 : ((d / 256).toUInt8).toNat = d / 256 := by rw [Nat.toUInt8, UInt8.toNat_ofNat']; omega
  simp only [Lib.byteCells, List.map_cons, List.map_nil, h1, h2]
  rfl

/-- the number of bytes, the lowest first -/
def numLE : List UInt8 → Nat
  | [] => 0
  | b :: r => b.toNat + 256 * numLE r
theorem numLE_append (a b : List UInt8) : numLE (a ++ b) = numLE a + 256 ^ a.length * numLE b := by
  induction a with
  | nil => simp [numLE]
  | cons x a ih =>
    rw [List.cons_append, numLE, ih, numLE, List.length_cons, Nat.pow_succ, Nat.mul_add, Nat.mul_comm (256 ^ a.length) 256, Nat.mul_assoc]
    omega
theorem numLE_lt (l : List UInt8) : numLE l < 256 ^ l.length := by
  induction l with
  | nil => simp [numLE]
  | cons x l ih =>
    have h1 := u8_lt x
    rw [numLE, List.length_cons, Nat.pow_succ]
    omega
theorem numLE_leL (n k : Nat) : numLE (leL n k) = n % 256 ^ k := by
  induction k with
  | zero => simp [leL, numLE, Nat.mod_one]
  | succ k ih =>
    rw [leL, numLE_append, ih, leL_length, Nat.pow_succ, Nat.mod_mul]
    simp only [numLE, Nat.mul_zero, Nat.add_zero]
    rw [toNat_mod]
theorem leL_numLE (l : List UInt8) : leL (numLE l) l.length = l := by
  suffices h : ∀ k, k ≤ l.length → leL (numLE l) k = l.take k by
    have := h l.length (Nat.le_refl _)
    rwa [List.take_of_length_le (Nat.le_refl _)] at this
  intro k hk
  induction k with
  | zero => rfl
  | succ k ih =>
    rw [leL, ih (by omega), List.take_succ_eq_append_getElem (by omega)]
    congr 2
    have e := numLE_append (l.take k) (l.drop k)
    rw [List.take_append_drop, List.length_take, Nat.min_eq_left (by omega), List.drop_eq_getElem_cons (by omega), numLE] at e
    have h1 := numLE_lt (l.take k)
    rw [List.length_take, Nat.min_eq_left (by omega)] at h1
    have h2 := u8_lt l[k]
    have h3 : numLE l / 256 ^ k = (l[k]).toNat + 256 * numLE (l.drop (k + 1)) := by
      rw [e, Nat.add_mul_div_left _ _ (Nat.pow_pos (by decide)), Nat.div_eq_of_lt h1, Nat.zero_add]
    rw [h3, show ((l[k]).toNat + 256 * numLE (l.drop (k + 1))) % 256 = (l[k]).toNat by omega]
    exact UInt8.ofNat_toNat
/-- pairs of bytes as digits -/
def rdL (l : List UInt8) : Nat → List Nat
  | 0 => []
  | k + 1 => rdL l k ++ [(l.getD (2 * k) 0).toNat + 256 * (l.getD (2 * k + 1) 0).toNat]
theorem rdL_length (l : List UInt8) (k : Nat) : (rdL l k).length = k := by
  induction k with
  | zero => rfl
  | succ k ih => rw [rdL, List.length_append, ih]; rfl
theorem rdL_dg (l : List UInt8) (k : Nat) : Dg (rdL l k) := by
  induction k with
  | zero => intro d hd; cases hd
  | succ k ih =>
    intro d hd
    rw [rdL, List.mem_append, List.mem_singleton] at hd
    rcases hd with hd | rfl
    · exact ih d hd
    · have h1 := u8_lt (l.getD (2 * k) 0)
      have h2 := u8_lt (l.getD (2 * k + 1) 0)
      omega
theorem take_getD (l : List UInt8) (k : Nat) (h : k < l.length) : l.take (k + 1) = l.take k ++ [l.getD k 0] := by
  rw [List.take_succ_eq_append_getElem h, List.getD_eq_getElem?_getD, List.getElem?_eq_getElem h]
  rfl
theorem rdL_val (l : List UInt8) (k : Nat) (h : 2 * k ≤ l.length) : val (rdL l k) = numLE (l.take (2 * k)) := by
  induction k with
  | zero => rfl
  | succ k ih =>
    rw [rdL, val_snoc, rdL_length, ih (by omega), show 2 * (k + 1) = 2 * k + 1 + 1 by omega, take_getD l (2 * k + 1) (by omega), take_getD l (2 * k) (by omega), numLE_append, numLE_append, List.length_append, List.length_take, Nat.min_eq_left (by omega)]
    simp only [numLE, Nat.mul_zero, Nat.add_zero]
    rw [show (65536 : Nat) ^ k = 256 ^ (2 * k) by rw [Nat.pow_mul], show 2 * k + [l.getD (2 * k) 0].length = 2 * k + 1 from rfl, Nat.pow_succ, Nat.mul_add, Nat.mul_assoc]
    omega
theorem rdL_full (l : List UInt8) (h : l.length = 32) : val (rdL l 16) = numLE l := by
  rw [rdL_val l 16 (by omega), List.take_of_length_le (by omega)]

/-- .. of any number of bytes -/
theorem rdL_val_any (l : List UInt8) (k : Nat) : val (rdL l k) = numLE (l.take (2 * k)) := by
  induction k with
  | zero => rfl
  | succ k ih =>
    by_cases h : 2 * (k + 1) ≤ l.length
    · exact rdL_val l (k + 1) h
    · rw [rdL, val_snoc, rdL_length, ih]
      have h1 : l.getD (2 * k + 1) 0 = 0 := by rw [List.getD_eq_getElem?_getD, List.getElem?_eq_none (by omega)]; rfl
      rw [h1]
      by_cases h2 : 2 * k < l.length
      · rw [List.take_of_length_le (show l.length ≤ 2 * (k + 1) by omega)]
        have h3 : l = l.take (2 * k) ++ [l.getD (2 * k) 0] := by
          rw [← take_getD l (2 * k) h2, List.take_of_length_le (by omega)]
        have h4 := numLE_append (l.take (2 * k)) [l.getD (2 * k) 0]
        rw [← h3, List.length_take, Nat.min_eq_left (by omega)] at h4
        rw [h4, show (65536 : Nat) ^ k = 256 ^ (2 * k) by rw [Nat.pow_mul]]
        rfl
      · have h3 : l.getD (2 * k) 0 = 0 := by rw [List.getD_eq_getElem?_getD, List.getElem?_eq_none (by omega)]; rfl
        rw [h3, List.take_of_length_le (by omega), List.take_of_length_le (by omega)]
        rfl
theorem rdL_all (l : List UInt8) (k : Nat) (h : l.length ≤ 2 * k) : val (rdL l k) = numLE l := by
  rw [rdL_val_any, List.take_of_length_le h]
end Go.Proofs.YtgefhfcmiefocaaGreatDoor.F

/- The contracts of the reference's Raw and Bytes: a number's bytes, the lowest first. -/
namespace Go.Proofs.YtgefhfcmiefocaaGreatDoor.F
set_option maxRecDepth 100000
open Go.RowKit

theorem own_news {w : World} {B e g n cap : Nat} {xs : List Value} (h : w.ownsRow B e 1 (.slice (some ⟨g, 0, none⟩) n cap) n xs) : ∀ j u, xs[j]? = some u → w.cell? ((⟨g, 0, none⟩ : Addr).add j) = some u := fun j u hu => by
  have hj : j < xs.length := (List.getElem?_eq_some_iff.1 hu).1
  have hn : xs.length = n := by simpa using h.1
  rw [Addr.add_mid, Nat.zero_add]
  exact (h.cellAt j (by omega)).trans hu
/-- a row goes behind a row that the call owns -/
theorem wpL_appendRow {P : Program} {ops : Array Oper} {rest : List Oper} {a : Act} {w : World} {Q : Exit → Act → World → Prop} {t' : TypeId} {pos : String} {after : Array Edge} {d : Option Tmp} {x y : Tmp} {ty : TypeId}
    (B : Nat) (e : TypeId) (i : TypeInfo) (z : Value) (bytes : Nat) (ht : P.underlying ty = some (.slice e)) (hi : P.info? e = some i) (hz : i.zero = some z) (hsize : i.size = 1) (hby : i.bytes = bytes) (hzs : z.cells.size = 1)
    (v : Value) (n : Nat) (xs : List Value) (hown : w.ownsRow B e 1 v n xs) (B' b m c : Nat) (us : List Value) (hrow : w.ownsRow B' e 1 (.slice (some ⟨b, 0, none⟩) m c) m us) (hu : ∀ u ∈ us, u.oneCell' = true) (hm : 0 < m) (h63 : n + m ≤ maxLen) (hbytes : (n + m) * bytes ≤ 140737488355328) (hbase : B ≤ w.heap.size)
    (hs : a.eval (.tmp x) = v) (hx : a.eval (.tmp y) = .slice (some ⟨b, 0, none⟩) m c)
    (h : ∀ g cap w', w'.ownsRow B e 1 (.slice (some ⟨g, 0, none⟩) (n + m) cap) (n + m) (xs ++ us) → w.grownBy w' v.ownBlock → wpList P ops Q rest (a.put d (.slice (some ⟨g, 0, none⟩) (n + m) cap)) w') :
    wpList P ops Q (⟨d, .call { callee := .builtin .append, args := #[.tmp x, .tmp y], argTypes := #[ty, ty] }, t', pos, after, none⟩ :: rest) a w :=
  wpList_append_lies (o := ⟨d, .call { callee := .builtin .append, args := #[.tmp x, .tmp y], argTypes := #[ty, ty] }, t', pos, after, none⟩) w rfl _ _ ty rfl B e i z 1 bytes ht hi hz hsize hby hzs (by decide) v n xs hs hown ⟨b, 0, none⟩ m c us hx (by simpa using hrow.1) (own_news hrow) hu hm h63 hbytes hbase w.heap.size rfl (fun g cap w' h2 h3 _ _ => h g cap w' h2 h3)
theorem byteCells_one (l : List UInt8) : ∀ u ∈ Lib.byteCells l, u.oneCell' = true := by
  intro u hu
  unfold Lib.byteCells at hu
  rw [List.mem_map] at hu
  obtain ⟨x, _, rfl⟩ := hu
  rfl
theorem own_lies {w : World} {g n : Nat} {e : TypeId} {cs : Array Value} (h : Lies w g e cs) (hn : cs.size = n) (hm : n ≤ maxLen) : w.ownsRow g e 1 (.slice (some ⟨g, 0, none⟩) n n) n cs.toList :=
  ⟨by simp [hn], .inr ⟨g, n, cs, rfl, Nat.le_refl _, h, Nat.le_refl _, hm, by simp [hn], by rw [List.take_of_length_le (by simp [hn])]⟩⟩

set_option maxRecDepth 100000 in
set_option maxHeartbeats 800000 in
theorem raw_any (n : Nat) (W : World) :
    Calls Tryz.prog 55 #[fe n] W fun e W' => e = .returned (.string ⟨(leL n 32).toArray⟩) ∧ Below W.heap.size W W' := by
  obtain ⟨i0, hi, hz0, hz1, hz2⟩ := info_parts info5
  have HD := Lib.hid (digits_own n)
  rw [fe]
  go_enter Tryz.func55, Tryz.ntmps55
  have ho0 : ((W.alloc (.cells (feA n) 30)).alloc (.cells #[] 5)).ownsRow W.heap.size 5 1 (.slice (some ⟨W.heap.size + 1, 0, none⟩) 0 0) 0 [] := own_empty (heap_alloc2_new W _ _) (by simp)
  have hx : Lies ((W.alloc (.cells (feA n) 30)).alloc (.cells #[] 5)) W.heap.size 30 (feA n) := heap_alloc2_old W _ _
  have hB := ((Below.refl W.heap.size W).alloc (Nat.le_refl _) (.cells (feA n) 30)).alloc (by simp) (.cells #[] 5)
  go_upto_region 2 with fail
  generalize World.alloc (World.alloc W _) _ = w0 at *
  have hsz0 := hB.size
  go_wp2_with (first
    | ((with_reducible refine wpL_load W.heap.size 30 (feA n) 4 row4 rfl hx ?_ ?_); rfl)
    | (go_at_call 47; refine (HD.out _).mono ?_; rintro e w1 ⟨gd, cd, rfl, hd, hb⟩; have ho := own_on ho0 hb; replace hB := below_on hB hb; clear hb ho0 hx))
  go_loopw [3, 10] (fun ox kx wr => ∃ k g cap : Nat, k ≤ 16 ∧ kx = .int .i64 k ∧ ox = .slice (some ⟨g, 0, none⟩) (2 * k) cap ∧ wr.ownsRow W.heap.size 5 1 (.slice (some ⟨g, 0, none⟩) (2 * k) cap) (2 * k) (Lib.byteCells (leL n (2 * k))) ∧ wr.ownsRow W.heap.size 3 1 (.slice (some ⟨gd, 0, none⟩) 16 cd) 16 ((dgL n 16).map i64) ∧ Below W.heap.size W wr) (fun _ kx _ => 16 - (intOf kx).toNat)
  case atStart => exact ⟨0, _, _, by omega, rfl, rfl, ho, own_less hd hsz0, hB⟩
  case round =>
    clear ho hd hB hsz0
    obtain ⟨k, g, cap, hk, rfl, rfl, ho, hd, hB⟩ := hrel
    have hsz := hB.size
    by_cases hlt : k < 16
    · have hX := own_dig hd k (by rw [dgL_length]; exact hlt)
      have hX2 := (dgL_dg n 16).at k
      rw [Nat.zero_add] at hX
      have HS := Lib.hid (leL_two n k)
      have hXe : (dgL n 16).getD k 0 = digN n k := dgL_at n 16 k hlt
      rw [hXe] at hX hX2
      have HBy := Lib.hid (byte_two (digN n k) hX2)
      generalize digN n k = X at hX hX2 HS HBy
      have e1 : IntKind.u8.wrap ((X : Int) % 256) = (X : Int) % 256 := by rw [IntKind.wrap_u8]; omega
      have e2 : IntKind.u8.wrap ((X : Int) / 256) = (X : Int) / 256 := by rw [IntKind.wrap_u8]; omega
      have h1c : ∀ u ∈ (#[Value.int .u8 ((X : Int) % 256), .int .u8 ((X : Int) / 256)] : Array Value).toList, u.oneCell' = true := by
        intro u hu
        simp at hu
        rcases hu with rfl | rfl <;> simp [Value.oneCell']
      have hda := hd.alloc (.cells #[.int .u8 ((X : Int) % 256), .int .u8 ((X : Int) / 256)] 5)
      have hoa := ho.alloc (.cells #[.int .u8 ((X : Int) % 256), .int .u8 ((X : Int) / 256)] 5)
      have ho5 := own_lies (n := 2) (Lies.new wr 5 #[.int .u8 ((X : Int) % 256), .int .u8 ((X : Int) / 256)]) rfl (by unfold maxLen; omega)
      go_wp2_with ((with_reducible refine wpL_appendRow W.heap.size 5 i0 (.int .u8 0) 1 Tryz.underlying50 hi hz0 hz1 hz2 rfl _ (2 * k) _ (ho.alloc _) wr.heap.size wr.heap.size 2 2 _ ho5 h1c (by omega) (by unfold maxLen; omega) (by omega) (by simp; omega) ?_ ?_ ?_); rfl; rfl; intro g6 cap6 w6 ho6 hgrow6)
      go_roundw
      case rel => exact ⟨k + 1, g6, cap6, by omega, by go_num, by rw [Nat.mul_add], by
        rw [Nat.mul_add, show 2 * k + 2 * 1 = 2 * (k + 1) by omega, HS.out, Lib.byteCells_append, HBy.out]
        exact ho6, own_grown hda hgrow6 (fun g hv e => own_apart hda hoa (by decide) g hv e), (hB.alloc hsz _).grown hgrow6 (by simp; omega) (fun j hj => (ho.lt j hj).1)⟩
      case measure => simp [intOf]; omega
    · obtain rfl : k = 16 := by omega
      have hcv := str_own ho
      go_wp2_with fail
      go_ret
      exact ⟨rfl, hB⟩

set_option maxRecDepth 100000 in
set_option maxHeartbeats 800000 in
theorem refBytes_any (n : Nat) (W : World) (hn : n < K256) :
    Calls Tryz.prog 45 #[fe n] W fun e W' => e = .returned (.string ⟨(leL (n % p25) 32).toArray⟩) ∧ Below W.heap.size W W' := by
  have HL := Lib.hid (fun w => refLeast_any n w hn)
  have HR := Lib.hid (raw_any (n % p25))
  rw [fe] at HL ⊢
  go_enter Tryz.func45, Tryz.ntmps45
  have hx := Lies.new W 42 (feA n)
  have hB := (Below.refl W.heap.size W).alloc (Nat.le_refl _) (.cells (feA n) 42)
  go_upto_region 1 with fail
  generalize World.alloc W _ = w0 at *
  go_wp2_with (first
    | ((with_reducible refine wpL_load W.heap.size 42 (feA n) 4 rowFe rfl hx ?_ ?_); rfl)
    | (go_at_call 81; refine (HL.out _).mono ?_; rintro e w1 ⟨rfl, hb⟩; replace hB := below_on hB hb; clear hb)
    | (go_at_call 55; refine (HR.out _).mono ?_; rintro e w2 ⟨rfl, hb⟩; replace hB := below_on hB hb; clear hb))
  go_ret
  exact ⟨rfl, hB⟩
end Go.Proofs.YtgefhfcmiefocaaGreatDoor.F

/- The contracts of the reference's Read and Parse: bytes as a number, the lowest first. -/
namespace Go.Proofs.YtgefhfcmiefocaaGreatDoor.F
set_option maxRecDepth 100000
open Go.RowKit

set_option maxRecDepth 100000 in
set_option maxHeartbeats 800000 in
theorem read_any (s : ByteArray) (hs : s.size = 32) (W : World) :
    Calls Tryz.prog 23 #[.string s] W fun e W' => ∃ g cap, e = .returned (.slice (some ⟨g, 0, none⟩) 16 cap) ∧ 16 ≤ cap ∧ Dig W' g 0 (rdL s.data.toList 16) ∧ Below W.heap.size W W' := by
  obtain ⟨i0, hi, hz0, hz1, hz2⟩ := info_parts info3
  go_enter Tryz.func23, Tryz.ntmps23
  go_wp2_with fail
  go_loopw [3, 4] (fun ox ix wr => ∃ k g cap : Nat, k ≤ 16 ∧ ix = .int .i64 ((2 * k : Nat) : Int) ∧ ox = .slice (some ⟨g, 0, none⟩) k cap ∧ wr.ownsRow W.heap.size 3 1 (.slice (some ⟨g, 0, none⟩) k cap) k ((rdL s.data.toList k).map i64) ∧ Below W.heap.size W wr) (fun _ ix _ => 32 - (intOf ix).toNat)
  case atStart => exact ⟨0, _, _, by omega, rfl, rfl, own_empty (Lies.new W _ _) (Nat.le_refl _), (Below.refl _ _).alloc (Nat.le_refl _) _⟩
  case round =>
    obtain ⟨k, g, cap, hk, rfl, rfl, ho, hB⟩ := hrel
    have hsz := hB.size
    by_cases hlt : k < 16
    · obtain ⟨i, hi2⟩ : ∃ i, 2 * k = i := ⟨_, rfl⟩
      have h1 : i < s.size := by omega
      have h2 : i + 1 < s.size := by omega
      have b1 := u8_lt s[i]
      have b2 := u8_lt s[i + 1]
      have HS : Hid (rdL s.data.toList (k + 1) = rdL s.data.toList k ++ [(s[i]).toNat + 256 * (s[i + 1]).toNat]) := Lib.hid (by
        rw [rdL, hi2, List.getD_eq_getElem?_getD, List.getD_eq_getElem?_getD, List.getElem?_eq_getElem (by simpa using h1), List.getElem?_eq_getElem (by simpa using h2)]
        rfl)
      rw [hi2]
      have hcast : Value.int .i64 (((s[i]).toNat : Int) + 256 * ((s[i + 1]).toNat : Int)) = i64 ((s[i]).toNat + 256 * (s[i + 1]).toNat) := val_int (by omega)
      go_wp2_with ((with_reducible refine wpL_append W.heap.size 3 i0 (.int .i64 0) 8 Tryz.underlying48 hi hz0 hz1 hz2 rfl _ k _ (ho.alloc _) _ _ (Lies.new _ _ _) rfl (by unfold maxLen; omega) (by omega) (by simp; omega) ?_ ?_ ?_); rfl; rfl; intro g6 cap6 w6 ho6 hgrow6)
      go_roundw
      case rel => exact ⟨k + 1, g6, cap6, by omega, val_int (by omega), rfl, by rw [HS.out, List.map_append]; exact ho6, (hB.alloc hsz _).grown hgrow6 (by simp; omega) (fun j hj => (ho.lt j hj).1)⟩
      case measure => simp [intOf]; omega
    · obtain rfl : k = 16 := by omega
      go_wp2_with fail
      go_ret
      exact ⟨g, cap, rfl, own_cap ho, own_dig ho, hB⟩

theorem words_trim (l : List UInt8) (hl : l.length = 32) (g cap : Nat) (W : World) (hd : Dig W g 0 (rdL l 16)) :
    Calls Tryz.prog 22 #[.slice (some ⟨g, 0, none⟩) (trimL (rdL l 16)).length cap] W fun e W' => e = .returned (fe (numLE l)) ∧ Below W.heap.size W W' := by
  have h := words_any (trimL (rdL l 16)) g 0 cap W (hd.take _) (Nat.le_trans (trimL_le _) (by rw [rdL_length]; decide)) (rdL_dg l 16).trim
  rw [val_trim, rdL_full l hl] at h
  exact h
theorem less_trim (l : List UInt8) (hl : l.length = 32) (g cap gp cp : Nat) (W : World) (hd : Dig W g 0 (rdL l 16)) (hp : Dig W gp 0 primeL) :
    Calls Tryz.prog 108 #[.slice (some ⟨g, 0, none⟩) (trimL (rdL l 16)).length cap, .slice (some ⟨gp, 0, none⟩) 16 cp] W fun e W' => e = .returned (.bool (decide (numLE l < p25))) ∧ Below W.heap.size W W' := by
  have hle := trimL_le (rdL l 16)
  rw [rdL_length] at hle
  have h := less_any (trimL (rdL l 16)) primeL g 0 cap gp 0 cp W (hd.take _) hp (by omega) (rdL_dg l 16).trim prime_dg (trim_tr _) prime_tr
  rw [val_trim, rdL_full l hl, prime_val] at h
  exact h

set_option maxRecDepth 100000 in
set_option maxHeartbeats 800000 in
theorem refParse_any (s : ByteArray) (hs : s.size = 32) (W : World) :
    Calls Tryz.prog 68 #[.string s] W fun e W' => e = .returned (.tuple #[fe (numLE s.data.toList), .bool (decide (numLE s.data.toList < p25))]) ∧ Below W.heap.size W W' := by
  have hl : s.data.toList.length = 32 := by rw [← Lib.size_eq]; exact hs
  have HR := Lib.hid (fun w => read_any s hs w)
  have HT := Lib.hid (fun g cap w (hc : 16 ≤ cap) (hd : Dig w g 0 (rdL s.data.toList 16)) => by
    have h := trim_any (rdL s.data.toList 16) g 0 cap w hd (by rw [rdL_length]; decide) (by rw [rdL_length]; exact hc)
    rw [rdL_length] at h
    exact h)
  have HW := Lib.hid (words_trim s.data.toList hl)
  have HL := Lib.hid (less_trim s.data.toList hl)
  clear hl
  go_enter Tryz.func68, Tryz.ntmps68
  have hr := Lies.new W 42 fe0A
  have hB := (Below.refl W.heap.size W).alloc (Nat.le_refl _) (.cells fe0A 42)
  go_upto_region 1 with fail
  generalize World.alloc W _ = w0 at *
  go_wp2_with (first
    | (go_at_call 23; refine (HR.out _).mono ?_; rintro e w1 ⟨g, cap, rfl, hc, hd, hb⟩; replace hr := hr.on hb; replace hB := below_on hB hb; clear hb)
    | (go_at_call 107; refine (HT.out g cap _ hc hd).mono ?_; rintro e w2 ⟨rfl, rfl⟩)
    | (go_at_call 22; refine (HW.out g cap _ hd).mono ?_; rintro e w3 ⟨rfl, hb⟩; replace hr := hr.on hb; replace hd := hd.on hb; replace hB := below_on hB hb; clear hb)
    | (go_at_call 84; refine (prime_any _).mono ?_; rintro e w4 ⟨gp, cp, rfl, _, hp, hb⟩; replace hr := hr.on hb; replace hd := hd.on hb; replace hB := below_on hB hb; clear hb)
    | (go_at_call 108; refine (HL.out g cap gp cp _ hd hp).mono ?_; rintro e w5 ⟨rfl, hb⟩; replace hr := hr.on hb; replace hB := below_on hB hb; clear hb)
    | ((with_reducible refine wpL_store W.heap.size 42 _ (feA (numLE s.data.toList)) 4 rowFe rfl (feA_size _) (feA_one _) hr ?_ ?_ ?_); rfl; rfl))
  exact bodyPost_ret (results_row_tmp Tryz.results68 rowFe (feA_size _) (hr.row _) rfl rfl) rfl ⟨rfl, below_rowSet hB (Nat.le_refl _) _⟩
end Go.Proofs.YtgefhfcmiefocaaGreatDoor.F

/- What the field's functions keep, put together; two numbers compared; the statements' own call. -/
namespace Go.Proofs.YtgefhfcmiefocaaGreatDoor.F
set_option maxRecDepth 100000
open Go.RowKit Go.Sort

/-! ### two numbers are compared -/
theorem eq_four (d : Nat) (w : World) (a0 a1 a2 a3 b0 b1 b2 b3 : Int) :
    (Op.equalIn (d + 2) 42 (.agg #[.int .u64 a0, .int .u64 a1, .int .u64 a2, .int .u64 a3]) (.agg #[.int .u64 b0, .int .u64 b1, .int .u64 b2, .int .u64 b3])).run Tryz.prog w = .ok (a0 == b0 && a1 == b1 && a2 == b2 && a3 == b3) w := by
  have h1 : ∀ w, (sizeOf 29).run Tryz.prog w = .ok 1 w := fun _ => by kernel_rfl
  have h2 : ∀ w, (isAgg 29).run Tryz.prog w = .ok false w := fun _ => by kernel_rfl
  have h3 : ∀ (a b : Int) w, (Op.equalIn (d + 1) 29 (.int .u64 a) (.int .u64 b)).run Tryz.prog w = .ok (a == b) w := fun a b w => run_equalIn_int w d 29 .u64 .u64 a b Tryz.underlying29
  rw [Op.equalIn]
  simp only [Sem.run_bind, run_underlying Tryz.underlying42, Result.andThen_ok, h1, Std.Legacy.Range.forIn_eq_forIn_range', Std.Legacy.Range.size]
  simp only [Nat.sub_zero, Nat.reduceAdd, Nat.reduceSub, Nat.div_one, List.range', List.forIn_cons, List.forIn_nil]
  simp [part, h2, h3]
  (repeat' split) <;> simp [*]
theorem eql_four (w : World) (a0 a1 a2 a3 b0 b1 b2 b3 : Int) :
    (binOp .eql 42 (.agg #[.int .u64 a0, .int .u64 a1, .int .u64 a2, .int .u64 a3]) (.agg #[.int .u64 b0, .int .u64 b1, .int .u64 b2, .int .u64 b3])).run Tryz.prog w = .ok (.bool (a0 == b0 && a1 == b1 && a2 == b2 && a3 == b3)) w := by
  rw [run_eql_struct, eq_four 9998]
  rfl
theorem neq_four (w : World) (a0 a1 a2 a3 b0 b1 b2 b3 : Int) :
    (binOp .neq 42 (.agg #[.int .u64 a0, .int .u64 a1, .int .u64 a2, .int .u64 a3]) (.agg #[.int .u64 b0, .int .u64 b1, .int .u64 b2, .int .u64 b3])).run Tryz.prog w = .ok (.bool (!(a0 == b0 && a1 == b1 && a2 == b2 && a3 == b3))) w := by
  rw [run_neq_struct, eq_four 9998]
  rfl
theorem fe_word (n : Nat) (h : n < 18446744073709551616) : fe n = .agg #[.int .u64 (n : Int), .int .u64 0, .int .u64 0, .int .u64 0] := by
  unfold fe feA
  rw [Nat.mod_eq_of_lt h, show n / 18446744073709551616 = 0 by omega, show n / 340282366920938463463374607431768211456 = 0 by omega, show n / 6277101735386680763835789423207666416102355444464034512896 = 0 by omega]
  rfl
theorem fe_same (m n : Nat) (hm : m < K256) (hn : n < K256) : (((m % 18446744073709551616 : Nat) : Int) == ((n % 18446744073709551616 : Nat) : Int) && ((m / 18446744073709551616 % 18446744073709551616 : Nat) : Int) == ((n / 18446744073709551616 % 18446744073709551616 : Nat) : Int) && ((m / 340282366920938463463374607431768211456 % 18446744073709551616 : Nat) : Int) == ((n / 340282366920938463463374607431768211456 % 18446744073709551616 : Nat) : Int) && ((m / 6277101735386680763835789423207666416102355444464034512896 % 18446744073709551616 : Nat) : Int) == ((n / 6277101735386680763835789423207666416102355444464034512896 % 18446744073709551616 : Nat) : Int)) = decide (m = n) := by
  unfold K256 at hm hn
  rw [Bool.eq_iff_iff]
  simp only [Bool.and_eq_true, beq_iff_eq, decide_eq_true_eq]
  omega
theorem eql_fe (m n : Nat) (hm : m < K256) (hn : n < K256) (w : World) : (binOp .eql 42 (fe m) (fe n)).run Tryz.prog w = .ok (.bool (decide (m = n))) w := by
  unfold fe feA
  rw [eql_four, fe_same m n hm hn]
theorem neq_fe (m n : Nat) (hm : m < K256) (hn : n < K256) (w : World) : (binOp .neq 42 (fe m) (fe n)).run Tryz.prog w = .ok (.bool (!decide (m = n))) w := by
  unfold fe feA
  rw [neq_four, fe_same m n hm hn]
theorem eql_self (n : Nat) (w : World) : (binOp .eql 42 (fe n) (fe n)).run Tryz.prog w = .ok (.bool true) w := by
  unfold fe feA
  rw [eql_four]
  simp
theorem neq_self (n : Nat) (w : World) : (binOp .neq 42 (fe n) (fe n)).run Tryz.prog w = .ok (.bool false) w := by
  unfold fe feA
  rw [neq_four]
  simp

theorem zero_four (n : Nat) (hn : n < K256) (w : World) : (binOp .eql 42 (fe n) (.agg #[.int .u64 0, .int .u64 0, .int .u64 0, .int .u64 0])).run Tryz.prog w = .ok (.bool (decide (n = 0))) w := eql_fe n 0 hn (by decide) w
theorem one_four (w : World) : (binOp .eql 42 (fe 1) (.agg #[.int .u64 1, .int .u64 0, .int .u64 0, .int .u64 0])).run Tryz.prog w = .ok (.bool true) w := eql_self 1 w
theorem same_four (a b c d : Nat) (w : World) : (binOp .eql 42 (.agg #[w64 a, w64 b, w64 c, w64 d]) (.agg #[w64 a, w64 b, w64 c, w64 d])).run Tryz.prog w = .ok (.bool true) w := by rw [eql_four]; simp

theorem neq_zero (n : Nat) (hn : n < K256) (w : World) : (binOp .neq 42 (fe n) (.agg #[.int .u64 0, .int .u64 0, .int .u64 0, .int .u64 0])).run Tryz.prog w = .ok (.bool (!decide (n = 0))) w := neq_fe n 0 hn (by decide) w

/-- a new variable, and what goes into it -/
theorem newly (w : World) (o : Obj) (cs : Array Value) : Below w.heap.size w ((w.alloc o).setRow w.heap.size cs) := below_rowSet ((Below.refl _ w).alloc (Nat.le_refl _) o) (Nat.le_refl _) cs
theorem newly_lies (w : World) (t : TypeId) (cs cs' : Array Value) : Lies ((w.alloc (.cells cs t)).setRow w.heap.size cs') w.heap.size t cs' := (Lies.new w t cs).row _

theorem word_low (n : Nat) : ∃ a b c d : Nat, feA n = #[w64 a, w64 b, w64 c, w64 d] ∧ a % 2 = n % 2 ∧ a < 18446744073709551616 := by
  refine ⟨_, _, _, _, by unfold feA; rfl, ?_, Nat.mod_lt _ (by decide)⟩
  omega

/-! ### what the field's functions keep -/
/-- the inverse, as a power -/
def invN (n : Nat) : Nat := n ^ (p25 - 2) % p25
theorem invN_eq (n : Nat) : invN n = n ^ (p25 - 2) % p25 := rfl
attribute [irreducible] invN
theorem mod_K (n : Nat) : n % p25 < K256 := Nat.lt_trans (Nat.mod_lt _ p25_pos) (by decide)
theorem invN_lt (n : Nat) : invN n < p25 := by rw [invN_eq]; exact Nat.mod_lt _ p25_pos

structure FieldOk : Prop where
  of : ∀ (n : Nat) (w : World), n < 18446744073709551616 → Tab w → Calls Tryz.prog 96 #[.int .u64 (n : Int)] w fun e w' => e = .returned (fe n) ∧ Below w.heap.size w w'
  least : ∀ (n : Nat) (w : World), n < K256 → Tab w → Calls Tryz.prog 93 #[fe n] w fun e w' => e = .returned (fe (n % p25)) ∧ Below w.heap.size w w'
  add : ∀ (m n : Nat) (w : World), m < K256 → n < K256 → Tab w → Calls Tryz.prog 97 #[fe m, fe n] w fun e w' => e = .returned (fe ((m + n) % p25)) ∧ Below w.heap.size w w'
  sub : ∀ (m n : Nat) (w : World), m < K256 → n < K256 → Tab w → Calls Tryz.prog 95 #[fe m, fe n] w fun e w' => e = .returned (fe ((m + (p25 - n % p25)) % p25)) ∧ Below w.heap.size w w'
  mul : ∀ (m n : Nat) (w : World), m < K256 → n < K256 → Tab w → Calls Tryz.prog 94 #[fe m, fe n] w fun e w' => e = .returned (fe (m * n % p25)) ∧ Below w.heap.size w w'
  inv : ∀ (n : Nat) (w : World), n < K256 → Tab w → Calls Tryz.prog 99 #[fe n] w fun e w' => e = .returned (fe (invN n)) ∧ Below w.heap.size w w'
  sqrt : ∃ (R : Nat → Nat) (B : Nat → Bool), (∀ (n : Nat) (w : World), n < K256 → Tab2 w → Calls Tryz.prog 98 #[fe n] w fun e w' => e = .returned (.tuple #[fe (R n), .bool (B n)]) ∧ Below w.heap.size w w') ∧
    ∀ n, n < K256 → R n < p25 ∧ R n % 2 = 0 ∧ (B n = true → R n * R n % p25 = n % p25) ∧ (B n = false → R n = 0) ∧ (B n = true ↔ Sq n)
  bytes : ∀ (n : Nat) (w : World), n < K256 → Tab w → Calls Tryz.prog 114 #[fe n] w fun e w' => e = .returned (.string ⟨(leL (n % p25) 32).toArray⟩) ∧ Below w.heap.size w w'
  parse : ∀ (s : ByteArray) (w : World), s.size ≤ 140737488355328 → Tab w → Calls Tryz.prog 60 #[.string s] w fun e w' =>
    e = .returned (if s.size = 32 then if numLE s.data.toList < p25 then .tuple #[fe (numLE s.data.toList), .int .i64 0] else .tuple #[fe 0, .int .i64 2] else .tuple #[fe 0, .int .i64 1]) ∧ Below w.heap.size w w'

/-! ### calls in a region that draws its order -/
theorem reg {f : FuncId} {args : Array Value} {W : World} {v : Value} (h : ∀ w, Below W.heap.size W w → Calls Tryz.prog f args w fun e w' => e = .returned v ∧ Below w.heap.size w w') :
    ∀ d os, Calls Tryz.prog f args (grow (redrawn W d) os) fun e w'' => e = .returned v ∧ ∃ p : Regrown, w'' = grow (redrawn W p.d) p.os := fun d os => Calls.regrown_of (h _ (below_regrown W d os))

end Go.Proofs.YtgefhfcmiefocaaGreatDoor.F

/- Powers modulo p, as squares and products make them; a root, as the program looks for it. Nothing of the program is named here. -/
namespace Go.Proofs.YtgefhfcmiefocaaGreatDoor.F

/-- x to a power, modulo p -/
def powN (x e : Nat) : Nat := x ^ e % p25
theorem powN_eq (x e : Nat) : powN x e = x ^ e % p25 := rfl
attribute [irreducible] powN
theorem powN_lt (x e : Nat) : powN x e < p25 := by rw [powN_eq]; exact Nat.mod_lt _ p25_pos
theorem below_K {n : Nat} (h : n < p25) : n < K256 := Nat.lt_trans h (by decide)
/-- v counts as x to the power e -/
def Pw (x e v : Nat) : Prop := v % p25 = powN x e
theorem Pw.one (x : Nat) : Pw x 1 x := by unfold Pw; rw [powN_eq, Nat.pow_one]
theorem Pw.mul {x a b u v : Nat} (h : Pw x a u) (k : Pw x b v) : Pw x (a + b) (u * v % p25) := by
  simp only [Pw, powN_eq] at *
  rw [Nat.mod_mod, Nat.mul_mod, h, k, ← Nat.mul_mod, ← Nat.pow_add]
theorem Pw.pow {x a u : Nat} (h : Pw x a u) (b : Nat) : Pw x (a * b) (powN u b) := by
  simp only [Pw, powN_eq] at *
  rw [Nat.mod_mod, Nat.pow_mod, h, ← Nat.pow_mod, ← Nat.pow_mul]
theorem Pw.is {x e v : Nat} (h : Pw x e v) (hv : v < p25) : v = powN x e := by
  unfold Pw at h
  rw [← h, Nat.mod_eq_of_lt hv]

/-! ### squared so many times -/
def sqL (x i : Nat) : Nat := if i = 0 then x else powN x (2 ^ i)
theorem sqL_pw (x i : Nat) : Pw x (2 ^ i) (sqL x i) := by
  unfold sqL
  split
  · rename_i h
    rw [h]
    exact Pw.one x
  · unfold Pw
    exact Nat.mod_eq_of_lt (powN_lt _ _)
theorem sqL_step (x i : Nat) : sqL x i * sqL x i % p25 = sqL x (i + 1) := by
  have h := ((sqL_pw x i).mul (sqL_pw x i)).is (Nat.mod_lt _ p25_pos)
  rw [h, show 2 ^ i + 2 ^ i = 2 ^ (i + 1) by rw [Nat.pow_succ]; omega]
  unfold sqL
  rw [if_neg (by omega)]
theorem sqL_lt (x i : Nat) (h : x < K256) : sqL x i < K256 := by
  unfold sqL
  split
  · exact h
  · exact below_K (powN_lt _ _)
theorem sqL_pos (x i : Nat) (h : 0 < i) : sqL x i = powN x (2 ^ i) := by unfold sqL; rw [if_neg (by omega)]
theorem sqL_one (x : Nat) : sqL x 1 = x * x % p25 := (sqL_step x 0).symm
theorem sqL_zero (x : Nat) : sqL x 0 = x := rfl

/-! ### so many ones -/
def onesN (x n : Nat) : Nat := if n ≤ 1 then x else powN x (2 ^ n - 1)
theorem onesN_pw (x n : Nat) (h : 1 ≤ n) : Pw x (2 ^ n - 1) (onesN x n) := by
  unfold onesN
  split
  · obtain rfl : n = 1 := by omega
    exact Pw.one x
  · unfold Pw
    exact Nat.mod_eq_of_lt (powN_lt _ _)
theorem onesN_lt (x n : Nat) (h : x < K256) : onesN x n < K256 := by
  unfold onesN
  split
  · exact h
  · exact below_K (powN_lt _ _)
theorem onesN_one (x : Nat) : onesN x 1 = x := rfl
theorem onesN_even (x h : Nat) (h1 : 1 ≤ h) : sqL (onesN x h) h * onesN x h % p25 = onesN x (2 * h) := by
  have e := (((onesN_pw x h h1).pow (2 ^ h)).mul (onesN_pw x h h1)).is (Nat.mod_lt _ p25_pos)
  rw [sqL_pos _ _ h1, e]
  unfold onesN
  rw [if_neg (by omega)]
  congr 1
  have h2 : 0 < 2 ^ h := Nat.pow_pos (by decide)
  obtain ⟨m, hm⟩ : ∃ m, 2 ^ h = m + 1 := ⟨2 ^ h - 1, by omega⟩
  rw [Nat.two_mul, Nat.pow_add, hm, Nat.add_sub_cancel, Nat.succ_mul m (m + 1)]
  have h3 : m * (m + 1) = m * m + m := Nat.mul_succ m m
  omega
theorem onesN_odd (x h : Nat) (h1 : 1 ≤ h) : sqL (onesN x (2 * h)) 1 * x % p25 = onesN x (2 * h + 1) := by
  have e := (((onesN_pw x (2 * h) (by omega)).pow (2 ^ 1)).mul (Pw.one x)).is (Nat.mod_lt _ p25_pos)
  rw [sqL_pos _ _ (by decide), e]
  unfold onesN
  rw [if_neg (by omega)]
  congr 1
  have h2 : 0 < 2 ^ (2 * h) := Nat.pow_pos (by decide)
  rw [Nat.pow_succ 2 (2 * h)]
  omega

/-! ### the power that inverses and roots are made of -/
def eP : Nat := 7237005577332262213973186563042994240829374041602535252466099000494570602493
theorem power_eq (x : Nat) : sqL (onesN x 250) 2 * x % p25 = powN x eP := by
  have e := (((onesN_pw x 250 (by decide)).pow (2 ^ 2)).mul (Pw.one x)).is (Nat.mod_lt _ p25_pos)
  rw [sqL_pos _ _ (by decide), e]
  exact congrArg (powN x) (by decide)
theorem inv_eq (x : Nat) : sqL (powN x eP) 3 * (x * sqL x 1 % p25) % p25 = invN x := by
  have h1 : Pw x eP (powN x eP) := by unfold Pw; exact Nat.mod_eq_of_lt (powN_lt _ _)
  have e := ((h1.pow (2 ^ 3)).mul ((Pw.one x).mul (sqL_pw x 1))).is (Nat.mod_lt _ p25_pos)
  rw [sqL_pos _ 3 (by decide), e, invN_eq, ← powN_eq]
  exact congrArg (powN x) (by decide)

/-! ### roots -/
def rootC (x : Nat) : Nat := x * powN x eP % p25
def rootD (x : Nat) : Nat := rootC x * i25 % p25
theorem rootC_lt (x : Nat) : rootC x < p25 := Nat.mod_lt _ p25_pos
theorem rootD_lt (x : Nat) : rootD x < p25 := Nat.mod_lt _ p25_pos
theorem rootC_eq (x : Nat) : rootC x = c25 x % p25 := by
  have h1 : Pw x eP (powN x eP) := by unfold Pw; exact Nat.mod_eq_of_lt (powN_lt _ _)
  have e := ((Pw.one x).mul h1).is (Nat.mod_lt _ p25_pos)
  unfold rootC
  rw [e, show 1 + eP = d25 by decide, powN_eq]
  rfl
/-- the even one of a number below p and its contrary -/
def evN (r : Nat) : Nat := if r % 2 = 1 then (0 + (p25 - r % p25)) % p25 else r
theorem evN_lt (r : Nat) (h : r < p25) : evN r < p25 := by
  unfold evN
  split
  · exact Nat.mod_lt _ p25_pos
  · exact h
theorem evN_odd (r : Nat) (h : r < p25) (h1 : r % 2 = 1) : evN r = p25 - r := by
  unfold evN
  rw [if_pos h1, Nat.zero_add, Nat.mod_eq_of_lt h, Nat.mod_eq_of_lt (by omega)]
theorem evN_even (r : Nat) (h : r < p25) : evN r % 2 = 0 := by
  by_cases h1 : r % 2 = 1
  · rw [evN_odd r h h1]
    have := contrary_odd r h
    omega
  · unfold evN
    rw [if_neg h1]
    omega
theorem contrary_sq (r : Nat) (h : r < p25) : (p25 - r) * (p25 - r) % p25 = r * r % p25 := by
  obtain ⟨s, hs⟩ : ∃ s, p25 - r = s := ⟨_, rfl⟩
  have e : p25 = r + s := by omega
  rw [hs]
  have h1 : s * s + p25 * r = r * r + p25 * s := by
    rw [e, Nat.add_mul, Nat.add_mul, Nat.mul_comm s r]
    omega
  have h2 := congrArg (· % p25) h1
  simp only [Nat.add_mul_mod_self_left] at h2
  exact h2
theorem evN_sq (r : Nat) (h : r < p25) : evN r * evN r % p25 = r * r % p25 := by
  by_cases h1 : r % 2 = 1
  · rw [evN_odd r h h1, contrary_sq r h]
  · unfold evN
    rw [if_neg h1]
def sqrtR (x : Nat) : Nat := if rootC x * rootC x % p25 = x % p25 then evN (rootC x) else if rootD x * rootD x % p25 = x % p25 then evN (rootD x) else 0
def sqrtB (x : Nat) : Bool := decide (rootC x * rootC x % p25 = x % p25) || decide (rootD x * rootD x % p25 = x % p25)
theorem sq_of_square {r x : Nat} (h : r * r % p25 = x % p25) : Sq x := ⟨r, h⟩
theorem sqrt_finds (x : Nat) (h : Sq x) : rootC x * rootC x % p25 = x % p25 ∨ rootD x * rootD x % p25 = x % p25 := by
  by_cases hd : p25 ∣ x
  · left
    have h0 : x % p25 = 0 := Nat.mod_eq_zero_of_dvd hd
    have h1 : rootC x = 0 := by
      unfold rootC
      rw [Nat.mul_mod, h0, Nat.zero_mul, Nat.zero_mod]
    rw [h1, h0]
    rfl
  · rcases cand x (sq_power x hd h) with h1 | h1
    · left
      rw [rootC_eq, ← Nat.mul_mod]
      exact h1
    · right
      have e : rootD x = c25 x * i25 % p25 := by
        unfold rootD
        rw [rootC_eq, Nat.mod_mul_mod]
      rw [e, ← Nat.mul_mod]
      exact h1
theorem sqrt_spec (n : Nat) : sqrtR n < p25 ∧ sqrtR n % 2 = 0 ∧ (sqrtB n = true → sqrtR n * sqrtR n % p25 = n % p25) ∧ (sqrtB n = false → sqrtR n = 0) ∧ (sqrtB n = true ↔ Sq n) := by
  by_cases h1 : rootC n * rootC n % p25 = n % p25
  · have eR : sqrtR n = evN (rootC n) := by unfold sqrtR; rw [if_pos h1]
    have eB : sqrtB n = true := by unfold sqrtB; rw [decide_eq_true h1]; rfl
    rw [eR, eB]
    exact ⟨evN_lt _ (rootC_lt n), evN_even _ (rootC_lt n), fun _ => by rw [evN_sq _ (rootC_lt n), h1], (fun h => by cases h), fun _ => sq_of_square h1, fun _ => rfl⟩
  · by_cases h2 : rootD n * rootD n % p25 = n % p25
    · have eR : sqrtR n = evN (rootD n) := by unfold sqrtR; rw [if_neg h1, if_pos h2]
      have eB : sqrtB n = true := by unfold sqrtB; rw [decide_eq_true h2, Bool.or_true]
      rw [eR, eB]
      exact ⟨evN_lt _ (rootD_lt n), evN_even _ (rootD_lt n), fun _ => by rw [evN_sq _ (rootD_lt n), h2], (fun h => by cases h), fun _ => sq_of_square h2, fun _ => rfl⟩
    · have eR : sqrtR n = 0 := by unfold sqrtR; rw [if_neg h1, if_neg h2]
      have eB : sqrtB n = false := by unfold sqrtB; rw [decide_eq_false h1, decide_eq_false h2]; rfl
      rw [eR, eB]
      refine ⟨p25_pos, rfl, (fun h => by cases h), fun _ => rfl, (fun h => by cases h), fun h => ?_⟩
      rcases sqrt_finds n h with h3 | h3
      · exact absurd h3 h1
      · exact absurd h3 h2
end Go.Proofs.YtgefhfcmiefocaaGreatDoor.F

/- Plain facts about numbers modulo p that the statements ask for: inverses, halves, rules. Nothing of the program is named here but p's digits. -/
namespace Go.Proofs.YtgefhfcmiefocaaGreatDoor.F

theorem dvd_iff (n : Nat) : p25 ∣ n ↔ n % p25 = 0 := ⟨Nat.mod_eq_zero_of_dvd, Nat.dvd_of_mod_eq_zero⟩
theorem pow_zero_mod (n p e : Nat) (h : n % p = 0) (he : 0 < e) : n ^ e % p = 0 := by
  rw [Nat.pow_mod, h, Nat.zero_pow he, Nat.zero_mod]
theorem invN_zero {n : Nat} (h : n % p25 = 0) : invN n = 0 := by
  rw [invN_eq]
  exact pow_zero_mod n p25 _ h (by decide)
theorem mul_invN {n : Nat} (h : n % p25 ≠ 0) : n * invN n % p25 = 1 := by
  rw [invN_eq, Nat.mul_mod, Nat.mod_mod, ← Nat.mul_mod]
  exact inv_mul p25_prime n (fun hd => h ((dvd_iff n).1 hd))
theorem invN_invN {n : Nat} (h : n % p25 ≠ 0) : invN (invN n) = n % p25 := by
  rw [invN_eq, invN_eq, ← Nat.pow_mod]
  exact inv_inv p25_prime n (fun hd => h ((dvd_iff n).1 hd))
theorem lt_K {n : Nat} (h : n < p25) : n < K256 := Nat.lt_trans h (by decide)

/-! ### rules -/
theorem add_assoc_mod (a b c : Nat) : ((a + b) % p25 + c) % p25 = (a + (b + c) % p25) % p25 := by
  rw [Nat.add_mod, Nat.mod_mod, ← Nat.add_mod, Nat.add_mod a ((b + c) % p25), Nat.mod_mod, ← Nat.add_mod, Nat.add_assoc]
theorem mul_assoc_mod (a b c : Nat) : (a * b % p25) * c % p25 = a * (b * c % p25) % p25 := by
  rw [Nat.mul_mod, Nat.mod_mod, ← Nat.mul_mod, Nat.mul_mod a (b * c % p25), Nat.mod_mod, ← Nat.mul_mod, Nat.mul_assoc]
theorem mul_add_mod' (a b c : Nat) : a * ((b + c) % p25) % p25 = (a * b % p25 + a * c % p25) % p25 := by
  rw [Nat.mul_mod, Nat.mod_mod, ← Nat.mul_mod, Nat.mul_add, Nat.add_mod]
theorem add_sub_mod (a b : Nat) : ((a + b) % p25 + (p25 - b % p25)) % p25 = a % p25 := by
  have h := Nat.mod_lt b p25_pos
  have e := Nat.div_add_mod b p25
  rw [Nat.add_mod, Nat.mod_mod, ← Nat.add_mod, show a + b + (p25 - b % p25) = a + p25 * (b / p25 + 1) by rw [Nat.mul_add]; omega, Nat.add_mul_mod_self_left]
theorem sub_self_mod (a : Nat) : (a + (p25 - a % p25)) % p25 = 0 := by
  have h := add_sub_mod 0 a
  rw [Nat.zero_add, Nat.add_mod, Nat.mod_mod, ← Nat.add_mod] at h
  exact h
theorem add_p_mod (a : Nat) : (a + p25) % p25 = a % p25 := Nat.add_mod_right a p25
theorem mul_p_mod (a : Nat) : a * p25 % p25 = 0 := Nat.mul_mod_left a p25
theorem halves (a : Nat) : (a * invN 2 % p25 + a * invN 2 % p25) % p25 = a % p25 := by
  have h := mul_invN (n := 2) (by decide)
  rw [← Nat.two_mul, Nat.mul_mod, Nat.mod_mod, ← Nat.mul_mod, Nat.mul_left_comm, Nat.mul_mod, h, Nat.mul_one, Nat.mod_mod]
end Go.Proofs.YtgefhfcmiefocaaGreatDoor.F

/- Points as four numbers below p, which of them may be, and the points of a y. Nothing of the program's point is named here. -/
namespace Go.Proofs.YtgefhfcmiefocaaGreatDoor.C
open Go.Proofs.YtgefhfcmiefocaaGreatDoor.F

theorem z_pow (n e : Nat) : z ((n % p25) ^ e) = z (n ^ e) := z_iff.2 (by rw [← Nat.pow_mod])
theorem z_inv (n : Nat) : z (invN n) = zinv (z n) := by
  have h : zinv (z n) = z ((n % p25) ^ (p25 - 2)) := by unfold zinv; rw [show (z n).val = n % p25 by unfold z; rfl]
  rw [h, z_pow, invN_eq, z_mod]
theorem zinv_zero : zinv 0 = 0 := by
  have h := z_inv 0
  rw [invN_zero (by rfl), z_zero] at h
  exact h.symm
theorem val_z {n : Nat} (h : n < p25) : (z n).val = n := by unfold z; exact Nat.mod_eq_of_lt h
theorem z_ne {n : Nat} (h : n < p25) (h0 : n ≠ 0) : z n ≠ 0 := fun e => h0 (by rw [z_is_zero, Nat.mod_eq_of_lt h] at e; exact e)
theorem val_mod (n : Nat) : (z n).val = n % p25 := by unfold z; rfl

/-! ### four numbers -/
structure N4 where
  X : Nat
  Y : Nat
  Z : Nat
  T : Nat
/-- they are this point's -/
structure Pn (u : N4) (P : Pt) : Prop where
  lX : u.X < p25
  lY : u.Y < p25
  lZ : u.Z < p25
  lT : u.T < p25
  rep : Rep (z u.X) (z u.Y) (z u.Z) P
  t : z u.X * z u.Y = z u.Z * z u.T
  on : P.On
theorem Pn.same {u : N4} {P Q : Pt} (h : Pn u P) (k : Pn u Q) : P = Q := h.rep.same k.rep
/-- x and y by a division -/
theorem Pn.affine {u : N4} {P : Pt} (h : Pn u P) : u.X * invN u.Z % p25 = P.x.val ∧ u.Y * invN u.Z % p25 = P.y.val := by
  obtain ⟨n, a, b⟩ := h.rep
  have hi := zinv_mul n
  constructor
  · rw [← val_mod, z_mul, z_inv, a, show P.x * z u.Z * zinv (z u.Z) = P.x * (z u.Z * zinv (z u.Z)) by grind, hi]
    congr 1
    grind
  · rw [← val_mod, z_mul, z_inv, b, show P.y * z u.Z * zinv (z u.Z) = P.y * (z u.Z * zinv (z u.Z)) by grind, hi]
    congr 1
    grind
/-- is it one of the curve, by x and y? -/
def onB (x y : Nat) : Bool := decide ((y * y % p25 + (p25 - x * x % p25 % p25)) % p25 = (1 + dN * (x * x % p25 * (y * y % p25) % p25) % p25) % p25)
theorem z_dN : z dN = dd := by unfold dd; rfl
theorem onB_iff (x y : Nat) : onB x y = true ↔ On (z x) (z y) := by
  unfold onB
  rw [decide_eq_true_iff, ← z_iff]
  simp only [z_mod, z_mul, z_add, z_neg, z_one, z_dN]
  unfold On
  constructor
  · intro h; grind
  · intro h; grind
def N4.right (u : N4) : Bool := decide (u.X < p25) && decide (u.Y < p25) && decide (u.Z < p25) && decide (u.T < p25) && decide (u.Z ≠ 0) && decide (u.X * u.Y % p25 = u.Z * u.T % p25) && onB (u.X * invN u.Z % p25) (u.Y * invN u.Z % p25)
theorem right_iff (u : N4) : u.right = true ↔ ∃ P, Pn u P := by
  unfold N4.right
  simp only [Bool.and_eq_true, decide_eq_true_eq]
  constructor
  · rintro ⟨⟨⟨⟨⟨⟨h1, h2⟩, h3⟩, h4⟩, h5⟩, h6⟩, h7⟩
    have hz := z_ne h3 h5
    have hi := zinv_mul hz
    refine ⟨⟨z (u.X * invN u.Z % p25), z (u.Y * invN u.Z % p25)⟩, h1, h2, h3, h4, ⟨hz, ?_, ?_⟩, ?_, (onB_iff _ _).1 h7⟩
    · show z u.X = z (u.X * invN u.Z % p25) * z u.Z
      rw [z_mod, z_mul, z_inv]
      grind
    · show z u.Y = z (u.Y * invN u.Z % p25) * z u.Z
      rw [z_mod, z_mul, z_inv]
      grind
    · rw [← z_mul, ← z_mul]
      exact z_iff.2 h6
  · rintro ⟨P, h⟩
    obtain ⟨a, b⟩ := h.affine
    refine ⟨⟨⟨⟨⟨⟨h.lX, h.lY⟩, h.lZ⟩, h.lT⟩, fun e => h.rep.ne (by rw [e, z_zero])⟩, ?_⟩, ?_⟩
    · have := h.t
      rw [← z_mul, ← z_mul] at this
      exact z_iff.1 this
    · rw [a, b, onB_iff, z_back, z_back]
      exact h.on
/-- whether two may be, and are the same -/
theorem Pn.eq_iff {u v : N4} {P Q : Pt} (h : Pn u P) (k : Pn v Q) : P = Q ↔ z u.X * z v.Z = z v.X * z u.Z ∧ z u.Y * z v.Z = z v.Y * z u.Z := by
  obtain ⟨n1, a1, b1⟩ := h.rep
  obtain ⟨n2, a2, b2⟩ := k.rep
  constructor
  · rintro rfl
    rw [a1, a2, b1, b2]
    constructor <;> grind
  · rintro ⟨h1, h2⟩
    rw [a1, a2] at h1
    rw [b1, b2] at h2
    have hn := zmul_ne n1 n2
    refine Pt.same (zcancel hn ?_) (zcancel hn ?_)
    · clear h2 a1 a2 b1 b2; grind
    · clear h1 a1 a2 b1 b2; grind

/-! ### the points of a y -/
theorem den_ne (y : Z) : dd * (y * y) + 1 ≠ 0 := fun h => by
  have hi := zi_two
  by_cases hy : y = 0
  · rw [hy] at h
    rw [Fin.mul_zero, Fin.mul_zero] at h
    exact absurd h (by decide)
  · exact d_no_quot (u := zi) hy (by grind)
/-- what x times x must be -/
def wN (y : Nat) : Nat := (y * y % p25 + (p25 - 1 % p25)) % p25 * invN ((dN * (y * y % p25) % p25 + 1) % p25) % p25
theorem wN_lt (y : Nat) : wN y < p25 := Nat.mod_lt _ p25_pos
theorem wN_is (y : Nat) : z (wN y) * (dd * (z y * z y) + 1) = z y * z y - 1 := by
  have hi := zinv_mul (den_ne (z y))
  unfold wN
  simp only [z_mod, z_mul, z_add, z_neg, z_one, z_inv, z_dN]
  grind
theorem on_w (x : Z) (y : Nat) : On x (z y) ↔ x * x = z (wN y) := by
  have hw := wN_is y
  have hd := den_ne (z y)
  unfold On
  constructor
  · intro h
    refine zcancel hd ?_
    grind
  · intro h
    grind
/-- the even x of a y, if there is one -/
def xE (y : Nat) : Nat := sqrtR (wN y)
def xB (y : Nat) : Bool := sqrtB (wN y)
theorem xE_lt (y : Nat) : xE y < p25 := (sqrt_spec (wN y)).1
theorem xE_even (y : Nat) : xE y % 2 = 0 := (sqrt_spec (wN y)).2.1
theorem xE_on {y : Nat} (h : xB y = true) : On (z (xE y)) (z y) := by
  have hs := (sqrt_spec (wN y)).2.2.1 h
  rw [on_w, ← z_mul, z_iff]
  exact hs
theorem xB_iff (y : Nat) : xB y = true ↔ ∃ x, On x (z y) := by
  refine ⟨fun h => ⟨_, xE_on h⟩, fun ⟨x, hx⟩ => ?_⟩
  refine (sqrt_spec (wN y)).2.2.2.2.2 ⟨x.val, ?_⟩
  rw [on_w] at hx
  have h1 : z (x.val * x.val) = z (wN y) := by rw [z_mul, z_back]; exact hx
  exact z_iff.1 h1
/-- the x of a y and a parity -/
def xOf (y : Nat) (odd : Bool) : Nat := if odd = true then (0 + (p25 - xE y % p25)) % p25 else xE y
theorem z_xOf (y : Nat) (odd : Bool) : z (xOf y odd) = if odd = true then - z (xE y) else z (xE y) := by
  unfold xOf
  split
  · rw [Nat.zero_add, z_mod, z_neg]
  · rfl
theorem xOf_on {y : Nat} (h : xB y = true) (odd : Bool) : On (z (xOf y odd)) (z y) := by
  have hx := xE_on h
  rw [z_xOf]
  split
  · unfold On at *; grind
  · exact hx
theorem xOf_lt (y : Nat) (odd : Bool) : xOf y odd < p25 := by
  unfold xOf
  split
  · exact Nat.mod_lt _ p25_pos
  · exact xE_lt y
theorem xOf_odd (y : Nat) (odd : Bool) (h : xE y ≠ 0 ∨ odd = false) : xOf y odd % 2 = if odd = true then 1 else 0 := by
  unfold xOf
  have h1 := xE_lt y
  have h2 := xE_even y
  cases odd with
  | false => simpa using h2
  | true =>
    have h3 : xE y ≠ 0 := by rcases h with h | h; exact h; cases h
    have h4 := contrary_odd (xE y) h1
    have h5 : p25 - xE y < p25 := by omega
    rw [if_pos rfl, if_pos rfl, Nat.zero_add, Nat.mod_eq_of_lt h1, Nat.mod_eq_of_lt h5]
    omega
/-- any x of a y is that of its parity -/
theorem xOf_is {x : Z} {y : Nat} (h : On x (z y)) : x.val = xOf y (decide (x.val % 2 = 1)) := by
  have hb : xB y = true := (xB_iff y).2 ⟨x, h⟩
  have hx := xE_on hb
  rw [on_w] at h hx
  have h1 := xE_lt y
  have h2 := xE_even y
  have hs : (x - z (xE y)) * (x + z (xE y)) = 0 := by grind
  have hxl := x.isLt
  rcases zmul_zero hs with h3 | h3
  · have e : x.val = xE y := by
      have : x = z (xE y) := by grind
      rw [this, val_z h1]
    rw [e, decide_eq_false (by omega)]
    unfold xOf
    rw [if_neg (by decide)]
  · have e : x = -z (xE y) := by grind
    by_cases h0 : xE y = 0
    · have ex : x.val = 0 := by
        rw [e, h0, z_zero]
        decide
      rw [ex, decide_eq_false (by decide)]
      unfold xOf
      rw [if_neg (by decide), h0]
    · have h5 : p25 - xE y < p25 := by omega
      have ex : x.val = p25 - xE y := by
        rw [e, ← z_neg, val_mod, Nat.mod_eq_of_lt h1, Nat.mod_eq_of_lt h5]
      have h4 := contrary_odd (xE y) h1
      rw [ex, decide_eq_true (by omega)]
      unfold xOf
      rw [if_pos rfl, Nat.zero_add, Nat.mod_eq_of_lt h1, Nat.mod_eq_of_lt h5]
end Go.Proofs.YtgefhfcmiefocaaGreatDoor.C

/- Numbers as words of 64 bits, the lowest one first. Nothing of the program is named here. -/
namespace Go.Proofs.YtgefhfcmiefocaaGreatDoor.F

def valK : List Nat → Nat
  | [] => 0
  | d :: r => d + 18446744073709551616 * valK r
theorem valK_append (a b : List Nat) : valK (a ++ b) = valK a + 18446744073709551616 ^ a.length * valK b := by
  induction a with
  | nil => simp [valK]
  | cons x a ih =>
    rw [List.cons_append, valK, ih, valK, List.length_cons, Nat.pow_succ, Nat.mul_add, Nat.mul_comm (18446744073709551616 ^ a.length) 18446744073709551616, Nat.mul_assoc]
    omega
theorem valK_snoc (l : List Nat) (x : Nat) : valK (l ++ [x]) = valK l + 18446744073709551616 ^ l.length * x := by rw [valK_append]; simp [valK]
theorem valK_zeros (n : Nat) : valK (List.replicate n 0) = 0 := by
  induction n with
  | zero => rfl
  | succ n ih => rw [List.replicate_succ, valK, ih]
theorem valK_take_succ (l : List Nat) (i : Nat) : valK (l.take (i + 1)) = valK (l.take i) + 18446744073709551616 ^ i * l.getD i 0 := by
  by_cases h : i < l.length
  · rw [List.take_succ_eq_append_getElem h, valK_snoc, List.length_take, Nat.min_eq_left (by omega), List.getD_eq_getElem?_getD, List.getElem?_eq_getElem h]
    rfl
  · rw [getD_past h, List.take_of_length_le (by omega), List.take_of_length_le (by omega)]
    omega
theorem valK_set (l : List Nat) (i x : Nat) (h : i < l.length) : valK (l.set i x) + 18446744073709551616 ^ i * l.getD i 0 = valK l + 18446744073709551616 ^ i * x := by
  induction l generalizing i with
  | nil => simp at h
  | cons a l ih =>
    cases i with
    | zero => simp [valK]; omega
    | succ i =>
      have := ih i (by simpa using h)
      rw [List.set_cons_succ, valK, valK, List.getD_cons_succ, Nat.pow_succ, Nat.mul_comm (18446744073709551616 ^ i) 18446744073709551616, Nat.mul_assoc, Nat.mul_assoc]
      omega
/-- all are words -/
def Wd (l : List Nat) : Prop := ∀ d ∈ l, d < 18446744073709551616
theorem Wd.at {l : List Nat} (h : Wd l) (i : Nat) : l.getD i 0 < 18446744073709551616 := by
  rw [List.getD_eq_getElem?_getD]
  rcases e : l[i]? with _ | x
  · simp
  · exact h x (List.mem_of_getElem? e)
theorem Wd.snoc {l : List Nat} (h : Wd l) {x : Nat} (hx : x < 18446744073709551616) : Wd (l ++ [x]) := fun d hd => by
  rw [List.mem_append, List.mem_singleton] at hd
  rcases hd with hd | rfl
  · exact h d hd
  · exact hx
theorem Wd.set {l : List Nat} (h : Wd l) (i : Nat) {x : Nat} (hx : x < 18446744073709551616) : Wd (l.set i x) := fun d hd => by
  rcases List.mem_or_eq_of_mem_set hd with hd | rfl
  · exact h d hd
  · exact hx
theorem valK_lt {l : List Nat} (h : Wd l) : valK l < 18446744073709551616 ^ l.length := by
  induction l with
  | nil => simp [valK]
  | cons x l ih =>
    have h1 := h x (List.mem_cons_self ..)
    have h2 := ih fun d hd => h d (List.mem_cons_of_mem _ hd)
    rw [valK, List.length_cons, Nat.pow_succ]
    omega

/-! ### a number's four words -/
def wordsL (n : Nat) : List Nat := [wordN n 0, wordN n 1, wordN n 2, wordN n 3]
theorem wordsL_val {n : Nat} (h : n < K256) : valK (wordsL n) = n := by
  unfold wordsL valK valK valK valK valK wordN
  unfold K256 at h
  rw [Nat.pow_zero, Nat.pow_one, Nat.div_one]
  omega
theorem wordsL_wd (n : Nat) : Wd (wordsL n) := fun d hd => by
  simp only [wordsL, List.mem_cons, List.not_mem_nil, or_false] at hd
  rcases hd with rfl | rfl | rfl | rfl <;> exact wordN_lt _ _
theorem feA_wordsL (n : Nat) : feA n = ((wordsL n).map w64).toArray := by rw [feA_words]; rfl
/-- four words are those of their number -/
theorem words_feA (l : List Nat) (hl : l.length = 4) (hw : Wd l) : (l.map w64).toArray = feA (valK l) ∧ valK l < K256 := by
  match l, hl with
  | [a, b, c, d], _ =>
    have ha := hw a (by simp)
    have hb := hw b (by simp)
    have hc := hw c (by simp)
    have hd := hw d (by simp)
    obtain ⟨n, hn, he, hv⟩ := fe_of a b c d ha hb hc hd
    have e : valK [a, b, c, d] = n := by
      rw [hv]
      unfold valK valK valK valK valK
      omega
    rw [e]
    injection he with he
    exact ⟨he, hn⟩

/-! ### sums and differences, word by word -/
theorem sum_step {V A B c s xa xb i : Nat} (h : V + 18446744073709551616 ^ i * c = A + B) (hs : s = xa + xb + c) : (V + 18446744073709551616 ^ i * (s % 18446744073709551616)) + 18446744073709551616 ^ (i + 1) * (s / 18446744073709551616) = (A + 18446744073709551616 ^ i * xa) + (B + 18446744073709551616 ^ i * xb) := by
  have e := Nat.div_add_mod s 18446744073709551616
  have e2 : 18446744073709551616 ^ i * (s % 18446744073709551616) + 18446744073709551616 ^ (i + 1) * (s / 18446744073709551616) = 18446744073709551616 ^ i * s := by
    rw [Nat.pow_succ, Nat.mul_assoc, ← Nat.mul_add]
    congr 1
    omega
  have e3 : 18446744073709551616 ^ i * s = 18446744073709551616 ^ i * xa + 18446744073709551616 ^ i * xb + 18446744073709551616 ^ i * c := by rw [hs, Nat.mul_add, Nat.mul_add]
  omega
theorem diff_step {V A B c xa xb i : Nat} (h : V + B = A + 18446744073709551616 ^ i * c) (ha : xa < 18446744073709551616) (hb : xb < 18446744073709551616) (hc : c ≤ 1) :
    (V + 18446744073709551616 ^ i * ((xa + 18446744073709551616 - xb - c) % 18446744073709551616)) + (B + 18446744073709551616 ^ i * xb) = (A + 18446744073709551616 ^ i * xa) + 18446744073709551616 ^ (i + 1) * (if xa < xb + c then 1 else 0) := by
  have e : (xa + 18446744073709551616 - xb - c) % 18446744073709551616 + xb + c = xa + 18446744073709551616 * (if xa < xb + c then 1 else 0) := by
    split <;> omega
  have e2 : 18446744073709551616 ^ i * ((xa + 18446744073709551616 - xb - c) % 18446744073709551616) + 18446744073709551616 ^ i * xb + 18446744073709551616 ^ i * c = 18446744073709551616 ^ i * xa + 18446744073709551616 ^ (i + 1) * (if xa < xb + c then 1 else 0) := by
    rw [Nat.pow_succ, Nat.mul_assoc, ← Nat.mul_add, ← Nat.mul_add, ← Nat.mul_add, e]
  omega
end Go.Proofs.YtgefhfcmiefocaaGreatDoor.F

/- A product of words, word by word. Nothing of the program is named here. -/
namespace Go.Proofs.YtgefhfcmiefocaaGreatDoor.F

/-- one product, what is carried, and what stood there -/
theorem mul_step {x y c o : Nat} (hx : x < 18446744073709551616) (hy : y < 18446744073709551616) (hc : c < 18446744073709551616) (ho : o < 18446744073709551616) :
    ∃ h l l2 m1 nw m2 : Nat, x * y / 18446744073709551616 = h ∧ x * y % 18446744073709551616 = l ∧ (l + c + 0) % 18446744073709551616 = l2 ∧ (l + c + 0) / 18446744073709551616 = m1 ∧ (o + l2 + 0) % 18446744073709551616 = nw ∧ (o + l2 + 0) / 18446744073709551616 = m2 ∧
      h < 18446744073709551616 ∧ l < 18446744073709551616 ∧ l2 < 18446744073709551616 ∧ h + m1 < 18446744073709551616 ∧ h + m1 + m2 < 18446744073709551616 ∧ nw < 18446744073709551616 ∧ nw + 18446744073709551616 * (h + m1 + m2) = x * y + c + o := by
  have h1 := Nat.mul_le_mul (show x ≤ 18446744073709551615 by omega) (show y ≤ 18446744073709551615 by omega)
  have h2 := Nat.le_trans h1 (show 18446744073709551615 * 18446744073709551615 ≤ 340282366920938463426481119284349108225 by decide)
  clear h1
  generalize x * y = p at h2
  exact ⟨_, _, _, _, _, _, rfl, rfl, rfl, rfl, rfl, rfl, by omega, by omega, by omega, by omega, by omega, by omega, by omega⟩
theorem listA_at (l : List Nat) (j : Nat) (h : j < l.length) : ((l.map w64).toArray)[j]? = some (w64 (l.getD j 0)) := by
  rw [List.getElem?_toArray, List.getElem?_map, List.getElem?_eq_getElem h, List.getD_eq_getElem?_getD, List.getElem?_eq_getElem h]
  rfl
theorem listA_set (l : List Nat) (j x : Nat) : ((l.map w64).toArray).setIfInBounds j (w64 x) = ((l.set j x).map w64).toArray := by
  rw [List.setIfInBounds_toArray, List.map_set]
theorem set_getD (l : List Nat) (i j x : Nat) (h : i ≠ j) : (l.set i x).getD j 0 = l.getD j 0 := by
  rw [List.getD_eq_getElem?_getD, List.getD_eq_getElem?_getD, List.getElem?_set_ne h]
/-- the inner step -/
theorem inner_step {al : List Nat} {V A x y c o nw q i k : Nat} (hl : i + k < al.length) (ho : al.getD (i + k) 0 = o) (h : valK al + 18446744073709551616 ^ (i + k) * c = V + 18446744073709551616 ^ i * (x * A)) (hs : nw + 18446744073709551616 * q = x * y + c + o) :
    valK (al.set (i + k) nw) + 18446744073709551616 ^ (i + (k + 1)) * q = V + 18446744073709551616 ^ i * (x * (A + 18446744073709551616 ^ k * y)) := by
  have h1 := valK_set al (i + k) nw hl
  rw [ho] at h1
  have h2 : 18446744073709551616 ^ (i + k) * nw + 18446744073709551616 ^ (i + (k + 1)) * q = 18446744073709551616 ^ (i + k) * (x * y) + 18446744073709551616 ^ (i + k) * c + 18446744073709551616 ^ (i + k) * o := by
    rw [← Nat.add_assoc, Nat.pow_succ, Nat.mul_assoc, ← Nat.mul_add, hs, Nat.mul_add, Nat.mul_add]
  have h3 : 18446744073709551616 ^ i * (x * (A + 18446744073709551616 ^ k * y)) = 18446744073709551616 ^ i * (x * A) + 18446744073709551616 ^ (i + k) * (x * y) := by
    rw [Nat.mul_add, Nat.mul_add, Nat.pow_add, Nat.mul_left_comm x, Nat.mul_assoc]
  rw [h3]
  omega
/-- a row's end -/
theorem row_step {al : List Nat} {V x n c i : Nat} (hl : i + 4 < al.length) (ho : al.getD (i + 4) 0 = 0) (h : valK al + 18446744073709551616 ^ (i + 4) * c = V * n + 18446744073709551616 ^ i * (x * n)) :
    valK (al.set (i + 4) c) = (V + 18446744073709551616 ^ i * x) * n := by
  have h1 := valK_set al (i + 4) c hl
  rw [ho, Nat.mul_zero, Nat.add_zero] at h1
  rw [Nat.add_mul, Nat.mul_assoc, h1, h]
/-- what stands above four words counts 38 times -/
theorem high_step {V L H c x o nw q i : Nat} (h : V + 18446744073709551616 ^ i * c = L + 38 * H) (hs : nw + 18446744073709551616 * q = x * 38 + c + o) :
    (V + 18446744073709551616 ^ i * nw) + 18446744073709551616 ^ (i + 1) * q = (L + 18446744073709551616 ^ i * o) + 38 * (H + 18446744073709551616 ^ i * x) := by
  have h2 : 18446744073709551616 ^ i * nw + 18446744073709551616 ^ (i + 1) * q = 18446744073709551616 ^ i * (x * 38) + 18446744073709551616 ^ i * c + 18446744073709551616 ^ i * o := by
    rw [Nat.pow_succ, Nat.mul_assoc, ← Nat.mul_add, hs, Nat.mul_add, Nat.mul_add]
  have h3 : 38 * (H + 18446744073709551616 ^ i * x) = 38 * H + 18446744073709551616 ^ i * (x * 38) := by
    rw [Nat.mul_add, Nat.mul_left_comm, Nat.mul_comm 38 x]
  rw [h3]
  omega
end Go.Proofs.YtgefhfcmiefocaaGreatDoor.F

