/- The contracts of the scalars' Bytes, read and Wide. -/
import Derived.Test.YtknpgijapbkebaaDoorGMul
import Derived.Test.YtknpgijapbkebaaDoorFByteMath
namespace Go.Proofs.YtknpgijapbkebaaDoor.F
set_option maxRecDepth 100000
open Go.RowKit Go.Sort
attribute [local irreducible] feA

theorem wordsL_nth (n q : Nat) (h : q < 4) : (wordsL n).getD q 0 = wordN n q := by
  match q, h with
  | 0, _ | 1, _ | 2, _ | 3, _ => rfl
/-- some bytes, zeros behind them -/
def byA (l : List UInt8) (n : Nat) : Array Value := (Lib.byteCells l ++ List.replicate (n - l.length) (Value.int .u8 0)).toArray
abbrev z32A : Array Value := #[.int .u8 0, .int .u8 0, .int .u8 0, .int .u8 0, .int .u8 0, .int .u8 0, .int .u8 0, .int .u8 0, .int .u8 0, .int .u8 0, .int .u8 0, .int .u8 0, .int .u8 0, .int .u8 0, .int .u8 0, .int .u8 0, .int .u8 0, .int .u8 0, .int .u8 0, .int .u8 0, .int .u8 0, .int .u8 0, .int .u8 0, .int .u8 0, .int .u8 0, .int .u8 0, .int .u8 0, .int .u8 0, .int .u8 0, .int .u8 0, .int .u8 0, .int .u8 0]
theorem byA_zero : byA [] 32 = z32A := rfl
theorem byA_set (l : List UInt8) (n i : Nat) (b : UInt8) (v : Value) (hv : v = Value.int .u8 (b.toNat : Int)) (hl : l.length = i) (hi : i < n) : (byA l n).setIfInBounds i v = byA (l ++ [b]) n := by
  unfold byA
  rw [List.setIfInBounds_toArray, hv]
  congr 1
  obtain ⟨m, hm⟩ : ∃ m, n - l.length = m + 1 := ⟨n - l.length - 1, by omega⟩
  have hc : (Lib.byteCells l).length = i := by simp [Lib.byteCells, hl]
  rw [hm, List.set_append_right _ _ (by omega), hc, Nat.sub_self, List.replicate_succ, List.set_cons_zero, List.length_append, List.length_singleton, show n - (l.length + 1) = m by omega, Lib.byteCells_append, List.append_assoc]
  rfl
theorem byA_at (l : List UInt8) (n i : Nat) (hi : i < n) : ∃ v, (byA l n)[i]? = some v := by
  unfold byA
  rw [List.getElem?_toArray]
  by_cases h : i < l.length
  · exact ⟨_, List.getElem?_eq_getElem (by simp [Lib.byteCells]; omega)⟩
  · exact ⟨_, List.getElem?_eq_getElem (by simp [Lib.byteCells]; omega)⟩
theorem byA_full (l : List UInt8) (n i : Nat) (hl : l.length = n) (hi : i < n) : (byA l n)[i]? = some (Value.int .u8 ((l[i]'(by omega)).toNat : Int)) := by
  subst hl
  unfold byA
  rw [List.getElem?_toArray, Nat.sub_self, List.replicate_zero, List.append_nil, Lib.byteCells, List.getElem?_map, List.getElem?_eq_getElem hi]
  rfl

theorem byte_cast (X r : Nat) : IntKind.u8.wrap ((X : Int) / 2 ^ (8 * r)) = (((X / 2 ^ (8 * r) % 256).toUInt8.toNat : Nat) : Int) := by
  have e2 : (X : Int) / 2 ^ (8 * r) = ((X / 2 ^ (8 * r) : Nat) : Int) := by rw [Int.natCast_ediv, Int.natCast_pow]; rfl
  have h : (X / 2 ^ (8 * r) % 256).toUInt8.toNat = X / 2 ^ (8 * r) % 256 := by rw [Nat.toUInt8, UInt8.toNat_ofNat']; omega
  rw [e2, h, IntKind.wrap_u8]
  omega

theorem fe0A_one : Ones fe0A := by unfold Ones; simp [Value.oneCell']
set_option maxRecDepth 100000 in
set_option maxHeartbeats 800000 in
theorem sBytes_any (n : Nat) (W : World) (hn : n < K256) (hT : Tab W) :
    Calls Tryd.prog 17 #[fe n] W fun e w' => e = .returned (.string ⟨(leL (n % l25) 32).toArray⟩) ∧ Below W.heap.size W w' := by
  have HL := Lib.hid (fun w hT => sLeast_any n w hn hT)
  generalize n % l25 = N at *
  go_enter Tryd.func17, Tryd.ntmps17
  have hz := Lies.new W 24 (feA n)
  have hB := (Below.refl W.heap.size W).alloc (Nat.le_refl _) (.cells (feA n) 24)
  go_upto_region 1 with fail
  generalize World.alloc W _ = w0 at *
  replace hT := hT.on hB
  go_upto_region 2 with (first
    | ((with_reducible refine wpL_load W.heap.size 24 (feA n) 4 rowFe (feA_size _) hz ?_ ?_); rfl)
    | (go_at_call 9; refine (HL.out _ hT).mono ?_; rintro e w1 ⟨rfl, hb⟩; replace hz := hz.on hb; replace hB := below_on hB hb; clear hb)
    | ((with_reducible refine wpL_store W.heap.size 24 _ (feA N) 4 rowFe (feA_size _) (feA_size _) (feA_one _) hz ?_ ?_ ?_); rfl; rfl))
  replace hz := hz.row (feA N)
  replace hB := below_rowSet hB (Nat.le_refl _) (feA N)
  generalize World.setRow _ _ _ = w2 at *
  rw [feA_wordsL] at hz
  have hy : Lies (w2.alloc (.cells z32A 50)) w2.heap.size 50 (byA [] 32) := Lies.new w2 _ _
  have hgz : W.heap.size < w2.heap.size := hz.lt
  replace hz := hz.alloc (.cells z32A 50)
  have hsz := hB.size
  replace hB := hB.alloc hsz (.cells z32A 50)
  go_upto_region 3 with fail
  generalize World.alloc w2 _ = w3 at *
  generalize w2.heap.size = gb at *
  clear HL hT
  go_wp2_with fail
  go_loopw [7] (fun ix wr => ∃ k : Nat, k ≤ 32 ∧ ix = .int .i64 (k : Int) ∧ Lies wr gb 50 (byA (leL N k) 32) ∧ Lies wr W.heap.size 24 ((wordsL N).map w64).toArray ∧ Below W.heap.size W wr) (fun ix _ => 32 - (intOf ix).toNat)
  case atStart => exact ⟨0, by omega, rfl, hy, hz, hB⟩
  case round =>
    clear hy hz hB
    obtain ⟨k, hk, rfl, hy, hz, hB⟩ := hrel
    by_cases hlt : k < 32
    · obtain ⟨q, hq⟩ : ∃ q, k / 8 = q := ⟨_, rfl⟩
      obtain ⟨r, hr⟩ : ∃ r, k % 8 = r := ⟨_, rfl⟩
      have hq4 : q < 4 := by omega
      have cx := (hz.cell q).trans (listA_at (wordsL N) q hq4)
      have hW := word_byte N k
      rw [hq, hr, ← wordsL_nth N q hq4] at hW
      generalize (wordsL N).getD q 0 = X at *
      have hby := byte_cast X r
      rw [hW] at hby
      have HS := Lib.hid (leL_succ N k)
      generalize (N / 256 ^ k % 256).toUInt8 = B at *
      have HA := Lib.hid (byA_set (leL N k) 32 k B _ rfl (leL_length N k) hlt)
      obtain ⟨vo, hvo⟩ := byA_at (leL N k) 32 k hlt
      have cy := (hy.cell k).trans hvo
      have fy := hy.frozen k
      have hki : (k : Int) < 32 := by omega
      have hqi : Int.tdiv (k : Int) 8 = (q : Int) := by rw [Int.tdiv_eq_ediv_of_nonneg (by omega)]; omega
      have hri : Int.tmod (k : Int) 8 = (r : Int) := by rw [Int.tmod_eq_emod_of_nonneg (by omega)]; omega
      have hqe : (k : Int) / 8 = (q : Int) := by omega
      have hre : (k : Int) % 8 = (r : Int) := by omega
      clear hvo hW hq hr
      go_wp2_with fail
      go_roundw
      case rel => exact ⟨k + 1, by omega, by go_num, by rw [HS.out, ← HA.out]; exact hy.put k _, hz.far (by simp only; omega) _, below_put hB (by omega) _ _⟩
      case measure => simp [intOf]; omega
    · obtain rfl : k = 32 := by omega
      rw [show ((32 : Nat) : Int) = 32 from rfl]
      have hcv : (convert 51 9 (.slice (some ⟨gb, 0, none⟩) 32 32)).run Tryd.prog wr = .ok (.string ⟨(leL N 32).toArray⟩) wr := by
        have h := run_convert_bytes_back (P := Tryd.prog) wr 51 9 5 ⟨gb, 0, none⟩ 32 (leL N 32) Tryd.underlying51 Tryd.underlying5 Tryd.underlying9 (by
          intro j hj
          rw [Addr.add_mid, Nat.zero_add]
          rw [leL_length] at hj
          exact (hy.cell j).trans (byA_full _ _ j (leL_length N 32) hj))
        rw [leL_length] at h
        exact h
      clear hy hz
      go_wp2_with fail
      go_ret
      exact ⟨rfl, hB⟩

theorem or_cast (a b r : Nat) (ha : a < 256 ^ r) (hb : b < 256) (hr : r < 8) : bits BinOp.or IntKind.u64 (a : Int) (IntKind.u64.wrap ((b : Int) * 2 ^ (8 * r))) = ((a + b * 256 ^ r : Nat) : Int) := by
  obtain ⟨h1, h2, h3⟩ := or_byte a b r ha hb hr
  have e2 : (b : Int) * 2 ^ (8 * r) = ((b * 2 ^ (8 * r) : Nat) : Int) := by rw [Int.natCast_mul, Int.natCast_pow]; rfl
  have e3 : IntKind.u64.wrap ((b * 2 ^ (8 * r) : Nat) : Int) = ((b * 2 ^ (8 * r) : Nat) : Int) := by rw [IntKind.wrap_u64]; omega
  rw [e2, e3, u64_or_nat _ _ (by omega) h2, h1]

/-- one byte more, in eight words -/
theorem put_byte8 (l : List Nat) (i b : Nat) (hl : l.length = 8) (hi : i < 64) (hv : valK l < 256 ^ i) :
    l.getD (i / 8) 0 < 256 ^ (i % 8) ∧ valK (l.set (i / 8) (l.getD (i / 8) 0 + b * 256 ^ (i % 8))) = valK l + 256 ^ i * b := by
  have e : (256 : Nat) ^ i = 18446744073709551616 ^ (i / 8) * 256 ^ (i % 8) := by
    rw [show (18446744073709551616 : Nat) = 256 ^ 8 by decide, ← Nat.pow_mul, ← Nat.pow_add, Nat.div_add_mod]
  constructor
  · have h1 := valK_at_le l (i / 8)
    rw [e] at hv
    exact Nat.lt_of_mul_lt_mul_left (Nat.lt_of_le_of_lt h1 hv)
  · have h1 := valK_set l (i / 8) (l.getD (i / 8) 0 + b * 256 ^ (i % 8)) (by omega)
    rw [e]
    rw [Nat.mul_add] at h1
    have h2 : 18446744073709551616 ^ (i / 8) * (b * 256 ^ (i % 8)) = 18446744073709551616 ^ (i / 8) * 256 ^ (i % 8) * b := by
      rw [Nat.mul_comm b, Nat.mul_assoc]
    omega
theorem row8 : RowT Tryd.prog 46 8 := ⟨⟨_, Tryd.underlying46, rfl⟩, by kernel_rfl⟩
theorem z8A_one : Ones z8A := by unfold Ones; simp [Value.oneCell']
theorem words_one (l : List Nat) : Ones (l.map w64).toArray := ones_of (fun v hv => by
  obtain ⟨x, _, rfl⟩ := List.mem_map.1 hv
  rfl)

set_option maxRecDepth 100000 in
set_option maxHeartbeats 1600000 in
theorem read_any (s : ByteArray) (W : World) (h64 : s.size ≤ 64) :
    Calls Tryd.prog 28 #[.string s] W fun e w' => ∃ l : List Nat, e = .returned (.agg (l.map w64).toArray) ∧ l.length = 8 ∧ Wd l ∧ valK l = numLE s.data.toList ∧ Below W.heap.size W w' := by
  have hl : s.data.toList.length = s.size := by rw [← Lib.size_eq]
  have hS : Hid (∀ i (h : i < s.size), s.data.toList.getD i 0 = s[i]) := Lib.hid (fun i h => by
    rw [List.getD_eq_getElem?_getD, List.getElem?_eq_getElem (by simpa using h)]
    rfl)
  generalize hL : s.data.toList = L at *
  clear hL
  obtain ⟨n, hn⟩ : ∃ n, s.size = n := ⟨_, rfl⟩
  have hni : (s.size : Int) = (n : Int) := by omega
  go_enter Tryd.func28, Tryd.ntmps28
  have hr := Lies.new W 46 z8A
  have hB := (Below.refl W.heap.size W).alloc (Nat.le_refl _) (.cells z8A 46)
  go_upto_region 1 with fail
  generalize World.alloc W _ = w0 at *
  have hz : Lies (w0.alloc (.cells z8A 46)) w0.heap.size 46 (((List.replicate 8 0).map w64).toArray) := Lies.new w0 46 z8A
  have hrlt := hr.lt
  replace hr := hr.alloc (.cells z8A 46)
  have hsz := hB.size
  replace hB := hB.alloc hsz (.cells z8A 46)
  go_upto_region 2 with fail
  generalize World.alloc w0 _ = w1 at *
  generalize w0.heap.size = gx at *
  go_wp2_with fail
  go_loopw [7] (fun ix wr => ∃ (k : Nat) (l : List Nat), k ≤ n ∧ ix = .int .i64 (k : Int) ∧ l.length = 8 ∧ Wd l ∧ Hid (valK l = numLE (L.take k)) ∧ Lies wr gx 46 (l.map w64).toArray ∧ Lies wr W.heap.size 46 z8A ∧ Below W.heap.size W wr) (fun ix _ => n - (intOf ix).toNat)
  case atStart => exact ⟨0, List.replicate 8 0, by omega, rfl, rfl, (fun d hd => by rw [List.mem_replicate] at hd; omega), Lib.hid (by rw [valK_zeros]; rfl), hz, hr, hB⟩
  case round =>
    clear hz hr hB
    obtain ⟨k, l, hk, rfl, hl8, hw, HV, hz, hr, hB⟩ := hrel
    by_cases hltk : k < n
    · obtain ⟨q, hq⟩ : ∃ q, k / 8 = q := ⟨_, rfl⟩
      obtain ⟨r, hrr⟩ : ∃ r, k % 8 = r := ⟨_, rfl⟩
      have hq8 : q < 8 := by omega
      have hr8 : r < 8 := by omega
      have hks : k < s.size := by omega
      have hb8 : (s[k]).toNat < 256 := u8_lt _
      have hnt := numLE_take L k (by omega)
      rw [hS.out k hks] at hnt
      have hvlt : valK l < 256 ^ k := by
        rw [HV.out]
        have h := numLE_lt (L.take k)
        rwa [List.length_take, Nat.min_eq_left (by omega)] at h
      obtain ⟨ha, hput⟩ := put_byte8 l k (s[k]).toNat hl8 (by omega) hvlt
      have cx := (hz.cell q).trans (listA_at l q (by omega))
      have fx := hz.frozen q
      have HP := Lib.hid (fun x => listA_set l q x)
      have HW := Lib.hid hw
      rw [hq, hrr] at ha hput
      have hval := Lib.hid (or_cast (l.getD q 0) (s[k]).toNat r ha hb8 hr8)
      have hax := (or_byte (l.getD q 0) (s[k]).toNat r ha hb8 hr8).2.2
      have HN : Hid (valK (l.set q (l.getD q 0 + (s[k]).toNat * 256 ^ r)) = numLE (L.take (k + 1))) := Lib.hid (by rw [hput, hnt, HV.out])
      generalize l.getD q 0 = a at *
      have hki : (k : Int) < (n : Int) := by omega
      have hqi : Int.tdiv (k : Int) 8 = (q : Int) := by rw [Int.tdiv_eq_ediv_of_nonneg (by omega)]; omega
      have hri : Int.tmod (k : Int) 8 = (r : Int) := by rw [Int.tmod_eq_emod_of_nonneg (by omega)]; omega
      have hqe : (k : Int) / 8 = (q : Int) := by omega
      have hre : (k : Int) % 8 = (r : Int) := by omega
      have hq8i : (q : Int) < 8 := by omega
      have hr8i : (r : Int) < 8 := by omega
      have hksI : (k : Int) < (s.size : Int) := by omega
      have HL8 := Lib.hid hl8
      clear hnt hvlt hput hw HV hq hrr ha hl8
      go_upto_region 5 with fail
      have k0 := cell_regrown cx
      refine wp_region_below_tail 14 (by kernel_rfl) (by kernel_rfl) ?_
      simp only [List.take_succ_cons, List.take_zero, List.drop_succ_cons, List.drop_zero]
      repeat (go_big_quiet_step (fail))
      refine wpQuiet_nil ?_
      intro w3 hw3
      rw [hval.out]
      have hb : Below wr.heap.size wr w3 := by obtain ⟨⟨dq, osq⟩, rfl⟩ := hw3; exact below_regrown wr dq osq
      clear hw3 k0 hval
      replace hz := hz.on hb
      replace hr := hr.on hb
      replace hB := below_on hB hb
      clear hb cx fx
      have HAX := Lib.hid hax
      clear hax hb8
      generalize a + (s[k]).toNat * 256 ^ r = nv at *
      have cx := (hz.cell q).trans (listA_at l q (by rw [HL8.out]; exact hq8))
      have fx := hz.frozen q
      generalize l.getD q 0 = a2 at cx
      go_wp2_with fail
      go_roundw
      case rel => exact ⟨k + 1, l.set q nv, by omega, by go_num, by rw [List.length_set]; exact HL8.out, HW.out.set q HAX.out, HN, by rw [← HP.out]; exact hz.put q _, hr.far (by simp only; omega) _, below_put hB (by omega) _ _⟩
      case measure => simp [intOf]; omega
    · obtain rfl : k = n := by omega
      have hv := HV.out
      rw [List.take_of_length_le (by omega)] at hv
      have HE := Lib.hid hv
      have HWl := Lib.hid hw
      have HL8 := Lib.hid hl8
      clear HV hv hw hl8
      go_wp2_with (first
        | ((with_reducible refine wpL_load gx 46 ((l.map w64).toArray) 8 row8 (by simp [HL8.out]) hz ?_ ?_); rfl)
        | ((with_reducible refine wpL_store W.heap.size 46 _ ((l.map w64).toArray) 8 row8 rfl (by simp [HL8.out]) (words_one _) hr ?_ ?_ ?_); rfl; rfl))
      exact bodyPost_ret (results_row Tryd.results28 row8 (by simp [HL8.out]) (hr.row _) rfl) rfl ⟨l, rfl, HL8.out, HWl.out, HE.out, below_rowSet hB (Nat.le_refl _) _⟩

set_option maxRecDepth 100000 in
set_option maxHeartbeats 1600000 in
theorem sWide_any (s : ByteArray) (W : World) (hT : Tab W) :
    Calls Tryd.prog 15 #[.string s] W fun e w' =>
      e = .returned (if s.size ≤ 64 then .tuple #[fe (numLE s.data.toList % l25), .int .i64 0] else .tuple #[fe 0, .int .i64 1]) ∧ Below W.heap.size W w' := by
  have hT0 := Lib.hid hT
  clear hT
  have hf0 : fe 0 = .agg fe0A := fe_word 0 (by decide)
  by_cases h64 : s.size ≤ 64
  · rw [if_pos h64]
    have HR := Lib.hid (fun w => read_any s w h64)
    have hi64 : ¬ (64 : Int) < (s.size : Int) := by omega
    obtain ⟨V, hV⟩ : ∃ V, numLE s.data.toList % l25 = V := ⟨_, rfl⟩
    rw [hV]
    have HV := Lib.hid hV
    clear hV
    go_enter Tryd.func15, Tryd.ntmps15
    have hr := Lies.new W 24 fe0A
    have hB := (Below.refl W.heap.size W).alloc (Nat.le_refl _) (.cells fe0A 24)
    go_upto_region 1 with fail
    generalize World.alloc W _ = w0 at *
    go_upto_region 4 with (first
      | (go_at_call 28; refine (HR.out _).mono ?_; rintro e w1 ⟨l, rfl, hl8, hlw, hlv, hb⟩; replace hr := hr.on hb; replace hB := below_on hB hb; clear hb)
      | ((with_reducible refine wpL_store w1.heap.size 46 _ ((l.map w64).toArray) 8 row8 ?_ (by simp [hl8]) (words_one _) (Lies.new w1 _ _) ?_ ?_ ?_); rfl; rfl; rfl))
    have hz := newly_lies w1 46 z8A ((l.map w64).toArray)
    have hnw := newly w1 (.cells z8A 46) ((l.map w64).toArray)
    replace hr := hr.on hnw
    replace hB := below_on hB hnw
    clear hnw
    generalize World.setRow _ _ _ = w2 at *
    generalize w1.heap.size = gz at *
    have HL := Lib.hid (fun (w : World) g (hd : Wrd w g 0 l) (hT : Tab w) => long_any l g 0 8 w (by omega) hlw hd hT)
    rw [hlv, HV.out, hl8] at HL
    have hd := lies_wrd hz
    have hT := hT0.out.on hB
    clear hz hlw hlv hl8
    go_wp2_with (first
      | (go_at_call 21; refine (HL.out _ _ hd hT).mono ?_; rintro e w3 ⟨rfl, hb⟩; replace hr := hr.on hb; replace hB := below_on hB hb; clear hb)
      | ((with_reducible refine wpL_store W.heap.size 24 _ (feA V) 4 rowFe rfl (feA_size _) (feA_one _) hr ?_ ?_ ?_); rfl; rfl))
    exact bodyPost_ret (results_row_tmp Tryd.results15 rowFe (feA_size _) (hr.row _) rfl rfl) rfl ⟨rfl, below_rowSet hB (Nat.le_refl _) _⟩
  · rw [if_neg h64]
    have hi64 : (64 : Int) < (s.size : Int) := by omega
    go_enter Tryd.func15, Tryd.ntmps15
    have hr := Lies.new W 24 fe0A
    have hB := (Below.refl W.heap.size W).alloc (Nat.le_refl _) (.cells fe0A 24)
    go_upto_region 1 with fail
    generalize World.alloc W _ = w0 at *
    go_wp2_with ((with_reducible refine wpL_store W.heap.size 24 _ fe0A 4 rowFe rfl rfl fe0A_one hr ?_ ?_ ?_); rfl; rfl)
    exact bodyPost_ret (results_row_tmp Tryd.results15 rowFe rfl (hr.row fe0A) rfl rfl) rfl ⟨by rw [hf0]; rfl, below_rowSet hB (Nat.le_refl _) _⟩

end Go.Proofs.YtknpgijapbkebaaDoor.F
