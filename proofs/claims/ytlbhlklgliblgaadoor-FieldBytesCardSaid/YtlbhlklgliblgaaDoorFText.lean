/- The contracts of the program's Bytes and Parse. -/
import Derived.Test.YtlbhlklgliblgaaDoorFSqrt
import Derived.Test.YtlbhlklgliblgaaDoorFByteMath
namespace Go.Proofs.YtlbhlklgliblgaaDoor.F
open Go.RowKit Go.Sort
attribute [local irreducible] feA

theorem wordsL_nth (n q : Nat) (h : q < 4) : (wordsL n).getD q 0 = wordN n q := by
  match q, h with
  | 0, _ | 1, _ | 2, _ | 3, _ => rfl
/-- some bytes, zeros behind them -/
def byA (l : List UInt8) (n : Nat) : Array Value := (Lib.byteCells l ++ List.replicate (n - l.length) (Value.int .u8 0)).toArray
abbrev z32A : Array Value := #[.int .u8 0, .int .u8 0, .int .u8 0, .int .u8 0, .int .u8 0, .int .u8 0, .int .u8 0, .int .u8 0, .int .u8 0, .int .u8 0, .int .u8 0, .int .u8 0, .int .u8 0, .int .u8 0, .int .u8 0, .int .u8 0, .int .u8 0, .int .u8 0, .int .u8 0, .int .u8 0, .int .u8 0, .int .u8 0, .int .u8 0, .int .u8 0, .int .u8 0, .int .u8 0, .int .u8 0, .int .u8 0, .int .u8 0, .int .u8 0, .int .u8 0, .int .u8 0]
theorem byA_zero : byA [] 32 = z32A := rfl
theorem byA_set (l : List UInt8) (n i : Nat) (b : UInt8) (v : Value) (hv : v = Value.int .u8 (b.toNat : Int)) (hl : l.length = i) (hi : i < n) : (byA l n).setIfInBounds i v = byA (l ++ [b]) n := by
  unfold byA
  rw [List.setIfInBounds_toArray, hv]
  congr 1
  obtain ⟨m, hm⟩ : ∃ m, n - l.length = m + 1 := ⟨n - l.length - 1, by omega⟩
  have hc : (Lib.byteCells l).length = i := by simp [Lib.byteCells, hl]
  rw [hm, List.set_append_right _ _ (by omega), hc, Nat.sub_self, List.replicate_succ, List.set_cons_zero, List.length_append, List.length_singleton, show n - (l.length + 1) = m by omega, Lib.byteCells_append, List.append_assoc]
  rfl
theorem byA_at (l : List UInt8) (n i : Nat) (hi : i < n) : ∃ v, (byA l n)[i]? = some v := by
  unfold byA
  rw [List.getElem?_toArray]
  by_cases h : i < l.length
  · exact ⟨_, List.getElem?_eq_getElem (by simp [Lib.byteCells]; omega)⟩
  · exact ⟨_, List.getElem?_eq_getElem (by simp [Lib.byteCells]; omega)⟩
theorem byA_full (l : List UInt8) (n i : Nat) (hl : l.length = n) (hi : i < n) : (byA l n)[i]? = some (Value.int .u8 ((l[i]'(by omega)).toNat : Int)) := by
  subst hl
  unfold byA
  rw [List.getElem?_toArray, Nat.sub_self, List.replicate_zero, List.append_nil, Lib.byteCells, List.getElem?_map, List.getElem?_eq_getElem hi]
  rfl

theorem byte_cast (X r : Nat) : IntKind.u8.wrap ((X : Int) / 2 ^ (8 * r)) = (((X / 2 ^ (8 * r) % 256).toUInt8.toNat : Nat) : Int) := by
  have e2 : (X : Int) / 2 ^ (8 * r) = ((X / 2 ^ (8 * r) : Nat) : Int) := by rw [Int.natCast_ediv, Int.natCast_pow]; rfl
  have h : (X / 2 ^ (8 * r) % 256).toUInt8.toNat = X / 2 ^ (8 * r) % 256 := by rw [Nat.toUInt8, UInt8.toNat_ofNat']; omega
  rw [e2, h, IntKind.wrap_u8]
  omega

set_option maxRecDepth 100000 in
set_option maxHeartbeats 800000 in
theorem fBytes_any (n : Nat) (W : World) (hn : n < K256) (hT : Tab W) :
    Calls Tryd.prog 19 #[fe n] W fun e w' => e = .returned (.string ⟨(leL (n % p25) 32).toArray⟩) ∧ Below W.heap.size W w' := by
  have HL := Lib.hid (fun w hT => least_any n w hn hT)
  generalize n % p25 = N at *
  go_enter Tryd.func19, Tryd.ntmps19
  have hz := Lies.new W 24 (feA n)
  have hB := (Below.refl W.heap.size W).alloc (Nat.le_refl _) (.cells (feA n) 24)
  go_upto_region 1 with fail
  generalize World.alloc W _ = w0 at *
  replace hT := hT.on hB
  go_upto_region 2 with (first
    | ((with_reducible refine wpL_load W.heap.size 24 (feA n) 4 rowFe (feA_size _) hz ?_ ?_); rfl)
    | (go_at_call 11; refine (HL.out _ hT).mono ?_; rintro e w1 ⟨rfl, hb⟩; replace hz := hz.on hb; replace hB := below_on hB hb; clear hb)
    | ((with_reducible refine wpL_store W.heap.size 24 _ (feA N) 4 rowFe (feA_size _) (feA_size _) (feA_one _) hz ?_ ?_ ?_); rfl; rfl))
  replace hz := hz.row (feA N)
  replace hB := below_rowSet hB (Nat.le_refl _) (feA N)
  generalize World.setRow _ _ _ = w2 at *
  rw [feA_wordsL] at hz
  have hy : Lies (w2.alloc (.cells z32A 53)) w2.heap.size 53 (byA [] 32) := Lies.new w2 _ _
  have hgz : W.heap.size < w2.heap.size := hz.lt
  replace hz := hz.alloc (.cells z32A 53)
  have hsz := hB.size
  replace hB := hB.alloc hsz (.cells z32A 53)
  go_upto_region 3 with fail
  generalize World.alloc w2 _ = w3 at *
  generalize w2.heap.size = gb at *
  clear HL hT
  go_wp2_with fail
  go_loopw [7] (fun ix wr => ∃ k : Nat, k ≤ 32 ∧ ix = .int .i64 (k : Int) ∧ Lies wr gb 53 (byA (leL N k) 32) ∧ Lies wr W.heap.size 24 ((wordsL N).map w64).toArray ∧ Below W.heap.size W wr) (fun ix _ => 32 - (intOf ix).toNat)
  case atStart => exact ⟨0, by omega, rfl, hy, hz, hB⟩
  case round =>
    clear hy hz hB
    obtain ⟨k, hk, rfl, hy, hz, hB⟩ := hrel
    by_cases hlt : k < 32
    · obtain ⟨q, hq⟩ : ∃ q, k / 8 = q := ⟨_, rfl⟩
      obtain ⟨r, hr⟩ : ∃ r, k % 8 = r := ⟨_, rfl⟩
      have hq4 : q < 4 := by omega
      have cx := (hz.cell q).trans (listA_at (wordsL N) q hq4)
      have hW := word_byte N k
      rw [hq, hr, ← wordsL_nth N q hq4] at hW
      generalize (wordsL N).getD q 0 = X at *
      have hby := byte_cast X r
      rw [hW] at hby
      have HS := Lib.hid (leL_succ N k)
      generalize (N / 256 ^ k % 256).toUInt8 = B at *
      have HA := Lib.hid (byA_set (leL N k) 32 k B _ rfl (leL_length N k) hlt)
      obtain ⟨vo, hvo⟩ := byA_at (leL N k) 32 k hlt
      have cy := (hy.cell k).trans hvo
      have fy := hy.frozen k
      have hki : (k : Int) < 32 := by omega
      have hqi : Int.tdiv (k : Int) 8 = (q : Int) := by rw [Int.tdiv_eq_ediv_of_nonneg (by omega)]; omega
      have hri : Int.tmod (k : Int) 8 = (r : Int) := by rw [Int.tmod_eq_emod_of_nonneg (by omega)]; omega
      have hqe : (k : Int) / 8 = (q : Int) := by omega
      have hre : (k : Int) % 8 = (r : Int) := by omega
      clear hvo hW hq hr
      go_wp2_with fail
      go_roundw
      case rel => exact ⟨k + 1, by omega, by go_num, by rw [HS.out, ← HA.out]; exact hy.put k _, hz.far (by simp only; omega) _, below_put hB (by omega) _ _⟩
      case measure => simp [intOf]; omega
    · obtain rfl : k = 32 := by omega
      rw [show ((32 : Nat) : Int) = 32 from rfl]
      have hcv : (convert 54 9 (.slice (some ⟨gb, 0, none⟩) 32 32)).run Tryd.prog wr = .ok (.string ⟨(leL N 32).toArray⟩) wr := by
        have h := run_convert_bytes_back (P := Tryd.prog) wr 54 9 5 ⟨gb, 0, none⟩ 32 (leL N 32) Tryd.underlying54 Tryd.underlying5 Tryd.underlying9 (by
          intro j hj
          rw [Addr.add_mid, Nat.zero_add]
          rw [leL_length] at hj
          exact (hy.cell j).trans (byA_full _ _ j (leL_length N 32) hj))
        rw [leL_length] at h
        exact h
      clear hy hz
      go_wp2_with fail
      go_ret
      exact ⟨rfl, hB⟩

theorem or_cast (a b r : Nat) (ha : a < 256 ^ r) (hb : b < 256) (hr : r < 8) : bits BinOp.or IntKind.u64 (a : Int) (IntKind.u64.wrap ((b : Int) * 2 ^ (8 * r))) = ((a + b * 256 ^ r : Nat) : Int) := by
  obtain ⟨h1, h2, h3⟩ := or_byte a b r ha hb hr
  have e2 : (b : Int) * 2 ^ (8 * r) = ((b * 2 ^ (8 * r) : Nat) : Int) := by rw [Int.natCast_mul, Int.natCast_pow]; rfl
  have e3 : IntKind.u64.wrap ((b * 2 ^ (8 * r) : Nat) : Int) = ((b * 2 ^ (8 * r) : Nat) : Int) := by rw [IntKind.wrap_u64]; omega
  rw [e2, e3, u64_or_nat _ _ (by omega) h2, h1]

set_option maxRecDepth 100000 in
set_option maxHeartbeats 1600000 in
theorem fParse_any (s : ByteArray) (W : World) (hT : Tab W) :
    Calls Tryd.prog 20 #[.string s] W fun e w' =>
      e = .returned (if s.size = 32 then if numLE s.data.toList < p25 then .tuple #[fe (numLE s.data.toList), .int .i64 0] else .tuple #[fe 0, .int .i64 2] else .tuple #[fe 0, .int .i64 1]) ∧ Below W.heap.size W w' := by
  have hT0 := Lib.hid hT
  clear hT
  have hf0 : fe 0 = .agg fe0A := fe_word 0 (by decide)
  by_cases h32 : s.size = 32
  · rw [if_pos h32]
    have hl32 : s.data.toList.length = 32 := by rw [← Lib.size_eq]; exact h32
    have hS : Hid (∀ i (h : i < s.size), s.data.toList.getD i 0 = s[i]) := Lib.hid (fun i h => by
      rw [List.getD_eq_getElem?_getD, List.getElem?_eq_getElem (by simpa using h)]
      rfl)
    generalize hL : s.data.toList = L at *
    clear hL
    obtain ⟨V, hVV⟩ : ∃ V, (if numLE L < p25 then Value.tuple #[fe (numLE L), .int .i64 0] else .tuple #[fe 0, .int .i64 2]) = V := ⟨_, rfl⟩
    rw [hVV]
    have HVV := Lib.hid hVV
    clear hVV
    go_enter Tryd.func20, Tryd.ntmps20
    have hr := Lies.new W 24 fe0A
    have hB := (Below.refl W.heap.size W).alloc (Nat.le_refl _) (.cells fe0A 24)
    have hi32 : (s.size : Int) = 32 := by omega
    go_upto_region 1 with fail
    generalize World.alloc W _ = w0 at *
    have hz : Lies (w0.alloc (.cells fe0A 24)) w0.heap.size 24 (([0, 0, 0, 0] : List Nat).map w64).toArray := Lies.new w0 _ _
    have hlt := hr.lt
    replace hr := hr.alloc (.cells fe0A 24)
    have hsz := hB.size
    replace hB := hB.alloc hsz (.cells fe0A 24)
    go_upto_region 4 with fail
    generalize World.alloc w0 _ = w1 at *
    generalize w0.heap.size = gx at *
    go_wp2_with fail
    go_loopw [10] (fun ix wr => ∃ (k : Nat) (l : List Nat), k ≤ 32 ∧ ix = .int .i64 (k : Int) ∧ l.length = 4 ∧ Wd l ∧ Hid (valK l = numLE (L.take k)) ∧ Lies wr gx 24 (l.map w64).toArray ∧ Lies wr W.heap.size 24 fe0A ∧ Below W.heap.size W wr) (fun ix _ => 32 - (intOf ix).toNat)
    case atStart => exact ⟨0, [0, 0, 0, 0], by omega, rfl, rfl, (fun d hd => by simp at hd; omega), Lib.hid rfl, hz, hr, hB⟩
    case round =>
      clear hz hr hB
      obtain ⟨k, l, hk, rfl, hl, hw, HV, hz, hr, hB⟩ := hrel
      by_cases hltk : k < 32
      · obtain ⟨q, hq⟩ : ∃ q, k / 8 = q := ⟨_, rfl⟩
        obtain ⟨r, hrr⟩ : ∃ r, k % 8 = r := ⟨_, rfl⟩
        have hq4 : q < 4 := by omega
        have hr8 : r < 8 := by omega
        have hks : k < s.size := by omega
        have hb8 : (s[k]).toNat < 256 := u8_lt _
        have hnt := numLE_take L k (by omega)
        rw [hS.out k hks] at hnt
        have hvlt : valK l < 256 ^ k := by
          rw [HV.out]
          have h := numLE_lt (L.take k)
          rwa [List.length_take, Nat.min_eq_left (by omega)] at h
        obtain ⟨ha, hput⟩ := put_byte l k (s[k]).toNat hl hltk hvlt
        have cx := (hz.cell q).trans (listA_at l q (by omega))
        have fx := hz.frozen q
        have HP := Lib.hid (fun x => listA_set l q x)
        have HW := Lib.hid hw
        rw [hq, hrr] at ha hput
        have hval := Lib.hid (or_cast (l.getD q 0) (s[k]).toNat r ha hb8 hr8)
        have hax := (or_byte (l.getD q 0) (s[k]).toNat r ha hb8 hr8).2.2
        have HN : Hid (valK (l.set q (l.getD q 0 + (s[k]).toNat * 256 ^ r)) = numLE (L.take (k + 1))) := Lib.hid (by rw [hput, hnt, HV.out])
        generalize l.getD q 0 = a at *
        have hki : (k : Int) < 32 := by omega
        have hqi : Int.tdiv (k : Int) 8 = (q : Int) := by rw [Int.tdiv_eq_ediv_of_nonneg (by omega)]; omega
        have hri : Int.tmod (k : Int) 8 = (r : Int) := by rw [Int.tmod_eq_emod_of_nonneg (by omega)]; omega
        have hqe : (k : Int) / 8 = (q : Int) := by omega
        have hre : (k : Int) % 8 = (r : Int) := by omega
        have hq4i : (q : Int) < 4 := by omega
        have hr8i : (r : Int) < 8 := by omega
        have hksI : (k : Int) < (s.size : Int) := by omega
        clear hnt hvlt hput hw HV hq hrr ha
        go_upto_region 7 with fail
        have k0 := cell_regrown cx
        refine wp_region_below_tail 14 (by kernel_rfl) (by kernel_rfl) ?_
        simp only [List.take_succ_cons, List.take_zero, List.drop_succ_cons, List.drop_zero]
        repeat (go_big_quiet_step (fail))
        refine wpQuiet_nil ?_
        intro w3 hw3
        rw [hval.out]
        have hb : Below wr.heap.size wr w3 := by obtain ⟨⟨dq, osq⟩, rfl⟩ := hw3; exact below_regrown wr dq osq
        clear hw3 k0 hval
        replace hz := hz.on hb
        replace hr := hr.on hb
        replace hB := below_on hB hb
        clear hb cx fx
        have HAX := Lib.hid hax
        clear hax hb8
        generalize a + (s[k]).toNat * 256 ^ r = nv at *
        have cx := (hz.cell q).trans (listA_at l q (by omega))
        have fx := hz.frozen q
        generalize l.getD q 0 = a2 at cx
        go_wp2_with fail
        go_roundw
        case rel => exact ⟨k + 1, l.set q nv, by omega, by go_num, by rw [List.length_set]; exact hl, HW.out.set q HAX.out, HN, by rw [← HP.out]; exact hz.put q _, hr.far (by simp only; omega) _, below_put hB (by omega) _ _⟩
        case measure => simp [intOf]; omega
      · obtain rfl : k = 32 := by omega
        rw [show ((32 : Nat) : Int) = 32 from rfl]
        obtain ⟨hwe, hwK⟩ := words_feA l hl hw
        rw [hwe] at hz
        have hv := HV.out
        rw [List.take_of_length_le (by omega)] at hv
        rw [hv] at hz hwK
        have HL := Lib.hid (fun w hT => least_any (numLE L) w hwK hT)
        have hcase : Hid ((numLE L < p25 ∧ numLE L % p25 = numLE L) ∨ (¬ numLE L < p25 ∧ numLE L % p25 ≠ numLE L)) := Lib.hid (by
          by_cases h : numLE L < p25
          · exact .inl ⟨h, Nat.mod_eq_of_lt h⟩
          · refine .inr ⟨h, fun e => h ?_⟩
            rw [← e]
            exact Nat.mod_lt _ p25_pos)
        have hmK := mod_K (numLE L)
        have HN := Lib.hid (show numLE L = numLE L from rfl)
        clear hwe hv HV hw hl HN
        generalize numLE L % p25 = M at *
        generalize numLE L = N at *
        have hT := hT0.out.on hB
        go_upto_region 9 with fail
        refine wp_region_all (by kernel_rfl) (by kernel_rfl) ?_
        refine wpQB_fe gx N hz rfl ?_
        simp only [Act.put, List.setIfInBounds_toArray, List.set_cons_succ, List.set_cons_zero]
        refine wpQB_call 11 #[fe N] (fe M) rfl rfl (fun _ => by kernel_rfl) (fun w hb => HL.out w (hT.on hb)) ?_
        simp only [Act.put, List.setIfInBounds_toArray, List.set_cons_succ, List.set_cons_zero]
        refine wpQB_fe gx N hz rfl ?_
        simp only [Act.put, List.setIfInBounds_toArray, List.set_cons_succ, List.set_cons_zero]
        refine wpQB_run (.bool (!decide (M = N))) rfl (fun w _ => neq_exec rfl M N hmK hwK rfl rfl w) ?_
        simp only [Act.put, List.setIfInBounds_toArray, List.set_cons_succ, List.set_cons_zero]
        refine wpQB_nil ?_
        intro w3 hb
        replace hz := hz.on hb
        replace hr := hr.on hb
        replace hB := below_on hB hb
        clear hb hT HL
        rcases hcase.out with ⟨h1, h2⟩ | ⟨h1, h2⟩
        · rw [decide_eq_true h2]
          have HR : Hid (V = .tuple #[fe N, .int .i64 0]) := Lib.hid (by rw [← HVV.out, if_pos h1])
          clear h1 h2 hcase
          go_wp2_with (first
            | ((with_reducible refine wpL_load gx 24 (feA N) 4 rowFe (feA_size _) hz ?_ ?_); rfl)
            | ((with_reducible refine wpL_store W.heap.size 24 _ (feA N) 4 rowFe rfl (feA_size _) (feA_one _) hr ?_ ?_ ?_); rfl; rfl))
          exact bodyPost_ret (results_row_tmp Tryd.results20 rowFe (feA_size _) (hr.row (feA N)) rfl rfl) rfl ⟨by rw [HR.out]; rfl, below_rowSet hB (Nat.le_refl _) _⟩
        · rw [decide_eq_false h2]
          have HR : Hid (V = .tuple #[fe 0, .int .i64 2]) := Lib.hid (by rw [← HVV.out, if_neg h1])
          clear h1 h2 hcase
          go_wp2_with ((with_reducible refine wpL_store W.heap.size 24 _ fe0A 4 rowFe rfl rfl fe0A_one hr ?_ ?_ ?_); rfl; rfl)
          exact bodyPost_ret (results_row_tmp Tryd.results20 rowFe rfl (hr.row fe0A) rfl rfl) rfl ⟨by rw [HR.out, hf0]; rfl, below_rowSet hB (Nat.le_refl _) _⟩
  · rw [if_neg h32]
    have hi32 : ¬ (s.size : Int) = 32 := by omega
    go_enter Tryd.func20, Tryd.ntmps20
    have hr := Lies.new W 24 fe0A
    have hB := (Below.refl W.heap.size W).alloc (Nat.le_refl _) (.cells fe0A 24)
    go_upto_region 1 with fail
    generalize World.alloc W _ = w0 at *
    go_wp2_with ((with_reducible refine wpL_store W.heap.size 24 _ fe0A 4 rowFe rfl rfl fe0A_one hr ?_ ?_ ?_); rfl; rfl)
    exact bodyPost_ret (results_row_tmp Tryd.results20 rowFe rfl (hr.row fe0A) rfl rfl) rfl ⟨by rw [hf0]; rfl, below_rowSet hB (Nat.le_refl _) _⟩
end Go.Proofs.YtlbhlklgliblgaaDoor.F
