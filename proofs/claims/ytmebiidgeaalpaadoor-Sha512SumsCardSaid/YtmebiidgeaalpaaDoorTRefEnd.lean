/- The contract of the reference's End. -/
import Derived.Test.YtmebiidgeaalpaaDoorTRefWrite
import Derived.Test.YtmebiidgeaalpaaDoorTText
import Derived.Test.YtmebiidgeaalpaaDoorTSum
namespace Go.Proofs.YtmebiidgeaalpaaDoor.T
open Go.RowKit

def lenOf : Value → Nat
  | .slice _ l _ => l
  | _ => 0
/-- what lies in a row of so many bytes while a number goes into it, from the last one down to i -/
def downC (N w i : Nat) : List Value := List.replicate i (Value.int .u8 0) ++ (Lib.byteCells (bigL N w)).drop i
theorem downC_start (N w : Nat) : downC N w w = List.replicate w (Value.int .u8 0) := by
  unfold downC
  rw [List.drop_of_length_le (by rw [Lib.byteCells_length, bigL_length]; exact Nat.le_refl _), List.append_nil]
theorem downC_end (N w : Nat) : downC N w 0 = Lib.byteCells (bigL N w) := rfl
theorem downC_at (N w i : Nat) : (downC N w (i + 1))[i]? = some (Value.int .u8 0) := by
  unfold downC
  rw [List.getElem?_append_left (by simp), List.getElem?_replicate, if_pos (by omega)]
theorem bigL_at (N w i : Nat) (h : i < w) : (bigL N w)[i]? = some (N / 256 ^ (w - 1 - i) % 256).toUInt8 := by
  have h1 := bigL_take N w i h
  have h2 := congrArg (fun l => l[i]?) h1
  have hl : ((bigL N w).take i).length = i := by rw [List.length_take, bigL_length]; omega
  simp only [List.getElem?_take_of_lt (Nat.lt_succ_self i)] at h2
  rw [h2, List.getElem?_append_right (by omega), hl, Nat.sub_self]
  rfl
theorem downC_set (N w i : Nat) (h : i < w) : (downC N w (i + 1)).set i (Value.int .u8 ((N / 256 ^ (w - (i + 1)) % 256 : Nat) : Int)) = downC N w i := by
  have e : w - (i + 1) = w - 1 - i := by omega
  rw [e]
  have hb : i < (Lib.byteCells (bigL N w)).length := by rw [Lib.byteCells_length, bigL_length]; exact h
  have hx : (Lib.byteCells (bigL N w))[i] = Value.int .u8 ((N / 256 ^ (w - 1 - i) % 256 : Nat) : Int) := by
    have h1 := bigL_at N w i h
    have h2 : (Lib.byteCells (bigL N w))[i]? = some (Value.int .u8 ((N / 256 ^ (w - 1 - i) % 256 : Nat) : Int)) := by
      unfold Lib.byteCells
      rw [List.getElem?_map, h1]
      simp only [Option.map_some]
      rw [toNat_lt256 _ (Nat.mod_lt _ (by decide))]
    rw [List.getElem?_eq_getElem hb] at h2
    injection h2
  unfold downC
  rw [List.set_append_left _ _ (by simp), List.replicate_succ', List.set_append_right _ _ (by simp), List.length_replicate, Nat.sub_self, List.set_cons_zero, List.append_assoc, List.drop_eq_getElem_cons hb, hx]
  rfl
theorem down_next (N w i : Nat) (h : i < w) : N / 256 ^ (w - (i + 1)) / 256 = N / 256 ^ (w - i) := by
  rw [Nat.div_div_eq_div_mul, ← Nat.pow_succ, show (w - (i + 1)).succ = w - i by omega]

theorem bigL_more (N w : Nat) (h : N < 256 ^ w) (k : Nat) : bigL N (w + k) = List.replicate k 0 ++ bigL N w := by
  induction k with
  | zero => rfl
  | succ k ih =>
    rw [← Nat.add_assoc, bigL_head, ih, Nat.div_eq_of_lt (Nat.lt_of_lt_of_le h (Nat.pow_le_pow_right (by decide) (by omega))), List.replicate_succ]
    rfl
theorem downC_half (N : Nat) (h : N < 18446744073709551616) : downC N 16 8 = Lib.byteCells (bigL N 16) := by
  unfold downC
  rw [show (16 : Nat) = 8 + 8 from rfl, bigL_more N 8 h 8, Lib.byteCells_append]
  rfl
theorem own_news {w : World} {B e g n cap : Nat} {xs : List Value} (h : w.ownsRow B e 1 (.slice (some ⟨g, 0, none⟩) n cap) n xs) : ∀ j u, xs[j]? = some u → w.cell? ((⟨g, 0, none⟩ : Addr).add j) = some u := fun j u hu => by
  have hj : j < xs.length := (List.getElem?_eq_some_iff.1 hu).1
  have hn : xs.length = n := by simpa using h.1
  rw [Addr.add_mid, Nat.zero_add]
  exact (h.cellAt j (by omega)).trans hu
/-- a row goes behind a row that the call owns -/
theorem wpL_appendRow {P : Program} {ops : Array Oper} {rest : List Oper} {a : Act} {w : World} {Q : Exit → Act → World → Prop} {t' : TypeId} {pos : String} {after : Array Edge} {d : Option Tmp} {x y : Tmp} {ty : TypeId}
    (B : Nat) (e : TypeId) (i : TypeInfo) (z : Value) (bytes : Nat) (ht : P.underlying ty = some (.slice e)) (hi : P.info? e = some i) (hz : i.zero = some z) (hsize : i.size = 1) (hby : i.bytes = bytes) (hzs : z.cells.size = 1)
    (v : Value) (n : Nat) (xs : List Value) (hown : w.ownsRow B e 1 v n xs) (B' b m c : Nat) (us : List Value) (hrow : w.ownsRow B' e 1 (.slice (some ⟨b, 0, none⟩) m c) m us) (hu : ∀ u ∈ us, u.oneCell' = true) (hm : 0 < m) (h63 : n + m ≤ maxLen) (hbytes : (n + m) * bytes ≤ 140737488355328) (hbase : B ≤ w.heap.size)
    (hs : a.eval (.tmp x) = v) (hx : a.eval (.tmp y) = .slice (some ⟨b, 0, none⟩) m c)
    (h : ∀ g cap w', w'.ownsRow B e 1 (.slice (some ⟨g, 0, none⟩) (n + m) cap) (n + m) (xs ++ us) → w.grownBy w' v.ownBlock → wpList P ops Q rest (a.put d (.slice (some ⟨g, 0, none⟩) (n + m) cap)) w') :
    wpList P ops Q (⟨d, .call { callee := .builtin .append, args := #[.tmp x, .tmp y], argTypes := #[ty, ty] }, t', pos, after, none⟩ :: rest) a w :=
  wpList_append_lies (o := ⟨d, .call { callee := .builtin .append, args := #[.tmp x, .tmp y], argTypes := #[ty, ty] }, t', pos, after, none⟩) w rfl _ _ ty rfl B e i z 1 bytes ht hi hz hsize hby hzs (by decide) v n xs hs hown ⟨b, 0, none⟩ m c us hx (by simpa using hrow.1) (own_news hrow) hu hm h63 hbytes hbase w.heap.size rfl (fun g cap w' h2 h3 _ _ => h g cap w' h2 h3)
theorem byteCells_one (l : List UInt8) : ∀ u ∈ Lib.byteCells l, u.oneCell' = true := by
  intro u hu
  unfold Lib.byteCells at hu
  rw [List.mem_map] at hu
  obtain ⟨x, _, rfl⟩ := hu
  rfl
/-- what pads, with so many zeros -/
def padTo (k : Nat) : List UInt8 := 128 :: List.replicate k 0
theorem padTo_succ (k : Nat) : padTo (k + 1) = padTo k ++ [0] := by unfold padTo; rw [List.replicate_succ']; rfl
theorem padTo_length (k : Nat) : (padTo k).length = k + 1 := by simp [padTo]
theorem own_single {w : World} {B g : Nat} {e : TypeId} {u : Value} (hl : Lies w g e #[u]) (hB : B ≤ g) : w.ownsRow B e 1 (.slice (some ⟨g, 0, none⟩) 1 1) 1 [u] :=
  ⟨rfl, .inr ⟨g, 1, _, rfl, hB, hl, Nat.le_refl _, by unfold maxLen; omega, rfl, rfl⟩⟩

set_option maxRecDepth 100000 in
set_option maxHeartbeats 1600000 in
theorem refEnd_any (H : H8) (buf : ByteArray) (n : Nat) (W : World) (hr : rightB buf.size n = true) (hok : H.Ok) :
    Calls Tryd.prog 22 #[.agg (sumA H buf n)] W fun e W' => e = .returned (.string (bytesOf (endT H buf.data.toList n))) ∧ Below W.heap.size W W' := by
  obtain ⟨hr1, hr2, hr3⟩ := right_of hr
  obtain ⟨i0, hi, hz0, hz1, hz2⟩ := info_parts info5
  have HR2 := Lib.hid hr2
  clear hr hr2
  unfold sumA
  go_enter Tryd.func22, Tryd.ntmps22
  go_upto_region 1 with fail
  have hx : Lies (W.alloc (.cells (sumA H buf n) 28)) W.heap.size 28 (sumA H buf n) := Lies.new W _ _
  have hb := (Below.refl W.heap.size W).alloc (Nat.le_refl _) (.cells (sumA H buf n) 28)
  unfold sumA at hb hx
  generalize World.alloc W _ = w1 at *
  go_wp2_with fail
  go_loopw [3] (fun v wr => ∃ k g cap : Nat, k ≤ (239 - n % 128) % 128 ∧ v = .slice (some ⟨g, 0, none⟩) (k + 1) cap ∧ wr.ownsRow W.heap.size 5 1 (.slice (some ⟨g, 0, none⟩) (k + 1) cap) (k + 1) (Lib.byteCells (padTo k)) ∧ Lies wr W.heap.size 28 (sumA H buf n) ∧ Below W.heap.size W wr) (fun v _ => 200 - lenOf v)
  case atStart => exact ⟨0, _, _, by omega, rfl, own_single (Lies.new w1 _ _) hb.size, hx.alloc _, hb.alloc hb.size _⟩
  case round =>
    clear hx hb
    obtain ⟨k, g, cap, hk, rfl, ho, hx, hb⟩ := hrel
    have k8 := hx.c8
    have k9 := hx.c9
    have hgw := own_far ho (t := 28) hx (by decide)
    have hsz := hb.size
    have hBw := hx.lt
    by_cases h0 : (buf.size + (k + 1) + 16) % 128 = 0
    · have hk2 : k = (239 - n % 128) % 128 := by have := HR2.out; omega
      have HP := Lib.hid (show pad n = padTo k ++ bigL (8 * n) 16 by rw [hk2]; rfl)
      clear hk2
      have h1 : ((buf.size : Int) + ((k + 1 : Nat) : Int) + 16) % 128 = 0 := by omega
      go_upto_region 5 with fail
      obtain ⟨wq, hwq⟩ : ∃ wq, wq = wr := ⟨_, rfl⟩
      subst hwq
      go_wp2_with (at_make; refine wpList_make_full _ rfl _ _ 47 rfl wq.heap.size 5 i0 (.int .u8 0) 1 Tryd.underlying47 hi hz0 hz1 _ _ _ _ 16 rfl rfl rfl rfl ?b2 ?b3 (Nat.le_refl _) ?_)
      case b2 => rw [hz2]; omega
      case b3 => unfold maxLen; omega
      intro w5 hown5 hgrow5
      have hb5 : Below wq.heap.size wq w5 := (Below.refl _ _).grown hgrow5 (Nat.le_refl _) (fun k hk => by cases hk)
      clear hgrow5
      go_wp2_with fail
      go_loopw [4, 6] (fun nv i wv => ∃ j : Nat, 8 ≤ j ∧ j ≤ 16 ∧ i = .int .i64 j ∧ nv = .int .u64 ((8 * n / 256 ^ (16 - j) : Nat) : Int) ∧ wv.ownsRow wq.heap.size 5 1 (.slice (some ⟨wq.heap.size, 0, none⟩) 16 16) 16 (downC (8 * n) 16 j) ∧ Below wq.heap.size wq wv) (fun _ i _ => (intOf i).toNat)
      case atStart => exact ⟨16, by omega, by omega, rfl, val_int (by rw [Nat.sub_self, Nat.pow_zero, Nat.div_one]; omega), by rw [downC_start]; simpa [toList_madeCells_one] using hown5, hb5⟩
      case round =>
        clear hown5 hb5
        obtain ⟨j, hj8, hj, rfl, rfl, ho5, hb5⟩ := hrel
        by_cases hj0 : 8 < j
        · obtain ⟨m, rfl⟩ : ∃ m, j = m + 1 := ⟨j - 1, by omega⟩
          have hc := (ho5.cellAt m (by omega)).trans (downC_at (8 * n) 16 m)
          have hf := ho5.frozenAt m
          have HD := Lib.hid (downC_set (8 * n) 16 m (by omega))
          have HN := Lib.hid (down_next (8 * n) 16 m (by omega))
          have hX : 8 * n / 256 ^ (16 - (m + 1)) ≤ 8 * n := Nat.div_le_self _ _
          have e1 : IntKind.i64.wrap (((m + 1 : Nat) : Int) - 1) = (m : Int) := by rw [IntWalk.i64_in _ (by omega)]; omega
          have b1 : (m : Int) < 16 := by omega
          generalize 8 * n / 256 ^ (16 - (m + 1)) = X at *
          go_wp2_with fail
          go_roundw
          case rel => exact ⟨m, by omega, by omega, rfl, val_int (by rw [← HN.out]; omega), by rw [← HD.out]; exact (ho5.stored m _).1, hb5.setCell (p := ⟨wq.heap.size, m, none⟩) (Nat.le_refl _) _⟩
          case measure => simp [intOf]
        · obtain rfl : j = 8 := by omega
          rw [downC_half (8 * n) (by omega)] at ho5
          have ho2 := own_on ho hb5
          have hx2 := hx.on hb5
          have hb2 := below_on hb hb5
          have hB2 := hb2.size
          have hge := fun j hj => (ho.lt j hj).1
          obtain ⟨Y, y8, y9, HY, hY, HW⟩ : ∃ (Y : H8) (b : ByteArray) (m : Nat), Hid (outT Y = endT H buf.data.toList n) ∧ Y.Ok ∧ Hid (∀ w, Calls Tryd.prog 23 #[.agg (sumA H buf n), .string ⟨(pad n).toArray⟩] w fun e w' => e = .returned (.agg (sumA Y b m)) ∧ Below w.heap.size w w') :=
            ⟨_, _, _, Lib.hid rfl, feed_ok' hok _, Lib.hid fun w => refWrite_any H buf (bytesOf (pad n)) n w (by omega) (by rw [bytes_size, pad_length]; omega) (by rw [bytes_size, pad_length]; omega) hok⟩
          clear k8 k9 hx hb h0 h1 hb5
          go_upto_region 13 with (first | ((with_reducible refine wpL_appendRow W.heap.size 5 i0 (.int .u8 0) 1 Tryd.underlying47 hi hz0 hz1 hz2 rfl _ (k + 1) _ ho2 wq.heap.size wq.heap.size 16 16 _ ho5 (byteCells_one _) (by omega) (by unfold maxLen; omega) (by omega) hB2 ?_ ?_ ?_); rfl; rfl; intro g6 cap6 w6 ho6 hgrow6; rw [← Lib.byteCells_append, ← HP.out] at ho6; have hcv := str_own ho6; have hx6 := hx2.only hgrow6 (fun e => hgw e.symm); have hb6 := hb2.grown hgrow6 hB2 hge; clear hgrow6) | ((with_reducible refine wpL_load W.heap.size 28 (sumA H buf n) 10 row29 rfl hx6 ?_ ?_); rfl) | (go_at_call 23; refine (HW.out w6).mono ?_; rintro e w7 ⟨rfl, hb7⟩; replace hb7 := below_on hb6 hb7) | ((with_reducible refine wpL_store w7.heap.size 28 _ (sumA Y y8 y9) 10 row29 ?_ ?_ ?_ (Lies.new w7 _ _) ?_ ?_ ?_); rfl; rfl; exact sumA_one _ _ _; rfl; rfl))
          generalize hW8 : World.setRow _ _ _ = w8
          have hl8 : Lies w8 w7.heap.size 28 (sumA Y y8 y9) := by rw [← hW8]; exact (Lies.new w7 _ _).row _
          have hb8 : Below W.heap.size W w8 := by rw [← hW8]; exact below_rowSet (hb7.alloc hb7.size _) hb7.size _
          clear hW8
          have HWd := Lib.hid (fun o : Obj => (Lies.alloc hl8 o).words)
          have HB8 := hb8.alloc hb8.size (.cells #[] 5)
          have hB8 := hb8.size
          have ho8 := Lies.new w8 5 #[]
          have hix := index_eight Y
          clear hl8 hb8 hb7 hb6 hx6 ho6 hcv ho5 ho2 hx2 hb2 hgw hge ho HW HP
          go_wp2_with ((with_reducible refine wpL_loadMid w7.heap.size 0 (wordsL Y) 8 row26 rfl (HWd.out _) ?_ ?_); rfl)
          simp only [wordsL]
          go_loopw [8, 53] (fun o i wr => ∃ k g cap : Nat, k ≤ 8 ∧ i = .int .i64 k ∧ o = .slice (some ⟨g, 0, none⟩) (8 * k) cap ∧ wr.ownsRow W.heap.size 5 1 (.slice (some ⟨g, 0, none⟩) (8 * k) cap) (8 * k) (Lib.byteCells (outTo Y k)) ∧ Below W.heap.size W wr) (fun _ i _ => 8 - (intOf i).toNat)
          case atStart => exact ⟨0, _, _, by omega, rfl, rfl, own_empty ho8 hB8, HB8⟩
          case round =>
            clear ho8 HB8 HWd
            obtain ⟨k, g, cap, hk, rfl, rfl, ho, hb⟩ := hrel
            obtain ⟨wq, hwq⟩ : ∃ wq, wq = wr := ⟨_, rfl⟩
            subst hwq
            by_cases hlt : k < 8
            · have hx := hix k hlt
              clear hix
              have hV := H8.at_lt hY k
              have HS := Lib.hid (show outTo Y (k + 1) = outTo Y k ++ bigL (Y.at k) 8 from rfl)
              generalize Y.at k = V at hx hV HS
              go_wp2_with (at_make; refine wpList_make_full _ rfl _ _ 47 rfl wq.heap.size 5 i0 (.int .u8 0) 1 Tryd.underlying47 hi hz0 hz1 _ _ _ _ 8 rfl rfl rfl rfl ?b2 ?b3 (Nat.le_refl _) ?_)
              case b2 => rw [hz2]; omega
              case b3 => unfold maxLen; omega
              intro w5 hown5 hgrow5
              have hb5 : Below wq.heap.size wq w5 := (Below.refl _ _).grown hgrow5 (Nat.le_refl _) (fun k hk => by cases hk)
              clear hgrow5
              go_wp2_with fail
              go_loopw [10, 12] (fun nv i wv => ∃ j : Nat, j ≤ 8 ∧ i = .int .i64 j ∧ nv = .int .u64 ((V / 256 ^ (8 - j) : Nat) : Int) ∧ wv.ownsRow wq.heap.size 5 1 (.slice (some ⟨wq.heap.size, 0, none⟩) 8 8) 8 (downC V 8 j) ∧ Below wq.heap.size wq wv) (fun _ i _ => (intOf i).toNat)
              case atStart => exact ⟨8, by omega, rfl, val_int (by rw [Nat.sub_self, Nat.pow_zero, Nat.div_one]), by rw [downC_start]; simpa [toList_madeCells_one] using hown5, hb5⟩
              case round =>
                clear hown5 hb5
                obtain ⟨j, hj, rfl, rfl, ho5, hb5⟩ := hrel
                by_cases hj0 : 0 < j
                · obtain ⟨m, rfl⟩ : ∃ m, j = m + 1 := ⟨j - 1, by omega⟩
                  have hc := (ho5.cellAt m (by omega)).trans (downC_at V 8 m)
                  have hf := ho5.frozenAt m
                  have HD := Lib.hid (downC_set V 8 m (by omega))
                  have HN := Lib.hid (down_next V 8 m (by omega))
                  have hX : V / 256 ^ (8 - (m + 1)) ≤ V := Nat.div_le_self _ _
                  have e1 : IntKind.i64.wrap (((m + 1 : Nat) : Int) - 1) = (m : Int) := by rw [IntWalk.i64_in _ (by omega)]; omega
                  have b1 : (m : Int) < 8 := by omega
                  generalize V / 256 ^ (8 - (m + 1)) = X at *
                  go_wp2_with fail
                  go_roundw
                  case rel => exact ⟨m, by omega, rfl, val_int (by rw [← HN.out]; omega), by rw [← HD.out]; exact (ho5.stored m _).1, hb5.setCell (p := ⟨wq.heap.size, m, none⟩) (Nat.le_refl _) _⟩
                  case measure => simp [intOf]
                · obtain rfl : j = 0 := by omega
                  rw [downC_end] at ho5
                  have ho2 := own_on ho hb5
                  have hb2 := below_on hb hb5
                  have hB2 := hb2.size
                  have hge := fun j hj => (ho.lt j hj).1
                  go_wp2_with ((with_reducible refine wpL_appendRow W.heap.size 5 i0 (.int .u8 0) 1 Tryd.underlying47 hi hz0 hz1 hz2 rfl _ (8 * k) _ ho2 wq.heap.size wq.heap.size 8 8 _ ho5 (byteCells_one _) (by omega) (by unfold maxLen; omega) (by omega) hB2 ?_ ?_ ?_); rfl; rfl; intro g6 cap6 w6 ho6 hgrow6)
                  go_roundw
                  case rel => exact ⟨k + 1, g6, cap6, by omega, by go_num, rfl, by rw [HS.out, Lib.byteCells_append]; exact ho6, hb2.grown hgrow6 hB2 hge⟩
                  case measure => simp [intOf]; omega
            · obtain rfl : k = 8 := by omega
              have hcv := str_own ho
              clear hix
              go_wp2
              go_ret
              exact ⟨ret1_of (val_str (by rw [outTo_end, HY.out])), hb⟩
    · have h1 : ¬ ((buf.size : Int) + ((k + 1 : Nat) : Int) + 16) % 128 = 0 := by omega
      have hk2 : k + 1 ≤ (239 - n % 128) % 128 := by have := HR2.out; omega
      have HS := Lib.hid (padTo_succ k)
      go_wp2_with ((with_reducible refine wpL_append W.heap.size 5 i0 (.int .u8 0) 1 Tryd.underlying47 hi hz0 hz1 hz2 rfl _ (k + 1) _ (ho.alloc _) wr.heap.size (.int .u8 0) (Lies.new wr _ _) rfl (by unfold maxLen; omega) (by omega) (by simp; omega) ?_ ?_ ?_); rfl; rfl; intro g6 cap6 w6 ho6 hgrow6)
      go_roundw
      case rel =>
        exact ⟨k + 1, g6, cap6, hk2, rfl, by rw [HS.out, Lib.byteCells_append]; exact ho6, Lies.only (hx.alloc _) hgrow6 (fun e => hgw e.symm), (hb.alloc hsz _).grown hgrow6 (by simp; omega) (fun j hj => (ho.lt j hj).1)⟩
      case measure => simp [lenOf]; omega
end Go.Proofs.YtmebiidgeaalpaaDoor.T
