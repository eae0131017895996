/- The contracts of the reference's Raw and Bytes: a number's bytes, the lowest first. -/
import Derived.Test.YtknpgijapbkebaaDoorGRef
import Derived.Test.YtknpgijapbkebaaDoorFPlus
import Derived.Test.YtknpgijapbkebaaDoorFLE
namespace Go.Proofs.YtknpgijapbkebaaDoor.F
open Go.RowKit

theorem own_news {w : World} {B e g n cap : Nat} {xs : List Value} (h : w.ownsRow B e 1 (.slice (some ⟨g, 0, none⟩) n cap) n xs) : ∀ j u, xs[j]? = some u → w.cell? ((⟨g, 0, none⟩ : Addr).add j) = some u := fun j u hu => by
  have hj : j < xs.length := (List.getElem?_eq_some_iff.1 hu).1
  have hn : xs.length = n := by simpa using h.1
  rw [Addr.add_mid, Nat.zero_add]
  exact (h.cellAt j (by omega)).trans hu
/-- a row goes behind a row that the call owns -/
theorem wpL_appendRow {P : Program} {ops : Array Oper} {rest : List Oper} {a : Act} {w : World} {Q : Exit → Act → World → Prop} {t' : TypeId} {pos : String} {after : Array Edge} {d : Option Tmp} {x y : Tmp} {ty : TypeId}
    (B : Nat) (e : TypeId) (i : TypeInfo) (z : Value) (bytes : Nat) (ht : P.underlying ty = some (.slice e)) (hi : P.info? e = some i) (hz : i.zero = some z) (hsize : i.size = 1) (hby : i.bytes = bytes) (hzs : z.cells.size = 1)
    (v : Value) (n : Nat) (xs : List Value) (hown : w.ownsRow B e 1 v n xs) (B' b m c : Nat) (us : List Value) (hrow : w.ownsRow B' e 1 (.slice (some ⟨b, 0, none⟩) m c) m us) (hu : ∀ u ∈ us, u.oneCell' = true) (hm : 0 < m) (h63 : n + m ≤ maxLen) (hbytes : (n + m) * bytes ≤ 140737488355328) (hbase : B ≤ w.heap.size)
    (hs : a.eval (.tmp x) = v) (hx : a.eval (.tmp y) = .slice (some ⟨b, 0, none⟩) m c)
    (h : ∀ g cap w', w'.ownsRow B e 1 (.slice (some ⟨g, 0, none⟩) (n + m) cap) (n + m) (xs ++ us) → w.grownBy w' v.ownBlock → wpList P ops Q rest (a.put d (.slice (some ⟨g, 0, none⟩) (n + m) cap)) w') :
    wpList P ops Q (⟨d, .call { callee := .builtin .append, args := #[.tmp x, .tmp y], argTypes := #[ty, ty] }, t', pos, after, none⟩ :: rest) a w :=
  wpList_append_lies (o := ⟨d, .call { callee := .builtin .append, args := #[.tmp x, .tmp y], argTypes := #[ty, ty] }, t', pos, after, none⟩) w rfl _ _ ty rfl B e i z 1 bytes ht hi hz hsize hby hzs (by decide) v n xs hs hown ⟨b, 0, none⟩ m c us hx (by simpa using hrow.1) (own_news hrow) hu hm h63 hbytes hbase w.heap.size rfl (fun g cap w' h2 h3 _ _ => h g cap w' h2 h3)
theorem byteCells_one (l : List UInt8) : ∀ u ∈ Lib.byteCells l, u.oneCell' = true := by
  intro u hu
  unfold Lib.byteCells at hu
  rw [List.mem_map] at hu
  obtain ⟨x, _, rfl⟩ := hu
  rfl
theorem own_lies {w : World} {g n : Nat} {e : TypeId} {cs : Array Value} (h : Lies w g e cs) (hn : cs.size = n) (hm : n ≤ maxLen) : w.ownsRow g e 1 (.slice (some ⟨g, 0, none⟩) n n) n cs.toList :=
  ⟨by simp [hn], .inr ⟨g, n, cs, rfl, Nat.le_refl _, h, Nat.le_refl _, hm, by simp [hn], by rw [List.take_of_length_le (by simp [hn])]⟩⟩

set_option maxRecDepth 100000 in
set_option maxHeartbeats 800000 in
theorem raw_any (n : Nat) (W : World) :
    Calls Tryd.prog 29 #[fe n] W fun e W' => e = .returned (.string ⟨(leL n 32).toArray⟩) ∧ Below W.heap.size W W' := by
  obtain ⟨i0, hi, hz0, hz1, hz2⟩ := info_parts info5
  have HD := Lib.hid (digits_own n)
  rw [fe]
  go_enter Tryd.func29, Tryd.ntmps29
  have ho0 : ((W.alloc (.cells (feA n) 23)).alloc (.cells #[] 5)).ownsRow W.heap.size 5 1 (.slice (some ⟨W.heap.size + 1, 0, none⟩) 0 0) 0 [] := own_empty (heap_alloc2_new W _ _) (by simp)
  have hx : Lies ((W.alloc (.cells (feA n) 23)).alloc (.cells #[] 5)) W.heap.size 23 (feA n) := heap_alloc2_old W _ _
  have hB := ((Below.refl W.heap.size W).alloc (Nat.le_refl _) (.cells (feA n) 23)).alloc (by simp) (.cells #[] 5)
  go_upto_region 2 with fail
  generalize World.alloc (World.alloc W _) _ = w0 at *
  have hsz0 := hB.size
  go_wp2_with (first
    | ((with_reducible refine wpL_load W.heap.size 23 (feA n) 4 row4 rfl hx ?_ ?_); rfl)
    | (go_at_call 23; refine (HD.out _).mono ?_; rintro e w1 ⟨gd, cd, rfl, hd, hb⟩; have ho := own_on ho0 hb; replace hB := below_on hB hb; clear hb ho0 hx))
  go_loopw [3, 10] (fun ox kx wr => ∃ k g cap : Nat, k ≤ 16 ∧ kx = .int .i64 k ∧ ox = .slice (some ⟨g, 0, none⟩) (2 * k) cap ∧ wr.ownsRow W.heap.size 5 1 (.slice (some ⟨g, 0, none⟩) (2 * k) cap) (2 * k) (Lib.byteCells (leL n (2 * k))) ∧ wr.ownsRow W.heap.size 3 1 (.slice (some ⟨gd, 0, none⟩) 16 cd) 16 ((dgL n 16).map i64) ∧ Below W.heap.size W wr) (fun _ kx _ => 16 - (intOf kx).toNat)
  case atStart => exact ⟨0, _, _, by omega, rfl, rfl, ho, own_less hd hsz0, hB⟩
  case round =>
    clear ho hd hB hsz0
    obtain ⟨k, g, cap, hk, rfl, rfl, ho, hd, hB⟩ := hrel
    have hsz := hB.size
    by_cases hlt : k < 16
    · have hX := own_dig hd k (by rw [dgL_length]; exact hlt)
      have hX2 := (dgL_dg n 16).at k
      rw [Nat.zero_add] at hX
      have HS := Lib.hid (leL_two n k)
      have hXe : (dgL n 16).getD k 0 = digN n k := dgL_at n 16 k hlt
      rw [hXe] at hX hX2
      have HBy := Lib.hid (byte_two (digN n k) hX2)
      generalize digN n k = X at hX hX2 HS HBy
      have e1 : IntKind.u8.wrap ((X : Int) % 256) = (X : Int) % 256 := by rw [IntKind.wrap_u8]; omega
      have e2 : IntKind.u8.wrap ((X : Int) / 256) = (X : Int) / 256 := by rw [IntKind.wrap_u8]; omega
      have h1c : ∀ u ∈ (#[Value.int .u8 ((X : Int) % 256), .int .u8 ((X : Int) / 256)] : Array Value).toList, u.oneCell' = true := by
        intro u hu
        simp at hu
        rcases hu with rfl | rfl <;> simp [Value.oneCell']
      have hda := hd.alloc (.cells #[.int .u8 ((X : Int) % 256), .int .u8 ((X : Int) / 256)] 5)
      have hoa := ho.alloc (.cells #[.int .u8 ((X : Int) % 256), .int .u8 ((X : Int) / 256)] 5)
      have ho5 := own_lies (n := 2) (Lies.new wr 5 #[.int .u8 ((X : Int) % 256), .int .u8 ((X : Int) / 256)]) rfl (by unfold maxLen; omega)
      go_wp2_with ((with_reducible refine wpL_appendRow W.heap.size 5 i0 (.int .u8 0) 1 Tryd.underlying51 hi hz0 hz1 hz2 rfl _ (2 * k) _ (ho.alloc _) wr.heap.size wr.heap.size 2 2 _ ho5 h1c (by omega) (by unfold maxLen; omega) (by omega) (by simp; omega) ?_ ?_ ?_); rfl; rfl; intro g6 cap6 w6 ho6 hgrow6)
      go_roundw
      case rel => exact ⟨k + 1, g6, cap6, by omega, by go_num, by rw [Nat.mul_add], by
        rw [Nat.mul_add, show 2 * k + 2 * 1 = 2 * (k + 1) by omega, HS.out, Lib.byteCells_append, HBy.out]
        exact ho6, own_grown hda hgrow6 (fun g hv e => own_apart hda hoa (by decide) g hv e), (hB.alloc hsz _).grown hgrow6 (by simp; omega) (fun j hj => (ho.lt j hj).1)⟩
      case measure => simp [intOf]; omega
    · obtain rfl : k = 16 := by omega
      have hcv := str_own ho
      go_wp2_with fail
      go_ret
      exact ⟨rfl, hB⟩

set_option maxRecDepth 100000 in
set_option maxHeartbeats 800000 in
theorem refBytes_any (n : Nat) (W : World) (hn : n < K256) :
    Calls Tryd.prog 18 #[fe n] W fun e W' => e = .returned (.string ⟨(leL (n % l25) 32).toArray⟩) ∧ Below W.heap.size W W' := by
  have HL := Lib.hid (fun w => refLeast_any n w hn)
  have HR := Lib.hid (raw_any (n % l25))
  rw [fe] at HL ⊢
  go_enter Tryd.func18, Tryd.ntmps18
  have hx := Lies.new W 24 (feA n)
  have hB := (Below.refl W.heap.size W).alloc (Nat.le_refl _) (.cells (feA n) 24)
  go_upto_region 1 with fail
  generalize World.alloc W _ = w0 at *
  go_wp2_with (first
    | ((with_reducible refine wpL_load W.heap.size 24 (feA n) 4 rowFe rfl hx ?_ ?_); rfl)
    | (go_at_call 10; refine (HL.out _).mono ?_; rintro e w1 ⟨rfl, hb⟩; replace hB := below_on hB hb; clear hb)
    | (go_at_call 29; refine (HR.out _).mono ?_; rintro e w2 ⟨rfl, hb⟩; replace hB := below_on hB hb; clear hb))
  go_ret
  exact ⟨rfl, hB⟩
end Go.Proofs.YtknpgijapbkebaaDoor.F
