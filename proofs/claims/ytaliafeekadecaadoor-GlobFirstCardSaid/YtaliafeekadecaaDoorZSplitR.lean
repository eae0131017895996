/- The reference's Split: all of a text's parts. -/
import Derived.Test.YtaliafeekadecaaDoorZRef
import Derived.Deep.AppendLies
import Derived.Maps.AppendAt
namespace Go.Proofs.YtaliafeekadecaaDoor.Z
open Go.RowKit Go.Shelf
open V (Lies OwnL RowL)
set_option maxRecDepth 100000

def partsB (s : ByteArray) : List ByteArray := (parts s.data.toList).map bytesOf
def oneS (b : ByteArray) : List Value := [.string b]
theorem infoT : (Tryd.prog.info? 9).map (fun i => (i.zero, i.size, i.bytes)) = some (some (.string ⟨#[]⟩), 1, 16) := by kernel_rfl
section
variable {ops : Array Oper} {rest : List Oper} {a : Act} {w : World} {Q : Exit → Act → World → Prop} {t' : TypeId} {pos : String} {after : Array Edge}
/-- a text behind a row of texts that the call owns -/
theorem wpL_putT {d : Option Tmp} {x y : Tmp} (B : Nat) (v : Value) (css : List (List Value)) (u : Value) (bn : Nat) (hown : OwnL w B 9 1 v css) (hu : u.oneCell' = true) (hzl : Lies w bn 9 #[u]) (hn : css.length ≤ 1000000) (hbase : B ≤ w.heap.size)
    (hs : a.eval (.tmp x) = v) (hx : a.eval (.tmp y) = .slice (some ⟨bn, 0, none⟩) 1 1)
    (h : ∀ g cap w', OwnL w' B 9 1 (.slice (some ⟨g, 0, none⟩) (css.length + 1) cap) (css ++ [[u]]) → w.grownBy w' v.ownBlock → (v.ownBlock = some g ∨ g = w.heap.size) → wpList Tryd.prog ops Q rest (a.put d (.slice (some ⟨g, 0, none⟩) (css.length + 1) cap)) w') :
    wpList Tryd.prog ops Q (⟨d, .call { callee := .builtin .append, args := #[.tmp x, .tmp y], argTypes := #[22, 22] }, t', pos, after, none⟩ :: rest) a w := by
  obtain ⟨i0, hi, hz0, hz1, hz2⟩ := info_parts infoT
  refine wpList_append_lies (o := ⟨d, .call { callee := .builtin .append, args := #[.tmp x, .tmp y], argTypes := #[22, 22] }, t', pos, after, none⟩) w rfl _ _ 22 rfl B 9 i0 _ 1 16 Tryd.underlying22 hi hz0 hz1 hz2 rfl (by decide) v css.length css.flatten hs hown.2 ⟨bn, 0, none⟩ 1 1 [u] hx rfl (fun j x hj => ?_) (fun x hx => by rw [List.mem_singleton.1 hx]; exact hu) (by decide) (by unfold maxLen; omega) (by omega) hbase w.heap.size rfl (fun g cap w' h1 h2 h3 _ => h g cap w' ⟨fun c hc => ?_, ?_⟩ h2 h3)
  · rw [Addr.add_mid, Nat.zero_add, hzl.cell]
    simpa using hj
  · rcases List.mem_append.1 hc with hc | hc
    · exact hown.1 c hc
    · rw [List.mem_singleton.1 hc]; rfl
  · rw [List.length_append, List.length_singleton, List.flatten_append]
    simpa using h1
end
theorem below_own {B : Nat} {a w w' : World} {r : Option Nat} (h : Below B a w) (hB : B ≤ w.heap.size) (k : w.grownBy w' r) (hr : ∀ j, r = some j → B ≤ j) : Below B a w' :=
  h.trans ⟨k.os, k.tape, k.output, k.size, fun i hi => k.block i (by omega) (fun e => by have := hr i e.symm; omega)⟩
theorem app_data (B s : ByteArray) {k : Nat} (h : k < s.size) : (B ++ s.extract k (k + 1)).data.toList = B.data.toList ++ [s[k]] := by
  rw [ByteArray.data_append, Array.toList_append, ByteArray.data_extract, Array.toList_extract, List.extract_eq_take_drop, show k + 1 - k = 1 by omega, List.drop_eq_getElem_cons (by rw [list_len]; exact h)]
  rfl
set_option maxHeartbeats 3200000 in
theorem refSplit_any (s : ByteArray) (w : World) (hs : s.size ≤ 100000) : Calls Tryd.prog 22 #[.string s] w fun e w' => ∃ v, e = .returned v ∧ OwnL w' w.heap.size 9 1 v ((partsB s).map oneS) ∧ Below w.heap.size w w' := by
  have hl := list_len s
  have ho0 := OwnL.made w w.heap.size 9 1 (Nat.le_refl _)
  have hb0 := (Below.refl w.heap.size w).alloc (Nat.le_refl _) (.cells #[] 9)
  go_enter Tryd.func22, Tryd.ntmps22
  go_wp2
  go_loopw [3, 4, 5] (fun ov nv iv wr => ∃ (k : Nat) (done : List ByteArray) (B : ByteArray), iv = .int .i64 k ∧ nv = .string B ∧ k ≤ s.size ∧ B.size ≤ k ∧ done.length ≤ k ∧ Hid (partsB s = done ++ (cutG B.data.toList (s.data.toList.drop k)).map bytesOf) ∧ OwnL wr w.heap.size 9 1 ov (done.map oneS) ∧ Below w.heap.size w wr) (fun _ _ iv _ => s.size - (intOf iv).toNat)
  case atStart => exact ⟨0, [], ⟨#[]⟩, rfl, rfl, Nat.zero_le _, Nat.le_refl _, Nat.le_refl _, Lib.hid (by rw [List.drop_zero]; rfl), ho0, hb0⟩
  case round =>
    obtain ⟨k, done, B, rfl, rfl, hk, hB, hd, HP, ho, hb⟩ := hrel
    clear ho0 hb0
    obtain ⟨ao, co, rfl, _⟩ := ho.form
    rw [List.length_map] at ho ⊢
    by_cases hlt : k < s.size
    · have h1 : (k : Int) < (s.size : Int) := by omega
      have hdr : s.data.toList.drop k = s[k] :: s.data.toList.drop (k + 1) := by
        rw [List.drop_eq_getElem_cons (by omega)]
        rfl
      by_cases h47 : s[k] = 47
      · have e47 : ((s[k].toNat : Int) == 47) = true := by rw [h47]; rfl
        have HQ := Lib.hid (show partsB s = (done ++ [B]) ++ (cutG [] (s.data.toList.drop (k + 1))).map bytesOf by
          rw [HP.out, hdr, h47, cutG, if_pos rfl, List.map_cons, bytesOf_data]
          simp)
        have zb := (Below.refl wr.heap.size wr).alloc (Nat.le_refl _) (.cells #[.string B] 9)
        have zA := Lies.new wr 9 #[.string B]
        have hoA := ho.on zb
        have hcn : (done.map oneS).length ≤ 1000000 := by rw [List.length_map]; omega
        have hBA : w.heap.size ≤ (wr.alloc (.cells #[.string B] 9)).heap.size := Nat.le_trans hb.size zb.size
        have hlt0 := ho.lt
        clear HP hdr h47 ho
        go_wp2_with ((with_reducible refine wpL_putT w.heap.size (.slice ao done.length co) (done.map oneS) (.string B) wr.heap.size hoA rfl zA hcn hBA ?_ ?_ ?_); rfl; rfl; intro g1 cap1 w7 hown7 hgr7 hloc7)
        have hb7 := below_own (hb.alloc hb.size _) hBA hgr7 hlt0
        have ho7 : OwnL w7 w.heap.size 9 1 (.slice (some ⟨g1, 0, none⟩) (done.length + 1) cap1) ((done ++ [B]).map oneS) := by
          rw [List.length_map] at hown7
          rw [List.map_append]
          exact hown7
        clear hown7 hgr7 hloc7 hoA zb zA
        go_roundw
        case rel => exact ⟨k + 1, done ++ [B], ⟨#[]⟩, by go_num, rfl, by omega, Nat.zero_le _, by rw [List.length_append, List.length_singleton]; omega, HQ, ho7, hb7⟩
        case measure => simp [intOf]; omega
      · have e47 : ((s[k].toNat : Int) == 47) = false := byte_neI h47
        have HQ := Lib.hid (show partsB s = done ++ (cutG (B ++ s.extract k (k + 1)).data.toList (s.data.toList.drop (k + 1))).map bytesOf by
          rw [HP.out, hdr, cutG, if_neg h47, app_data B s hlt])
        have hsz : (B ++ s.extract k (k + 1)).size ≤ k + 1 := by
          rw [← list_len, app_data B s hlt, List.length_append, List.length_singleton, list_len]
          omega
        have h2 : (k : Int) + 1 ≤ (s.size : Int) := by omega
        clear HP hdr h47
        go_wp2
        go_roundw
        case rel => exact ⟨k + 1, done, B ++ s.extract k (k + 1), by go_num, by simp, by omega, hsz, by omega, HQ, ho, hb⟩
        case measure => simp [intOf]; omega
    · obtain rfl : k = s.size := by omega
      have h1 : ¬ ((s.size : Int) < (s.size : Int)) := by omega
      have HQ := Lib.hid (show partsB s = done ++ [B] by
        rw [HP.out, List.drop_eq_nil_of_le (by omega), cutG]
        simp [bytesOf_data])
      have zb := (Below.refl wr.heap.size wr).alloc (Nat.le_refl _) (.cells #[.string B] 9)
      have zA := Lies.new wr 9 #[.string B]
      have hoA := ho.on zb
      have hcn : (done.map oneS).length ≤ 1000000 := by rw [List.length_map]; omega
      have hBA : w.heap.size ≤ (wr.alloc (.cells #[.string B] 9)).heap.size := Nat.le_trans hb.size zb.size
      have hlt0 := ho.lt
      clear HP ho
      go_wp2_with ((with_reducible refine wpL_putT w.heap.size (.slice ao done.length co) (done.map oneS) (.string B) wr.heap.size hoA rfl zA hcn hBA ?_ ?_ ?_); rfl; rfl; intro g1 cap1 w7 hown7 hgr7 hloc7)
      have hb7 := below_own (hb.alloc hb.size _) hBA hgr7 hlt0
      have ho7 : OwnL w7 w.heap.size 9 1 (.slice (some ⟨g1, 0, none⟩) (done.length + 1) cap1) ((done ++ [B]).map oneS) := by
        rw [List.length_map] at hown7
        rw [List.map_append]
        exact hown7
      go_ret
      exact ⟨_, rfl, by rw [HQ.out]; exact ho7, hb7⟩
end Go.Proofs.YtaliafeekadecaaDoor.Z
