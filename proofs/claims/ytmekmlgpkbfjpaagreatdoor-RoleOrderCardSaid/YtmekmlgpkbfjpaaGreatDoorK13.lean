/- Texts that stand on one another, put together: OById, OSign, OCount, OKeys, OOne, OSortM, OHeld, OAlive, OSignsW. -/
import Derived.Test.YtmekmlgpkbfjpaaGreatDoorK12
import Derived.Deep.MidRow
import Derived.Maps.OwnSet
import Derived.Maps.Views
import Derived.StringKeys
import Derived.WalkArith
/- The developers' byId: a map of keys by their sums. -/
namespace Go.Proofs.YtmekmlgpkbfjpaaGreatDoor.O
open Go.RowKit Go.Sort Go.Maps Go.Proofs.YtmekmlgpkbfjpaaGreatDoor.E
open V (Lies OwnL RowL reg lessL bytesLess_is)
set_option maxRecDepth 100000

/-- a key as a map's element -/
def keyD (k : B2) : DataW Unit := .agg [.lit (.string k.1.data.toList), .lit (.string k.2.data.toList)]
def keyR (v : Value) : Option (DataW Unit × List MemPlace) :=
  match v with
  | .agg cs => match cs.toList with
    | [.string a, .string b] => some (keyD (a, b), [])
    | _ => none
  | _ => none
theorem keyR_mk (a b : ByteArray) : keyR (.agg #[.string a, .string b]) = some (keyD (a, b), []) := rfl
theorem keyR_inv {v : Value} {k : B2} {ps : List MemPlace} (h : keyR v = some (keyD k, ps)) : v = .agg #[.string k.1, .string k.2] := by
  unfold keyR at h
  split at h
  · rename_i cs
    split at h
    · rename_i a b hl
      simp only [Option.some.injEq, Prod.mk.injEq, keyD, DataW.agg.injEq, List.cons.injEq, DataW.lit.injEq, Lit.string.injEq, and_true] at h
      obtain ⟨⟨h1, h2⟩, _⟩ := h
      have e1 : a = k.1 := by rw [← Lib.mk_data a, ← Lib.mk_data k.1, h1]
      have e2 : b = k.2 := by rw [← Lib.mk_data b, ← Lib.mk_data k.2, h2]
      subst e1 e2
      show Value.agg cs = _
      rw [show cs = cs.toList.toArray from rfl, hl]
    · cases h
  · cases h
/-- what the map holds behind the first j keys -/
structure Pk (ks : List B2) (j : Nat) (D : DataW Unit) : Prop where
  has : ∀ q : ByteArray, Maps.has D (.string q.data.toList) = decide (∃ k ∈ ks.take j, k.1 = q)
  place : ∀ (i : Nat) (k : B2), i < j → ks[i]? = some k → ∀ zd, D.atKey (.string k.1.data.toList) zd = keyD k
theorem Pk.start (ks : List B2) : Pk ks 0 (.map []) := ⟨fun q => by simp [has_eq], fun i k hi => by omega⟩
theorem str_ne {q k : ByteArray} (h : q ≠ k) : (Lit.string q.data.toList : Lit) ≠ .string k.data.toList := fun e => h (by injection e with e; rw [← Lib.mk_data q, ← Lib.mk_data k, e])
theorem Pk.put {ks : List B2} {j : Nat} {D : DataW Unit} (h : Pk ks j D) (hK : keysR ks = true) (hm : IsMap D) {k : B2} (hk : WideAt.IsKeyLit (.string k.1.data.toList)) (hx : ks[j]? = some k) : Pk ks (j + 1) (D.put (.string k.1.data.toList) (keyD k)) := by
  have ht : ks.take (j + 1) = ks.take j ++ [k] := by rw [List.take_add_one, hx]; rfl
  refine ⟨fun q => ?_, fun i q hi hq zd => ?_⟩
  · by_cases e : q = k.1
    · subst e
      rw [has_put_same hm hk, ht]
      simp
    · rw [has_put_other (str_ne e), h.has q, ht]
      have e2 : ¬ k.1 = q := fun h => e h.symm
      congr 1
      simp [e2]
  · by_cases e : i = j
    · subst e
      rw [hx] at hq
      obtain rfl := Option.some.inj hq
      exact atKey_put_same hm hk _ _
    · have hne : q.1 ≠ k.1 := fun he => e (keys_once hK hq hx he)
      rw [atKey_put_other (str_ne hne)]
      exact h.place i q (by omega) hq zd
theorem map_rowFar {w : World} {k : TypeId} {R : Value → Option (DataW Unit × List MemPlace)} {b n g : Nat} {D : DataW Unit} (h : w.ownsMap Tryz.prog k R b n D) (hne : b ≠ g) (cs : Array Value) : (w.setRow g cs).ownsMap Tryz.prog k R b n D := by
  obtain ⟨es, clock, hb, r⟩ := h
  exact ⟨es, clock, by rw [setRow_other w g b cs hne]; exact hb, r⟩
theorem lawS : Keyed Tryz.prog 9 := string_keyed Tryz.underlying9
theorem keyK {k : ByteArray} (h : k.size ≤ maxLen) : keyOf Tryz.prog 9 (.string k) = some (.string k.data.toList) := by
  have h2 : keyOf Tryz.prog 9 (.string ⟨k.data.toList.toArray⟩) = some (.string k.data.toList) := WideMaps.keyOf_string_mk Tryz.underlying9 (by rw [Lib.mk_data]; exact h)
  rwa [show (⟨k.data.toList.toArray⟩ : ByteArray) = k from Lib.mk_data k] at h2
theorem zeroK : ∀ w, (zeroValue 51).run Tryz.prog w = .ok (.agg #[.string ⟨#[]⟩, .string ⟨#[]⟩]) w := fun w => by kernel_rfl
def ByIdPost (w : World) (ks : List B2) (e : Ending) (w' : World) : Prop := ∃ (b : Nat) (D : DataW Unit), e = .returned (.map (some b)) ∧ w.heap.size ≤ b ∧ w'.ownsMap Tryz.prog 9 keyR b ks.length D ∧ Pk ks ks.length D ∧ Below w.heap.size w w'
set_option maxHeartbeats 6400000 in
theorem byId_any (av : Option Addr) (cv : Nat) (ks : List B2) (w : World) (hl : RowL w 2 (.slice av ks.length cv) (ks.map twoS)) (hK : keysR ks = true) :
    Calls Tryz.prog 25 #[.slice av ks.length cv] w fun e w' => ByIdPost w ks e w' := by
  have hcap : ks.length ≤ 9223372036854775807 ∧ ks.length ≤ maxLen := by
    obtain ⟨a', c', e, h1, h2, _⟩ := hl.form
    injection e with _ _ e3
    rw [List.length_map] at h1
    unfold maxLen at *
    omega
  obtain ⟨hcap, hnm⟩ := hcap
  have HL := Lib.hid (fun (w1 : World) (hb : Below w.heap.size w w1) => hl.below hb)
  have HK := Lib.hid hK
  clear hl hK
  have hmk := run_makeMap (P := Tryz.prog) 58 w
  have hmade := World.ownsMap_made w Tryz.prog 9 keyR
  have hbM := (Below.refl w.heap.size w).alloc (Nat.le_refl _) (.map #[] 0)
  go_enter Tryz.func25, Tryz.ntmps25
  go_upto_region 2 with fail
  have hbB : w.heap.size + 1 ≤ (World.alloc w (.map #[] 0)).heap.size := hmade.lt
  generalize World.alloc w _ = wm at *
  clear hmk
  obtain ⟨b, hgb⟩ : ∃ b, w.heap.size = b := ⟨_, rfl⟩
  rw [hgb] at hmade hbB
  simp only [hgb]
  go_wp2
  go_loopw [5, 9] (fun _ iv wr => ∃ (j : Nat) (D : DataW Unit), iv = .int .i64 (j : Int) ∧ j ≤ ks.length ∧ wr.ownsMap Tryz.prog 9 keyR b j D ∧ Pk ks j D ∧ Hid (Below w.heap.size w wr) ∧ b + 1 ≤ wr.heap.size) (fun _ iv _ => ks.length - (intOf iv).toNat)
  case atStart => exact ⟨0, .map [], rfl, Nat.zero_le _, hmade, Pk.start ks, Lib.hid hbM, hbB⟩
  case round =>
    clear hmade hbM hbB
    obtain ⟨j, D, rfl, hj, hown, hPl, HB, hbB⟩ := hrel
    have hb := HB.out
    by_cases hlt : j < ks.length
    case neg =>
      obtain rfl : j = ks.length := by omega
      have i1 : ¬ (ks.length : Int) < (ks.length : Int) := by omega
      clear hlt hj
      go_wp2
      go_ret
      exact ⟨b, D, rfl, by omega, hown, hPl, hb⟩
    obtain ⟨k, hk⟩ : ∃ k, ks[j]? = some k := ⟨_, List.getElem?_eq_getElem (by omega)⟩
    obtain ⟨bb, off, rfl, hr, _⟩ := (HL.out _ hb).at (i := j) (cs := twoS k) (by rw [List.getElem?_map, hk]; rfl)
    have hk1 := keys_sum HK.out hk
    have hkey : keyOf Tryz.prog 9 (.string k.1) = some (.string k.1.data.toList) := keyK (by rw [hk1.2, idT_size]; decide)
    have hPn := Lib.hid (hPl.put HK.out hown.isMap (lawS.key hkey) hk)
    obtain ⟨id, pub⟩ := k
    have hval := keyR_mk id pub
    have hkey : keyOf Tryz.prog 9 (.string id) = some (.string id.data.toList) := hkey
    have i1 : (j : Int) < (ks.length : Int) := by omega
    have i2 : (0 : Int) ≤ (j : Int) := by omega
    have hjm : j < maxLen := by omega
    have HJ := Lib.hid hlt
    have lZ := Lies.new wr 51 #[.string ⟨#[]⟩, .string ⟨#[]⟩]
    have hszB := hb.size
    have hbZ := hb.alloc hb.size (.cells #[.string ⟨#[]⟩, .string ⟨#[]⟩] 51)
    have hownZ := hown.alloc (.cells #[.string ⟨#[]⟩, .string ⟨#[]⟩] 51)
    have hownS := fun (cs : Array Value) => map_rowFar (g := wr.heap.size) hownZ (show b ≠ wr.heap.size by omega) cs
    clear hk hk1 hPl hlt hown
    go_upto_region 5 with (first
      | ((with_reducible refine V.wpL_loadMid bb (off + j * 2) _ 2 rowKey rfl hr ?_ ?_); rfl)
      | ((with_reducible refine V.wpL_store wr.heap.size 51 _ #[.string id, .string pub] 2 rowKey rfl rfl (two_one _ _) lZ ?_ ?_ ?_); rfl; rfl))
    have lK := lZ.row #[.string id, .string pub]
    have hbK := V.below_rowSet hbZ hszB #[.string id, .string pub]
    have hown2 := hownS #[.string id, .string pub]
    have hsz2 : b + 1 ≤ (World.setRow (wr.alloc (.cells #[.string ⟨#[]⟩, .string ⟨#[]⟩] 51)) wr.heap.size #[.string id, .string pub]).heap.size := by simp; omega
    generalize World.setRow _ _ _ = w2 at *
    have q0 := lK.cell 0; have q1 := lK.cell 1; simp only [List.getElem?_toArray, List.getElem?_cons_succ, List.getElem?_cons_zero] at q0 q1
    clear hr lZ hbZ hownZ hownS
    go_wp2_with (first
      | ((with_reducible refine V.wpL_load wr.heap.size 51 #[.string id, .string pub] 2 rowKey rfl lK ?_ ?_); rfl)
      | (at_mapUpdate; refine wpList_mapUpdate_own _ rfl _ _ _ 58 rfl 9 51 lawS Tryz.underlying58 keyR b j D rfl hown2 hjm _ _ _ rfl rfl hkey _ [] hval ?_; intro w3 hown3 hgrow3))
    go_roundw
    case rel => exact ⟨j + 1, _, by go_num, HJ.out, hown3, hPn.out, Lib.hid (hbK.grown hgrow3 (by omega) (fun k hk => by injection hk; omega)), Nat.le_trans hsz2 hgrow3.size⟩
    case measure =>
      have := HJ.out
      simp [intOf]; omega
end Go.Proofs.YtmekmlgpkbfjpaaGreatDoor.O

/- The developers' Sign: a text's signatures by seeds. -/
namespace Go.Proofs.YtmekmlgpkbfjpaaGreatDoor.O
open Go.RowKit Go.Sort Go.Proofs.YtmekmlgpkbfjpaaGreatDoor.E
open C (Pts)
open V (Lies OwnL RowL reg lessL bytesLess_is)
set_option maxRecDepth 100000

theorem public_bad (s : ByteArray) (h : s.size ≠ 32) (W : World) :
    Calls Tryz.prog 21 #[.string s] W fun e w' => e = .returned (.tuple #[.string { data := #[] }, .int .i64 1]) ∧ Below W.heap.size W w' := by
  have hB := Below.refl W.heap.size W
  have hi : ¬ (s.size : Int) = 32 := by omega
  clear h
  go_enter Tryz.func21, Tryz.ntmps21
  go_wp2_with fail
  exact bodyPost_ret (results_tmp2 Tryz.results21 _ _ _) rfl ⟨rfl, hB⟩
theorem public_good (A : Pts EdTab) (s : ByteArray) (h : s.size = 32) (W : World) (hT : EdTab W) :
    Calls Tryz.prog 21 #[.string s] W fun e w' => e = .returned (.tuple #[.string (keyT s.data.toList), .int .i64 0]) ∧ Below W.heap.size W w' := by
  have h1 := public_any A s (by omega) W hT
  rwa [if_pos h] at h1
theorem signs_good (A : Pts EdTab) (s m : ByteArray) (h : s.size = 32) (hm : m.size ≤ 1000) (W : World) (hT : EdTab W) :
    Calls Tryz.prog 22 #[.string s, .string m] W fun e w' => e = .returned (.tuple #[.string (seedT s m), .int .i64 0]) ∧ Below W.heap.size W w' := by
  have h1 := signs_any A s m (by omega) hm W hT
  rwa [if_pos h] at h1
/-- a seed's signature of a text, by its key's sum -/
def sigOf (text s : ByteArray) : B2 := (idT (keyT s.data.toList), seedT s text)
def seedsOk (seeds : List ByteArray) : Bool := seeds.all fun s => decide (s.size = 32)
theorem infoSig : (Tryz.prog.info? 46).map (fun i => (i.zero, i.size, i.bytes)) = some (some (.agg #[.string ⟨#[]⟩, .string ⟨#[]⟩]), 2, 32) := by kernel_rfl
theorem infoKey : (Tryz.prog.info? 51).map (fun i => (i.zero, i.size, i.bytes)) = some (some (.agg #[.string ⟨#[]⟩, .string ⟨#[]⟩]), 2, 32) := by kernel_rfl
theorem infoStr : (Tryz.prog.info? 9).map (fun i => (i.zero, i.size, i.bytes)) = some (some (.string ⟨#[]⟩), 1, 16) := by kernel_rfl
def SignPost (w : World) (text : ByteArray) (seeds : List ByteArray) (e : Ending) (w' : World) : Prop :=
  (seedsOk seeds = false ∧ e = .returned (.tuple #[.slice none 0 0, .int .i64 1]) ∧ Below w.heap.size w w') ∨
  (seedsOk seeds = true ∧ ∃ v, e = .returned (.tuple #[v, .int .i64 0]) ∧ OwnL w' w.heap.size 46 2 v ((seeds.map (sigOf text)).map twoS) ∧ Below w.heap.size w w')
theorem res_two' {fn : Func} {P : Program} {p q : Tmp} {tmps : Array Value} {w : World} (h : fn.results = #[.tmp p, .tmp q]) : (results fn tmps).run P w = .ok (.tuple #[tmps.getD p undef, tmps.getD q undef]) w := by
  simp [results, h]
theorem twoS_ones (k : B2) : ∀ u ∈ ([twoS k] : List (List Value)).flatten, u.oneCell' = true := fun u hu => by
  simp only [List.flatten_cons, List.flatten_nil, List.append_nil, List.mem_cons, List.mem_nil_iff, or_false] at hu
  rcases hu with rfl | rfl <;> rfl
set_option maxHeartbeats 6400000 in
theorem sign_any (A : Pts EdTab) (av : Option Addr) (cv : Nat) (seeds : List ByteArray) (text : ByteArray) (w : World) (hl : RowL w 1 (.slice av seeds.length cv) (seeds.map oneS)) (hm : text.size ≤ 1000) (hn : seeds.length ≤ 1000) (hT : RTab w) :
    Calls Tryz.prog 20 #[.string text, .slice av seeds.length cv] w fun e w' => SignPost w text seeds e w' := by
  obtain ⟨iS, hi, hz0, hz1, hz2⟩ := info_parts infoSig
  have HL := Lib.hid (fun (w1 : World) (hb : Below w.heap.size w w1) => hl.below hb)
  have HTT := Lib.hid (fun (w1 : World) (hb : Below w.heap.size w w1) => hT.on hb)
  clear hl hT
  go_enter Tryz.func20, Tryz.ntmps20
  go_wp2
  go_loopw [6, 8, 9, 10, 11, 12, 15] (fun v6 _ _ _ _ _ iv wr => ∃ j : Nat, iv = .int .i64 (j : Int) ∧ j ≤ seeds.length ∧ Hid (∀ (i : Nat) (s : ByteArray), i < j → seeds[i]? = some s → s.size = 32) ∧ Hid (OwnL wr w.heap.size 46 2 v6 (((seeds.take j).map (sigOf text)).map twoS)) ∧ Below w.heap.size w wr) (fun _ _ _ _ _ _ iv _ => seeds.length - (intOf iv).toNat)
  case atStart => exact ⟨0, rfl, Nat.zero_le _, Lib.hid (fun i s h => by omega), Lib.hid (OwnL.nil w w.heap.size 46 2), Below.refl _ _⟩
  case round =>
    obtain ⟨j, rfl, hj, HA, HO, hb⟩ := hrel
    by_cases hlt : j < seeds.length
    case neg =>
      obtain rfl : j = seeds.length := by omega
      have i1 : ¬ ((seeds.length : Int) < (seeds.length : Int)) := by omega
      have hfin := Lib.hid (show SignPost w text seeds (.returned (.tuple #[u6, .int .i64 0])) wr from .inr ⟨by
        unfold seedsOk
        rw [List.all_eq_true]
        intro s hs
        obtain ⟨i, hi⟩ := List.getElem?_of_mem hs
        exact decide_eq_true (HA.out i s (List.getElem?_eq_some_iff.1 hi).1 hi), u6, rfl, by have := HO.out; rwa [List.take_length] at this, hb⟩)
      go_wp2
      refine bodyPost_ret (res_two' rfl) rfl ?_
      exact hfin.out
    have i1 : (j : Int) < (seeds.length : Int) := by omega
    have i3 : (0 : Int) ≤ (j : Int) := by omega
    obtain ⟨s, hx⟩ : ∃ x, seeds[j]? = some x := ⟨_, List.getElem?_eq_getElem hlt⟩
    obtain ⟨b, off, rfl, hr, _⟩ := (HL.out _ hb).at (i := j) (cs := oneS s) (by rw [List.getElem?_map, hx]; rfl)
    have q0 := hr 0 (.string s) rfl
    rw [Nat.mul_one, Nat.add_zero] at q0
    have HJ := Lib.hid hlt
    by_cases h32 : s.size = 32
    case neg =>
      have HP := Lib.hid (fun (w : World) => public_bad s h32 w)
      have HN := Lib.hid (show seedsOk seeds = false by
        cases hc : seedsOk seeds with
        | false => rfl
        | true =>
          unfold seedsOk at hc
          exact absurd (of_decide_eq_true (List.all_eq_true.1 hc s (List.mem_of_getElem? hx))) h32)
      clear hx hr HO HA h32 hlt
      go_wp2_with (go_at_call 21; (with_reducible refine (HP.out _).mono ?_); rintro e w1 ⟨rfl, hb1⟩)
      refine bodyPost_ret (res_two' rfl) rfl ?_
      exact .inl ⟨HN.out, rfl, hb.trans (hb1.mono hb.size)⟩
    have hP0 := fun (w1 : World) (hb1 : Below w.heap.size w w1) => public_good A s h32 w1 (HTT.out w1 hb1).e.1
    have hS0 := fun (w1 : World) (hb1 : Below w.heap.size w w1) => signs_good A s text h32 hm w1 (HTT.out w1 hb1).e.1
    have hI0 := fun (w1 : World) (hb1 : Below w.heap.size w w1) => id_any (keyT s.data.toList) w1 (by rw [show (keyT s.data.toList).size = 32 from C.text_size _]; omega) (HTT.out w1 hb1).u
    obtain ⟨so, hso⟩ : ∃ so, sigOf text s = so := ⟨_, rfl⟩
    have hso1 : idT (keyT s.data.toList) = so.1 := by rw [← hso]; rfl
    have hso2 : seedT s text = so.2 := by rw [← hso]; rfl
    rw [hso1] at hI0
    rw [hso2] at hS0
    obtain ⟨id, sg⟩ := so
    have HS := Lib.hid (show ∀ w1, Below w.heap.size w w1 → Calls Tryz.prog 22 #[.string s, .string text] w1 fun e w' => e = .returned (.tuple #[.string sg, .int .i64 0]) ∧ Below w1.heap.size w1 w' from hS0)
    have HI := Lib.hid (show ∀ w1, Below w.heap.size w w1 → Calls Tryz.prog 15 #[.string (keyT s.data.toList)] w1 fun e w' => e = .returned (.string id) ∧ Below w1.heap.size w1 w' from hI0)
    have HP := Lib.hid hP0
    have HT2 := Lib.hid (show ((seeds.take j).map (sigOf text)).map twoS ++ [twoS (id, sg)] = ((seeds.take (j + 1)).map (sigOf text)).map twoS by
      rw [List.take_add_one, hx]
      simp only [Option.toList_some, List.map_append, List.map_cons, List.map_nil, hso])
    have HA2 := Lib.hid (show ∀ (i : Nat) (q : ByteArray), i < j + 1 → seeds[i]? = some q → q.size = 32 from fun i q hi hq => by
      by_cases e : i = j
      · subst e
        rw [hx] at hq
        rw [← Option.some.inj hq]
        exact h32
      · exact HA.out i q (by omega) hq)
    have hlen : (((seeds.take j).map (sigOf text)).map twoS).length = j := by rw [List.length_map, List.length_map, List.length_take]; omega
    generalize keyT s.data.toList = kt at *
    obtain ⟨L, hL⟩ : ∃ L, ((seeds.take j).map (sigOf text)).map twoS = L := ⟨_, rfl⟩
    rw [hL] at HO HT2 hlen
    have hszB := hb.size
    have HOwn := fun (w1 : World) (hb1 : Below wr.heap.size wr w1) => (HO.out.on hb1).on ((Below.refl w1.heap.size w1).alloc (Nat.le_refl _) (.cells #[.string id, .string sg] 46))
    have hlit := fun (w1 : World) => RowL.lit w1 46 2 [.string id, .string sg] rfl
    have hone := twoS_ones (id, sg)
    have h63 : L.length + ([twoS (id, sg)] : List (List Value)).length ≤ maxLen := by rw [hlen]; unfold maxLen; simp only [List.length_singleton]; omega
    have h64 : (L.length + ([twoS (id, sg)] : List (List Value)).length) * 32 ≤ 140737488355328 := by rw [hlen]; simp only [List.length_singleton]; omega
    have hB0 := Below.refl wr.heap.size wr
    have HB := Lib.hid hb
    have HSZ := fun (w1 : World) (hb1 : Below wr.heap.size wr w1) => (show w.heap.size ≤ (w1.alloc (.cells #[.string id, .string sg] 46)).heap.size by have := hb1.size; simp; omega)
    clear hx hr hL hso hso1 hso2 hP0 hS0 hI0 h32 hlt hlen
    go_upto_region 9 with (first
      | (go_at_call 21; (with_reducible refine (HP.out _ (hb.trans (hB0.mono hszB))).mono ?_); rintro e w1 ⟨rfl, hb1⟩; replace hB0 := below_on hB0 hb1; clear hb1)
      | (go_at_call 22; (with_reducible refine (HS.out _ (hb.trans (hB0.mono hszB))).mono ?_); rintro e w2 ⟨rfl, hb1⟩; replace hB0 := below_on hB0 hb1; clear hb1))
    go_wp2_with (first
      | (go_at_call 15; (with_reducible refine (HI.out _ (hb.trans (hB0.mono hszB))).mono ?_); rintro e w3 ⟨rfl, hb1⟩; replace hB0 := below_on hB0 hb1; clear hb1)
      | ((with_reducible refine V.wpL_appendL w.heap.size 46 iS (.agg #[.string ⟨#[]⟩, .string ⟨#[]⟩]) 2 32 Tryz.underlying26 hi hz0 hz1 hz2 rfl (by decide) _ L (HOwn _ hB0) _ _ (hlit _) hone h63 h64 (HSZ _ hB0) ?_ ?_ ?_); rfl; rfl; intro v5 w5 hoX hgX))
    go_roundw
    case rel => exact ⟨j + 1, by go_num, HJ.out, HA2, Lib.hid (by rw [← HT2.out]; exact hoX), ((HB.out.trans (hB0.mono hszB)).alloc (by have := hB0.size; omega) _).grown hgX (by have := hB0.size; simp; omega) (fun k hk => (HOwn _ hB0).lt k hk)⟩
    case measure =>
      have := HJ.out
      simp [intOf]; omega
end Go.Proofs.YtmekmlgpkbfjpaaGreatDoor.O

/- The developers' Count and Check: those of a role who signed, and whether they are as many as must. -/
namespace Go.Proofs.YtmekmlgpkbfjpaaGreatDoor.O
open Go.RowKit Go.Sort Go.Maps Go.Proofs.YtmekmlgpkbfjpaaGreatDoor.E
open C (Pts)
open V (Lies OwnL RowL reg lessL bytesLess_is)
set_option maxRecDepth 100000

theorem rowRole : V.RowT Tryz.prog 24 2 := ⟨⟨_, Tryz.underlying24, rfl⟩, by kernel_rfl⟩
/-- the rows that role's calls are handed -/
structure Rows4 (w : World) (av : Option Addr) (ac : Nat) (kv : Option Addr) (kc : Nat) (sv : Option Addr) (sc : Nat) (ids : List ByteArray) (keys sigs : List B2) : Prop where
  i : RowL w 1 (.slice av ids.length ac) (ids.map oneS)
  k : RowL w 2 (.slice kv keys.length kc) (keys.map twoS)
  s : RowL w 2 (.slice sv sigs.length sc) (sigs.map twoS)
theorem Rows4.on {w w' : World} {av kv sv : Option Addr} {ac kc sc : Nat} {ids : List ByteArray} {keys sigs : List B2} (h : Rows4 w av ac kv kc sv sc ids keys sigs) (hb : Below w.heap.size w w') : Rows4 w' av ac kv kc sv sc ids keys sigs := ⟨h.i.below hb, h.k.below hb, h.s.below hb⟩
def CountPost (w : World) (ids : List ByteArray) (need : Int) (keys : List B2) (text : ByteArray) (sigs : List B2) (e : Ending) (w' : World) : Prop :=
  (mayR ids need keys sigs = false ∧ e = .returned (.tuple #[.slice none 0 0, .int .i64 1]) ∧ Below w.heap.size w w') ∨
  (mayR ids need keys sigs = true ∧ ∃ v, e = .returned (.tuple #[v, .int .i64 0]) ∧ OwnL w' w.heap.size 9 1 v ((countR ids keys text sigs).map oneS) ∧ Below w.heap.size w w')
theorem pk_find {ks : List B2} {D : DataW Unit} (h : Pk ks ks.length D) (hK : keysR ks = true) (q : ByteArray) :
    (Maps.has D (.string q.data.toList) = false ∧ ks.find? (fun k => decide (k.1 = q)) = none) ∨ ∃ k, Maps.has D (.string q.data.toList) = true ∧ ks.find? (fun k => decide (k.1 = q)) = some k ∧ k.1 = q ∧ ∀ zd, D.atKey (.string q.data.toList) zd = keyD k := by
  have h1 := h.has q
  rw [List.take_length] at h1
  by_cases hx : ∃ k ∈ ks, k.1 = q
  · right
    rw [decide_eq_true hx] at h1
    obtain ⟨k, hk, rfl⟩ := hx
    obtain ⟨i, hi⟩ := List.getElem?_of_mem hk
    exact ⟨k, h1, keys_find hK hi, rfl, h.place i k (List.getElem?_eq_some_iff.1 hi).1 hi⟩
  · left
    rw [decide_eq_false hx] at h1
    refine ⟨h1, List.find?_eq_none.2 fun k hk e => hx ⟨k, hk, of_decide_eq_true e⟩⟩
theorem count_snoc {ids : List ByteArray} {keys sigs : List B2} {text : ByteArray} {j : Nat} {x : ByteArray} (h : ids[j]? = some x) : countR (ids.take (j + 1)) keys text sigs = countR (ids.take j) keys text sigs ++ (if signedB keys text sigs x = true then [x] else []) := by
  unfold countR
  rw [List.take_add_one, h, Option.toList_some, List.filter_append]
  congr 1
  rw [List.filter_cons, List.filter_nil]
theorem count_le (ids : List ByteArray) (keys sigs : List B2) (text : ByteArray) : (countR ids keys text sigs).length ≤ ids.length := List.length_filter_le _ _
theorem map_on {w w' : World} {k : TypeId} {R : Value → Option (DataW Unit × List MemPlace)} {b n : Nat} {D : DataW Unit} (h : w.ownsMap Tryz.prog k R b n D) (hb : Below w.heap.size w w') : w'.ownsMap Tryz.prog k R b n D := by
  have hlt : b < w.heap.size := h.lt
  obtain ⟨es, clock, hx, r⟩ := h
  exact ⟨es, clock, (hb.block b hlt).trans hx, r⟩
theorem own_base {w : World} {B B' : Nat} {e : TypeId} {k : Nat} {v : Value} {css : List (List Value)} (h : OwnL w B' e k v css) (hB : B ≤ B') : OwnL w B e k v css := by
  refine ⟨h.1, h.2.1, ?_⟩
  rcases h.2.2 with hv | ⟨g, cap, cur, hv, hg, r⟩
  · exact .inl hv
  · exact .inr ⟨g, cap, cur, hv, Nat.le_trans hB hg, r⟩
theorem keyR_form {v : Value} {z : DataW Unit × List MemPlace} (h : keyR v = some z) : ∃ a b, v = .agg #[.string a, .string b] := by
  unfold keyR at h
  split at h
  · rename_i cs
    split at h
    · rename_i a b hl
      exact ⟨a, b, by rw [show cs = cs.toList.toArray from rfl, hl]⟩
    · cases h
  · cases h
theorem oneS_ones (b : ByteArray) : ∀ u ∈ ([oneS b] : List (List Value)).flatten, u.oneCell' = true := fun u hu => by
  simp only [List.flatten_cons, List.flatten_nil, List.append_nil, List.mem_cons, List.mem_nil_iff, or_false] at hu
  rw [hu]
  rfl
set_option maxHeartbeats 6400000 in
theorem count_bad (av kv sv : Option Addr) (ac kc sc : Nat) (ids : List ByteArray) (need : Int) (keys : List B2) (text : ByteArray) (sigs : List B2) (w : World) (hR : Rows4 w av ac kv kc sv sc ids keys sigs) (hT : RTab w) (hb : mayR ids need keys sigs = false) :
    Calls Tryz.prog 9 #[.agg #[.slice av ids.length ac, .int .i64 need], .slice kv keys.length kc, .string text, .slice sv sigs.length sc] w fun e w' => CountPost w ids need keys text sigs e w' := by
  have lA := Lies.new w 24 #[.slice av ids.length ac, .int .i64 need]
  have hb0 := (Below.refl w.heap.size w).alloc (Nat.le_refl _) (.cells #[.slice av ids.length ac, .int .i64 need] 24)
  have HR := Lib.hid (fun (w1 : World) (hb : Below w.heap.size w w1) => right_any av ac ids need w1 (hR.i.below hb))
  have HK := Lib.hid (fun (w1 : World) (hb : Below w.heap.size w w1) => keys_any kv kc keys w1 (hR.k.below hb) (hT.u.below hb))
  have HF := Lib.hid (show ∀ w', Below w.heap.size w w' → CountPost w ids need keys text sigs (.returned (.tuple #[.slice none 0 0, .int .i64 1])) w' from fun w' h => .inl ⟨hb, rfl, h⟩)
  unfold mayR at hb
  cases h1 : rightR ids need with
  | false =>
    rw [h1] at HR
    clear hb h1 hR hT HK
    go_enter Tryz.func9, Tryz.ntmps9
    go_wp2_with (first
      | ((with_reducible refine V.wpL_load w.heap.size 24 #[.slice av ids.length ac, .int .i64 need] 2 rowRole rfl lA ?_ ?_); rfl)
      | (go_at_call 11; (with_reducible refine (HR.out _ hb0).mono ?_); rintro e w1 ⟨rfl, hb1⟩; replace hb0 := hb0.trans (hb1.mono hb0.size); clear hb1))
    refine bodyPost_ret (res_two' rfl) rfl ?_
    exact HF.out _ hb0
  | true =>
    rw [h1, Bool.true_and] at hb
    rw [h1] at HR
    cases h2 : keysR keys with
    | false =>
      rw [h2] at HK
      clear hb h1 h2 hR hT
      go_enter Tryz.func9, Tryz.ntmps9
      go_wp2_with (first
        | ((with_reducible refine V.wpL_load w.heap.size 24 #[.slice av ids.length ac, .int .i64 need] 2 rowRole rfl lA ?_ ?_); rfl)
        | (go_at_call 11; (with_reducible refine (HR.out _ hb0).mono ?_); rintro e w1 ⟨rfl, hb1⟩; replace hb0 := hb0.trans (hb1.mono hb0.size); clear hb1)
        | (go_at_call 13; (with_reducible refine (HK.out _ hb0).mono ?_); rintro e w1 ⟨rfl, hb1⟩; replace hb0 := hb0.trans (hb1.mono hb0.size); clear hb1))
      refine bodyPost_ret (res_two' rfl) rfl ?_
      exact HF.out _ hb0
    | true =>
      rw [h2, Bool.true_and] at hb
      rw [h2] at HK
      have i1 : (16 : Int) < (sigs.length : Int) := by have := of_decide_eq_false hb; omega
      clear hb h1 h2 hR hT
      go_enter Tryz.func9, Tryz.ntmps9
      go_wp2_with (first
        | ((with_reducible refine V.wpL_load w.heap.size 24 #[.slice av ids.length ac, .int .i64 need] 2 rowRole rfl lA ?_ ?_); rfl)
        | (go_at_call 11; (with_reducible refine (HR.out _ hb0).mono ?_); rintro e w1 ⟨rfl, hb1⟩; replace hb0 := hb0.trans (hb1.mono hb0.size); clear hb1)
        | (go_at_call 13; (with_reducible refine (HK.out _ hb0).mono ?_); rintro e w1 ⟨rfl, hb1⟩; replace hb0 := hb0.trans (hb1.mono hb0.size); clear hb1))
      refine bodyPost_ret (res_two' rfl) rfl ?_
      exact HF.out _ hb0
set_option maxHeartbeats 12800000 in
theorem count_good (A : Pts EdTab) (av kv sv : Option Addr) (ac kc sc : Nat) (ids : List ByteArray) (need : Int) (keys : List B2) (text : ByteArray) (sigs : List B2) (w : World) (hR : Rows4 w av ac kv kc sv sc ids keys sigs) (hm : text.size ≤ 1000) (hT : RTab w) (hb : mayR ids need keys sigs = true) :
    Calls Tryz.prog 9 #[.agg #[.slice av ids.length ac, .int .i64 need], .slice kv keys.length kc, .string text, .slice sv sigs.length sc] w fun e w' => CountPost w ids need keys text sigs e w' := by
  obtain ⟨iS, hi, hz0, hz1, hz2⟩ := info_parts infoStr
  have HM := Lib.hid hb
  have lA := Lies.new w 24 #[.slice av ids.length ac, .int .i64 need]
  have hb0 := (Below.refl w.heap.size w).alloc (Nat.le_refl _) (.cells #[.slice av ids.length ac, .int .i64 need] 24)
  have HR := Lib.hid (fun (w1 : World) (hb : Below w.heap.size w w1) => right_any av ac ids need w1 (hR.i.below hb))
  have HK := Lib.hid (fun (w1 : World) (hb : Below w.heap.size w w1) => keys_any kv kc keys w1 (hR.k.below hb) (hT.u.below hb))
  unfold mayR at hb
  rw [Bool.and_eq_true, Bool.and_eq_true] at hb
  obtain ⟨⟨h1, h2⟩, h3⟩ := hb
  have hI := Lib.hid (fun (w1 : World) (hb : Below w.heap.size w w1) => byId_any kv kc keys w1 (hR.k.below hb) h2)
  have HKR := Lib.hid h2
  have hi16 : ids.length ≤ 16 := by
    unfold rightR at h1
    rw [Bool.and_eq_true, Bool.and_eq_true] at h1
    exact of_decide_eq_true h1.1.1
  have hidz := Lib.hid (show ∀ (i : Nat) (x : ByteArray), ids[i]? = some x → x.size = 64 from fun i x hx => by
    unfold rightR at h1
    rw [Bool.and_eq_true] at h1
    have h4 := allTo_iff.1 h1.2 i (List.getElem?_eq_some_iff.1 hx).1
    unfold stepR isSumB at h4
    rw [List.getD_eq_getElem?_getD, hx] at h4
    simp only [Option.getD_some, Bool.and_eq_true, decide_eq_true_eq] at h4
    exact h4.1.1)
  rw [h1] at HR
  rw [h2] at HK
  have i16 : ¬ (16 : Int) < (sigs.length : Int) := by have := of_decide_eq_true h3; omega
  have HRow := Lib.hid (fun (w1 : World) (hb : Below w.heap.size w w1) => hR.on hb)
  have HTT := Lib.hid (fun (w1 : World) (hb : Below w.heap.size w w1) => hT.on hb)
  clear h1 h2 h3 hR hT
  go_enter Tryz.func9, Tryz.ntmps9
  go_upto_region 5 with (first
      | ((with_reducible refine V.wpL_load w.heap.size 24 #[.slice av ids.length ac, .int .i64 need] 2 rowRole rfl lA ?_ ?_); rfl)
      | (go_at_call 11; (with_reducible refine (HR.out _ hb0).mono ?_); rintro e w1 ⟨rfl, hb1⟩; replace lA := lA.on hb1; replace hb0 := hb0.trans (hb1.mono hb0.size); clear hb1)
      | (go_at_call 13; (with_reducible refine (HK.out _ hb0).mono ?_); rintro e w1 ⟨rfl, hb1⟩; replace lA := lA.on hb1; replace hb0 := hb0.trans (hb1.mono hb0.size); clear hb1)
      | (go_at_call 25; (with_reducible refine (hI.out _ hb0).mono ?_); rintro e w2 ⟨b, D, rfl, hbb, hown, hPk, hb1⟩; replace lA := lA.on hb1; have hbw := hb0.size; replace hb0 := hb0.trans (hb1.mono hb0.size); clear hb1))
  have q0 := lA.cell 0; have q1 := lA.cell 1; simp only [List.getElem?_toArray, List.getElem?_cons_succ, List.getElem?_cons_zero] at q0 q1
  have hbm := hown.lt
  have HbW := Lib.hid (show w.heap.size ≤ b by omega)
  clear HR HK hI i16 hbw hbb
  go_wp2
  clear q0 q1
  go_loopw [11, 13, 14, 15, 34] (fun v11 _ _ _ iv wr => ∃ j : Nat, iv = .int .i64 (j : Int) ∧ j ≤ ids.length ∧ Hid (OwnL wr (b + 1) 9 1 v11 ((countR (ids.take j) keys text sigs).map oneS)) ∧ wr.ownsMap Tryz.prog 9 keyR b keys.length D ∧ Below w.heap.size w wr ∧ b + 1 ≤ wr.heap.size) (fun _ _ _ _ iv _ => ids.length - (intOf iv).toNat)
  case atStart => exact ⟨0, rfl, Nat.zero_le _, Lib.hid (OwnL.nil _ (b + 1) 9 1), hown, hb0, hbm⟩
  case round =>
    clear hown hb0 hbm lA
    obtain ⟨j, rfl, hj, HO, hown, hb, hbm⟩ := hrel
    by_cases hlt : j < ids.length
    case neg =>
      obtain rfl : j = ids.length := by omega
      have i1 : ¬ ((ids.length : Int) < (ids.length : Int)) := by omega
      have hO := HO.out
      rw [List.take_length] at hO
      have hfin := Lib.hid (show CountPost w ids need keys text sigs (.returned (.tuple #[u11, .int .i64 0])) wr from .inr ⟨HM.out, u11, rfl, own_base hO (by have := HbW.out; omega), hb⟩)
      clear hO HO
      go_wp2
      refine bodyPost_ret (res_two' rfl) rfl ?_
      exact hfin.out
    have i1 : (j : Int) < (ids.length : Int) := by omega
    have i3 : (0 : Int) ≤ (j : Int) := by omega
    obtain ⟨x, hx⟩ : ∃ x, ids[j]? = some x := ⟨_, List.getElem?_eq_getElem hlt⟩
    obtain ⟨b1, off, rfl, hr, _⟩ := (HRow.out _ hb).i.at (i := j) (cs := oneS x) (by rw [List.getElem?_map, hx]; rfl)
    have q0 := hr 0 (.string x) rfl
    rw [Nat.mul_one, Nat.add_zero] at q0
    have hkey : keyOf Tryz.prog 9 (.string x) = some (.string x.data.toList) := keyK (by rw [hidz.out j x hx]; decide)
    have HJ := Lib.hid hlt
    have hstep := count_snoc (keys := keys) (sigs := sigs) (text := text) hx
    have hzd := keyR_mk ⟨#[]⟩ ⟨#[]⟩
    have hcl : (countR (ids.take j) keys text sigs).length ≤ j := by
      have := count_le (ids.take j) keys sigs text
      rw [List.length_take] at this
      omega
    obtain ⟨L, hL⟩ : ∃ L, countR (ids.take j) keys text sigs = L := ⟨_, rfl⟩
    rw [hL] at hstep HO hcl
    rcases pk_find hPk HKR.out x with ⟨f1, f2⟩ | ⟨k, f1, f2, f3, f4⟩
    · rw [signed_none f2, if_neg (by simp), List.append_nil] at hstep
      have HS := Lib.hid hstep
      clear hx hr hlt f2 hstep hL hcl
      go_upto_region 9 with ((at_lookup; refine wpList_lookup_own_ok _ rfl _ _ 58 rfl 9 51 lawS Tryz.underlying58 keyR (zeroK _) (keyD (⟨#[]⟩, ⟨#[]⟩)) [] hzd b keys.length D rfl hown _ _ rfl hkey ?_; intro v ps hv; rw [f1]; obtain ⟨ya, yb, rfl⟩ := keyR_form hv; clear hv))
      have hbK := hb.alloc hb.size (.cells #[.string ya, .string yb] 51)
      have hown2 := hown.alloc (.cells #[.string ya, .string yb] 51)
      have hO2 := Lib.hid (HO.out.on ((Below.refl wr.heap.size wr).alloc (Nat.le_refl _) (.cells #[.string ya, .string yb] 51)))
      have hsz2 : b + 1 ≤ (wr.alloc (.cells #[.string ya, .string yb] 51)).heap.size := by simp; omega
      generalize World.alloc wr _ = w2 at *
      go_wp2
      go_roundw
      case rel => exact ⟨j + 1, by go_num, HJ.out, Lib.hid (by rw [HS.out]; exact hO2.out), hown2, hbK, hsz2⟩
      case measure =>
        have := HJ.out
        simp [intOf]; omega
    · rw [signed_some f2] at hstep
      obtain ⟨id, pub⟩ := k
      obtain rfl : id = x := f3
      have hsg0 : (if sigIn (id, pub).2 id text sigs = true then [id] else []) = (if sigIn pub id text sigs = true then [id] else []) := rfl
      rw [hsg0] at hstep
      clear hsg0
      have HSg := Lib.hid (fun (w1 : World) (hb : Below w.heap.size w w1) => signed_any A sv sc sigs id pub text w1 (HRow.out w1 hb).s hm (HTT.out w1 hb).e)
      obtain ⟨B0, hB0⟩ : ∃ B0, sigIn pub id text sigs = B0 := ⟨_, rfl⟩
      rw [hB0] at hstep HSg
      clear hx hr hlt f2 hL hB0
      go_upto_region 9 with ((at_lookup; refine wpList_lookup_own_ok _ rfl _ _ 58 rfl 9 51 lawS Tryz.underlying58 keyR (zeroK _) (keyD (⟨#[]⟩, ⟨#[]⟩)) [] hzd b keys.length D rfl hown _ _ rfl hkey ?_; intro v ps hv; rw [f1]; rw [f4] at hv; obtain rfl := keyR_inv hv; clear hv))
      have hbK := hb.alloc hb.size (.cells #[.string id, .string pub] 51)
      have hown2 := hown.alloc (.cells #[.string id, .string pub] 51)
      have lK := Lies.new wr 51 #[.string id, .string pub]
      have hO2 := HO.out.on ((Below.refl wr.heap.size wr).alloc (Nat.le_refl _) (.cells #[.string id, .string pub] 51))
      have hsz2 : b + 1 ≤ (wr.alloc (.cells #[.string id, .string pub] 51)).heap.size := by simp; omega
      clear HO hown f1 f4 hzd
      generalize World.alloc wr _ = w2 at *
      have k0 := lK.cell 0; have k1 := lK.cell 1; simp only [List.getElem?_toArray, List.getElem?_cons_succ, List.getElem?_cons_zero] at k0 k1
      cases B0 with
      | false =>
        rw [if_neg (by simp), List.append_nil] at hstep
        have HS := Lib.hid hstep
        have HO2 := Lib.hid hO2
        clear hstep hO2 hcl
        go_wp2_with (go_at_call 26; (with_reducible refine (HSg.out _ hbK).mono ?_); rintro e w3 ⟨rfl, hb3⟩)
        go_roundw
        case rel => exact ⟨j + 1, by go_num, HJ.out, Lib.hid (by rw [HS.out]; exact HO2.out.on hb3), map_on hown2 hb3, hbK.trans (hb3.mono hbK.size), Nat.le_trans hsz2 hb3.size⟩
        case measure =>
          have := HJ.out
          simp [intOf]; omega
      | true =>
        rw [if_pos rfl] at hstep
        have HS := Lib.hid hstep
        have hOa := fun (w3 : World) (hb3 : Below w2.heap.size w2 w3) => (hO2.on hb3).on ((Below.refl w3.heap.size w3).alloc (Nat.le_refl _) (.cells #[.string id] 9))
        have hlit := fun (w3 : World) => RowL.lit w3 9 1 [.string id] rfl
        have hone := oneS_ones id
        have h63 : (L.map oneS).length + ([oneS id] : List (List Value)).length ≤ maxLen := by rw [List.length_map]; unfold maxLen; simp only [List.length_singleton]; omega
        have h64 : ((L.map oneS).length + ([oneS id] : List (List Value)).length) * 16 ≤ 140737488355328 := by rw [List.length_map]; simp only [List.length_singleton]; omega
        have hSZ := fun (w3 : World) (hb3 : Below w2.heap.size w2 w3) => (show b + 1 ≤ (w3.alloc (.cells #[.string id] 9)).heap.size by have := hb3.size; simp; omega)
        clear hstep hcl hO2
        go_wp2_with (first
          | (go_at_call 26; (with_reducible refine (HSg.out _ hbK).mono ?_); rintro e w3 ⟨rfl, hb3⟩)
          | ((with_reducible refine V.wpL_appendL (b + 1) 9 iS (.string ⟨#[]⟩) 1 16 Tryz.underlying22 hi hz0 hz1 hz2 rfl (by decide) _ (L.map oneS) (hOa _ hb3) _ _ (hlit _) hone h63 h64 (hSZ _ hb3) ?_ ?_ ?_); rfl; rfl; intro v5 w5 hoX hgX; have hneX : some b ≠ u11.ownBlock := fun e => by (have := (hOa _ hb3).lt b e.symm; omega)))
        go_roundw
        case rel => exact ⟨j + 1, by go_num, HJ.out, Lib.hid (by rw [HS.out, List.map_append]; exact hoX), ((map_on hown2 hb3).alloc _).kept hgX hneX, ((hbK.trans (hb3.mono hbK.size)).alloc (by have := hbK.size; have := hb3.size; omega) _).grown hgX (by have := hbK.size; have := hb3.size; simp; omega) (fun k hk => by have := (hOa _ hb3).lt k hk; have := HbW.out; omega), Nat.le_trans (hSZ _ hb3) hgX.size⟩
        case measure =>
          have := HJ.out
          simp [intOf]; omega
set_option maxHeartbeats 3200000 in
theorem count_any (A : Pts EdTab) (av kv sv : Option Addr) (ac kc sc : Nat) (ids : List ByteArray) (need : Int) (keys : List B2) (text : ByteArray) (sigs : List B2) (w : World) (hR : Rows4 w av ac kv kc sv sc ids keys sigs) (hm : text.size ≤ 1000) (hT : RTab w) :
    Calls Tryz.prog 9 #[.agg #[.slice av ids.length ac, .int .i64 need], .slice kv keys.length kc, .string text, .slice sv sigs.length sc] w fun e w' => CountPost w ids need keys text sigs e w' := by
  cases h : mayR ids need keys sigs with
  | false => exact count_bad av kv sv ac kc sc ids need keys text sigs w hR hT h
  | true => exact count_good A av kv sv ac kc sc ids need keys text sigs w hR hm hT h
set_option maxHeartbeats 6400000 in
theorem check_any (A : Pts EdTab) (av kv sv : Option Addr) (ac kc sc : Nat) (ids : List ByteArray) (need : Int) (keys : List B2) (text : ByteArray) (sigs : List B2) (w : World) (hR : Rows4 w av ac kv kc sv sc ids keys sigs) (hm : text.size ≤ 1000) (hT : RTab w) :
    Calls Tryz.prog 10 #[.agg #[.slice av ids.length ac, .int .i64 need], .slice kv keys.length kc, .string text, .slice sv sigs.length sc] w fun e w' => e = .returned (.int .i64 (checkR ids need keys text sigs)) ∧ Below w.heap.size w w' := by
  have lA := Lies.new w 24 #[.slice av ids.length ac, .int .i64 need]
  have hb0 := (Below.refl w.heap.size w).alloc (Nat.le_refl _) (.cells #[.slice av ids.length ac, .int .i64 need] 24)
  have HC := Lib.hid (fun (w1 : World) (hb : Below w.heap.size w w1) => count_any A av kv sv ac kc sc ids need keys text sigs w1 (hR.on hb) hm (hT.on hb))
  have hcl := count_le ids keys sigs text
  have hcap : ids.length ≤ 9223372036854775807 := by
    obtain ⟨a', c', e, h1, h2, _⟩ := hR.i.form
    injection e with _ _ e3
    rw [List.length_map] at h1
    unfold maxLen at h2
    omega
  obtain ⟨X, hX⟩ : ∃ X, checkR ids need keys text sigs = X := ⟨_, rfl⟩
  rw [hX]
  unfold checkR at hX
  unfold CountPost at HC
  generalize countR ids keys text sigs = L at *
  cases hM : mayR ids need keys sigs with
  | false =>
    rw [hM, if_neg (by simp)] at hX
    rw [hM] at HC
    subst hX
    clear hR hT hM
    go_enter Tryz.func10, Tryz.ntmps10
    go_wp2_with (first
      | ((with_reducible refine V.wpL_load w.heap.size 24 #[.slice av ids.length ac, .int .i64 need] 2 rowRole rfl lA ?_ ?_); rfl)
      | (go_at_call 9; (with_reducible refine (HC.out _ hb0).mono ?_); rintro e w1 (⟨_, rfl, hb1⟩ | ⟨hno, _⟩); rotate_left; (exact absurd hno (by simp))))
    go_ret
    exact ⟨rfl, hb0.trans (hb1.mono hb0.size)⟩
  | true =>
    rw [hM, if_pos rfl] at hX
    rw [hM] at HC
    clear hR hT hM
    by_cases hlt : (L.length : Int) < need
    · rw [if_pos hlt] at hX
      subst hX
      go_enter Tryz.func10, Tryz.ntmps10
      go_upto_region 2 with (first
        | ((with_reducible refine V.wpL_load w.heap.size 24 #[.slice av ids.length ac, .int .i64 need] 2 rowRole rfl lA ?_ ?_); rfl)
        | (go_at_call 9; (with_reducible refine (HC.out _ hb0).mono ?_); rintro e w1 (⟨hno, _⟩ | ⟨_, v, rfl, hO, hb1⟩); (exact absurd hno (by simp)); obtain ⟨ov, oc, rfl, ho1, ho2, _⟩ := hO.form))
      have lA1 := lA.on hb1
      have q1 := lA1.cell 1; simp only [List.getElem?_toArray, List.getElem?_cons_succ, List.getElem?_cons_zero] at q1
      go_wp2
      go_ret
      exact ⟨rfl, hb0.trans (hb1.mono hb0.size)⟩
    · rw [if_neg hlt] at hX
      subst hX
      go_enter Tryz.func10, Tryz.ntmps10
      go_upto_region 2 with (first
        | ((with_reducible refine V.wpL_load w.heap.size 24 #[.slice av ids.length ac, .int .i64 need] 2 rowRole rfl lA ?_ ?_); rfl)
        | (go_at_call 9; (with_reducible refine (HC.out _ hb0).mono ?_); rintro e w1 (⟨hno, _⟩ | ⟨_, v, rfl, hO, hb1⟩); (exact absurd hno (by simp)); obtain ⟨ov, oc, rfl, ho1, ho2, _⟩ := hO.form))
      have lA1 := lA.on hb1
      have q1 := lA1.cell 1; simp only [List.getElem?_toArray, List.getElem?_cons_succ, List.getElem?_cons_zero] at q1
      go_wp2
      go_ret
      exact ⟨rfl, hb0.trans (hb1.mono hb0.size)⟩
end Go.Proofs.YtmekmlgpkbfjpaaGreatDoor.O

/- The first seeds' keys, and their sums: reckoned by the kernel. -/
namespace Go.Proofs.YtmekmlgpkbfjpaaGreatDoor.O
open Go.Proofs.YtmekmlgpkbfjpaaGreatDoor.F Go.Proofs.YtmekmlgpkbfjpaaGreatDoor.C Go.Proofs.YtmekmlgpkbfjpaaGreatDoor.E
set_option maxRecDepth 100000

/-- a point by what the ladder comes to -/
theorem key_by {s : List UInt8} {N x y : Nat} (hn : seedN s % l25 = N) (hN : N < 2 ^ 253) (hl : lad bxN byN 253 N (fun X Y W => decide (X = x * W % p25) && decide (Y = y * W % p25)) = true) : keyP s = ⟨z x, z y⟩ := by
  obtain ⟨X, Y, W, e, r⟩ := lad_rep bxN byN Bp_on 253 N hN (fun X Y W => decide (X = x * W % p25) && decide (Y = y * W % p25))
  rw [hl] at e
  have e' := e.symm
  simp only [Bool.and_eq_true, decide_eq_true_eq] at e'
  obtain ⟨e1, e2⟩ := e'
  obtain ⟨n, a, b⟩ := r
  unfold keyP
  rw [hn]
  rw [e1, z_mod, z_mul] at a
  rw [e2, z_mod, z_mul] at b
  have hx : Bp.smul N = Pt.smul ⟨z bxN, z byN⟩ N := rfl
  rw [hx]
  refine Pt.same ?_ ?_
  · exact zcancel n (by show z W * _ = z W * z x; grind)
  · exact zcancel n (by show z W * _ = z W * z y; grind)
theorem seed0_sum : T.sumT (sdL 0) = [103, 244, 10, 232, 53, 216, 134, 137, 100, 112, 197, 86, 233, 147, 116, 3, 252, 230, 128, 149, 131, 30, 203, 224, 67, 10, 154, 67, 251, 108, 77, 145, 17, 15, 23, 205, 54, 133, 19, 39, 254, 156, 19, 46, 59, 83, 94, 38, 211, 130, 112, 66, 87, 240, 127, 87, 156, 84, 206, 67, 88, 201, 51, 171] := by decide +kernel
theorem seed0_num : seedN (sdL 0) % l25 = 589112235242560780159245257276030458010305208238600953333290448059170148543 := by
  unfold seedN
  rw [seed0_sum]
  decide +kernel
theorem lad0 : lad bxN byN 253 589112235242560780159245257276030458010305208238600953333290448059170148543 (fun X Y W => decide (X = 21118997806520664743822372618867836396522336155367532277683440606221667725912 * W % p25) && decide (Y = 32779579187814040810945550803777251496510493113992938763558678428395901529119 * W % p25)) = true := by decide +kernel
theorem key0 : keyP (sdL 0) = ⟨z 21118997806520664743822372618867836396522336155367532277683440606221667725912, z 32779579187814040810945550803777251496510493113992938763558678428395901529119⟩ := key_by seed0_num (by decide) lad0
theorem text0 : keyT (sdL 0) = ⟨#[31, 172, 23, 164, 152, 50, 66, 94, 227, 226, 121, 210, 131, 91, 166, 150, 79, 211, 33, 122, 254, 174, 92, 41, 25, 221, 98, 103, 151, 149, 120, 72]⟩ := by
  unfold keyT
  rw [key0]
  unfold textN
  rw [show (z 32779579187814040810945550803777251496510493113992938763558678428395901529119).val = 32779579187814040810945550803777251496510493113992938763558678428395901529119 from val_z (by decide), show (z 21118997806520664743822372618867836396522336155367532277683440606221667725912).val = 21118997806520664743822372618867836396522336155367532277683440606221667725912 from val_z (by decide)]
  decide +kernel
theorem sum0 : U.sumT [31, 172, 23, 164, 152, 50, 66, 94, 227, 226, 121, 210, 131, 91, 166, 150, 79, 211, 33, 122, 254, 174, 92, 41, 25, 221, 98, 103, 151, 149, 120, 72] = [164, 135, 241, 83, 88, 33, 161, 13, 174, 73, 61, 5, 33, 144, 193, 16, 106, 31, 108, 48, 4, 31, 11, 2, 227, 40, 103, 118, 43, 146, 178, 53] := by decide +kernel
theorem id0 : idT (keyT (sdL 0)) = ⟨#[97, 52, 56, 55, 102, 49, 53, 51, 53, 56, 50, 49, 97, 49, 48, 100, 97, 101, 52, 57, 51, 100, 48, 53, 50, 49, 57, 48, 99, 49, 49, 48, 54, 97, 49, 102, 54, 99, 51, 48, 48, 52, 49, 102, 48, 98, 48, 50, 101, 51, 50, 56, 54, 55, 55, 54, 50, 98, 57, 50, 98, 50, 51, 53]⟩ := by
  unfold idT
  rw [text0]
  show (⟨(hexL (U.sumT [31, 172, 23, 164, 152, 50, 66, 94, 227, 226, 121, 210, 131, 91, 166, 150, 79, 211, 33, 122, 254, 174, 92, 41, 25, 221, 98, 103, 151, 149, 120, 72])).toArray⟩ : ByteArray) = _
  rw [sum0]
  decide +kernel
theorem seed1_sum : T.sumT (sdL 1) = [150, 195, 4, 201, 226, 15, 36, 165, 162, 117, 220, 191, 60, 238, 67, 156, 147, 47, 219, 87, 5, 48, 160, 184, 75, 182, 48, 76, 220, 43, 94, 79, 34, 127, 151, 124, 95, 111, 240, 112, 0, 33, 236, 137, 174, 182, 74, 255, 71, 245, 61, 201, 17, 16, 36, 166, 250, 187, 48, 235, 202, 135, 8, 76] := by decide +kernel
theorem seed1_num : seedN (sdL 1) % l25 = 6951079067143115879496202635405907757649151726065242737542934715821774959580 := by
  unfold seedN
  rw [seed1_sum]
  decide +kernel
theorem lad1 : lad bxN byN 253 6951079067143115879496202635405907757649151726065242737542934715821774959580 (fun X Y W => decide (X = 10605334729512430624253814963844103879766920966154093545003861782884703656888 * W % p25) && decide (Y = 35970983688008246235033679267676275250897401052131052289368737393149973867208 * W % p25)) = true := by decide +kernel
theorem key1 : keyP (sdL 1) = ⟨z 10605334729512430624253814963844103879766920966154093545003861782884703656888, z 35970983688008246235033679267676275250897401052131052289368737393149973867208⟩ := key_by seed1_num (by decide) lad1
theorem text1 : keyT (sdL 1) = ⟨#[200, 170, 95, 26, 137, 247, 18, 37, 113, 113, 253, 205, 35, 175, 238, 28, 13, 221, 57, 97, 74, 89, 53, 122, 59, 91, 26, 107, 243, 218, 134, 79]⟩ := by
  unfold keyT
  rw [key1]
  unfold textN
  rw [show (z 35970983688008246235033679267676275250897401052131052289368737393149973867208).val = 35970983688008246235033679267676275250897401052131052289368737393149973867208 from val_z (by decide), show (z 10605334729512430624253814963844103879766920966154093545003861782884703656888).val = 10605334729512430624253814963844103879766920966154093545003861782884703656888 from val_z (by decide)]
  decide +kernel
theorem sum1 : U.sumT [200, 170, 95, 26, 137, 247, 18, 37, 113, 113, 253, 205, 35, 175, 238, 28, 13, 221, 57, 97, 74, 89, 53, 122, 59, 91, 26, 107, 243, 218, 134, 79] = [174, 75, 57, 237, 112, 9, 153, 251, 59, 235, 38, 191, 249, 51, 123, 96, 130, 148, 118, 61, 203, 211, 195, 42, 144, 238, 14, 3, 195, 236, 26, 60] := by decide +kernel
theorem id1 : idT (keyT (sdL 1)) = ⟨#[97, 101, 52, 98, 51, 57, 101, 100, 55, 48, 48, 57, 57, 57, 102, 98, 51, 98, 101, 98, 50, 54, 98, 102, 102, 57, 51, 51, 55, 98, 54, 48, 56, 50, 57, 52, 55, 54, 51, 100, 99, 98, 100, 51, 99, 51, 50, 97, 57, 48, 101, 101, 48, 101, 48, 51, 99, 51, 101, 99, 49, 97, 51, 99]⟩ := by
  unfold idT
  rw [text1]
  show (⟨(hexL (U.sumT [200, 170, 95, 26, 137, 247, 18, 37, 113, 113, 253, 205, 35, 175, 238, 28, 13, 221, 57, 97, 74, 89, 53, 122, 59, 91, 26, 107, 243, 218, 134, 79])).toArray⟩ : ByteArray) = _
  rw [sum1]
  decide +kernel
theorem seed2_sum : T.sumT (sdL 2) = [189, 56, 164, 227, 65, 0, 190, 24, 1, 63, 154, 14, 240, 88, 240, 114, 218, 174, 26, 198, 42, 152, 221, 110, 150, 130, 204, 153, 5, 123, 87, 126, 202, 45, 36, 205, 49, 45, 169, 252, 79, 199, 150, 116, 61, 1, 111, 239, 156, 130, 164, 217, 136, 217, 70, 158, 16, 214, 198, 163, 60, 149, 166, 195] := by decide +kernel
theorem seed2_num : seedN (sdL 2) % l25 = 6486944640598748652941400302250616367419132094531676776001521621909797301565 := by
  unfold seedN
  rw [seed2_sum]
  decide +kernel
theorem lad2 : lad bxN byN 253 6486944640598748652941400302250616367419132094531676776001521621909797301565 (fun X Y W => decide (X = 53962783750875364034155009904508584534609761464009346182205983320121903221341 * W % p25) && decide (Y = 53282878823683712298502867503204414811166151728285853523218859602493780555250 * W % p25)) = true := by decide +kernel
theorem key2 : keyP (sdL 2) = ⟨z 53962783750875364034155009904508584534609761464009346182205983320121903221341, z 53282878823683712298502867503204414811166151728285853523218859602493780555250⟩ := key_by seed2_num (by decide) lad2
theorem text2 : keyT (sdL 2) = ⟨#[242, 117, 220, 2, 168, 196, 7, 164, 26, 33, 194, 90, 247, 71, 57, 255, 147, 96, 223, 215, 153, 237, 102, 52, 7, 28, 102, 151, 106, 10, 205, 245]⟩ := by
  unfold keyT
  rw [key2]
  unfold textN
  rw [show (z 53282878823683712298502867503204414811166151728285853523218859602493780555250).val = 53282878823683712298502867503204414811166151728285853523218859602493780555250 from val_z (by decide), show (z 53962783750875364034155009904508584534609761464009346182205983320121903221341).val = 53962783750875364034155009904508584534609761464009346182205983320121903221341 from val_z (by decide)]
  decide +kernel
theorem sum2 : U.sumT [242, 117, 220, 2, 168, 196, 7, 164, 26, 33, 194, 90, 247, 71, 57, 255, 147, 96, 223, 215, 153, 237, 102, 52, 7, 28, 102, 151, 106, 10, 205, 245] = [159, 47, 78, 94, 181, 95, 47, 191, 190, 149, 126, 231, 111, 79, 65, 163, 236, 226, 228, 218, 170, 232, 175, 54, 87, 17, 71, 212, 237, 208, 181, 135] := by decide +kernel
theorem id2 : idT (keyT (sdL 2)) = ⟨#[57, 102, 50, 102, 52, 101, 53, 101, 98, 53, 53, 102, 50, 102, 98, 102, 98, 101, 57, 53, 55, 101, 101, 55, 54, 102, 52, 102, 52, 49, 97, 51, 101, 99, 101, 50, 101, 52, 100, 97, 97, 97, 101, 56, 97, 102, 51, 54, 53, 55, 49, 49, 52, 55, 100, 52, 101, 100, 100, 48, 98, 53, 56, 55]⟩ := by
  unfold idT
  rw [text2]
  show (⟨(hexL (U.sumT [242, 117, 220, 2, 168, 196, 7, 164, 26, 33, 194, 90, 247, 71, 57, 255, 147, 96, 223, 215, 153, 237, 102, 52, 7, 28, 102, 151, 106, 10, 205, 245])).toArray⟩ : ByteArray) = _
  rw [sum2]
  decide +kernel
theorem seed3_sum : T.sumT (sdL 3) = [253, 93, 247, 234, 114, 139, 154, 110, 113, 68, 158, 78, 108, 103, 176, 9, 249, 231, 229, 182, 170, 20, 146, 193, 91, 70, 130, 240, 234, 7, 225, 252, 121, 127, 234, 212, 246, 62, 225, 95, 44, 148, 73, 253, 241, 162, 235, 222, 92, 200, 98, 191, 76, 180, 115, 49, 105, 64, 166, 151, 205, 139, 251, 4] := by decide +kernel
theorem seed3_num : seedN (sdL 3) % l25 = 5825349418754822742024713893091660146719255747512982830301994274279365972605 := by
  unfold seedN
  rw [seed3_sum]
  decide +kernel
theorem lad3 : lad bxN byN 253 5825349418754822742024713893091660146719255747512982830301994274279365972605 (fun X Y W => decide (X = 1929600384187442911392802115151617911193535901153923990137810061714676057763 * W % p25) && decide (Y = 41873566715271891029584333694552462930723881012443695540781564962578020987578 * W % p25)) = true := by decide +kernel
theorem key3 : keyP (sdL 3) = ⟨z 1929600384187442911392802115151617911193535901153923990137810061714676057763, z 41873566715271891029584333694552462930723881012443695540781564962578020987578⟩ := key_by seed3_num (by decide) lad3
theorem text3 : keyT (sdL 3) = ⟨#[186, 114, 232, 130, 10, 188, 135, 206, 204, 64, 238, 146, 36, 223, 110, 231, 210, 23, 169, 141, 66, 70, 196, 93, 46, 244, 116, 29, 80, 153, 147, 220]⟩ := by
  unfold keyT
  rw [key3]
  unfold textN
  rw [show (z 41873566715271891029584333694552462930723881012443695540781564962578020987578).val = 41873566715271891029584333694552462930723881012443695540781564962578020987578 from val_z (by decide), show (z 1929600384187442911392802115151617911193535901153923990137810061714676057763).val = 1929600384187442911392802115151617911193535901153923990137810061714676057763 from val_z (by decide)]
  decide +kernel
theorem sum3 : U.sumT [186, 114, 232, 130, 10, 188, 135, 206, 204, 64, 238, 146, 36, 223, 110, 231, 210, 23, 169, 141, 66, 70, 196, 93, 46, 244, 116, 29, 80, 153, 147, 220] = [253, 229, 99, 48, 63, 193, 174, 18, 189, 55, 168, 141, 219, 89, 76, 70, 228, 202, 199, 238, 228, 20, 68, 205, 64, 52, 38, 24, 188, 8, 47, 249] := by decide +kernel
theorem id3 : idT (keyT (sdL 3)) = ⟨#[102, 100, 101, 53, 54, 51, 51, 48, 51, 102, 99, 49, 97, 101, 49, 50, 98, 100, 51, 55, 97, 56, 56, 100, 100, 98, 53, 57, 52, 99, 52, 54, 101, 52, 99, 97, 99, 55, 101, 101, 101, 52, 49, 52, 52, 52, 99, 100, 52, 48, 51, 52, 50, 54, 49, 56, 98, 99, 48, 56, 50, 102, 102, 57]⟩ := by
  unfold idT
  rw [text3]
  show (⟨(hexL (U.sumT [186, 114, 232, 130, 10, 188, 135, 206, 204, 64, 238, 146, 36, 223, 110, 231, 210, 23, 169, 141, 66, 70, 196, 93, 46, 244, 116, 29, 80, 153, 147, 220])).toArray⟩ : ByteArray) = _
  rw [sum3]
  decide +kernel
theorem seed4_sum : T.sumT (sdL 4) = [28, 62, 0, 255, 163, 149, 53, 133, 62, 223, 23, 163, 98, 46, 58, 200, 60, 67, 242, 203, 93, 224, 48, 55, 186, 50, 201, 108, 21, 29, 148, 13, 43, 15, 165, 242, 125, 117, 205, 204, 144, 88, 54, 182, 99, 18, 116, 59, 179, 141, 162, 210, 211, 39, 6, 48, 170, 70, 167, 72, 235, 248, 236, 159] := by decide +kernel
theorem seed4_num : seedN (sdL 4) % l25 = 6141761125429096486150793414957991985899957571654847706540184831436702412388 := by
  unfold seedN
  rw [seed4_sum]
  decide +kernel
theorem lad4 : lad bxN byN 253 6141761125429096486150793414957991985899957571654847706540184831436702412388 (fun X Y W => decide (X = 4249657181803850368317019383121592916433610748512503180596053695398922492133 * W % p25) && decide (Y = 19223421521283851671650548978278194948995408945753984967518652888522517207895 * W % p25)) = true := by decide +kernel
theorem key4 : keyP (sdL 4) = ⟨z 4249657181803850368317019383121592916433610748512503180596053695398922492133, z 19223421521283851671650548978278194948995408945753984967518652888522517207895⟩ := key_by seed4_num (by decide) lad4
theorem text4 : keyT (sdL 4) = ⟨#[87, 91, 73, 17, 247, 235, 226, 55, 213, 155, 46, 158, 90, 42, 130, 51, 128, 104, 130, 113, 246, 177, 190, 148, 246, 207, 165, 112, 45, 18, 128, 170]⟩ := by
  unfold keyT
  rw [key4]
  unfold textN
  rw [show (z 19223421521283851671650548978278194948995408945753984967518652888522517207895).val = 19223421521283851671650548978278194948995408945753984967518652888522517207895 from val_z (by decide), show (z 4249657181803850368317019383121592916433610748512503180596053695398922492133).val = 4249657181803850368317019383121592916433610748512503180596053695398922492133 from val_z (by decide)]
  decide +kernel
theorem sum4 : U.sumT [87, 91, 73, 17, 247, 235, 226, 55, 213, 155, 46, 158, 90, 42, 130, 51, 128, 104, 130, 113, 246, 177, 190, 148, 246, 207, 165, 112, 45, 18, 128, 170] = [78, 125, 142, 182, 139, 194, 191, 223, 147, 152, 67, 13, 164, 64, 241, 56, 195, 240, 201, 30, 117, 40, 126, 136, 221, 157, 2, 9, 103, 252, 247, 69] := by decide +kernel
theorem id4 : idT (keyT (sdL 4)) = ⟨#[52, 101, 55, 100, 56, 101, 98, 54, 56, 98, 99, 50, 98, 102, 100, 102, 57, 51, 57, 56, 52, 51, 48, 100, 97, 52, 52, 48, 102, 49, 51, 56, 99, 51, 102, 48, 99, 57, 49, 101, 55, 53, 50, 56, 55, 101, 56, 56, 100, 100, 57, 100, 48, 50, 48, 57, 54, 55, 102, 99, 102, 55, 52, 53]⟩ := by
  unfold idT
  rw [text4]
  show (⟨(hexL (U.sumT [87, 91, 73, 17, 247, 235, 226, 55, 213, 155, 46, 158, 90, 42, 130, 51, 128, 104, 130, 113, 246, 177, 190, 148, 246, 207, 165, 112, 45, 18, 128, 170])).toArray⟩ : ByteArray) = _
  rw [sum4]
  decide +kernel
theorem seed5_sum : T.sumT (sdL 5) = [43, 24, 231, 158, 8, 46, 245, 45, 119, 74, 201, 152, 196, 40, 190, 35, 7, 118, 75, 101, 53, 121, 164, 93, 250, 208, 59, 163, 23, 66, 36, 172, 110, 46, 122, 74, 63, 235, 12, 144, 190, 139, 112, 157, 12, 222, 21, 30, 22, 152, 252, 251, 71, 127, 103, 86, 111, 107, 244, 52, 90, 88, 120, 74] := by decide +kernel
theorem seed5_num : seedN (sdL 5) % l25 = 5491816829859390566899630334682089655144664286869443195886079659428020494490 := by
  unfold seedN
  rw [seed5_sum]
  decide +kernel
theorem lad5 : lad bxN byN 253 5491816829859390566899630334682089655144664286869443195886079659428020494490 (fun X Y W => decide (X = 575414124558371051327208138750035833716301151304112051150636729500505843777 * W % p25) && decide (Y = 10515403561695917826932696655542907751953341664892291767165773376558936536746 * W % p25)) = true := by decide +kernel
theorem key5 : keyP (sdL 5) = ⟨z 575414124558371051327208138750035833716301151304112051150636729500505843777, z 10515403561695917826932696655542907751953341664892291767165773376558936536746⟩ := key_by seed5_num (by decide) lad5
theorem text5 : keyT (sdL 5) = ⟨#[170, 182, 218, 72, 209, 141, 94, 133, 143, 130, 241, 163, 44, 39, 151, 173, 165, 189, 61, 58, 213, 108, 62, 190, 31, 100, 22, 174, 235, 129, 63, 151]⟩ := by
  unfold keyT
  rw [key5]
  unfold textN
  rw [show (z 10515403561695917826932696655542907751953341664892291767165773376558936536746).val = 10515403561695917826932696655542907751953341664892291767165773376558936536746 from val_z (by decide), show (z 575414124558371051327208138750035833716301151304112051150636729500505843777).val = 575414124558371051327208138750035833716301151304112051150636729500505843777 from val_z (by decide)]
  decide +kernel
theorem sum5 : U.sumT [170, 182, 218, 72, 209, 141, 94, 133, 143, 130, 241, 163, 44, 39, 151, 173, 165, 189, 61, 58, 213, 108, 62, 190, 31, 100, 22, 174, 235, 129, 63, 151] = [49, 150, 180, 34, 88, 141, 38, 241, 18, 36, 143, 13, 83, 127, 72, 214, 16, 38, 196, 177, 120, 1, 86, 235, 17, 149, 29, 214, 91, 178, 93, 169] := by decide +kernel
theorem id5 : idT (keyT (sdL 5)) = ⟨#[51, 49, 57, 54, 98, 52, 50, 50, 53, 56, 56, 100, 50, 54, 102, 49, 49, 50, 50, 52, 56, 102, 48, 100, 53, 51, 55, 102, 52, 56, 100, 54, 49, 48, 50, 54, 99, 52, 98, 49, 55, 56, 48, 49, 53, 54, 101, 98, 49, 49, 57, 53, 49, 100, 100, 54, 53, 98, 98, 50, 53, 100, 97, 57]⟩ := by
  unfold idT
  rw [text5]
  show (⟨(hexL (U.sumT [170, 182, 218, 72, 209, 141, 94, 133, 143, 130, 241, 163, 44, 39, 151, 173, 165, 189, 61, 58, 213, 108, 62, 190, 31, 100, 22, 174, 235, 129, 63, 151])).toArray⟩ : ByteArray) = _
  rw [sum5]
  decide +kernel
/-- a seed's key's sum -/
def idN (i : Nat) : ByteArray := idT (keyT (sdL i))
def idC : Nat → ByteArray
  | 0 => ⟨#[97, 52, 56, 55, 102, 49, 53, 51, 53, 56, 50, 49, 97, 49, 48, 100, 97, 101, 52, 57, 51, 100, 48, 53, 50, 49, 57, 48, 99, 49, 49, 48, 54, 97, 49, 102, 54, 99, 51, 48, 48, 52, 49, 102, 48, 98, 48, 50, 101, 51, 50, 56, 54, 55, 55, 54, 50, 98, 57, 50, 98, 50, 51, 53]⟩
  | 1 => ⟨#[97, 101, 52, 98, 51, 57, 101, 100, 55, 48, 48, 57, 57, 57, 102, 98, 51, 98, 101, 98, 50, 54, 98, 102, 102, 57, 51, 51, 55, 98, 54, 48, 56, 50, 57, 52, 55, 54, 51, 100, 99, 98, 100, 51, 99, 51, 50, 97, 57, 48, 101, 101, 48, 101, 48, 51, 99, 51, 101, 99, 49, 97, 51, 99]⟩
  | 2 => ⟨#[57, 102, 50, 102, 52, 101, 53, 101, 98, 53, 53, 102, 50, 102, 98, 102, 98, 101, 57, 53, 55, 101, 101, 55, 54, 102, 52, 102, 52, 49, 97, 51, 101, 99, 101, 50, 101, 52, 100, 97, 97, 97, 101, 56, 97, 102, 51, 54, 53, 55, 49, 49, 52, 55, 100, 52, 101, 100, 100, 48, 98, 53, 56, 55]⟩
  | 3 => ⟨#[102, 100, 101, 53, 54, 51, 51, 48, 51, 102, 99, 49, 97, 101, 49, 50, 98, 100, 51, 55, 97, 56, 56, 100, 100, 98, 53, 57, 52, 99, 52, 54, 101, 52, 99, 97, 99, 55, 101, 101, 101, 52, 49, 52, 52, 52, 99, 100, 52, 48, 51, 52, 50, 54, 49, 56, 98, 99, 48, 56, 50, 102, 102, 57]⟩
  | 4 => ⟨#[52, 101, 55, 100, 56, 101, 98, 54, 56, 98, 99, 50, 98, 102, 100, 102, 57, 51, 57, 56, 52, 51, 48, 100, 97, 52, 52, 48, 102, 49, 51, 56, 99, 51, 102, 48, 99, 57, 49, 101, 55, 53, 50, 56, 55, 101, 56, 56, 100, 100, 57, 100, 48, 50, 48, 57, 54, 55, 102, 99, 102, 55, 52, 53]⟩
  | 5 => ⟨#[51, 49, 57, 54, 98, 52, 50, 50, 53, 56, 56, 100, 50, 54, 102, 49, 49, 50, 50, 52, 56, 102, 48, 100, 53, 51, 55, 102, 52, 56, 100, 54, 49, 48, 50, 54, 99, 52, 98, 49, 55, 56, 48, 49, 53, 54, 101, 98, 49, 49, 57, 53, 49, 100, 100, 54, 53, 98, 98, 50, 53, 100, 97, 57]⟩
  | _ => noB
theorem idN_is (i : Nat) (h : i < 6) : idN i = idC i := by
  unfold idN
  rcases (show i = 0 ∨ i = 1 ∨ i = 2 ∨ i = 3 ∨ i = 4 ∨ i = 5 by omega) with rfl | rfl | rfl | rfl | rfl | rfl
  · exact id0
  · exact id1
  · exact id2
  · exact id3
  · exact id4
  · exact id5
theorem idC_ne : ∀ i j : Fin 6, i ≠ j → idC i.val ≠ idC j.val := by decide +kernel
theorem idN_ne {i j : Nat} (hi : i < 6) (hj : j < 6) (h : i ≠ j) : idN i ≠ idN j := by
  rw [idN_is i hi, idN_is j hj]
  exact idC_ne ⟨i, hi⟩ ⟨j, hj⟩ (fun e => h (by injection e))
theorem idN_inj {i j : Nat} (hi : i < 6) (hj : j < 6) (h : idN i = idN j) : i = j := Decidable.byContradiction fun e => idN_ne hi hj e h
end Go.Proofs.YtmekmlgpkbfjpaaGreatDoor.O

/- One of one: what a role of one key comes to; what a seed is, and its one signature. -/
namespace Go.Proofs.YtmekmlgpkbfjpaaGreatDoor.O
open Go.RowKit Go.Sort Go.Proofs.YtmekmlgpkbfjpaaGreatDoor.E
open C (Pts)
open V (Lies OwnL RowL reg lessL bytesLess_is)
set_option maxRecDepth 100000

theorem isSum_id (p : ByteArray) : isSumB (idT p) = true := by
  unfold isSumB
  rw [idT_size, decide_eq_true rfl, Bool.true_and]
  unfold unhexB idT
  rw [show (⟨(hexL (U.sumT p.data.toList)).toArray⟩ : ByteArray).data.toList = hexL (U.sumT p.data.toList) from rfl, unhex_hex]
  rfl
theorem id_pos (p : ByteArray) : lessB noB (idT p) = true := less_no (by rw [idT_size]; decide)
theorem right_one (p : ByteArray) : rightR [idT p] 1 = true := by
  unfold rightR
  rw [show allTo (stepR [idT p]) [idT p].length = true by
    rw [List.length_singleton, allTo_succ, allTo_zero]
    unfold stepR
    rw [prev_zero]
    show (true && (isSumB (idT p) && lessB noB (idT p))) = true
    rw [isSum_id, id_pos]; rfl]
  rfl
theorem keys_one (p : ByteArray) (h : p.size = 32) : keysR [(idT p, p)] = true := by
  unfold keysR
  rw [show allTo (stepK [(idT p, p)]) [(idT p, p)].length = true by
    rw [List.length_singleton, allTo_succ, allTo_zero]
    unfold stepK
    rw [prev_zero]
    show (true && (keyOkB (idT p, p) && lessB noB (idT p))) = true
    unfold keyOkB
    rw [id_pos, decide_eq_true h, decide_eq_true rfl]; rfl]
  rfl
theorem check_one (p text sg : ByteArray) (rest : List B2) (h : p.size = 32) (hl : rest.length ≤ 15) : checkR [idT p] 1 [(idT p, p)] text ((idT p, sg) :: rest) = if verifyE p text sg = 0 then 0 else 31 := by
  unfold checkR mayR
  rw [right_one, keys_one p h, decide_eq_true (show ((idT p, sg) :: rest).length ≤ 16 by rw [List.length_cons]; omega), if_pos (show (true && true && true) = true from rfl)]
  have hs : signedB [(idT p, p)] text ((idT p, sg) :: rest) (idT p) = decide (verifyE p text sg = 0) := by
    rw [signed_some (k := (idT p, p)) (by rw [List.find?_cons, decide_eq_true rfl]), sigIn_some (s := (idT p, sg)) (by rw [List.find?_cons, decide_eq_true rfl])]
  have hc : countR [idT p] [(idT p, p)] text ((idT p, sg) :: rest) = if decide (verifyE p text sg = 0) = true then [idT p] else [] := by
    rw [← hs]
    unfold countR
    rw [List.filter_cons, List.filter_nil]
  rw [hc]
  by_cases h0 : verifyE p text sg = 0
  · rw [decide_eq_true h0, if_pos h0]
    rfl
  · rw [decide_eq_false h0, if_neg h0]
    rfl
theorem check_nil (p text : ByteArray) (sigs : List B2) (hl : sigs.length ≤ 16) : checkR [idT p] 1 [] text sigs = 31 := by
  unfold checkR mayR
  rw [right_one, decide_eq_true hl, show keysR [] = true from rfl, if_pos (show (true && true && true) = true from rfl)]
  have hs : signedB [] text sigs (idT p) = false := signed_none rfl
  have hc : countR [idT p] [] text sigs = [] := by
    unfold countR
    rw [List.filter_cons, List.filter_nil, hs, if_neg (by simp)]
  rw [hc]
  rfl
theorem sd_data (i : Nat) : (sdB i).data.toList = sdL i := rfl
/-! ### a seed -/
theorem tail_seed (x : UInt8) : (⟨#[x]⟩ : ByteArray) ++ ⟨#[48, 49, 50, 51, 52, 53, 54, 55, 56, 57, 97, 98, 99, 100, 101, 102, 48, 49, 50, 51, 52, 53, 54, 55, 56, 57, 97, 98, 99, 100, 101]⟩ = ⟨(x :: [48, 49, 50, 51, 52, 53, 54, 55, 56, 57, 97, 98, 99, 100, 101, 102, 48, 49, 50, 51, 52, 53, 54, 55, 56, 57, 97, 98, 99, 100, 101]).toArray⟩ := by
  have h := T.list_append (⟨#[x]⟩ : ByteArray) ⟨#[48, 49, 50, 51, 52, 53, 54, 55, 56, 57, 97, 98, 99, 100, 101, 102, 48, 49, 50, 51, 52, 53, 54, 55, 56, 57, 97, 98, 99, 100, 101]⟩
  rw [← Lib.mk_data (_ ++ _), h]
  rfl
theorem seed_any (i : Nat) (hi : i < 256) (w : World) : Calls Tryz.prog 23 #[.int .i64 (i : Int)] w fun e w' => e = .returned (.string (sdB i)) ∧ Below w.heap.size w w' := by
  have hcv := str_one w (i : Int) (by omega) (by omega)
  have hw : IntKind.u8.wrap (i : Int) = (i : Int) := by rw [wrap_u8_eq]; omega
  rw [Int.toNat_natCast] at hcv
  have ht := tail_seed i.toUInt8
  rw [show (⟨(i.toUInt8 :: [48, 49, 50, 51, 52, 53, 54, 55, 56, 57, 97, 98, 99, 100, 101, 102, 48, 49, 50, 51, 52, 53, 54, 55, 56, 57, 97, 98, 99, 100, 101]).toArray⟩ : ByteArray) = sdB i from rfl] at ht
  generalize sdB i = sd at *
  have hb := (Below.refl w.heap.size w).alloc (Nat.le_refl _) (.cells #[.int .u8 (i : Int)] 5)
  go_enter Tryz.func23, Tryz.ntmps23
  go_wp2
  go_ret
  exact ⟨by rw [← ht]; rfl, hb⟩
/-! ### one signature -/
structure One (w : World) (v : Value) (s : B2) : Prop where
  form : ∃ g c, v = .slice (some ⟨g, 0, none⟩) 1 c
  row : RowL w 2 v [twoS s]
theorem One.on {w w' : World} {v : Value} {s : B2} (h : One w v s) (hb : Below w.heap.size w w') : One w' v s := ⟨h.form, h.row.below hb⟩
theorem sign_one (A : Pts EdTab) (s text : ByteArray) (hs : s.size = 32) (hm : text.size ≤ 1000) (w : World) (hT : RTab w) :
    Calls Tryz.prog 20 #[.string text, .slice (some ⟨w.heap.size, 0, none⟩) 1 1] (w.alloc (.cells #[.string s] 9)) fun e w' => (∃ v, e = .returned (.tuple #[v, .int .i64 0]) ∧ One w' v (sigOf text s)) ∧ Below w.heap.size w w' := by
  have hb := (Below.refl w.heap.size w).alloc (Nat.le_refl _) (.cells #[.string s] 9)
  have hl : RowL (w.alloc (.cells #[.string s] 9)) 1 (.slice (some ⟨w.heap.size, 0, none⟩) [s].length 1) ([s].map oneS) := RowL.lit w 9 1 [.string s] rfl
  refine (sign_any A (some ⟨w.heap.size, 0, none⟩) 1 [s] text _ hl hm (by simp) (hT.on hb)).mono fun e w' h => ?_
  have hok : seedsOk [s] = true := by
    unfold seedsOk
    rw [List.all_cons, List.all_nil, decide_eq_true hs]
    rfl
  rcases h with ⟨hno, _⟩ | ⟨_, v, rfl, hO, hb2⟩
  · rw [hok] at hno; cases hno
  · refine ⟨⟨v, rfl, ⟨?_, hO.read⟩⟩, below_on hb hb2⟩
    rcases hO.2.2 with ⟨_, hn⟩ | ⟨g, cap, cur, hv, _⟩
    · simp at hn
    · exact ⟨g, cap, hv⟩
end Go.Proofs.YtmekmlgpkbfjpaaGreatDoor.O

/- The first seeds' keys in the order of their sums; who of them signed. -/
namespace Go.Proofs.YtmekmlgpkbfjpaaGreatDoor.O
open Go.RowKit Go.Sort Go.Proofs.YtmekmlgpkbfjpaaGreatDoor.E
open V (lessL)
set_option maxRecDepth 100000

/-- the key of a seed -/
def kN (i : Nat) : B2 := (idN i, keyT (sdL i))
/-- the first seeds in the order of their keys' sums -/
def ordN : Nat → List Nat
  | 0 => []
  | 1 => [0]
  | 2 => [0, 1]
  | 3 => [2, 0, 1]
  | _ => [2, 0, 1, 3]
def posN : Nat → Nat
  | 0 => 0
  | 1 => 1
  | 2 => 0
  | _ => 3
def rkN : Nat → Nat
  | 0 => 3
  | 1 => 4
  | 2 => 2
  | 3 => 5
  | 4 => 1
  | _ => 0
theorem idC_less : ∀ i j : Fin 6, lessB (idC i.val) (idC j.val) = decide (rkN i.val < rkN j.val) := by decide +kernel
theorem idN_less {i j : Nat} (hi : i < 6) (hj : j < 6) : lessB (idN i) (idN j) = decide (rkN i < rkN j) := by
  rw [idN_is i hi, idN_is j hj]
  exact idC_less ⟨i, hi⟩ ⟨j, hj⟩
theorem four {n : Nat} (h : n ≤ 4) : n = 0 ∨ n = 1 ∨ n = 2 ∨ n = 3 ∨ n = 4 := by omega
theorem ord_len {n : Nat} (h : n ≤ 4) : (ordN n).length = n := by
  rcases four h with rfl | rfl | rfl | rfl | rfl <;> rfl
theorem ord_lt {n x : Nat} (h : n ≤ 4) (hx : x ∈ ordN n) : x < n := by
  rcases four h with rfl | rfl | rfl | rfl | rfl <;> simp [ordN] at hx <;> omega
theorem pos_le {n : Nat} (h : n < 4) : posN n ≤ n := by
  rcases four (Nat.le_of_lt h) with rfl | rfl | rfl | rfl | rfl <;> simp [posN]
theorem ord_next {n : Nat} (h : n < 4) : ordN (n + 1) = (ordN n).take (posN n) ++ n :: (ordN n).drop (posN n) := by
  rcases (show n = 0 ∨ n = 1 ∨ n = 2 ∨ n = 3 by omega) with rfl | rfl | rfl | rfl <;> rfl
theorem pos_less {n t x : Nat} (h : n < 4) (hx : (ordN n)[t]? = some x) : lessB (idN x) (idN n) = decide (t < posN n) := by
  have hm := ord_lt (Nat.le_of_lt h) (List.mem_of_getElem? hx)
  rw [idN_less (by omega) (by omega)]
  rcases (show n = 0 ∨ n = 1 ∨ n = 2 ∨ n = 3 by omega) with rfl | rfl | rfl | rfl
  · simp [ordN] at hx
  · rcases t with _ | t <;> simp [ordN] at hx
    subst hx; rfl
  · rcases t with _ | _ | t <;> simp [ordN] at hx <;> subst hx <;> rfl
  · rcases t with _ | _ | _ | t <;> simp [ordN] at hx <;> subst hx <;> rfl
theorem ord_rise {n j x y : Nat} (h : n ≤ 4) (hx : (ordN n)[j]? = some x) (hy : (ordN n)[j + 1]? = some y) : lessB (idN x) (idN y) = true := by
  have h1 := ord_lt h (List.mem_of_getElem? hx)
  have h2 := ord_lt h (List.mem_of_getElem? hy)
  rw [idN_less (by omega) (by omega)]
  rcases four h with rfl | rfl | rfl | rfl | rfl
  · simp [ordN] at hx
  · rcases j with _ | j <;> simp [ordN] at hx hy
  · rcases j with _ | _ | j <;> simp [ordN] at hx hy
    subst hx hy; rfl
  · rcases j with _ | _ | _ | j <;> simp [ordN] at hx hy <;> subst hx hy <;> rfl
  · rcases j with _ | _ | _ | _ | j <;> simp [ordN] at hx hy <;> subst hx hy <;> rfl
/-- the keys of the first seeds, in order -/
def rowN (n : Nat) : List B2 := (ordN n).map kN
def idsN (n : Nat) : List ByteArray := (ordN n).map idN
theorem row_len {n : Nat} (h : n ≤ 4) : (rowN n).length = n := by unfold rowN; rw [List.length_map, ord_len h]
theorem row_next {n : Nat} (h : n < 4) : rowN (n + 1) = (rowN n).take (posN n) ++ kN n :: (rowN n).drop (posN n) := by
  unfold rowN
  rw [ord_next h, List.map_append, List.map_cons, List.map_take, List.map_drop]
theorem kN_ok (i : Nat) : keyOkB (kN i) = true := by
  unfold keyOkB kN
  rw [decide_eq_true (show (idN i, keyT (sdL i)).2.size = 32 from C.text_size _), decide_eq_true (show (idN i, keyT (sdL i)).1 = idT (idN i, keyT (sdL i)).2 from rfl)]
  rfl
theorem keys_of {l : List B2} (h16 : l.length ≤ 16) (hok : ∀ k ∈ l, keyOkB k = true) (hr : ∀ (j : Nat) (x y : B2), l[j]? = some x → l[j + 1]? = some y → lessB x.1 y.1 = true) : keysR l = true := by
  unfold keysR
  rw [decide_eq_true h16, Bool.true_and, allTo_iff]
  intro j hj
  obtain ⟨x, hx⟩ : ∃ x, l[j]? = some x := ⟨_, List.getElem?_eq_getElem hj⟩
  unfold stepK
  rw [List.getD_eq_getElem?_getD, hx, Option.getD_some, hok x (List.mem_of_getElem? hx), Bool.true_and]
  cases j with
  | zero =>
    rw [prev_zero]
    have h2 := hok x (List.mem_of_getElem? hx)
    unfold keyOkB at h2
    rw [Bool.and_eq_true] at h2
    rw [of_decide_eq_true h2.2]
    exact id_pos _
  | succ j =>
    obtain ⟨y, hy⟩ : ∃ y, l[j]? = some y := ⟨_, List.getElem?_eq_getElem (by omega)⟩
    rw [prev_succ (show (l.map (·.1))[j]? = some y.1 by rw [List.getElem?_map, hy]; rfl)]
    exact hr j y x hy hx
theorem right_of {l : List ByteArray} {need : Int} (h16 : l.length ≤ 16) (hn : 1 ≤ need ∧ need ≤ (l.length : Int)) (hok : ∀ k ∈ l, isSumB k = true) (hr : ∀ (j : Nat) (x y : ByteArray), l[j]? = some x → l[j + 1]? = some y → lessB x y = true) : rightR l need = true := by
  unfold rightR
  rw [decide_eq_true h16, decide_eq_true hn, Bool.true_and, Bool.true_and, allTo_iff]
  intro j hj
  obtain ⟨x, hx⟩ : ∃ x, l[j]? = some x := ⟨_, List.getElem?_eq_getElem hj⟩
  unfold stepR
  rw [List.getD_eq_getElem?_getD, hx, Option.getD_some, hok x (List.mem_of_getElem? hx), Bool.true_and]
  cases j with
  | zero =>
    rw [prev_zero]
    have h2 := hok x (List.mem_of_getElem? hx)
    unfold isSumB at h2
    rw [Bool.and_eq_true] at h2
    have := of_decide_eq_true h2.1
    exact less_no (by omega)
  | succ j =>
    obtain ⟨y, hy⟩ : ∃ y, l[j]? = some y := ⟨_, List.getElem?_eq_getElem (by omega)⟩
    rw [prev_succ hy]
    exact hr j y x hy hx
theorem row_keys {n : Nat} (h : n ≤ 4) : keysR (rowN n) = true := by
  refine keys_of (by rw [row_len h]; omega) (fun k hk => ?_) (fun j x y hx hy => ?_)
  · obtain ⟨i, _, rfl⟩ := List.mem_map.1 hk
    exact kN_ok i
  · unfold rowN at hx hy
    rw [List.getElem?_map] at hx hy
    cases hx1 : (ordN n)[j]? with
    | none => rw [hx1] at hx; cases hx
    | some a =>
      cases hy1 : (ordN n)[j + 1]? with
      | none => rw [hy1] at hy; cases hy
      | some b =>
        rw [hx1] at hx
        rw [hy1] at hy
        obtain rfl : kN a = x := Option.some.inj hx
        obtain rfl : kN b = y := Option.some.inj hy
        exact ord_rise h hx1 hy1
theorem sig_id (text : ByteArray) (i : Nat) : (sigOf text (sdB i)).1 = idN i := by
  unfold sigOf idN
  rw [sd_data]
theorem sig_own (text : ByteArray) (i : Nat) : verifyE (kN i).2 text (sigOf text (sdB i)).2 = 0 := by
  have h := verify_own (sdB i) text
  rw [sd_data] at h
  unfold sigOf kN
  exact h
/-! ### who signed -/
section
attribute [local irreducible] idN idT keyT seedT verifyE sdL sdB
theorem sig_find (sg : Nat → B2) (hsg : ∀ i, (sg i).1 = idN i) (x : Nat) (hx : x < 6) : ∀ (ns : List Nat), (∀ y ∈ ns, y < 6) → (ns.map sg).find? (fun s => decide (s.1 = idN x)) = if x ∈ ns then some (sg x) else none := by
  intro ns
  induction ns with
  | nil => intro _; rfl
  | cons y ns ih =>
    intro h
    rw [List.map_cons, List.find?_cons, hsg y]
    have hy := h y (by simp)
    by_cases e : y = x
    · subst e
      rw [decide_eq_true rfl, if_pos (by simp)]
    · rw [decide_eq_false (fun h2 => e (idN_inj hy hx h2)), ih (fun z hz => h z (by simp [hz]))]
      have e2 : ¬ x = y := fun h => e h.symm
      simp [e2]
theorem signed_is {keys : List B2} {text : ByteArray} {ns : List Nat} {x : Nat} (hx : x < 6) (hns : ∀ y ∈ ns, y < 6) (hk : keys.find? (fun k => decide (k.1 = idN x)) = some (kN x)) : signedB keys text (ns.map fun n => sigOf text (sdB n)) (idN x) = decide (x ∈ ns) := by
  rw [signed_some hk]
  have hf := sig_find (fun n => sigOf text (sdB n)) (sig_id text) x hx ns hns
  by_cases hm : x ∈ ns
  · rw [if_pos hm] at hf
    rw [sigIn_some hf, decide_eq_true hm]
    exact decide_eq_true (sig_own text x)
  · rw [if_neg hm] at hf
    rw [sigIn_none hf, decide_eq_false hm]
end
end Go.Proofs.YtmekmlgpkbfjpaaGreatDoor.O

/- Operations of regions that draw their order, run. -/
namespace Go.Proofs.YtmekmlgpkbfjpaaGreatDoor.O
open Go.RowKit Go.Sort Go.Proofs.YtmekmlgpkbfjpaaGreatDoor.E
open C (Pts)
open V (Lies OwnL RowL reg lessL bytesLess_is)
set_option maxRecDepth 100000

/-! ### signatures compared -/
section
variable {a : Act} {d : Option Tmp} {x y : Operand} {t' : TypeId} {pos : String} {after : Array Edge} {gd : Option (Nat × Bool)} {r : TypeId}
/-- a whole variable is read -/
theorem run_ldW {w : World} (ty : TypeId) (g : Nat) (t : TypeId) (cs : Array Value) (n : Nat) (hT : V.RowT Tryz.prog ty n) (hn : cs.size = n) (hg : Lies w g t cs) (hx : a.eval x = .pointer (some ⟨g, 0, none⟩)) :
    (execOp a.eval ⟨d, .load ty x, t', pos, after, gd⟩).run Tryz.prog w = .ok (.value (.agg cs)) w := by
  obtain ⟨⟨ds, hu, hd⟩, hi⟩ := hT
  have hl := run_loadVar_row (P := Tryz.prog) w g t ty cs (0, 0) ds hg hu (by cases ds <;> first | rfl | simp [TypeDesc.isRow] at hd) (by rw [hi, hn])
  unfold execOp
  simp only [hx, Instr.loadAt, Instr.sureAddr, Sem.run_bind, Sem.run_pure, Result.andThen_ok, hl]
theorem run_idxM (ty : TypeId) (e : TypeId) (k : Nat) (hu : Tryz.prog.underlying ty = some (.slice e)) (hz : ∀ w, (Go.sizeOf e).run Tryz.prog w = .ok k w) (b off n c i : Nat) (hk : i < n) (hx : a.eval x = .slice (some ⟨b, off, none⟩) n c) (hy : a.eval y = .int .i64 (i : Int)) (w : World) :
    (execOp a.eval ⟨d, .indexAddr ty x y, t', pos, after, gd⟩).run Tryz.prog w = .ok (.value (.pointer (some ⟨b, off + i * k, none⟩))) w := by
  unfold execOp
  simp only [hx, hy]
  simp [Instr.indexAt, run_underlying hu, go_sem, hz]
  omega
end
end Go.Proofs.YtmekmlgpkbfjpaaGreatDoor.O

/- The statements' own known signature. -/
namespace Go.Proofs.YtmekmlgpkbfjpaaGreatDoor.O
open Go.RowKit Go.Sort Go.Proofs.YtmekmlgpkbfjpaaGreatDoor.E
open C (Pts)
open V (Lies OwnL RowL reg lessL bytesLess_is)
set_option maxRecDepth 100000

set_option maxHeartbeats 6400000 in
theorem alive_any (A : Pts EdTab) (w : World) (hT : RTab w) : Calls Tryz.prog 17 #[] w fun e w' => e = .returned (.bool true) ∧ Below w.heap.size w w' := by
  have HSd := Lib.hid (show ∀ w : World, Calls Tryz.prog 23 #[.int .i64 1] w fun e w' => e = .returned (.string (sdB 1)) ∧ Below w.heap.size w w' from fun w => seed_any 1 (by decide) w)
  have HTT := Lib.hid (fun (w1 : World) (hb : Below w.heap.size w w1) => hT.on hb)
  have HP := Lib.hid (fun (w1 : World) (hb : Below w.heap.size w w1) => public_good A (sdB 1) rfl w1 (HTT.out w1 hb).e.1)
  have HS := Lib.hid (fun (w1 : World) (hb : Below w.heap.size w w1) => sign_one A (sdB 1) ⟨#[120]⟩ rfl (by decide) w1 (HTT.out w1 hb))
  have hsz : (keyT (sdB 1).data.toList).size = 32 := C.text_size _
  have HI := Lib.hid (fun (w1 : World) (hb : Below w.heap.size w w1) => id_any (keyT (sdB 1).data.toList) w1 (by omega) (HTT.out w1 hb).u)
  have hvo := verify_own (sdB 1) ⟨#[120]⟩
  have hck := check_one (keyT (sdB 1).data.toList) ⟨#[120]⟩ (seedT (sdB 1) ⟨#[120]⟩) [] hsz (by simp)
  rw [hvo, if_pos rfl] at hck
  have hcn := check_nil (keyT (sdB 1).data.toList) ⟨#[120]⟩ [sigOf ⟨#[120]⟩ (sdB 1)] (by simp)
  rw [show sigOf ⟨#[120]⟩ (sdB 1) = (idT (keyT (sdB 1).data.toList), seedT (sdB 1) ⟨#[120]⟩) from rfl] at HS hcn
  generalize seedT (sdB 1) ⟨#[120]⟩ = sg at *
  generalize keyT (sdB 1).data.toList = k at *
  generalize idT k = id at *
  generalize sdB 1 = sd at *
  have HC0 := Lib.hid (show ∀ (w1 : World) (av kv sv : Option Addr) (ac kc sc : Nat), Below w.heap.size w w1 → RowL w1 1 (.slice av 1 ac) [oneS id] → RowL w1 2 (.slice kv 1 kc) [twoS (id, k)] → RowL w1 2 (.slice sv 1 sc) [twoS (id, sg)] →
      Calls Tryz.prog 10 #[.agg #[.slice av 1 ac, .int .i64 1], .slice kv 1 kc, .string ⟨#[120]⟩, .slice sv 1 sc] w1 fun e w' => e = .returned (.int .i64 0) ∧ Below w1.heap.size w1 w' from fun w1 av kv sv ac kc sc hb h1 h2 h3 => by
    have h := check_any A av kv sv ac kc sc [id] 1 [(id, k)] ⟨#[120]⟩ [(id, sg)] w1 ⟨h1, h2, h3⟩ (by decide) (HTT.out w1 hb)
    rwa [hck] at h)
  have HC1 := Lib.hid (show ∀ (w1 : World) (av sv : Option Addr) (ac sc : Nat), Below w.heap.size w w1 → RowL w1 1 (.slice av 1 ac) [oneS id] → RowL w1 2 (.slice sv 1 sc) [twoS (id, sg)] →
      Calls Tryz.prog 10 #[.agg #[.slice av 1 ac, .int .i64 1], .slice none 0 0, .string ⟨#[120]⟩, .slice sv 1 sc] w1 fun e w' => e = .returned (.int .i64 31) ∧ Below w1.heap.size w1 w' from fun w1 av sv ac sc hb h1 h3 => by
    have h := check_any A av none sv ac 0 sc [id] 1 [] ⟨#[120]⟩ [(id, sg)] w1 ⟨h1, RowL.nil _ _, h3⟩ (by decide) (HTT.out w1 hb)
    rwa [hcn] at h)
  have hB := Below.refl w.heap.size w
  clear hck hcn hvo hsz hT
  go_enter Tryz.func17, Tryz.ntmps17
  go_upto_region 3 with (first
    | (go_at_call 23; (with_reducible refine (HSd.out _).mono ?_); rintro e w1 ⟨rfl, hb⟩; replace hB := below_on hB hb; clear hb)
    | (go_at_call 21; (with_reducible refine (HP.out _ hB).mono ?_); rintro e w2 ⟨rfl, hb⟩; replace hB := below_on hB hb; clear hb)
    | (go_at_call 20; (with_reducible refine (HS.out _ hB).mono ?_); rintro e w3 ⟨⟨v, rfl, hv⟩, hb⟩; replace hB := below_on hB hb; clear hb))
  obtain ⟨gs, cs, rfl⟩ := hv.form
  have hr := Lib.hid (fun (w1 : World) => RowL.lit w1 9 1 [.string id] rfl)
  go_upto_region 4 with (go_at_call 15; (with_reducible refine (HI.out _ hB).mono ?_); rintro e w4 ⟨rfl, hb⟩; replace hB := below_on hB hb; replace hv := hv.on hb; clear hb)
  -- region 4
  have hbA := ((Below.refl w4.heap.size w4).alloc (Nat.le_refl _) (.cells #[.string id] 9)).alloc (by simp) (.cells #[.slice (some ⟨w4.heap.size, 0, none⟩) 1 1, .int .i64 1] 24)
  have hR : Lies ((w4.alloc (.cells #[.string id] 9)).alloc (.cells #[.slice (some ⟨w4.heap.size, 0, none⟩) 1 1, .int .i64 1] 24)) (w4.heap.size + 1) 24 #[.slice (some ⟨w4.heap.size, 0, none⟩) 1 1, .int .i64 1] := by
    have h := Lies.new (w4.alloc (.cells #[.string id] 9)) 24 #[.slice (some ⟨w4.heap.size, 0, none⟩) 1 1, .int .i64 1]
    rwa [World.size_alloc] at h
  have hrow : RowL ((w4.alloc (.cells #[.string id] 9)).alloc (.cells #[.slice (some ⟨w4.heap.size, 0, none⟩) 1 1, .int .i64 1] 24)) 1 (.slice (some ⟨w4.heap.size, 0, none⟩) 1 1) [oneS id] := (hr.out w4).below ((Below.refl _ _).alloc (Nat.le_refl _) _)
  replace hv := hv.on hbA
  have HB := below_on hB hbA
  clear hbA hB hr
  generalize (w4.alloc (.cells #[.string id] 9)).alloc (.cells #[.slice (some ⟨w4.heap.size, 0, none⟩) 1 1, .int .i64 1] 24) = w5 at *
  generalize w4.heap.size = g4 at *
  generalize g4 + 1 = gr at *
  refine V.wp_held_any (S := fun w' => Lies w' gr 24 #[.slice (some ⟨g4, 0, none⟩) 1 1, .int .i64 1]) 29 rfl (by kernel_rfl) ?_
  have hbD : Below w5.heap.size w5 { w5 with drawn := w5.drawn + 1 } := (Below.refl _ _).drew
  replace hR := hR.on hbD
  replace hrow := hrow.below hbD
  replace hv := hv.on hbD
  replace HB := below_on HB hbD
  clear hbD
  generalize ({ w5 with drawn := w5.drawn + 1 } : World) = w5d at *
  refine V.held_put 0 21 (.int .i64 0) rfl rfl (by kernel_rfl) (by kernel_rfl) (by kernel_rfl) (by kernel_rfl) (fun w hS => rfl) hR ?_
  simp only [List.setIfInBounds_toArray, List.set_cons_succ, List.set_cons_zero]
  refine V.held_put 1 22 (.bool true) rfl rfl (by kernel_rfl) (by kernel_rfl) (by kernel_rfl) (by kernel_rfl) (fun w hS => by kernel_rfl) hR ?_
  simp only [List.setIfInBounds_toArray, List.set_cons_succ, List.set_cons_zero]
  refine V.held_put 2 23 (.bool true) rfl rfl (by kernel_rfl) (by kernel_rfl) (by kernel_rfl) (by kernel_rfl) (fun w hS => rfl) hR ?_
  simp only [List.setIfInBounds_toArray, List.set_cons_succ, List.set_cons_zero]
  refine V.held_put 3 24 (.int .i64 0) rfl rfl (by kernel_rfl) (by kernel_rfl) (by kernel_rfl) (by kernel_rfl) (fun w hS => rfl) hR ?_
  simp only [List.setIfInBounds_toArray, List.set_cons_succ, List.set_cons_zero]
  refine V.held_put 4 25 (.bool true) rfl rfl (by kernel_rfl) (by kernel_rfl) (by kernel_rfl) (by kernel_rfl) (fun w hS => by kernel_rfl) hR ?_
  simp only [List.setIfInBounds_toArray, List.set_cons_succ, List.set_cons_zero]
  refine V.held_put 5 26 (.bool true) rfl rfl (by kernel_rfl) (by kernel_rfl) (by kernel_rfl) (by kernel_rfl) (fun w hS => rfl) hR ?_
  simp only [List.setIfInBounds_toArray, List.set_cons_succ, List.set_cons_zero]
  refine V.held_put 6 27 (.bool true) rfl rfl (by kernel_rfl) (by kernel_rfl) (by kernel_rfl) (by kernel_rfl) (fun w hS => rfl) hR ?_
  simp only [List.setIfInBounds_toArray, List.set_cons_succ, List.set_cons_zero]
  refine V.held_put 7 28 (.slice (some ⟨gs, 0, none⟩) 1 cs) rfl rfl (by kernel_rfl) (by kernel_rfl) (by kernel_rfl) (by kernel_rfl) (fun w hS => rfl) hR ?_
  simp only [List.setIfInBounds_toArray, List.set_cons_succ, List.set_cons_zero]
  refine V.held_put 8 29 (.int .i64 1) rfl rfl (by kernel_rfl) (by kernel_rfl) (by kernel_rfl) (by kernel_rfl) (fun w hS => by kernel_rfl) hR ?_
  simp only [List.setIfInBounds_toArray, List.set_cons_succ, List.set_cons_zero]
  refine V.held_put 9 30 (.bool true) rfl rfl (by kernel_rfl) (by kernel_rfl) (by kernel_rfl) (by kernel_rfl) (fun w hS => by kernel_rfl) hR ?_
  simp only [List.setIfInBounds_toArray, List.set_cons_succ, List.set_cons_zero]
  refine V.held_put 10 31 (.bool true) rfl rfl (by kernel_rfl) (by kernel_rfl) (by kernel_rfl) (by kernel_rfl) (fun w hS => rfl) hR ?_
  simp only [List.setIfInBounds_toArray, List.set_cons_succ, List.set_cons_zero]
  refine V.held_put 11 32 (.bool true) rfl rfl (by kernel_rfl) (by kernel_rfl) (by kernel_rfl) (by kernel_rfl) (fun w hS => rfl) hR ?_
  simp only [List.setIfInBounds_toArray, List.set_cons_succ, List.set_cons_zero]
  refine V.held_put 12 33 (.agg #[.slice (some ⟨g4, 0, none⟩) 1 1, .int .i64 1]) rfl rfl (by kernel_rfl) (by kernel_rfl) (by kernel_rfl) (by kernel_rfl) (fun w hS => run_ldW _ gr _ _ 2 rowRole rfl hS rfl) hR ?_
  simp only [List.setIfInBounds_toArray, List.set_cons_succ, List.set_cons_zero]
  refine V.held_put 13 34 (.string k) rfl rfl (by kernel_rfl) (by kernel_rfl) (by kernel_rfl) (by kernel_rfl) (fun w hS => rfl) hR ?_
  simp only [List.setIfInBounds_toArray, List.set_cons_succ, List.set_cons_zero]
  refine V.held_put 15 36 (.string k) rfl rfl (by kernel_rfl) (by kernel_rfl) (by kernel_rfl) (by kernel_rfl) (fun w hS => rfl) hR ?_
  simp only [List.setIfInBounds_toArray, List.set_cons_succ, List.set_cons_zero]
  refine V.held_put 18 39 (.slice (some ⟨gs, 0, none⟩) 1 cs) rfl rfl (by kernel_rfl) (by kernel_rfl) (by kernel_rfl) (by kernel_rfl) (fun w hS => rfl) hR ?_
  simp only [List.setIfInBounds_toArray, List.set_cons_succ, List.set_cons_zero]
  refine V.held_one 14 (by kernel_rfl) (V.wpOp_call 35 rfl rfl (by kernel_rfl) (by kernel_rfl) (((HI.out _ HB)).mono ?_))
  rintro e wk1 ⟨rfl, hbN⟩
  replace hR := hR.on hbN
  replace hrow := hrow.below hbN
  replace hv := hv.on hbN
  replace HB := below_on HB hbN
  clear hbN
  refine ⟨_, rfl, hR, ?_⟩
  simp only [List.setIfInBounds_toArray, List.set_cons_succ, List.set_cons_zero]
  refine V.held_put 16 37 (.agg #[(.string id), (.string k)]) rfl rfl (by kernel_rfl) (by kernel_rfl) (by kernel_rfl) (by kernel_rfl) (fun w hS => by kernel_rfl) hR ?_
  simp only [List.setIfInBounds_toArray, List.set_cons_succ, List.set_cons_zero]
  have hbN := (Below.refl wk1.heap.size wk1).alloc (Nat.le_refl _) (.cells #[.string id, .string k] 51)
  have hlit := RowL.lit wk1 51 2 [.string id, .string k] rfl
  refine V.held_one 17 (by kernel_rfl) (V.wpOp_put 38 (w' := wk1.alloc (.cells #[.string id, .string k] 51)) (v := (.slice (some ⟨wk1.heap.size, 0, none⟩) 1 1)) rfl rfl (by kernel_rfl) (by kernel_rfl) ⟨hR.on hbN, ?_⟩)
  simp only [List.setIfInBounds_toArray, List.set_cons_succ, List.set_cons_zero]
  replace hR := hR.on hbN
  replace hrow := hrow.below hbN
  replace hv := hv.on hbN
  replace HB := below_on HB hbN
  clear hbN
  obtain ⟨wk2g, hgg⟩ : ∃ g, wk1.heap.size = g := ⟨_, rfl⟩
  generalize wk1.alloc (.cells #[.string id, .string k] 51) = wk2 at *
  replace hlit : RowL wk2 2 (.slice (some ⟨wk1.heap.size, 0, none⟩) 1 1) [twoS (id, k)] := hlit
  clear hgg
  refine V.held_one 19 (by kernel_rfl) (V.wpOp_call 40 rfl rfl (by kernel_rfl) (by kernel_rfl) (((HC0.out _ _ _ _ _ _ _ HB hrow hlit hv.row)).mono ?_))
  rintro e wk3 ⟨rfl, hbN⟩
  replace hR := hR.on hbN
  replace hrow := hrow.below hbN
  replace hv := hv.on hbN
  replace HB := below_on HB hbN
  clear hbN
  refine ⟨_, rfl, hR, ?_⟩
  simp only [List.setIfInBounds_toArray, List.set_cons_succ, List.set_cons_zero]
  refine V.held_put 20 41 (.bool true) rfl rfl (by kernel_rfl) (by kernel_rfl) (by kernel_rfl) (by kernel_rfl) (fun w hS => by kernel_rfl) hR ?_
  simp only [List.setIfInBounds_toArray, List.set_cons_succ, List.set_cons_zero]
  refine V.held_put 21 42 (.bool true) rfl rfl (by kernel_rfl) (by kernel_rfl) (by kernel_rfl) (by kernel_rfl) (fun w hS => rfl) hR ?_
  simp only [List.setIfInBounds_toArray, List.set_cons_succ, List.set_cons_zero]
  refine V.held_put 22 43 (.bool true) rfl rfl (by kernel_rfl) (by kernel_rfl) (by kernel_rfl) (by kernel_rfl) (fun w hS => rfl) hR ?_
  simp only [List.setIfInBounds_toArray, List.set_cons_succ, List.set_cons_zero]
  refine V.held_put 23 44 (.agg #[.slice (some ⟨g4, 0, none⟩) 1 1, .int .i64 1]) rfl rfl (by kernel_rfl) (by kernel_rfl) (by kernel_rfl) (by kernel_rfl) (fun w hS => run_ldW _ gr _ _ 2 rowRole rfl hS rfl) hR ?_
  simp only [List.setIfInBounds_toArray, List.set_cons_succ, List.set_cons_zero]
  refine V.held_put 24 45 (.slice (some ⟨gs, 0, none⟩) 1 cs) rfl rfl (by kernel_rfl) (by kernel_rfl) (by kernel_rfl) (by kernel_rfl) (fun w hS => rfl) hR ?_
  simp only [List.setIfInBounds_toArray, List.set_cons_succ, List.set_cons_zero]
  refine V.held_one 25 (by kernel_rfl) (V.wpOp_call 46 rfl rfl (by kernel_rfl) (by kernel_rfl) (((HC1.out _ _ _ _ _ HB hrow hv.row)).mono ?_))
  rintro e wk4 ⟨rfl, hbN⟩
  replace hR := hR.on hbN
  replace hrow := hrow.below hbN
  replace hv := hv.on hbN
  replace HB := below_on HB hbN
  clear hbN
  refine ⟨_, rfl, hR, ?_⟩
  simp only [List.setIfInBounds_toArray, List.set_cons_succ, List.set_cons_zero]
  refine V.held_put 26 47 (.bool true) rfl rfl (by kernel_rfl) (by kernel_rfl) (by kernel_rfl) (by kernel_rfl) (fun w hS => by kernel_rfl) hR ?_
  simp only [List.setIfInBounds_toArray, List.set_cons_succ, List.set_cons_zero]
  refine V.held_put 27 48 (.bool true) rfl rfl (by kernel_rfl) (by kernel_rfl) (by kernel_rfl) (by kernel_rfl) (fun w hS => rfl) hR ?_
  simp only [List.setIfInBounds_toArray, List.set_cons_succ, List.set_cons_zero]
  refine V.held_put 28 0 (.bool true) rfl rfl (by kernel_rfl) (by kernel_rfl) (by kernel_rfl) (by kernel_rfl) (fun w hS => rfl) hR ?_
  simp only [List.setIfInBounds_toArray, List.set_cons_zero]
  refine V.held_done (by kernel_rfl) ?_
  simp only [Exit.then]
  go_wp2
  go_ret
  exact ⟨rfl, HB⟩
end Go.Proofs.YtmekmlgpkbfjpaaGreatDoor.O

/- The walk of the statement of signatures by seeds: whatever text and seeds, it answers true. -/
namespace Go.Proofs.YtmekmlgpkbfjpaaGreatDoor.O
open Go.RowKit Go.Sort Go.Proofs.YtmekmlgpkbfjpaaGreatDoor.E
open C (Pts)
open V (Lies OwnL RowL reg lessL bytesLess_is)
set_option maxRecDepth 100000

theorem cut_le (s : ByteArray) (k : Nat) : (s.extract 0 (min (s.size : Int) (k : Int)).toNat).size ≤ k := by
  rw [ByteArray.size_extract]
  omega
theorem row_take {w : World} {k : Nat} {a : Option Addr} {n c : Nat} {css : List (List Value)} (h : RowL w k (.slice a n c) css) {j : Nat} (hj : j ≤ css.length) : RowL w k (.slice a j c) (css.take j) := by
  obtain ⟨h0, a', c', hv, hc, hm, hn, hl⟩ := h
  injection hv with e1 e2 e3
  subst e1 e2 e3
  have hlen : (css.take j).length = j := by rw [List.length_take]; omega
  refine ⟨fun cs hcs => h0 cs (List.mem_of_mem_take hcs), a, c, by rw [hlen], by omega, by omega, hn, fun hpos => ?_⟩
  obtain ⟨b, off, rfl, hx⟩ := hl (by omega)
  refine ⟨b, off, rfl, fun i cs hi => ?_⟩
  rw [List.getElem?_take] at hi
  split at hi
  · exact hx i cs hi
  · cases hi
end Go.Proofs.YtmekmlgpkbfjpaaGreatDoor.O

