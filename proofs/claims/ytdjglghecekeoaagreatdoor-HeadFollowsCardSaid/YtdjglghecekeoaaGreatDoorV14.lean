/- Texts that stand on one another, put together: ELaw, JSign, JAlive, JFew, QBeside, QSmall, QRoots, QLevel, QOk, QStepFrom, QClimb, QStepMakes, QUnlike, QDevL, QDevF, QAns, JGoes. -/
import Derived.Test.YtdjglghecekeoaaGreatDoorV13
import Derived.BigQuiet
import Derived.Deep.AppendLies
import Derived.Deep.DrawnRows
import Derived.Deep.LoopGhost
import Derived.Deep.QuietTactic
import Derived.Deep.RegionLaw
import Derived.Laws.ShiftsVarLaws
import Derived.StillTailTactics
/- The statements' own calls: short, first, alive; what is signed is verified, and not with another number. -/
namespace Go.Proofs.YtdjglghecekeoaaGreatDoor.E
open Go.RowKit Go.Sort Go.Proofs.YtdjglghecekeoaaGreatDoor.F Go.Proofs.YtdjglghecekeoaaGreatDoor.C
set_option maxRecDepth 100000

/-! ### short, first, alive -/
/-! ### what is signed is verified -/
section
variable (s m : ByteArray)
theorem seedT_size : (seedT s m).size = 64 := by
  unfold seedT signT
  rw [ByteArray.size_append, text_size]
  simp [ByteArray.size, leL_length]
end
end Go.Proofs.YtdjglghecekeoaaGreatDoor.E

/- The contracts of the developers' calls that sign a head, check one, and write one. -/
namespace Go.Proofs.YtdjglghecekeoaaGreatDoor.J
open Go.RowKit Go.Sort Go.Proofs.YtdjglghecekeoaaGreatDoor.U Go.Proofs.YtdjglghecekeoaaGreatDoor.R Go.Proofs.YtdjglghecekeoaaGreatDoor.Q
set_option maxRecDepth 100000

/-- the signature of what is signed of a head -/
def sigL (key : ByteArray) (s : Int) (r : List UInt8) (t : Int) : List UInt8 := (E.seedT key (bytesOf (signedT s r t))).data.toList
theorem sig_bytes (key : ByteArray) (s : Int) (r : List UInt8) (t : Int) : E.seedT key (bytesOf (signedT s r t)) = bytesOf (sigL key s r t) := (Lib.mk_data _).symm
theorem sig_length (key : ByteArray) (s : Int) (r : List UInt8) (t : Int) : (sigL key s r t).length = 64 := by
  have h := E.seedT_size key (bytesOf (signedT s r t))
  rw [Lib.size_eq] at h
  exact h
theorem signed_small {s t : Int} {r : List UInt8} (h : mayH s r t = true) : (bytesOf (signedT s r t)).size ≤ 1000 := by
  have h5 := (mayH_of h).2.2.2.2
  rw [bytes_size, signed_length]
  omega
/-- Sign's answer -/
def signV (key : ByteArray) (s : Int) (r : List UInt8) (t : Int) : Value := if mayH s r t = true ∧ key.size = 32 then .tuple #[.agg (headA s r t (sigL key s r t)), .int .i64 0] else .tuple #[.agg head0, .int .i64 1]
/-! ### Sign -/
theorem two_lies (W : World) (T : TypeId) (cs cs' : Array Value) : Lies ((W.alloc (.cells cs T)).alloc (.cells cs' T)) (W.heap.size + 1) T cs' := by
  have h := Lies.new (W.alloc (.cells cs T)) T cs'
  simp at h
  exact h
set_option maxHeartbeats 1600000 in
theorem signH_any (A : C.Pts E.EdTab) (key : ByteArray) (s : Int) (r : List UInt8) (t : Int) (hk : key.size ≤ 1000) (W : World) (hT : E.EdTab W) :
    Calls Tryz.prog 17 #[.string key, .int .i64 s, .string (bytesOf r), .int .i64 t] W fun e w' => e = .returned (signV key s r t) ∧ Below W.heap.size W w' := by
  have HM := Lib.hid (fun w => mayH_any s r t [] w)
  have hR : Lies ((W.alloc (.cells head0 23)).alloc (.cells (headA s r t []) 23)) W.heap.size 23 head0 := (Lies.new W _ _).alloc _
  have hH : Lies ((W.alloc (.cells head0 23)).alloc (.cells (headA s r t []) 23)) (W.heap.size + 1) 23 (headA s r t []) := two_lies W _ _ _
  have hB := ((Below.refl W.heap.size W).alloc (Nat.le_refl _) (.cells head0 23)).alloc (by simp) (.cells (headA s r t []) 23)
  unfold signV
  cases hm : mayH s r t with
  | false =>
    rw [if_neg (fun h => by cases h.1)]
    rw [hm] at HM
    clear hm
    go_enter Tryz.func17, Tryz.ntmps17
    go_upto_region 2 with fail
    generalize hw0 : World.alloc (World.alloc _ _) _ = w0
    replace hH : Lies w0 (W.heap.size + 1) 23 (headA s r t []) := by rw [← hw0]; exact hH
    replace hR : Lies w0 W.heap.size 23 head0 := by rw [← hw0]; exact hR
    replace hB : Below W.heap.size W w0 := by rw [← hw0]; exact hB
    clear hw0
    go_wp2_with (first
      | ((with_reducible refine wpL_load (W.heap.size + 1) 23 (headA s r t []) 4 rowHead rfl hH ?_ ?_); rfl)
      | (go_at_call 32; (with_reducible refine (HM.out _).mono ?_); rintro e w1 ⟨rfl, hb1⟩; replace hB := below_on hB hb1; replace hR := hR.on hb1; replace hH := hH.on hb1; clear hb1)
      | ((with_reducible refine wpL_store W.heap.size 23 head0 head0 4 rowHead rfl rfl (headA_one _ _ _ _) hR ?_ ?_ ?_); rfl; rfl))
    exact bodyPost_ret (results_row_tmp Tryz.results17 rowHead rfl (hR.row _) rfl rfl) rfl ⟨rfl, below_rowSet hB (Nat.le_refl _) _⟩
  | true =>
    have hs := signed_small hm
    rw [hm] at HM
    have HS := Lib.hid (fun w => signedOf_any s r t [] w hm)
    have HE := Lib.hid (fun w (hb : Below W.heap.size W w) => E.signs_any A key (bytesOf (signedT s r t)) hk hs w (hT.on hb))
    rw [sig_bytes] at HE
    clear hm hs hT
    generalize sigL key s r t = g at *
    generalize signedT s r t = M at *
    by_cases h32 : key.size = 32
    · rw [if_pos ⟨rfl, h32⟩]
      rw [if_pos h32] at HE
      clear h32 hk
      go_enter Tryz.func17, Tryz.ntmps17
      go_upto_region 2 with fail
      generalize hw0 : World.alloc (World.alloc _ _) _ = w0
      replace hH : Lies w0 (W.heap.size + 1) 23 (headA s r t []) := by rw [← hw0]; exact hH
      replace hR : Lies w0 W.heap.size 23 head0 := by rw [← hw0]; exact hR
      replace hB : Below W.heap.size W w0 := by rw [← hw0]; exact hB
      clear hw0
      go_upto_region 7 with (first
        | ((with_reducible refine wpL_load (W.heap.size + 1) 23 (headA s r t []) 4 rowHead rfl hH ?_ ?_); rfl)
        | (go_at_call 32; (with_reducible refine (HM.out _).mono ?_); rintro e w1 ⟨rfl, hb1⟩; replace hB := below_on hB hb1; replace hR := hR.on hb1; replace hH := hH.on hb1; clear hb1)
        | (go_at_call 36; (with_reducible refine (HS.out _).mono ?_); rintro e w2 ⟨rfl, hb1⟩; replace hB := below_on hB hb1; replace hR := hR.on hb1; replace hH := hH.on hb1; clear hb1)
        | (go_at_call 18; (with_reducible refine (HE.out _ hB).mono ?_); rintro e w3 ⟨rfl, hb1⟩; replace hB := below_on hB hb1; replace hR := hR.on hb1; replace hH := hH.on hb1; clear hb1))
      have c3 := hH.cell 3
      have f3 := hH.frozen 3
      have hc3 : w3.cell? ⟨W.heap.size + 1, 3, none⟩ = some (.string (bytesOf [])) := c3
      go_upto_region 8 with fail
      replace hB := hB.setCell (p := ⟨W.heap.size + 1, 3, none⟩) (Nat.le_succ _) (.string (bytesOf g))
      replace hR := hR.far (p := ⟨W.heap.size + 1, 3, none⟩) (by simp) (.string (bytesOf g))
      have hG : Lies (w3.setCell ⟨W.heap.size + 1, 3, none⟩ (.string (bytesOf g))) (W.heap.size + 1) 23 (headA s r t g) := hH.put 3 _
      clear hH c3 f3 hc3
      generalize World.setCell _ _ _ = w4 at *
      go_wp2_with (first
        | ((with_reducible refine wpL_load (W.heap.size + 1) 23 (headA s r t g) 4 rowHead rfl hG ?_ ?_); rfl)
        | ((with_reducible refine wpL_store W.heap.size 23 head0 (headA s r t g) 4 rowHead rfl rfl (headA_one _ _ _ _) hR ?_ ?_ ?_); rfl; rfl))
      exact bodyPost_ret (results_row_tmp Tryz.results17 rowHead rfl (hR.row _) rfl rfl) rfl ⟨rfl, below_rowSet hB (Nat.le_refl _) _⟩
    · rw [if_neg (fun h => h32 h.2)]
      rw [if_neg h32] at HE
      clear h32 hk
      go_enter Tryz.func17, Tryz.ntmps17
      go_upto_region 2 with fail
      generalize hw0 : World.alloc (World.alloc _ _) _ = w0
      replace hH : Lies w0 (W.heap.size + 1) 23 (headA s r t []) := by rw [← hw0]; exact hH
      replace hR : Lies w0 W.heap.size 23 head0 := by rw [← hw0]; exact hR
      replace hB : Below W.heap.size W w0 := by rw [← hw0]; exact hB
      clear hw0
      go_wp2_with (first
        | ((with_reducible refine wpL_load (W.heap.size + 1) 23 (headA s r t []) 4 rowHead rfl hH ?_ ?_); rfl)
        | (go_at_call 32; (with_reducible refine (HM.out _).mono ?_); rintro e w1 ⟨rfl, hb1⟩; replace hB := below_on hB hb1; replace hR := hR.on hb1; replace hH := hH.on hb1; clear hb1)
        | (go_at_call 36; (with_reducible refine (HS.out _).mono ?_); rintro e w2 ⟨rfl, hb1⟩; replace hB := below_on hB hb1; replace hR := hR.on hb1; replace hH := hH.on hb1; clear hb1)
        | (go_at_call 18; (with_reducible refine (HE.out _ hB).mono ?_); rintro e w3 ⟨rfl, hb1⟩; replace hB := below_on hB hb1; replace hR := hR.on hb1; replace hH := hH.on hb1; clear hb1)
        | ((with_reducible refine wpL_store W.heap.size 23 head0 head0 4 rowHead rfl rfl (headA_one _ _ _ _) hR ?_ ?_ ?_); rfl; rfl))
      exact bodyPost_ret (results_row_tmp Tryz.results17 rowHead rfl (hR.row _) rfl rfl) rfl ⟨rfl, below_rowSet hB (Nat.le_refl _) _⟩

/-! ### Print -/
/-! ### Check -/
end Go.Proofs.YtdjglghecekeoaaGreatDoor.J

/- The contracts of the statements' own small calls: a seed, and that a head which is signed may be. -/
namespace Go.Proofs.YtdjglghecekeoaaGreatDoor.J
open Go.RowKit Go.Sort Go.Proofs.YtdjglghecekeoaaGreatDoor.U Go.Proofs.YtdjglghecekeoaaGreatDoor.R Go.Proofs.YtdjglghecekeoaaGreatDoor.Q
set_option maxRecDepth 100000

def seedB : ByteArray := ⟨#[48, 49, 50, 51, 52, 53, 54, 55, 56, 57, 97, 98, 99, 100, 101, 102, 48, 49, 50, 51, 52, 53, 54, 55, 56, 57, 97, 98, 99, 100, 101, 102]⟩
theorem seed_any (w : World) : Calls Tryz.prog 33 #[] w fun e w' => e = .returned (.string seedB) ∧ w = w' := by
  go_enter Tryz.func33, Tryz.ntmps33
  go_wp2
  go_ret
  exact ⟨rfl, rfl⟩
/-- what the program's variables hold while heads are signed -/
structure HTab (w : World) : Prop where
  u : Tab w
  e : E.EdTab w
theorem HTab.on {w w' : World} (h : HTab w) (hb : Below w.heap.size w w') : HTab w' := ⟨h.u.below hb, h.e.on hb⟩
set_option maxHeartbeats 1600000 in
theorem aliveH_any (A : C.Pts E.EdTab) (W : World) (hT : HTab W) : Calls Tryz.prog 14 #[] W fun e w' => e = .returned (.bool true) ∧ Below W.heap.size W w' := by
  have hm : mayH 0 (lf []) 5 = true := mayH_yes (by decide) (by decide) (by decide) (by decide) (lf_length _)
  have HS := Lib.hid (fun w (hb : Below W.heap.size W w) => signH_any A seedB 0 (lf []) 5 (by decide) w (hT.on hb).e)
  unfold signV at HS
  rw [if_pos ⟨hm, by decide⟩] at HS
  have hr : rightH 0 (lf []) 5 (sigL seedB 0 (lf []) 5) = true := rightH_yes hm (sig_length _ _ _ _)
  have HR := Lib.hid (fun w => rightH_any 0 (lf []) 5 (sigL seedB 0 (lf []) 5) w)
  rw [hr] at HR
  have HL := Lib.hid (fun w (hb : Below W.heap.size W w) => leaf_any [] w (by decide) (hT.on hb).u)
  have HD := Lib.hid (fun w => seed_any w)
  clear hm hr hT
  generalize sigL seedB 0 (lf []) 5 = g at *
  generalize lf [] = r at *
  generalize seedB = k at *
  have hB := Below.refl W.heap.size W
  go_enter Tryz.func14, Tryz.ntmps14
  go_upto_region 2 with (first
    | (go_at_call 33; (with_reducible refine (HD.out _).mono ?_); rintro e w1 ⟨rfl, rfl⟩)
    | (go_at_call 25; refine (HL.out _ hB).mono ?_; rintro e w2 ⟨rfl, hb⟩; replace hB := below_on hB hb; clear hb)
    | (go_at_call 17; (with_reducible refine (HS.out _ hB).mono ?_); rintro e w3 ⟨rfl, hb⟩; replace hB := below_on hB hb; clear hb)
    | ((with_reducible refine wpL_store w3.heap.size 23 _ (headA 0 r 5 g) 4 rowHead ?_ rfl (headA_one _ _ _ _) (Lies.new w3 _ _) ?_ ?_ ?_); rfl; rfl; rfl))
  generalize hw4 : World.setRow _ _ _ = w4
  have hl : Lies w4 w3.heap.size 23 (headA 0 r 5 g) := by rw [← hw4]; exact newH_lies w3 _ _ _
  replace hB : Below W.heap.size W w4 := by rw [← hw4]; exact below_on hB (newH w3 _ _)
  clear hw4
  generalize w3.heap.size = b at *
  clear HD HL HS
  go_wp2_with (first
    | ((with_reducible refine wpL_load_gH b 23 (headA 0 r 5 g) 4 rowHead rfl hl ?_ ?_ ?_); rfl; rfl)
    | (go_at_call 12; (with_reducible refine (HR.out _).mono ?_); rintro e w5 ⟨rfl, hb⟩; have ht := hd_t (hl.on hb); replace hB := below_on hB hb; clear hb))
  go_ret
  exact ⟨rfl, hB⟩
end Go.Proofs.YtdjglghecekeoaaGreatDoor.J

/- The contract of the statements' own call that takes a head's root and signature short. -/
namespace Go.Proofs.YtdjglghecekeoaaGreatDoor.J
open Go.RowKit Go.Sort Go.Proofs.YtdjglghecekeoaaGreatDoor.U Go.Proofs.YtdjglghecekeoaaGreatDoor.R Go.Proofs.YtdjglghecekeoaaGreatDoor.Q
set_option maxRecDepth 100000

theorem box_two (W : World) (T : TypeId) (cs cs' : Array Value) : Lies ((W.alloc (.cells cs T)).alloc (.cells cs' T)) (W.heap.size + 1) T cs' := by
  have h := Lies.new (W.alloc (.cells cs T)) T cs'
  simp at h
  exact h
set_option maxHeartbeats 1600000 in
theorem fewH_any (s : Int) (r : List UInt8) (t : Int) (g : List UInt8) (W : World) (hr : r.length ≤ maxLen) (hg : g.length ≤ maxLen) :
    Calls Tryz.prog 9 #[.agg (headA s r t g)] W fun e w' => e = .returned (.agg (headA s (r.take 40) t (g.take 70))) ∧ Below W.heap.size W w' := by
  unfold maxLen at hr hg
  have hz := bytes_int r
  have hy := bytes_int g
  have hB := ((Below.refl W.heap.size W).alloc (Nat.le_refl _) (.cells (headA s r t g) 23)).alloc (by simp) (.cells head0 23)
  have hH : Lies ((W.alloc (.cells (headA s r t g) 23)).alloc (.cells head0 23)) W.heap.size 23 (headA s r t g) := (Lies.new W _ _).alloc _
  have hR : Lies ((W.alloc (.cells (headA s r t g) 23)).alloc (.cells head0 23)) (W.heap.size + 1) 23 head0 := box_two W _ _ _
  have C1 : Hid ((bytesOf r).extract 0 (min (r.length : Int) 40).toNat = bytesOf (r.take 40)) := Lib.hid (cut_bytes r 40 40 rfl)
  have C2 : Hid ((bytesOf g).extract 0 (min (g.length : Int) 70).toNat = bytesOf (g.take 70)) := Lib.hid (cut_bytes g 70 70 rfl)
  go_enter Tryz.func9, Tryz.ntmps9
  go_upto_region 1 with fail
  generalize hw0 : World.alloc (World.alloc _ _) _ = w0
  replace hH : Lies w0 W.heap.size 23 (headA s r t g) := by rw [← hw0]; exact hH
  replace hR : Lies w0 (W.heap.size + 1) 23 head0 := by rw [← hw0]; exact hR
  replace hB : Below W.heap.size W w0 := by rw [← hw0]; exact hB
  clear hw0
  have k1 := hd_r hH
  have k3 := hd_g hH
  have f1 := hH.frozen 1
  have f3 := hH.frozen 3
  go_region
  simp only [Exit.then]
  rw [C1.out, C2.out]
  clear C1 C2 k1 k3 f1 f3
  replace hB : Below W.heap.size W _ := ((hB.setCell (p := ⟨W.heap.size, 1, none⟩) (Nat.le_refl _) (.string (bytesOf (r.take 40)))).setCell (p := ⟨W.heap.size, 3, none⟩) (Nat.le_refl _) (.string (bytesOf (g.take 70)))).drew
  replace hR : Lies _ (W.heap.size + 1) 23 head0 := ((hR.far (p := ⟨W.heap.size, 1, none⟩) (by simp) (.string (bytesOf (r.take 40)))).far (p := ⟨W.heap.size, 3, none⟩) (by simp) (.string (bytesOf (g.take 70)))).drew
  replace hH : Lies _ W.heap.size 23 (headA s (r.take 40) t (g.take 70)) := ((hH.put 1 (.string (bytesOf (r.take 40)))).put 3 (.string (bytesOf (g.take 70)))).drew
  generalize World.drew _ = w1 at *
  go_wp2_with (first
    | ((with_reducible refine wpL_load W.heap.size 23 (headA s (r.take 40) t (g.take 70)) 4 rowHead rfl hH ?_ ?_); rfl)
    | ((with_reducible refine wpL_store (W.heap.size + 1) 23 head0 (headA s (r.take 40) t (g.take 70)) 4 rowHead rfl rfl (headA_one _ _ _ _) hR ?_ ?_ ?_); rfl; rfl))
  exact bodyPost_ret (results_row Tryz.results9 rowHead rfl (hR.row _) rfl) rfl ⟨rfl, below_rowSet hB (Nat.le_succ _) _⟩
end Go.Proofs.YtdjglghecekeoaaGreatDoor.J

/- The contract of the developers' call that tells the parts beside the way up. -/
namespace Go.Proofs.YtdjglghecekeoaaGreatDoor.Q
open Go.RowKit Go.Sort Go.Proofs.YtdjglghecekeoaaGreatDoor.U Go.Proofs.YtdjglghecekeoaaGreatDoor.R
set_option maxRecDepth 100000

theorem prts_head {L n : Nat} (h : (n - 1) / 2 ^ L ≠ 0) (hn : n ≤ 4096) : L < 12 ∧ ∀ x, x ≤ n - 1 → x / 2 ^ L * 2 ^ L ≤ 4096 := by
  refine ⟨?_, fun x hx => ?_⟩
  · rcases Nat.lt_or_ge L 12 with h1 | h1
    · exact h1
    · have h2 : 2 ^ 12 ≤ 2 ^ L := Nat.pow_le_pow_right (by decide) h1
      exact absurd (Nat.div_eq_of_lt (by omega)) h
  · have := Nat.div_mul_le_self x (2 ^ L)
    omega
theorem div_pow_succ (x L : Nat) : x / 2 ^ (L + 1) = x / 2 ^ L / 2 := by rw [Nat.pow_succ, Nat.div_div_eq_div_mul]
set_option maxHeartbeats 3200000 in
theorem beside_any (i t n : Nat) (w0 : World) (hi : i < n) (hn : n ≤ 4096) (ht : t ≤ 12) :
    Calls Tryz.prog 81 #[.int .i64 (i : Int), .int .i64 (t : Int), .int .i64 (n : Int)] w0 fun e w' => ∃ v, e = .returned v ∧ w'.ownsRow w0.heap.size 147 3 v (prt (i / 2 ^ t) ((n - 1) / 2 ^ t) t n).length (partsC (prt (i / 2 ^ t) ((n - 1) / 2 ^ t) t n)) ∧ Below w0.heap.size w0 w' := by
  have hlen0 : (prt (i / 2 ^ t) ((n - 1) / 2 ^ t) t n).length ≤ 12 := prt_length 12 _ _ _ _ (Nat.lt_of_le_of_lt (Nat.div_le_self _ _) (by omega))
  obtain ⟨PS, hPS⟩ : ∃ PS, prt (i / 2 ^ t) ((n - 1) / 2 ^ t) t n = PS := ⟨_, rfl⟩
  rw [hPS] at hlen0 ⊢
  have HPS := Lib.hid hPS
  clear hPS
  go_enter Tryz.func81, Tryz.ntmps81
  go_wp2
  go_step3
  go_wp2
  go_step3
  go_wp2
  go_loopw [1, 7] (fun lv pv wr => ∃ (L : Nat) (ps : List Part), lv = .int .i64 (L : Int) ∧ t ≤ L ∧ L ≤ 12 ∧ wr.ownsRow w0.heap.size 147 3 pv ps.length (partsC ps) ∧ Below w0.heap.size w0 wr ∧ Hid (ps ++ prt (i / 2 ^ L) ((n - 1) / 2 ^ L) L n = PS)) (fun lv _ _ => 13 - (intOf lv).toNat)
  case atStart => exact ⟨t, [], rfl, Nat.le_refl _, ht, ⟨rfl, .inl ⟨rfl, rfl⟩⟩, Below.refl _ _, HPS⟩
  case round =>
    obtain ⟨L, ps, rfl, hL1, hL2, ho, hB, HP⟩ := hrel
    have hpl : ps.length ≤ 12 := by have := congrArg List.length HP.out; rw [List.length_append] at this; omega
    go_upto_region 4 with fail
    refine wp_held_any (S := fun _ => True) 8 rfl (by kernel_rfl) ?_
    refine held_put 0 15 (.int .i64 ((i : Nat) : Int)) rfl rfl (by kernel_rfl) (by kernel_rfl) (by kernel_rfl) (by kernel_rfl) (fun w hS => rfl) trivial ?_
    simp only [List.setIfInBounds_toArray, List.set_cons_succ, List.set_cons_zero]
    refine held_put 1 16 (.int .i64 ((L : Nat) : Int)) rfl rfl (by kernel_rfl) (by kernel_rfl) (by kernel_rfl) (by kernel_rfl) (fun w hS => rfl) trivial ?_
    simp only [List.setIfInBounds_toArray, List.set_cons_succ, List.set_cons_zero]
    refine held_put 2 17 (.int .i64 ((i / 2 ^ L : Nat) : Int)) rfl rfl (by kernel_rfl) (by kernel_rfl) (by kernel_rfl) (by kernel_rfl) (fun w hS => run_shrN i L _ rfl (by omega) rfl rfl w) trivial ?_
    simp only [List.setIfInBounds_toArray, List.set_cons_succ, List.set_cons_zero]
    refine held_put 3 18 (.int .i64 ((n : Int) - 1)) rfl rfl (by kernel_rfl) (by kernel_rfl) (by kernel_rfl) (by kernel_rfl) (fun w hS => rfl) trivial ?_
    simp only [List.setIfInBounds_toArray, List.set_cons_succ, List.set_cons_zero]
    refine held_put 4 19 (.int .i64 ((L : Nat) : Int)) rfl rfl (by kernel_rfl) (by kernel_rfl) (by kernel_rfl) (by kernel_rfl) (fun w hS => rfl) trivial ?_
    simp only [List.setIfInBounds_toArray, List.set_cons_succ, List.set_cons_zero]
    refine held_put 5 20 (.int .i64 (((n - 1) / 2 ^ L : Nat) : Int)) rfl rfl (by kernel_rfl) (by kernel_rfl) (by kernel_rfl) (by kernel_rfl) (fun w hS => run_shrN (n - 1) L _ (by omega) (by omega) rfl rfl w) trivial ?_
    simp only [List.setIfInBounds_toArray, List.set_cons_succ, List.set_cons_zero]
    refine held_put 6 9 (.int .i64 ((i / 2 ^ L : Nat) : Int)) rfl rfl (by kernel_rfl) (by kernel_rfl) (by kernel_rfl) (by kernel_rfl) (fun w hS => rfl) trivial ?_
    simp only [List.setIfInBounds_toArray, List.set_cons_succ, List.set_cons_zero]
    refine held_put 7 10 (.int .i64 (((n - 1) / 2 ^ L : Nat) : Int)) rfl rfl (by kernel_rfl) (by kernel_rfl) (by kernel_rfl) (by kernel_rfl) (fun w hS => rfl) trivial ?_
    simp only [List.setIfInBounds_toArray, List.set_cons_succ, List.set_cons_zero]
    refine held_done (by kernel_rfl) ?_
    simp only [Exit.then]
    have hhs : i / 2 ^ L ≤ (n - 1) / 2 ^ L := Nat.div_le_div_right (by omega)
    have hP0 := HP.out
    have hhd := fun hne => prts_head (L := L) (n := n) hne hn
    have hs4 : (n - 1) / 2 ^ L ≤ 4095 := Nat.le_trans (Nat.div_le_self _ _) (by omega)
    have eh := div_pow_succ i L
    have es := div_pow_succ (n - 1) L
    have hhb := fun hne => (hhd hne).2 i (by omega)
    have hsb := fun hne => (hhd hne).2 (n - 1) (by omega)
    have WDB : Below wr.heap.size wr { wr with drawn := wr.drawn + 1 } := (Below.refl _ _).drew
    generalize hgh : i / 2 ^ L = h at *
    generalize hgs : (n - 1) / 2 ^ L = s at *
    generalize ({ wr with drawn := wr.drawn + 1 } : World) = wd at *
    clear HP
    by_cases hs0 : s = 0
    · have hP1 : ps = PS := by rw [hs0, prt_zero, List.append_nil] at hP0; exact hP0
      clear hP0 hgh hgs
      subst hs0 hP1
      go_wp2
      rw [Exit.noGoto_ret]
      go_ret
      exact ⟨u7, rfl, own_onN ho WDB, hB.trans (WDB.mono hB.size)⟩
    · have hne : ((s : Int) == 0) = false := by simp; omega
      have hb1 := hhb hs0
      have hb2 := hsb hs0
      have hl12 := (hhd hs0).1
      rcases Nat.mod_two_eq_zero_or_one h with h0 | h1
      · have hrem : ((h : Int) % 2 == 1) = false := by simp; omega
        by_cases hlt : h < s
        · have hpr := prt_even (s := s) h0 hlt L n
          go_upto_region 9 with fail
          have HNX : Hid ((ps ++ [(false, (h + 1) * 2 ^ L, min ((h + 2) * 2 ^ L) n)]) ++ prt (i / 2 ^ (L + 1)) ((n - 1) / 2 ^ (L + 1)) (L + 1) n = PS) := Lib.hid (by rw [eh, es, List.append_assoc, ← hP0, hpr]; rfl)
          have hb5 : (h + 1) * 2 ^ L ≤ s * 2 ^ L := Nat.mul_le_mul_right _ (by omega)
          have hb6 : (h + 2) * 2 ^ L ≤ 2 * (s * 2 ^ L) := by rw [← Nat.mul_assoc]; exact Nat.mul_le_mul_right _ (by omega)
          clear hP0 hpr eh es hgh hgs hhd hhb hsb
          refine wp_held_any (S := fun _ => True) 15 rfl (by kernel_rfl) ?_
          refine held_put 0 43 u7 rfl rfl (by kernel_rfl) (by kernel_rfl) (by kernel_rfl) (by kernel_rfl) (fun w hS => rfl) trivial ?_
          simp only [List.setIfInBounds_toArray, List.set_cons_succ, List.set_cons_zero]
          refine held_put 1 44 (.int .i64 ((h : Nat) : Int)) rfl rfl (by kernel_rfl) (by kernel_rfl) (by kernel_rfl) (by kernel_rfl) (fun w hS => rfl) trivial ?_
          simp only [List.setIfInBounds_toArray, List.set_cons_succ, List.set_cons_zero]
          refine held_put 2 45 (.int .i64 ((h + 1 : Nat) : Int)) rfl rfl (by kernel_rfl) (by kernel_rfl) (by kernel_rfl) (by kernel_rfl) (fun w hS => run_addN h 1 (by omega) rfl w) trivial ?_
          simp only [List.setIfInBounds_toArray, List.set_cons_succ, List.set_cons_zero]
          refine held_put 3 46 (.int .i64 ((L : Nat) : Int)) rfl rfl (by kernel_rfl) (by kernel_rfl) (by kernel_rfl) (by kernel_rfl) (fun w hS => rfl) trivial ?_
          simp only [List.setIfInBounds_toArray, List.set_cons_succ, List.set_cons_zero]
          refine held_put 4 47 (.int .i64 (((h + 1) * 2 ^ L : Nat) : Int)) rfl rfl (by kernel_rfl) (by kernel_rfl) (by kernel_rfl) (by kernel_rfl) (fun w hS => run_shlN (h + 1) L _ rfl (by omega) (by omega) rfl rfl w) trivial ?_
          simp only [List.setIfInBounds_toArray, List.set_cons_succ, List.set_cons_zero]
          refine held_put 5 48 (.int .i64 ((h : Nat) : Int)) rfl rfl (by kernel_rfl) (by kernel_rfl) (by kernel_rfl) (by kernel_rfl) (fun w hS => rfl) trivial ?_
          simp only [List.setIfInBounds_toArray, List.set_cons_succ, List.set_cons_zero]
          refine held_put 6 49 (.int .i64 ((h + 2 : Nat) : Int)) rfl rfl (by kernel_rfl) (by kernel_rfl) (by kernel_rfl) (by kernel_rfl) (fun w hS => run_addN h 2 (by omega) rfl w) trivial ?_
          simp only [List.setIfInBounds_toArray, List.set_cons_succ, List.set_cons_zero]
          refine held_put 7 50 (.int .i64 ((L : Nat) : Int)) rfl rfl (by kernel_rfl) (by kernel_rfl) (by kernel_rfl) (by kernel_rfl) (fun w hS => rfl) trivial ?_
          simp only [List.setIfInBounds_toArray, List.set_cons_succ, List.set_cons_zero]
          refine held_put 8 51 (.int .i64 (((h + 2) * 2 ^ L : Nat) : Int)) rfl rfl (by kernel_rfl) (by kernel_rfl) (by kernel_rfl) (by kernel_rfl) (fun w hS => run_shlN (h + 2) L _ rfl (by omega) (by omega) rfl rfl w) trivial ?_
          simp only [List.setIfInBounds_toArray, List.set_cons_succ, List.set_cons_zero]
          refine held_put 9 52 (.int .i64 ((n : Nat) : Int)) rfl rfl (by kernel_rfl) (by kernel_rfl) (by kernel_rfl) (by kernel_rfl) (fun w hS => rfl) trivial ?_
          simp only [List.setIfInBounds_toArray, List.set_cons_succ, List.set_cons_zero]
          refine held_put 10 53 (.int .i64 ((min ((h + 2) * 2 ^ L) n : Nat) : Int)) rfl rfl (by kernel_rfl) (by kernel_rfl) (by kernel_rfl) (by kernel_rfl) (fun w hS => run_minN _ _ rfl rfl w) trivial ?_
          simp only [List.setIfInBounds_toArray, List.set_cons_succ, List.set_cons_zero]
          refine held_put 11 54 (.agg (partA (false, (h + 1) * 2 ^ L, min ((h + 2) * 2 ^ L) n))) rfl rfl (by kernel_rfl) (by kernel_rfl) (by kernel_rfl) (by kernel_rfl) (fun w hS => run_buildP _ _ _ rfl rfl w) trivial ?_
          simp only [List.setIfInBounds_toArray, List.set_cons_succ, List.set_cons_zero]
          replace WDB := WDB.trans ((Below.refl wd.heap.size wd).drew.mono WDB.size)
          change Below wr.heap.size wr { wd with drawn := wd.drawn + 1 } at WDB
          generalize ({ wd with drawn := wd.drawn + 1 } : World) = wd at *
          have HL := Lies.new wd 147 (partA (false, (h + 1) * 2 ^ L, min ((h + 2) * 2 ^ L) n))
          have HB2 := (hB.trans (WDB.mono hB.size)).alloc (hB.trans (WDB.mono hB.size)).size (.cells (partA (false, (h + 1) * 2 ^ L, min ((h + 2) * 2 ^ L) n)) 147)
          have HO2 := own_onN (own_onN ho WDB) ((Below.refl wd.heap.size wd).alloc (Nat.le_refl _) (.cells (partA (false, (h + 1) * 2 ^ L, min ((h + 2) * 2 ^ L) n)) 147))
          refine held_one 12 (by kernel_rfl) (wpOp_put 55 (w' := wd.alloc (.cells (partA (false, (h + 1) * 2 ^ L, min ((h + 2) * 2 ^ L) n)) 147)) (v := .slice (some ⟨wd.heap.size, 0, none⟩) 1 1) rfl rfl (by kernel_rfl) (by kernel_rfl) ⟨trivial, ?_⟩)
          simp only [List.setIfInBounds_toArray, List.set_cons_succ, List.set_cons_zero]
          refine held_one 13 (by kernel_rfl) (wpOp_lawD 56 rfl rfl (by kernel_rfl) (wpL_appendP w0.heap.size u7 ps HO2 (false, (h + 1) * 2 ^ L, min ((h + 2) * 2 ^ L) n) wd.heap.size HL (by omega) HB2.size rfl rfl ?_))
          intro v6 w6 ho6 hb6
          refine And.intro trivial ?_
          simp only [Act.put, List.setIfInBounds_toArray, List.set_cons_succ, List.set_cons_zero]
          refine held_put 14 7 v6 rfl rfl (by kernel_rfl) (by kernel_rfl) (by kernel_rfl) (by kernel_rfl) (fun w hS => rfl) trivial ?_
          simp only [List.setIfInBounds_toArray, List.set_cons_succ, List.set_cons_zero]
          refine held_done (by kernel_rfl) ?_
          simp only [Exit.then, Exit.inBlock]
          go_wp2
          go_roundw
          case rel => exact ⟨L + 1, ps ++ [(false, (h + 1) * 2 ^ L, min ((h + 2) * 2 ^ L) n)], by go_num, by omega, by omega, ho6, HB2.trans hb6, HNX⟩
          case measure => simp [intOf]; omega
        · have hpr := prt_last (s := s) h0 (by omega) L n
          have HNX : Hid (ps ++ prt (i / 2 ^ (L + 1)) ((n - 1) / 2 ^ (L + 1)) (L + 1) n = PS) := Lib.hid (by rw [eh, es, ← hP0, hpr])
          clear hP0 hpr eh es hgh hgs hhd hhb hsb hhs
          go_wp2
          go_roundw
          case rel => exact ⟨L + 1, ps, by go_num, by omega, by omega, own_onN ho WDB, hB.trans (WDB.mono hB.size), HNX⟩
          case measure => simp [intOf]; omega
      · have hrem : ((h : Int) % 2 == 1) = true := by simp; omega
        have hpr := prt_odd (s := s) h1 (by omega) L n
        go_upto_region 7 with fail
        have HNX : Hid ((ps ++ [(true, (h - 1) * 2 ^ L, h * 2 ^ L)]) ++ prt (i / 2 ^ (L + 1)) ((n - 1) / 2 ^ (L + 1)) (L + 1) n = PS) := Lib.hid (by rw [eh, es, List.append_assoc, ← hP0, hpr]; rfl)
        have hb5 : (h - 1) * 2 ^ L ≤ h * 2 ^ L := Nat.mul_le_mul_right _ (by omega)
        clear hP0 hpr eh es hgh hgs hhd hhb hsb
        refine wp_held_any (S := fun _ => True) 12 rfl (by kernel_rfl) ?_
        refine held_put 0 28 u7 rfl rfl (by kernel_rfl) (by kernel_rfl) (by kernel_rfl) (by kernel_rfl) (fun w hS => rfl) trivial ?_
        simp only [List.setIfInBounds_toArray, List.set_cons_succ, List.set_cons_zero]
        refine held_put 1 29 (.int .i64 ((h : Nat) : Int)) rfl rfl (by kernel_rfl) (by kernel_rfl) (by kernel_rfl) (by kernel_rfl) (fun w hS => rfl) trivial ?_
        simp only [List.setIfInBounds_toArray, List.set_cons_succ, List.set_cons_zero]
        refine held_put 2 30 (.int .i64 ((h - 1 : Nat) : Int)) rfl rfl (by kernel_rfl) (by kernel_rfl) (by kernel_rfl) (by kernel_rfl) (fun w hS => run_subN h 1 (by omega) (by omega) rfl w) trivial ?_
        simp only [List.setIfInBounds_toArray, List.set_cons_succ, List.set_cons_zero]
        refine held_put 3 31 (.int .i64 ((L : Nat) : Int)) rfl rfl (by kernel_rfl) (by kernel_rfl) (by kernel_rfl) (by kernel_rfl) (fun w hS => rfl) trivial ?_
        simp only [List.setIfInBounds_toArray, List.set_cons_succ, List.set_cons_zero]
        refine held_put 4 32 (.int .i64 (((h - 1) * 2 ^ L : Nat) : Int)) rfl rfl (by kernel_rfl) (by kernel_rfl) (by kernel_rfl) (by kernel_rfl) (fun w hS => run_shlN (h - 1) L _ rfl (by omega) (by omega) rfl rfl w) trivial ?_
        simp only [List.setIfInBounds_toArray, List.set_cons_succ, List.set_cons_zero]
        refine held_put 5 33 (.int .i64 ((h : Nat) : Int)) rfl rfl (by kernel_rfl) (by kernel_rfl) (by kernel_rfl) (by kernel_rfl) (fun w hS => rfl) trivial ?_
        simp only [List.setIfInBounds_toArray, List.set_cons_succ, List.set_cons_zero]
        refine held_put 6 34 (.int .i64 ((L : Nat) : Int)) rfl rfl (by kernel_rfl) (by kernel_rfl) (by kernel_rfl) (by kernel_rfl) (fun w hS => rfl) trivial ?_
        simp only [List.setIfInBounds_toArray, List.set_cons_succ, List.set_cons_zero]
        refine held_put 7 35 (.int .i64 ((h * 2 ^ L : Nat) : Int)) rfl rfl (by kernel_rfl) (by kernel_rfl) (by kernel_rfl) (by kernel_rfl) (fun w hS => run_shlN h L _ rfl (by omega) (by omega) rfl rfl w) trivial ?_
        simp only [List.setIfInBounds_toArray, List.set_cons_succ, List.set_cons_zero]
        refine held_put 8 36 (.agg (partA (true, (h - 1) * 2 ^ L, h * 2 ^ L))) rfl rfl (by kernel_rfl) (by kernel_rfl) (by kernel_rfl) (by kernel_rfl) (fun w hS => run_buildP _ _ _ rfl rfl w) trivial ?_
        simp only [List.setIfInBounds_toArray, List.set_cons_succ, List.set_cons_zero]
        replace WDB := WDB.trans ((Below.refl wd.heap.size wd).drew.mono WDB.size)
        change Below wr.heap.size wr { wd with drawn := wd.drawn + 1 } at WDB
        generalize ({ wd with drawn := wd.drawn + 1 } : World) = wd at *
        have HL := Lies.new wd 147 (partA (true, (h - 1) * 2 ^ L, h * 2 ^ L))
        have HB2 := (hB.trans (WDB.mono hB.size)).alloc (hB.trans (WDB.mono hB.size)).size (.cells (partA (true, (h - 1) * 2 ^ L, h * 2 ^ L)) 147)
        have HO2 := own_onN (own_onN ho WDB) ((Below.refl wd.heap.size wd).alloc (Nat.le_refl _) (.cells (partA (true, (h - 1) * 2 ^ L, h * 2 ^ L)) 147))
        refine held_one 9 (by kernel_rfl) (wpOp_put 37 (w' := wd.alloc (.cells (partA (true, (h - 1) * 2 ^ L, h * 2 ^ L)) 147)) (v := .slice (some ⟨wd.heap.size, 0, none⟩) 1 1) rfl rfl (by kernel_rfl) (by kernel_rfl) ⟨trivial, ?_⟩)
        simp only [List.setIfInBounds_toArray, List.set_cons_succ, List.set_cons_zero]
        refine held_one 10 (by kernel_rfl) (wpOp_lawD 38 rfl rfl (by kernel_rfl) (wpL_appendP w0.heap.size u7 ps HO2 (true, (h - 1) * 2 ^ L, h * 2 ^ L) wd.heap.size HL (by omega) HB2.size rfl rfl ?_))
        intro v6 w6 ho6 hb6
        refine And.intro trivial ?_
        simp only [Act.put, List.setIfInBounds_toArray, List.set_cons_succ, List.set_cons_zero]
        refine held_put 11 7 v6 rfl rfl (by kernel_rfl) (by kernel_rfl) (by kernel_rfl) (by kernel_rfl) (fun w hS => rfl) trivial ?_
        simp only [List.setIfInBounds_toArray, List.set_cons_succ, List.set_cons_zero]
        refine held_done (by kernel_rfl) ?_
        simp only [Exit.then, Exit.inBlock]
        go_wp2
        go_roundw
        case rel => exact ⟨L + 1, ps ++ [(true, (h - 1) * 2 ^ L, h * 2 ^ L)], by go_num, by omega, by omega, ho6, HB2.trans hb6, HNX⟩
        case measure => simp [intOf]; omega
end Go.Proofs.YtdjglghecekeoaaGreatDoor.Q

/- The contracts of the developers' small calls: roots of right rows, both halves, places, sums of 32 bytes, the level of the last whole part. -/
namespace Go.Proofs.YtdjglghecekeoaaGreatDoor.Q
open Go.RowKit Go.Sort Go.Proofs.YtdjglghecekeoaaGreatDoor.U Go.Proofs.YtdjglghecekeoaaGreatDoor.R
set_option maxRecDepth 100000

theorem dRoot_any (l : List (List UInt8)) (w : World) (v : Value) (hn : l.length ≤ 4096) (hx : ∀ x ∈ l, x.length = 32) (hl : Strs w v l) (hT : Tab w) :
    Calls Tryz.prog 70 #[v] w fun e w' => e = .returned (.string (bytesOf (rt l))) ∧ Below w.heap.size w w' := by
  have h := root_any l w v (fun x h => by rw [hx x h]; unfold maxLen; omega) hl hT
  unfold rootA at h
  rw [if_pos (row_of hn hx)] at h
  have H := Lib.hid h
  clear h hl
  go_enter Tryz.func70, Tryz.ntmps70
  go_wp2_with (go_at_call 107; refine H.out.mono ?_; rintro e w1 ⟨rfl, hb1⟩)
  go_ret
  exact ⟨rfl, hb1⟩
theorem halves_any (p : Part) (x y : List UInt8) (w : World) :
    Calls Tryz.prog 109 #[.agg (partA p), .string (bytesOf x), .string (bytesOf y)] w fun e w' => e = .returned (.tuple #[.string (bytesOf (pairB p.1 x y).1), .string (bytesOf (pairB p.1 x y).2)]) ∧ Below w.heap.size w w' := by
  obtain ⟨b, f, t⟩ := p
  unfold partA
  cases b
  · go_enter Tryz.func109, Tryz.ntmps109
    go_wp2
    go_ret2
    exact ⟨rfl, (Below.refl _ _).alloc (Nat.le_refl _) _⟩
  · go_enter Tryz.func109, Tryz.ntmps109
    go_wp2
    go_ret2
    exact ⟨rfl, (Below.refl _ _).alloc (Nat.le_refl _) _⟩
theorem areSums_any (w : World) (v : Value) (l : List (List UInt8)) (hl : Strs w v l) (hx : ∀ x ∈ l, x.length ≤ maxLen) :
    Calls Tryz.prog 44 #[v] w fun e w' => e = .returned (.bool (allB l)) ∧ w = w' := by
  obtain ⟨a, c, rfl, hc, hm, hn, hcl⟩ := hl
  unfold maxLen at hm hx
  go_enter Tryz.func44, Tryz.ntmps44
  go_wp2
  go_loop [7] (fun i => ∃ k : Nat, k ≤ l.length ∧ i = .int .i64 k ∧ Hid (∀ x ∈ l.take k, x.length = 32)) (fun i => l.length - (intOf i).toNat)
  case atStart => exact ⟨0, Nat.zero_le _, rfl, Lib.hid (by simp)⟩
  case round =>
    obtain ⟨k, hk, rfl, HT⟩ := hrel
    by_cases hlt : k < l.length
    · obtain ⟨b, off, rfl, hcell⟩ := hcl (by intro h; subst h; simp at hlt)
      obtain ⟨x, hxk⟩ : ∃ x, l[k]? = some x := ⟨l[k], List.getElem?_eq_getElem hlt⟩
      have hxl := hx x (List.mem_of_getElem? hxk)
      have hc4 := hcell k x hxk
      unfold str at hc4
      have hsz : (({ data := x.toArray } : ByteArray).size : Int) = (x.length : Int) := by rw [str_size]
      by_cases h32 : x.length = 32
      · have hi : ((x.length : Int) != 32) = false := by simp; omega
        have HT2 : Hid (∀ y ∈ l.take (k + 1), y.length = 32) := Lib.hid (by
          intro y hy
          rw [List.take_add_one, hxk] at hy
          rcases List.mem_append.1 hy with h | h
          · exact HT.out y h
          · have : y = x := by simpa using h
            subst this
            exact h32)
        clear hxk hcell hcl
        go_wp2
        go_round
        case rel => exact ⟨k + 1, by omega, by go_num, HT2⟩
        case measure => simp [intOf]; omega
      · have hi : ((x.length : Int) != 32) = true := by simp; omega
        have HF : Hid (allB l = false) := Lib.hid (by
          cases h : allB l with
          | false => rfl
          | true => exact absurd (allB_mem h (List.mem_of_getElem? hxk)) h32)
        clear hxk hcell hcl
        go_wp2
        go_ret
        exact ⟨ret1_of (by rw [HF.out]; rfl), rfl⟩
    · have HA : Hid (allB l = true) := Lib.hid (by
        have h1 := HT.out
        rw [List.take_of_length_le (by omega)] at h1
        exact allB_of h1)
      go_wp2
      go_ret
      exact ⟨ret1_of (by rw [HA.out]; rfl), rfl⟩
end Go.Proofs.YtdjglghecekeoaaGreatDoor.Q

/- The contract of the developers' call that tells the roots of parts. -/
namespace Go.Proofs.YtdjglghecekeoaaGreatDoor.Q
open Go.RowKit Go.Sort Go.Proofs.YtdjglghecekeoaaGreatDoor.U Go.Proofs.YtdjglghecekeoaaGreatDoor.R
set_option maxRecDepth 100000

theorem cutL_32 {l : List (List UInt8)} (h : ∀ x ∈ l, x.length = 32) (a b : Nat) : ∀ x ∈ cutL l a b, x.length = 32 := fun x hx => h x (List.mem_of_mem_drop (List.mem_of_mem_take hx))
theorem cutL_length {α : Type} (l : List α) (a b : Nat) : (cutL l a b).length ≤ l.length := by unfold cutL; rw [List.length_take, List.length_drop]; omega
/-- as Go cuts it out -/
theorem strs_cut {w : World} {va : Option Addr} {n c : Nat} {l : List (List UInt8)} (h : Strs w (.slice va n c) l) {i j : Nat} (hi : i ≤ j) (hj : j ≤ l.length) : Strs w (.slice (if c = i then va else Option.map (fun x : Addr => x.add i) va) (j - i) (c - i)) (cutL l i j) := by
  cases va with
  | none =>
    have h2 := h
    obtain ⟨a, c', hv, hc, hm, hn, hl⟩ := h2
    injection hv with e1 e2 e3
    subst e1 e3
    have h0 : l = [] := by
      cases l with
      | nil => rfl
      | cons x l => obtain ⟨b, off, he, _⟩ := hl (by simp); cases he
    subst h0
    obtain rfl : j = 0 := Nat.le_zero.1 hj
    obtain rfl : i = 0 := by omega
    rw [Nat.sub_zero, Nat.sub_zero]
    have e : (if c = 0 then (none : Option Addr) else Option.map (fun x : Addr => x.add 0) none) = none := by split <;> rfl
    rw [e]
    exact ⟨none, c, rfl, Nat.zero_le _, hm, hn, fun h => absurd rfl h⟩
  | some a =>
    have h2 := h
    obtain ⟨a', c', hv, hc, hm, hn, hl⟩ := h2
    injection hv with e1 e2 e3
    subst e1 e3
    by_cases hl0 : l = []
    · subst hl0
      obtain rfl : j = 0 := Nat.le_zero.1 hj
      obtain rfl : i = 0 := by omega
      refine ⟨_, c - 0, rfl, Nat.zero_le _, by omega, fun h => ?_, fun h => absurd rfl h⟩
      split at h <;> cases h
    · obtain ⟨b, off, he, _⟩ := hl hl0
      injection he with he
      subst he
      have h3 := strs_part h hi hj
      by_cases hci : c = i
      · rw [if_pos hci]
        obtain rfl : i = j := by omega
        have e : cutL l i i = [] := by unfold cutL; rw [Nat.sub_self, List.take_zero]
        rw [e, Nat.sub_self]
        exact ⟨_, c - i, rfl, Nat.zero_le _, by omega, (fun h => by cases h), fun h => absurd rfl h⟩
      · rw [if_neg hci, Option.map_some, Addr.add_mid]
        exact h3
set_option maxHeartbeats 3200000 in
theorem roots_any (l : List (List UInt8)) (ps : List Part) (w0 : World) (v pv : Value) (hn : l.length ≤ 4096) (hx : ∀ x ∈ l, x.length = 32) (hs : Strs w0 v l) (hp : Prts w0 pv ps) (hpl : ps.length ≤ 1000) (hb : ∀ p ∈ ps, p.2.1 ≤ p.2.2 ∧ p.2.2 ≤ l.length) (hT : Tab w0) :
    Calls Tryz.prog 80 #[v, pv] w0 fun e w' => ∃ a c, e = .returned (.slice a (ps.map (rootP nd e0 l)).length c) ∧ Own w' w0.heap.size (.slice a (ps.map (rootP nd e0 l)).length c) (ps.map (rootP nd e0 l)) ∧ Below w0.heap.size w0 w' := by
  have HS := Lib.hid hs
  have HX := Lib.hid hx
  have HBd := Lib.hid hb
  have HT := Lib.hid hT
  obtain ⟨pa, pc, rfl, hc1, hc2, hcp⟩ := hp
  obtain ⟨va, vc, rfl, hv1, hv2, hv3, hv4⟩ := hs
  unfold maxLen at hc2 hv2
  clear hx hb hT hv3
  go_enter Tryz.func80, Tryz.ntmps80
  go_wp2
  go_loopw [5, 10] (fun av iv wr => ∃ (k : Nat) (a : Option Addr) (c : Nat), k ≤ ps.length ∧ iv = .int .i64 (k : Int) ∧ av = .slice a k c ∧ Own wr w0.heap.size (.slice a k c) ((ps.take k).map (rootP nd e0 l)) ∧ Below w0.heap.size w0 wr) (fun _ iv _ => ps.length - (intOf iv).toNat)
  case atStart => exact ⟨0, none, 0, Nat.zero_le _, rfl, rfl, .inl ⟨none, rfl, rfl⟩, Below.refl _ _⟩
  case round =>
    obtain ⟨k, lo, cL, hk, rfl, rfl, ho, hB⟩ := hrel
    by_cases hlt : k < ps.length
    · obtain ⟨b, rfl, hbl, hcell⟩ := hcp (by intro h; subst h; simp at hlt)
      obtain ⟨p, hpk⟩ : ∃ p, ps[k]? = some p := ⟨ps[k], List.getElem?_eq_getElem hlt⟩
      have hpb := HBd.out p (List.mem_of_getElem? hpk)
      obtain ⟨pb, pf, pt⟩ := p
      have hra := fun j u hj => (hB.cell (p := ⟨b, k * 3 + j, none⟩) hbl).trans (hcell k _ hpk j u hj)
      have r0 : wr.cell? ⟨b, k * 3, none⟩ = some (.bool pb) := hra 0 _ rfl
      have r1 : wr.cell? ⟨b, k * 3 + 1, none⟩ = some (.int .i64 (pf : Int)) := hra 1 _ rfl
      have r2 : wr.cell? ⟨b, k * 3 + 2, none⟩ = some (.int .i64 (pt : Int)) := hra 2 _ rfl
      clear hra hcell hcp
      have hf : pf ≤ pt := hpb.1
      have ht : pt ≤ l.length := hpb.2
      have ht2 : pt ≤ vc := by omega
      have hb2 : Below w0.heap.size w0 (wr.alloc (.cells #[.bool pb, .int .i64 (pf : Int), .int .i64 (pt : Int)] 147)) := hB.alloc hB.size _
      have hcut := strs_cut (HS.out.below hb2) hf ht
      obtain ⟨sv, hsv⟩ : ∃ sv, (if vc = pf then va else Option.map (fun x : Addr => x.add pf) va) = sv := ⟨_, rfl⟩
      rw [hsv] at hcut
      have HR := Lib.hid (dRoot_any (cutL l pf pt) (wr.alloc (.cells #[.bool pb, .int .i64 (pf : Int), .int .i64 (pt : Int)] 147)) _ (Nat.le_trans (cutL_length l pf pt) hn) (cutL_32 HX.out pf pt) hcut (HT.out.below hb2))
      have HNx : Hid ((ps.take (k + 1)).map (rootP nd e0 l) = (ps.take k).map (rootP nd e0 l) ++ [rt (cutL l pf pt)]) := Lib.hid (by rw [List.take_add_one, hpk, List.map_append]; rfl)
      have hsz := hB.size
      have hlen : ((ps.take k).map (rootP nd e0 l)).length = k := by rw [List.length_map, List.length_take]; omega
      generalize (ps.take k).map (rootP nd e0 l) = M at *
      clear hpk hcut
      have hO : ∀ w2, Below (wr.alloc (.cells #[.bool pb, .int .i64 (pf : Int), .int .i64 (pt : Int)] 147)).heap.size (wr.alloc (.cells #[.bool pb, .int .i64 (pf : Int), .int .i64 (pt : Int)] 147)) w2 → Own (w2.alloc (.cells #[.string (bytesOf (rt (cutL l pf pt)))] 9)) w0.heap.size (.slice lo k cL) M ∧ w0.heap.size ≤ (w2.alloc (.cells #[.string (bytesOf (rt (cutL l pf pt)))] 9)).heap.size := by
        intro w2 hb3
        refine ⟨((ho.on ((Below.refl _ _).alloc (Nat.le_refl _) _)).on hb3).on ((Below.refl _ _).alloc (Nat.le_refl _) _), ?_⟩
        have := hb3.size
        simp at this
        simp
        omega
      go_wp2_with (first
        | (go_at_call 70; refine HR.out.mono ?_; rintro e w2 ⟨rfl, hb3⟩)
        | ((with_reducible refine wpL_appendS w0.heap.size _ M k (rt (cutL l pf pt)) w2.heap.size hlen (hO w2 hb3).1 (Lies.new w2 _ _) (by omega) (hO w2 hb3).2 ?_ ?_ ?_); rfl; rfl; intro g6 c6 w6 ho6 hb6 hk6))
      go_roundw
      case rel => exact ⟨k + 1, some ⟨g6, 0, none⟩, c6, by omega, by go_num, rfl, by rw [HNx.out]; exact ho6, ((below_on hb2 hb3).alloc (by have := hb3.size; simp at this; omega) _).trans hb6⟩
      case measure => simp [intOf]; omega
    · obtain rfl : k = ps.length := by omega
      clear hcp
      go_wp2
      go_ret
      rw [List.take_length] at ho
      exact ⟨lo, cL, by rw [List.length_map]; rfl, by rw [List.length_map]; exact ho, hB⟩
end Go.Proofs.YtdjglghecekeoaaGreatDoor.Q

/- The level of the last whole part: the contract of the library's count of low zeros, up to 4096, and of the developers' call. -/
namespace Go.Proofs.YtdjglghecekeoaaGreatDoor.Q
open Go.RowKit Go.Sort Go.Proofs.YtdjglghecekeoaaGreatDoor.U Go.Proofs.YtdjglghecekeoaaGreatDoor.R
set_option maxRecDepth 100000

/-- what the library's table holds: at which place each remainder of its constant stands -/
def tzL : List Nat := (List.range 64).map fun i => ((List.range 64).find? fun t => 285870213051353865 * 2 ^ t % 18446744073709551616 / 288230376151711744 == i).getD 0
theorem tzL_length : tzL.length = 64 := by unfold tzL; rw [List.length_map, List.length_range]
def Tz (w : World) : Prop := ∀ i, i < 64 → w.cell? ⟨11, i, none⟩ = some (.int .u8 ((tzL.getD i 0 : Nat) : Int))
theorem Tz.lt {w : World} (h : Tz w) : 11 < w.heap.size := World.block_lt_of_cell? w _ (h 0 (by decide))
theorem Tz.below {w w' : World} (h : Tz w) (hb : Below w.heap.size w w') : Tz w' := fun i hi => (hb.cell (p := ⟨11, i, none⟩) h.lt).trans (h i hi)
def tzNeg (m : Nat) : Nat := 18446744073709551616 - m
theorem tzNeg_add {m : Nat} (h : m ≤ 4096) : tzNeg m + m = 18446744073709551616 := by unfold tzNeg; omega
def tzAt (m : Nat) : Nat := (m &&& tzNeg m) * 285870213051353865 % 18446744073709551616 / 288230376151711744
def tzB (m : Nat) : Bool := m == 0 || decide (tzL.getD (tzAt m) 0 = lev m)
theorem tz_all : (List.range 4097).all tzB = true := by kernel_rfl
theorem tz_lev {m : Nat} (h1 : 1 ≤ m) (h2 : m ≤ 4096) : tzL.getD (tzAt m) 0 = lev m := by
  have h := List.all_eq_true.1 tz_all m (List.mem_range.2 (by omega))
  unfold tzB at h
  simp only [Bool.or_eq_true, beq_iff_eq, decide_eq_true_eq] at h
  rcases h with h | h
  · omega
  · exact h
theorem wrapN (m : Nat) (h1 : 1 ≤ m) (h2 : m ≤ 4096) : IntKind.u64.wrap (-(m : Int)) = (tzNeg m : Int) := by
  have := tzNeg_add h2
  generalize tzNeg m = q at *
  rw [IntKind.wrap_u64]
  omega
def tzMul (r : Nat) : Nat := r * 285870213051353865 % 18446744073709551616
theorem wrapM (r : Nat) : IntKind.u64.wrap ((r : Int) * 285870213051353865) = (tzMul r : Int) := by
  unfold tzMul
  rw [IntKind.wrap_u64]
  omega
def tzShr (s : Nat) : Nat := s / 288230376151711744
theorem divD (s : Nat) : (s : Int) / 288230376151711744 = ((tzShr s : Nat) : Int) := by
  unfold tzShr
  omega
theorem tzAt_eq (m : Nat) : tzAt m = tzShr (tzMul (m &&& tzNeg m)) := by unfold tzAt tzShr tzMul; rfl
theorem tz_steps (m : Nat) (h1 : 1 ≤ m) (h2 : m ≤ 4096) : ∃ q r s : Nat, IntKind.u64.wrap (-(m : Int)) = (q : Int) ∧ Go.bits BinOp.and IntKind.u64 (m : Int) (q : Int) = (r : Int) ∧ IntKind.u64.wrap ((r : Int) * 285870213051353865) = (s : Int) ∧ (s : Int) / 288230376151711744 = ((tzAt m : Nat) : Int) := by
  have h3 := tzNeg_add h2
  exact ⟨tzNeg m, m &&& tzNeg m, tzMul (m &&& tzNeg m), wrapN m h1 h2, u64_and_nat m _ (by omega) (by omega), wrapM _, by rw [tzAt_eq]; exact divD _⟩
theorem tzAt_lt (m : Nat) : tzAt m < 64 := by unfold tzAt; omega
theorem lev_lt {m : Nat} (h1 : 1 ≤ m) (h2 : m ≤ 4096) : lev m ≤ 12 := pow_le_inv (Nat.le_trans (lev_le h1) (show m ≤ 2 ^ 12 by omega))

section
variable {a : Act} {d : Option Tmp} {x y : Operand} {t' : TypeId} {pos : String} {after : Array Edge} {gd : Option (Nat × Bool)} {r : TypeId}
theorem run_negC (m q : Nat) (hN : IntKind.u64.wrap (-(m : Int)) = (q : Int)) (hx : a.eval x = .int .u64 (m : Int)) (w : World) :
    (execOp a.eval ⟨d, .unOp .neg 54 x, t', pos, after, gd⟩).run Tryz.prog w = .ok (.value (.int .u64 (q : Int))) w := by
  unfold execOp
  simp only [hx]
  simp [go_sem, hN]
theorem run_andC (m q r : Nat) (hA : Go.bits BinOp.and IntKind.u64 (m : Int) (q : Int) = (r : Int)) (hx : a.eval x = .int .u64 (m : Int)) (hy : a.eval y = .int .u64 (q : Int)) (w : World) :
    (execOp a.eval ⟨d, .binOp .and 54 x y 54, t', pos, after, gd⟩).run Tryz.prog w = .ok (.value (.int .u64 (r : Int))) w := by
  unfold execOp
  simp only [hx, hy]
  simp [go_sem, hA]
theorem run_mulC (r s : Nat) (hM : IntKind.u64.wrap ((r : Int) * 285870213051353865) = (s : Int)) (hx : a.eval x = .int .u64 (r : Int)) (w : World) :
    (execOp a.eval ⟨d, .binOp .mul 54 x (.const (.int .u64 285870213051353865)) 54, t', pos, after, gd⟩).run Tryz.prog w = .ok (.value (.int .u64 (s : Int))) w := by
  have h2 : a.eval (.const (.int .u64 285870213051353865)) = .int .u64 285870213051353865 := rfl
  generalize (285870213051353865 : Int) = c at *
  unfold execOp
  simp only [hx, h2]
  simp [go_sem, hM]
theorem run_shrC (s i : Nat) (hD : (s : Int) / 288230376151711744 = (i : Int)) (hx : a.eval x = .int .u64 (s : Int)) (w : World) :
    (execOp a.eval ⟨d, .binOp .shr 54 x (.const (.int .u64 58)) r, t', pos, after, gd⟩).run Tryz.prog w = .ok (.value (.int .u64 (i : Int))) w := by
  have h2 : a.eval (.const (.int .u64 58)) = .int .u64 58 := rfl
  unfold execOp
  simp only [hx, h2]
  simp [go_sem, hD]
theorem run_idxC (g i : Nat) (hi : i < 64) (hx : a.eval x = .int .u64 (i : Int)) (w : World) :
    (execOp a.eval ⟨d, .indexAddr 199 (.global g) x, t', pos, after, gd⟩).run Tryz.prog w = .ok (.value (.pointer (some ⟨g, i, none⟩))) w := by
  have h2 : a.eval (.global g) = .pointer (some ⟨g, 0, none⟩) := rfl
  unfold execOp
  simp only [hx, h2]
  simp [Instr.indexAt, run_underlying Tryz.underlying199, go_sem]
  omega
theorem run_cvtC (j : Nat) (hj : j ≤ 12) (hx : a.eval x = .int .u8 (j : Int)) (w : World) :
    (execOp a.eval ⟨d, .convert 5 3 x, t', pos, after, gd⟩).run Tryz.prog w = .ok (.value (.int .i64 (j : Int))) w := by
  have h3 : IntKind.i64.wrap (j : Int) = (j : Int) := by rw [IntKind.wrap_i64]; omega
  unfold execOp
  simp only [hx]
  simp [convert, go_sem, h3]
theorem run_ld8 (p : Addr) (v : Value) (w : World) (hc : w.cell? p = some v) (hx : a.eval x = .pointer (some p)) :
    (execOp a.eval ⟨d, .load 5 x, t', pos, after, gd⟩).run Tryz.prog w = .ok (.value v) w := by
  unfold execOp
  simp only [hx]
  simp [Instr.loadAt, go_sem, hc]
end
set_option maxHeartbeats 1600000 in
theorem zeros64_any (m : Nat) (w : World) (h1 : 1 ≤ m) (h2 : m ≤ 4096) (hZ : Tz w) :
    Calls Tryz.prog 146 #[.int .u64 (m : Int)] w fun e w' => e = .returned (.int .i64 ((lev m : Nat) : Int)) ∧ w = w' := by
  have hc := hZ (tzAt m) (tzAt_lt m)
  rw [tz_lev h1 h2] at hc
  obtain ⟨q, r, s, hN, hA, hM, hD⟩ := tz_steps m (by omega) (by omega)
  have hi := tzAt_lt m
  have hl := lev_lt h1 h2
  have hne : ((m : Int) == 0) = false := by simp; omega
  generalize tzAt m = i at *
  generalize lev m = j at *
  have HN := Lib.hid hN
  have HA := Lib.hid hA
  have HM := Lib.hid hM
  have HD := Lib.hid hD
  clear hZ hN hA hM hD
  go_enter Tryz.func146, Tryz.ntmps146
  go_upto_region 3 with fail
  refine wp_region_lit ?_
  refine wpL_val (v := .int .u64 (m : Int)) rfl (rfl) ?_
  simp only [Act.put, List.setIfInBounds_toArray, List.set_cons_succ, List.set_cons_zero]
  refine wpL_val (v := .int .u64 (m : Int)) rfl (rfl) ?_
  simp only [Act.put, List.setIfInBounds_toArray, List.set_cons_succ, List.set_cons_zero]
  refine wpL_val (v := .int .u64 (q : Int)) rfl (run_negC m q HN.out rfl w) ?_
  simp only [Act.put, List.setIfInBounds_toArray, List.set_cons_succ, List.set_cons_zero]
  refine wpL_val (v := .int .u64 (r : Int)) rfl (run_andC m q r HA.out rfl rfl w) ?_
  simp only [Act.put, List.setIfInBounds_toArray, List.set_cons_succ, List.set_cons_zero]
  refine wpL_val (v := .int .u64 (s : Int)) rfl (run_mulC r s HM.out rfl w) ?_
  simp only [Act.put, List.setIfInBounds_toArray, List.set_cons_succ, List.set_cons_zero]
  refine wpL_val (v := .int .u64 (i : Int)) rfl (run_shrC s i HD.out rfl w) ?_
  simp only [Act.put, List.setIfInBounds_toArray, List.set_cons_succ, List.set_cons_zero]
  refine wpL_val (v := .pointer (some ⟨11, i, none⟩)) rfl (run_idxC _ i hi rfl w) ?_
  simp only [Act.put, List.setIfInBounds_toArray, List.set_cons_succ, List.set_cons_zero]
  refine wpL_val (v := .int .u8 (j : Int)) rfl (run_ld8 _ _ w hc rfl) ?_
  simp only [Act.put, List.setIfInBounds_toArray, List.set_cons_succ, List.set_cons_zero]
  refine wpL_val (v := .int .i64 (j : Int)) rfl (run_cvtC j hl rfl w) ?_
  simp only [Act.put, List.setIfInBounds_toArray, List.set_cons_succ, List.set_cons_zero]
  refine wpL_val (v := .int .i64 (j : Int)) rfl (rfl) ?_
  simp only [Act.put, List.setIfInBounds_toArray, List.set_cons_succ, List.set_cons_zero]
  go_wp2
  go_ret
  exact ⟨rfl, rfl⟩
theorem zeros_any (m : Nat) (w : World) (h1 : 1 ≤ m) (h2 : m ≤ 4096) (hZ : Tz w) :
    Calls Tryz.prog 117 #[.int .u64 (m : Int)] w fun e w' => e = .returned (.int .i64 ((lev m : Nat) : Int)) ∧ w = w' := by
  have H := Lib.hid (zeros64_any m w h1 h2 hZ)
  clear hZ
  go_enter Tryz.func117, Tryz.ntmps117
  go_wp2_with (go_at_call 146; refine H.out.mono ?_; rintro e w1 ⟨rfl, rfl⟩)
  go_ret
  exact ⟨rfl, rfl⟩
theorem run_eqlN {a : Act} {d : Option Tmp} {x y : Operand} {t' : TypeId} {pos : String} {after : Array Edge} {gd : Option (Nat × Bool)} {r : TypeId} (n m : Nat) (hx : a.eval x = .int .i64 (n : Int)) (hy : a.eval y = .int .i64 (m : Int)) (w : World) :
    (execOp a.eval ⟨d, .binOp .eql 3 x y r, t', pos, after, gd⟩).run Tryz.prog w = .ok (.value (.bool (decide (n = m)))) w := by
  have h3 : ((n : Int) == (m : Int)) = decide (n = m) := by
    by_cases h : n = m
    · subst h; simp
    · rw [decide_eq_false h]; simp; omega
  unfold execOp
  simp only [hx, hy]
  simp [go_sem, h3]
theorem level_any (m : Nat) (w : World) (h1 : 1 ≤ m) (h2 : m ≤ 4096) (hZ : Tz w) :
    Calls Tryz.prog 79 #[.int .i64 (m : Int)] w fun e w' => e = .returned (.tuple #[.int .i64 ((lev m : Nat) : Int), .bool (whole m)]) ∧ Below w.heap.size w w' := by
  have H := Lib.hid (zeros_any m w h1 h2 hZ)
  have hl := lev_lt h1 h2
  have hp : 1 * 2 ^ lev m ≤ 1000000000 := by have := lev_le h1; omega
  have HW : Hid (whole m = decide (m = 1 * 2 ^ lev m)) := Lib.hid (by rw [Nat.one_mul]; rfl)
  generalize whole m = W at *
  generalize lev m = j at *
  clear hZ
  go_enter Tryz.func79, Tryz.ntmps79
  go_upto_region 2 with (go_at_call 117; refine H.out.mono ?_; rintro e w1 ⟨rfl, rfl⟩)
  refine wp_held_any (S := fun _ => True) 7 rfl (by kernel_rfl) ?_
  refine held_put 0 7 (.int .i64 ((j : Nat) : Int)) rfl rfl (by kernel_rfl) (by kernel_rfl) (by kernel_rfl) (by kernel_rfl) (fun w hS => rfl) trivial ?_
  simp only [List.setIfInBounds_toArray, List.set_cons_succ, List.set_cons_zero]
  refine held_put 1 8 (.int .i64 ((m : Nat) : Int)) rfl rfl (by kernel_rfl) (by kernel_rfl) (by kernel_rfl) (by kernel_rfl) (fun w hS => rfl) trivial ?_
  simp only [List.setIfInBounds_toArray, List.set_cons_succ, List.set_cons_zero]
  refine held_put 2 9 (.int .i64 ((j : Nat) : Int)) rfl rfl (by kernel_rfl) (by kernel_rfl) (by kernel_rfl) (by kernel_rfl) (fun w hS => rfl) trivial ?_
  simp only [List.setIfInBounds_toArray, List.set_cons_succ, List.set_cons_zero]
  refine held_put 3 10 (.int .i64 ((1 * 2 ^ j : Nat) : Int)) rfl rfl (by kernel_rfl) (by kernel_rfl) (by kernel_rfl) (by kernel_rfl) (fun w hS => run_shlN 1 j _ rfl (by omega) hp rfl rfl w) trivial ?_
  simp only [List.setIfInBounds_toArray, List.set_cons_succ, List.set_cons_zero]
  refine held_put 4 11 (.bool (decide (m = 1 * 2 ^ j))) rfl rfl (by kernel_rfl) (by kernel_rfl) (by kernel_rfl) (by kernel_rfl) (fun w hS => run_eqlN m _ rfl rfl w) trivial ?_
  simp only [List.setIfInBounds_toArray, List.set_cons_succ, List.set_cons_zero]
  refine held_put 5 2 (.int .i64 ((j : Nat) : Int)) rfl rfl (by kernel_rfl) (by kernel_rfl) (by kernel_rfl) (by kernel_rfl) (fun w hS => rfl) trivial ?_
  simp only [List.setIfInBounds_toArray, List.set_cons_succ, List.set_cons_zero]
  refine held_put 6 3 (.bool (decide (m = 1 * 2 ^ j))) rfl rfl (by kernel_rfl) (by kernel_rfl) (by kernel_rfl) (by kernel_rfl) (fun w hS => rfl) trivial ?_
  simp only [List.setIfInBounds_toArray, List.set_cons_succ, List.set_cons_zero]
  refine held_done (by kernel_rfl) ?_
  simp only [Exit.then]
  have WDB : Below w.heap.size w { w with drawn := w.drawn + 1 } := (Below.refl _ _).drew
  generalize ({ w with drawn := w.drawn + 1 } : World) = wd at *
  go_wp2
  go_ret2
  exact ⟨by rw [HW.out]; rfl, WDB⟩
end Go.Proofs.YtdjglghecekeoaaGreatDoor.Q

/- What the program's five calls of proofs answer, as a bundle of contracts; the statements' own 'alive'. -/
namespace Go.Proofs.YtdjglghecekeoaaGreatDoor.Q
open Go.RowKit Go.Sort Go.Proofs.YtdjglghecekeoaaGreatDoor.U Go.Proofs.YtdjglghecekeoaaGreatDoor.R
set_option maxRecDepth 100000

/-! ### what is answered -/
def stepOkB (l : List (List UInt8)) (m : Int) : Bool := rowB l && decide (0 ≤ m) && decide (m ≤ (l.length : Int))
def stepA (l : List (List UInt8)) (m : Int) : List (List UInt8) := if stepOkB l m = true ∧ 0 < m then (stepT nd e0 l m.toNat true).reverse else []
def stepE (l : List (List UInt8)) (m : Int) : Int := if stepOkB l m = true then 0 else 1
def followsOkB (m n : Int) (old root : List UInt8) (ps : List (List UInt8)) : Bool := decide (0 ≤ m) && decide (m ≤ n) && decide (n ≤ 4096) && decide (old.length = 32) && decide (root.length = 32) && allB ps
def followsE (m n : Int) (old root : List UInt8) (ps : List (List UInt8)) : Int := if followsOkB m n old root ps = true then (if m = 0 then (if ps = [] ∧ old = e0 then 0 else 13) else if oldS nd old ps.reverse m.toNat n.toNat true = some old ∧ newS nd old ps.reverse m.toNat n.toNat true = some root then 0 else 13) else 1
end Go.Proofs.YtdjglghecekeoaaGreatDoor.Q

/- The step from the first leaves, of 1 or more but not all: the contract of the developers' call. -/
namespace Go.Proofs.YtdjglghecekeoaaGreatDoor.Q
open Go.RowKit Go.Sort Go.Proofs.YtdjglghecekeoaaGreatDoor.U Go.Proofs.YtdjglghecekeoaaGreatDoor.R
set_option maxRecDepth 100000

/-- 'append(x, v...)' of some texts, where the call owns x, or x is nothing -/
theorem wpL_joinA {ops : Array Oper} {rest : List Oper} {a : Act} {w : World} {Q : Exit → Act → World → Prop} {t' : TypeId} {pos : String} {after : Array Edge} {d : Option Tmp} {x y : Tmp}
    (B : Nat) (v0 : Value) (qs : List (List UInt8)) (hown0 : w.ownsRow B 9 1 v0 qs.length (qs.map str)) (hB : B ≤ w.heap.size)
    (a' : Option Addr) (c' : Nat) (ps : List (List UInt8)) (hv : Strs w (.slice a' ps.length c') ps) (h0 : ps ≠ []) (hps : ps.length ≤ 100000) (hqs : qs.length ≤ 100000)
    (hs : a.eval (.tmp x) = v0) (hx : a.eval (.tmp y) = .slice a' ps.length c')
    (h : ∀ g2 c2 w', Own w' B (.slice (some ⟨g2, 0, none⟩) (qs.length + ps.length) c2) (qs ++ ps) → Below B w w' → wpList Tryz.prog ops Q rest (a.put d (.slice (some ⟨g2, 0, none⟩) (qs.length + ps.length) c2)) w') :
    wpList Tryz.prog ops Q (⟨d, .call { callee := .builtin .append, args := #[.tmp x, .tmp y], argTypes := #[43, 43] }, t', pos, after, none⟩ :: rest) a w := by
  obtain ⟨i0, hi, hz0, hz1, hz2⟩ := info_parts infoStr
  have hv2 := hv
  obtain ⟨a1, c1, hvv, hc, hm, hna, hcl⟩ := hv2
  injection hvv with e1 e2 e3
  subst e1 e3
  obtain ⟨b, off, rfl, hcell⟩ := hcl h0
  have hpos := List.length_pos_iff.2 h0
  refine wpList_append_own _ rfl _ _ 43 (by rfl) B 9 i0 _ 1 16 Tryz.underlying43 hi hz0 hz1 hz2 rfl (by omega) v0 qs.length (qs.map str) hs hown0 ⟨b, off, none⟩ ps.length c' (ps.map str) hx (by simp) (by
    intro j u hj
    rw [List.getElem?_map] at hj
    obtain ⟨z, hzj, rfl⟩ := Option.map_eq_some_iff.1 hj
    rw [Addr.add_mid]
    exact hcell j z hzj) (by intro u hu; obtain ⟨z, _, rfl⟩ := List.mem_map.1 hu; rfl) (by unfold maxLen; omega) (by omega) hB ?_
  intro v' w1 hown1 hgrow1 hnil1
  rw [← List.map_append] at hown1
  have hbel : Below B w w1 := (Below.refl _ _).mono hB |>.grown hgrow1 hB (fun j hj => (hown0.lt j hj).1)
  rcases hown1.2 with ⟨rfl, e⟩ | ⟨g, cap, cur, rfl, _⟩
  · omega
  · exact h g cap w1 (.inr ⟨g, cap, by rw [List.length_append], by rw [List.length_append]; exact hown1⟩) hbel
theorem own_row {w : World} {B g n c : Nat} {ps : List (List UInt8)} (h : Own w B (.slice (some ⟨g, 0, none⟩) n c) ps) (h0 : ps ≠ []) (hn : ps.length = n) : w.ownsRow B 9 1 (.slice (some ⟨g, 0, none⟩) n c) ps.length (ps.map str) := by
  rcases h with ⟨a, hv, he⟩ | ⟨gp, cap, hv, ho⟩
  · exact absurd he h0
  · subst hn; exact ho
theorem run_sub2 {a : Act} {d : Option Tmp} {x y : Operand} {t' : TypeId} {pos : String} {after : Array Edge} {gd : Option (Nat × Bool)} {r : TypeId} (n k : Nat) (hk : k ≤ n) (hn : n ≤ 1000000000) (hx : a.eval x = .int .i64 (n : Int)) (hy : a.eval y = .int .i64 (k : Int)) (w : World) :
    (execOp a.eval ⟨d, .binOp .sub 3 x y r, t', pos, after, gd⟩).run Tryz.prog w = .ok (.value (.int .i64 ((n - k : Nat) : Int))) w := by
  have h3 : IntKind.i64.wrap ((n : Int) - (k : Int)) = ((n - k : Nat) : Int) := by rw [IntKind.wrap_i64]; omega
  unfold execOp
  simp only [hx, hy]
  simp [go_sem, h3]
theorem parts_some {m n : Nat} (h1 : 1 ≤ m) (h2 : m < n) : prt ((m - 1) / 2 ^ lev m) ((n - 1) / 2 ^ lev m) (lev m) n ≠ [] := by
  obtain ⟨e1, e2⟩ := lev_mul h1
  have hlt : (m - 1) / 2 ^ lev m < (n - 1) / 2 ^ lev m := by
    have h3 : (m - 1) / 2 ^ lev m + 1 ≤ (n - 1) / 2 ^ lev m := by
      rw [Nat.le_div_iff_mul_le (Nat.pow_pos (by decide)), ← e1]
      omega
    omega
  rw [prt_even e2 hlt]
  simp
theorem parts_le {m n : Nat} (h1 : 1 ≤ m) (h2 : m < n) (hn : n ≤ 4096) : (prt ((m - 1) / 2 ^ lev m) ((n - 1) / 2 ^ lev m) (lev m) n).length ≤ 12 ∧ ∀ p ∈ prt ((m - 1) / 2 ^ lev m) ((n - 1) / 2 ^ lev m) (lev m) n, p.2.1 ≤ p.2.2 ∧ p.2.2 ≤ n :=
  ⟨prt_length 12 _ _ _ _ (Nat.lt_of_le_of_lt (Nat.div_le_self _ _) (by omega)), prt_le _ _ _ _ _ (Nat.le_refl _) (Nat.div_le_div_right (by omega)) (by have := Nat.div_mul_le_self (n - 1) (2 ^ lev m); omega)⟩

set_option maxHeartbeats 3200000 in
theorem stepFrom_any (l : List (List UInt8)) (m : Nat) (w0 : World) (v : Value) (hn : l.length ≤ 4096) (hx : ∀ x ∈ l, x.length = 32) (hm1 : 1 ≤ m) (hm2 : m < l.length) (hs : Strs w0 v l) (hT : Tab w0) (hZ : Tz w0) :
    Calls Tryz.prog 51 #[.int .i64 (m : Int), v] w0 fun e w' => ∃ a c, e = .returned (.slice a (stepT nd e0 l m true).reverse.length c) ∧ Strs w' (.slice a (stepT nd e0 l m true).reverse.length c) (stepT nd e0 l m true).reverse ∧ Below w0.heap.size w0 w' := by
  have hst := step_parts nd e0 l.length l m true (Nat.le_refl _) hm1 (.inl hm2)
  have hpne := parts_some hm1 hm2
  obtain ⟨hp12, hpb⟩ := parts_le hm1 hm2 hn
  have hl12 := lev_lt hm1 (by omega)
  have hll := lev_le hm1
  have HLv := Lib.hid (level_any m w0 hm1 (by omega) hZ)
  have hb0 := fun w => beside_any (m - 1) (lev m) l.length w (by omega) hn hl12
  rw [hst]
  clear hst
  generalize prt ((m - 1) / 2 ^ lev m) ((l.length - 1) / 2 ^ lev m) (lev m) l.length = PS at *
  have HBs := Lib.hid hb0
  rw [show ((m - 1 : Nat) : Int) = (m : Int) - 1 by omega] at HBs
  have HR := Lib.hid (fun w1 pv (hB : Below w0.heap.size w0 w1) (hp : Prts w1 pv PS) => roots_any l PS w1 v pv hn hx (hs.below hB) hp (by omega) hpb (hT.below hB))
  have hrne : PS.map (rootP nd e0 l) ≠ [] := by simpa using hpne
  have hrl : (PS.map (rootP nd e0 l)).length ≤ 12 := by rw [List.length_map]; exact hp12
  have HS := Lib.hid hs
  have HX := Lib.hid hx
  have HT := Lib.hid hT
  obtain ⟨va, vc, rfl, hv1, hv2, hv3, hv4⟩ := hs
  unfold maxLen at hv2
  unfold headS
  clear hb0 hx hT hZ hv3 hv4 hpb hpne
  cases hw : whole m with
  | true =>
    rw [if_pos ⟨rfl, rfl⟩, List.nil_append]
    rw [hw] at HLv
    clear hw
    generalize PS.map (rootP nd e0 l) = RS at *
    generalize lev m = j at *
    have HN0 := fun (w : World) => (show w.ownsRow w0.heap.size 9 1 (.slice none 0 0) ([] : List (List UInt8)).length (([] : List (List UInt8)).map str) from ⟨rfl, .inl ⟨rfl, rfl⟩⟩)
    clear hll
    go_enter Tryz.func51, Tryz.ntmps51
    go_wp2_with (first
      | (go_at_call 79; refine HLv.out.mono ?_; rintro e w1 ⟨rfl, hb1⟩)
      | (go_at_call 81; refine (HBs.out _).mono ?_; rintro e w2 ⟨pv, rfl, ho2, hb2⟩; have hB2 := below_on hb1 hb2)
      | (go_at_call 80; refine (HR.out _ _ hB2 (own_prts ho2)).mono ?_; rintro e w3 ⟨a3, c3, rfl, ho3, hb3⟩; have hB3 := below_on hB2 hb3)
      | ((with_reducible refine wpL_joinA w0.heap.size (.slice none 0 0) [] (HN0 w3) hB3.size a3 c3 RS ho3.strs hrne (by omega) (by decide) ?_ ?_ ?_); rfl; rfl; intro g4 c4 w4 ho4 hb4))
    go_ret
    rw [List.nil_append, List.length_nil, Nat.zero_add] at ho4
    exact ⟨some ⟨g4, 0, none⟩, c4, rfl, ho4.strs, hB3.trans hb4⟩
  | false =>
    rw [if_neg (by simp)]
    rw [hw] at HLv
    clear hw
    have hml : m ≤ l.length := by omega
    have hmv : m ≤ vc := by omega
    generalize PS.map (rootP nd e0 l) = RS at *
    generalize lev m = j at *
    obtain ⟨lo, hlo⟩ : ∃ lo, m - 2 ^ j = lo := ⟨_, rfl⟩
    rw [hlo]
    have hlm : lo ≤ m := by rw [← hlo]; exact Nat.sub_le _ _
    have hvl : ¬ vc = lo := by omega
    have HO0 := fun (w : World) => (show Own w w0.heap.size (.slice none 0 0) [] from .inl ⟨none, rfl, rfl⟩)
    have hcut := fun w1 (hB : Below w0.heap.size w0 w1) => strs_cut (HS.out.below hB) hlm hml
    simp only [if_neg hvl] at hcut
    obtain ⟨sv, hsv⟩ : ∃ sv, Option.map (fun x : Addr => x.add lo) va = sv := ⟨_, rfl⟩
    simp only [hsv] at hcut
    have hc32 := cutL_32 HX.out lo m
    have HRt := Lib.hid (fun w1 (hB : Below w0.heap.size w0 w1) => dRoot_any (cutL l lo m) w1 _ (Nat.le_trans (cutL_length l lo m) hn) hc32 (hcut w1 hB) (HT.out.below hB))
    have hj1 : 1 * 2 ^ j ≤ 1000000000 := by rw [Nat.one_mul]; exact Nat.le_trans hll (by omega)
    have hj2 : 1 * 2 ^ j ≤ m := by rw [Nat.one_mul]; exact hll
    have hq : m - 1 * 2 ^ j = lo := by rw [Nat.one_mul]; exact hlo
    have HJ1 := Lib.hid hj1
    have HJ2 := Lib.hid hj2
    have HQ := Lib.hid hq
    have hm9 : m ≤ 1000000000 := by omega
    have hrt : rt (cutL l lo m) = rootL nd e0 (cutL l lo m) := rfl
    rw [← hrt]
    generalize rt (cutL l lo m) = X at *
    clear hcut hc32 hrt hj1 hj2 hq hlo hll
    go_enter Tryz.func51, Tryz.ntmps51
    go_upto_region 4 with (go_at_call 79; refine HLv.out.mono ?_; rintro e w1 ⟨rfl, hb1⟩)
    refine wp_region_lit ?_
    refine wpL_val (v := .slice none 0 0) rfl (rfl) ?_
    simp only [Act.put, List.setIfInBounds_toArray, List.set_cons_succ, List.set_cons_zero]
    refine wpL_val (v := .slice va l.length vc) rfl (rfl) ?_
    simp only [Act.put, List.setIfInBounds_toArray, List.set_cons_succ, List.set_cons_zero]
    refine wpL_val (v := .int .i64 (m : Int)) rfl (rfl) ?_
    simp only [Act.put, List.setIfInBounds_toArray, List.set_cons_succ, List.set_cons_zero]
    refine wpL_val (v := .int .i64 (j : Int)) rfl (rfl) ?_
    simp only [Act.put, List.setIfInBounds_toArray, List.set_cons_succ, List.set_cons_zero]
    refine wpL_val (v := .int .i64 ((1 * 2 ^ j : Nat) : Int)) rfl (run_shlN 1 j _ rfl (by omega) HJ1.out rfl rfl w1) ?_
    simp only [Act.put, List.setIfInBounds_toArray, List.set_cons_succ, List.set_cons_zero]
    refine wpL_val (v := .int .i64 ((m - 1 * 2 ^ j : Nat) : Int)) rfl (run_sub2 m _ HJ2.out hm9 rfl rfl w1) ?_
    simp only [Act.put, List.setIfInBounds_toArray, List.set_cons_succ, List.set_cons_zero]
    rw [HQ.out]
    generalize ((1 * 2 ^ j : Nat) : Int) = z1
    have HRX := Lib.hid (HRt.out w1 hb1)
    have hq1 : (([] : List (List UInt8)) ++ [X]).length ≤ 100000 := by simp
    have hsz1 := hb1.size
    go_wp2_with (first
      | (go_at_call 70; refine HRX.out.mono ?_; rintro e w2 ⟨rfl, hb2⟩; have hB2 := below_on hb1 hb2; have hsz2 := hB2.size)
      | ((with_reducible refine wpL_appendS w0.heap.size (.slice none 0 0) [] 0 X w2.heap.size rfl (HO0 _) (Lies.new w2 _ _) (by decide) (by simp; omega) ?_ ?_ ?_); rfl; rfl; intro g3 c3 w3 ho3 hb3 hk3; have hB3 := (hB2.alloc hsz2 (.cells #[.string (bytesOf X)] 9)).trans hb3)
      | (go_at_call 81; refine (HBs.out _).mono ?_; rintro e w4 ⟨pv, rfl, ho4, hb4⟩; have hB4 := below_on hB3 hb4)
      | (go_at_call 80; refine (HR.out _ _ hB4 (own_prts ho4)).mono ?_; rintro e w5 ⟨a5, c5, rfl, ho5, hb5⟩; have hB5 := below_on hB4 hb5; have ho6 := own_row ((ho3.on hb4).on hb5) (by simp) rfl)
      | ((with_reducible refine wpL_joinA w0.heap.size (.slice (some ⟨g3, 0, none⟩) (0 + 1) c3) ([] ++ [X]) ho6 hB5.size a5 c5 RS ho5.strs hrne (by omega) hq1 ?_ ?_ ?_); rfl; rfl; intro g7 c7 w7 ho7 hb7))
    go_ret
    have e1 : (([] : List (List UInt8)) ++ [X]).length + RS.length = RS.length + 1 := by simp; omega
    rw [e1] at ho7
    exact ⟨some ⟨g7, 0, none⟩, c7, by first | rfl | (rw [Nat.add_comm RS.length 1]; rfl), ho7.strs, hB5.trans hb7⟩
end Go.Proofs.YtdjglghecekeoaaGreatDoor.Q

/- What a path makes: the contract of the developers' call. -/
namespace Go.Proofs.YtdjglghecekeoaaGreatDoor.Q
open Go.RowKit Go.Sort Go.Proofs.YtdjglghecekeoaaGreatDoor.U Go.Proofs.YtdjglghecekeoaaGreatDoor.R
set_option maxRecDepth 100000

section
variable {α : Type} (nd : α → α → α)
/-- what sums make, the lowest first, of as many sides -/
def upR : α → List Bool → List α → α
  | x, b :: bs, p :: ps => upR (nodeB nd b x p) bs ps
  | x, _, _ => x
theorem mkUp_R : ∀ (bs : List Bool) (ps : List α) (x : α), mkUp nd x bs ps = if ps.length = bs.length then some (upR nd x bs ps) else none := by
  intro bs
  induction bs with
  | nil =>
    intro ps x
    cases ps with
    | nil => rfl
    | cons p ps => rw [if_neg (by simp)]; rfl
  | cons b bs ih =>
    intro ps x
    cases ps with
    | nil => rw [if_neg (by simp)]; rfl
    | cons p ps =>
      rw [mkUp_cons, ih]
      by_cases h : ps.length = bs.length
      · rw [if_pos h, if_pos (by simp [h])]; rfl
      · rw [if_neg h, if_neg (by simpa using h)]
theorem upR_snoc : ∀ (bs : List Bool) (ps : List α) (x p : α) (b : Bool), ps.length = bs.length → upR nd x (bs ++ [b]) (ps ++ [p]) = nodeB nd b (upR nd x bs ps) p := by
  intro bs
  induction bs with
  | nil =>
    intro ps x p b h
    obtain rfl := List.eq_nil_of_length_eq_zero h
    rfl
  | cons c bs ih =>
    intro ps x p b h
    cases ps with
    | nil => cases h
    | cons q ps => exact ih ps _ p b (by simpa using h)
end
theorem upR_32 {x : List UInt8} (hx : x.length = 32) : ∀ (bs : List Bool) (ps : List (List UInt8)), (upR nd x bs ps).length = 32 := by
  intro bs
  induction bs generalizing x with
  | nil => intro ps; cases ps <;> exact hx
  | cons b bs ih =>
    intro ps
    cases ps with
    | nil => exact hx
    | cons p ps => exact ih (x := nodeB nd b x p) (by unfold nodeB; split <;> exact nd_length _ _) ps
theorem pair_node (b : Bool) (x p : List UInt8) : nd (pairB b x p).1 (pairB b x p).2 = nodeB nd b x p := by cases b <;> rfl
theorem pair_32 (b : Bool) {x p : List UInt8} (hx : x.length = 32) (hp : p.length = 32) : (pairB b x p).1.length = 32 ∧ (pairB b x p).2.length = 32 := by cases b <;> exact ⟨by assumption, by assumption⟩
theorem take_next {α : Type} {l : List α} {k : Nat} {x : α} (h : l[k]? = some x) : l.take (k + 1) = l.take k ++ [x] := by rw [List.take_add_one, h]; rfl

end Go.Proofs.YtdjglghecekeoaaGreatDoor.Q

/- What a step makes, from the first leaves, of 1 or more but not all: the contract of the developers' call. -/
namespace Go.Proofs.YtdjglghecekeoaaGreatDoor.Q
open Go.RowKit Go.Sort Go.Proofs.YtdjglghecekeoaaGreatDoor.U Go.Proofs.YtdjglghecekeoaaGreatDoor.R
set_option maxRecDepth 100000

section
variable {α : Type} (nd : α → α → α)
/-- the old one, of as many sides -/
def oldR : α → List Bool → List α → α
  | x, b :: bs, p :: ps => oldR (nodeO nd b x p) bs ps
  | x, _, _ => x
theorem mkOld_cons (x p : α) (b : Bool) (bs : List Bool) (ps : List α) : mkOld nd x (b :: bs) (p :: ps) = mkOld nd (nodeO nd b x p) bs ps := rfl
theorem mkOld_R : ∀ (bs : List Bool) (ps : List α) (x : α), mkOld nd x bs ps = if ps.length = bs.length then some (oldR nd x bs ps) else none := by
  intro bs
  induction bs with
  | nil =>
    intro ps x
    cases ps with
    | nil => rfl
    | cons p ps => rw [if_neg (by simp)]; rfl
  | cons b bs ih =>
    intro ps x
    cases ps with
    | nil => rw [if_neg (by simp)]; rfl
    | cons p ps =>
      rw [mkOld_cons, ih]
      by_cases h : ps.length = bs.length
      · rw [if_pos h, if_pos (by simp [h])]; rfl
      · rw [if_neg h, if_neg (by simpa using h)]
theorem oldR_snoc : ∀ (bs : List Bool) (ps : List α) (x p : α) (b : Bool), ps.length = bs.length → oldR nd x (bs ++ [b]) (ps ++ [p]) = nodeO nd b (oldR nd x bs ps) p := by
  intro bs
  induction bs with
  | nil =>
    intro ps x p b h
    obtain rfl := List.eq_nil_of_length_eq_zero h
    rfl
  | cons c bs ih =>
    intro ps x p b h
    cases ps with
    | nil => cases h
    | cons q ps => exact ih ps _ p b (by simpa using h)
/-- both, from where the step begins -/
def smOf (x : α) (bs : List Bool) (ps : List α) : Option (α × α) := if ps.length = bs.length then some (oldR nd x bs ps, upR nd x bs ps) else none
def smR (old : α) (m n : Nat) (ps : List α) : Option (α × α) :=
  if whole m = true then smOf nd old (bits ((m - 1) / 2 ^ lev m) ((n - 1) / 2 ^ lev m)) ps else match ps with
    | [] => none
    | x :: r => smOf nd x (bits ((m - 1) / 2 ^ lev m) ((n - 1) / 2 ^ lev m)) r
theorem smOf_both (x : α) (bs : List Bool) (ps : List α) : (mkOld nd x bs ps).bind (fun a => (mkUp nd x bs ps).map (fun b => (a, b))) = smOf nd x bs ps := by
  unfold smOf
  rw [mkOld_R, mkUp_R]
  by_cases h : ps.length = bs.length
  · rw [if_pos h, if_pos h, if_pos h]; rfl
  · simp only [if_neg h]; rfl
/-- as the chapter says -/
theorem sm_is (old : α) (m n : Nat) (ps : List α) (h1 : 1 ≤ m) (h2 : m < n) : (oldS nd old ps.reverse m n true).bind (fun a => (newS nd old ps.reverse m n true).map (fun b => (a, b))) = smR nd old m n ps := by
  obtain ⟨e1, e2⟩ := sd_parts h1 h2
  have e3 : bits ((m - 1) / 2 ^ lev m) ((n - 1) / 2 ^ lev m) = (sdT m n).reverse := by
    rw [e1, prt_sides _ _ _ _ _ (Nat.le_refl _) (Nat.div_le_div_right (by omega))]
  unfold smR
  rw [oldS_up nd _ _ _ _ _ h1 (by omega), newS_up nd _ _ _ _ _ h1 (by omega), List.reverse_reverse, e3]
  by_cases hw : whole m = true
  · rw [if_pos ⟨rfl, e2.2 hw⟩, if_pos ⟨rfl, e2.2 hw⟩, if_pos hw]
    exact smOf_both nd _ _ _
  · rw [if_neg (fun h => hw (e2.1 h.2)), if_neg (fun h => hw (e2.1 h.2)), if_neg hw]
    cases ps with
    | nil => rfl
    | cons x r => exact smOf_both nd _ _ _
end
theorem oldR_32 {x : List UInt8} (hx : x.length = 32) : ∀ (bs : List Bool) (ps : List (List UInt8)), (oldR nd x bs ps).length = 32 := by
  intro bs
  induction bs generalizing x with
  | nil => intro ps; cases ps <;> exact hx
  | cons b bs ih =>
    intro ps
    cases ps with
    | nil => exact hx
    | cons p ps => exact ih (x := nodeO nd b x p) (by unfold nodeO; split; exact nd_length _ _; exact hx) ps
/-- what is handed back -/
def smV : Option (List UInt8 × List UInt8) → Array Value
  | some (u, v) => #[.string (bytesOf u), .string (bytesOf v), .bool true]
  | none => #[.string { data := #[] }, .string { data := #[] }, .bool false]
section
variable {a : Act} {d : Option Tmp} {x y : Operand} {t' : TypeId} {pos : String} {after : Array Edge} {gd : Option (Nat × Bool)} {r : TypeId}
theorem run_idx0 (b off n c : Nat) (hk : 0 < n) (hx : a.eval x = .slice (some ⟨b, off, none⟩) n c) (w : World) :
    (execOp a.eval ⟨d, .indexAddr 43 x (.const (.int .i64 0)), t', pos, after, gd⟩).run Tryz.prog w = .ok (.value (.pointer (some ⟨b, off + 0, none⟩))) w := run_idxS b off n c 0 hk hx rfl w
theorem run_rest (b off n c : Nat) (hn : 0 < n) (hc : n ≤ c) (hx : a.eval x = .slice (some ⟨b, off, none⟩) n c) (w : World) :
    (execOp a.eval ⟨d, .slice 43 x (some (.const (.int .i64 1))) none none, t', pos, after, gd⟩).run Tryz.prog w = .ok (.value (.slice (if c = 1 then some ⟨b, off, none⟩ else some ⟨b, off + 1, none⟩) (n - 1) (c - 1))) w := by
  have h1 : a.eval (.const (.int .i64 1)) = .int .i64 1 := rfl
  have h2 : (1 : Int) ≤ (n : Int) := by omega
  have h3 : (n : Int) ≤ (c : Int) := by omega
  unfold execOp
  simp only [hx, h1, Option.map_some, Option.map_none]
  simp [Instr.sliceAt, run_underlying Tryz.underlying43, go_sem]
  intro h
  omega
theorem run_rest2 (b off n c m : Nat) (hn : n = m + 1) (hc : n ≤ c) (hc1 : c ≠ 1) (hx : a.eval x = .slice (some ⟨b, off, none⟩) n c) (w : World) :
    (execOp a.eval ⟨d, .slice 43 x (some (.const (.int .i64 1))) none none, t', pos, after, gd⟩).run Tryz.prog w = .ok (.value (.slice (some ⟨b, off + 1, none⟩) m (c - 1))) w := by
  rw [run_rest b off n c (by omega) hc hx w, if_neg hc1, show n - 1 = m by omega]
end

set_option maxHeartbeats 3200000 in
theorem stepMakes_all (m n : Nat) (old : List UInt8) (rs : List (List UInt8)) (w0 : World) (v : Value) (h1 : 1 ≤ m) (h2 : m < n) (hn : n ≤ 4096) (hx : old.length = 32) (hp : ∀ y ∈ rs, y.length = 32) (hlen : rs.length = (bits ((m - 1) / 2 ^ lev m) ((n - 1) / 2 ^ lev m)).length) (hw : whole m = true) (hs : Strs w0 v (rs)) (hT : Tab w0) (hZ : Tz w0) :
    Calls Tryz.prog 71 #[.int .i64 (m : Int), .int .i64 (n : Int), .string (bytesOf old), v] w0 fun e w' => e = .returned (.tuple #[.string (bytesOf (oldR nd old (bits ((m - 1) / 2 ^ lev m) ((n - 1) / 2 ^ lev m)) rs)), .string (bytesOf (upR nd old (bits ((m - 1) / 2 ^ lev m) ((n - 1) / 2 ^ lev m)) rs)), .bool true]) ∧ Below w0.heap.size w0 w' := by
  have hl12 := lev_lt h1 (by omega)
  have HLv := Lib.hid (level_any m w0 h1 (by omega) hZ)
  rw [hw] at HLv
  have hb0 := fun w => beside_any (m - 1) (lev m) n w (by omega) hn hl12
  have hsides := prt_sides ((n - 1) / 2 ^ lev m) ((m - 1) / 2 ^ lev m) ((n - 1) / 2 ^ lev m) (lev m) n (Nat.le_refl _) (Nat.div_le_div_right (by omega))
  have hpl := (parts_le h1 h2 hn).1
  have hpne := parts_some h1 h2
  rw [← hsides] at hlen ⊢
  generalize prt ((m - 1) / 2 ^ lev m) ((n - 1) / 2 ^ lev m) (lev m) n = PS at *
  rw [List.length_map] at hlen
  have HBs := Lib.hid hb0
  rw [show ((m - 1 : Nat) : Int) = (m : Int) - 1 by omega] at HBs
  generalize lev m = j at *
  have HX : Hid (old.length = 32) := Lib.hid (hx)
  have HP : Hid (∀ y ∈ rs, y.length = 32) := Lib.hid (hp)
  have HT := Lib.hid hT
  obtain ⟨va, vc, rfl, hv1, hv2, hv3, hv4⟩ := hs
  unfold maxLen at hv2
  have hne : rs ≠ [] := by intro h; subst h; exact hpne (List.eq_nil_of_length_eq_zero hlen.symm)
  obtain ⟨vb, off, rfl, hc⟩ := hv4 hne
  have HC := Lib.hid hc
  clear hv4 hc hne hpne
  clear hb0 hsides hx hp hT hZ hv3 hw
  go_enter Tryz.func71, Tryz.ntmps71
  go_wp2_with (first
    | (go_at_call 79; refine HLv.out.mono ?_; rintro e w1 ⟨rfl, hb1⟩)
    | (go_at_call 81; refine (HBs.out _).mono ?_; rintro e w2 ⟨pv, rfl, ho2, hb2⟩; have hB2 := below_on hb1 hb2; obtain ⟨pa, pc, rfl, hc1, hc2, hcp⟩ := own_prts ho2))
  go_loopw [8, 9, 49] (fun uv zv iv wr => ∃ (k : Nat), k ≤ PS.length ∧ iv = .int .i64 (k : Int) ∧ uv = .string (bytesOf (oldR nd old ((PS.take k).map (·.1)) (rs.take k))) ∧ zv = .string (bytesOf (upR nd old ((PS.take k).map (·.1)) (rs.take k))) ∧ Below w0.heap.size w0 wr ∧ Below w2.heap.size w2 wr) (fun _ _ iv _ => PS.length - (intOf iv).toNat)
  case atStart => exact ⟨0, Nat.zero_le _, rfl, rfl, rfl, hB2, Below.refl _ _⟩
  case round =>
    obtain ⟨k, hk, rfl, rfl, rfl, hB, hB0⟩ := hrel
    have hsz := hB.size
    by_cases hlt : k < PS.length
    · obtain ⟨b, rfl, hbl, hcell⟩ := hcp (by intro h; subst h; simp at hlt)
      obtain ⟨p, hpk⟩ : ∃ p, PS[k]? = some p := ⟨PS[k], List.getElem?_eq_getElem hlt⟩
      obtain ⟨y, hyk⟩ : ∃ y, rs[k]? = some y := ⟨rs[k]'(by omega), List.getElem?_eq_getElem _⟩
      have hy32 := HP.out y (List.mem_of_getElem? hyk)
      have hr32 := upR_32 HX.out ((PS.take k).map (·.1)) (rs.take k)
      have hq32 := oldR_32 HX.out ((PS.take k).map (·.1)) (rs.take k)
      have hlk : (rs.take k).length = ((PS.take k).map (·.1)).length := by rw [List.length_map, List.length_take, List.length_take]; omega
      have HN1 : Hid (upR nd old ((PS.take (k + 1)).map (·.1)) (rs.take (k + 1)) = nodeB nd p.1 (upR nd old ((PS.take k).map (·.1)) (rs.take k)) y) := Lib.hid (by rw [take_next hpk, take_next hyk, List.map_append]; exact upR_snoc nd _ _ _ _ _ hlk)
      have HN2 : Hid (oldR nd old ((PS.take (k + 1)).map (·.1)) (rs.take (k + 1)) = nodeO nd p.1 (oldR nd old ((PS.take k).map (·.1)) (rs.take k)) y) := Lib.hid (by rw [take_next hpk, take_next hyk, List.map_append]; exact oldR_snoc nd _ _ _ _ _ hlk)
      generalize upR nd old ((PS.take k).map (·.1)) (rs.take k) = r at *
      generalize oldR nd old ((PS.take k).map (·.1)) (rs.take k) = q at *
      have hra := fun j u hj => (hB0.cell (p := ⟨b, k * 3 + j, none⟩) hbl).trans (hcell k p hpk j u hj)
      have r0 : wr.cell? ⟨b, k * 3, none⟩ = some (.bool p.1) := hra 0 _ rfl
      have r1 : wr.cell? ⟨b, k * 3 + 1, none⟩ = some (.int .i64 (p.2.1 : Int)) := hra 1 _ rfl
      have r2 : wr.cell? ⟨b, k * 3 + 2, none⟩ = some (.int .i64 (p.2.2 : Int)) := hra 2 _ rfl
      have hcy : w0.cell? ⟨vb, off + k, none⟩ = some (str y) := HC.out k y hyk
      have hvl := World.block_lt_of_cell? w0 _ hcy
      have hvr : vb < wr.heap.size := by have hvl' : vb < w0.heap.size := hvl; omega
      have hcr : wr.cell? ⟨vb, off + k, none⟩ = some (str y) := (hB.cell (p := ⟨vb, off + k, none⟩) hvl).trans hcy
      unfold str at hcr
      have hLR : nd (pairB p.1 r y).1 (pairB p.1 r y).2 = nodeB nd p.1 r y := pair_node _ _ _
      obtain ⟨hL32, hR32⟩ := pair_32 p.1 hr32 hy32
      have HH := Lib.hid (fun w => halves_any p r y w)
      rw [← hLR] at HN1
      have HOn : Hid (nodeO nd p.1 q y = if p.1 = true then nd y q else q) := Lib.hid rfl
      clear hra hcell hcp hpk hyk hlk hLR
      generalize pairB p.1 r y = u at *
      obtain ⟨L, R⟩ := u
      have hL32 : L.length = 32 := hL32
      have hR32 : R.length = 32 := hR32
      obtain ⟨pl, pf, pt⟩ := p
      go_upto_region 14 with fail
      have hlp := Lies.new wr 147 (partA (pl, pf, pt))
      have hO2 := (Below.refl wr.heap.size wr).alloc (Nat.le_refl _) (.cells (partA (pl, pf, pt)) 147)
      have hcr2 := (hO2.cell (p := ⟨vb, off + k, none⟩) hvr).trans hcr
      have hB2' := hB.trans (hO2.mono hsz)
      have hB0' := hB0.trans (hO2.mono hB0.size)
      have hsz' := hB2'.size
      have hvr2 : vb < (wr.alloc (.cells (partA (pl, pf, pt)) 147)).heap.size := Nat.lt_of_lt_of_le hvr hO2.size
      change Code.wp _ _ _ _ (wr.alloc (.cells (partA (pl, pf, pt)) 147))
      generalize wr.alloc (.cells (partA (pl, pf, pt)) 147) = wp at *
      generalize wr.heap.size = gp at *
      have q0 : wp.cell? ⟨gp, 0, none⟩ = some (.bool pl) := hlp.cell 0
      have HT3 := Lib.hid (HT.out.below hB2')
      have HB0 := Lib.hid hB0'
      have HB2' := Lib.hid hB2'
      clear hB hB0 hcy hcr hO2 r0 r1 r2 hB0' hB2'
      cases pl with
      | false =>
        go_upto_region 16 with fail
        obtain ⟨w6, rfl⟩ : ∃ w6, w6 = wp := ⟨_, rfl⟩
        have hb6 := Below.refl w6.heap.size w6
        have hlp6 := hlp.on hb6
        have hcr6 := (hb6.cell (p := ⟨vb, off + k, none⟩) hvr2).trans hcr2
        have hvr6 := Nat.lt_of_lt_of_le hvr2 hb6.size
        have hB6 := HB2'.out.trans (hb6.mono hsz')
        have hB06 := HB0.out.trans (hb6.mono HB0.out.size)
        refine wp_held_any (S := fun w' => Below w6.heap.size w6 w') 11 rfl (by kernel_rfl) ?_
        have hd : Below w6.heap.size w6 { w6 with drawn := w6.drawn + 1 } := (Below.refl _ _).drew
        generalize ({ w6 with drawn := w6.drawn + 1 } : World) = wd at *
        refine held_put 0 62 (.agg (partA (false, pf, pt))) rfl rfl (by kernel_rfl) (by kernel_rfl) (by kernel_rfl) (by kernel_rfl) (fun w hS => run_ldP _ _ (hlp6.on hS) rfl) hd ?_
        simp only [List.setIfInBounds_toArray, List.set_cons_succ, List.set_cons_zero]
        refine held_put 1 63 (.string (bytesOf r)) rfl rfl (by kernel_rfl) (by kernel_rfl) (by kernel_rfl) (by kernel_rfl) (fun w hS => rfl) hd ?_
        simp only [List.setIfInBounds_toArray, List.set_cons_succ, List.set_cons_zero]
        refine held_put 2 64 (.slice (some ⟨vb, off, none⟩) PS.length vc) rfl rfl (by kernel_rfl) (by kernel_rfl) (by kernel_rfl) (by kernel_rfl) (fun w hS => rfl) hd ?_
        simp only [List.setIfInBounds_toArray, List.set_cons_succ, List.set_cons_zero]
        refine held_put 3 65 (.int .i64 ((k : Nat) : Int)) rfl rfl (by kernel_rfl) (by kernel_rfl) (by kernel_rfl) (by kernel_rfl) (fun w hS => rfl) hd ?_
        simp only [List.setIfInBounds_toArray, List.set_cons_succ, List.set_cons_zero]
        refine held_put 4 66 (.pointer (some ⟨vb, off + k, none⟩)) rfl rfl (by kernel_rfl) (by kernel_rfl) (by kernel_rfl) (by kernel_rfl) (fun w hS => run_idxS _ _ _ _ k hlt rfl rfl w) hd ?_
        simp only [List.setIfInBounds_toArray, List.set_cons_succ, List.set_cons_zero]
        refine held_put 5 67 (.string (bytesOf y)) rfl rfl (by kernel_rfl) (by kernel_rfl) (by kernel_rfl) (by kernel_rfl) (fun w hS => run_ldT _ _ w ((hS.cell (p := ⟨vb, off + k, none⟩) hvr6).trans hcr6) rfl) hd ?_
        simp only [List.setIfInBounds_toArray, List.set_cons_succ, List.set_cons_zero]
        refine held_one 6 (by kernel_rfl) (wpOp_call 68 rfl rfl (by kernel_rfl) (by kernel_rfl) ((HH.out wd).mono ?_))
        rintro e w7 ⟨rfl, hb7⟩
        have hd7 := hd.trans (hb7.mono hd.size)
        refine ⟨_, rfl, hd7, ?_⟩
        simp only [List.setIfInBounds_toArray, List.set_cons_succ, List.set_cons_zero]
        refine held_put 7 69 (.string (bytesOf L)) rfl rfl (by kernel_rfl) (by kernel_rfl) (by kernel_rfl) (by kernel_rfl) (fun w hS => rfl) hd7 ?_
        simp only [List.setIfInBounds_toArray, List.set_cons_succ, List.set_cons_zero]
        refine held_put 8 70 (.string (bytesOf R)) rfl rfl (by kernel_rfl) (by kernel_rfl) (by kernel_rfl) (by kernel_rfl) (fun w hS => rfl) hd7 ?_
        simp only [List.setIfInBounds_toArray, List.set_cons_succ, List.set_cons_zero]
        have HNd := node_any L R w7 (by omega) (by omega) (HT.out.below (hB6.trans (hd7.mono hB6.size)))
        refine held_one 9 (by kernel_rfl) (wpOp_call 71 rfl rfl (by kernel_rfl) (by kernel_rfl) (HNd.mono ?_))
        rintro e w8 ⟨rfl, hb8⟩
        have hd8 := hd7.trans (hb8.mono hd7.size)
        refine ⟨_, rfl, hd8, ?_⟩
        simp only [List.setIfInBounds_toArray, List.set_cons_succ, List.set_cons_zero]
        refine held_put 10 9 (.string (bytesOf (nd L R))) rfl rfl (by kernel_rfl) (by kernel_rfl) (by kernel_rfl) (by kernel_rfl) (fun w hS => rfl) hd8 ?_
        simp only [List.setIfInBounds_toArray, List.set_cons_succ, List.set_cons_zero]
        refine held_done (by kernel_rfl) ?_
        simp only [Exit.then]
        have HD8 := Lib.hid hd8
        clear hb8 hd8 hd7 hb7 hd
        go_wp2
        go_roundw
        case rel => exact ⟨k + 1, by omega, by go_num, by rw [HN2.out]; rfl, by rw [HN1.out], hB6.trans (HD8.out.mono hB6.size), hB06.trans (HD8.out.mono hB06.size)⟩
        case measure => simp [intOf]; omega
      | true =>
        have HNy := Lib.hid (node_any y q wp (by omega) (by omega) HT3.out)
        go_upto_region 16 with (go_at_call 108; refine HNy.out.mono ?_; rintro e w6 ⟨rfl, hb6⟩)
        have hlp6 := hlp.on hb6
        have hcr6 := (hb6.cell (p := ⟨vb, off + k, none⟩) hvr2).trans hcr2
        have hvr6 := Nat.lt_of_lt_of_le hvr2 hb6.size
        have hB6 := HB2'.out.trans (hb6.mono hsz')
        have hB06 := HB0.out.trans (hb6.mono HB0.out.size)
        refine wp_held_any (S := fun w' => Below w6.heap.size w6 w') 11 rfl (by kernel_rfl) ?_
        have hd : Below w6.heap.size w6 { w6 with drawn := w6.drawn + 1 } := (Below.refl _ _).drew
        generalize ({ w6 with drawn := w6.drawn + 1 } : World) = wd at *
        refine held_put 0 62 (.agg (partA (true, pf, pt))) rfl rfl (by kernel_rfl) (by kernel_rfl) (by kernel_rfl) (by kernel_rfl) (fun w hS => run_ldP _ _ (hlp6.on hS) rfl) hd ?_
        simp only [List.setIfInBounds_toArray, List.set_cons_succ, List.set_cons_zero]
        refine held_put 1 63 (.string (bytesOf r)) rfl rfl (by kernel_rfl) (by kernel_rfl) (by kernel_rfl) (by kernel_rfl) (fun w hS => rfl) hd ?_
        simp only [List.setIfInBounds_toArray, List.set_cons_succ, List.set_cons_zero]
        refine held_put 2 64 (.slice (some ⟨vb, off, none⟩) PS.length vc) rfl rfl (by kernel_rfl) (by kernel_rfl) (by kernel_rfl) (by kernel_rfl) (fun w hS => rfl) hd ?_
        simp only [List.setIfInBounds_toArray, List.set_cons_succ, List.set_cons_zero]
        refine held_put 3 65 (.int .i64 ((k : Nat) : Int)) rfl rfl (by kernel_rfl) (by kernel_rfl) (by kernel_rfl) (by kernel_rfl) (fun w hS => rfl) hd ?_
        simp only [List.setIfInBounds_toArray, List.set_cons_succ, List.set_cons_zero]
        refine held_put 4 66 (.pointer (some ⟨vb, off + k, none⟩)) rfl rfl (by kernel_rfl) (by kernel_rfl) (by kernel_rfl) (by kernel_rfl) (fun w hS => run_idxS _ _ _ _ k hlt rfl rfl w) hd ?_
        simp only [List.setIfInBounds_toArray, List.set_cons_succ, List.set_cons_zero]
        refine held_put 5 67 (.string (bytesOf y)) rfl rfl (by kernel_rfl) (by kernel_rfl) (by kernel_rfl) (by kernel_rfl) (fun w hS => run_ldT _ _ w ((hS.cell (p := ⟨vb, off + k, none⟩) hvr6).trans hcr6) rfl) hd ?_
        simp only [List.setIfInBounds_toArray, List.set_cons_succ, List.set_cons_zero]
        refine held_one 6 (by kernel_rfl) (wpOp_call 68 rfl rfl (by kernel_rfl) (by kernel_rfl) ((HH.out wd).mono ?_))
        rintro e w7 ⟨rfl, hb7⟩
        have hd7 := hd.trans (hb7.mono hd.size)
        refine ⟨_, rfl, hd7, ?_⟩
        simp only [List.setIfInBounds_toArray, List.set_cons_succ, List.set_cons_zero]
        refine held_put 7 69 (.string (bytesOf L)) rfl rfl (by kernel_rfl) (by kernel_rfl) (by kernel_rfl) (by kernel_rfl) (fun w hS => rfl) hd7 ?_
        simp only [List.setIfInBounds_toArray, List.set_cons_succ, List.set_cons_zero]
        refine held_put 8 70 (.string (bytesOf R)) rfl rfl (by kernel_rfl) (by kernel_rfl) (by kernel_rfl) (by kernel_rfl) (fun w hS => rfl) hd7 ?_
        simp only [List.setIfInBounds_toArray, List.set_cons_succ, List.set_cons_zero]
        have HNd := node_any L R w7 (by omega) (by omega) (HT.out.below (hB6.trans (hd7.mono hB6.size)))
        refine held_one 9 (by kernel_rfl) (wpOp_call 71 rfl rfl (by kernel_rfl) (by kernel_rfl) (HNd.mono ?_))
        rintro e w8 ⟨rfl, hb8⟩
        have hd8 := hd7.trans (hb8.mono hd7.size)
        refine ⟨_, rfl, hd8, ?_⟩
        simp only [List.setIfInBounds_toArray, List.set_cons_succ, List.set_cons_zero]
        refine held_put 10 9 (.string (bytesOf (nd L R))) rfl rfl (by kernel_rfl) (by kernel_rfl) (by kernel_rfl) (by kernel_rfl) (fun w hS => rfl) hd8 ?_
        simp only [List.setIfInBounds_toArray, List.set_cons_succ, List.set_cons_zero]
        refine held_done (by kernel_rfl) ?_
        simp only [Exit.then]
        have HD8 := Lib.hid hd8
        clear hb8 hd8 hd7 hb7 hd
        go_wp2
        go_roundw
        case rel => exact ⟨k + 1, by omega, by go_num, by rw [HN2.out]; rfl, by rw [HN1.out], hB6.trans (HD8.out.mono hB6.size), hB06.trans (HD8.out.mono hB06.size)⟩
        case measure => simp [intOf]; omega
    · obtain rfl : k = PS.length := by omega
      have et : rs.take PS.length = rs := List.take_of_length_le (by omega)
      simp only [List.take_length, et]
      clear hcp et
      go_wp2
      go_ret3
      exact ⟨rfl, hB⟩

set_option maxHeartbeats 3200000 in
theorem stepMakes_some (m n : Nat) (old : List UInt8) (p0 : List UInt8) (rs : List (List UInt8)) (w0 : World) (v : Value) (h1 : 1 ≤ m) (h2 : m < n) (hn : n ≤ 4096) (hp : ∀ y ∈ p0 :: rs, y.length = 32) (hlen : rs.length = (bits ((m - 1) / 2 ^ lev m) ((n - 1) / 2 ^ lev m)).length) (hw : whole m = false) (hs : Strs w0 v (p0 :: rs)) (hT : Tab w0) (hZ : Tz w0) :
    Calls Tryz.prog 71 #[.int .i64 (m : Int), .int .i64 (n : Int), .string (bytesOf old), v] w0 fun e w' => e = .returned (.tuple #[.string (bytesOf (oldR nd p0 (bits ((m - 1) / 2 ^ lev m) ((n - 1) / 2 ^ lev m)) rs)), .string (bytesOf (upR nd p0 (bits ((m - 1) / 2 ^ lev m) ((n - 1) / 2 ^ lev m)) rs)), .bool true]) ∧ Below w0.heap.size w0 w' := by
  have hl12 := lev_lt h1 (by omega)
  have HLv := Lib.hid (level_any m w0 h1 (by omega) hZ)
  rw [hw] at HLv
  have hb0 := fun w => beside_any (m - 1) (lev m) n w (by omega) hn hl12
  have hsides := prt_sides ((n - 1) / 2 ^ lev m) ((m - 1) / 2 ^ lev m) ((n - 1) / 2 ^ lev m) (lev m) n (Nat.le_refl _) (Nat.div_le_div_right (by omega))
  have hpl := (parts_le h1 h2 hn).1
  have hpne := parts_some h1 h2
  rw [← hsides] at hlen ⊢
  generalize prt ((m - 1) / 2 ^ lev m) ((n - 1) / 2 ^ lev m) (lev m) n = PS at *
  rw [List.length_map] at hlen
  have HBs := Lib.hid hb0
  rw [show ((m - 1 : Nat) : Int) = (m : Int) - 1 by omega] at HBs
  generalize lev m = j at *
  have HX : Hid (p0.length = 32) := Lib.hid (hp p0 (by simp))
  have HP : Hid (∀ y ∈ rs, y.length = 32) := Lib.hid (fun y hy => hp y (List.mem_cons_of_mem _ hy))
  have HT := Lib.hid hT
  obtain ⟨va, vc, rfl, hv1, hv2, hv3, hv4⟩ := hs
  unfold maxLen at hv2
  have hlN : (p0 :: rs).length = PS.length + 1 := by simp; omega
  rw [hlN] at hv1 ⊢
  have hpos : 0 < PS.length := List.length_pos_iff.2 hpne
  obtain ⟨vb, off, rfl, hc⟩ := hv4 (by simp)
  have h00 := hc 0 p0 rfl
  have HC : Hid (∀ (k : Nat) y, rs[k]? = some y → w0.cell? ⟨vb, off + 1 + k, none⟩ = some (str y)) := Lib.hid (fun k y hk => by
    have h := hc (k + 1) y (by simpa using hk)
    rwa [show off + (k + 1) = off + 1 + k by omega] at h)
  have hvl0 := World.block_lt_of_cell? w0 _ h00
  have hvc1 : vc ≠ 1 := by omega
  have hne0 : ((PS.length : Int) + 1 == 0) = false := by simp; omega
  clear hb0 hsides hp hT hZ hv3 hv4 hw hc hpne hlN
  go_enter Tryz.func71, Tryz.ntmps71
  go_upto_region 6 with (go_at_call 79; refine HLv.out.mono ?_; rintro e w1 ⟨rfl, hb1⟩)
  have h01 := (hb1.cell (p := ⟨vb, off + 0, none⟩) hvl0).trans h00
  have hvl1 : vb < w1.heap.size := by have h1 : vb < w0.heap.size := hvl0; have := hb1.size; omega
  refine wp_held_any (S := fun w' => Below w1.heap.size w1 w') 7 rfl (by kernel_rfl) ?_
  have hd : Below w1.heap.size w1 { w1 with drawn := w1.drawn + 1 } := (Below.refl _ _).drew
  generalize ({ w1 with drawn := w1.drawn + 1 } : World) = wd at *
  refine held_put 0 30 (.slice (some ⟨vb, off, none⟩) (PS.length + 1) vc) rfl rfl (by kernel_rfl) (by kernel_rfl) (by kernel_rfl) (by kernel_rfl) (fun w hS => rfl) hd ?_
  simp only [List.setIfInBounds_toArray, List.set_cons_succ, List.set_cons_zero]
  refine held_put 1 31 (.pointer (some ⟨vb, off + 0, none⟩)) rfl rfl (by kernel_rfl) (by kernel_rfl) (by kernel_rfl) (by kernel_rfl) (fun w hS => run_idx0 vb off _ vc (by omega) rfl w) hd ?_
  simp only [List.setIfInBounds_toArray, List.set_cons_succ, List.set_cons_zero]
  refine held_put 2 32 (.string (bytesOf p0)) rfl rfl (by kernel_rfl) (by kernel_rfl) (by kernel_rfl) (by kernel_rfl) (fun w hS => run_ldT _ _ w ((hS.cell (p := ⟨vb, off + 0, none⟩) hvl1).trans h01) rfl) hd ?_
  simp only [List.setIfInBounds_toArray, List.set_cons_succ, List.set_cons_zero]
  refine held_put 3 33 (.slice (some ⟨vb, off, none⟩) (PS.length + 1) vc) rfl rfl (by kernel_rfl) (by kernel_rfl) (by kernel_rfl) (by kernel_rfl) (fun w hS => rfl) hd ?_
  simp only [List.setIfInBounds_toArray, List.set_cons_succ, List.set_cons_zero]
  refine held_put 4 34 (.slice (some ⟨vb, off + 1, none⟩) PS.length (vc - 1)) rfl rfl (by kernel_rfl) (by kernel_rfl) (by kernel_rfl) (by kernel_rfl) (fun w hS => run_rest2 vb off _ vc PS.length rfl hv1 hvc1 rfl w) hd ?_
  simp only [List.setIfInBounds_toArray, List.set_cons_succ, List.set_cons_zero]
  refine held_put 5 13 (.string (bytesOf p0)) rfl rfl (by kernel_rfl) (by kernel_rfl) (by kernel_rfl) (by kernel_rfl) (fun w hS => rfl) hd ?_
  simp only [List.setIfInBounds_toArray, List.set_cons_succ, List.set_cons_zero]
  refine held_put 6 14 (.slice (some ⟨vb, off + 1, none⟩) PS.length (vc - 1)) rfl rfl (by kernel_rfl) (by kernel_rfl) (by kernel_rfl) (by kernel_rfl) (fun w hS => rfl) hd ?_
  simp only [List.setIfInBounds_toArray, List.set_cons_succ, List.set_cons_zero]
  refine held_done (by kernel_rfl) ?_
  simp only [Exit.then]
  have hb1' := hb1.trans (hd.mono hb1.size)
  clear h01 h00 hd hb1 hvl1 hvl0
  go_wp2_with (go_at_call 81; refine (HBs.out _).mono ?_; rintro e w2 ⟨pv, rfl, ho2, hb2⟩; have hB2 := below_on hb1' hb2; obtain ⟨pa, pc, rfl, hc1, hc2, hcp⟩ := own_prts ho2)
  go_loopw [8, 9, 49] (fun uv zv iv wr => ∃ (k : Nat), k ≤ PS.length ∧ iv = .int .i64 (k : Int) ∧ uv = .string (bytesOf (oldR nd p0 ((PS.take k).map (·.1)) (rs.take k))) ∧ zv = .string (bytesOf (upR nd p0 ((PS.take k).map (·.1)) (rs.take k))) ∧ Below w0.heap.size w0 wr ∧ Below w2.heap.size w2 wr) (fun _ _ iv _ => PS.length - (intOf iv).toNat)
  case atStart => exact ⟨0, Nat.zero_le _, rfl, rfl, rfl, hB2, Below.refl _ _⟩
  case round =>
    obtain ⟨k, hk, rfl, rfl, rfl, hB, hB0⟩ := hrel
    have hsz := hB.size
    by_cases hlt : k < PS.length
    · obtain ⟨b, rfl, hbl, hcell⟩ := hcp (by intro h; subst h; simp at hlt)
      obtain ⟨p, hpk⟩ : ∃ p, PS[k]? = some p := ⟨PS[k], List.getElem?_eq_getElem hlt⟩
      obtain ⟨y, hyk⟩ : ∃ y, rs[k]? = some y := ⟨rs[k]'(by omega), List.getElem?_eq_getElem _⟩
      have hy32 := HP.out y (List.mem_of_getElem? hyk)
      have hr32 := upR_32 HX.out ((PS.take k).map (·.1)) (rs.take k)
      have hq32 := oldR_32 HX.out ((PS.take k).map (·.1)) (rs.take k)
      have hlk : (rs.take k).length = ((PS.take k).map (·.1)).length := by rw [List.length_map, List.length_take, List.length_take]; omega
      have HN1 : Hid (upR nd p0 ((PS.take (k + 1)).map (·.1)) (rs.take (k + 1)) = nodeB nd p.1 (upR nd p0 ((PS.take k).map (·.1)) (rs.take k)) y) := Lib.hid (by rw [take_next hpk, take_next hyk, List.map_append]; exact upR_snoc nd _ _ _ _ _ hlk)
      have HN2 : Hid (oldR nd p0 ((PS.take (k + 1)).map (·.1)) (rs.take (k + 1)) = nodeO nd p.1 (oldR nd p0 ((PS.take k).map (·.1)) (rs.take k)) y) := Lib.hid (by rw [take_next hpk, take_next hyk, List.map_append]; exact oldR_snoc nd _ _ _ _ _ hlk)
      generalize upR nd p0 ((PS.take k).map (·.1)) (rs.take k) = r at *
      generalize oldR nd p0 ((PS.take k).map (·.1)) (rs.take k) = q at *
      have hra := fun j u hj => (hB0.cell (p := ⟨b, k * 3 + j, none⟩) hbl).trans (hcell k p hpk j u hj)
      have r0 : wr.cell? ⟨b, k * 3, none⟩ = some (.bool p.1) := hra 0 _ rfl
      have r1 : wr.cell? ⟨b, k * 3 + 1, none⟩ = some (.int .i64 (p.2.1 : Int)) := hra 1 _ rfl
      have r2 : wr.cell? ⟨b, k * 3 + 2, none⟩ = some (.int .i64 (p.2.2 : Int)) := hra 2 _ rfl
      have hcy : w0.cell? ⟨vb, off + 1 + k, none⟩ = some (str y) := HC.out k y hyk
      have hvl := World.block_lt_of_cell? w0 _ hcy
      have hvr : vb < wr.heap.size := by have hvl' : vb < w0.heap.size := hvl; omega
      have hcr : wr.cell? ⟨vb, off + 1 + k, none⟩ = some (str y) := (hB.cell (p := ⟨vb, off + 1 + k, none⟩) hvl).trans hcy
      unfold str at hcr
      have hLR : nd (pairB p.1 r y).1 (pairB p.1 r y).2 = nodeB nd p.1 r y := pair_node _ _ _
      obtain ⟨hL32, hR32⟩ := pair_32 p.1 hr32 hy32
      have HH := Lib.hid (fun w => halves_any p r y w)
      rw [← hLR] at HN1
      have HOn : Hid (nodeO nd p.1 q y = if p.1 = true then nd y q else q) := Lib.hid rfl
      clear hra hcell hcp hpk hyk hlk hLR
      generalize pairB p.1 r y = u at *
      obtain ⟨L, R⟩ := u
      have hL32 : L.length = 32 := hL32
      have hR32 : R.length = 32 := hR32
      obtain ⟨pl, pf, pt⟩ := p
      go_upto_region 14 with fail
      have hlp := Lies.new wr 147 (partA (pl, pf, pt))
      have hO2 := (Below.refl wr.heap.size wr).alloc (Nat.le_refl _) (.cells (partA (pl, pf, pt)) 147)
      have hcr2 := (hO2.cell (p := ⟨vb, off + 1 + k, none⟩) hvr).trans hcr
      have hB2' := hB.trans (hO2.mono hsz)
      have hB0' := hB0.trans (hO2.mono hB0.size)
      have hsz' := hB2'.size
      have hvr2 : vb < (wr.alloc (.cells (partA (pl, pf, pt)) 147)).heap.size := Nat.lt_of_lt_of_le hvr hO2.size
      change Code.wp _ _ _ _ (wr.alloc (.cells (partA (pl, pf, pt)) 147))
      generalize wr.alloc (.cells (partA (pl, pf, pt)) 147) = wp at *
      generalize wr.heap.size = gp at *
      have q0 : wp.cell? ⟨gp, 0, none⟩ = some (.bool pl) := hlp.cell 0
      have HT3 := Lib.hid (HT.out.below hB2')
      have HB0 := Lib.hid hB0'
      have HB2' := Lib.hid hB2'
      clear hB hB0 hcy hcr hO2 r0 r1 r2 hB0' hB2'
      cases pl with
      | false =>
        go_upto_region 16 with fail
        obtain ⟨w6, rfl⟩ : ∃ w6, w6 = wp := ⟨_, rfl⟩
        have hb6 := Below.refl w6.heap.size w6
        have hlp6 := hlp.on hb6
        have hcr6 := (hb6.cell (p := ⟨vb, off + 1 + k, none⟩) hvr2).trans hcr2
        have hvr6 := Nat.lt_of_lt_of_le hvr2 hb6.size
        have hB6 := HB2'.out.trans (hb6.mono hsz')
        have hB06 := HB0.out.trans (hb6.mono HB0.out.size)
        refine wp_held_any (S := fun w' => Below w6.heap.size w6 w') 11 rfl (by kernel_rfl) ?_
        have hd : Below w6.heap.size w6 { w6 with drawn := w6.drawn + 1 } := (Below.refl _ _).drew
        generalize ({ w6 with drawn := w6.drawn + 1 } : World) = wd at *
        refine held_put 0 62 (.agg (partA (false, pf, pt))) rfl rfl (by kernel_rfl) (by kernel_rfl) (by kernel_rfl) (by kernel_rfl) (fun w hS => run_ldP _ _ (hlp6.on hS) rfl) hd ?_
        simp only [List.setIfInBounds_toArray, List.set_cons_succ, List.set_cons_zero]
        refine held_put 1 63 (.string (bytesOf r)) rfl rfl (by kernel_rfl) (by kernel_rfl) (by kernel_rfl) (by kernel_rfl) (fun w hS => rfl) hd ?_
        simp only [List.setIfInBounds_toArray, List.set_cons_succ, List.set_cons_zero]
        refine held_put 2 64 (.slice (some ⟨vb, off + 1, none⟩) PS.length (vc - 1)) rfl rfl (by kernel_rfl) (by kernel_rfl) (by kernel_rfl) (by kernel_rfl) (fun w hS => rfl) hd ?_
        simp only [List.setIfInBounds_toArray, List.set_cons_succ, List.set_cons_zero]
        refine held_put 3 65 (.int .i64 ((k : Nat) : Int)) rfl rfl (by kernel_rfl) (by kernel_rfl) (by kernel_rfl) (by kernel_rfl) (fun w hS => rfl) hd ?_
        simp only [List.setIfInBounds_toArray, List.set_cons_succ, List.set_cons_zero]
        refine held_put 4 66 (.pointer (some ⟨vb, off + 1 + k, none⟩)) rfl rfl (by kernel_rfl) (by kernel_rfl) (by kernel_rfl) (by kernel_rfl) (fun w hS => run_idxS _ _ _ _ k hlt rfl rfl w) hd ?_
        simp only [List.setIfInBounds_toArray, List.set_cons_succ, List.set_cons_zero]
        refine held_put 5 67 (.string (bytesOf y)) rfl rfl (by kernel_rfl) (by kernel_rfl) (by kernel_rfl) (by kernel_rfl) (fun w hS => run_ldT _ _ w ((hS.cell (p := ⟨vb, off + 1 + k, none⟩) hvr6).trans hcr6) rfl) hd ?_
        simp only [List.setIfInBounds_toArray, List.set_cons_succ, List.set_cons_zero]
        refine held_one 6 (by kernel_rfl) (wpOp_call 68 rfl rfl (by kernel_rfl) (by kernel_rfl) ((HH.out wd).mono ?_))
        rintro e w7 ⟨rfl, hb7⟩
        have hd7 := hd.trans (hb7.mono hd.size)
        refine ⟨_, rfl, hd7, ?_⟩
        simp only [List.setIfInBounds_toArray, List.set_cons_succ, List.set_cons_zero]
        refine held_put 7 69 (.string (bytesOf L)) rfl rfl (by kernel_rfl) (by kernel_rfl) (by kernel_rfl) (by kernel_rfl) (fun w hS => rfl) hd7 ?_
        simp only [List.setIfInBounds_toArray, List.set_cons_succ, List.set_cons_zero]
        refine held_put 8 70 (.string (bytesOf R)) rfl rfl (by kernel_rfl) (by kernel_rfl) (by kernel_rfl) (by kernel_rfl) (fun w hS => rfl) hd7 ?_
        simp only [List.setIfInBounds_toArray, List.set_cons_succ, List.set_cons_zero]
        have HNd := node_any L R w7 (by omega) (by omega) (HT.out.below (hB6.trans (hd7.mono hB6.size)))
        refine held_one 9 (by kernel_rfl) (wpOp_call 71 rfl rfl (by kernel_rfl) (by kernel_rfl) (HNd.mono ?_))
        rintro e w8 ⟨rfl, hb8⟩
        have hd8 := hd7.trans (hb8.mono hd7.size)
        refine ⟨_, rfl, hd8, ?_⟩
        simp only [List.setIfInBounds_toArray, List.set_cons_succ, List.set_cons_zero]
        refine held_put 10 9 (.string (bytesOf (nd L R))) rfl rfl (by kernel_rfl) (by kernel_rfl) (by kernel_rfl) (by kernel_rfl) (fun w hS => rfl) hd8 ?_
        simp only [List.setIfInBounds_toArray, List.set_cons_succ, List.set_cons_zero]
        refine held_done (by kernel_rfl) ?_
        simp only [Exit.then]
        have HD8 := Lib.hid hd8
        clear hb8 hd8 hd7 hb7 hd
        go_wp2
        go_roundw
        case rel => exact ⟨k + 1, by omega, by go_num, by rw [HN2.out]; rfl, by rw [HN1.out], hB6.trans (HD8.out.mono hB6.size), hB06.trans (HD8.out.mono hB06.size)⟩
        case measure => simp [intOf]; omega
      | true =>
        have HNy := Lib.hid (node_any y q wp (by omega) (by omega) HT3.out)
        go_upto_region 16 with (go_at_call 108; refine HNy.out.mono ?_; rintro e w6 ⟨rfl, hb6⟩)
        have hlp6 := hlp.on hb6
        have hcr6 := (hb6.cell (p := ⟨vb, off + 1 + k, none⟩) hvr2).trans hcr2
        have hvr6 := Nat.lt_of_lt_of_le hvr2 hb6.size
        have hB6 := HB2'.out.trans (hb6.mono hsz')
        have hB06 := HB0.out.trans (hb6.mono HB0.out.size)
        refine wp_held_any (S := fun w' => Below w6.heap.size w6 w') 11 rfl (by kernel_rfl) ?_
        have hd : Below w6.heap.size w6 { w6 with drawn := w6.drawn + 1 } := (Below.refl _ _).drew
        generalize ({ w6 with drawn := w6.drawn + 1 } : World) = wd at *
        refine held_put 0 62 (.agg (partA (true, pf, pt))) rfl rfl (by kernel_rfl) (by kernel_rfl) (by kernel_rfl) (by kernel_rfl) (fun w hS => run_ldP _ _ (hlp6.on hS) rfl) hd ?_
        simp only [List.setIfInBounds_toArray, List.set_cons_succ, List.set_cons_zero]
        refine held_put 1 63 (.string (bytesOf r)) rfl rfl (by kernel_rfl) (by kernel_rfl) (by kernel_rfl) (by kernel_rfl) (fun w hS => rfl) hd ?_
        simp only [List.setIfInBounds_toArray, List.set_cons_succ, List.set_cons_zero]
        refine held_put 2 64 (.slice (some ⟨vb, off + 1, none⟩) PS.length (vc - 1)) rfl rfl (by kernel_rfl) (by kernel_rfl) (by kernel_rfl) (by kernel_rfl) (fun w hS => rfl) hd ?_
        simp only [List.setIfInBounds_toArray, List.set_cons_succ, List.set_cons_zero]
        refine held_put 3 65 (.int .i64 ((k : Nat) : Int)) rfl rfl (by kernel_rfl) (by kernel_rfl) (by kernel_rfl) (by kernel_rfl) (fun w hS => rfl) hd ?_
        simp only [List.setIfInBounds_toArray, List.set_cons_succ, List.set_cons_zero]
        refine held_put 4 66 (.pointer (some ⟨vb, off + 1 + k, none⟩)) rfl rfl (by kernel_rfl) (by kernel_rfl) (by kernel_rfl) (by kernel_rfl) (fun w hS => run_idxS _ _ _ _ k hlt rfl rfl w) hd ?_
        simp only [List.setIfInBounds_toArray, List.set_cons_succ, List.set_cons_zero]
        refine held_put 5 67 (.string (bytesOf y)) rfl rfl (by kernel_rfl) (by kernel_rfl) (by kernel_rfl) (by kernel_rfl) (fun w hS => run_ldT _ _ w ((hS.cell (p := ⟨vb, off + 1 + k, none⟩) hvr6).trans hcr6) rfl) hd ?_
        simp only [List.setIfInBounds_toArray, List.set_cons_succ, List.set_cons_zero]
        refine held_one 6 (by kernel_rfl) (wpOp_call 68 rfl rfl (by kernel_rfl) (by kernel_rfl) ((HH.out wd).mono ?_))
        rintro e w7 ⟨rfl, hb7⟩
        have hd7 := hd.trans (hb7.mono hd.size)
        refine ⟨_, rfl, hd7, ?_⟩
        simp only [List.setIfInBounds_toArray, List.set_cons_succ, List.set_cons_zero]
        refine held_put 7 69 (.string (bytesOf L)) rfl rfl (by kernel_rfl) (by kernel_rfl) (by kernel_rfl) (by kernel_rfl) (fun w hS => rfl) hd7 ?_
        simp only [List.setIfInBounds_toArray, List.set_cons_succ, List.set_cons_zero]
        refine held_put 8 70 (.string (bytesOf R)) rfl rfl (by kernel_rfl) (by kernel_rfl) (by kernel_rfl) (by kernel_rfl) (fun w hS => rfl) hd7 ?_
        simp only [List.setIfInBounds_toArray, List.set_cons_succ, List.set_cons_zero]
        have HNd := node_any L R w7 (by omega) (by omega) (HT.out.below (hB6.trans (hd7.mono hB6.size)))
        refine held_one 9 (by kernel_rfl) (wpOp_call 71 rfl rfl (by kernel_rfl) (by kernel_rfl) (HNd.mono ?_))
        rintro e w8 ⟨rfl, hb8⟩
        have hd8 := hd7.trans (hb8.mono hd7.size)
        refine ⟨_, rfl, hd8, ?_⟩
        simp only [List.setIfInBounds_toArray, List.set_cons_succ, List.set_cons_zero]
        refine held_put 10 9 (.string (bytesOf (nd L R))) rfl rfl (by kernel_rfl) (by kernel_rfl) (by kernel_rfl) (by kernel_rfl) (fun w hS => rfl) hd8 ?_
        simp only [List.setIfInBounds_toArray, List.set_cons_succ, List.set_cons_zero]
        refine held_done (by kernel_rfl) ?_
        simp only [Exit.then]
        have HD8 := Lib.hid hd8
        clear hb8 hd8 hd7 hb7 hd
        go_wp2
        go_roundw
        case rel => exact ⟨k + 1, by omega, by go_num, by rw [HN2.out]; rfl, by rw [HN1.out], hB6.trans (HD8.out.mono hB6.size), hB06.trans (HD8.out.mono hB06.size)⟩
        case measure => simp [intOf]; omega
    · obtain rfl : k = PS.length := by omega
      have et : rs.take PS.length = rs := List.take_of_length_le (by omega)
      simp only [List.take_length, et]
      clear hcp et
      go_wp2
      go_ret3
      exact ⟨rfl, hB⟩

set_option maxHeartbeats 1600000 in
theorem stepMakes_other (m n : Nat) (old : List UInt8) (rs : List (List UInt8)) (w0 : World) (v : Value) (h1 : 1 ≤ m) (h2 : m < n) (hn : n ≤ 4096) (hlen : rs.length ≠ (bits ((m - 1) / 2 ^ lev m) ((n - 1) / 2 ^ lev m)).length) (hw : whole m = true) (hs : Strs w0 v (rs)) (hZ : Tz w0) :
    Calls Tryz.prog 71 #[.int .i64 (m : Int), .int .i64 (n : Int), .string (bytesOf old), v] w0 fun e w' => e = .returned (.tuple #[.string { data := #[] }, .string { data := #[] }, .bool false]) ∧ Below w0.heap.size w0 w' := by
  have hl12 := lev_lt h1 (by omega)
  have HLv := Lib.hid (level_any m w0 h1 (by omega) hZ)
  rw [hw] at HLv
  have hb0 := fun w => beside_any (m - 1) (lev m) n w (by omega) hn hl12
  have hsides := prt_sides ((n - 1) / 2 ^ lev m) ((m - 1) / 2 ^ lev m) ((n - 1) / 2 ^ lev m) (lev m) n (Nat.le_refl _) (Nat.div_le_div_right (by omega))
  rw [← hsides] at hlen
  generalize prt ((m - 1) / 2 ^ lev m) ((n - 1) / 2 ^ lev m) (lev m) n = PS at *
  rw [List.length_map] at hlen
  have HBs := Lib.hid hb0
  rw [show ((m - 1 : Nat) : Int) = (m : Int) - 1 by omega] at HBs
  generalize lev m = j at *
  have hne : ((rs.length : Int) != (PS.length : Int)) = true := by simp; omega
  obtain ⟨va, vc, rfl, hv1, hv2, hv3, hv4⟩ := hs
  unfold maxLen at hv2
  clear hb0 hsides hZ hv3 hv4 hw hlen
  go_enter Tryz.func71, Tryz.ntmps71
  go_wp2_with (first
    | (go_at_call 79; refine HLv.out.mono ?_; rintro e w1 ⟨rfl, hb1⟩)
    | (go_at_call 81; refine (HBs.out _).mono ?_; rintro e w2 ⟨pv, rfl, ho2, hb2⟩; have hB2 := below_on hb1 hb2; obtain ⟨pa, pc, rfl, hc1, hc2, hcp⟩ := own_prts ho2))
  go_ret3
  exact ⟨rfl, hB2⟩

set_option maxHeartbeats 1600000 in
theorem stepMakes_another (m n : Nat) (old : List UInt8) (p0 : List UInt8) (rs : List (List UInt8)) (w0 : World) (v : Value) (h1 : 1 ≤ m) (h2 : m < n) (hn : n ≤ 4096) (hlen : rs.length ≠ (bits ((m - 1) / 2 ^ lev m) ((n - 1) / 2 ^ lev m)).length) (hw : whole m = false) (hs : Strs w0 v (p0 :: rs)) (hZ : Tz w0) :
    Calls Tryz.prog 71 #[.int .i64 (m : Int), .int .i64 (n : Int), .string (bytesOf old), v] w0 fun e w' => e = .returned (.tuple #[.string { data := #[] }, .string { data := #[] }, .bool false]) ∧ Below w0.heap.size w0 w' := by
  have hl12 := lev_lt h1 (by omega)
  have HLv := Lib.hid (level_any m w0 h1 (by omega) hZ)
  rw [hw] at HLv
  have hb0 := fun w => beside_any (m - 1) (lev m) n w (by omega) hn hl12
  have hsides := prt_sides ((n - 1) / 2 ^ lev m) ((m - 1) / 2 ^ lev m) ((n - 1) / 2 ^ lev m) (lev m) n (Nat.le_refl _) (Nat.div_le_div_right (by omega))
  rw [← hsides] at hlen
  generalize prt ((m - 1) / 2 ^ lev m) ((n - 1) / 2 ^ lev m) (lev m) n = PS at *
  rw [List.length_map] at hlen
  have HBs := Lib.hid hb0
  rw [show ((m - 1 : Nat) : Int) = (m : Int) - 1 by omega] at HBs
  generalize lev m = j at *
  have hne : ((rs.length : Int) != (PS.length : Int)) = true := by simp; omega
  obtain ⟨va, vc, rfl, hv1, hv2, hv3, hv4⟩ := hs
  unfold maxLen at hv2
  rw [List.length_cons] at hv1 ⊢
  obtain ⟨vb, off, rfl, hc⟩ := hv4 (by simp)
  have h00 := hc 0 p0 rfl
  have hvl0 := World.block_lt_of_cell? w0 _ h00
  have hne0 : ((rs.length : Int) + 1 == 0) = false := by simp; omega
  clear hb0 hsides hZ hv3 hv4 hw hc hlen
  go_enter Tryz.func71, Tryz.ntmps71
  go_upto_region 6 with (go_at_call 79; refine HLv.out.mono ?_; rintro e w1 ⟨rfl, hb1⟩)
  have h01 := (hb1.cell (p := ⟨vb, off + 0, none⟩) hvl0).trans h00
  have hvl1 : vb < w1.heap.size := by have h1 : vb < w0.heap.size := hvl0; have := hb1.size; omega
  obtain ⟨ra, hra⟩ : ∃ ra, (if vc = 1 then some ⟨vb, off, none⟩ else some ⟨vb, off + 1, none⟩ : Option Addr) = ra := ⟨_, rfl⟩
  refine wp_held_any (S := fun w' => Below w1.heap.size w1 w') 7 rfl (by kernel_rfl) ?_
  have hd : Below w1.heap.size w1 { w1 with drawn := w1.drawn + 1 } := (Below.refl _ _).drew
  generalize ({ w1 with drawn := w1.drawn + 1 } : World) = wd at *
  refine held_put 0 30 (.slice (some ⟨vb, off, none⟩) (rs.length + 1) vc) rfl rfl (by kernel_rfl) (by kernel_rfl) (by kernel_rfl) (by kernel_rfl) (fun w hS => rfl) hd ?_
  simp only [List.setIfInBounds_toArray, List.set_cons_succ, List.set_cons_zero]
  refine held_put 1 31 (.pointer (some ⟨vb, off + 0, none⟩)) rfl rfl (by kernel_rfl) (by kernel_rfl) (by kernel_rfl) (by kernel_rfl) (fun w hS => run_idx0 vb off _ vc (by omega) rfl w) hd ?_
  simp only [List.setIfInBounds_toArray, List.set_cons_succ, List.set_cons_zero]
  refine held_put 2 32 (.string (bytesOf p0)) rfl rfl (by kernel_rfl) (by kernel_rfl) (by kernel_rfl) (by kernel_rfl) (fun w hS => run_ldT _ _ w ((hS.cell (p := ⟨vb, off + 0, none⟩) hvl1).trans h01) rfl) hd ?_
  simp only [List.setIfInBounds_toArray, List.set_cons_succ, List.set_cons_zero]
  refine held_put 3 33 (.slice (some ⟨vb, off, none⟩) (rs.length + 1) vc) rfl rfl (by kernel_rfl) (by kernel_rfl) (by kernel_rfl) (by kernel_rfl) (fun w hS => rfl) hd ?_
  simp only [List.setIfInBounds_toArray, List.set_cons_succ, List.set_cons_zero]
  refine held_put 4 34 (.slice ra (rs.length + 1 - 1) (vc - 1)) rfl rfl (by kernel_rfl) (by kernel_rfl) (by kernel_rfl) (by kernel_rfl) (fun w hS => by rw [← hra]; exact run_rest vb off _ vc (by omega) hv1 rfl w) hd ?_
  simp only [List.setIfInBounds_toArray, List.set_cons_succ, List.set_cons_zero]
  refine held_put 5 13 (.string (bytesOf p0)) rfl rfl (by kernel_rfl) (by kernel_rfl) (by kernel_rfl) (by kernel_rfl) (fun w hS => rfl) hd ?_
  simp only [List.setIfInBounds_toArray, List.set_cons_succ, List.set_cons_zero]
  refine held_put 6 14 (.slice ra (rs.length + 1 - 1) (vc - 1)) rfl rfl (by kernel_rfl) (by kernel_rfl) (by kernel_rfl) (by kernel_rfl) (fun w hS => rfl) hd ?_
  simp only [List.setIfInBounds_toArray, List.set_cons_succ, List.set_cons_zero]
  refine held_done (by kernel_rfl) ?_
  simp only [Exit.then]
  have hb1' := hb1.trans (hd.mono hb1.size)
  rw [Nat.add_sub_cancel]
  clear h01 h00 hd hb1 hvl1 hvl0 hra
  go_wp2_with (go_at_call 81; refine (HBs.out _).mono ?_; rintro e w2 ⟨pv, rfl, ho2, hb2⟩; have hB2 := below_on hb1' hb2; obtain ⟨pa, pc, rfl, hc1, hc2, hcp⟩ := own_prts ho2)
  go_ret3
  exact ⟨rfl, hB2⟩

theorem stepMakes_nil (m n : Nat) (old : List UInt8) (w0 : World) (v : Value) (h1 : 1 ≤ m) (hn : m ≤ 4096) (hw : whole m = false) (hs : Strs w0 v []) (hZ : Tz w0) :
    Calls Tryz.prog 71 #[.int .i64 (m : Int), .int .i64 (n : Int), .string (bytesOf old), v] w0 fun e w' => e = .returned (.tuple #[.string { data := #[] }, .string { data := #[] }, .bool false]) ∧ Below w0.heap.size w0 w' := by
  have HLv := Lib.hid (level_any m w0 h1 hn hZ)
  rw [hw] at HLv
  obtain ⟨va, vc, rfl, hv1, hv2, hv3, hv4⟩ := hs
  clear hZ hv3 hv4 hw
  go_enter Tryz.func71, Tryz.ntmps71
  go_wp2_with (go_at_call 79; refine HLv.out.mono ?_; rintro e w1 ⟨rfl, hb1⟩)
  go_ret3
  exact ⟨rfl, hb1⟩
/-- whatever the step is -/
theorem stepMakes_any (m n : Nat) (old : List UInt8) (ps : List (List UInt8)) (w0 : World) (v : Value) (h1 : 1 ≤ m) (h2 : m < n) (hn : n ≤ 4096) (hx : old.length = 32) (hp : ∀ y ∈ ps, y.length = 32) (hs : Strs w0 v ps) (hT : Tab w0) (hZ : Tz w0) :
    Calls Tryz.prog 71 #[.int .i64 (m : Int), .int .i64 (n : Int), .string (bytesOf old), v] w0 fun e w' => e = .returned (.tuple (smV (smR nd old m n ps))) ∧ Below w0.heap.size w0 w' := by
  unfold smR
  cases hw : whole m with
  | true =>
    rw [if_pos rfl]
    unfold smOf
    by_cases hl : ps.length = (bits ((m - 1) / 2 ^ lev m) ((n - 1) / 2 ^ lev m)).length
    · rw [if_pos hl]
      exact stepMakes_all m n old ps w0 v h1 h2 hn hx hp hl hw hs hT hZ
    · rw [if_neg hl]
      exact stepMakes_other m n old ps w0 v h1 h2 hn hl hw hs hZ
  | false =>
    rw [if_neg (by simp)]
    cases ps with
    | nil => exact stepMakes_nil m n old w0 v h1 (by omega) hw hs hZ
    | cons p0 rs =>
      show Calls _ _ _ _ fun e w' => e = .returned (.tuple (smV (smOf nd p0 _ rs))) ∧ _
      unfold smOf
      by_cases hl : rs.length = (bits ((m - 1) / 2 ^ lev m) ((n - 1) / 2 ^ lev m)).length
      · rw [if_pos hl]
        exact stepMakes_some m n old p0 rs w0 v h1 h2 hn hp hl hw hs hT hZ
      · rw [if_neg hl]
        exact stepMakes_another m n old p0 rs w0 v h1 h2 hn hl hw hs hZ
end Go.Proofs.YtdjglghecekeoaaGreatDoor.Q

/- The first two unlike texts from the topmost one down: the contract of the developers' call. -/
namespace Go.Proofs.YtdjglghecekeoaaGreatDoor.Q
open Go.RowKit Go.Sort Go.Proofs.YtdjglghecekeoaaGreatDoor.U Go.Proofs.YtdjglghecekeoaaGreatDoor.R
set_option maxRecDepth 100000

theorem text_beq (s t : List UInt8) : ((bytesOf s).toList == (bytesOf t).toList) = decide (s = t) := by
  rw [ByteArray.toList_eq, ByteArray.toList_eq, bytesOf_toList, bytesOf_toList]
  by_cases h : s = t
  · subst h; simp
  · rw [decide_eq_false h, beq_eq_false_iff_ne]; exact h
section
variable {a : Act} {d : Option Tmp} {x y : Operand} {t' : TypeId} {pos : String} {after : Array Edge} {gd : Option (Nat × Bool)} {r : TypeId}
end
end Go.Proofs.YtdjglghecekeoaaGreatDoor.Q

/- The contracts of the developers' leads and Follows. -/
namespace Go.Proofs.YtdjglghecekeoaaGreatDoor.Q
open Go.RowKit Go.Sort Go.Proofs.YtdjglghecekeoaaGreatDoor.U Go.Proofs.YtdjglghecekeoaaGreatDoor.R
set_option maxRecDepth 100000

def leadsB (m n : Nat) (old root : List UInt8) (ps : List (List UInt8)) : Bool := if m = 0 then decide (ps = [] ∧ old = e0) else if m = n then decide (ps = [] ∧ old = root) else decide (smR nd old m n ps = some (old, root))
theorem endS_all (old : List UInt8) (ps : List (List UInt8)) : endS old ps.reverse true = if ps = [] then some old else none := by
  cases h : ps.reverse with
  | nil => rw [if_pos (by simpa using h)]; rfl
  | cons x r => rw [if_neg (by intro e; subst e; cases h)]; rfl
theorem follows_leads {m n : Nat} {old root : List UInt8} {ps : List (List UInt8)} (hm : m ≤ n) (hok : followsOkB (m : Int) (n : Int) old root ps = true) : followsE (m : Int) (n : Int) old root ps = if leadsB m n old root ps = true then 0 else 13 := by
  unfold followsE leadsB
  rw [if_pos hok, Int.toNat_natCast, Int.toNat_natCast]
  by_cases h0 : m = 0
  · subst h0
    rw [if_pos (show ((0 : Nat) : Int) = 0 from rfl), if_pos rfl]
    by_cases h : ps = [] ∧ old = e0
    · rw [if_pos h, if_pos (decide_eq_true h)]
    · rw [if_neg h, if_neg (by rw [decide_eq_true_eq]; exact h)]
  · rw [if_neg (show ¬ (m : Int) = 0 by omega), if_neg h0]
    by_cases hmn : m = n
    · subst hmn
      rw [if_pos rfl, oldS_all, newS_all, endS_all]
      by_cases h : ps = []
      · rw [if_pos h]
        by_cases h2 : old = root
        · rw [if_pos ⟨rfl, by rw [h2]⟩, if_pos (decide_eq_true ⟨h, h2⟩)]
        · rw [if_neg (fun e => h2 (Option.some.inj e.2)), if_neg (by rw [decide_eq_true_eq]; exact fun e => h2 e.2)]
      · rw [if_neg h, if_neg (fun e => by cases e.1), if_neg (by rw [decide_eq_true_eq]; exact fun e => h e.1)]
    · rw [if_neg hmn, ← sm_is nd old m n ps (by omega) (by omega)]
      cases ho : oldS nd old ps.reverse m n true with
      | none => rw [if_neg (fun e => by cases e.1), if_neg (by rw [decide_eq_true_eq]; exact fun e => by cases e)]
      | some a =>
        cases hw : newS nd old ps.reverse m n true with
        | none => rw [if_neg (fun e => by cases e.2), if_neg (by rw [decide_eq_true_eq]; exact fun e => by cases e)]
        | some b =>
          by_cases h : a = old ∧ b = root
          · obtain ⟨rfl, rfl⟩ := h
            rw [if_pos ⟨rfl, rfl⟩]
            exact (if_pos (decide_eq_true rfl)).symm
          · rw [if_neg (fun e => h ⟨Option.some.inj e.1, Option.some.inj e.2⟩), if_neg (by rw [decide_eq_true_eq]; intro e; injection e with e; injection e with e1 e2; exact h ⟨e1, e2⟩)]

set_option maxHeartbeats 1600000 in
theorem leads_any (m n : Nat) (old root : List UInt8) (ps : List (List UInt8)) (w : World) (v : Value) (hm : m ≤ n) (hn : n ≤ 4096) (ho : old.length = 32) (hp : ∀ y ∈ ps, y.length = 32) (hs : Strs w v ps) (hT : Tab w) (hZ : Tz w) :
    Calls Tryz.prog 45 #[.int .i64 (m : Int), .int .i64 (n : Int), .string (bytesOf old), .string (bytesOf root), v] w fun e w' => e = .returned (.bool (leadsB m n old root ps)) ∧ Below w.heap.size w w' := by
  obtain ⟨B, hB⟩ : ∃ B, leadsB m n old root ps = B := ⟨_, rfl⟩
  rw [hB]
  unfold leadsB at hB
  by_cases h0 : m = 0
  · rw [if_pos h0] at hB
    subst h0
    by_cases hps : ps = []
    · subst hps
      have H0 := Lib.hid (dRoot_any [] w (.slice none 0 0) (Nat.zero_le _) (fun x h => by cases h) ⟨none, 0, rfl, Nat.le_refl _, by unfold maxLen; omega, fun _ => rfl, fun h => absurd rfl h⟩ hT)
      rw [show rt ([] : List (List UInt8)) = e0 from rootL_nil nd e0] at H0
      obtain ⟨va, vc, rfl, hv1, hv2, hv3, hv4⟩ := hs
      have hq := text_beq old e0
      by_cases he : old = e0
      · have HB : Hid (B = true) := Lib.hid (by rw [← hB]; exact decide_eq_true ⟨rfl, he⟩)
        rw [decide_eq_true he] at hq
        clear hB hv3 hv4 hT hZ he
        go_enter Tryz.func45, Tryz.ntmps45
        go_wp2_with (go_at_call 70; refine H0.out.mono ?_; rintro e w1 ⟨rfl, hb1⟩)
        go_ret
        exact ⟨ret1_of (by rw [HB.out]; rfl), hb1⟩
      · have HB : Hid (B = false) := Lib.hid (by rw [← hB]; exact decide_eq_false (fun h => he h.2))
        rw [decide_eq_false he] at hq
        clear hB hv3 hv4 hT hZ he
        go_enter Tryz.func45, Tryz.ntmps45
        go_wp2_with (go_at_call 70; refine H0.out.mono ?_; rintro e w1 ⟨rfl, hb1⟩)
        go_ret
        exact ⟨ret1_of (by rw [HB.out]; rfl), hb1⟩
    · have HB : Hid (B = false) := Lib.hid (by rw [← hB]; exact decide_eq_false (fun h => hps h.1))
      have hl : ((ps.length : Int) == 0) = false := by have := List.length_pos_iff.2 hps; simp; omega
      obtain ⟨va, vc, rfl, hv1, hv2, hv3, hv4⟩ := hs
      clear hB hv3 hv4 hT hZ hps
      go_enter Tryz.func45, Tryz.ntmps45
      go_wp2
      go_ret
      exact ⟨ret1_of (by rw [HB.out]; rfl), Below.refl _ _⟩
  · rw [if_neg h0] at hB
    have hm0 : ((m : Int) == 0) = false := by simp; omega
    by_cases hmn : m = n
    · rw [if_pos hmn] at hB
      subst hmn
      by_cases hps : ps = []
      · subst hps
        obtain ⟨va, vc, rfl, hv1, hv2, hv3, hv4⟩ := hs
        have hq := text_beq old root
        by_cases he : old = root
        · have HB : Hid (B = true) := Lib.hid (by rw [← hB]; exact decide_eq_true ⟨rfl, he⟩)
          rw [decide_eq_true he] at hq
          clear hB hv3 hv4 hT hZ he
          go_enter Tryz.func45, Tryz.ntmps45
          go_wp2
          go_ret
          exact ⟨ret1_of (by rw [HB.out]; rfl), Below.refl _ _⟩
        · have HB : Hid (B = false) := Lib.hid (by rw [← hB]; exact decide_eq_false (fun h => he h.2))
          rw [decide_eq_false he] at hq
          clear hB hv3 hv4 hT hZ he
          go_enter Tryz.func45, Tryz.ntmps45
          go_wp2
          go_ret
          exact ⟨ret1_of (by rw [HB.out]; rfl), Below.refl _ _⟩
      · have HB : Hid (B = false) := Lib.hid (by rw [← hB]; exact decide_eq_false (fun h => hps h.1))
        have hl : ((ps.length : Int) == 0) = false := by have := List.length_pos_iff.2 hps; simp; omega
        obtain ⟨va, vc, rfl, hv1, hv2, hv3, hv4⟩ := hs
        clear hB hv3 hv4 hT hZ hps
        go_enter Tryz.func45, Tryz.ntmps45
        go_wp2
        go_ret
        exact ⟨ret1_of (by rw [HB.out]; rfl), Below.refl _ _⟩
    · rw [if_neg hmn] at hB
      have hmn2 : ((m : Int) == (n : Int)) = false := by simp; omega
      have hS := stepMakes_any m n old ps w v (by omega) (by omega) hn ho hp hs hT hZ
      obtain ⟨va, vc, rfl, hv1, hv2, hv3, hv4⟩ := hs
      cases hsm : smR nd old m n ps with
      | none =>
        rw [hsm] at hS hB
        have HS := Lib.hid hS
        unfold smV at HS
        have HB : Hid (B = false) := Lib.hid (by rw [← hB]; exact decide_eq_false (fun h => by cases h))
        clear hB hS hsm hv3 hv4 hT hZ
        go_enter Tryz.func45, Tryz.ntmps45
        go_wp2_with (go_at_call 71; refine HS.out.mono ?_; rintro e w1 ⟨rfl, hb1⟩)
        go_ret
        exact ⟨ret1_of (by rw [HB.out]; rfl), hb1⟩
      | some uv =>
        obtain ⟨u, z⟩ := uv
        rw [hsm] at hS hB
        have HS := Lib.hid hS
        unfold smV at HS
        have hq1 := text_beq u old
        have hq2 := text_beq z root
        by_cases he1 : u = old
        · rw [decide_eq_true he1] at hq1
          by_cases he2 : z = root
          · rw [decide_eq_true he2] at hq2
            have HB : Hid (B = true) := Lib.hid (by rw [← hB]; exact decide_eq_true (by rw [he1, he2]))
            clear hB hS hsm hv3 hv4 hT hZ he1 he2
            go_enter Tryz.func45, Tryz.ntmps45
            go_wp2_with (go_at_call 71; refine HS.out.mono ?_; rintro e w1 ⟨rfl, hb1⟩)
            go_ret
            exact ⟨ret1_of (by rw [HB.out]; rfl), hb1⟩
          · rw [decide_eq_false he2] at hq2
            have HB : Hid (B = false) := Lib.hid (by rw [← hB]; exact decide_eq_false (fun h => by injection h with h; injection h with h1 h2; exact he2 h2))
            clear hB hS hsm hv3 hv4 hT hZ he1 he2
            go_enter Tryz.func45, Tryz.ntmps45
            go_wp2_with (go_at_call 71; refine HS.out.mono ?_; rintro e w1 ⟨rfl, hb1⟩)
            go_ret
            exact ⟨ret1_of (by rw [HB.out]; rfl), hb1⟩
        · rw [decide_eq_false he1] at hq1
          have HB : Hid (B = false) := Lib.hid (by rw [← hB]; exact decide_eq_false (fun h => by injection h with h; injection h with h1 h2; exact he1 h1))
          clear hB hS hsm hv3 hv4 hT hZ he1 hq2
          go_enter Tryz.func45, Tryz.ntmps45
          go_wp2_with (go_at_call 71; refine HS.out.mono ?_; rintro e w1 ⟨rfl, hb1⟩)
          go_ret
          exact ⟨ret1_of (by rw [HB.out]; rfl), hb1⟩
end Go.Proofs.YtdjglghecekeoaaGreatDoor.Q

/- The contract of the developers' Follows. -/
namespace Go.Proofs.YtdjglghecekeoaaGreatDoor.Q
open Go.RowKit Go.Sort Go.Proofs.YtdjglghecekeoaaGreatDoor.U Go.Proofs.YtdjglghecekeoaaGreatDoor.R
set_option maxRecDepth 100000

theorem allB_two (x y : List UInt8) : allB [x, y] = (decide (x.length = 32) && decide (y.length = 32)) := by unfold allB; simp
set_option maxHeartbeats 1600000 in
theorem follows_gen (w : World) (v : Value) (old root : List UInt8) (m n : Int) (ps : List (List UInt8)) (hm1 : -9223372036854775808 ≤ m) (hm2 : m ≤ 9223372036854775807) (hn1 : -9223372036854775808 ≤ n) (hn2 : n ≤ 9223372036854775807) (ho : old.length ≤ 100) (hr : root.length ≤ 100) (hs : Strs w v ps) (hx : ∀ x ∈ ps, x.length ≤ maxLen) (hT : Tab w) (hZ : Tz w) :
    Calls Tryz.prog 24 #[.int .i64 m, .int .i64 n, .string (bytesOf old), .string (bytesOf root), v] w fun e w' => e = .returned (.int .i64 (followsE m n old root ps)) ∧ Below w.heap.size w w' := by
  have hal := (Below.refl w.heap.size w).alloc (Nat.le_refl _) (.cells #[.string (bytesOf old), .string (bytesOf root)] 9)
  have h1 : Calls Tryz.prog 44 #[.slice (some ⟨w.heap.size, 0, none⟩) 2 2] (w.alloc (.cells #[.string (bytesOf old), .string (bytesOf root)] 9)) fun e w' => e = .returned (.bool (allB [old, root])) ∧ w.alloc (.cells #[.string (bytesOf old), .string (bytesOf root)] 9) = w' := areSums_any _ _ [old, root] (strs_new w [old, root] (show 2 ≤ 1000 by decide)) (by intro x hx; unfold maxLen; simp only [List.mem_cons, List.not_mem_nil, or_false] at hx; rcases hx with rfl | rfl <;> omega)
  have h2 := fun w1 (hB : Below w.heap.size w w1) => areSums_any w1 v ps (hs.below hB) hx
  rw [allB_two] at h1
  obtain ⟨E, hE⟩ : ∃ E, followsE m n old root ps = E := ⟨_, rfl⟩
  rw [hE]
  have hbad : followsOkB m n old root ps = false → E = 1 := fun h => by rw [← hE]; unfold followsE; rw [h]; rfl
  have hok : followsOkB m n old root ps = (decide (0 ≤ m) && decide (m ≤ n) && decide (n ≤ 4096) && (decide (old.length = 32) && decide (root.length = 32)) && allB ps) := by unfold followsOkB; simp only [Bool.and_assoc]
  have h2' := h2 _ hal
  have H1 := Lib.hid h1
  have H2 := Lib.hid h2'
  have HS := Lib.hid hs
  have HT := Lib.hid (hT.below hal)
  have HZ := Lib.hid (hZ.below hal)
  have HSa := Lib.hid (hs.below hal)
  obtain ⟨va, vc, rfl, hv1, hv2, hv3, hv4⟩ := hs
  clear hv3 hv4 hx h1 h2 h2' hT hZ
  by_cases c1 : 0 ≤ m
  · by_cases c2 : m ≤ n
    · by_cases c3 : n ≤ 4096
      · cases c4 : (decide (old.length = 32) && decide (root.length = 32)) with
        | false =>
          have HE := Lib.hid (hbad (by rw [hok, c4]; simp))
          rw [c4] at H1
          clear hbad hok hE c4 ho hr
          go_enter Tryz.func24, Tryz.ntmps24
          go_wp2_with (first | (go_at_call 44; with_reducible refine H1.out.mono ?_; rintro e w1 ⟨rfl, rfl⟩))
          go_ret
          exact ⟨ret1_of (by rw [HE.out]; rfl), hal⟩
        | true =>
          cases c5 : allB ps with
          | false =>
            have HE := Lib.hid (hbad (by rw [hok, c5]; simp))
            rw [c4] at H1
            rw [c5] at H2
            clear hbad hok hE c4 c5 ho hr
            go_enter Tryz.func24, Tryz.ntmps24
            go_wp2_with (first | (go_at_call 44; with_reducible refine H1.out.mono ?_; rintro e w1 ⟨rfl, rfl⟩) | (go_at_call 44; with_reducible refine H2.out.mono ?_; rintro e w2 ⟨rfl, rfl⟩))
            go_ret
            exact ⟨ret1_of (by rw [HE.out]; rfl), hal⟩
          | true =>
            rw [c4] at H1
            rw [c5] at H2
            simp only [Bool.and_eq_true, decide_eq_true_eq] at c4
            obtain ⟨j, rfl⟩ : ∃ j : Nat, m = (j : Int) := ⟨m.toNat, by omega⟩
            obtain ⟨N, rfl⟩ : ∃ N : Nat, n = (N : Int) := ⟨n.toNat, by omega⟩
            have hF := follows_leads (m := j) (n := N) (old := old) (root := root) (ps := ps) (by omega) (by rw [hok, c5, decide_eq_true c1, decide_eq_true c2, decide_eq_true c3, decide_eq_true c4.1, decide_eq_true c4.2]; rfl)
            rw [hE] at hF
            have hLd := leads_any j N old root ps _ _ (by omega) (by omega) c4.1 (fun y hy => allB_mem c5 hy) HSa.out HT.out HZ.out
            cases hb : leadsB j N old root ps with
            | true =>
              rw [hb] at hF hLd
              have HE := Lib.hid hF
              have HL := Lib.hid hLd
              clear hbad hok hE c4 c5 ho hr hF hLd hb
              go_enter Tryz.func24, Tryz.ntmps24
              go_wp2_with (first | (go_at_call 44; with_reducible refine H1.out.mono ?_; rintro e w1 ⟨rfl, rfl⟩) | (go_at_call 44; with_reducible refine H2.out.mono ?_; rintro e w2 ⟨rfl, rfl⟩) | (go_at_call 45; refine HL.out.mono ?_; rintro e w3 ⟨rfl, hb3⟩))
              go_ret
              exact ⟨ret1_of (by rw [HE.out]; rfl), below_on hal hb3⟩
            | false =>
              rw [hb] at hF hLd
              have HE := Lib.hid hF
              have HL := Lib.hid hLd
              clear hbad hok hE c4 c5 ho hr hF hLd hb
              go_enter Tryz.func24, Tryz.ntmps24
              go_wp2_with (first | (go_at_call 44; with_reducible refine H1.out.mono ?_; rintro e w1 ⟨rfl, rfl⟩) | (go_at_call 44; with_reducible refine H2.out.mono ?_; rintro e w2 ⟨rfl, rfl⟩) | (go_at_call 45; refine HL.out.mono ?_; rintro e w3 ⟨rfl, hb3⟩))
              go_ret
              exact ⟨ret1_of (by rw [HE.out]; rfl), below_on hal hb3⟩
      · have HE := Lib.hid (hbad (by rw [hok, decide_eq_false c3]; simp))
        clear hbad hok hE ho hr
        go_enter Tryz.func24, Tryz.ntmps24
        go_wp2
        go_ret
        exact ⟨ret1_of (by rw [HE.out]; rfl), Below.refl _ _⟩
    · have HE := Lib.hid (hbad (by rw [hok, decide_eq_false c2]; simp))
      clear hbad hok hE ho hr
      go_enter Tryz.func24, Tryz.ntmps24
      go_wp2
      go_ret
      exact ⟨ret1_of (by rw [HE.out]; rfl), Below.refl _ _⟩
  · have HE := Lib.hid (hbad (by rw [hok, decide_eq_false c1]; simp))
    clear hbad hok hE ho hr
    go_enter Tryz.func24, Tryz.ntmps24
    go_wp2
    go_ret
    exact ⟨ret1_of (by rw [HE.out]; rfl), Below.refl _ _⟩
end Go.Proofs.YtdjglghecekeoaaGreatDoor.Q

/- What is answered, as the chapter says: what the walks of the statements of stage 9 share. -/
namespace Go.Proofs.YtdjglghecekeoaaGreatDoor.Q
open Go.RowKit Go.Sort Go.Proofs.YtdjglghecekeoaaGreatDoor.U Go.Proofs.YtdjglghecekeoaaGreatDoor.R
set_option maxRecDepth 100000

theorem stepOkB_yes {l : List (List UInt8)} {m : Nat} (hr : rowB l = true) (hm : m ≤ l.length) : stepOkB l (m : Int) = true := by
  unfold stepOkB
  rw [hr, decide_eq_true (show (0 : Int) ≤ (m : Int) by omega), decide_eq_true (show (m : Int) ≤ (l.length : Int) by omega)]
  rfl
theorem stepA_zero {l : List (List UInt8)} (hr : rowB l = true) : stepA l 0 = [] ∧ stepE l 0 = 0 := by
  have h : stepOkB l 0 = true := stepOkB_yes (m := 0) hr (Nat.zero_le _)
  unfold stepA stepE
  rw [if_pos h, if_neg (fun h => by have := h.2; omega)]
  exact ⟨rfl, rfl⟩
theorem stepA_yes {l : List (List UInt8)} {m : Nat} (hr : rowB l = true) (h1 : 1 ≤ m) (hm : m ≤ l.length) : stepA l (m : Int) = (stepT nd e0 l m true).reverse ∧ stepE l (m : Int) = 0 := by
  have h := stepOkB_yes hr hm
  unfold stepA stepE
  rw [if_pos h, if_pos ⟨h, by omega⟩, Int.toNat_natCast]
  exact ⟨rfl, rfl⟩
theorem toList_ne {s t : List UInt8} (h : s ≠ t) : ((bytesOf s).toList == (bytesOf t).toList) = false := by
  rw [toList_of, toList_of]
  simp [h]
theorem followsOkB_yes {m n : Nat} {old root : List UInt8} {ps : List (List UInt8)} (hm : m ≤ n) (hn : n ≤ 4096) (ho : old.length = 32) (hr : root.length = 32) (hp : allB ps = true) : followsOkB (m : Int) (n : Int) old root ps = true := by
  unfold followsOkB
  rw [hp, decide_eq_true (show (0 : Int) ≤ (m : Int) by omega), decide_eq_true (show (m : Int) ≤ (n : Int) by omega), decide_eq_true (show (n : Int) ≤ 4096 by omega), decide_eq_true ho, decide_eq_true hr]
  rfl
theorem followsE_zero {n : Nat} {old root : List UInt8} {ps : List (List UInt8)} (hn : n ≤ 4096) (ho : old.length = 32) (hr : root.length = 32) (hp : allB ps = true) : followsE ((0 : Nat) : Int) (n : Int) old root ps = if ps = [] ∧ old = e0 then 0 else 13 := by
  unfold followsE
  rw [if_pos (followsOkB_yes (Nat.zero_le _) hn ho hr hp), if_pos (show ((0 : Nat) : Int) = 0 from rfl)]
theorem followsE_yes {m n : Nat} {old root : List UInt8} {ps : List (List UInt8)} (h1 : 1 ≤ m) (hm : m ≤ n) (hn : n ≤ 4096) (ho : old.length = 32) (hr : root.length = 32) (hp : allB ps = true) : followsE (m : Int) (n : Int) old root ps = if oldS nd old ps.reverse m n true = some old ∧ newS nd old ps.reverse m n true = some root then 0 else 13 := by
  unfold followsE
  rw [if_pos (followsOkB_yes hm hn ho hr hp), if_neg (by omega), Int.toNat_natCast, Int.toNat_natCast]
end Go.Proofs.YtdjglghecekeoaaGreatDoor.Q

/- The contract of the developers' Goes: why one head may not follow another one. -/
namespace Go.Proofs.YtdjglghecekeoaaGreatDoor.J
open Go.RowKit Go.Sort Go.Proofs.YtdjglghecekeoaaGreatDoor.U Go.Proofs.YtdjglghecekeoaaGreatDoor.R Go.Proofs.YtdjglghecekeoaaGreatDoor.Q
set_option maxRecDepth 100000

/-- Goes' answer -/
def goesE (s : Int) (r : List UInt8) (t : Int) (g : List UInt8) (s2 : Int) (r2 : List UInt8) (t2 : Int) (g2 : List UInt8) (ps : List (List UInt8)) : Int :=
  if rightH s r t g = true ∧ rightH s2 r2 t2 g2 = true then (if s = s2 ∧ r ≠ r2 then 38 else if s2 < s ∨ t2 < t then 14 else followsE s s2 r r2 ps) else 1

set_option maxHeartbeats 6400000 in
theorem goesH_any (s : Int) (r : List UInt8) (t : Int) (g : List UInt8) (s2 : Int) (r2 : List UInt8) (t2 : Int) (g2 : List UInt8) (v : Value) (ps : List (List UInt8)) (W : World) (hs : Strs W v ps) (hx : ∀ x ∈ ps, x.length ≤ maxLen) (hT : Tab W) (hZ : Tz W) :
    Calls Tryz.prog 23 #[.agg (headA s r t g), .agg (headA s2 r2 t2 g2), v] W fun e w' => e = .returned (.int .i64 (goesE s r t g s2 r2 t2 g2 ps)) ∧ Below W.heap.size W w' := by
  have HA := Lib.hid (fun w => rightH_any s r t g w)
  have HC := Lib.hid (fun w => rightH_any s2 r2 t2 g2 w)
  have hL : Lies ((W.alloc (.cells (headA s r t g) 23)).alloc (.cells (headA s2 r2 t2 g2) 23)) W.heap.size 23 (headA s r t g) := (Lies.new W _ _).alloc _
  have hM : Lies ((W.alloc (.cells (headA s r t g) 23)).alloc (.cells (headA s2 r2 t2 g2) 23)) (W.heap.size + 1) 23 (headA s2 r2 t2 g2) := box_two W _ _ _
  have hB := ((Below.refl W.heap.size W).alloc (Nat.le_refl _) (.cells (headA s r t g) 23)).alloc (by simp) (.cells (headA s2 r2 t2 g2) 23)
  have hs0 := hs
  obtain ⟨va, vc, rfl, hvc⟩ := hs0
  clear hvc
  obtain ⟨E, hE⟩ : ∃ E, goesE s r t g s2 r2 t2 g2 ps = E := ⟨_, rfl⟩
  rw [hE]
  unfold goesE at hE
  cases h1 : rightH s r t g with
  | false =>
    obtain rfl : E = 1 := by rw [← hE, if_neg (fun h => by rw [h1] at h; cases h.1)]
    rw [h1] at HA
    clear hE h1 hs hx hT hZ HC
    go_enter Tryz.func23, Tryz.ntmps23
    go_upto_region 1 with fail
    generalize hgw : World.alloc (World.alloc _ _) _ = w0
    replace hL : Lies w0 W.heap.size 23 (headA s r t g) := by rw [← hgw]; exact hL
    replace hM : Lies w0 (W.heap.size + 1) 23 (headA s2 r2 t2 g2) := by rw [← hgw]; exact hM
    replace hB : Below W.heap.size W w0 := by rw [← hgw]; exact hB
    clear hgw
    go_wp2_with (first
      | ((with_reducible refine wpL_load W.heap.size 23 (headA s r t g) 4 rowHead rfl hL ?_ ?_); rfl)
      | ((with_reducible refine wpL_load_gH W.heap.size 23 (headA s r t g) 4 rowHead rfl hL ?_ ?_ ?_); rfl; rfl)
      | (go_at_call 12; (with_reducible refine (HA.out _).mono ?_); rintro e w1 ⟨rfl, hb⟩; replace hL := hL.on hb; replace hM := hM.on hb; replace hB := below_on hB hb; clear hb))
    go_ret
    exact ⟨rfl, hB⟩
  | true =>
    cases h2 : rightH s2 r2 t2 g2 with
    | false =>
      obtain rfl : E = 1 := by rw [← hE, if_neg (fun h => by rw [h2] at h; cases h.2)]
      rw [h1] at HA
      rw [h2] at HC
      clear hE h1 h2 hs hx hT hZ
      go_enter Tryz.func23, Tryz.ntmps23
      go_upto_region 1 with fail
      generalize hgw : World.alloc (World.alloc _ _) _ = w0
      replace hL : Lies w0 W.heap.size 23 (headA s r t g) := by rw [← hgw]; exact hL
      replace hM : Lies w0 (W.heap.size + 1) 23 (headA s2 r2 t2 g2) := by rw [← hgw]; exact hM
      replace hB : Below W.heap.size W w0 := by rw [← hgw]; exact hB
      clear hgw
      go_wp2_with (first
        | ((with_reducible refine wpL_load W.heap.size 23 (headA s r t g) 4 rowHead rfl hL ?_ ?_); rfl)
        | ((with_reducible refine wpL_load_gH W.heap.size 23 (headA s r t g) 4 rowHead rfl hL ?_ ?_ ?_); rfl; rfl)
        | (go_at_call 12; (with_reducible refine (HA.out _).mono ?_); rintro e w1 ⟨rfl, hb⟩; replace hL := hL.on hb; replace hM := hM.on hb; replace hB := below_on hB hb; clear hb)
        | ((with_reducible refine wpL_load (W.heap.size + 1) 23 (headA s2 r2 t2 g2) 4 rowHead rfl hM ?_ ?_); rfl)
        | ((with_reducible refine wpL_load_gH (W.heap.size + 1) 23 (headA s2 r2 t2 g2) 4 rowHead rfl hM ?_ ?_ ?_); rfl; rfl)
        | (go_at_call 12; (with_reducible refine (HC.out _).mono ?_); rintro e w2 ⟨rfl, hb⟩; replace hL := hL.on hb; replace hM := hM.on hb; replace hB := below_on hB hb; clear hb))
      go_ret
      exact ⟨rfl, hB⟩
    | true =>
      rw [if_pos ⟨h1, h2⟩] at hE
      rw [h1] at HA
      rw [h2] at HC
      obtain ⟨a1, a2, _, _, a5⟩ := mayH_of (rightH_of h1).1
      obtain ⟨b1, b2, _, _, b5⟩ := mayH_of (rightH_of h2).1
      have HF := Lib.hid (fun w (hb : Below W.heap.size W w) => follows_gen w _ r r2 s s2 ps (by omega) (by omega) (by omega) (by omega) (by omega) (by omega) (hs.below hb) hx (hT.below hb) (hZ.below hb))
      clear h1 h2 hs hx hT hZ
      by_cases c1 : s = s2
      · subst c1
        by_cases c2 : r = r2
        · subst c2
          rw [if_neg (fun h => h.2 rfl)] at hE
          by_cases c3 : t2 < t
          · obtain rfl : E = 14 := by rw [← hE, if_pos (.inr c3)]
            clear hE HF a1 a2 a5 b1 b2 b5
            go_enter Tryz.func23, Tryz.ntmps23
            go_upto_region 1 with fail
            generalize hgw : World.alloc (World.alloc _ _) _ = w0
            replace hL : Lies w0 W.heap.size 23 (headA s r t g) := by rw [← hgw]; exact hL
            replace hM : Lies w0 (W.heap.size + 1) 23 (headA s r t2 g2) := by rw [← hgw]; exact hM
            replace hB : Below W.heap.size W w0 := by rw [← hgw]; exact hB
            clear hgw
            go_upto_region 3 with (first
              | ((with_reducible refine wpL_load W.heap.size 23 (headA s r t g) 4 rowHead rfl hL ?_ ?_); rfl)
              | ((with_reducible refine wpL_load_gH W.heap.size 23 (headA s r t g) 4 rowHead rfl hL ?_ ?_ ?_); rfl; rfl)
              | (go_at_call 12; (with_reducible refine (HA.out _).mono ?_); rintro e w1 ⟨rfl, hb⟩; replace hL := hL.on hb; replace hM := hM.on hb; replace hB := below_on hB hb; clear hb)
              | ((with_reducible refine wpL_load (W.heap.size + 1) 23 (headA s r t2 g2) 4 rowHead rfl hM ?_ ?_); rfl)
              | ((with_reducible refine wpL_load_gH (W.heap.size + 1) 23 (headA s r t2 g2) 4 rowHead rfl hM ?_ ?_ ?_); rfl; rfl)
              | (go_at_call 12; (with_reducible refine (HC.out _).mono ?_); rintro e w2 ⟨rfl, hb⟩; replace hL := hL.on hb; replace hM := hM.on hb; replace hB := below_on hB hb; clear hb))
            have p0 := hd_s hL
            have p1 := hd_r hL
            have p2 := hd_t hL
            have q0 := hd_s hM
            have q1 := hd_r hM
            have q2 := hd_t hM
            clear hL hM HA HC
            go_wp2
            go_ret
            exact ⟨rfl, hB⟩
          · rw [if_neg (by omega)] at hE
            rw [hE] at HF
            clear hE a1 a2 a5 b1 b2 b5
            go_enter Tryz.func23, Tryz.ntmps23
            go_upto_region 1 with fail
            generalize hgw : World.alloc (World.alloc _ _) _ = w0
            replace hL : Lies w0 W.heap.size 23 (headA s r t g) := by rw [← hgw]; exact hL
            replace hM : Lies w0 (W.heap.size + 1) 23 (headA s r t2 g2) := by rw [← hgw]; exact hM
            replace hB : Below W.heap.size W w0 := by rw [← hgw]; exact hB
            clear hgw
            go_upto_region 3 with (first
              | ((with_reducible refine wpL_load W.heap.size 23 (headA s r t g) 4 rowHead rfl hL ?_ ?_); rfl)
              | ((with_reducible refine wpL_load_gH W.heap.size 23 (headA s r t g) 4 rowHead rfl hL ?_ ?_ ?_); rfl; rfl)
              | (go_at_call 12; (with_reducible refine (HA.out _).mono ?_); rintro e w1 ⟨rfl, hb⟩; replace hL := hL.on hb; replace hM := hM.on hb; replace hB := below_on hB hb; clear hb)
              | ((with_reducible refine wpL_load (W.heap.size + 1) 23 (headA s r t2 g2) 4 rowHead rfl hM ?_ ?_); rfl)
              | ((with_reducible refine wpL_load_gH (W.heap.size + 1) 23 (headA s r t2 g2) 4 rowHead rfl hM ?_ ?_ ?_); rfl; rfl)
              | (go_at_call 12; (with_reducible refine (HC.out _).mono ?_); rintro e w2 ⟨rfl, hb⟩; replace hL := hL.on hb; replace hM := hM.on hb; replace hB := below_on hB hb; clear hb))
            have p0 := hd_s hL
            have p1 := hd_r hL
            have p2 := hd_t hL
            have q0 := hd_s hM
            have q1 := hd_r hM
            have q2 := hd_t hM
            clear hL hM HA HC
            go_wp2_with (first
              | (go_at_call 24; (with_reducible refine (HF.out _ hB).mono ?_); rintro e w3 ⟨rfl, hb⟩; replace hB := below_on hB hb; clear hb))
            go_ret
            exact ⟨rfl, hB⟩
        · have hne := toList_ne c2
          obtain rfl : E = 38 := by rw [← hE, if_pos ⟨rfl, c2⟩]
          clear hE HF a1 a2 a5 b1 b2 b5 c2
          go_enter Tryz.func23, Tryz.ntmps23
          go_upto_region 1 with fail
          generalize hgw : World.alloc (World.alloc _ _) _ = w0
          replace hL : Lies w0 W.heap.size 23 (headA s r t g) := by rw [← hgw]; exact hL
          replace hM : Lies w0 (W.heap.size + 1) 23 (headA s r2 t2 g2) := by rw [← hgw]; exact hM
          replace hB : Below W.heap.size W w0 := by rw [← hgw]; exact hB
          clear hgw
          go_upto_region 3 with (first
            | ((with_reducible refine wpL_load W.heap.size 23 (headA s r t g) 4 rowHead rfl hL ?_ ?_); rfl)
            | ((with_reducible refine wpL_load_gH W.heap.size 23 (headA s r t g) 4 rowHead rfl hL ?_ ?_ ?_); rfl; rfl)
            | (go_at_call 12; (with_reducible refine (HA.out _).mono ?_); rintro e w1 ⟨rfl, hb⟩; replace hL := hL.on hb; replace hM := hM.on hb; replace hB := below_on hB hb; clear hb)
            | ((with_reducible refine wpL_load (W.heap.size + 1) 23 (headA s r2 t2 g2) 4 rowHead rfl hM ?_ ?_); rfl)
            | ((with_reducible refine wpL_load_gH (W.heap.size + 1) 23 (headA s r2 t2 g2) 4 rowHead rfl hM ?_ ?_ ?_); rfl; rfl)
            | (go_at_call 12; (with_reducible refine (HC.out _).mono ?_); rintro e w2 ⟨rfl, hb⟩; replace hL := hL.on hb; replace hM := hM.on hb; replace hB := below_on hB hb; clear hb))
          have p0 := hd_s hL
          have p1 := hd_r hL
          have p2 := hd_t hL
          have q0 := hd_s hM
          have q1 := hd_r hM
          have q2 := hd_t hM
          clear hL hM HA HC
          go_wp2
          go_ret
          exact ⟨rfl, hB⟩
      · rw [if_neg (fun h => c1 h.1)] at hE
        have hi : (s == s2) = false := by simp [c1]
        by_cases c3 : s2 < s
        · obtain rfl : E = 14 := by rw [← hE, if_pos (.inl c3)]
          clear hE HF a1 a2 a5 b1 b2 b5
          go_enter Tryz.func23, Tryz.ntmps23
          go_upto_region 1 with fail
          generalize hgw : World.alloc (World.alloc _ _) _ = w0
          replace hL : Lies w0 W.heap.size 23 (headA s r t g) := by rw [← hgw]; exact hL
          replace hM : Lies w0 (W.heap.size + 1) 23 (headA s2 r2 t2 g2) := by rw [← hgw]; exact hM
          replace hB : Below W.heap.size W w0 := by rw [← hgw]; exact hB
          clear hgw
          go_upto_region 3 with (first
            | ((with_reducible refine wpL_load W.heap.size 23 (headA s r t g) 4 rowHead rfl hL ?_ ?_); rfl)
            | ((with_reducible refine wpL_load_gH W.heap.size 23 (headA s r t g) 4 rowHead rfl hL ?_ ?_ ?_); rfl; rfl)
            | (go_at_call 12; (with_reducible refine (HA.out _).mono ?_); rintro e w1 ⟨rfl, hb⟩; replace hL := hL.on hb; replace hM := hM.on hb; replace hB := below_on hB hb; clear hb)
            | ((with_reducible refine wpL_load (W.heap.size + 1) 23 (headA s2 r2 t2 g2) 4 rowHead rfl hM ?_ ?_); rfl)
            | ((with_reducible refine wpL_load_gH (W.heap.size + 1) 23 (headA s2 r2 t2 g2) 4 rowHead rfl hM ?_ ?_ ?_); rfl; rfl)
            | (go_at_call 12; (with_reducible refine (HC.out _).mono ?_); rintro e w2 ⟨rfl, hb⟩; replace hL := hL.on hb; replace hM := hM.on hb; replace hB := below_on hB hb; clear hb))
          have p0 := hd_s hL
          have p1 := hd_r hL
          have p2 := hd_t hL
          have q0 := hd_s hM
          have q1 := hd_r hM
          have q2 := hd_t hM
          clear hL hM HA HC
          go_wp2
          go_ret
          exact ⟨rfl, hB⟩
        · by_cases c4 : t2 < t
          · obtain rfl : E = 14 := by rw [← hE, if_pos (.inr c4)]
            clear hE HF a1 a2 a5 b1 b2 b5
            go_enter Tryz.func23, Tryz.ntmps23
            go_upto_region 1 with fail
            generalize hgw : World.alloc (World.alloc _ _) _ = w0
            replace hL : Lies w0 W.heap.size 23 (headA s r t g) := by rw [← hgw]; exact hL
            replace hM : Lies w0 (W.heap.size + 1) 23 (headA s2 r2 t2 g2) := by rw [← hgw]; exact hM
            replace hB : Below W.heap.size W w0 := by rw [← hgw]; exact hB
            clear hgw
            go_upto_region 3 with (first
              | ((with_reducible refine wpL_load W.heap.size 23 (headA s r t g) 4 rowHead rfl hL ?_ ?_); rfl)
              | ((with_reducible refine wpL_load_gH W.heap.size 23 (headA s r t g) 4 rowHead rfl hL ?_ ?_ ?_); rfl; rfl)
              | (go_at_call 12; (with_reducible refine (HA.out _).mono ?_); rintro e w1 ⟨rfl, hb⟩; replace hL := hL.on hb; replace hM := hM.on hb; replace hB := below_on hB hb; clear hb)
              | ((with_reducible refine wpL_load (W.heap.size + 1) 23 (headA s2 r2 t2 g2) 4 rowHead rfl hM ?_ ?_); rfl)
              | ((with_reducible refine wpL_load_gH (W.heap.size + 1) 23 (headA s2 r2 t2 g2) 4 rowHead rfl hM ?_ ?_ ?_); rfl; rfl)
              | (go_at_call 12; (with_reducible refine (HC.out _).mono ?_); rintro e w2 ⟨rfl, hb⟩; replace hL := hL.on hb; replace hM := hM.on hb; replace hB := below_on hB hb; clear hb))
            have p0 := hd_s hL
            have p1 := hd_r hL
            have p2 := hd_t hL
            have q0 := hd_s hM
            have q1 := hd_r hM
            have q2 := hd_t hM
            clear hL hM HA HC
            go_wp2
            go_ret
            exact ⟨rfl, hB⟩
          · rw [if_neg (by omega)] at hE
            rw [hE] at HF
            clear hE a1 a2 a5 b1 b2 b5
            go_enter Tryz.func23, Tryz.ntmps23
            go_upto_region 1 with fail
            generalize hgw : World.alloc (World.alloc _ _) _ = w0
            replace hL : Lies w0 W.heap.size 23 (headA s r t g) := by rw [← hgw]; exact hL
            replace hM : Lies w0 (W.heap.size + 1) 23 (headA s2 r2 t2 g2) := by rw [← hgw]; exact hM
            replace hB : Below W.heap.size W w0 := by rw [← hgw]; exact hB
            clear hgw
            go_upto_region 3 with (first
              | ((with_reducible refine wpL_load W.heap.size 23 (headA s r t g) 4 rowHead rfl hL ?_ ?_); rfl)
              | ((with_reducible refine wpL_load_gH W.heap.size 23 (headA s r t g) 4 rowHead rfl hL ?_ ?_ ?_); rfl; rfl)
              | (go_at_call 12; (with_reducible refine (HA.out _).mono ?_); rintro e w1 ⟨rfl, hb⟩; replace hL := hL.on hb; replace hM := hM.on hb; replace hB := below_on hB hb; clear hb)
              | ((with_reducible refine wpL_load (W.heap.size + 1) 23 (headA s2 r2 t2 g2) 4 rowHead rfl hM ?_ ?_); rfl)
              | ((with_reducible refine wpL_load_gH (W.heap.size + 1) 23 (headA s2 r2 t2 g2) 4 rowHead rfl hM ?_ ?_ ?_); rfl; rfl)
              | (go_at_call 12; (with_reducible refine (HC.out _).mono ?_); rintro e w2 ⟨rfl, hb⟩; replace hL := hL.on hb; replace hM := hM.on hb; replace hB := below_on hB hb; clear hb))
            have p0 := hd_s hL
            have p1 := hd_r hL
            have p2 := hd_t hL
            have q0 := hd_s hM
            have q1 := hd_r hM
            have q2 := hd_t hM
            clear hL hM HA HC
            go_wp2_with (first
              | (go_at_call 24; (with_reducible refine (HF.out _ hB).mono ?_); rintro e w3 ⟨rfl, hb⟩; replace hB := below_on hB hb; clear hb))
            go_ret
            exact ⟨rfl, hB⟩
end Go.Proofs.YtdjglghecekeoaaGreatDoor.J

