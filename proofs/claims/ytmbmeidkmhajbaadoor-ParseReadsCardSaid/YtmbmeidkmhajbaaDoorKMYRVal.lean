/- The reference's Value, whole; ParseReads. -/
import Derived.Test.YtmbmeidkmhajbaaDoorK7
namespace Go.Proofs.YtmbmeidkmhajbaaDoor.V
set_option maxRecDepth 100000
open Go.RowKit Go.Sort Go.Joins

theorem refValue_any (s : ByteArray) (hs : s.size ≤ 70000) : ∀ (L D n p : Nat) (w : World), D + L = 12 → n ≤ 2000 → p ≤ s.size →
    Calls Tryd.prog 17 #[.string s, .int .i64 (p : Int), .int .i64 (D : Int), .int .i64 (n : Int)] w fun e w' => RValPost w s p L n e w' := by
  intro L
  induction L with
  | zero => intro D n p w hD _ _; exact rval_deep w s p D n hD
  | succ L ih =>
    intro D n p w hD hn hp
    by_cases hn2 : n = 2000
    · subst hn2
      exact rval_many w s p L D hD
    have hn3 : n < 2000 := by omega
    have IH : ∀ (p n : Nat) (w : World), p ≤ s.size → n ≤ 2000 → Calls Tryd.prog 17 #[.string s, .int .i64 (p : Int), .int .i64 ((D : Int) + 1), .int .i64 (n : Int)] w fun e w' => RValPost w s p L n e w' := fun p n w h1 h2 => by
      have h := ih (D + 1) n p w (by omega) h2 h1
      rw [show ((D + 1 : Nat) : Int) = (D : Int) + 1 by omega] at h
      exact h
    rcases Nat.lt_or_ge p s.size with hlt | hge
    · by_cases h45 : s[p] = 45
      · exact rval_numm w s p L D n hD hn3 hlt hs h45
      by_cases hd : isDig s[p] = true
      · exact rval_numd w s p L D n hD hn3 hlt hs hd
      by_cases h34 : s[p] = 34
      · exact rval_txt w s p L D n hD hn3 hlt hs h34
      by_cases h91 : s[p] = 91
      · exact rval_list w s p L D n hD hn3 hlt hs h91 IH
      by_cases h123 : s[p] = 123
      · exact rval_map w s p L D n hD hn3 hlt hs h123 IH
      · have hne : ∀ a : UInt8, s[p] ≠ a → ((s[p].toNat : Int) == (a.toNat : Int)) = false := fun a h => byte_neZ h
        refine rval_wrong w s p L D n hD hn3 hp ?_ (s[p].toNat : Int) (sign_at hlt) (hne 45 h45) ?_ (hne 34 h34) ?_ ?_
        · rw [rest_cons hlt, if_neg (by simp)]
          exact begin_odd L n _ hn2 (fun h => h.elim h45 hd) h34 h91 h123
        · rintro ⟨h1, h2⟩
          apply hd
          unfold isDig
          simp
          omega
        · rw [bne_iff_ne]; intro e; exact h91 (UInt8.toNat_inj.1 (show s[p].toNat = 91 by omega))
        · rw [bne_iff_ne]; intro e; exact h123 (UInt8.toNat_inj.1 (show s[p].toNat = 123 by omega))
    · obtain rfl : p = s.size := by omega
      refine rval_wrong w s s.size L D n hD hn3 hp ?_ (-1) (sign_end s) rfl (by omega) rfl rfl rfl
      rw [rest_none, if_pos rfl]
      exact begin_none L n hn2
theorem refParse_all (s : List UInt8) (w : World) (h : s.length ≤ 66000) : Calls Tryd.prog 7 #[.string ⟨s.toArray⟩] w fun e w' => ResPost w s e w' :=
  refParse_any (fun s w hs => refValue_any s (by omega) 12 0 0 0 w rfl (by omega) (Nat.zero_le _)) s w h
theorem reads_all (x : List UInt8) (W : World) (her : ErrAt W) : Calls Tryd.prog 3 #[.string ⟨x.toArray⟩] W fun e w' => e = .returned (.bool true) ∧ Below W.heap.size W w' := reads_walk refParse_all x W her
end Go.Proofs.YtmbmeidkmhajbaaDoor.V
