/- The walks of NumRounds and NumEuclid. -/
import Derived.Test.YteglbjnjjhhloaaNumL1
import Derived.Test.YteglbjnjjhhloaaNumR
set_option linter.unusedVariables false
namespace Go.Proofs.Yteglbjnjjhhloaa
open Go.RowKit
open NumM
namespace NumC
theorem numRounds_walk (a0 a1 : Int) (w : World) (w0 : (Lit.int .i64 a0).wf = true) (w1 : (Lit.int .i64 a1).wf = true) :
    Calls Try.prog 4 #[.int .i64 a0, .int .i64 a1] w fun e w' => e = .returned (.bool true) ∧ Below w.heap.size w w' := by
  by_cases h : -1099511627776 ≤ a0 ∧ a0 ≤ 1099511627776 ∧ 1 ≤ a1 ∧ a1 ≤ 1099511627776
  · obtain ⟨h1, h2, h3, h4⟩ := h
    have q := ediv_bd (-a0) a1 1099511627776 h3 (by omega) (by omega) (by omega)
    go_enter Try.func4, Try.ntmps4
    go_wp2_with (first | (go_at_call 13; go_call (down_yes _ _ _) as e w' ⟨rfl, rfl⟩) | (go_at_call 14; go_call (up_yes _ _ _) as e w' ⟨rfl, rfl⟩) | (go_at_call 15; go_call (between_yes _ _ _ _) as e w' ⟨rfl, rfl⟩) | (go_at_call 16; go_call (rfloor_any _ _ _) as e w' ⟨rfl, rfl⟩))
    go_ret
    exact ⟨rfl, Below.refl _ _⟩
  · by_cases h5 : -1099511627776 ≤ a0 ∧ a0 ≤ 1099511627776
    all_goals
      go_enter Try.func4, Try.ntmps4
      go_wp2_with (first | (go_at_call 13; go_call (down_no _ _ _) as e w' ⟨rfl, rfl⟩) | (go_at_call 14; go_call (up_no _ _ _) as e w' ⟨rfl, rfl⟩) | (go_at_call 15; go_call (between_yes _ _ _ _) as e w' ⟨rfl, rfl⟩) | (go_at_call 15; go_call (between_no _ _ _ _) as e w' ⟨rfl, rfl⟩))
      go_ret
      exact ⟨rfl, Below.refl _ _⟩

theorem of_drewN {B : Nat} {w w' : World} {n : Nat} (h : Below B (w.drewN n) w') : Below B w w' := (below_drewN (Below.refl _ _) n).trans h

set_option maxHeartbeats 4000000 in
theorem numEuclid_walk (a0 a1 a2 : Int) (w : World) (w0 : (Lit.int .i64 a0).wf = true) (w1 : (Lit.int .i64 a1).wf = true) (w2 : (Lit.int .i64 a2).wf = true) :
    Calls Try.prog 8 #[.int .i64 a0, .int .i64 a1, .int .i64 a2] w fun e w' => e = .returned (.bool true) ∧ Below w.heap.size w w' := by
  by_cases h : 0 ≤ a0 ∧ a0 ≤ 1099511627776 ∧ 0 ≤ a1 ∧ a1 ≤ 1099511627776
  · obtain ⟨h1, h2, h3, h4⟩ := h
    have gc : Hid (G a1 a0 = G a0 a1) := G_comm a1 a0
    have hne : (G a0 a1 != G a0 a1) = false := by simp
    -- first test
    have t1 : 0 < a0 + a1 → 1 ≤ G a0 a1 ∧ (a0 % G a0 a1 != 0) = false ∧ (a1 % G a0 a1 != 0) = false := by
      intro hp
      have g1 : 1 ≤ G a0 a1 := by
        by_cases hz : a0 = 0
        · subst hz; rw [zero_G a1 h3]; omega
        · exact G_pos a0 a1 (by omega)
      refine ⟨g1, ?_, ?_⟩
      · rw [Int.emod_eq_zero_of_dvd (G_dvd_left a0 a1 h1)]; rfl
      · rw [Int.emod_eq_zero_of_dvd (G_dvd_right a0 a1 h3)]; rfl
    have g0 := G_nonneg a0 a1
    have g9 := G_le a0 a1 1099511627776 h1 h3 h2 h4
    have t2 : 0 < a2 → (a0 % a2 == 0) = true → (a1 % a2 == 0) = true → (G a0 a1 % a2 != 0) = false := by
      intro hp e1 e2
      rw [beq_iff_eq] at e1 e2
      rw [Int.emod_eq_zero_of_dvd (dvd_G a0 a1 a2 h1 h3 (dvd_of_mod _ _ e1) (dvd_of_mod _ _ e2))]; rfl
    have T1 : (¬ 0 < a0 + a1 ∧ ¬ a0 < a1) ∨ (0 < a0 + a1 ∧ (1 ≤ G a0 a1 ∧ (a0 % G a0 a1 != 0) = false ∧ (a1 % G a0 a1 != 0) = false) ∧ (a0 < a1 ∨ ¬ a0 < a1)) := by
      by_cases hp : 0 < a0 + a1
      · exact .inr ⟨hp, t1 hp, by omega⟩
      · exact .inl ⟨hp, by omega⟩
    have T2 : ¬ 0 < a2 ∨ (0 < a2 ∧ (a0 % a2 == 0) = false) ∨ (0 < a2 ∧ (a0 % a2 == 0) = true ∧ (a1 % a2 == 0) = false) ∨ (0 < a2 ∧ (a0 % a2 == 0) = true ∧ (a1 % a2 == 0) = true ∧ (G a0 a1 % a2 != 0) = false) := by
      by_cases hd : 0 < a2
      · refine .inr ?_
        cases hq : (a0 % a2 == 0)
        · exact .inl ⟨hd, rfl⟩
        · refine .inr ?_
          cases hr : (a1 % a2 == 0)
          · exact .inl ⟨hd, rfl, rfl⟩
          · exact .inr ⟨hd, rfl, rfl, t2 hd hq hr⟩
      · exact .inl hd
    clear t1 t2
    rcases T1 with ⟨hp, hab⟩ | ⟨hp, ⟨p1, p2, p3⟩, hab | hab⟩
    all_goals
      rcases T2 with hd | ⟨hd, hq⟩ | ⟨hd, hq, hr⟩ | ⟨hd, hq, hr, p4⟩
      all_goals
        go_enter Try.func8, Try.ntmps8
        go_wp2_with (first | (go_at_call_of 17 (Value.int .i64 (a0 - a1)); refine (Gcd_yes _ _ _ (by omega) (by omega) (by omega) (by omega)).mono ?_; rw [G_sub a0 a1 h3 (by omega)]; rintro e w' ⟨rfl, n3, rfl⟩) | (go_at_call 17; refine (Gcd_yes _ _ _ (by omega) (by omega) (by omega) (by omega)).mono ?_; (try rw [gc.out]); rintro e w' ⟨rfl, n1, rfl⟩) | (go_at_call 25; refine (lives _).mono ?_; rintro e w' ⟨rfl, hb⟩))
        go_ret
        exact ⟨rfl, by first | exact of_drewN hb | exact below_drewN (of_drewN hb) _⟩
  · go_enter Try.func8, Try.ntmps8
    go_wp2_with (first | (go_at_call 17; go_call (Gcd_no _ _ _) as e w' ⟨rfl, n1, rfl⟩) | (go_at_call 25; refine (lives _).mono ?_; rintro e w' ⟨rfl, hb⟩))
    go_ret
    exact ⟨rfl, of_drewN (bel_trans ‹Below _ (w.drewN _) _› hb)⟩
end NumC
end Go.Proofs.Yteglbjnjjhhloaa
