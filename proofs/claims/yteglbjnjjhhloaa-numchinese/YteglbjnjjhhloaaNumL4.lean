/- The walk of NumChinese. -/
import Derived.Test.YteglbjnjjhhloaaNumL3
set_option linter.unusedVariables false
namespace Go.Proofs.Yteglbjnjjhhloaa
open Go.RowKit
open NumM
namespace NumC
set_option maxHeartbeats 2000000 in
theorem numChinese_no (a0 a1 a2 a3 a4 : Int) (w : World) (w1 : (Lit.int .i64 a1).wf = true) (w3 : (Lit.int .i64 a3).wf = true)
    (h : ¬ (1 ≤ a1 ∧ a1 ≤ 1000000 ∧ 1 ≤ a3 ∧ a3 ≤ 1000000 ∧ 0 ≤ a0 ∧ a0 < a1 ∧ 0 ≤ a2 ∧ a2 < a3)) :
    Calls Try.prog 11 #[.int .i64 a0, .int .i64 a1, .int .i64 a2, .int .i64 a3, .int .i64 a4] w fun e w' => e = .returned (.bool true) ∧ Below w.heap.size w w' := by
  have b1 := wf64 w1
  have b3 := wf64 w3
  go_enter Try.func11, Try.ntmps11
  go_wp2_with (first | (go_at_call 23; go_call (meet_arg _ _ _ _ _) as e w' ⟨rfl, n1, rfl⟩) | (go_at_call 17; go_call (Gcd_yes _ _ _) as e w' ⟨rfl, n2, rfl⟩) | (go_at_call 25; refine (lives _).mono ?_; rintro e w' ⟨rfl, hb⟩))
  all_goals
    go_ret
    exact ⟨rfl, of_drewN' (bel_trans ‹Below _ (w.drewN _) _› hb)⟩

set_option maxHeartbeats 4000000 in
theorem numChinese_none (a0 a1 a2 a3 a4 : Int) (w : World) (w4 : (Lit.int .i64 a4).wf = true)
    (h1 : 1 ≤ a1) (h2 : a1 ≤ 1000000) (h3 : 1 ≤ a3) (h4 : a3 ≤ 1000000) (h5 : 0 ≤ a0) (h6 : a0 < a1) (h7 : 0 ≤ a2) (h8 : a2 < a3) (hc : (a2 - a0).tmod (G a1 a3) ≠ 0) :
    Calls Try.prog 11 #[.int .i64 a0, .int .i64 a1, .int .i64 a2, .int .i64 a3, .int .i64 a4] w fun e w' => e = .returned (.bool true) ∧ Below w.heap.size w w' := by
  have b4 := wf64 w4
  have gp := G_pos a1 a3 h1
  have gl := G_le_left a1 a3 h1
  have m1 : min a1 1099511627776 = a1 := by omega
  have m2 : max 0 a1 = a1 := by omega
  have m3 : min a3 1099511627776 = a3 := by omega
  have m4 : max 0 a3 = a3 := by omega
  have hr : (a0 % G a1 a3 == a2 % G a1 a3) = false := by
    rw [beq_eq_false_iff_ne]; intro e; exact hc ((mod_iff a0 a2 _ gp).2 e)
  have T : a4 < 0 ∨ (¬ a4 < 0 ∧ (a4 % a1 != a0) = true) ∨ (¬ a4 < 0 ∧ (a4 % a1 != a0) = false ∧ (a4 % a3 != a2) = true) := by
    by_cases hn : a4 < 0
    · exact .inl hn
    · refine .inr ?_
      cases hx : (a4 % a1 != a0)
      · refine .inr ⟨hn, rfl, ?_⟩
        rw [bne_iff_ne]; intro hy
        rw [bne_eq_false_iff_eq] at hx
        exact none_of a0 a1 a2 a3 a4 h1 h3 hc hx hy
      · exact .inl ⟨hn, rfl⟩
  have HC : Hid ((a2 - a0).tmod (G a1 a3) ≠ 0) := hc
  clear hc
  rcases T with hn | ⟨hn, hx⟩ | ⟨hn, hx, hy⟩
  all_goals
    go_enter Try.func11, Try.ntmps11
    go_wp2_with (first | (go_at_call 23; refine (meet_none _ _ _ _ _ h1 h2 h3 h4 h5 h6 h7 h8 HC.out).mono ?_; rintro e w' ⟨rfl, n1, rfl⟩) | (go_at_call 17; go_call (Gcd_yes _ _ _) as e w' ⟨rfl, n2, rfl⟩) | (go_at_call 25; refine (lives _).mono ?_; rintro e w' ⟨rfl, hb⟩))
    go_quiet (fail)
    go_wp2
    go_ret
    exact ⟨rfl, by first | exact of_drewN' hb | exact below_drewN (of_drewN' hb) _⟩

set_option maxHeartbeats 4000000 in
theorem numChinese_yes (a0 a1 a2 a3 a4 : Int) (w : World) (w4 : (Lit.int .i64 a4).wf = true)
    (h1 : 1 ≤ a1) (h2 : a1 ≤ 1000000) (h3 : 1 ≤ a3) (h4 : a3 ≤ 1000000) (h5 : 0 ≤ a0) (h6 : a0 < a1) (h7 : 0 ≤ a2) (h8 : a2 < a3) (hc : (a2 - a0).tmod (G a1 a3) = 0) :
    Calls Try.prog 11 #[.int .i64 a0, .int .i64 a1, .int .i64 a2, .int .i64 a3, .int .i64 a4] w fun e w' => e = .returned (.bool true) ∧ Below w.heap.size w w' := by
  have b4 := wf64 w4
  have gp := G_pos a1 a3 h1
  have gl := G_le_left a1 a3 h1
  have m1 : min a1 1099511627776 = a1 := by omega
  have m2 : max 0 a1 = a1 := by omega
  have m3 : min a3 1099511627776 = a3 := by omega
  have m4 : max 0 a3 = a3 := by omega
  have q1 : 0 ≤ a1 / G a1 a3 := Int.ediv_nonneg (by omega) (by omega)
  have q2 : a1 / G a1 a3 ≤ a1 := Int.ediv_le_self _ (by omega)
  have hL := small_mul (a1 / G a1 a3) a3 1000000 1000000 (by omega) (by omega) (by omega) (by omega) (by omega) (by omega)
  have hr : (a0 % G a1 a3 == a2 % G a1 a3) = true := by
    rw [beq_iff_eq]; exact (mod_iff a0 a2 _ gp).1 hc
  have HC : Hid ((a2 - a0).tmod (G a1 a3) = 0) := hc
  clear hc
  go_enter Try.func11, Try.ntmps11
  go_wp2_with fail
  refine (meet_yes _ _ _ _ _ h1 h2 h3 h4 h5 h6 h7 h8 HC.out).mono ?_
  rintro e w' ⟨t, rfl, hm, n1, rfl⟩
  have t1 := hm.lo
  have t2 := hm.hi
  have t3 : (t % a1 != a0) = false := by rw [hm.ma]; simp
  have t4 : (t % a3 != a2) = false := by rw [hm.nb]; simp
  have hL1 : 0 < a1 / G a1 a3 * a3 := by omega
  have T : a4 < 0 ∨ (¬ a4 < 0 ∧ (a4 % a1 != a0) = true) ∨ (¬ a4 < 0 ∧ (a4 % a1 != a0) = false ∧ (a4 % a3 != a2) = true) ∨ (¬ a4 < 0 ∧ (a4 % a1 != a0) = false ∧ (a4 % a3 != a2) = false ∧ t ≤ a4 ∧ ((a4 - t) % (a1 / G a1 a3 * a3) == 0) = true) := by
    by_cases hn : a4 < 0
    · exact .inl hn
    · refine .inr ?_
      cases hx : (a4 % a1 != a0)
      · refine .inr ?_
        cases hy : (a4 % a3 != a2)
        · rw [bne_eq_false_iff_eq] at hx hy
          refine .inr ⟨hn, rfl, rfl, hm.least h1 h3 a4 (by omega) hx hy, ?_⟩
          rw [beq_iff_eq]
          exact Int.emod_eq_zero_of_dvd (hm.far h1 h3 a4 hx hy)
        · exact .inl ⟨hn, rfl, rfl⟩
      · exact .inl ⟨hn, rfl⟩
  clear hm
  rcases T with hn | ⟨hn, hx⟩ | ⟨hn, hx, hy⟩ | ⟨hn, hx, hy, hz, hu⟩
  all_goals
    go_wp2_with (first | (go_at_call 17; go_call (Gcd_yes _ _ _) as e w' ⟨rfl, n2, rfl⟩) | (go_at_call 25; refine (lives _).mono ?_; rintro e w' ⟨rfl, hb⟩))
    go_quiet (fail)
    go_wp2
    go_ret
    exact ⟨rfl, by first | exact of_drewN' hb | exact below_drewN (of_drewN' hb) _⟩

theorem numChinese_walk (a0 a1 a2 a3 a4 : Int) (w : World) (w0 : (Lit.int .i64 a0).wf = true) (w1 : (Lit.int .i64 a1).wf = true) (w2 : (Lit.int .i64 a2).wf = true) (w3 : (Lit.int .i64 a3).wf = true) (w4 : (Lit.int .i64 a4).wf = true) :
    Calls Try.prog 11 #[.int .i64 a0, .int .i64 a1, .int .i64 a2, .int .i64 a3, .int .i64 a4] w fun e w' => e = .returned (.bool true) ∧ Below w.heap.size w w' := by
  by_cases h : 1 ≤ a1 ∧ a1 ≤ 1000000 ∧ 1 ≤ a3 ∧ a3 ≤ 1000000 ∧ 0 ≤ a0 ∧ a0 < a1 ∧ 0 ≤ a2 ∧ a2 < a3
  · obtain ⟨h1, h2, h3, h4, h5, h6, h7, h8⟩ := h
    by_cases hc : (a2 - a0).tmod (G a1 a3) = 0
    · exact numChinese_yes a0 a1 a2 a3 a4 w w4 h1 h2 h3 h4 h5 h6 h7 h8 hc
    · exact numChinese_none a0 a1 a2 a3 a4 w w4 h1 h2 h3 h4 h5 h6 h7 h8 hc
  · exact numChinese_no a0 a1 a2 a3 a4 w w1 w3 h
end NumC
end Go.Proofs.Yteglbjnjjhhloaa
