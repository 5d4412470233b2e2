/- Package vm: within, isNumber, isRegister, goodA, goodB. -/
import Derived.Test.YtceflfdpbgnfjaaInts
import Derived.Test.YtceflfdpbgnfjaaOpenIs
import Derived.Test.YtceflfdpbgnfjaaVmP
set_option linter.unusedVariables false
namespace Go.Proofs.Ytceflfdpbgnfjaa
open Go.RowKit
open Go.Shelf Go.Sort
open SpanM SpanC IntsC
namespace VmC
open VmP
theorem within_any (x lo hi : Int) (w : World) :
    Calls Try.prog 31 #[.int .i64 x, .int .i64 lo, .int .i64 hi] w fun e w' => e = .returned (.bool (decide (lo ≤ x ∧ x ≤ hi))) ∧ w' = w := by
  by_cases h1 : lo ≤ x
  · by_cases h2 : x ≤ hi
    · rw [decide_eq_true (show lo ≤ x ∧ x ≤ hi from ⟨h1, h2⟩)]
      go_enter Try.func31, Try.ntmps31
      go_wp2
      go_ret
      exact ⟨rfl, rfl⟩
    · rw [decide_eq_false (show ¬ (lo ≤ x ∧ x ≤ hi) from fun h => h2 h.2)]
      go_enter Try.func31, Try.ntmps31
      go_wp2
      go_ret
      exact ⟨rfl, rfl⟩
  · rw [decide_eq_false (show ¬ (lo ≤ x ∧ x ≤ hi) from fun h => h1 h.1)]
    go_enter Try.func31, Try.ntmps31
    go_wp2
    go_ret
    exact ⟨rfl, rfl⟩
theorem isNumber_any (x : Int) (w : World) :
    Calls Try.prog 40 #[.int .i64 x] w fun e w' => e = .returned (.bool (n32 x)) ∧ w' = w := by
  have HW := hid (fun w => within_any x (-2147483648) 2147483647 w)
  have he : decide (-2147483648 ≤ x ∧ x ≤ 2147483647) = n32 x := rfl
  rw [he] at HW
  clear he
  generalize n32 x = b at *
  go_enter Try.func40, Try.ntmps40
  go_wp2_with (go_at_call 31; refine (HW.out _).mono ?_; rintro e w' ⟨rfl, rfl⟩)
  go_ret
  exact ⟨rfl, rfl⟩
theorem isRegister_any (x : Int) (w : World) :
    Calls Try.prog 39 #[.int .i64 x] w fun e w' => e = .returned (.bool (reg8 x)) ∧ w' = w := by
  have HW := hid (fun w => within_any x 0 7 w)
  have he : decide (0 ≤ x ∧ x ≤ 7) = reg8 x := rfl
  rw [he] at HW
  clear he
  generalize reg8 x = b at *
  go_enter Try.func39, Try.ntmps39
  go_wp2_with (go_at_call 31; refine (HW.out _).mono ?_; rintro e w' ⟨rfl, rfl⟩)
  go_ret
  exact ⟨rfl, rfl⟩
theorem ret_bool {a b : Bool} (h : a = b) : Ending.returned (.bool a) = .returned (.bool b) := by rw [h]
set_option maxRecDepth 20000 in
set_option maxHeartbeats 400000 in
theorem goodA_any (c a b : Int) (w : World) :
    Calls Try.prog 28 #[.agg #[.int .i64 c, .int .i64 a, .int .i64 b]] w fun e w' => e = .returned (.bool (goodA (c, a, b))) ∧ Below w.heap.size w w' := by
  have HR := hid (fun w => isRegister_any a w)
  by_cases h : c = 6 ∨ c = 11
  · have hg : goodA (c, a, b) = (a == 0) := by unfold goodA; rw [if_pos h]; simp only; exact (Bool.beq_eq_decide_eq a 0).symm
    rw [hg]
    clear hg HR
    rcases h with rfl | rfl
    all_goals
      go_enter Try.func28, Try.ntmps28
      go_wp2_with fail
      go_ret
      exact ⟨ret_bool (by first | rfl | simp), by go_grown⟩
  · have hg : goodA (c, a, b) = reg8 a := by unfold goodA; rw [if_neg h]
    rw [hg]
    have h1 : (c == 6) = false := by simp; exact fun q => h (.inl q)
    have h2 : (c == 11) = false := by simp; exact fun q => h (.inr q)
    clear h hg
    generalize reg8 a = g at *
    go_enter Try.func28, Try.ntmps28
    go_wp2_with (go_at_call 39; refine (HR.out _).mono ?_; rintro e w' ⟨rfl, rfl⟩)
    go_ret
    exact ⟨rfl, by go_grown⟩
set_option maxRecDepth 20000 in
set_option maxHeartbeats 1600000 in
theorem goodB_any (c a b n : Int) (w : World) :
    Calls Try.prog 29 #[.agg #[.int .i64 c, .int .i64 a, .int .i64 b], .int .i64 n] w fun e w' => e = .returned (.bool (goodB (c, a, b) n)) ∧ Below w.heap.size w w' := by
  have HN := hid (fun w => isNumber_any b w)
  have HR := hid (fun w => isRegister_any b w)
  have HW := hid (fun w => within_any b 0 n w)
  have HP := hid (fun w => within_any b 0 3 w)
  by_cases h1 : c = 1
  · have hg : goodB (c, a, b) n = n32 b := by unfold goodB; rw [if_pos h1]
    rw [hg]
    subst h1
    clear hg HR HW HP
    generalize n32 b = g at *
    go_enter Try.func29, Try.ntmps29
    go_wp2_with (go_at_call 40; refine (HN.out _).mono ?_; rintro e w' ⟨rfl, rfl⟩)
    go_ret
    exact ⟨rfl, by go_grown⟩
  · by_cases h2 : 2 ≤ c ∧ c ≤ 5
    · have hg : goodB (c, a, b) n = reg8 b := by unfold goodB; rw [if_neg h1, if_pos h2]
      rw [hg]
      clear hg HN HW HP
      generalize reg8 b = g at *
      have hc : c = 2 ∨ c = 3 ∨ c = 4 ∨ c = 5 := by omega
      clear h1 h2
      rcases hc with rfl | rfl | rfl | rfl
      all_goals
        go_enter Try.func29, Try.ntmps29
        go_wp2_with (go_at_call 39; refine (HR.out _).mono ?_; rintro e w' ⟨rfl, rfl⟩)
        go_ret
        exact ⟨rfl, by go_grown⟩
    · by_cases h3 : 6 ≤ c ∧ c ≤ 8
      · have hg : goodB (c, a, b) n = decide (0 ≤ b ∧ b ≤ n) := by unfold goodB; rw [if_neg h1, if_neg h2, if_pos h3]
        rw [hg]
        clear hg HN HR HP
        generalize decide (0 ≤ b ∧ b ≤ n) = g at *
        have hc : c = 6 ∨ c = 7 ∨ c = 8 := by omega
        clear h1 h2 h3
        rcases hc with rfl | rfl | rfl
        all_goals
          go_enter Try.func29, Try.ntmps29
          go_wp2_with (go_at_call 31; refine (HW.out _).mono ?_; rintro e w' ⟨rfl, rfl⟩)
          go_ret
          exact ⟨rfl, by go_grown⟩
      · by_cases h4 : c = 9 ∨ c = 11
        · have hg : goodB (c, a, b) n = (b == 0) := by unfold goodB; rw [if_neg h1, if_neg h2, if_neg h3, if_pos h4]; exact (Bool.beq_eq_decide_eq b 0).symm
          rw [hg]
          clear hg HN HR HP HW h1 h2 h3
          rcases h4 with rfl | rfl
          all_goals
            go_enter Try.func29, Try.ntmps29
            go_wp2_with fail
            go_ret
            exact ⟨rfl, by go_grown⟩
        · by_cases h5 : c = 10
          · have hg : goodB (c, a, b) n = decide (0 ≤ b ∧ b ≤ 3) := by unfold goodB; rw [if_neg h1, if_neg h2, if_neg h3, if_neg h4, if_pos h5]
            rw [hg]
            subst h5
            clear hg HN HR HW h1 h2 h3 h4
            generalize decide (0 ≤ b ∧ b ≤ 3) = g at *
            go_enter Try.func29, Try.ntmps29
            go_wp2_with (go_at_call 31; refine (HP.out _).mono ?_; rintro e w' ⟨rfl, rfl⟩)
            go_ret
            exact ⟨rfl, by go_grown⟩
          · have hg : goodB (c, a, b) n = false := by unfold goodB; rw [if_neg h1, if_neg h2, if_neg h3, if_neg h4, if_neg h5]
            rw [hg]
            have n1 : (c == 1) = false := by simp; exact h1
            have n2 : (c == 2) = false := by simp; omega
            have n3 : (c == 3) = false := by simp; omega
            have n4 : (c == 4) = false := by simp; omega
            have n5 : (c == 5) = false := by simp; omega
            have n6 : (c == 6) = false := by simp; omega
            have n7 : (c == 7) = false := by simp; omega
            have n8 : (c == 8) = false := by simp; omega
            have n9 : (c == 9) = false := by simp; exact fun q => h4 (.inl q)
            have n10 : (c == 10) = false := by simp; exact h5
            have n11 : (c == 11) = false := by simp; exact fun q => h4 (.inr q)
            clear hg HN HR HW HP h1 h2 h3 h4 h5
            go_enter Try.func29, Try.ntmps29
            go_wp2_with fail
            go_ret
            exact ⟨rfl, by go_grown⟩
end VmC
end Go.Proofs.Ytceflfdpbgnfjaa
