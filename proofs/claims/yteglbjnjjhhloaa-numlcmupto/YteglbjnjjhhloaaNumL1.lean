/- The walk of NumDown. -/
import Derived.Test.YteglbjnjjhhloaaNumV
import Derived.OpenShut
set_option linter.unusedVariables false
namespace Go.Proofs.Yteglbjnjjhhloaa
open Go.RowKit
open NumM
namespace NumC
theorem wf64 {a : Int} (h : (Lit.int .i64 a).wf = true) : -9223372036854775808 ≤ a ∧ a ≤ 9223372036854775807 := by
  have := bounds_i64 h; omega

theorem bel_trans {a b c : World} (h : Below a.heap.size a b) (k : Below b.heap.size b c) : Below a.heap.size a c := h.trans (k.mono h.size)

theorem numDown_walk (a0 a1 : Int) (w : World) (w0 : (Lit.int .i64 a0).wf = true) (w1 : (Lit.int .i64 a1).wf = true) :
    Calls Try.prog 7 #[.int .i64 a0, .int .i64 a1] w fun e w' => e = .returned (.bool true) ∧ Below w.heap.size w w' := by
  by_cases h : -1099511627776 ≤ a0 ∧ a0 ≤ 1099511627776 ∧ 1 ≤ a1 ∧ a1 ≤ 1099511627776
  · obtain ⟨h1, h2, h3, h4⟩ := h
    have em := Int.emod_add_mul_ediv a0 a1
    have em1 := Int.emod_nonneg a0 (show a1 ≠ 0 by omega)
    have em2 := Int.emod_lt_of_pos a0 (show 0 < a1 by omega)
    rw [Int.mul_comm] at em
    have l1 : a0 / a1 * a1 ≤ a0 := by omega
    have l2 : a0 - a1 < a0 / a1 * a1 := by omega
    have q := ediv_bd a0 a1 1099511627776 h3 h1 h2 (by omega)
    have r1 : 0 ≤ a0 - a0 / a1 * a1 := by omega
    have r2 : a0 - a0 / a1 * a1 < a1 := by omega
    clear em em1 em2
    by_cases hz : a0 - a0 / a1 * a1 = 0
    · have hu : (-(-a0 / a1) == a0 / a1) = true := by
        rw [beq_iff_eq]
        have : -a0 / a1 = -(a0 / a1) := by
          refine (Int.ediv_eq_iff_of_pos (by omega)).2 ?_
          rw [Int.neg_mul]; omega
        omega
      have hz' : (a0 - a0 / a1 * a1 == 0) = true := by rw [beq_iff_eq]; exact hz
      clear hz
      go_enter Try.func7, Try.ntmps7
      go_wp2_with (first | (go_at_call 13; go_call (down_yes _ _ _) as e w' ⟨rfl, rfl⟩) | (go_at_call 14; go_call (up_yes _ _ _) as e w' ⟨rfl, rfl⟩) | (go_at_call 25; refine (lives _).mono ?_; rintro e w' ⟨rfl, hb⟩))
      go_ret
      exact ⟨rfl, hb⟩
    · have hu : (-(-a0 / a1) == a0 / a1 + 1) = true := by
        rw [beq_iff_eq]
        have : -a0 / a1 = -(a0 / a1) - 1 := by
          refine (Int.ediv_eq_iff_of_pos (by omega)).2 ?_
          rw [Int.sub_mul, Int.neg_mul]; omega
        omega
      have hz' : (a0 - a0 / a1 * a1 == 0) = false := by rw [beq_eq_false_iff_ne]; exact hz
      have r3 : 0 < a0 - a0 / a1 * a1 := by omega
      clear hz
      go_enter Try.func7, Try.ntmps7
      go_wp2_with (first | (go_at_call 13; go_call (down_yes _ _ _) as e w' ⟨rfl, rfl⟩) | (go_at_call 14; go_call (up_yes _ _ _) as e w' ⟨rfl, rfl⟩) | (go_at_call 25; refine (lives _).mono ?_; rintro e w' ⟨rfl, hb⟩))
      go_ret
      exact ⟨rfl, hb⟩
  · go_enter Try.func7, Try.ntmps7
    go_wp2_with (first | (go_at_call 13; go_call (down_no _ _ _) as e w' ⟨rfl, rfl⟩) | (go_at_call 14; go_call (up_no _ _ _) as e w' ⟨rfl, rfl⟩) | (go_at_call 25; refine (lives _).mono ?_; rintro e w' ⟨rfl, hb⟩))
    go_ret
    exact ⟨rfl, bel_trans ‹Below _ _ _› hb⟩
end NumC
end Go.Proofs.Yteglbjnjjhhloaa
