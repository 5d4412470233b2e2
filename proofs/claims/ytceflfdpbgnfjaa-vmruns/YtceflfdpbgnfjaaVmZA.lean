/- The reference's Between, Round32, InsRight, CodeRight. -/
import Derived.Test.YtceflfdpbgnfjaaVmB
import Derived.Test.YtceflfdpbgnfjaaEqIs
set_option linter.unusedVariables false
namespace Go.Proofs.Ytceflfdpbgnfjaa
open Go.RowKit
open Go.Shelf Go.Sort
open SpanM hiding good
open SpanC IntsC RowsO
namespace VmC
open VmP
open NumC (Row)
theorem rbtw_any (x lo hi : Int) (w : World) :
    Calls Try.prog 33 #[.int .i64 x, .int .i64 lo, .int .i64 hi] w fun e w' => e = .returned (.bool (decide (lo ≤ x ∧ x ≤ hi))) ∧ w' = w := by
  by_cases h1 : lo ≤ x
  · by_cases h2 : x ≤ hi
    · rw [decide_eq_true (show lo ≤ x ∧ x ≤ hi from ⟨h1, h2⟩)]
      go_enter Try.func33, Try.ntmps33
      go_wp2
      go_ret
      exact ⟨rfl, rfl⟩
    · rw [decide_eq_false (show ¬ (lo ≤ x ∧ x ≤ hi) from fun h => h2 h.2)]
      go_enter Try.func33, Try.ntmps33
      go_wp2
      go_ret
      exact ⟨rfl, rfl⟩
  · rw [decide_eq_false (show ¬ (lo ≤ x ∧ x ≤ hi) from fun h => h1 h.1)]
    go_enter Try.func33, Try.ntmps33
    go_wp2
    go_ret
    exact ⟨rfl, rfl⟩
theorem tm32 (x : Int) : (x.tmod 4294967296 < 0 → ar x = if x.tmod 4294967296 + 4294967296 ≥ 2147483648 then x.tmod 4294967296 else x.tmod 4294967296 + 4294967296) ∧ (¬ x.tmod 4294967296 < 0 → ar x = if x.tmod 4294967296 ≥ 2147483648 then x.tmod 4294967296 - 4294967296 else x.tmod 4294967296) ∧ -4294967296 < x.tmod 4294967296 ∧ x.tmod 4294967296 < 4294967296 := by
  have e := Int.mul_tdiv_add_tmod x 4294967296
  have h1 := Int.tmod_lt_of_pos x (show (0 : Int) < 4294967296 by decide)
  have h2 := Int.lt_tmod_of_pos x (show (0 : Int) < 4294967296 by decide)
  unfold ar
  generalize x.tmod 4294967296 = r at *
  generalize x.tdiv 4294967296 = q at *
  refine ⟨fun a => ?_, fun a => ?_, h2, h1⟩
  · split <;> omega
  · split <;> omega
theorem round_any (x : Int) (w : World) :
    Calls Try.prog 34 #[.int .i64 x] w fun e w' => e = .returned (.int .i64 (ar x)) ∧ w' = w := by
  obtain ⟨h1, h2, h3, h4⟩ := tm32 x
  by_cases h : x.tmod 4294967296 < 0
  · have hA := h1 h
    have g2 : wrap64 (x.tmod 4294967296 + 4294967296) = x.tmod 4294967296 + 4294967296 := by unfold wrap64; omega
    by_cases h5 : 2147483648 ≤ x.tmod 4294967296 + 4294967296
    · rw [if_pos h5] at hA
      rw [hA]
      have g3 : wrap64 (x.tmod 4294967296 + 4294967296 - 4294967296) = x.tmod 4294967296 := by unfold wrap64; omega
      clear h1 h2 h3 h4 hA
      go_enter Try.func34, Try.ntmps34
      go_wp2
      go_ret
      exact ⟨by first | rfl | rw [g3], rfl⟩
    · rw [if_neg h5] at hA
      rw [hA]
      clear h1 h2 h3 h4 hA
      go_enter Try.func34, Try.ntmps34
      go_wp2
      go_ret
      exact ⟨rfl, rfl⟩
  · have hA := h2 h
    by_cases h5 : 2147483648 ≤ x.tmod 4294967296
    · rw [if_pos h5] at hA
      rw [hA]
      have g3 : wrap64 (x.tmod 4294967296 - 4294967296) = x.tmod 4294967296 - 4294967296 := by unfold wrap64; omega
      clear h1 h2 h3 h4 hA
      go_enter Try.func34, Try.ntmps34
      go_wp2
      go_ret
      exact ⟨by first | rfl | rw [g3], rfl⟩
    · rw [if_neg h5] at hA
      rw [hA]
      clear h1 h2 h3 h4 hA
      go_enter Try.func34, Try.ntmps34
      go_wp2
      go_ret
      exact ⟨rfl, rfl⟩
theorem eqlIs (x0 x1 x2 y0 y1 y2 : Int) (w : World) : (binOp .eql 45 (.agg #[.int .i64 x0, .int .i64 x1, .int .i64 x2]) (.agg #[.int .i64 y0, .int .i64 y1, .int .i64 y2])).run Try.prog w = .ok (.bool (decide (x0 = y0 ∧ x1 = y1 ∧ x2 = y2))) w := by
  have u3 := Try.underlying3
  have a3 := Try.isAgg3
  have z3 := Try.sizeOf3
  have hS : Try.prog.underlying 45 = some (.struct (Try.prog.fieldsOf 45)) := by kernel_rfl
  have hp : Try.prog.stoodInHeld 45 = false := by kernel_rfl
  rw [run_eql_struct, show (10000 : Nat) = 9999 + 1 from rfl, run_equalIn_agg w 9999 45 _ _ hS hp]
  simp only [Program.fieldsOf, Try.underlying45]
  go_simp
  by_cases h1 : x0 = y0 <;> by_cases h2 : x1 = y1 <;> by_cases h3 : x2 = y2 <;> simp [h1, h2, h3]
end VmC
end Go.Proofs.Ytceflfdpbgnfjaa
