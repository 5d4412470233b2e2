/- Package lock: within, unowned. -/
import Derived.Test.YtllfpbngfkimlaaLkH
set_option linter.unusedVariables false
namespace Go.Proofs.Ytllfpbngfkimlaa
open Go.RowKit
open Go.Shelf Go.Sort
open SpanM SpanC IntsC
open RowsO hiding Wk
namespace LockC
open LockM
open NumC (Row)
theorem within_any (x lo hi : Int) (w : World) :
    Calls Try.prog 27 #[.int .i64 x, .int .i64 lo, .int .i64 hi] w fun e w' => e = .returned (.bool (decide (lo ≤ x ∧ x ≤ hi))) ∧ w' = w := by
  by_cases h1 : lo ≤ x
  · by_cases h2 : x ≤ hi
    · have e : decide (lo ≤ x ∧ x ≤ hi) = true := decide_eq_true ⟨h1, h2⟩
      rw [e]
      go_enter Try.func27, Try.ntmps27
      go_wp2_with fail
      go_ret
      exact ⟨rfl, rfl⟩
    · have e : decide (lo ≤ x ∧ x ≤ hi) = false := decide_eq_false (fun h => h2 h.2)
      rw [e]
      go_enter Try.func27, Try.ntmps27
      go_wp2_with fail
      go_ret
      exact ⟨rfl, rfl⟩
  · have e : decide (lo ≤ x ∧ x ≤ hi) = false := decide_eq_false (fun h => h1 h.1)
    rw [e]
    go_enter Try.func27, Try.ntmps27
    go_wp2_with fail
    go_ret
    exact ⟨rfl, rfl⟩
abbrev neg8 : Array Value := #[.int .i64 (-1), .int .i64 (-1), .int .i64 (-1), .int .i64 (-1), .int .i64 (-1), .int .i64 (-1), .int .i64 (-1), .int .i64 (-1)]
set_option maxRecDepth 20000 in
set_option maxHeartbeats 400000 in
theorem unowned_eq (w : World) :
    Calls Try.prog 47 #[] w fun e w' => e = .returned (.agg neg8) ∧ w' = (w.alloc (.cells neg8 62)).alloc (.cells neg8 62) := by
  go_enter Try.func47, Try.ntmps47
  go_wp2_with fail
  go_rounds 9
  go_returns
  exact ⟨rfl, rfl⟩
theorem unowned_any (w : World) :
    Calls Try.prog 47 #[] w fun e w' => e = .returned (.agg neg8) ∧ Below w.heap.size w w' :=
  (unowned_eq w).mono fun e w' h => ⟨h.1, by rw [h.2]; exact ((Below.refl _ w).alloc (Nat.le_refl _) _).alloc (by rw [World.size_alloc]; omega) _⟩
end LockC
end Go.Proofs.Ytllfpbngfkimlaa
