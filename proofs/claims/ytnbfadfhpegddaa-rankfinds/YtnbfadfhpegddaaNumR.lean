/- Contracts of the document's own answers about numbers. -/
import Derived.Test.YtnbfadfhpegddaaNumC
import Derived.Test.YtnbfadfhpegddaaNumM2
set_option linter.unusedVariables false
namespace Go.Proofs.Ytnbfadfhpegddaa
open Go.RowKit
open NumM
namespace NumC
theorem between_yes (x lo hi : Int) (w : World) (h1 : lo ≤ x) (h2 : x ≤ hi) :
    Calls Try.prog 36 #[.int .i64 x, .int .i64 lo, .int .i64 hi] w fun e w' => e = .returned (.bool true) ∧ w' = w := by
  go_enter Try.func36, Try.ntmps36
  go_wp2
  go_ret
  exact ⟨rfl, rfl⟩
theorem between_low (x lo hi : Int) (w : World) (h1 : x < lo) :
    Calls Try.prog 36 #[.int .i64 x, .int .i64 lo, .int .i64 hi] w fun e w' => e = .returned (.bool false) ∧ w' = w := by
  have hd : decide (lo ≤ x) = false := by simp; omega
  go_enter Try.func36, Try.ntmps36
  go_wp2
  go_ret
  exact ⟨rfl, rfl⟩
theorem between_high (x lo hi : Int) (w : World) (h1 : lo ≤ x) (h2 : hi < x) :
    Calls Try.prog 36 #[.int .i64 x, .int .i64 lo, .int .i64 hi] w fun e w' => e = .returned (.bool false) ∧ w' = w := by
  have hd : decide (x ≤ hi) = false := by simp; omega
  go_enter Try.func36, Try.ntmps36
  go_wp2
  go_ret
  exact ⟨rfl, rfl⟩
theorem between_no (x lo hi : Int) (w : World) (h : ¬ (lo ≤ x ∧ x ≤ hi)) :
    Calls Try.prog 36 #[.int .i64 x, .int .i64 lo, .int .i64 hi] w fun e w' => e = .returned (.bool false) ∧ w' = w := by
  by_cases h1 : x < lo
  · exact between_low x lo hi w h1
  · exact between_high x lo hi w (by omega) (by omega)

theorem rfloor_any (a b : Int) (w : World) (hb : 1 ≤ b) (hb2 : b ≤ 1099511627776) (ha : -1099511627776 ≤ a) (ha2 : a ≤ 1099511627776) :
    Calls Try.prog 62 #[.int .i64 a, .int .i64 b] w fun e w' => e = .returned (.int .i64 (a / b)) ∧ w' = w := by
  by_cases h : 0 ≤ a
  · go_enter Try.func62, Try.ntmps62
    go_wp2
    go_ret
    exact ⟨rfl, rfl⟩
  · have q0 : 0 ≤ (-a + b - 1) / b := Int.ediv_nonneg (by omega) (by omega)
    have q1 : (-a + b - 1) / b ≤ -a + b - 1 := Int.ediv_le_self _ (by omega)
    have e : Hid (-((-a + b - 1) / b) = a / b) := by
      show _ = _
      have em := Int.emod_add_mul_ediv a b
      have em1 := Int.emod_nonneg a (show b ≠ 0 by omega)
      have em2 := Int.emod_lt_of_pos a (show 0 < b by omega)
      have : (-a + b - 1) / b = -(a / b) := by
        refine (Int.ediv_eq_iff_of_pos (by omega)).2 ?_
        rw [Int.mul_comm] at em
        rw [Int.neg_mul]; omega
      omega
    go_enter Try.func62, Try.ntmps62
    go_wp2
    go_ret
    exact ⟨ret_int e.out, rfl⟩

end NumC
end Go.Proofs.Ytnbfadfhpegddaa
