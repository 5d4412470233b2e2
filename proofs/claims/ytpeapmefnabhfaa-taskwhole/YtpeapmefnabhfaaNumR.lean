/- Contracts of the document's own answers about numbers. -/
import Derived.Test.YtpeapmefnabhfaaNumC
import Derived.Test.YtpeapmefnabhfaaNumM2
set_option linter.unusedVariables false
namespace Go.Proofs.Ytpeapmefnabhfaa
open Go.RowKit
open NumM
namespace NumC
theorem between_yes (x lo hi : Int) (w : World) (h1 : lo ≤ x) (h2 : x ≤ hi) :
    Calls Try.prog 15 #[.int .i64 x, .int .i64 lo, .int .i64 hi] w fun e w' => e = .returned (.bool true) ∧ w' = w := by
  go_enter Try.func15, Try.ntmps15
  go_wp2
  go_ret
  exact ⟨rfl, rfl⟩
theorem between_low (x lo hi : Int) (w : World) (h1 : x < lo) :
    Calls Try.prog 15 #[.int .i64 x, .int .i64 lo, .int .i64 hi] w fun e w' => e = .returned (.bool false) ∧ w' = w := by
  have hd : decide (lo ≤ x) = false := by simp; omega
  go_enter Try.func15, Try.ntmps15
  go_wp2
  go_ret
  exact ⟨rfl, rfl⟩
theorem between_high (x lo hi : Int) (w : World) (h1 : lo ≤ x) (h2 : hi < x) :
    Calls Try.prog 15 #[.int .i64 x, .int .i64 lo, .int .i64 hi] w fun e w' => e = .returned (.bool false) ∧ w' = w := by
  have hd : decide (x ≤ hi) = false := by simp; omega
  go_enter Try.func15, Try.ntmps15
  go_wp2
  go_ret
  exact ⟨rfl, rfl⟩
theorem between_no (x lo hi : Int) (w : World) (h : ¬ (lo ≤ x ∧ x ≤ hi)) :
    Calls Try.prog 15 #[.int .i64 x, .int .i64 lo, .int .i64 hi] w fun e w' => e = .returned (.bool false) ∧ w' = w := by
  by_cases h1 : x < lo
  · exact between_low x lo hi w h1
  · exact between_high x lo hi w (by omega) (by omega)

theorem rfloor_any (a b : Int) (w : World) (hb : 1 ≤ b) (hb2 : b ≤ 1099511627776) (ha : -1099511627776 ≤ a) (ha2 : a ≤ 1099511627776) :
    Calls Try.prog 31 #[.int .i64 a, .int .i64 b] w fun e w' => e = .returned (.int .i64 (a / b)) ∧ w' = w := by
  by_cases h : 0 ≤ a
  · go_enter Try.func31, Try.ntmps31
    go_wp2
    go_ret
    exact ⟨rfl, rfl⟩
  · have q0 : 0 ≤ (-a + b - 1) / b := Int.ediv_nonneg (by omega) (by omega)
    have q1 : (-a + b - 1) / b ≤ -a + b - 1 := Int.ediv_le_self _ (by omega)
    have e : Hid (-((-a + b - 1) / b) = a / b) := by
      show _ = _
      have em := Int.emod_add_mul_ediv a b
      have em1 := Int.emod_nonneg a (show b ≠ 0 by omega)
      have em2 := Int.emod_lt_of_pos a (show 0 < b by omega)
      have : (-a + b - 1) / b = -(a / b) := by
        refine (Int.ediv_eq_iff_of_pos (by omega)).2 ?_
        rw [Int.mul_comm] at em
        rw [Int.neg_mul]; omega
      omega
    go_enter Try.func31, Try.ntmps31
    go_wp2
    go_ret
    exact ⟨ret_int e.out, rfl⟩

theorem gcdOf_any (k : Nat) : ∀ (a b : Int) (w : World), a.toNat ≤ k → 0 ≤ a → 0 ≤ b → a ≤ 1099511627776 → b ≤ 1099511627776 →
    Calls Try.prog 35 #[.int .i64 a, .int .i64 b] w fun e w' => e = .returned (.int .i64 (G a b)) ∧ w' = w := by
  induction k with
  | zero =>
    intro a b w hk ha hb ha2 hb2
    obtain rfl : a = 0 := by omega
    have e : Hid (0 + b = G 0 b) := by show _ = _; rw [zero_G b hb]; omega
    go_enter Try.func35, Try.ntmps35
    go_wp2_with fail
    go_ret
    exact ⟨ret_int (by rw [zero_G b hb]; try omega), rfl⟩
  | succ k ih =>
    intro a b w hk ha hb ha2 hb2
    by_cases h0 : a = 0
    · exact (show Calls Try.prog 35 #[.int .i64 a, .int .i64 b] w _ from by
        subst h0
        go_enter Try.func35, Try.ntmps35
        go_wp2_with fail
        go_ret
        exact ⟨ret_int (by rw [zero_G b hb]; try omega), rfl⟩)
    · by_cases h1 : b = 0
      · subst h1
        have hz : (a == 0) = false := by simp [h0]
        go_enter Try.func35, Try.ntmps35
        go_wp2_with fail
        go_ret
        exact ⟨ret_int (by rw [G_zero a ha]; try omega), rfl⟩
      · have hz : (a == 0) = false := by simp [h0]
        have hz2 : (b == 0) = false := by simp [h1]
        have m1 := Int.emod_nonneg b h0
        have m2 := Int.emod_lt_of_pos b (show 0 < a by omega)
        have IH : Hid (∀ (a b : Int) (w : World), a.toNat ≤ k → 0 ≤ a → 0 ≤ b → a ≤ 1099511627776 → b ≤ 1099511627776 →
            Calls Try.prog 35 #[.int .i64 a, .int .i64 b] w fun e w' => e = .returned (.int .i64 (G a b)) ∧ w' = w) := ih
        clear ih
        go_enter Try.func35, Try.ntmps35
        go_wp2_with (go_at_call 35; refine (IH.out _ _ _ (by omega) (by omega) (by omega) (by omega) (by omega)).mono ?_; rintro e w' ⟨rfl, rfl⟩)
        go_ret
        exact ⟨ret_int (by rw [G_comm (b % a) a, G_step b a hb ha, G_comm]), rfl⟩
theorem gcdOf (a b : Int) (w : World) (ha : 0 ≤ a) (hb : 0 ≤ b) (ha2 : a ≤ 1099511627776) (hb2 : b ≤ 1099511627776) :
    Calls Try.prog 35 #[.int .i64 a, .int .i64 b] w fun e w' => e = .returned (.int .i64 (G a b)) ∧ w' = w :=
  gcdOf_any a.toNat a b w (Nat.le_refl _) ha hb ha2 hb2
end NumC
end Go.Proofs.Ytpeapmefnabhfaa
