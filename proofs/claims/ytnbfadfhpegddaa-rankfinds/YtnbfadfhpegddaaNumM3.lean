/- The least common multiple of a list: what divides it, and what it divides. -/
import Derived.Test.YtnbfadfhpegddaaNumM2
set_option linter.unusedVariables false
namespace Go.Proofs.Ytnbfadfhpegddaa
namespace NumM
/-- the least common multiple, with no bound -/
def lc (all : Int) : List Int → Int
  | [] => all
  | x :: r => lc (all * (x / G all x)) r
theorem step_pos (a x : Int) (ha : 1 ≤ a) (hx : 1 ≤ x) : 1 ≤ a * (x / G a x) := by
  have gp := G_pos a x ha
  have gl := G_le_right a x hx
  have q1 : 1 ≤ x / G a x := Int.le_ediv_of_mul_le (by omega) (by omega)
  have := Int.mul_le_mul_of_nonneg_left q1 (show 0 ≤ a by omega)
  omega
theorem step_dvd (a x d : Int) (ha : 1 ≤ a) (hx : 1 ≤ x) : a * (x / G a x) ∣ d ↔ a ∣ d ∧ x ∣ d := by
  constructor
  · intro h
    refine ⟨Int.dvd_trans (Int.dvd_mul_right _ _) h, ?_⟩
    refine Int.dvd_trans ?_ h
    rw [← step_eq a x ha hx]
    exact Int.dvd_mul_left _ _
  · rintro ⟨h1, h2⟩
    rw [← step_eq a x ha hx]
    exact lcm_dvd a x d ha hx h1 h2
theorem lc_pos (l : List Int) : ∀ a : Int, 1 ≤ a → (∀ x ∈ l, 1 ≤ x) → 1 ≤ lc a l := by
  induction l with
  | nil => intro a h _; exact h
  | cons x r ih => intro a h hx; exact ih _ (step_pos a x h (hx x (by simp))) (fun y hy => hx y (by simp [hy]))
theorem lc_dvd (l : List Int) (d : Int) : ∀ a : Int, 1 ≤ a → (∀ x ∈ l, 1 ≤ x) → (lc a l ∣ d ↔ a ∣ d ∧ ∀ x ∈ l, x ∣ d) := by
  induction l with
  | nil => intro a h _; simp [lc]
  | cons x r ih =>
    intro a h hx
    rw [lc, ih _ (step_pos a x h (hx x (by simp))) (fun y hy => hx y (by simp [hy])), step_dvd a x d h (hx x (by simp))]
    simp [and_assoc]
theorem lcmFrom_eq (l : List Int) : ∀ a : Int, 1 ≤ a → a ≤ 1099511627776 → (∀ x ∈ l, Ok1 x) → lcmFrom a l = if lc a l ≤ 1099511627776 then some (lc a l) else none := by
  induction l with
  | nil => intro a h h2 _; simp [lcmFrom, lc, h2]
  | cons x r ih =>
    intro a h h2 hx
    have o := hx x (by simp)
    have hp := fun y hy => (hx y (List.mem_cons_of_mem x hy)).1
    rw [lcmFrom, lc]
    by_cases hf : 1099511627776 / a < x / G a x
    · rw [if_pos hf]
      have h3 : 1099511627776 < a * (x / G a x) := by
        generalize x / G a x = q at *
        have k1 := Int.emod_add_mul_ediv 1099511627776 a
        have k2 := Int.emod_lt_of_pos 1099511627776 (show 0 < a by omega)
        have k3 : a * (1099511627776 / a + 1) ≤ a * q := Int.mul_le_mul_of_nonneg_left (by omega) (by omega)
        rw [Int.mul_add] at k3
        omega
      have h4 : a * (x / G a x) ≤ lc (a * (x / G a x)) r :=
        Int.le_of_dvd (by have := lc_pos r _ (step_pos a x h o.1) hp; omega) ((lc_dvd r _ _ (step_pos a x h o.1) hp).1 (Int.dvd_refl _)).1
      rw [if_neg (by omega)]
    · rw [if_neg hf]
      have bd := lcm_step_bd a x h o.1 o.2 hf
      exact ih _ bd.1 bd.2 (fun y hy => hx y (by simp [hy]))
/-- it is no matter in what order they stand, or how often -/
theorem lc_same (l k : List Int) (hl : ∀ x ∈ l, 1 ≤ x) (h : ∀ x, x ∈ l ↔ x ∈ k) : lc 1 l = lc 1 k := by
  have hk : ∀ x ∈ k, 1 ≤ x := fun x hx => hl x ((h x).2 hx)
  have p1 := lc_pos l 1 (by omega) hl
  have p2 := lc_pos k 1 (by omega) hk
  refine Int.dvd_antisymm (by omega) (by omega) ?_ ?_
  · exact (lc_dvd l _ 1 (by omega) hl).2 ⟨Int.one_dvd _, fun x hx => ((lc_dvd k _ 1 (by omega) hk).1 (Int.dvd_refl _)).2 x ((h x).1 hx)⟩
  · exact (lc_dvd k _ 1 (by omega) hk).2 ⟨Int.one_dvd _, fun x hx => ((lc_dvd l _ 1 (by omega) hl).1 (Int.dvd_refl _)).2 x ((h x).2 hx)⟩
theorem lc_two (x y : Int) (hx : 1 ≤ x) (hy : 1 ≤ y) : lc 1 [x, y] * G x y = x * y := by
  have g1 : G 1 x = 1 := by
    have := G_pos 1 x (by omega); have := G_le_left 1 x (by omega); omega
  have e : lc 1 [x, y] = x * (y / G x y) := by
    simp [lc, g1]
  rw [e, Int.mul_assoc]
  have gp := G_pos x y hx
  rw [Int.ediv_mul_cancel (G_dvd_right x y (by omega))]
end NumM
end Go.Proofs.Ytnbfadfhpegddaa
