/- Plain mathematics for package num, continued: multiples, uniqueness. -/
import Derived.Test.YtnbfadfhpegddaaNumM
set_option linter.unusedVariables false
namespace Go.Proofs.Ytnbfadfhpegddaa
namespace NumM

theorem nat_dvd_of (d x : Int) (hd : 0 ≤ d) (h : d ∣ x) : d.toNat ∣ x.natAbs := by
  have := Int.natAbs_dvd_natAbs.2 h
  rwa [show d.natAbs = d.toNat by omega] at this

/-- whatever both divide is divided by m / G m n * n -/
theorem lcm_dvd (m n d : Int) (hm : 1 ≤ m) (hn : 1 ≤ n) (h1 : m ∣ d) (h2 : n ∣ d) : m / G m n * n ∣ d := by
  have k := Nat.lcm_dvd (nat_dvd_of m d (by omega) h1) (nat_dvd_of n d (by omega) h2)
  have e : (m / G m n * n).natAbs = Nat.lcm m.toNat n.toNat := by
    obtain ⟨a, rfl⟩ := Int.eq_ofNat_of_zero_le (show 0 ≤ m by omega)
    obtain ⟨b, rfl⟩ := Int.eq_ofNat_of_zero_le (show 0 ≤ n by omega)
    unfold G
    simp only [Int.toNat_natCast]
    rw [← Int.natCast_ediv, ← Int.natCast_mul, Int.natAbs_natCast]
    unfold Nat.lcm
    exact Nat.div_mul_right_comm (Nat.gcd_dvd_left a b) b
  apply Int.natAbs_dvd_natAbs.1
  rw [e]; exact k

theorem step_eq (m n : Int) (hm : 1 ≤ m) (hn : 1 ≤ n) : m / G m n * n = m * (n / G m n) := by
  obtain ⟨p, hp⟩ := G_dvd_left m n (by omega)
  obtain ⟨q, hq⟩ := G_dvd_right m n (by omega)
  have gp := G_pos m n hm
  generalize G m n = g at *
  have hp1 : m / g = p := by rw [hp]; exact Int.mul_ediv_cancel_left p (by omega)
  have hq1 : n / g = q := by rw [hq]; exact Int.mul_ediv_cancel_left q (by omega)
  rw [hp1, hq1, hp, hq]; ac_rfl

/-- b divides k times a: then its share divides k -/
theorem share_dvd (a b k : Int) (ha : 1 ≤ a) (hb : 1 ≤ b) (h : b ∣ k * a) : b / G a b ∣ k := by
  have h1 := lcm_dvd a b (k * a) ha hb (Int.dvd_mul_left k a) h
  rw [step_eq a b ha hb, Int.mul_comm k a] at h1
  exact Int.dvd_of_mul_dvd_mul_left (by omega) h1

theorem two_mod (s t m : Int) (h : s % m = t % m) : m ∣ s - t := Int.dvd_of_emod_eq_zero (Int.emod_eq_emod_iff_emod_sub_eq_zero.1 h)

/-- any two that leave a by m and b by n lie so far apart -/
theorem Met.far {a m b n t : Int} (h : Met a m b n t) (hm : 1 ≤ m) (hn : 1 ≤ n) (s : Int) (h1 : s % m = a) (h2 : s % n = b) : m / G m n * n ∣ s - t :=
  lcm_dvd m n (s - t) hm hn (two_mod s t m (by rw [h1, h.ma])) (two_mod s t n (by rw [h2, h.nb]))

theorem Met.least {a m b n t : Int} (h : Met a m b n t) (hm : 1 ≤ m) (hn : 1 ≤ n) (s : Int) (hs : 0 ≤ s) (h1 : s % m = a) (h2 : s % n = b) : t ≤ s := by
  obtain ⟨k, hk⟩ := h.far hm hn s h1 h2
  have := h.hi
  have := h.lo
  generalize m / G m n * n = L at *
  rcases Int.lt_or_le k 0 with h3 | h3
  · have : L * k ≤ L * (-1) := Int.mul_le_mul_of_nonneg_left (by omega) (by omega)
    omega
  · have := Int.mul_nonneg (show 0 ≤ L by omega) h3
    omega

/-- where it is no multiple of what they share, there is none -/
theorem none_of (a m b n s : Int) (hm : 1 ≤ m) (hn : 1 ≤ n) (hc : (b - a).tmod (G m n) ≠ 0) (h1 : s % m = a) (h2 : s % n = b) : False := by
  apply hc
  have d1 : G m n ∣ s - a := by
    have : m ∣ s - a := by rw [← h1]; exact Int.dvd_self_sub_emod
    exact Int.dvd_trans (G_dvd_left m n (by omega)) this
  have d2 : G m n ∣ s - b := by
    have : n ∣ s - b := by rw [← h2]; exact Int.dvd_self_sub_emod
    exact Int.dvd_trans (G_dvd_right m n (by omega)) this
  have d3 : G m n ∣ b - a := by
    have := Int.dvd_sub d1 d2
    rwa [show s - a - (s - b) = b - a by omega] at this
  exact Int.tmod_eq_zero_of_dvd d3

/-- the rests by what they share are one just if it divides the difference -/
theorem mod_iff (a b g : Int) (hg : 1 ≤ g) : (b - a).tmod g = 0 ↔ a % g = b % g := by
  constructor
  · intro h
    have d : g ∣ b - a := Int.dvd_of_tmod_eq_zero h
    exact (Int.emod_eq_emod_iff_emod_sub_eq_zero.2 (Int.emod_eq_zero_of_dvd d)).symm
  · intro h
    exact Int.tmod_eq_zero_of_dvd (two_mod b a g h.symm)

theorem G_sub (a b : Int) (hb : 0 ≤ b) (h : b ≤ a) : G (a - b) b = G a b := by
  unfold G
  rw [show (a - b).toNat = a.toNat - b.toNat by omega]
  congr 1
  exact Nat.gcd_sub_self_left (by omega)
theorem dvd_of_mod (d a : Int) (h : a % d = 0) : d ∣ a := Int.dvd_of_emod_eq_zero h

/-- a times b by m, by doubling -/
theorem muldiv_step (a b m : Int) (ha : 0 ≤ a) (ham : a < m) (hb : 0 ≤ b) (X : Int) (hX : X = if b % 2 = 1 then a else 0) :
    2 * (a * (b / 2) / m) + (2 * (a * (b / 2) % m) + X) / m = a * b / m ∧ (2 * (a * (b / 2) % m) + X) % m = a * b % m := by
  have e1 := Int.emod_add_mul_ediv (a * (b / 2)) m
  have e2 : a * b = m * (2 * (a * (b / 2) / m)) + (2 * (a * (b / 2) % m) + X) := by
    have hb2 : b = 2 * (b / 2) + b % 2 := by omega
    have h3 : a * b = 2 * (a * (b / 2)) + a * (b % 2) := by
      rw [show a * b = a * (2 * (b / 2) + b % 2) by rw [← hb2], Int.mul_add]; congr 1; ac_rfl
    have h4 : a * (b % 2) = X := by
      rw [hX]; split
      · rename_i h; rw [h]; omega
      · rw [show b % 2 = 0 by omega]; omega
    rw [h3, h4]
    have h5 : m * (2 * (a * (b / 2) / m)) = 2 * (m * (a * (b / 2) / m)) := by ac_rfl
    omega
  rw [e2]
  constructor
  · rw [Int.add_comm (m * _), Int.add_mul_ediv_left _ _ (by omega)]; omega
  · rw [Int.mul_add_emod_self_left]
theorem muldiv_le (a b m : Int) (ha : 0 ≤ a) (ham : a < m) (hb : 0 ≤ b) : 0 ≤ a * b / m ∧ a * b / m ≤ b := by
  constructor
  · exact Int.ediv_nonneg (Int.mul_nonneg ha hb) (by omega)
  · have : a * b ≤ m * b := Int.mul_le_mul_of_nonneg_right (by omega) hb
    have h2 := Int.ediv_le_ediv (show 0 < m by omega) this
    rwa [Int.mul_ediv_cancel_left b (by omega)] at h2
end NumM
end Go.Proofs.Ytnbfadfhpegddaa
