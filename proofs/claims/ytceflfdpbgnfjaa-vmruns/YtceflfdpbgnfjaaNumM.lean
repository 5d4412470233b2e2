/- Plain mathematics for package num: no Go in sight. -/
import Derived.KernelRfl
set_option linter.unusedVariables false
namespace Go.Proofs.Ytceflfdpbgnfjaa
namespace NumM

/-- the greatest common divisor, of numbers from 0 on -/
def G (a b : Int) : Int := (Nat.gcd a.toNat b.toNat : Int)

theorem G_zero (a : Int) (h : 0 ≤ a) : G a 0 = a := by
  unfold G; simp; omega
theorem zero_G (a : Int) (h : 0 ≤ a) : G 0 a = a := by
  unfold G; simp; omega
theorem G_comm (a b : Int) : G a b = G b a := by
  unfold G; rw [Nat.gcd_comm]
theorem toNat_emod (a b : Int) (ha : 0 ≤ a) (hb : 0 ≤ b) : (a % b).toNat = a.toNat % b.toNat := by
  obtain ⟨m, rfl⟩ := Int.eq_ofNat_of_zero_le ha
  obtain ⟨n, rfl⟩ := Int.eq_ofNat_of_zero_le hb
  rw [← Int.natCast_emod, Int.toNat_natCast, Int.toNat_natCast, Int.toNat_natCast]
theorem G_step (a b : Int) (ha : 0 ≤ a) (hb : 0 ≤ b) : G b (a % b) = G a b := by
  unfold G
  rw [toNat_emod a b ha hb, Nat.gcd_comm a.toNat b.toNat]
  congr 1
  rw [Nat.gcd_comm b.toNat (a.toNat % b.toNat)]
  exact (Nat.gcd_rec b.toNat a.toNat).symm
theorem G_nonneg (a b : Int) : 0 ≤ G a b := by unfold G; omega
theorem G_pos (a b : Int) (h : 1 ≤ a) : 1 ≤ G a b := by
  unfold G
  have := Nat.gcd_pos_of_pos_left b.toNat (show 0 < a.toNat by omega)
  omega
theorem G_dvd_left (a b : Int) (ha : 0 ≤ a) : G a b ∣ a := by
  unfold G
  have := Int.ofNat_dvd.2 (Nat.gcd_dvd_left a.toNat b.toNat)
  rwa [Int.toNat_of_nonneg ha] at this
theorem G_dvd_right (a b : Int) (hb : 0 ≤ b) : G a b ∣ b := by
  rw [G_comm]; exact G_dvd_left b a hb
theorem dvd_G (a b d : Int) (ha : 0 ≤ a) (hb : 0 ≤ b) (h1 : d ∣ a) (h2 : d ∣ b) : d ∣ G a b := by
  unfold G
  apply Int.natAbs_dvd_natAbs.1
  rw [Int.natAbs_natCast]
  apply Nat.dvd_gcd
  · have := Int.natAbs_dvd_natAbs.2 h1; rwa [show a.natAbs = a.toNat by omega] at this
  · have := Int.natAbs_dvd_natAbs.2 h2; rwa [show b.natAbs = b.toNat by omega] at this
theorem G_le_left (a b : Int) (ha : 1 ≤ a) : G a b ≤ a := Int.le_of_dvd (by omega) (G_dvd_left a b (by omega))
theorem G_le_right (a b : Int) (hb : 1 ≤ b) : G a b ≤ b := Int.le_of_dvd (by omega) (G_dvd_right a b (by omega))
theorem G_le (a b m : Int) (ha : 0 ≤ a) (hb : 0 ≤ b) (h1 : a ≤ m) (h2 : b ≤ m) : G a b ≤ m := by
  by_cases h : a = 0
  · subst h; rw [zero_G b hb]; exact h2
  · exact Int.le_trans (G_le_left a b (by omega)) h1

/-- rounded down -/
theorem floor_neg (a b : Int) (hb : 1 ≤ b) (h : a.tmod b < 0) : a.tdiv b - 1 = a / b := by
  have h0 : a < 0 := by
    rcases Int.lt_or_le a 0 with h1 | h1
    · exact h1
    · have := Int.tmod_nonneg b h1; omega
  have e1 := Int.mul_tdiv_add_tmod a b
  have lb := Int.lt_tmod_of_pos a (show 0 < b by omega)
  have : a / b = a.tdiv b - 1 := by
    refine Int.ediv_eq_iff_of_pos (by omega) |>.2 ?_
    constructor
    · rw [Int.sub_mul]; rw [Int.mul_comm] at e1; omega
    · rw [Int.mul_comm] at e1; rw [Int.sub_mul]; omega
  omega
theorem floor_pos (a b : Int) (hb : 1 ≤ b) (h : ¬ a.tmod b < 0) : a.tdiv b = a / b := by
  have e1 := Int.mul_tdiv_add_tmod a b
  have ub := Int.tmod_lt_of_pos a (show 0 < b by omega)
  refine ((Int.ediv_eq_iff_of_pos (by omega)).2 ?_).symm
  constructor
  · rw [Int.mul_comm] at e1; omega
  · rw [Int.mul_comm] at e1; omega
theorem tdiv_bd (a b M : Int) (hb : 1 ≤ b) (h1 : -M ≤ a) (h2 : a ≤ M) : -M ≤ a.tdiv b ∧ a.tdiv b ≤ M := by
  have h := Int.natAbs_tdiv a b
  have h3 : a.natAbs / b.natAbs ≤ a.natAbs := Nat.div_le_self _ _
  have e : (a.tdiv b).natAbs = a.natAbs / b.natAbs := h
  omega
theorem ediv_bd (a b M : Int) (hb : 1 ≤ b) (h1 : -M ≤ a) (h2 : a ≤ M) (h3 : 0 ≤ M) : -M ≤ a / b ∧ a / b ≤ M := by
  constructor
  · have : -M * b ≤ a := by
      have := Int.mul_le_mul_of_nonneg_left hb h3
      rw [Int.neg_mul]; omega
    exact Int.le_ediv_of_mul_le (by omega) this
  · rcases Int.lt_or_le a 0 with h | h
    · have := Int.ediv_neg_of_neg_of_pos h (show 0 < b by omega); omega
    · exact Int.le_trans (Int.ediv_le_self b h) h2

/-- What holds at the head of each round of Euclid's way with cofactors: of the numbers A and B that were handed in. -/
structure Eu (A B a b x y u v : Int) : Prop where
  ha : 1 ≤ a
  hb : 0 ≤ b
  hg : G a b = G A B
  e1 : x * A + y * B = a
  sgn : ∃ s : Int, (s = 1 ∨ s = -1) ∧ 0 ≤ s * x ∧ s * u ≤ 0 ∧ s * y ≤ 0 ∧ 0 ≤ s * v ∧ s * (x * b - u * a) = B ∧ s * (v * a - y * b) = A
  e2 : u * A + v * B = b
  bx : -B ≤ x * G A B ∧ x * G A B ≤ B
  by' : -A ≤ y * G A B ∧ y * G A B ≤ A

theorem Eu.start (A B : Int) (hA : 1 ≤ A) (hB : 1 ≤ B) : Eu A B A B 1 0 0 1 where
  ha := hA
  hb := by omega
  hg := rfl
  e1 := by omega
  e2 := by omega
  sgn := ⟨1, .inl rfl, by omega, by omega, by omega, by omega, by omega, by omega⟩
  bx := by have := G_le_right A B hB; have := G_nonneg A B; omega
  by' := by omega

/-- bounds of the cofactors while b is not 0 -/
theorem bd_of (s x u a b B : Int) (hs : s = 1 ∨ s = -1) (h1 : 0 ≤ s * x) (h2 : s * u ≤ 0) (ha : 1 ≤ a) (hb : 0 ≤ b) (h : s * (x * b - u * a) = B) :
    (-B ≤ u * a ∧ u * a ≤ B) ∧ (-B ≤ x * b ∧ x * b ≤ B) ∧ 0 ≤ B := by
  rcases hs with rfl | rfl
  · have p1 : 0 ≤ x * b := Int.mul_nonneg (by omega) hb
    have p2 : 0 ≤ (-u) * a := Int.mul_nonneg (by omega) (by omega)
    rw [Int.neg_mul] at p2
    omega
  · have p1 : 0 ≤ (-x) * b := Int.mul_nonneg (by omega) hb
    have p2 : 0 ≤ u * a := Int.mul_nonneg (by omega) (by omega)
    rw [Int.neg_mul] at p1
    omega
theorem le_of_mul (u a B : Int) (ha : 1 ≤ a) (hB : 0 ≤ B) (h1 : -B ≤ u * a) (h2 : u * a ≤ B) : -B ≤ u ∧ u ≤ B := by
  constructor
  · rcases Int.lt_or_le u 0 with h | h
    · have := Int.mul_le_mul_of_nonneg_left ha (show 0 ≤ -u by omega)
      simp only [Int.neg_mul] at this; omega
    · omega
  · rcases Int.lt_or_le u 0 with h | h
    · omega
    · have := Int.mul_le_mul_of_nonneg_left ha h
      omega
theorem Eu.bdu {A B a b x y u v : Int} (h : Eu A B a b x y u v) : (-B ≤ u ∧ u ≤ B) ∧ (-A ≤ v ∧ v ≤ A) ∧ (-B ≤ u * a ∧ u * a ≤ B) ∧ (-A ≤ v * a ∧ v * a ≤ A) := by
  obtain ⟨s, hs, h1, h2, h3, h4, h5, h6⟩ := h.sgn
  have k := bd_of s x u a b B hs h1 h2 h.ha h.hb h5
  have h7 : s * (v * a - y * b) = (-s) * (y * b - v * a) := by rw [← Int.neg_sub, Int.mul_neg, Int.neg_mul]
  have k2 := bd_of (-s) y v a b A (by omega) (by rw [Int.neg_mul]; omega) (by rw [Int.neg_mul]; omega) h.ha h.hb (by rw [← h7]; exact h6)
  exact ⟨le_of_mul u a B h.ha k.2.2 k.1.1 k.1.2, le_of_mul v a A h.ha k2.2.2 k2.1.1 k2.1.2, k.1, k2.1⟩
theorem Eu.bdx {A B a b x y u v : Int} (h : Eu A B a b x y u v) (hA : 1 ≤ A) (hB : 1 ≤ B) : (-B ≤ x ∧ x ≤ B) ∧ (-A ≤ y ∧ y ≤ A) :=
  ⟨le_of_mul x _ B (G_pos A B hA) (by omega) h.bx.1 h.bx.2, le_of_mul y _ A (G_pos A B hA) (by omega) h.by'.1 h.by'.2⟩

theorem shrink (u a g B : Int) (hg : 1 ≤ g) (hga : g ≤ a) (h : -B ≤ u * a ∧ u * a ≤ B) : -B ≤ u * g ∧ u * g ≤ B := by
  rcases Int.lt_or_le u 0 with h0 | h0
  · have h1 := Int.mul_le_mul_of_nonneg_left hga (show 0 ≤ -u by omega)
    have h2 := Int.mul_nonneg (show 0 ≤ -u by omega) (show 0 ≤ g by omega)
    rw [Int.neg_mul, Int.neg_mul] at h1
    rw [Int.neg_mul] at h2
    omega
  · have h1 := Int.mul_le_mul_of_nonneg_left hga h0
    have h2 := Int.mul_nonneg h0 (show 0 ≤ g by omega)
    omega

theorem Eu.step {A B a b x y u v : Int} (h : Eu A B a b x y u v) (hA : 1 ≤ A) (hB : 1 ≤ B) (hb : b ≠ 0) :
    Eu A B b (a % b) u v (x - a / b * u) (y - a / b * v) := by
  have hb1 : 1 ≤ b := by have := h.hb; omega
  have em := Int.emod_add_mul_ediv a b
  have em1 : a % b = a - b * (a / b) := by omega
  have q0 : 0 ≤ a / b := Int.ediv_nonneg (by have := h.ha; omega) (by omega)
  have gg : G A B ≤ a := by rw [← h.hg]; exact G_le_left a b h.ha
  have gp := G_pos A B hA
  have bu := h.bdu
  obtain ⟨s, hs, h1, h2, h3, h4, h5, h6⟩ := h.sgn
  have e1 := h.e1
  have e2 := h.e2
  refine ⟨hb1, Int.emod_nonneg a hb, ?_, e2, ⟨-s, by omega, by rw [Int.neg_mul]; omega, ?_, by rw [Int.neg_mul]; omega, ?_, ?_, ?_⟩, ?_, shrink _ _ _ _ gp gg bu.2.2.1, shrink _ _ _ _ gp gg bu.2.2.2⟩
  · rw [G_step a b (by have := h.ha; omega) h.hb]; exact h.hg
  · rw [Int.neg_mul, Int.mul_sub]
    have : s * (a / b * u) = a / b * (s * u) := by ac_rfl
    have := Int.mul_nonneg q0 (show 0 ≤ -(s * u) by omega)
    rw [Int.mul_neg] at this; omega
  · rw [Int.neg_mul, Int.mul_sub]
    have : s * (a / b * v) = a / b * (s * v) := by ac_rfl
    have := Int.mul_nonneg q0 h4
    omega
  · rw [em1, ← h5]
    generalize a / b = q
    rw [Int.neg_mul, ← Int.mul_neg]; congr 1
    simp only [Int.mul_sub, Int.sub_mul]
    have : q * u * b = u * (b * q) := by ac_rfl
    omega
  · rw [em1, ← h6]
    generalize a / b = q
    rw [Int.neg_mul, ← Int.mul_neg]; congr 1
    simp only [Int.mul_sub, Int.sub_mul]
    have : q * v * b = v * (b * q) := by ac_rfl
    omega
  · rw [em1, ← e1, ← e2]
    generalize (x * A + y * B) / (u * A + v * B) = q
    simp only [Int.sub_mul, Int.add_mul]
    have t1 : q * u * A = u * A * q := by ac_rfl
    have t2 : q * v * B = v * B * q := by ac_rfl
    omega

/-- what Parts does with the cofactors -/
theorem parts_ok {A B x y u v : Int} (hA : 1 ≤ A) (hB : 1 ≤ B) (h : Eu A B (G A B) 0 x y u v) :
    1 ≤ B / G A B ∧ B / G A B ≤ B ∧ 1 ≤ A / G A B ∧ A / G A B ≤ A ∧ -1 ≤ x / (B / G A B) ∧ x / (B / G A B) ≤ 1 ∧
    0 ≤ x - x / (B / G A B) * (B / G A B) ∧ x - x / (B / G A B) * (B / G A B) < B / G A B ∧
    (x - x / (B / G A B) * (B / G A B)) * A + (y + x / (B / G A B) * (A / G A B)) * B = G A B ∧
    -A ≤ x / (B / G A B) * (A / G A B) ∧ x / (B / G A B) * (A / G A B) ≤ A := by
  have gp := G_pos A B hA
  have e := h.e1
  have bx := h.bx
  obtain ⟨p, hp⟩ := G_dvd_left A B (by omega)
  obtain ⟨q, hq⟩ := G_dvd_right A B (by omega)
  generalize G A B = g at *
  have hp1 : A / g = p := by rw [hp]; exact Int.mul_ediv_cancel_left p (by omega)
  have hq1 : B / g = q := by rw [hq]; exact Int.mul_ediv_cancel_left q (by omega)
  rw [hp1, hq1]
  have p1 : 1 ≤ p := by
    rcases Int.lt_or_le p 1 with hh | hh
    · have := Int.mul_nonneg (show 0 ≤ g by omega) (show 0 ≤ -p by omega)
      rw [Int.mul_neg] at this; omega
    · exact hh
  have q1 : 1 ≤ q := by
    rcases Int.lt_or_le q 1 with hh | hh
    · have := Int.mul_nonneg (show 0 ≤ g by omega) (show 0 ≤ -q by omega)
      rw [Int.mul_neg] at this; omega
    · exact hh
  have pA : p ≤ A := by rw [hp]; have := Int.mul_le_mul_of_nonneg_right gp (show 0 ≤ p by omega); omega
  have qB : q ≤ B := by rw [hq]; have := Int.mul_le_mul_of_nonneg_right gp (show 0 ≤ q by omega); omega
  have x2 : x ≤ q := by
    have : x * g ≤ q * g := by rw [Int.mul_comm q g, ← hq]; exact bx.2
    exact Int.le_of_mul_le_mul_right this (by omega)
  have x1 : -q ≤ x := by
    have : (-q) * g ≤ x * g := by rw [Int.neg_mul, Int.mul_comm q g, ← hq]; exact bx.1
    exact Int.le_of_mul_le_mul_right this (by omega)
  have t1 : -1 ≤ x / q := Int.le_ediv_of_mul_le (by omega) (by omega)
  have t2 : x / q ≤ 1 := by
    have : x / q < 2 := Int.ediv_lt_of_lt_mul (by omega) (by omega)
    omega
  have em := Int.emod_add_mul_ediv x q
  have em1 := Int.emod_nonneg x (show q ≠ 0 by omega)
  have em2 := Int.emod_lt_of_pos x (show 0 < q by omega)
  rw [Int.mul_comm] at em
  refine ⟨q1, qB, p1, pA, t1, t2, by omega, by omega, ?_, ?_, ?_⟩
  · generalize x / q = t at *
    have k : q * A = p * B := by rw [hp, hq]; ac_rfl
    simp only [Int.sub_mul, Int.add_mul]
    have k2 : t * q * A = t * (q * A) := by ac_rfl
    have k3 : t * p * B = t * (p * B) := by ac_rfl
    rw [k2, k3, k]; omega
  · have : x / q = -1 ∨ x / q = 0 ∨ x / q = 1 := by omega
    rcases this with h | h | h <;> rw [h] <;> omega
  · have : x / q = -1 ∨ x / q = 0 ∨ x / q = 1 := by omega
    rcases this with h | h | h <;> rw [h] <;> omega

theorem small_mul (a b M N : Int) (h1 : -M ≤ a) (h2 : a ≤ M) (h3 : -N ≤ b) (h4 : b ≤ N) (hM : 0 ≤ M) (hN : 0 ≤ N) : -(M * N) ≤ a * b ∧ a * b ≤ M * N := by
  have e : (a * b).natAbs ≤ M.natAbs * N.natAbs := by
    rw [Int.natAbs_mul]; exact Nat.mul_le_mul (by omega) (by omega)
  have e2 : M.natAbs * N.natAbs = (M * N).natAbs := (Int.natAbs_mul M N).symm
  have := Int.mul_nonneg hM hN
  omega

/-- the least number that leaves a by m and b by n, where there is one -/
structure Met (a m b n t : Int) : Prop where
  lo : 0 ≤ t
  hi : t < m / G m n * n
  ma : t % m = a
  nb : t % n = b

theorem exact_div (c g : Int) (hg : 1 ≤ g) (h : c.tmod g = 0) : c.tdiv g * g = c := by
  have := Int.mul_tdiv_add_tmod c g; rw [Int.mul_comm]; omega

theorem meet_ok {a m b n x y u v : Int} (hm : 1 ≤ m) (hn : 1 ≤ n) (ha : 0 ≤ a) (ha2 : a < m) (hb : 0 ≤ b) (hb2 : b < n)
    (h : Eu m n (G m n) 0 x y u v) (hc : (b - a).tmod (G m n) = 0) :
    Met a m b n (a + (b - a).tdiv (G m n) * x % (n / G m n) * m) ∧ 0 ≤ (b - a).tdiv (G m n) * x % (n / G m n) ∧ (b - a).tdiv (G m n) * x % (n / G m n) < n / G m n := by
  have gp := G_pos m n hm
  have e := h.e1
  have ex := exact_div _ _ gp hc
  obtain ⟨p, hp⟩ := G_dvd_left m n (by omega)
  obtain ⟨q, hq⟩ := G_dvd_right m n (by omega)
  generalize hgg : G m n = g at *
  have hp1 : m / g = p := by rw [hp]; exact Int.mul_ediv_cancel_left p (by omega)
  have hq1 : n / g = q := by rw [hq]; exact Int.mul_ediv_cancel_left q (by omega)
  have q1 : 1 ≤ q := by
    rcases Int.lt_or_le q 1 with hh | hh
    · have := Int.mul_nonneg (show 0 ≤ g by omega) (show 0 ≤ -q by omega)
      rw [Int.mul_neg] at this; omega
    · exact hh
  rw [hq1]
  generalize (b - a).tdiv g = k at *
  have em := Int.emod_add_mul_ediv (k * x) q
  have em1 := Int.emod_nonneg (k * x) (show q ≠ 0 by omega)
  have em2 := Int.emod_lt_of_pos (k * x) (show 0 < q by omega)
  generalize hz : k * x / q = z at *
  generalize hr : k * x % q = r at *
  have tm : 0 ≤ r * m := Int.mul_nonneg em1 (by omega)
  refine ⟨⟨by omega, ?_, ?_, ?_⟩, em1, em2⟩
  · rw [hgg, hp1]
    have : r * m ≤ (q - 1) * m := Int.mul_le_mul_of_nonneg_right (by omega) (by omega)
    have e3 : p * n = q * m := by rw [hp, hq]; ac_rfl
    rw [Int.sub_mul] at this; omega
  · rw [Int.add_mul_emod_self_right]; exact Int.emod_eq_of_lt ha ha2
  · -- a + r m = a + (kx - q z) m = a + k (g - y n) - q z m
    have e4 : a + r * m = b + n * (-(k * y) - z * p) := by
      have r1 : r = k * x - q * z := by omega
      have t1 : (k * x - q * z) * m = k * (x * m) - z * (q * m) := by rw [Int.sub_mul]; congr 1 <;> ac_rfl
      have t2 : x * m = g - y * n := by omega
      have t3 : q * m = p * n := by rw [hp, hq]; ac_rfl
      rw [r1, t1, t2, t3, Int.mul_sub, Int.mul_sub, Int.mul_neg]
      have t4 : k * (y * n) = n * (k * y) := by ac_rfl
      have t5 : z * (p * n) = n * (z * p) := by ac_rfl
      omega
    rw [e4, Int.add_mul_emod_self_left]; exact Int.emod_eq_of_lt hb hb2

/-- a number from 1 to 2^40 -/
def Ok1 (x : Int) : Prop := 1 ≤ x ∧ x ≤ 1099511627776
/-- the least common multiple, one number after another; none: it is more than 2^40 -/
def lcmFrom (all : Int) : List Int → Option Int
  | [] => some all
  | x :: r => if 1099511627776 / all < x / G all x then none else lcmFrom (all * (x / G all x)) r
theorem lcm_step_bd (all x : Int) (h1 : 1 ≤ all) (hx : 1 ≤ x) (hx2 : x ≤ 1099511627776) (h : ¬ 1099511627776 / all < x / G all x) :
    1 ≤ all * (x / G all x) ∧ all * (x / G all x) ≤ 1099511627776 := by
  have gp := G_pos all x h1
  have gl := G_le_right all x hx
  have q1 : 1 ≤ x / G all x := Int.le_ediv_of_mul_le (by omega) (by omega)
  generalize x / G all x = q at *
  have k1 := Int.ediv_mul_le 1099511627776 (show all ≠ 0 by omega)
  have k2 : q * all ≤ 1099511627776 / all * all := Int.mul_le_mul_of_nonneg_right (by omega) (by omega)
  have k3 := Int.mul_le_mul_of_nonneg_left q1 (show 0 ≤ all by omega)
  rw [Int.mul_comm q all] at k2
  omega
theorem drop_get (zs : List Int) (k : Nat) (h : k < zs.length) : zs.drop k = zs.getD k 0 :: zs.drop (k + 1) := by
  rw [List.drop_eq_getElem_cons h]; simp [List.getD, h]
end NumM
end Go.Proofs.Ytceflfdpbgnfjaa
