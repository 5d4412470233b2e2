/- Contracts of package num, continued. -/
import Derived.Test.YteglbjnjjhhloaaNumC
import Derived.Deep.RegionWith
set_option linter.unusedVariables false
namespace Go.Proofs.Yteglbjnjjhhloaa
open Go.RowKit
open NumM
namespace NumC
theorem meet_yes (a m b n : Int) (w : World) (hm : 1 ≤ m) (hm2 : m ≤ 1000000) (hn : 1 ≤ n) (hn2 : n ≤ 1000000) (ha : 0 ≤ a) (ha2 : a < m) (hb : 0 ≤ b) (hb2 : b < n) (hc : (b - a).tmod (G m n) = 0) :
    Calls Try.prog 23 #[.int .i64 a, .int .i64 m, .int .i64 b, .int .i64 n] w fun e w' => ∃ t : Int, e = .returned (.tuple #[.int .i64 t, .int .i64 0]) ∧ Met a m b n t ∧ ∃ n, w' = w.drewN n := by
  have gp := G_pos m n hm
  have gl := G_le_left m n hm
  have gr := G_le_right m n hn
  have hc' : ((b - a).tmod (G m n) != 0) = false := by rw [hc]; rfl
  have HC : Hid ((b - a).tmod (G m n) = 0) := hc
  clear hc
  go_enter Try.func23, Try.ntmps23
  go_wp2_with (first | (go_at_call 30; go_call (within_yes _ _ _ _) as e w' ⟨rfl, rfl⟩) | (go_at_call 30; go_call (within_no _ _ _ _) as e w' ⟨rfl, rfl⟩) | (go_at_call 32; go_call (combine_any _ _ _) as e w' ⟨x, y, u, v, rfl, eu, nn, rfl⟩))
  have K := meet_ok hm hn ha ha2 hb hb2 eu HC.out
  have bx := eu.bdx hm hn
  obtain ⟨k1, k2, k3⟩ := K
  have q1 : 1 ≤ n / G m n := Int.le_ediv_of_mul_le (by omega) (by omega)
  have q2 : n / G m n ≤ n := Int.ediv_le_self _ (by omega)
  have d1 := tdiv_bd (b - a) (G m n) 1000000 gp (by omega) (by omega)
  have d2 := small_mul ((b - a).tdiv (G m n)) x 1000000 1000000 d1.1 d1.2 (by omega) (by omega) (by omega) (by omega)
  have d3 := small_mul ((b - a).tdiv (G m n) * x % (n / G m n)) m 1000000 1000000 (by omega) (by omega) (by omega) (by omega) (by omega) (by omega)
  have hnd : Hid (n.tdiv (G m n) = n / G m n) := Int.tdiv_eq_ediv_of_nonneg (by omega)
  go_region_with (go_at_call 33; (try simp only [hnd.out]); (try simp (disch := omega) only [IntWalk.i64_in]); go_call (rest_any _ _ _) as e w' ⟨rfl, rfl⟩)
  all_goals
    go_wp2
    go_ret2
    exact ⟨_, rfl, k1, _, rfl⟩


theorem lcm_46 (a : Option Addr) (w : World) (hr : Row w a [4, 6]) :
    Calls Try.prog 19 #[.slice a 2 2] w fun e w' => e = .returned (.tuple #[.int .i64 12, .int .i64 0]) ∧ ∃ n, w' = w.drewN n := by
  have h := lcm_fold a 2 [4, 6] w hr (by decide) (by intro i hi; unfold Ok1; match i, hi with | 0, _ => decide | 1, _ => decide)
  have e1 : lcmFrom 1 [4, 6] = some 12 := by decide +kernel
  rw [e1] at h
  exact h
theorem meet_2335 (w : World) :
    Calls Try.prog 23 #[.int .i64 2, .int .i64 3, .int .i64 3, .int .i64 5] w fun e w' => e = .returned (.tuple #[.int .i64 8, .int .i64 0]) ∧ ∃ n, w' = w.drewN n := by
  refine (meet_yes 2 3 3 5 w (by omega) (by omega) (by omega) (by omega) (by omega) (by omega) (by omega) (by omega) (by decide +kernel)).mono ?_
  rintro e w' ⟨t, rfl, hm, n, rfl⟩
  have h1 := hm.lo
  have h2 := hm.hi
  have h3 := hm.ma
  have h4 := hm.nb
  have e1 : (3 : Int) / G 3 5 * 5 = 15 := by decide +kernel
  rw [e1] at h2
  have : t = 8 := by omega
  rw [this]
  exact ⟨rfl, n, rfl⟩
theorem gcd_1218 (w : World) :
    Calls Try.prog 17 #[.int .i64 12, .int .i64 18] w fun e w' => e = .returned (.tuple #[.int .i64 6, .int .i64 0]) ∧ ∃ n, w' = w.drewN n := by
  have h := Gcd_yes 12 18 w (by omega) (by omega) (by omega) (by omega)
  have e1 : G 12 18 = 6 := by decide +kernel
  rw [e1] at h
  exact h
theorem down_72 (w : World) :
    Calls Try.prog 13 #[.int .i64 (-7), .int .i64 2] w fun e w' => e = .returned (.tuple #[.int .i64 (-4), .int .i64 0]) ∧ w' = w :=
  down_yes (-7) 2 w (by omega) (by omega) (by omega) (by omega)
end NumC
end Go.Proofs.Yteglbjnjjhhloaa
