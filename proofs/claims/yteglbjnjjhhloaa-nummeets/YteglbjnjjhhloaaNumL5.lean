/- MeetsAt, MulDiv, LcmOf; the walk of NumMeets. -/
import Derived.Test.YteglbjnjjhhloaaNumR
import Derived.Test.YteglbjnjjhhloaaNumL3
set_option linter.unusedVariables false
namespace Go.Proofs.Yteglbjnjjhhloaa
open Go.RowKit
open NumM
namespace NumC
set_option maxHeartbeats 1000000 in
theorem meetsAt_yes (a m b n t : Int) (w : World) (hm : 1 ≤ m) (hm2 : m ≤ 3000) (hn : 1 ≤ n) (hn2 : n ≤ 3000) (ha : 0 ≤ a) (ha2 : a < m) (hb : 0 ≤ b) (hb2 : b < n) (ht : Met a m b n t) :
    Calls Try.prog 24 #[.int .i64 a, .int .i64 m, .int .i64 b, .int .i64 n] w fun e w' => e = .returned (.tuple #[.int .i64 t, .int .i64 0]) ∧ w' = w := by
  have gp := G_pos m n hm
  have gr := G_le_right m n hn
  have q2 : n / G m n ≤ n := Int.ediv_le_self _ (by omega)
  have q0 : 0 ≤ n / G m n := Int.ediv_nonneg (by omega) (by omega)
  have k1 := ht.lo
  have k2 := ht.hi
  have k3 := ht.ma
  rw [step_eq m n hm hn] at k2
  have em := Int.emod_add_mul_ediv t m
  rw [k3, Int.mul_comm] at em
  have kq : 0 ≤ t / m := Int.ediv_nonneg k1 (by omega)
  have kl : t / m < n / G m n := Int.ediv_lt_of_lt_mul (by omega) (by rw [Int.mul_comm]; exact k2)
  have HT : Hid (Met a m b n t) := ht
  have EM : Hid (a + t / m * m = t) := em
  clear ht em k3 k2
  go_enter Try.func24, Try.ntmps24
  go_wp2_with fail
  go_loopw [10] (fun s w' => ∃ k : Int, s = .int .i64 k ∧ 0 ≤ k ∧ k ≤ t / m ∧ w' = w) (fun s _ => (t / m - intOf s).toNat)
  case atStart => exact ⟨0, rfl, by omega, kq, rfl⟩
  case round =>
    obtain ⟨k, rfl, hk0, hk, rfl⟩ := hrel
    have d := small_mul k m 3000 3000 (by omega) (by omega) (by omega) (by omega) (by omega) (by omega)
    have d0 := Int.mul_nonneg hk0 (show 0 ≤ m by omega)
    by_cases he : k = t / m
    · have hx : ((a + k * m) % n == b) = true := by rw [beq_iff_eq, he, EM.out]; exact HT.out.nb
      have HE : Hid (k = t / m) := he
      clear he
      go_wp2_with (go_at_call 20; refine (gcdOf _ _ _ (by omega) (by omega) (by omega) (by omega)).mono ?_; rintro e w' ⟨rfl, rfl⟩)
      go_ret2
      have e2 : a + k * m = t := by rw [HE.out]; exact EM.out
      refine ⟨?_, rfl⟩
      rw [← e2]; rfl
    · have hx : ((a + k * m) % n == b) = false := by
        rw [beq_eq_false_iff_ne]; intro hy
        have l := HT.out.least hm hn (a + k * m) (by omega) (by rw [Int.add_mul_emod_self_right]; exact Int.emod_eq_of_lt ha ha2) hy
        have l2 : (k + 1) * m ≤ t / m * m := Int.mul_le_mul_of_nonneg_right (by omega) (by omega)
        have := EM.out
        rw [Int.add_mul] at l2
        omega
      go_wp2_with (go_at_call 20; refine (gcdOf _ _ _ (by omega) (by omega) (by omega) (by omega)).mono ?_; rintro e w' ⟨rfl, rfl⟩)
      go_roundw
      case rel => exact ⟨k + 1, rfl, by omega, by omega, trivial⟩
      case measure => simp [intOf]; omega

set_option maxHeartbeats 1000000 in
theorem meetsAt_none (a m b n : Int) (w : World) (hm : 1 ≤ m) (hm2 : m ≤ 3000) (hn : 1 ≤ n) (hn2 : n ≤ 3000) (ha : 0 ≤ a) (ha2 : a < m) (hb : 0 ≤ b) (hb2 : b < n) (hc : (b - a).tmod (G m n) ≠ 0) :
    Calls Try.prog 24 #[.int .i64 a, .int .i64 m, .int .i64 b, .int .i64 n] w fun e w' => e = .returned (.tuple #[.int .i64 0, .int .i64 7]) ∧ w' = w := by
  have gp := G_pos m n hm
  have gr := G_le_right m n hn
  have q2 : n / G m n ≤ n := Int.ediv_le_self _ (by omega)
  have q0 : 0 ≤ n / G m n := Int.ediv_nonneg (by omega) (by omega)
  have HC : Hid ((b - a).tmod (G m n) ≠ 0) := hc
  clear hc
  go_enter Try.func24, Try.ntmps24
  go_wp2_with fail
  go_loopw [10] (fun s w' => ∃ k : Int, s = .int .i64 k ∧ 0 ≤ k ∧ k ≤ n / G m n ∧ w' = w) (fun s _ => (n / G m n - intOf s).toNat)
  case atStart => exact ⟨0, rfl, by omega, q0, rfl⟩
  case round =>
    obtain ⟨k, rfl, hk0, hk, rfl⟩ := hrel
    have d := small_mul k m 3000 3000 (by omega) (by omega) (by omega) (by omega) (by omega) (by omega)
    have d0 := Int.mul_nonneg hk0 (show 0 ≤ m by omega)
    have hx : ((a + k * m) % n == b) = false := by
      rw [beq_eq_false_iff_ne]; intro hy
      exact none_of a m b n (a + k * m) hm hn HC.out (by rw [Int.add_mul_emod_self_right]; exact Int.emod_eq_of_lt ha ha2) hy
    by_cases he : k < n / G m n
    · go_wp2_with (go_at_call 20; refine (gcdOf _ _ _ (by omega) (by omega) (by omega) (by omega)).mono ?_; rintro e w' ⟨rfl, rfl⟩)
      go_roundw
      case rel => exact ⟨k + 1, rfl, by omega, by omega, trivial⟩
      case measure => simp [intOf]; omega
    · go_wp2_with (go_at_call 20; refine (gcdOf _ _ _ (by omega) (by omega) (by omega) (by omega)).mono ?_; rintro e w' ⟨rfl, rfl⟩)
      go_ret2
      exact ⟨rfl, rfl⟩

set_option maxHeartbeats 2000000 in
theorem numMeets_walk (a0 a1 a2 a3 : Int) (w : World) (w0 : (Lit.int .i64 a0).wf = true) (w1 : (Lit.int .i64 a1).wf = true) (w2 : (Lit.int .i64 a2).wf = true) (w3 : (Lit.int .i64 a3).wf = true) :
    Calls Try.prog 6 #[.int .i64 a0, .int .i64 a1, .int .i64 a2, .int .i64 a3] w fun e w' => e = .returned (.bool true) ∧ Below w.heap.size w w' := by
  have b1 := wf64 w1
  have b3 := wf64 w3
  by_cases h : 1 ≤ a1 ∧ a1 ≤ 1000000 ∧ 1 ≤ a3 ∧ a3 ≤ 1000000 ∧ 0 ≤ a0 ∧ a0 < a1 ∧ 0 ≤ a2 ∧ a2 < a3
  · obtain ⟨h1, h2, h3, h4, h5, h6, h7, h8⟩ := h
    by_cases hc : (a2 - a0).tmod (G a1 a3) = 0
    · have HC : Hid ((a2 - a0).tmod (G a1 a3) = 0) := hc
      clear hc
      by_cases hs : a1 ≤ 3000 ∧ a3 ≤ 3000
      · obtain ⟨s1, s2⟩ := hs
        go_enter Try.func6, Try.ntmps6
        go_wp2_with fail
        refine (meet_yes _ _ _ _ _ h1 h2 h3 h4 h5 h6 h7 h8 HC.out).mono ?_
        rintro e w' ⟨t, rfl, hm, n1, rfl⟩
        go_wp2_with (first | (go_at_call 15; go_call (between_yes _ _ _ _) as e w' ⟨rfl, rfl⟩) | (go_at_call 24; refine (meetsAt_yes _ _ _ _ t _ h1 s1 h3 s2 h5 h6 h7 h8 hm).mono ?_; rintro e w' ⟨rfl, rfl⟩))
        go_ret
        exact ⟨by simp, of_drewN' (Below.refl _ _)⟩
      · by_cases s1 : a1 ≤ 3000
        all_goals
          go_enter Try.func6, Try.ntmps6
          go_wp2_with fail
          refine (meet_yes _ _ _ _ _ h1 h2 h3 h4 h5 h6 h7 h8 HC.out).mono ?_
          rintro e w' ⟨t, rfl, hm, n1, rfl⟩
          go_wp2_with (go_at_call 15; go_call (between_yes _ _ _ _) as e w' ⟨rfl, rfl⟩)
          go_ret
          exact ⟨rfl, of_drewN' (Below.refl _ _)⟩
    · have HC : Hid ((a2 - a0).tmod (G a1 a3) ≠ 0) := hc
      clear hc
      by_cases hs : a1 ≤ 3000 ∧ a3 ≤ 3000
      · obtain ⟨s1, s2⟩ := hs
        go_enter Try.func6, Try.ntmps6
        go_wp2_with fail
        refine (meet_none _ _ _ _ _ h1 h2 h3 h4 h5 h6 h7 h8 HC.out).mono ?_
        rintro e w' ⟨rfl, n1, rfl⟩
        go_wp2_with (first | (go_at_call 15; go_call (between_yes _ _ _ _) as e w' ⟨rfl, rfl⟩) | (go_at_call 24; refine (meetsAt_none _ _ _ _ _ h1 s1 h3 s2 h5 h6 h7 h8 HC.out).mono ?_; rintro e w' ⟨rfl, rfl⟩))
        go_ret
        exact ⟨rfl, of_drewN' (Below.refl _ _)⟩
      · by_cases s1 : a1 ≤ 3000
        all_goals
          go_enter Try.func6, Try.ntmps6
          go_wp2_with fail
          refine (meet_none _ _ _ _ _ h1 h2 h3 h4 h5 h6 h7 h8 HC.out).mono ?_
          rintro e w' ⟨rfl, n1, rfl⟩
          go_wp2_with (go_at_call 15; go_call (between_yes _ _ _ _) as e w' ⟨rfl, rfl⟩)
          go_ret
          exact ⟨rfl, of_drewN' (Below.refl _ _)⟩
  · have T : ¬ (1 ≤ a1 ∧ a1 ≤ 1000000) ∨ ((1 ≤ a1 ∧ a1 ≤ 1000000) ∧ ¬ (1 ≤ a3 ∧ a3 ≤ 1000000)) ∨ ((1 ≤ a1 ∧ a1 ≤ 1000000) ∧ (1 ≤ a3 ∧ a3 ≤ 1000000) ∧ ¬ (0 ≤ a0 ∧ a0 ≤ a1 - 1)) ∨ ((1 ≤ a1 ∧ a1 ≤ 1000000) ∧ (1 ≤ a3 ∧ a3 ≤ 1000000) ∧ (0 ≤ a0 ∧ a0 ≤ a1 - 1) ∧ ¬ (0 ≤ a2 ∧ a2 ≤ a3 - 1)) := by omega
    rcases T with t1 | ⟨t1, t2⟩ | ⟨t1, t2, t3⟩ | ⟨t1, t2, t3, t4⟩
    all_goals
      go_enter Try.func6, Try.ntmps6
      go_wp2_with (first | (go_at_call 23; go_call (meet_arg _ _ _ _ _) as e w' ⟨rfl, n1, rfl⟩) | (go_at_call 15; go_call (between_yes _ _ _ _) as e w' ⟨rfl, rfl⟩) | (go_at_call 15; go_call (between_no _ _ _ _) as e w' ⟨rfl, rfl⟩))
      go_ret
      exact ⟨rfl, of_drewN' (Below.refl _ _)⟩
end NumC
end Go.Proofs.Yteglbjnjjhhloaa
