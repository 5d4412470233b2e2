/- The walks of NumBezout and NumChinese. -/
import Derived.Test.YteglbjnjjhhloaaNumL1
import Derived.Test.YteglbjnjjhhloaaNumM2
set_option linter.unusedVariables false
namespace Go.Proofs.Yteglbjnjjhhloaa
open Go.RowKit
open NumM
namespace NumC
theorem of_drewN' {B : Nat} {w w' : World} {n : Nat} (h : Below B (w.drewN n) w') : Below B w w' := (below_drewN (Below.refl _ _) n).trans h

theorem bez_no (a b X Y less : Int) (ha : 1 ≤ a) (hb : 1 ≤ b) (x1 : 0 ≤ X) (x2 : X < b / G a b) (x3 : X * a + Y * b = G a b) (h0 : 0 ≤ less) (hl : less < X) :
    ((G a b - less * a).tmod b != 0) = true := by
  rw [bne_iff_ne]
  intro h
  have d := Int.dvd_of_tmod_eq_zero h
  have d2 : b ∣ (X - less) * a := by
    obtain ⟨c, hc⟩ := d
    refine ⟨c - Y, ?_⟩
    rw [Int.sub_mul, Int.mul_sub, ← hc, Int.mul_comm b Y]; omega
  have d3 := share_dvd a b (X - less) ha hb d2
  have := Int.le_of_dvd (by omega) d3
  omega

set_option maxHeartbeats 1000000 in
theorem numBezout_walk (a0 a1 a2 : Int) (w : World) (w0 : (Lit.int .i64 a0).wf = true) (w1 : (Lit.int .i64 a1).wf = true) (w2 : (Lit.int .i64 a2).wf = true) :
    Calls Try.prog 9 #[.int .i64 a0, .int .i64 a1, .int .i64 a2] w fun e w' => e = .returned (.bool true) ∧ Below w.heap.size w w' := by
  by_cases h : 1 ≤ a0 ∧ a0 ≤ 1099511627776 ∧ 1 ≤ a1 ∧ a1 ≤ 1099511627776
  · obtain ⟨h1, h2, h3, h4⟩ := h
    by_cases hs : a0 ≤ 1000000 ∧ a1 ≤ 1000000
    · obtain ⟨s1, s2⟩ := hs
      have gp := G_pos a0 a1 h1
      have gl := G_le_left a0 a1 h1
      have gr := G_le_right a0 a1 h3
      have q2 : a1 / G a0 a1 ≤ a1 := Int.ediv_le_self _ (by omega)
      go_enter Try.func9, Try.ntmps9
      go_wp2_with fail
      refine (parts_yes a0 a1 _ h1 h2 h3 h4).mono ?_
      rintro e w' ⟨X, Y, rfl, ⟨x1, x2, x3, y1, y2⟩, n1, rfl⟩
      have m1 := small_mul X a0 1000000 1000000 (by omega) (by omega) (by omega) (by omega) (by omega) (by omega)
      have m2 := small_mul Y a1 2000000 1000000 (by omega) (by omega) (by omega) (by omega) (by omega) (by omega)
      have x3' : (X * a0 + Y * a1 != G a0 a1) = false := by rw [x3]; simp
      have X3 : Hid (X * a0 + Y * a1 = G a0 a1) := x3
      clear x3
      by_cases hl : a2 < 0
      · go_wp2_with (first | (go_at_call 17; go_call (Gcd_yes _ _ _) as e w' ⟨rfl, n2, rfl⟩) | (go_at_call 25; refine (lives _).mono ?_; rintro e w' ⟨rfl, hb⟩))
        go_ret
        exact ⟨rfl, of_drewN' hb⟩
      · by_cases hl2 : X ≤ a2
        · go_wp2_with (first | (go_at_call 17; go_call (Gcd_yes _ _ _) as e w' ⟨rfl, n2, rfl⟩) | (go_at_call 25; refine (lives _).mono ?_; rintro e w' ⟨rfl, hb⟩))
          go_ret
          exact ⟨rfl, of_drewN' hb⟩
        · have hm := bez_no a0 a1 X Y a2 h1 h3 x1 x2 X3.out (by omega) (by omega)
          have m3 := small_mul a2 a0 1000000 1000000 (by omega) (by omega) (by omega) (by omega) (by omega) (by omega)
          go_wp2_with (first | (go_at_call 17; go_call (Gcd_yes _ _ _) as e w' ⟨rfl, n2, rfl⟩) | (go_at_call 25; refine (lives _).mono ?_; rintro e w' ⟨rfl, hb⟩))
          go_ret
          exact ⟨rfl, of_drewN' hb⟩
    · by_cases s1 : a0 ≤ 1000000
      all_goals
        go_enter Try.func9, Try.ntmps9
        go_wp2_with (first | (go_at_call 18; go_call (parts_yes _ _ _) as e w' ⟨X, Y, rfl, _, n1, rfl⟩) | (go_at_call 17; go_call (Gcd_yes _ _ _) as e w' ⟨rfl, n2, rfl⟩) | (go_at_call 25; refine (lives _).mono ?_; rintro e w' ⟨rfl, hb⟩))
        go_ret
        exact ⟨rfl, of_drewN' (bel_trans ‹Below _ (w.drewN _) _› hb)⟩
  · by_cases g : 0 ≤ a0 ∧ a0 ≤ 1099511627776 ∧ 0 ≤ a1 ∧ a1 ≤ 1099511627776
    · obtain ⟨g1, g2, g3, g4⟩ := g
      go_enter Try.func9, Try.ntmps9
      go_wp2_with (first | (go_at_call 18; go_call (parts_no _ _ _) as e w' ⟨rfl, n1, rfl⟩) | (go_at_call 17; go_call (Gcd_yes _ _ _) as e w' ⟨rfl, n2, rfl⟩) | (go_at_call 25; refine (lives _).mono ?_; rintro e w' ⟨rfl, hb⟩))
      go_ret
      exact ⟨rfl, of_drewN' (bel_trans ‹Below _ (w.drewN _) _› hb)⟩
    · go_enter Try.func9, Try.ntmps9
      go_wp2_with (first | (go_at_call 18; go_call (parts_no _ _ _) as e w' ⟨rfl, n1, rfl⟩) | (go_at_call 17; go_call (Gcd_no _ _ _) as e w' ⟨rfl, n2, rfl⟩) | (go_at_call 25; refine (lives _).mono ?_; rintro e w' ⟨rfl, hb⟩))
      go_ret
      exact ⟨rfl, of_drewN' (bel_trans ‹Below _ (w.drewN _) _› hb)⟩
end NumC
end Go.Proofs.Yteglbjnjjhhloaa
