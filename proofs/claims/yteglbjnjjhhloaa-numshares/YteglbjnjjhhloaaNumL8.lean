/- The walk of NumShares. -/
import Derived.Test.YteglbjnjjhhloaaNumL7
set_option linter.unusedVariables false
namespace Go.Proofs.Yteglbjnjjhhloaa
open Go.RowKit
open NumM Base
namespace NumC
set_option maxHeartbeats 8000000 in
theorem numShares_walk' (a0 a1 : Int) (a : Option Addr) (cap : Nat) (zs : List Int) (w : World) (hr : Row w a zs) (hcap : zs.length ≤ 9223372036854775807) :
    Calls Try.prog 5 #[.int .i64 a0, .int .i64 a1, .slice a zs.length cap] w fun e w' => e = .returned (.bool true) ∧ Below w.heap.size w w' := by
  have hr' : ∀ n, Row (w.drewN n) a zs := fun n => hr
  have HR : Hid _ := hr'
  clear hr'
  have hc : ∀ k, k < zs.length → ∃ b off, a = some ⟨b, off, none⟩ ∧ w.cell? ⟨b, off + k, none⟩ = some (.int .i64 (zs.getD k 0)) := by
    intro k hk
    rcases hr with rfl | ⟨b, off, rfl, hc⟩
    · simp at hk
    · exact ⟨b, off, rfl, hc k hk⟩
  clear hr
  have T : ¬ (0 ≤ a0 ∧ a0 ≤ 1099511627776 ∧ 0 ≤ a1 ∧ a1 ≤ 1099511627776) ∨ ((0 ≤ a0 ∧ a0 ≤ 1099511627776 ∧ 0 ≤ a1 ∧ a1 ≤ 1099511627776) ∧ ¬ (1 ≤ a0 ∧ 1 ≤ a1)) ∨ (1 ≤ a0 ∧ a0 ≤ 1099511627776 ∧ 1 ≤ a1 ∧ a1 ≤ 1099511627776) := by omega
  generalize hsay : lcmSay zs = S
  have HS : Hid (lcmSay zs = S) := hsay
  clear hsay
  have T2 : Hid ((100 < zs.length ∧ S = (0, 2)) ∨ (¬ 100 < zs.length ∧ sayTo zs zs.length = 1 ∧ S = (0, 1)) ∨
      (¬ 100 < zs.length ∧ sayTo zs zs.length = 0 ∧ (∀ i, i < zs.length → Ok1 (zs.getD i 0)) ∧ S = (lcmVal (lcmFrom 1 zs), 6) ∧ (lcmVal (lcmFrom 1 zs) == 0) = true) ∨
      (¬ 100 < zs.length ∧ sayTo zs zs.length = 0 ∧ (∀ i, i < zs.length → Ok1 (zs.getD i 0)) ∧ S = (lcmVal (lcmFrom 1 zs), 0) ∧ (lcmVal (lcmFrom 1 zs) == 0) = false)) := by
    show _ ∨ _
    rw [← HS.out]
    unfold lcmSay
    by_cases h : 100 < zs.length
    · exact .inl ⟨h, if_pos h⟩
    · refine .inr ?_
      rw [if_neg h]
      by_cases ha : zs.all okB = true
      · refine .inr ?_
        rw [if_pos ha]
        have e : sayTo zs zs.length = 0 := by unfold sayTo; rw [List.take_length, if_pos ha]
        cases hv : (lcmVal (lcmFrom 1 zs) == 0)
        · exact .inr ⟨h, e, (all_iff zs).1 ha, by rw [lcm_val_pos zs hv], rfl⟩
        · exact .inl ⟨h, e, (all_iff zs).1 ha, by rw [lcm_val_zero zs ha hv], rfl⟩
      · have e : sayTo zs zs.length = 1 := by unfold sayTo; rw [List.take_length, if_neg ha]
        exact .inl ⟨h, e, if_neg ha⟩
  rcases T with t | ⟨⟨t1, t2, t3, t4⟩, t5⟩ | ⟨t1, t2, t3, t4⟩
  · have V : ¬ (0 ≤ a0 ∧ a0 ≤ 1099511627776) ∨ ((0 ≤ a0 ∧ a0 ≤ 1099511627776) ∧ ¬ 1 ≤ a0) ∨ (1 ≤ a0 ∧ a0 ≤ 1099511627776) := by omega
    rcases V with hz | ⟨hz, hy⟩ | hz
    all_goals
        go_enter Try.func5, Try.ntmps5
        go_wp2_with (first | (go_at_call 17; go_call (Gcd_no _ _ _) as e w' ⟨rfl, n1, rfl⟩) | (go_at_call 18; go_call (parts_no _ _ _) as e w' ⟨rfl, n2, rfl⟩) | (go_at_call 19; refine (lcm_any _ _ _ _ (HR.out _)).mono ?_; rw [HS.out]; rintro e w' ⟨rfl, n3, rfl⟩) | (go_at_call 15; go_call (between_yes _ _ _ _) as e w' ⟨rfl, rfl⟩) | (go_at_call 15; go_call (between_no _ _ _ _) as e w' ⟨rfl, rfl⟩))
        go_loop [18, 121] (fun t s => ∃ k : Nat, k ≤ zs.length ∧ s = .int .i64 k ∧ t = .int .i64 (sayTo zs k)) (fun _ s => zs.length - (intOf s).toNat)
        case atStart => exact ⟨0, by omega, rfl, rfl⟩
        case round =>
          obtain ⟨k, hk, rfl, rfl⟩ := hrel
          by_cases hlt : k < zs.length
          · obtain ⟨b, off, rfl, hcell⟩ := hc k hlt
            have hss := sayTo_succ zs k hlt
            generalize hz : zs.getD k 0 = z at hcell hss
            have SS : Hid _ := hss
            clear hz hss
            by_cases ho : 1 ≤ z ∧ z ≤ 1099511627776
            · have e1 : Hid (sayTo zs k = sayTo zs (k + 1)) := by
                show _ = _
                rw [SS.out, if_pos (by simp [okB, ho])]
              obtain ⟨o1, o2⟩ := ho
              go_wp2_with (go_at_call 15; go_call (between_yes _ _ _ _) as e w' ⟨rfl, rfl⟩)
              go_round
              case rel => exact ⟨k + 1, by omega, by go_num, by rw [← e1.out]⟩
              case measure => simp [intOf]; omega
            · have e1 : Hid (1 = sayTo zs (k + 1)) := by
                show _ = _
                rw [SS.out, if_neg (by simp [okB]; omega)]
              go_wp2_with (go_at_call 15; go_call (between_no _ _ _ _) as e w' ⟨rfl, rfl⟩)
              go_round
              case rel => exact ⟨k + 1, by omega, by go_num, by rw [← e1.out]⟩
              case measure => simp [intOf]; omega
          · obtain rfl : k = zs.length := by omega
            rcases T2.out with ⟨u1, u2⟩ | ⟨u1, u2, u3⟩ | ⟨u1, u2, u3, u4, u5⟩ | ⟨u1, u2, u3, u4, u5⟩
            · subst u2
              go_wp2_with fail
              go_ret
              exact ⟨rfl, of_drewN' (Below.refl _ _)⟩
            · subst u3
              go_wp2_with fail
              go_ret
              exact ⟨rfl, of_drewN' (Below.refl _ _)⟩
            · subst u4
              have U3 : Hid _ := u3
              clear u3
              go_wp2_with (go_at_call 22; refine (lcmOf_any _ _ _ _ (HR.out _) (by omega) U3.out).mono ?_; rintro e w' ⟨rfl, rfl⟩)
              go_ret
              exact ⟨by simp, of_drewN' (Below.refl _ _)⟩
            · subst u4
              have U3 : Hid _ := u3
              clear u3
              go_wp2_with (go_at_call 22; refine (lcmOf_any _ _ _ _ (HR.out _) (by omega) U3.out).mono ?_; rintro e w' ⟨rfl, rfl⟩)
              go_ret
              exact ⟨by simp, of_drewN' (Below.refl _ _)⟩
  · have hg : (G a0 a1 != G a0 a1) = false := by simp
    by_cases hy : 1 ≤ a0
    all_goals
        go_enter Try.func5, Try.ntmps5
        go_wp2_with (first | (go_at_call 17; go_call (Gcd_yes _ _ _) as e w' ⟨rfl, n1, rfl⟩) | (go_at_call 18; go_call (parts_no _ _ _) as e w' ⟨rfl, n2, rfl⟩) | (go_at_call 19; refine (lcm_any _ _ _ _ (HR.out _)).mono ?_; rw [HS.out]; rintro e w' ⟨rfl, n3, rfl⟩) | (go_at_call 15; go_call (between_yes _ _ _ _) as e w' ⟨rfl, rfl⟩) | (go_at_call 15; go_call (between_no _ _ _ _) as e w' ⟨rfl, rfl⟩) | (go_at_call 20; go_call (gcdOf _ _ _) as e w' ⟨rfl, rfl⟩))
        go_loop [18, 121] (fun t s => ∃ k : Nat, k ≤ zs.length ∧ s = .int .i64 k ∧ t = .int .i64 (sayTo zs k)) (fun _ s => zs.length - (intOf s).toNat)
        case atStart => exact ⟨0, by omega, rfl, rfl⟩
        case round =>
          obtain ⟨k, hk, rfl, rfl⟩ := hrel
          by_cases hlt : k < zs.length
          · obtain ⟨b, off, rfl, hcell⟩ := hc k hlt
            have hss := sayTo_succ zs k hlt
            generalize hz : zs.getD k 0 = z at hcell hss
            have SS : Hid _ := hss
            clear hz hss
            by_cases ho : 1 ≤ z ∧ z ≤ 1099511627776
            · have e1 : Hid (sayTo zs k = sayTo zs (k + 1)) := by
                show _ = _
                rw [SS.out, if_pos (by simp [okB, ho])]
              obtain ⟨o1, o2⟩ := ho
              go_wp2_with (go_at_call 15; go_call (between_yes _ _ _ _) as e w' ⟨rfl, rfl⟩)
              go_round
              case rel => exact ⟨k + 1, by omega, by go_num, by rw [← e1.out]⟩
              case measure => simp [intOf]; omega
            · have e1 : Hid (1 = sayTo zs (k + 1)) := by
                show _ = _
                rw [SS.out, if_neg (by simp [okB]; omega)]
              go_wp2_with (go_at_call 15; go_call (between_no _ _ _ _) as e w' ⟨rfl, rfl⟩)
              go_round
              case rel => exact ⟨k + 1, by omega, by go_num, by rw [← e1.out]⟩
              case measure => simp [intOf]; omega
          · obtain rfl : k = zs.length := by omega
            rcases T2.out with ⟨u1, u2⟩ | ⟨u1, u2, u3⟩ | ⟨u1, u2, u3, u4, u5⟩ | ⟨u1, u2, u3, u4, u5⟩
            · subst u2
              go_wp2_with fail
              go_ret
              exact ⟨rfl, of_drewN' (Below.refl _ _)⟩
            · subst u3
              go_wp2_with fail
              go_ret
              exact ⟨rfl, of_drewN' (Below.refl _ _)⟩
            · subst u4
              have U3 : Hid _ := u3
              clear u3
              go_wp2_with (go_at_call 22; refine (lcmOf_any _ _ _ _ (HR.out _) (by omega) U3.out).mono ?_; rintro e w' ⟨rfl, rfl⟩)
              go_ret
              exact ⟨by simp, of_drewN' (Below.refl _ _)⟩
            · subst u4
              have U3 : Hid _ := u3
              clear u3
              go_wp2_with (go_at_call 22; refine (lcmOf_any _ _ _ _ (HR.out _) (by omega) U3.out).mono ?_; rintro e w' ⟨rfl, rfl⟩)
              go_ret
              exact ⟨by simp, of_drewN' (Below.refl _ _)⟩
  · have hg : (G a0 a1 != G a0 a1) = false := by simp
    have gp := G_pos a0 a1 t1
    have gl := G_le_left a0 a1 t1
    have gr := G_le_right a0 a1 t3
    have q2 : a1 / G a0 a1 ≤ a1 := Int.ediv_le_self _ (by omega)
    go_enter Try.func5, Try.ntmps5
    go_wp2_with (go_at_call 17; go_call (Gcd_yes _ _ _) as e w' ⟨rfl, n1, rfl⟩)
    refine (parts_yes a0 a1 _ t1 t2 t3 t4).mono ?_
    rintro e w' ⟨X, Y, rfl, ⟨x1, x2, x3, y1, y2⟩, n2, rfl⟩
    obtain ⟨p1, p2, p3, p4⟩ := parts_say a0 a1 X Y t1 t3 x1 x2 x3
    have p5 := muldiv_le X a0 a1 x1 p1 (by omega)
    have p6 := Int.emod_nonneg (X * a0) (show a1 ≠ 0 by omega)
    have p7 : 0 ≤ (G a0 a1 - X * a0 % a1) / a1 := Int.ediv_nonneg (by omega) (by omega)
    have p8 : (G a0 a1 - X * a0 % a1) / a1 ≤ G a0 a1 - X * a0 % a1 := Int.ediv_le_self _ (by omega)
    have X3 : Hid _ := x3
    clear x3
    go_wp2_with (first | (go_at_call 19; refine (lcm_any _ _ _ _ (HR.out _)).mono ?_; rw [HS.out]; rintro e w' ⟨rfl, n3, rfl⟩) | (go_at_call 15; go_call (between_yes _ _ _ _) as e w' ⟨rfl, rfl⟩) | (go_at_call 20; go_call (gcdOf _ _ _) as e w' ⟨rfl, rfl⟩) | (go_at_call 21; refine (mulDiv_any a0.toNat _ _ _ _ (by omega) (by omega) (by omega) (by omega) (by omega) (by omega)).mono ?_; rintro e w' ⟨rfl, n4, rfl⟩))
    go_loop [18, 121] (fun t s => ∃ k : Nat, k ≤ zs.length ∧ s = .int .i64 k ∧ t = .int .i64 (sayTo zs k)) (fun _ s => zs.length - (intOf s).toNat)
    case atStart => exact ⟨0, by omega, rfl, rfl⟩
    case round =>
      obtain ⟨k, hk, rfl, rfl⟩ := hrel
      by_cases hlt : k < zs.length
      · obtain ⟨b, off, rfl, hcell⟩ := hc k hlt
        have hss := sayTo_succ zs k hlt
        generalize hz : zs.getD k 0 = z at hcell hss
        have SS : Hid _ := hss
        clear hz hss
        by_cases ho : 1 ≤ z ∧ z ≤ 1099511627776
        · have e1 : Hid (sayTo zs k = sayTo zs (k + 1)) := by
            show _ = _
            rw [SS.out, if_pos (by simp [okB, ho])]
          obtain ⟨o1, o2⟩ := ho
          go_wp2_with (go_at_call 15; go_call (between_yes _ _ _ _) as e w' ⟨rfl, rfl⟩)
          go_round
          case rel => exact ⟨k + 1, by omega, by go_num, by rw [← e1.out]⟩
          case measure => simp [intOf]; omega
        · have e1 : Hid (1 = sayTo zs (k + 1)) := by
            show _ = _
            rw [SS.out, if_neg (by simp [okB]; omega)]
          go_wp2_with (go_at_call 15; go_call (between_no _ _ _ _) as e w' ⟨rfl, rfl⟩)
          go_round
          case rel => exact ⟨k + 1, by omega, by go_num, by rw [← e1.out]⟩
          case measure => simp [intOf]; omega
      · obtain rfl : k = zs.length := by omega
        rcases T2.out with ⟨u1, u2⟩ | ⟨u1, u2, u3⟩ | ⟨u1, u2, u3, u4, u5⟩ | ⟨u1, u2, u3, u4, u5⟩
        · subst u2
          go_wp2_with fail
          go_ret
          exact ⟨rfl, of_drewN' (Below.refl _ _)⟩
        · subst u3
          go_wp2_with fail
          go_ret
          exact ⟨rfl, of_drewN' (Below.refl _ _)⟩
        · subst u4
          have U3 : Hid _ := u3
          clear u3
          go_wp2_with (go_at_call 22; refine (lcmOf_any _ _ _ _ (HR.out _) (by omega) U3.out).mono ?_; rintro e w' ⟨rfl, rfl⟩)
          go_ret
          exact ⟨by simp, of_drewN' (Below.refl _ _)⟩
        · subst u4
          have U3 : Hid _ := u3
          clear u3
          go_wp2_with (go_at_call 22; refine (lcmOf_any _ _ _ _ (HR.out _) (by omega) U3.out).mono ?_; rintro e w' ⟨rfl, rfl⟩)
          go_ret
          exact ⟨by simp, of_drewN' (Below.refl _ _)⟩

theorem numShares_walk (a0 a1 : Int) (a2 : Option Addr) (len2 cap2 : Nat) (z2 : List Int) (w : World) (w0 : (Lit.int .i64 a0).wf = true) (w1 : (Lit.int .i64 a1).wf = true) (w2 : IsRow .i64 w a2 len2 cap2 z2) :
    Calls Try.prog 5 #[.int .i64 a0, .int .i64 a1, .slice a2 len2 cap2] w fun e w' => e = .returned (.bool true) ∧ Below w.heap.size w w' := by
  obtain ⟨l, rfl, h1, h2, h3, _⟩ := w2.ints
  unfold maxLen at h2
  exact numShares_walk' a0 a1 a2 cap2 l w h3 (by omega)
end NumC
end Go.Proofs.Yteglbjnjjhhloaa
