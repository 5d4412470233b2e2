/- MulDiv, LcmOf. -/
import Derived.Test.YteglbjnjjhhloaaNumR
import Derived.Test.YteglbjnjjhhloaaNumL3
set_option linter.unusedVariables false
namespace Go.Proofs.Yteglbjnjjhhloaa
open Go.RowKit
open NumM
namespace NumC
theorem ret_int2 {k : IntKind} {a b c d : Int} (h : a = b) (g : c = d) : Ending.returned (.tuple #[.int k a, .int k c]) = .returned (.tuple #[.int k b, .int k d]) := by rw [h, g]

set_option maxHeartbeats 1000000 in
theorem mulDiv_any (k : Nat) : ∀ (a b m : Int) (w : World), b.toNat ≤ k → 0 ≤ a → a < m → m ≤ 1099511627776 → 0 ≤ b → b ≤ 1099511627776 →
    Calls Try.prog 21 #[.int .i64 a, .int .i64 b, .int .i64 m] w fun e w' => e = .returned (.tuple #[.int .i64 (a * b / m), .int .i64 (a * b % m)]) ∧ ∃ n, w' = w.drewN n := by
  induction k with
  | zero =>
    intro a b m w hk ha ham hm hb hb2
    obtain rfl : b = 0 := by omega
    go_enter Try.func21, Try.ntmps21
    go_wp2_with fail
    go_ret2
    exact ⟨ret_int2 (by simp) (by simp), 0, rfl⟩
  | succ k ih =>
    intro a b m w hk ha ham hm hb hb2
    by_cases h0 : b = 0
    · subst h0
      go_enter Try.func21, Try.ntmps21
      go_wp2_with fail
      go_ret2
      exact ⟨ret_int2 (by simp) (by simp), 0, rfl⟩
    · have hz : (b == 0) = false := by simp [h0]
      have IH : Hid (∀ (a b m : Int) (w : World), b.toNat ≤ k → 0 ≤ a → a < m → m ≤ 1099511627776 → 0 ≤ b → b ≤ 1099511627776 →
        Calls Try.prog 21 #[.int .i64 a, .int .i64 b, .int .i64 m] w fun e w' => e = .returned (.tuple #[.int .i64 (a * b / m), .int .i64 (a * b % m)]) ∧ ∃ n, w' = w.drewN n) := ih
      clear ih
      have st := muldiv_step a b m ha ham hb _ rfl
      have l1 := muldiv_le a (b / 2) m ha ham (by omega)
      have l2 := Int.emod_nonneg (a * (b / 2)) (show m ≠ 0 by omega)
      have l3 := Int.emod_lt_of_pos (a * (b / 2)) (show 0 < m by omega)
      have ST : Hid _ := st
      clear st
      go_enter Try.func21, Try.ntmps21
      go_wp2_with fail
      refine (IH.out a (b / 2) m _ (by omega) (by omega) (by omega) (by omega) (by omega) (by omega)).mono ?_
      rintro e w' ⟨rfl, n1, rfl⟩
      generalize hQ : a * (b / 2) / m = Q at *
      generalize hR : a * (b / 2) % m = R at *
      clear hQ hR
      have em : 0 ≤ a / m := Int.ediv_nonneg (by omega) (by omega)
      have em2 : a / m = 0 := Int.ediv_eq_zero_of_lt ha ham
      have em3 : a % m = a := Int.emod_eq_of_lt ha ham
      by_cases h2 : b % 2 = 1
      · have hz2 : (b % 2 == 1) = true := by simp [h2]
        have hs := ST.out
        rw [if_pos h2] at hs
        have HS : Hid _ := hs
        clear hs h2
        have k1 : 0 ≤ (2 * R + a) / m := Int.ediv_nonneg (by omega) (by omega)
        have k2 : (2 * R + a) / m < 3 := Int.ediv_lt_of_lt_mul (by omega) (by omega)
        go_wp2_with fail
        go_quiet (fail)
        go_wp2_with fail
        go_quiet (fail)
        go_wp2_with fail
        go_ret2
        have hs := HS.out
        exact ⟨ret_int2 hs.1 hs.2, _, (World.drewN_drewN _ _ _).trans (World.drewN_drewN _ _ _)⟩
      · have hz2 : (b % 2 == 1) = false := by simp [h2]
        have hs := ST.out
        rw [if_neg h2, Int.add_zero] at hs
        have HS : Hid _ := hs
        clear hs h2
        have k1 : 0 ≤ (2 * R) / m := Int.ediv_nonneg (by omega) (by omega)
        have k2 : (2 * R) / m < 3 := Int.ediv_lt_of_lt_mul (by omega) (by omega)
        go_wp2_with fail
        go_quiet (fail)
        go_wp2_with fail
        go_ret2
        have hs := HS.out
        exact ⟨ret_int2 hs.1 hs.2, _, World.drewN_drewN _ _ _⟩

theorem lcmOf_any (a : Option Addr) (cap : Nat) (zs : List Int) (w : World) (hr : Row w a zs) (h : zs.length ≤ 100) (hx : ∀ i, i < zs.length → Ok1 (zs.getD i 0)) :
    Calls Try.prog 22 #[.slice a zs.length cap] w fun e w' => e = .returned (.int .i64 (lcmVal (lcmFrom 1 zs))) ∧ w' = w := by
  have hc : ∀ k, k < zs.length → ∃ b off, a = some ⟨b, off, none⟩ ∧ w.cell? ⟨b, off + k, none⟩ = some (.int .i64 (zs.getD k 0)) := by
    intro k hk
    rcases hr with rfl | ⟨b, off, rfl, hc⟩
    · simp at hk
    · exact ⟨b, off, rfl, hc k hk⟩
  clear hr
  generalize hF : lcmFrom 1 zs = F
  have HF : Hid (lcmFrom 1 zs = F) := hF
  clear hF
  go_enter Try.func22, Try.ntmps22
  go_wp2_with fail
  go_loop [3, 9] (fun t s => ∃ (all : Int) (k : Nat), k ≤ zs.length ∧ t = .int .i64 all ∧ s = .int .i64 k ∧ 1 ≤ all ∧ all ≤ 1099511627776 ∧ Hid (lcmFrom all (zs.drop k) = F)) (fun _ s => zs.length - (intOf s).toNat)
  case atStart => exact ⟨1, 0, by omega, rfl, rfl, by omega, by omega, HF⟩
  case round =>
    obtain ⟨all, j, hj, rfl, rfl, ha1, ha2, hf⟩ := hrel
    by_cases hjl : j < zs.length
    · obtain ⟨b, off, rfl, hcell⟩ := hc j hjl
      have ho := hx j hjl
      have hd := drop_get zs j hjl
      generalize hz : zs.getD j 0 = z at hcell ho hd
      have Hd : Hid (zs.drop j = z :: zs.drop (j + 1)) := hd
      clear hz hd
      obtain ⟨o1, o2⟩ := ho
      have gp := G_pos all z ha1
      have gl := G_le_right all z o1
      have q0 : 0 ≤ z / G all z := Int.ediv_nonneg (by omega) (by omega)
      have q1 : z / G all z ≤ z := Int.ediv_le_self _ (by omega)
      have q2 : 0 ≤ 1099511627776 / all := Int.ediv_nonneg (by omega) (by omega)
      by_cases hf0 : 1099511627776 / all < z / G all z
      · have Hn : Hid (F = none) := by
          show F = none
          rw [← hf.out, Hd.out, lcmFrom, if_pos hf0]
        go_wp2_with (go_at_call 20; go_call (gcdOf _ _ _) as e w' ⟨rfl, rfl⟩)
        go_ret
        rw [Hn.out]
        exact ⟨rfl, rfl⟩
      · have bd := lcm_step_bd all z ha1 o1 o2 hf0
        have Hn : Hid (lcmFrom (all * (z / G all z)) (zs.drop (j + 1)) = F) := by
          show _ = F
          rw [← hf.out, Hd.out, lcmFrom, if_neg hf0]
        go_wp2_with (go_at_call 20; go_call (gcdOf _ _ _) as e w' ⟨rfl, rfl⟩)
        go_round
        case rel => exact ⟨all * (z / G all z), j + 1, by omega, rfl, by go_num, bd.1, bd.2, Hn⟩
        case measure => simp [intOf]; omega
    · go_wp2_with fail
      have Hn : Hid (F = some all) := by
        show F = some all
        rw [← hf.out, List.drop_of_length_le (by omega), lcmFrom]
      go_ret
      rw [Hn.out]
      exact ⟨rfl, rfl⟩
end NumC
end Go.Proofs.Yteglbjnjjhhloaa
