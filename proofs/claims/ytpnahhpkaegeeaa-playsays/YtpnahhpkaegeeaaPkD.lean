/- Several texts, one behind the other: NumC NumR. -/
import Derived.Test.YtpnahhpkaegeeaaChecked
import Derived.Test.YtpnahhpkaegeeaaPkM
import Derived.WalkKit
import Derived.ProofKit
import Derived.Deep.QuietTactic
import Derived.BigQuiet
import Derived.Handy
/- Contracts of the small functions of package num. -/
set_option linter.unusedVariables false
namespace Go.Proofs.Ytpnahhpkaegeeaa
open Go.RowKit
open NumM
namespace NumC

theorem ret_int {k : IntKind} {a b : Int} (h : a = b) : Ending.returned (.int k a) = .returned (.int k b) := by rw [h]

theorem floor_any (a b : Int) (w : World) (hb : 1 ≤ b) (hb2 : b ≤ 4611686018427387904) (ha : -4611686018427387904 ≤ a) (ha2 : a ≤ 4611686018427387904) :
    Calls Try.prog 106 #[.int .i64 a, .int .i64 b] w fun e w' => e = .returned (.int .i64 (a / b)) ∧ w' = w := by
  have hq := tdiv_bd a b _ hb ha ha2
  by_cases h : a.tmod b < 0
  · go_enter Try.func106, Try.ntmps106
    go_wp2
    go_ret
    exact ⟨ret_int (floor_neg a b hb h), rfl⟩
  · go_enter Try.func106, Try.ntmps106
    go_wp2
    go_ret
    exact ⟨ret_int (floor_pos a b hb (by omega)), rfl⟩

theorem gcd_any (a b : Int) (w : World) (ha : 0 ≤ a) (hb : 0 ≤ b) (ha2 : a ≤ 4611686018427387904) (hb2 : b ≤ 4611686018427387904) :
    Calls Try.prog 99 #[.int .i64 a, .int .i64 b] w fun e w' => e = .returned (.int .i64 (G a b)) ∧ ∃ n, w' = w.drewN n := by
  go_enter Try.func99, Try.ntmps99
  go_wp2
  go_loopw [0, 1] (fun x y w' => ∃ p q : Int, x = .int .i64 p ∧ y = .int .i64 q ∧ 0 ≤ p ∧ 0 ≤ q ∧ p ≤ 4611686018427387904 ∧ q ≤ 4611686018427387904 ∧ Hid (G p q = G a b) ∧ ∃ n, w' = w.drewN n) (fun _ y _ => (intOf y).toNat)
  case atStart => exact ⟨a, b, rfl, rfl, ha, hb, ha2, hb2, rfl, 0, rfl⟩
  case round =>
    obtain ⟨p, q, rfl, rfl, hp, hq, hp2, hq2, hg, n, rfl⟩ := hrel
    by_cases h0 : q = 0
    · have h1 : (q != 0) = false := by simp [h0]
      go_wp2
      go_ret
      refine ⟨ret_int ?_, n, rfl⟩
      rw [← hg.out, h0, G_zero p hp]
    · have h1 : (q != 0) = true := by simp [h0]
      have hm1 := Int.emod_nonneg p h0
      have hm2 := Int.emod_lt_of_pos p (show 0 < q by omega)
      go_wp2
      go_quiet (fail)
      go_wp2
      go_roundw
      case rel => exact ⟨q, p % q, rfl, rfl, hq, hm1, hq2, by omega, by rw [G_step p q hp hq]; exact hg.out, _, World.drewN_drewN _ _ _⟩
      case measure => simp [intOf]; omega

theorem within_yes (x lo hi : Int) (w : World) (h1 : lo ≤ x) (h2 : x ≤ hi) :
    Calls Try.prog 98 #[.int .i64 x, .int .i64 lo, .int .i64 hi] w fun e w' => e = .returned (.bool true) ∧ w' = w := by
  go_enter Try.func98, Try.ntmps98
  go_wp2
  go_ret
  exact ⟨rfl, rfl⟩
theorem within_low (x lo hi : Int) (w : World) (h1 : x < lo) :
    Calls Try.prog 98 #[.int .i64 x, .int .i64 lo, .int .i64 hi] w fun e w' => e = .returned (.bool false) ∧ w' = w := by
  have hd : decide (lo ≤ x) = false := by simp; omega
  go_enter Try.func98, Try.ntmps98
  go_wp2
  go_ret
  exact ⟨rfl, rfl⟩
theorem within_high (x lo hi : Int) (w : World) (h1 : lo ≤ x) (h2 : hi < x) :
    Calls Try.prog 98 #[.int .i64 x, .int .i64 lo, .int .i64 hi] w fun e w' => e = .returned (.bool false) ∧ w' = w := by
  have hd : decide (x ≤ hi) = false := by simp; omega
  go_enter Try.func98, Try.ntmps98
  go_wp2
  go_ret
  exact ⟨rfl, rfl⟩
theorem within_no (x lo hi : Int) (w : World) (h : ¬ (lo ≤ x ∧ x ≤ hi)) :
    Calls Try.prog 98 #[.int .i64 x, .int .i64 lo, .int .i64 hi] w fun e w' => e = .returned (.bool false) ∧ w' = w := by
  by_cases h1 : x < lo
  · exact within_low x lo hi w h1
  · exact within_high x lo hi w (by omega) (by omega)
theorem canDivide_yes (a b : Int) (w : World) (ha : -1099511627776 ≤ a) (ha2 : a ≤ 1099511627776) (hb : 1 ≤ b) (hb2 : b ≤ 1099511627776) :
    Calls Try.prog 105 #[.int .i64 a, .int .i64 b] w fun e w' => e = .returned (.bool true) ∧ w' = w := by
  go_enter Try.func105, Try.ntmps105
  go_wp2_with (first | (go_at_call 98; go_call (within_yes _ _ _ _) as e w' ⟨rfl, rfl⟩) | (go_at_call 98; go_call (within_no _ _ _ _) as e w' ⟨rfl, rfl⟩) | fail)
  go_ret
  exact ⟨rfl, rfl⟩
theorem canDivide_no (a b : Int) (w : World) (h : ¬ (-1099511627776 ≤ a ∧ a ≤ 1099511627776 ∧ 1 ≤ b ∧ b ≤ 1099511627776)) :
    Calls Try.prog 105 #[.int .i64 a, .int .i64 b] w fun e w' => e = .returned (.bool false) ∧ w' = w := by
  by_cases h1 : -1099511627776 ≤ a ∧ a ≤ 1099511627776
  all_goals
    go_enter Try.func105, Try.ntmps105
    go_wp2_with (first | (go_at_call 98; go_call (within_yes _ _ _ _) as e w' ⟨rfl, rfl⟩) | (go_at_call 98; go_call (within_no _ _ _ _) as e w' ⟨rfl, rfl⟩) | fail)
    go_ret
    exact ⟨rfl, rfl⟩
theorem up_yes (a b : Int) (w : World) (ha : -1099511627776 ≤ a) (ha2 : a ≤ 1099511627776) (hb : 1 ≤ b) (hb2 : b ≤ 1099511627776) :
    Calls Try.prog 96 #[.int .i64 a, .int .i64 b] w fun e w' => e = .returned (.tuple #[.int .i64 (-(-a / b)), .int .i64 0]) ∧ w' = w := by
  have hq := ediv_bd (-a) b 1099511627776 hb (by omega) (by omega) (by omega)
  go_enter Try.func96, Try.ntmps96
  go_wp2_with (first | (go_at_call 106; go_call (floor_any _ _ _) as e w' ⟨rfl, rfl⟩) | (go_at_call 105; go_call (canDivide_yes _ _ _) as e w' ⟨rfl, rfl⟩) | (go_at_call 105; go_call (canDivide_no _ _ _) as e w' ⟨rfl, rfl⟩))
  go_ret2
  exact ⟨rfl, rfl⟩
theorem up_no (a b : Int) (w : World) (h : ¬ (-1099511627776 ≤ a ∧ a ≤ 1099511627776 ∧ 1 ≤ b ∧ b ≤ 1099511627776)) :
    Calls Try.prog 96 #[.int .i64 a, .int .i64 b] w fun e w' => e = .returned (.tuple #[.int .i64 0, .int .i64 1]) ∧ w' = w := by
  go_enter Try.func96, Try.ntmps96
  go_wp2_with (first | (go_at_call 106; go_call (floor_any _ _ _) as e w' ⟨rfl, rfl⟩) | (go_at_call 105; go_call (canDivide_yes _ _ _) as e w' ⟨rfl, rfl⟩) | (go_at_call 105; go_call (canDivide_no _ _ _) as e w' ⟨rfl, rfl⟩))
  go_ret2
  exact ⟨rfl, rfl⟩
/-- the slice at a reads as zs -/
def Row (w : World) (a : Option Addr) (zs : List Int) : Prop :=
  zs = [] ∨ ∃ b off, a = some ⟨b, off, none⟩ ∧ ∀ i, i < zs.length → w.cell? ⟨b, off + i, none⟩ = some (.int .i64 (zs.getD i 0))

theorem lcm_large (a : Option Addr) (len cap : Nat) (w : World) (h : 100 < len) :
    Calls Try.prog 84 #[.slice a len cap] w fun e w' => e = .returned (.tuple #[.int .i64 0, .int .i64 2]) ∧ ∃ n, w' = w.drewN n := by
  have hl : (100 : Int) < (len : Int) := by omega
  go_enter Try.func84, Try.ntmps84
  go_wp2
  go_ret2
  exact ⟨rfl, 0, rfl⟩

theorem lcm_arg (a : Option Addr) (cap : Nat) (zs : List Int) (w : World) (hr : Row w a zs) (h : zs.length ≤ 100) (hx : ∃ i, i < zs.length ∧ ¬ Ok1 (zs.getD i 0)) :
    Calls Try.prog 84 #[.slice a zs.length cap] w fun e w' => e = .returned (.tuple #[.int .i64 0, .int .i64 1]) ∧ ∃ n, w' = w.drewN n := by
  obtain ⟨i0, hi0, hn0⟩ := hx
  have hc : ∀ k, k < zs.length → ∃ b off, a = some ⟨b, off, none⟩ ∧ w.cell? ⟨b, off + k, none⟩ = some (.int .i64 (zs.getD k 0)) := by
    intro k hk
    rcases hr with rfl | ⟨b, off, rfl, hc⟩
    · simp at hk
    · exact ⟨b, off, rfl, hc k hk⟩
  clear hr
  have hl : ¬ (100 : Int) < (zs.length : Int) := by omega
  go_enter Try.func84, Try.ntmps84
  go_wp2_with fail
  go_loop [15] (fun t => ∃ k : Nat, k ≤ zs.length ∧ t = .int .i64 k ∧ (∀ i, i < k → Ok1 (zs.getD i 0))) (fun t => zs.length - (intOf t).toNat)
  case atStart => exact ⟨0, by omega, rfl, by omega⟩
  case round =>
    obtain ⟨k, hk, rfl, hall⟩ := hrel
    by_cases hlt : k < zs.length
    · obtain ⟨b, off, rfl, hcell⟩ := hc k hlt
      generalize hz : zs.getD k 0 = z at hcell
      have Hz : Hid (zs.getD k 0 = z) := hz
      clear hz
      by_cases ho : Ok1 z
      · obtain ⟨o1, o2⟩ := ho
        go_wp2_with (first | (go_at_call 98; go_call (within_yes _ _ _ _) as e w' ⟨rfl, rfl⟩) | (go_at_call 98; go_call (within_no _ _ _ _) as e w' ⟨rfl, rfl⟩))
        go_round
        case rel =>
          refine ⟨k + 1, by omega, by go_num, fun i hi => ?_⟩
          by_cases e : i = k
          · rw [e, Hz.out]; exact ⟨o1, o2⟩
          · exact hall i (by omega)
        case measure => simp [intOf]; omega
      · unfold Ok1 at ho
        go_wp2_with (first | (go_at_call 98; go_call (within_yes _ _ _ _) as e w' ⟨rfl, rfl⟩) | (go_at_call 98; go_call (within_no _ _ _ _) as e w' ⟨rfl, rfl⟩))
        go_ret2
        exact ⟨rfl, 0, rfl⟩
    · exact absurd (hall i0 (by omega)) hn0

def lcmVal (F : Option Int) : Int := F.getD 0
def lcmErr (F : Option Int) : Int := if F = none then 6 else 0
theorem lcm_fold (a : Option Addr) (cap : Nat) (zs : List Int) (w : World) (hr : Row w a zs) (h : zs.length ≤ 100) (hx : ∀ i, i < zs.length → Ok1 (zs.getD i 0)) :
    Calls Try.prog 84 #[.slice a zs.length cap] w fun e w' => e = .returned (.tuple #[.int .i64 (lcmVal (lcmFrom 1 zs)), .int .i64 (lcmErr (lcmFrom 1 zs))]) ∧ ∃ n, w' = w.drewN n := by
  have hl : ¬ (100 : Int) < (zs.length : Int) := by omega
  have hc : ∀ k, k < zs.length → ∃ b off, a = some ⟨b, off, none⟩ ∧ w.cell? ⟨b, off + k, none⟩ = some (.int .i64 (zs.getD k 0)) := by
    intro k hk
    rcases hr with rfl | ⟨b, off, rfl, hc⟩
    · simp at hk
    · exact ⟨b, off, rfl, hc k hk⟩
  clear hr
  generalize hF : lcmFrom 1 zs = F
  have HF : Hid (lcmFrom 1 zs = F) := hF
  clear hF
  go_enter Try.func84, Try.ntmps84
  go_wp2_with fail
  go_loop [15] (fun t => ∃ k : Nat, k ≤ zs.length ∧ t = .int .i64 k) (fun t => zs.length - (intOf t).toNat)
  case atStart => exact ⟨0, by omega, rfl⟩
  case round =>
    obtain ⟨k, hk, rfl⟩ := hrel
    by_cases hlt : k < zs.length
    · obtain ⟨b, off, rfl, hcell⟩ := hc k hlt
      have ho := hx k hlt
      generalize hz : zs.getD k 0 = z at hcell ho
      clear hz
      obtain ⟨o1, o2⟩ := ho
      go_wp2_with (first | (go_at_call 98; go_call (within_yes _ _ _ _) as e w' ⟨rfl, rfl⟩) | (go_at_call 98; go_call (within_no _ _ _ _) as e w' ⟨rfl, rfl⟩))
      go_round
      case rel => exact ⟨k + 1, by omega, by go_num⟩
      case measure => simp [intOf]; omega
    · go_wp2_with fail
      go_loopw [6, 25] (fun t s w' => ∃ (all : Int) (k : Nat), k ≤ zs.length ∧ t = .int .i64 all ∧ s = .int .i64 k ∧ 1 ≤ all ∧ all ≤ 1099511627776 ∧ Hid (lcmFrom all (zs.drop k) = F) ∧ ∃ n, w' = w.drewN n) (fun _ s _ => zs.length - (intOf s).toNat)
      case atStart => exact ⟨1, 0, by omega, rfl, rfl, by omega, by omega, HF, 0, rfl⟩
      case round =>
        obtain ⟨all, j, hj, rfl, rfl, ha1, ha2, hf, n, rfl⟩ := hrel
        by_cases hjl : j < zs.length
        · obtain ⟨b, off, rfl, hcell⟩ := hc j hjl
          have ho := hx j hjl
          have hd := drop_get zs j hjl
          generalize hz : zs.getD j 0 = z at hcell ho hd
          have Hd : Hid (zs.drop j = z :: zs.drop (j + 1)) := hd
          clear hz hd
          obtain ⟨o1, o2⟩ := ho
          have gp := G_pos all z ha1
          have gl := G_le_right all z o1
          have q0 : 0 ≤ z / G all z := Int.ediv_nonneg (by omega) (by omega)
          have q1 : z / G all z ≤ z := Int.ediv_le_self _ (by omega)
          have q2 : 0 ≤ 1099511627776 / all := Int.ediv_nonneg (by omega) (by omega)
          by_cases hf0 : 1099511627776 / all < z / G all z
          · have Hn : Hid (F = none) := by
              show F = none
              rw [← hf.out, Hd.out, lcmFrom, if_pos hf0]
            go_wp2_with (first | (go_at_call 99; go_call (gcd_any _ _ _) as e w' ⟨rfl, n1, rfl⟩))
            go_ret2
            rw [Hn.out]
            exact ⟨rfl, _, rfl⟩
          · have bd := lcm_step_bd all z ha1 o1 o2 hf0
            have Hn : Hid (lcmFrom (all * (z / G all z)) (zs.drop (j + 1)) = F) := by
              show _ = F
              rw [← hf.out, Hd.out, lcmFrom, if_neg hf0]
            go_wp2_with (first | (go_at_call 99; go_call (gcd_any _ _ _) as e w' ⟨rfl, n1, rfl⟩))
            go_roundw
            case rel => exact ⟨all * (z / G all z), j + 1, by omega, rfl, by go_num, bd.1, bd.2, Hn, _, rfl⟩
            case measure => simp [intOf]; omega
        · go_wp2_with fail
          have Hn : Hid (F = some all) := by
            show F = some all
            rw [← hf.out, List.drop_of_length_le (by omega), lcmFrom]
          go_ret2
          rw [Hn.out]
          exact ⟨rfl, _, rfl⟩

end NumC
end Go.Proofs.Ytpnahhpkaegeeaa

/- Contracts of the document's own answers about numbers. -/
set_option linter.unusedVariables false
namespace Go.Proofs.Ytpnahhpkaegeeaa
open Go.RowKit
open NumM
namespace NumC
theorem between_yes (x lo hi : Int) (w : World) (h1 : lo ≤ x) (h2 : x ≤ hi) :
    Calls Try.prog 18 #[.int .i64 x, .int .i64 lo, .int .i64 hi] w fun e w' => e = .returned (.bool true) ∧ w' = w := by
  go_enter Try.func18, Try.ntmps18
  go_wp2
  go_ret
  exact ⟨rfl, rfl⟩
theorem between_low (x lo hi : Int) (w : World) (h1 : x < lo) :
    Calls Try.prog 18 #[.int .i64 x, .int .i64 lo, .int .i64 hi] w fun e w' => e = .returned (.bool false) ∧ w' = w := by
  have hd : decide (lo ≤ x) = false := by simp; omega
  go_enter Try.func18, Try.ntmps18
  go_wp2
  go_ret
  exact ⟨rfl, rfl⟩
theorem between_high (x lo hi : Int) (w : World) (h1 : lo ≤ x) (h2 : hi < x) :
    Calls Try.prog 18 #[.int .i64 x, .int .i64 lo, .int .i64 hi] w fun e w' => e = .returned (.bool false) ∧ w' = w := by
  have hd : decide (x ≤ hi) = false := by simp; omega
  go_enter Try.func18, Try.ntmps18
  go_wp2
  go_ret
  exact ⟨rfl, rfl⟩
theorem between_no (x lo hi : Int) (w : World) (h : ¬ (lo ≤ x ∧ x ≤ hi)) :
    Calls Try.prog 18 #[.int .i64 x, .int .i64 lo, .int .i64 hi] w fun e w' => e = .returned (.bool false) ∧ w' = w := by
  by_cases h1 : x < lo
  · exact between_low x lo hi w h1
  · exact between_high x lo hi w (by omega) (by omega)

theorem rfloor_any (a b : Int) (w : World) (hb : 1 ≤ b) (hb2 : b ≤ 1099511627776) (ha : -1099511627776 ≤ a) (ha2 : a ≤ 1099511627776) :
    Calls Try.prog 82 #[.int .i64 a, .int .i64 b] w fun e w' => e = .returned (.int .i64 (a / b)) ∧ w' = w := by
  by_cases h : 0 ≤ a
  · go_enter Try.func82, Try.ntmps82
    go_wp2
    go_ret
    exact ⟨rfl, rfl⟩
  · have q0 : 0 ≤ (-a + b - 1) / b := Int.ediv_nonneg (by omega) (by omega)
    have q1 : (-a + b - 1) / b ≤ -a + b - 1 := Int.ediv_le_self _ (by omega)
    have e : Hid (-((-a + b - 1) / b) = a / b) := by
      show _ = _
      have em := Int.emod_add_mul_ediv a b
      have em1 := Int.emod_nonneg a (show b ≠ 0 by omega)
      have em2 := Int.emod_lt_of_pos a (show 0 < b by omega)
      have : (-a + b - 1) / b = -(a / b) := by
        refine (Int.ediv_eq_iff_of_pos (by omega)).2 ?_
        rw [Int.mul_comm] at em
        rw [Int.neg_mul]; omega
      omega
    go_enter Try.func82, Try.ntmps82
    go_wp2
    go_ret
    exact ⟨ret_int e.out, rfl⟩

end NumC
end Go.Proofs.Ytpnahhpkaegeeaa
