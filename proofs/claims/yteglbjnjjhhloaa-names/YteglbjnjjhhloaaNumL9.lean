/- The walk of Names. -/
import Derived.Test.YteglbjnjjhhloaaBase
import Derived.Handy
import Derived.Deep.QuietTactic
import Derived.BigQuiet
import Derived.WalkSmall
set_option linter.unusedVariables false
namespace Go.Proofs.Yteglbjnjjhhloaa
open Go.RowKit
open Base
namespace NumC
theorem equal_same (a b : Option Addr) (ca cb : Nat) (zs : List Int) (w : World) (ha : Ints w a zs) (hb : Ints w b zs) (hl : zs.length ≤ 9223372036854775807) :
    Calls Try.prog 12 #[.slice a zs.length ca, .slice b zs.length cb] w fun e w' => e = .returned (.bool true) ∧ ∃ n, w' = w.drewN n := by
  have hc : ∀ k, k < zs.length → ∃ b1 o1 b2 o2, a = some ⟨b1, o1, none⟩ ∧ b = some ⟨b2, o2, none⟩ ∧ w.cell? ⟨b1, o1 + k, none⟩ = some (.int .i64 (zs.getD k 0)) ∧ w.cell? ⟨b2, o2 + k, none⟩ = some (.int .i64 (zs.getD k 0)) := by
    intro k hk
    rcases ha with rfl | ⟨b1, o1, rfl, h1⟩
    · simp at hk
    · rcases hb with rfl | ⟨b2, o2, rfl, h2⟩
      · simp at hk
      · exact ⟨b1, o1, b2, o2, rfl, rfl, h1 k hk, h2 k hk⟩
  clear ha hb
  have hne : ((zs.length : Int) != (zs.length : Int)) = false := by simp
  go_enter Try.func12, Try.ntmps12
  go_wp2_with fail
  go_loopw [13] (fun t w' => ∃ k : Nat, k ≤ zs.length ∧ t = .int .i64 k ∧ ∃ n, w' = w.drewN n) (fun t _ => zs.length - (intOf t).toNat)
  case atStart => exact ⟨0, by omega, rfl, 0, rfl⟩
  case round =>
    obtain ⟨k, hk, rfl, n, rfl⟩ := hrel
    by_cases hlt : k < zs.length
    · obtain ⟨b1, o1, b2, o2, rfl, rfl, h1, h2⟩ := hc k hlt
      generalize zs.getD k 0 = z at h1 h2
      have hz : (z != z) = false := by simp
      have hi : (k : Int) < (zs.length : Int) := by omega
      go_wp2_with fail
      go_quiet (fail)
      go_wp2_with fail
      go_roundw
      case rel => exact ⟨k + 1, by omega, by go_num, _, rfl⟩
      case measure => simp [intOf]; omega
    · go_wp2_with fail
      go_ret
      exact ⟨rfl, n, rfl⟩

theorem ints_new (w : World) (zs : List Int) (C : Array Value) (t : TypeId) (b : Nat) (hb : b = w.heap.size) (hC : C = (zs.map (Value.int .i64)).toArray) :
    Ints (w.alloc (.cells C t)) (some ⟨b, 0, none⟩) zs := by
  refine .inr ⟨_, _, rfl, fun i hi => ?_⟩
  rw [World.cell?_alloc_at _ _ _ _ hb, hC]
  simp [List.getD, hi]
theorem ints_past (w : World) (zs : List Int) (o : Obj) (b off : Nat) (hb : b < w.heap.size) (h : Ints w (some ⟨b, off, none⟩) zs) :
    Ints (w.alloc o) (some ⟨b, off, none⟩) zs := by
  rcases h with h | ⟨b1, o1, e, h⟩
  · exact .inl h
  · refine .inr ⟨b1, o1, e, fun i hi => ?_⟩
    obtain ⟨rfl, rfl⟩ : b = b1 ∧ off = o1 := by simpa using e
    rw [World.cell?_alloc_past _ _ _ hb]; exact h i hi

def L27 : List Int := [1099511627776, 1000000, 200, 16, 16, 50000, 20000, 2000, 8, 30, 8, 500, 100, 8, 4, 5000, 50, 32, 1000, 500, 8, 1000, 4, 100, 50, 64, 300]
theorem equal_27 (a b : Option Addr) (w : World) (ha : Ints w a L27) (hb : Ints w b L27) :
    Calls Try.prog 12 #[.slice a 27 27, .slice b 27 27] w fun e w' => e = .returned (.bool true) ∧ ∃ n, w' = w.drewN n := by
  have h := equal_same a b 27 27 L27 w ha hb (by decide)
  have e : L27.length = 27 := rfl
  rw [e] at h
  exact h

set_option maxHeartbeats 4000000 in
theorem names_walk (w : World) :
    Calls Try.prog 3 #[] w fun e w' => e = .returned (.bool true) ∧ Below w.heap.size w w' := by
  go_enter Try.func3, Try.ntmps3
  go_wp2_with fail
  go_rounds 13
  go_loop [29] (fun t => ∃ k : Nat, k ≤ 8 ∧ t = .int .i64 k) (fun t => 8 - (intOf t).toNat)
  case atStart => exact ⟨0, by omega, rfl⟩
  case round =>
    obtain ⟨k, hk, rfl⟩ := hrel
    have T : k = 0 ∨ k = 1 ∨ k = 2 ∨ k = 3 ∨ k = 4 ∨ k = 5 ∨ k = 6 ∨ k = 7 ∨ k = 8 := by omega
    rcases T with rfl | rfl | rfl | rfl | rfl | rfl | rfl | rfl | rfl
    case inr.inr.inr.inr.inr.inr.inr.inr =>
      go_wp2_with fail
      refine (equal_27 _ _ _ ?_ ?_).mono ?_
      · exact ints_past _ _ _ _ _ (by simp) (ints_new _ _ _ _ _ (by simp) rfl)
      · exact ints_new _ _ _ _ _ (by simp) rfl
      · rintro e w' ⟨rfl, n, rfl⟩
        go_wp2_with fail
        go_ret
        refine ⟨rfl, below_drewN ?_ _⟩
        go_grown
    all_goals
      go_wp2_with fail
      go_rounds 12
      go_round
      case rel => exact ⟨_, by decide, rfl⟩
      case measure => simp [intOf]
end NumC
end Go.Proofs.Yteglbjnjjhhloaa
