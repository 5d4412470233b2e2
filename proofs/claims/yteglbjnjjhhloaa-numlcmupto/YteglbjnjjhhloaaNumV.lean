/- numLives: some known numbers. -/
import Derived.Test.YteglbjnjjhhloaaNumD
import Derived.WalkSmall
set_option linter.unusedVariables false
namespace Go.Proofs.Yteglbjnjjhhloaa
open Go.RowKit
open NumM
namespace NumC
theorem lives (w : World) :
    Calls Try.prog 25 #[] w fun e w' => e = .returned (.bool true) ∧ Below w.heap.size w w' := by
  go_enter Try.func25, Try.ntmps25
  go_wp2_with (first | (go_at_call 17; refine (gcd_1218 _).mono ?_; rintro e w' ⟨rfl, n1, rfl⟩) | fail)
  refine (lcm_46 _ _ ?_).mono ?_
  · refine .inr ⟨_, _, rfl, fun i hi => ?_⟩
    match i, hi with
    | 0, _ => exact World.cell?_alloc_at _ _ _ _ rfl
    | 1, _ => exact World.cell?_alloc_at _ _ _ _ rfl
  rintro e w' ⟨rfl, n2, rfl⟩
  go_wp2_with (first | (go_at_call 23; refine (meet_2335 _).mono ?_; rintro e w' ⟨rfl, n3, rfl⟩) | (go_at_call 13; refine (down_72 _).mono ?_; rintro e w' ⟨rfl, rfl⟩) | fail)
  go_ret
  refine ⟨rfl, ?_⟩
  exact below_drewN ((below_drewN (Below.refl _ _) _).alloc (by simp) _) _
end NumC
end Go.Proofs.Yteglbjnjjhhloaa
