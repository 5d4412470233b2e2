/- Contracts of package num, continued. -/
import Derived.Test.YtpeapmefnabhfaaNumC
import Derived.Deep.RegionWith
set_option linter.unusedVariables false
namespace Go.Proofs.Ytpeapmefnabhfaa
open Go.RowKit
open NumM
namespace NumC
theorem lcm_46 (a : Option Addr) (w : World) (hr : Row w a [4, 6]) :
    Calls Try.prog 28 #[.slice a 2 2] w fun e w' => e = .returned (.tuple #[.int .i64 12, .int .i64 0]) ∧ ∃ n, w' = w.drewN n := by
  have h := lcm_fold a 2 [4, 6] w hr (by decide) (by intro i hi; unfold Ok1; match i, hi with | 0, _ => decide | 1, _ => decide)
  have e1 : lcmFrom 1 [4, 6] = some 12 := by decide +kernel
  rw [e1] at h
  exact h
end NumC
end Go.Proofs.Ytpeapmefnabhfaa
