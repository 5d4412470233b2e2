/- The walks of NumBezout and NumChinese. -/
import Derived.Test.YtpeapmefnabhfaaNumL1
import Derived.Test.YtpeapmefnabhfaaNumM2
set_option linter.unusedVariables false
namespace Go.Proofs.Ytpeapmefnabhfaa
open Go.RowKit
open NumM
namespace NumC
theorem of_drewN' {B : Nat} {w w' : World} {n : Nat} (h : Below B (w.drewN n) w') : Below B w w' := (below_drewN (Below.refl _ _) n).trans h

theorem bez_no (a b X Y less : Int) (ha : 1 ≤ a) (hb : 1 ≤ b) (x1 : 0 ≤ X) (x2 : X < b / G a b) (x3 : X * a + Y * b = G a b) (h0 : 0 ≤ less) (hl : less < X) :
    ((G a b - less * a).tmod b != 0) = true := by
  rw [bne_iff_ne]
  intro h
  have d := Int.dvd_of_tmod_eq_zero h
  have d2 : b ∣ (X - less) * a := by
    obtain ⟨c, hc⟩ := d
    refine ⟨c - Y, ?_⟩
    rw [Int.sub_mul, Int.mul_sub, ← hc, Int.mul_comm b Y]; omega
  have d3 := share_dvd a b (X - less) ha hb d2
  have := Int.le_of_dvd (by omega) d3
  omega

end NumC
end Go.Proofs.Ytpeapmefnabhfaa
