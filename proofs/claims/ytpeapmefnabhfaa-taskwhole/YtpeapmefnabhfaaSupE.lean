/- Contracts of package supply: end. -/
import Derived.Test.YtpeapmefnabhfaaSupB
set_option linter.unusedVariables false
namespace Go.Proofs.Ytpeapmefnabhfaa
open Go.RowKit Go.Shelf Go.Lib Go.Sort
open SpanM SupM
namespace SpanC
theorem ahL_count {size rest : Int} {l : List Sp} (hg : good size (-1) l = true) {k : Nat} (hk : k < l.length) (h1 : ah l k < rest) (h2 : rest ≤ ah l (k + 1)) : ((ahL l l.length).take (l.length + 1)).countP (· < rest) = k + 1 := by
  rw [List.take_of_length_le (by rw [ahL_len]; omega)]
  have at' : ∀ t, t < l.length + 1 → (ahL l l.length)[t]! = ah l t := fun t ht => by
    rw [getElem!_pos _ t (by rw [ahL_len]; exact ht)]; simp [ahL]
  refine Lib.countP_boundary _ _ (k + 1) (by rw [ahL_len]; omega) (fun t ht => ?_) (fun t h3 h4 => ?_)
  · rw [at' t (by omega)]
    have := (ah_mono hg (show t ≤ k by omega) (by omega)).1
    simp only [decide_eq_true_eq]; omega
  · rw [ahL_len] at h4
    rw [at' t h4]
    have := (ah_mono hg h3 (by omega)).1
    simp only [decide_eq_false_iff_not]; omega
theorem ahL_sorted {size : Int} {l : List Sp} (hg : good size (-1) l = true) : ((ahL l l.length).take (l.length + 1)).Pairwise (· ≤ ·) := by
  rw [List.take_of_length_le (by rw [ahL_len]; omega), List.pairwise_iff_getElem]
  intro i j hi hj hij
  rw [ahL_len] at hi hj
  simp only [ahL, List.getElem_map, List.getElem_range]
  exact (ah_mono hg (by omega) (by omega)).1
end SpanC
end Go.Proofs.Ytpeapmefnabhfaa
