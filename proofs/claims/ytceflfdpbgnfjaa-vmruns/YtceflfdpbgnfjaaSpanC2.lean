/- Contracts of package span: Has, Count, Next. -/
import Derived.Test.YtceflfdpbgnfjaaSpanC
import Derived.BigQuiet
set_option linter.unusedVariables false
namespace Go.Proofs.Ytceflfdpbgnfjaa
open Go.RowKit
open SpanM
namespace SpanC
theorem cb_bd {size t : Int} {l : List Sp} (hs : 1 ≤ size) (hg : good size (-1) l = true) (ht : 0 ≤ t) : 0 ≤ t / size ∧ t / size ≤ t ∧ 0 ≤ cnt l size ∧ cnt l size ≤ size + 1 ∧ 0 ≤ cnt l (t % size) ∧ cnt l (t % size) ≤ size + 1 ∧ 0 ≤ t / size * cnt l size ∧ t / size * cnt l size ≤ 2 * t := by
  have m1 := Int.emod_nonneg t (show size ≠ 0 by omega)
  have m2 := Int.emod_lt_of_pos t (show 0 < size by omega)
  have q0 : 0 ≤ t / size := Int.ediv_nonneg ht (by omega)
  have q1 : t / size ≤ t := Int.ediv_le_self _ ht
  have a1 := cnt_nonneg l size
  have a2 := (cnt_le (n := size) hg).2
  have b1 := cnt_nonneg l (t % size)
  have b2 := (cnt_le (n := t % size) hg).2
  refine ⟨q0, q1, a1, by omega, b1, by omega, Int.mul_nonneg q0 a1, ?_⟩
  have h1 : t / size * cnt l size ≤ t / size * (size + 1) := Int.mul_le_mul_of_nonneg_left (by omega) q0
  have m3 := Int.emod_add_mul_ediv t size
  rw [Int.mul_add, Int.mul_comm (t / size) size] at h1
  omega
theorem cb_le {size t : Int} {l : List Sp} (hk : chk size l = 0) (ht : 0 ≤ t) (ht2 : t ≤ 1099511627776) : 0 ≤ cb size l t ∧ cb size l t ≤ 2199025000000 := by
  obtain ⟨s1, s2, s3, s4⟩ := chk_zero hk
  obtain ⟨q1, q2, q3, q4, q5, q6, q7, q8⟩ := cb_bd s1 s4 ht
  unfold cb
  omega
end SpanC
end Go.Proofs.Ytceflfdpbgnfjaa
