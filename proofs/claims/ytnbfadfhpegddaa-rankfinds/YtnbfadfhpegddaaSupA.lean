/- Contracts of package supply, each whole. -/
import Derived.Test.YtnbfadfhpegddaaSupV
set_option linter.unusedVariables false
namespace Go.Proofs.Ytnbfadfhpegddaa
open Go.RowKit
open SpanM SupM
namespace SpanC
theorem least_zero {size n : Int} {l : List Sp} (h : leastE size l n = 0) : chk size l = 0 ∧ 0 ≤ n ∧ n ≤ 549755813888 := sE_zero h
theorem leastV_P {size n : Int} {l : List Sp} (h : leastE size l n = 0) : LeastP size l n (leastV size l n) := by
  obtain ⟨hk, n1, n2⟩ := least_zero h
  obtain ⟨s1, s2, s3, s4⟩ := chk_zero hk
  unfold leastV; rw [if_pos h]; exact lst_P s1 s4 n1
theorem mostV_P {size n : Int} {l : List Sp} (h : leastE size l n = 0) : MostP size l n (mostV size l n) := by
  obtain ⟨hk, n1, n2⟩ := least_zero h
  obtain ⟨s1, s2, s3, s4⟩ := chk_zero hk
  unfold mostV; rw [if_pos h]; exact mst_P s1 s4 n1
theorem leastV_err {size n : Int} {l : List Sp} (h : leastE size l n ≠ 0) : leastV size l n = 0 := by unfold leastV; rw [if_neg h]
theorem mostV_err {size n : Int} {l : List Sp} (h : leastE size l n ≠ 0) : mostV size l n = 0 := by unfold mostV; rw [if_neg h]
theorem leastV_bd {size n : Int} {l : List Sp} : 0 ≤ leastV size l n ∧ leastV size l n ≤ 549755813888 ∧ 0 ≤ mostV size l n ∧ mostV size l n ≤ 549755813888 := by
  by_cases h : leastE size l n = 0
  · obtain ⟨hk, n1, n2⟩ := least_zero h
    obtain ⟨s1, s2, s3, s4⟩ := chk_zero hk
    have a := (leastV_P h).bd s1 s4 n1
    have b := (mostV_P h).bd s1 s4 n1
    omega
  · rw [leastV_err h, mostV_err h]; omega
open Classical in
noncomputable def waitE (size : Int) (l : List Sp) (n : Int) : Int := if sE size l n 1000000 = 0 then (if n = 0 then 0 else if l = [] then 7 else 0) else sE size l n 1000000
open Classical in
noncomputable def waitV (size : Int) (l : List Sp) (n : Int) : Int := if sE size l n 1000000 = 0 ∧ n ≠ 0 ∧ l ≠ [] then wt size l n else 0
theorem wait_any (size n : Int) (a : Option Addr) (cap : Nat) (l : List Sp) (w : World) (hr : Sps w a l) :
    Calls Try.prog 58 #[.agg #[.int .i64 size, .slice a l.length cap], .int .i64 n] w fun e w' => e = .returned (.tuple #[.int .i64 (waitV size l n), .int .i64 (waitE size l n)]) ∧ Below w.heap.size w w' := by
  unfold waitV waitE
  by_cases he : sE size l n 1000000 = 0
  · rw [if_pos he]
    by_cases hn : n = 0
    · subst hn
      rw [if_neg (by simp), if_pos rfl]
      exact wait_zero size a cap l w hr he
    · rw [if_neg hn]
      by_cases hl : l = []
      · rw [if_neg (by simp [hl]), if_pos hl]
        subst hl
        exact wait_none size n a cap w he hn
      · rw [if_pos ⟨he, hn, hl⟩, if_neg hl]
        exact wait_ok size n a cap l w hr he hl hn
  · rw [if_neg he, if_neg (by simp [he])]
    exact wait_err size n a cap l w hr he
open Classical in
noncomputable def fromE (size : Int) (l : List Sp) (t n : Int) : Int := if sE size l n 1000000 = 0 then (if 0 ≤ t ∧ t ≤ 1000000 then (if n = 0 then 0 else if l = [] then 7 else 0) else 1) else sE size l n 1000000
open Classical in
noncomputable def fromV (size : Int) (l : List Sp) (t n : Int) : Int := if sE size l n 1000000 = 0 ∧ (0 ≤ t ∧ t ≤ 1000000) ∧ n ≠ 0 ∧ l ≠ [] then fr size l t n else 0
theorem wait_zeroE {size n : Int} {l : List Sp} (h : waitE size l n = 0) : chk size l = 0 ∧ 0 ≤ n ∧ n ≤ 1000000 ∧ (n = 0 ∧ waitV size l n = 0 ∨ 1 ≤ n ∧ l ≠ [] ∧ waitV size l n = wt size l n) := by
  unfold waitE at h
  split at h
  · rename_i he
    obtain ⟨hk, n1, n2⟩ := sE_zero he
    refine ⟨hk, n1, n2, ?_⟩
    unfold waitV
    split at h
    · exact .inl ⟨‹_›, by rw [if_neg (by simp [*])]⟩
    · split at h
      · simp at h
      · exact .inr ⟨by omega, ‹_›, by rw [if_pos ⟨he, ‹_›, ‹_›⟩]⟩
  · exact absurd h ‹_›
theorem waitV_err {size n : Int} {l : List Sp} (h : waitE size l n ≠ 0) : waitV size l n = 0 := by
  unfold waitE at h
  unfold waitV
  rw [if_neg]
  rintro ⟨h1, h2, h3⟩
  rw [if_pos h1, if_neg h2, if_neg h3] at h
  exact h rfl
theorem from_zeroE {size t n : Int} {l : List Sp} (h : fromE size l t n = 0) : chk size l = 0 ∧ 0 ≤ n ∧ n ≤ 1000000 ∧ 0 ≤ t ∧ t ≤ 1000000 ∧ (n = 0 ∧ fromV size l t n = 0 ∨ 1 ≤ n ∧ l ≠ [] ∧ fromV size l t n = fr size l t n) := by
  unfold fromE at h
  split at h
  · rename_i he
    obtain ⟨hk, n1, n2⟩ := sE_zero he
    split at h
    · rename_i ht
      refine ⟨hk, n1, n2, ht.1, ht.2, ?_⟩
      unfold fromV
      split at h
      · exact .inl ⟨‹_›, by rw [if_neg (by simp [*])]⟩
      · split at h
        · simp at h
        · exact .inr ⟨by omega, ‹_›, by rw [if_pos ⟨he, ht, ‹_›, ‹_›⟩]⟩
    · simp at h
  · exact absurd h ‹_›
theorem fromV_err {size t n : Int} {l : List Sp} (h : fromE size l t n ≠ 0) : fromV size l t n = 0 := by
  unfold fromE at h
  unfold fromV
  rw [if_neg]
  rintro ⟨h1, h2, h3, h4⟩
  rw [if_pos h1, if_pos h2, if_neg h3, if_neg h4] at h
  exact h rfl
end SpanC
end Go.Proofs.Ytnbfadfhpegddaa
