/- Package lock: longest, Bound. -/
import Derived.Test.YtllfpbngfkimlaaLkN
set_option linter.unusedVariables false
namespace Go.Proofs.Ytllfpbngfkimlaa
open Go.RowKit
open Go.Shelf Go.Sort
open SpanM SpanC IntsC
open RowsO hiding Wk
namespace LockC
open LockM
open NumC (Row)
/-- what longest keeps: the most, the row, how many locks it has -/
def lgS (C : List Int) (i : Int) (s : Int × Int × Int) (a : LockM.Ac) : Int × Int × Int :=
  if a.1 = 1 then (if s.2.2 = 0 then (s.1, 0, s.2.2) else (max s.1 (s.2.1 + a.2), s.2.1 + a.2, s.2.2))
  else if i < C.getD a.2.toNat 0 then s
  else if a.1 = 2 then (s.1, s.2.1, s.2.2 + 1) else (s.1, s.2.1, s.2.2 - 1)
def lgF (C : List Int) (i : Int) (l : List LockM.Ac) : Int × Int × Int := l.foldl (lgS C i) (0, 0, 0)
theorem lgF_next {C : List Int} {i : Int} {l : List LockM.Ac} {j : Nat} (h : j < l.length) : lgF C i (l.take (j + 1)) = lgS C i (lgF C i (l.take j)) l[j] := by
  unfold lgF
  rw [List.take_succ_eq_append_getElem h, List.foldl_append]; rfl
theorem lgF_bd {C : List Int} {i : Int} {l : List LockM.Ac} (h : ∀ a ∈ l, a.1 = 1 → 0 ≤ a.2 ∧ a.2 ≤ 100) : ∀ j, j ≤ l.length → 0 ≤ (lgF C i (l.take j)).1 ∧ (lgF C i (l.take j)).1 ≤ 100 * j ∧ 0 ≤ (lgF C i (l.take j)).2.1 ∧ (lgF C i (l.take j)).2.1 ≤ 100 * j ∧ -(j : Int) ≤ (lgF C i (l.take j)).2.2 ∧ (lgF C i (l.take j)).2.2 ≤ j := by
  intro j
  induction j with
  | zero => intro _; simp [lgF]
  | succ j ih =>
    intro hj
    obtain ⟨h1, h2, h3, h4, h5, h6⟩ := ih (by omega)
    have hm := h l[j] (List.getElem_mem (by omega))
    rw [lgF_next (show j < l.length by omega)]
    generalize lgF C i (l.take j) = s at *
    unfold lgS
    split
    · rename_i e
      have := hm e
      split
      · simp only; omega
      · simp only
        refine ⟨?_, ?_, ?_, ?_, ?_, ?_⟩ <;> omega
    · split
      · omega
      · split
        · simp only; omega
        · simp only; omega
theorem run_bd {w : LockM.Wk} (hw : w.Ok) : ∀ a ∈ w.2, a.1 = 1 → 0 ≤ a.2 ∧ a.2 ≤ 100 := by
  intro a ha e
  obtain ⟨j, hj, rfl⟩ := List.getElem_of_mem ha
  rcases kind_of hw.all hj with c | c | c
  · omega
  · omega
  · omega
/-- each act's lock -/
theorem lock_of {w : LockM.Wk} (hw : w.Ok) {j : Nat} (hj : j < w.2.length) (h : w.2[j].1 ≠ 1) : (w.2[j].1 = 2 ∨ w.2[j].1 = 3) ∧ 0 ≤ w.2[j].2 ∧ w.2[j].2 ≤ 7 := by
  rcases kind_of hw.all hj with c | c | c
  · exact absurd c.1 h
  · exact ⟨.inl c.1, c.2.1, c.2.2⟩
  · obtain ⟨g, h1, h2, _⟩ := hasAt_drop hw hj c
    have hin : w.2[j].2 ∈ g := by
      obtain ⟨ys, e⟩ := List.getLast?_eq_some_iff.1 h2
      rw [e]; simp
    exact ⟨.inr c, (hasAt_keeps h1).2 _ hin⟩
end LockC
end Go.Proofs.Ytllfpbngfkimlaa
