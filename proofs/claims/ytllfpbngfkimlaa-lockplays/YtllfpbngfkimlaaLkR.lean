/- Package lock: Bound. -/
import Derived.Test.YtllfpbngfkimlaaLkQ
set_option linter.unusedVariables false
namespace Go.Proofs.Ytllfpbngfkimlaa
open Go.RowKit
open Go.Shelf Go.Sort
open SpanM SpanC IntsC
open RowsO hiding Wk
namespace LockC
open LockM
open NumC (Row)
/-- the longest row of the works behind i, of k of them -/
def bndK (l : List LockM.Wk) (i : Nat) : Nat → Int
  | 0 => 0
  | k + 1 => max (bndK l i k) (lgF (ceils l) i (acts l (i + 1 + k))).1
def bnd (l : List LockM.Wk) (i : Nat) : Int := bndK l i (l.length - (i + 1))
theorem bndK_bd {l : List LockM.Wk} (hk : Oks l) (i : Nat) : ∀ k, k ≤ l.length - (i + 1) → 0 ≤ bndK l i k ∧ bndK l i k ≤ 3000 := by
  intro k
  induction k with
  | zero => intro _; simp [bndK]
  | succ k ih =>
    intro hkl
    have h1 := ih (by omega)
    have hw := hk.at (show i + 1 + k < l.length by omega)
    have h2 := lgF_bd (C := ceils l) (i := i) (run_bd hw) _ (Nat.le_refl _)
    rw [List.take_length] at h2
    have h3 := hw.many
    simp only [bndK]
    have e : acts l (i + 1 + k) = (l.getD (i + 1 + k) (0, [])).2 := rfl
    rw [e]
    omega
def bndE (l : List LockM.Wk) (i : Int) : Int := if wchk l ≠ 0 then wchk l else if i < 0 ∨ (l.length : Int) ≤ i then 7 else 0
end LockC
end Go.Proofs.Ytllfpbngfkimlaa
