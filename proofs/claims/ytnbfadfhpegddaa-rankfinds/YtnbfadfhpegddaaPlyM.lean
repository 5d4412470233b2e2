/- Plain mathematics of plays: the jobs in a row. -/
import Derived.Test.YtnbfadfhpegddaaPlayM6
set_option linter.unusedVariables false
namespace Go.Proofs.Ytnbfadfhpegddaa
open SpanM SupM TaskM
namespace PlayM
namespace Pl
/-- the jobs of the first i tasks -/
def jn (P : Pl) (T : Int) (i : Nat) : List (Nat × Nat) := (List.range i).flatMap fun i => (List.range (P.cnt i T)).map fun k => (i, k)
/-- .. and the first k of the task i -/
def jk (P : Pl) (T : Int) (i k : Nat) : List (Nat × Nat) := P.jn T i ++ (List.range k).map fun k => (i, k)
theorem jn_all (P : Pl) (T : Int) : P.jn T P.l.length = P.jobsL T := rfl
theorem jn_zero (P : Pl) (T : Int) : P.jn T 0 = [] := rfl
theorem jk_zero (P : Pl) (T : Int) (i : Nat) : P.jk T i 0 = P.jn T i := by simp [jk]
theorem jk_succ (P : Pl) (T : Int) (i k : Nat) : P.jk T i (k + 1) = P.jk T i k ++ [(i, k)] := by simp [jk, List.range_succ]
theorem jn_succ (P : Pl) (T : Int) (i : Nat) : P.jn T (i + 1) = P.jk T i (P.cnt i T) := by simp [jn, jk, List.range_succ, List.flatMap_append]
theorem jk_len (P : Pl) (T : Int) (i k : Nat) : (P.jk T i k).length = (P.jn T i).length + k := by simp [jk]
theorem jn_len (P : Pl) (T : Int) (i : Nat) : (P.jn T (i + 1)).length = (P.jn T i).length + P.cnt i T := by rw [jn_succ, jk_len]
theorem cnt_le {P : Pl} (hP : P.Ok) {i : Nat} (hi : i < P.l.length) (T : Int) : P.cnt i T ≤ T.toNat := by
  by_cases h : P.cnt i T = 0
  · omega
  · have := (cnt_iff hP hi T (P.cnt i T - 1)).1 (by omega)
    have c := (hP.come hi (P.cnt i T - 1)).1
    omega
theorem jn_bd {P : Pl} (hP : P.Ok) (T : Int) : ∀ i, i ≤ P.l.length → (P.jn T i).length ≤ i * T.toNat
  | 0, _ => by simp [jn_zero]
  | i + 1, h => by
    have a := jn_bd hP T i (by omega)
    have b := cnt_le hP (show i < P.l.length by omega) T
    rw [jn_len, Nat.add_mul]; omega
/-- how many, as the program counts them -/
theorem cnt_eq {P : Pl} (hP : P.Ok) {i : Nat} (hi : i < P.l.length) (T : Int) : ((P.cnt i T : Nat) : Int) = (max 0 (T - P.f.getD i 0) + (P.tk i).2.1 - 1) / (P.tk i).2.1 := by
  have e1 := (hP.at hi).1
  unfold cnt
  by_cases h : P.f.getD i 0 ≤ T
  · have h0 : 0 ≤ (T - P.f.getD i 0 + (P.tk i).2.1 - 1) / (P.tk i).2.1 := Int.ediv_nonneg (by omega) (by omega)
    rw [Int.max_eq_right (by omega)]
    omega
  · have h1 : (max 0 (T - P.f.getD i 0) + (P.tk i).2.1 - 1) / (P.tk i).2.1 = 0 := by
      rw [Int.max_eq_left (by omega)]
      exact Int.ediv_eq_zero_of_lt (by omega) (by omega)
    have h2 : (T - P.f.getD i 0 + (P.tk i).2.1 - 1) / (P.tk i).2.1 < 1 := Int.ediv_lt_of_lt_mul (by omega) (by omega)
    rw [h1]; omega
theorem tk_at (P : Pl) (i : Nat) : P.tk i = P.l.getD i (0, 0, 0) := rfl
/-- what is told of until -/
def untG (P : Pl) (T : Int) : Int := if 2000 < (P.jobsL T).length then 2 else 0
def untE (P : Pl) (T : Int) : Int := if 0 ≤ T ∧ T ≤ 20000 then P.untG T else 1
/-- the tasks and firsts alone -/
def bare (l : List Tk) (f : List Int) : Pl := ⟨l, f, 1, [], 1⟩
theorem bare_ok {l : List Tk} {f : List Int} (h1 : ∀ x ∈ l, tok x) (h2 : f.length = l.length) (h3 : ∀ x ∈ f, 0 ≤ x) : (bare l f).Ok := ⟨h1, h2, h3, Int.le_refl 1, by rfl⟩
theorem Ok.bare {P : Pl} (h : P.Ok) : (bare P.l P.f).Ok := bare_ok h.tk h.len h.f0
end Pl
/-- what is told of first -/
def fok (x : Int) : Prop := 0 ≤ x ∧ x ≤ 10000
instance (x : Int) : Decidable (fok x) := by unfold fok; infer_instance
def fstG (f : List Int) : Int := if ∀ x ∈ f, fok x then 0 else 4
def fstE (n : Nat) (f : List Int) : Int := if f.length = n then fstG f else 4
theorem fstE_zero {n : Nat} {f : List Int} (h : fstE n f = 0) : f.length = n ∧ ∀ x ∈ f, fok x := by
  unfold fstE fstG at h
  split at h
  · split at h
    · exact ⟨‹_›, ‹_›⟩
    · simp at h
  · simp at h
theorem fstE_cases (n : Nat) (f : List Int) : fstE n f = 0 ∨ fstE n f = 4 := by
  unfold fstE fstG
  split
  · split <;> simp
  · simp
end PlayM
end Go.Proofs.Ytnbfadfhpegddaa
