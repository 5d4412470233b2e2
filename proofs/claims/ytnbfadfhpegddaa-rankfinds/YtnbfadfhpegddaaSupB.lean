/- Contracts of package supply: perRound, below. -/
import Derived.Test.YtnbfadfhpegddaaSupT
import Derived.Test.YtnbfadfhpegddaaShelfS
import Derived.Deep.RegionWith
set_option linter.unusedVariables false
namespace Go.Proofs.Ytnbfadfhpegddaa
open Go.RowKit Go.Shelf Go.Lib Go.Sort
open SpanM SupM
namespace SpanC
/-- a tally as a value -/
abbrev tal (size : Int) (a : Option Addr) (n cap g c : Nat) : Value := .agg #[.int .i64 size, .slice a n cap, .slice (some ⟨g, 0, none⟩) (n + 1) c]
theorem per_any (size : Int) (a : Option Addr) (cap g c : Nat) (l : List Sp) (w : World) (ht : Tal w g l) (hl : l.length ≤ 200) :
    Calls Try.prog 72 #[tal size a l.length cap g c] w fun e w' => e = .returned (.int .i64 (ah l l.length)) ∧ Below w.heap.size w w' := by
  have hc := ht l.length (Nat.le_refl _)
  have hg := World.block_lt_of_cell? _ _ hc
  generalize ah l l.length = A at *
  generalize l.length = n at *
  obtain ⟨m, hm⟩ : ∃ m, m = n + 1 := ⟨_, rfl⟩
  have q1 : (n : Int) < (m : Int) := by omega
  show Calls Try.prog _ #[.agg #[.int .i64 size, .slice a n cap, .slice (some ⟨g, 0, none⟩) (n + 1) c]] w _
  rw [← hm]
  clear hm ht
  go_enter Try.func72, Try.ntmps72
  go_wp2_with fail
  go_ret
  exact ⟨rfl, by go_grown⟩
/-- how many spans have begun by a time of the round -/
def begun (l : List Sp) (r : Int) : Nat := (List.range l.length).countP (fun i => !decide (r ≤ (l.getD i (0, 0)).1))
theorem begun_eq {size r : Int} {l : List Sp} (hg : good size (-1) l = true) : begun l r ≤ l.length ∧ cnt l r = if begun l r = 0 then 0 else ah l (begun l r) - max 0 ((l.getD (begun l r - 1) (0, 0)).2 - r) := by
  obtain ⟨v1, v2, v3⟩ := countP_mono (fun i => decide (r ≤ (l.getD i (0, 0)).1)) l.length (fun i j hij hj h => by
    simp only [decide_eq_true_eq] at h ⊢
    rcases Nat.lt_or_ge i j with c | c
    · obtain ⟨g1, g2, g3, g4, g5⟩ := good_at hg (show i < l.length by omega)
      have := g2 (l.getD j (0, 0)) (by
        rw [List.mem_iff_getElem]
        exact ⟨j - (i + 1), by simp; omega, by simp [List.getD, hj, show i + 1 + (j - (i + 1)) = j by omega]⟩)
      omega
    · obtain rfl : i = j := by omega
      exact h)
  refine ⟨v1, below_eq (rest := r) hg v1 (fun i hi => ?_) (fun i h1 h2 => ?_)⟩
  · have := v2 i hi
    simp only [decide_eq_false_iff_not] at this
    omega
  · have := v3 i h1 h2
    simpa using this
end SpanC
end Go.Proofs.Ytnbfadfhpegddaa
