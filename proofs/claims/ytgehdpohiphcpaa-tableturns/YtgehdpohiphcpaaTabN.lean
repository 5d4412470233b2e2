/- Contracts of package dutyref: TurnsOf. -/
import Derived.Test.YtgehdpohiphcpaaTabU
import Derived.Test.YtgehdpohiphcpaaTabG
set_option linter.unusedVariables false
namespace Go.Proofs.Ytgehdpohiphcpaa
open Go.RowKit Go.Shelf
open SpanM SpanC TabM
namespace TabC
theorem mod_base' {size base t : Int} (hs : 1 ≤ size) (hb : base % size = 0) (h0 : 0 ≤ t - base) (h1 : t - base < size) : t % size = t - base := by
  have e : t = (t - base) + base := by omega
  rw [e, Int.add_emod, hb, Int.add_zero, Int.emod_emod_of_dvd _ (Int.dvd_refl _), Int.emod_eq_of_lt h0 h1]
  omega
theorem mod_start' {size t : Int} : (t - t % size) % size = 0 := by
  have := Int.emod_add_mul_ediv t size
  have e : t - t % size = size * (t / size) := by omega
  rw [e, Int.mul_emod_right]
/-- up to the next edge nothing changes -/
theorem wat_same {size A N u : Int} {l : List Win} (hs : 1 ≤ size) (hA : 0 ≤ A) (hE : ∀ y ∈ edges (spn l), A - A % size + y ≤ A ∨ N ≤ A - A % size + y) (hN : N ≤ A - A % size + size) (h1 : A ≤ u) (h2 : u < N) : wat size l u = wat size l A := by
  have m1 := Int.emod_nonneg A (show size ≠ 0 by omega)
  have m2 := Int.emod_lt_of_pos A (show 0 < size by omega)
  unfold wat
  rw [mod_base' (base := A - A % size) hs mod_start' (by omega) (by omega)]
  refine wown_same (by omega) fun y hy => ?_
  have := hE y hy
  omega
theorem sortI_all (B : Nat) (v : Value) (zs : List Int) (w : World) (h : OwnI w B v zs) (hB : B ≤ w.heap.size) (hl : zs.length ≤ 10000000) :
    Calls Try.prog 54 #[v] w fun e w' => e = .returned (.tuple #[]) ∧ (∃ ys : List Int, ys.length = zs.length ∧ (∀ x, x ∈ ys ↔ x ∈ zs) ∧ OwnI w' B v ys) ∧ Below B w w' := by
  rcases h.form with ⟨rfl, rfl⟩ | ⟨g, cap, rfl, hb, hg, _⟩
  · have hcon := AnyM.slices_Sort_int_none sortInt none 0 w
    change Calls Try.prog 54 _ _ _ at hcon
    refine hcon.mono ?_
    rintro e w' ⟨he, rfl⟩
    exact ⟨he, ⟨[], rfl, by simp, h⟩, Below.refl _ _⟩
  · refine (sortI_any B g cap zs w h hB hl).mono ?_
    rintro e w' ⟨he, ho, hb'⟩
    exact ⟨he, ⟨_, List.length_mergeSort _, fun x => List.mem_mergeSort, ho⟩, hb'⟩
end TabC
end Go.Proofs.Ytgehdpohiphcpaa
