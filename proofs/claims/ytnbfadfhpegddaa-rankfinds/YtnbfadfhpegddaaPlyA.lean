/- Contracts of package play: within, checkFirst, checkUntil. -/
import Derived.Test.YtnbfadfhpegddaaRowG
import Derived.Test.YtnbfadfhpegddaaTskC
import Derived.Test.YtnbfadfhpegddaaSupI
import Derived.Test.YtnbfadfhpegddaaPlyM
import Derived.Deep.RegionHeld3
import Derived.Deep.AppendLies
set_option linter.unusedVariables false
namespace Go.Proofs.Ytnbfadfhpegddaa
open Go.RowKit hiding tok
open SpanM SpanC TaskM PlayM
open RowsO hiding Tk
namespace PlayC
open TaskC (tk_snoc tk_mem)
open NumC (Row)
theorem Row.below {w w' : World} {a : Option Addr} {l : List Int} {B : Nat} (h : Row w a l) (hb : Below B w w') (hB : w.heap.size ≤ B) : Row w' a l := by
  rcases h with rfl | ⟨b, off, rfl, h⟩
  · exact .inl rfl
  · refine .inr ⟨b, off, rfl, fun i hi => ?_⟩
    have h1 := h i hi
    have hlt := World.block_lt_of_cell? w _ h1
    exact (hb.cell (by simpa using Nat.lt_of_lt_of_le hlt hB)).trans h1
theorem Row.at {w : World} {a : Option Addr} {l : List Int} (h : Row w a l) (k : Nat) (hk : k < l.length) : ∃ b off, a = some ⟨b, off, none⟩ ∧ b < w.heap.size ∧ w.cell? ⟨b, off + k, none⟩ = some (.int .i64 (l.getD k 0)) := by
  rcases h with rfl | ⟨b, off, rfl, h⟩
  · simp at hk
  · exact ⟨b, off, rfl, World.block_lt_of_cell? w _ (h k hk), h k hk⟩
theorem in_snoc (l : List Int) (k : Nat) (h : k < l.length) : l.take (k + 1) = l.take k ++ [l.getD k 0] := by
  rw [List.take_succ_eq_append_getElem h]; simp [List.getD, h]
theorem in_mem {l : List Int} {k : Nat} (h : k < l.length) : l.getD k 0 ∈ l := by simp [List.getD, h]
end PlayC
end Go.Proofs.Ytnbfadfhpegddaa
