/- TableMakes. -/
import Derived.Test.YtgehdpohiphcpaaTabJ2
set_option linter.unusedVariables false
namespace Go.Proofs.Ytgehdpohiphcpaa
open Go.RowKit
open SpanM SpanC TabM
namespace TabC
theorem tableMakes_walk (frame : Int) (a : Option Addr) (len cap : Nat) (l : List Wnt) (w : World) (wf : wf64 frame) (h : IsWts w a len cap l) :
    Calls Try.prog 4 #[.int .i64 frame, .slice a len cap] w fun e w' => e = .returned (.bool true) ∧ Below w.heap.size w w' := by
  obtain ⟨rfl, _, _, hr, nz⟩ := h
  exact tableMakes_run (made_says made_list) frame a cap l w hr
end TabC
end Go.Proofs.Ytgehdpohiphcpaa
