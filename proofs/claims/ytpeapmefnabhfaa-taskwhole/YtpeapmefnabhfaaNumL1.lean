/- The walk of NumDown. -/
import Derived.Test.YtpeapmefnabhfaaNumV
import Derived.OpenShut
set_option linter.unusedVariables false
namespace Go.Proofs.Ytpeapmefnabhfaa
open Go.RowKit
open NumM
namespace NumC
theorem wf64 {a : Int} (h : (Lit.int .i64 a).wf = true) : -9223372036854775808 ≤ a ∧ a ≤ 9223372036854775807 := by
  have := bounds_i64 h; omega

theorem bel_trans {a b c : World} (h : Below a.heap.size a b) (k : Below b.heap.size b c) : Below a.heap.size a c := h.trans (k.mono h.size)

end NumC
end Go.Proofs.Ytpeapmefnabhfaa
