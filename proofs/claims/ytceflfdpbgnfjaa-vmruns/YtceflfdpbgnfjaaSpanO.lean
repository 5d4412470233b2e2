/- Sets and lists of spans that come in. -/
import Derived.Test.YtceflfdpbgnfjaaSpanB
import Derived.Deep.SlicePairs
import Derived.ChangeArms
set_option linter.unusedVariables false
namespace Go.Proofs.Ytceflfdpbgnfjaa
open Go.ChangeShapes Go.WideShapes Go.ChangeAt Go.RowKit
open SpanM
namespace SpanC
def wf64 (n : Int) : Prop := -9223372036854775808 ≤ n ∧ n ≤ 9223372036854775807
/-- what is known of a list of spans that came in -/
def IsSps (w : World) (a : Option Addr) (len cap : Nat) (l : List Sp) : Prop :=
  len = l.length ∧ len ≤ cap ∧ cap ≤ maxLen ∧ Sps w a l ∧ (a = none → len = 0 ∧ cap = 0) ∧ ∀ x ∈ l, wf64 x.1 ∧ wf64 x.2

theorem add_none {b off k : Nat} : (⟨b, off, none⟩ : Addr).add k = ⟨b, off + k, none⟩ := by
  by_cases h : k = 0 <;> simp [Addr.add, h]

end SpanC
end Go.Proofs.Ytceflfdpbgnfjaa
