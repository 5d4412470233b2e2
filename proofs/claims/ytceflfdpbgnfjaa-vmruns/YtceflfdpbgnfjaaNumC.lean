/- Contracts of the small functions of package num. -/
import Derived.Test.YtceflfdpbgnfjaaChecked
import Derived.Test.YtceflfdpbgnfjaaNumM
import Derived.WalkKit
import Derived.ProofKit
import Derived.Deep.QuietTactic
import Derived.BigQuiet
import Derived.Handy
set_option linter.unusedVariables false
namespace Go.Proofs.Ytceflfdpbgnfjaa
open Go.RowKit
open NumM
namespace NumC

theorem ret_int {k : IntKind} {a b : Int} (h : a = b) : Ending.returned (.int k a) = .returned (.int k b) := by rw [h]

/-- the slice at a reads as zs -/
def Row (w : World) (a : Option Addr) (zs : List Int) : Prop :=
  zs = [] ∨ ∃ b off, a = some ⟨b, off, none⟩ ∧ ∀ i, i < zs.length → w.cell? ⟨b, off + i, none⟩ = some (.int .i64 (zs.getD i 0))

def lcmVal (F : Option Int) : Int := F.getD 0
def lcmErr (F : Option Int) : Int := if F = none then 6 else 0
end NumC
end Go.Proofs.Ytceflfdpbgnfjaa
