/- Contracts of package span: within, Check. -/
import Derived.Test.YtceflfdpbgnfjaaSpanB
import Derived.Lib.SliceRun
set_option linter.unusedVariables false
namespace Go.Proofs.Ytceflfdpbgnfjaa
open Go.RowKit
open SpanM
namespace SpanC
end SpanC
end Go.Proofs.Ytceflfdpbgnfjaa
