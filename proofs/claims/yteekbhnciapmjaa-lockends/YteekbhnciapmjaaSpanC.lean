/- Contracts of package span: within, Check. -/
import Derived.Test.YteekbhnciapmjaaSpanB
import Derived.Lib.SliceRun
set_option linter.unusedVariables false
namespace Go.Proofs.Yteekbhnciapmjaa
open Go.RowKit
open SpanM
namespace SpanC
end SpanC
end Go.Proofs.Yteekbhnciapmjaa
