/- Contracts of package span: within, Check. -/
import Derived.Test.YtllfpbngfkimlaaSpanB
import Derived.Lib.SliceRun
set_option linter.unusedVariables false
namespace Go.Proofs.Ytllfpbngfkimlaa
open Go.RowKit
open SpanM
namespace SpanC
end SpanC
end Go.Proofs.Ytllfpbngfkimlaa
