/- Contracts of package supply: Most. -/
import Derived.Test.YtnbfadfhpegddaaSupF
set_option linter.unusedVariables false
namespace Go.Proofs.Ytnbfadfhpegddaa
open Go.RowKit Go.Shelf Go.Lib Go.Sort
open SpanM SupM
namespace SpanC
end SpanC
end Go.Proofs.Ytnbfadfhpegddaa
