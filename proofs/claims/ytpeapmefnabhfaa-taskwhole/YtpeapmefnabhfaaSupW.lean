/- Contracts of package supply: Wait. -/
import Derived.Test.YtpeapmefnabhfaaSupF2
set_option linter.unusedVariables false
namespace Go.Proofs.Ytpeapmefnabhfaa
open Go.RowKit Go.Shelf Go.Lib Go.Sort
open SpanM SupM
namespace SpanC
end SpanC
end Go.Proofs.Ytpeapmefnabhfaa
