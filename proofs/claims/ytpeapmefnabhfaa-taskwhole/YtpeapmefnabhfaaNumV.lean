/- numLives: some known numbers. -/
import Derived.Test.YtpeapmefnabhfaaNumD
import Derived.WalkSmall
set_option linter.unusedVariables false
namespace Go.Proofs.Ytpeapmefnabhfaa
open Go.RowKit
open NumM
namespace NumC
end NumC
end Go.Proofs.Ytpeapmefnabhfaa
