/- The library's generic functions at this program, each laid beside the one that its contract was proved of. -/
import Derived.Shelf.SlSorted.Search
import Derived.Shelf.SlicesG.SearchI
import Derived.Shelf.SlGeneric
import Derived.Test.YtpeapmefnabhfaaChecked
namespace Go.Proofs
open Go.Shelf
def Ytpeapmefnabhfaa.searchAny_ren : Go.Shelf.Ren := ⟨fun | 16 => 46 | n => n, fun | 3 => 3 | 35 => 51 | 4 => 4 | 38 => 72 | n => n, fun | n => n⟩
theorem Ytpeapmefnabhfaa.searchAny : Go.Proofs.SlLaysO.n16 Try.prog Ytpeapmefnabhfaa.searchAny_ren := {
  mixed := by kernel_rfl
  f16 := Try.func46.trans (congrArg some (by kernel_rfl))
  t3 := Try.underlying3
  a3 := Try.isAgg3
  z3 := Try.sizeOf3
  v3 := Try.zeroValue3
  t4 := Try.underlying4
  a4 := Try.isAgg4
  z4 := Try.sizeOf4
  v4 := Try.zeroValue4
  t35 := Try.underlying51
  a35 := Try.isAgg51
  z35 := Try.sizeOf51
  v35 := Try.zeroValue51
  t38 := Try.underlying72
  a38 := Try.isAgg72
  z38 := Try.sizeOf72
  v38 := Try.zeroValue72 }
end Go.Proofs
