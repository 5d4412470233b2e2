/- The library's generic functions at this program, each laid beside the one that its contract was proved of. -/
import Derived.Shelf.SlSorted.Search
import Derived.Shelf.SlicesG.SearchI
import Derived.Shelf.SlGeneric
import Derived.Test.YtepnlfnnancnfaaChecked
namespace Go.Proofs
open Go.Shelf
def Ytepnlfnnancnfaa.searchAny_ren : Go.Shelf.Ren := ⟨fun | 16 => 51 | n => n, fun | 3 => 3 | 35 => 63 | 4 => 4 | 38 => 73 | n => n, fun | n => n⟩
theorem Ytepnlfnnancnfaa.searchAny : Go.Proofs.SlLaysO.n16 Try.prog Ytepnlfnnancnfaa.searchAny_ren := {
  mixed := by kernel_rfl
  f16 := Try.func51.trans (congrArg some (by kernel_rfl))
  t3 := Try.underlying3
  a3 := Try.isAgg3
  z3 := Try.sizeOf3
  v3 := Try.zeroValue3
  t4 := Try.underlying4
  a4 := Try.isAgg4
  z4 := Try.sizeOf4
  v4 := Try.zeroValue4
  t35 := Try.underlying63
  a35 := Try.isAgg63
  z35 := Try.sizeOf63
  v35 := Try.zeroValue63
  t38 := Try.underlying73
  a38 := Try.isAgg73
  z38 := Try.sizeOf73
  v38 := Try.zeroValue73 }
def Ytepnlfnnancnfaa.bsearchInt_ren : Go.Shelf.Ren := ⟨fun | 49 => 55 | 59 => 61 | 60 => 62 | 68 => 65 | n => n, fun | 22 => 53 | 23 => 3 | 3 => 3 | 4 => 4 | 51 => 73 | 0 => 0 | n => n, fun | n => n⟩
theorem Ytepnlfnnancnfaa.bsearchInt : Go.Proofs.SlLaysN.n49 Try.prog Ytepnlfnnancnfaa.bsearchInt_ren := {
  mixed := by kernel_rfl
  f49 := ⟨Try.f55.name, by decide, Try.func55.trans (congrArg some (by kernel_rfl))⟩
  f59 := ⟨Try.f61.name, by decide, Try.func61.trans (congrArg some (by kernel_rfl))⟩
  f60 := ⟨Try.f62.name, by decide, Try.func62.trans (congrArg some (by kernel_rfl))⟩
  f68 := ⟨Try.f65.name, by decide, Try.func65.trans (congrArg some (by kernel_rfl))⟩
  t0 := Try.underlying0
  a0 := Try.isAgg0
  z0 := Try.sizeOf0
  v0 := Try.zeroValue0
  t3 := Try.underlying3
  a3 := Try.isAgg3
  z3 := Try.sizeOf3
  v3 := Try.zeroValue3
  t4 := Try.underlying4
  a4 := Try.isAgg4
  z4 := Try.sizeOf4
  v4 := Try.zeroValue4
  t22 := Try.underlying53
  a22 := Try.isAgg53
  z22 := Try.sizeOf53
  v22 := Try.zeroValue53
  t23 := Try.underlying3
  a23 := Try.isAgg3
  z23 := Try.sizeOf3
  v23 := Try.zeroValue3
  t51 := Try.underlying73
  a51 := Try.isAgg73
  z51 := Try.sizeOf73
  v51 := Try.zeroValue73 }
end Go.Proofs
