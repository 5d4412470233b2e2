/- Several texts, one behind the other: ShelfS. -/
import Derived.Shelf.SlSorted.Search
import Derived.Shelf.SlicesG.SearchI
import Derived.Shelf.SlGeneric
import Derived.Test.YtpnahhpkaegeeaaChecked
/- The library's generic functions at this program, each laid beside the one that its contract was proved of. -/
namespace Go.Proofs
open Go.Shelf
def Ytpnahhpkaegeeaa.searchAny_ren : Go.Shelf.Ren := ⟨fun | 16 => 107 | n => n, fun | 3 => 3 | 35 => 89 | 4 => 4 | 38 => 137 | n => n, fun | n => n⟩
theorem Ytpnahhpkaegeeaa.searchAny : Go.Proofs.SlLaysO.n16 Try.prog Ytpnahhpkaegeeaa.searchAny_ren := {
  mixed := by kernel_rfl
  f16 := Try.func107.trans (congrArg some (by kernel_rfl))
  t3 := Try.underlying3
  a3 := Try.isAgg3
  z3 := Try.sizeOf3
  v3 := Try.zeroValue3
  t4 := Try.underlying4
  a4 := Try.isAgg4
  z4 := Try.sizeOf4
  v4 := Try.zeroValue4
  t35 := Try.underlying89
  a35 := Try.isAgg89
  z35 := Try.sizeOf89
  v35 := Try.zeroValue89
  t38 := Try.underlying137
  a38 := Try.isAgg137
  z38 := Try.sizeOf137
  v38 := Try.zeroValue137 }
def Ytpnahhpkaegeeaa.bsearchInt_ren : Go.Shelf.Ren := ⟨fun | 49 => 104 | 59 => 110 | 60 => 111 | 68 => 71 | n => n, fun | 22 => 26 | 23 => 3 | 3 => 3 | 4 => 4 | 51 => 137 | 0 => 0 | n => n, fun | n => n⟩
theorem Ytpnahhpkaegeeaa.bsearchInt : Go.Proofs.SlLaysN.n49 Try.prog Ytpnahhpkaegeeaa.bsearchInt_ren := {
  mixed := by kernel_rfl
  f49 := ⟨Try.f104.name, by decide, Try.func104.trans (congrArg some (by kernel_rfl))⟩
  f59 := ⟨Try.f110.name, by decide, Try.func110.trans (congrArg some (by kernel_rfl))⟩
  f60 := ⟨Try.f111.name, by decide, Try.func111.trans (congrArg some (by kernel_rfl))⟩
  f68 := ⟨Try.f71.name, by decide, Try.func71.trans (congrArg some (by kernel_rfl))⟩
  t0 := Try.underlying0
  a0 := Try.isAgg0
  z0 := Try.sizeOf0
  v0 := Try.zeroValue0
  t3 := Try.underlying3
  a3 := Try.isAgg3
  z3 := Try.sizeOf3
  v3 := Try.zeroValue3
  t4 := Try.underlying4
  a4 := Try.isAgg4
  z4 := Try.sizeOf4
  v4 := Try.zeroValue4
  t22 := Try.underlying26
  a22 := Try.isAgg26
  z22 := Try.sizeOf26
  v22 := Try.zeroValue26
  t23 := Try.underlying3
  a23 := Try.isAgg3
  z23 := Try.sizeOf3
  v23 := Try.zeroValue3
  t51 := Try.underlying137
  a51 := Try.isAgg137
  z51 := Try.sizeOf137
  v51 := Try.zeroValue137 }
end Go.Proofs
