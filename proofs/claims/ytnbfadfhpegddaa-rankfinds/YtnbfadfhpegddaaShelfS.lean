/- The library's generic functions at this program, each laid beside the one that its contract was proved of. -/
import Derived.Shelf.SlSorted.Search
import Derived.Shelf.SlicesG.SearchI
import Derived.Shelf.SlGeneric
import Derived.Test.YtnbfadfhpegddaaChecked
namespace Go.Proofs
open Go.Shelf
def Ytnbfadfhpegddaa.bsearchInt_ren : Go.Shelf.Ren := ⟨fun | 49 => 73 | 59 => 77 | 60 => 78 | 68 => 57 | n => n, fun | 22 => 23 | 23 => 3 | 3 => 3 | 4 => 4 | 51 => 89 | 0 => 0 | n => n, fun | n => n⟩
theorem Ytnbfadfhpegddaa.bsearchInt : Go.Proofs.SlLaysN.n49 Try.prog Ytnbfadfhpegddaa.bsearchInt_ren := {
  mixed := by kernel_rfl
  f49 := ⟨Try.f73.name, by decide, Try.func73.trans (congrArg some (by kernel_rfl))⟩
  f59 := ⟨Try.f77.name, by decide, Try.func77.trans (congrArg some (by kernel_rfl))⟩
  f60 := ⟨Try.f78.name, by decide, Try.func78.trans (congrArg some (by kernel_rfl))⟩
  f68 := ⟨Try.f57.name, by decide, Try.func57.trans (congrArg some (by kernel_rfl))⟩
  t0 := Try.underlying0
  a0 := Try.isAgg0
  z0 := Try.sizeOf0
  v0 := Try.zeroValue0
  t3 := Try.underlying3
  a3 := Try.isAgg3
  z3 := Try.sizeOf3
  v3 := Try.zeroValue3
  t4 := Try.underlying4
  a4 := Try.isAgg4
  z4 := Try.sizeOf4
  v4 := Try.zeroValue4
  t22 := Try.underlying23
  a22 := Try.isAgg23
  z22 := Try.sizeOf23
  v22 := Try.zeroValue23
  t23 := Try.underlying3
  a23 := Try.isAgg3
  z23 := Try.sizeOf3
  v23 := Try.zeroValue3
  t51 := Try.underlying89
  a51 := Try.isAgg89
  z51 := Try.sizeOf89
  v51 := Try.zeroValue89 }
end Go.Proofs
