/- sort.Search of the shelf, laid at this program. Conditions: none. -/
import Derived.Shelf.SlSorted.Search
import Derived.Ground.SlsoProg
import Derived.Test.YtmepahlmbopacaaDoorProg
namespace Go.Proofs
open Go.Shelf
def Tryd.search_ren : Go.Shelf.Ren := ⟨fun | 16 => 55 | n => n, fun | 3 => 3 | 35 => 56 | 4 => 4 | 38 => 36 | n => n, fun | n => n⟩
theorem Tryd.search : Go.Proofs.SlLaysO.n16 Tryd.prog Tryd.search_ren := {
  mixed := by kernel_rfl
  f16 := Tryd.func55.trans (congrArg some (by kernel_rfl))
  t3 := Tryd.underlying3
  a3 := Tryd.isAgg3
  z3 := Tryd.sizeOf3
  v3 := Tryd.zeroValue3
  t4 := Tryd.underlying4
  a4 := Tryd.isAgg4
  z4 := Tryd.sizeOf4
  v4 := Tryd.zeroValue4
  t35 := Tryd.underlying56
  a35 := Tryd.isAgg56
  z35 := Tryd.sizeOf56
  v35 := Tryd.zeroValue56
  t38 := Tryd.underlying36
  a38 := Tryd.isAgg36
  z38 := Tryd.sizeOf36
  v38 := Tryd.zeroValue36 }
end Go.Proofs
