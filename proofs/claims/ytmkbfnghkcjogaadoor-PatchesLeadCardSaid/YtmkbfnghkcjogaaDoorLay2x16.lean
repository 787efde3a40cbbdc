/- A laying of the shelf by hand. -/
import Derived.Shelf.Lays2
import Derived.Test.YtmkbfnghkcjogaaDoorProg
namespace Go.Proofs
open Go.Shelf
def Tryd.lays_2_16_ren : Go.Shelf.Ren := ⟨fun | 16 => 17 | n => n, fun | 4 => 4 | 9 => 9 | 24 => 38 | n => n, fun n => n⟩
theorem Tryd.lays_2_16 : Go.Proofs.Lays2.n16 Tryd.prog Tryd.lays_2_16_ren := {
  mixed := by kernel_rfl
  f16 := Tryd.func17.trans (congrArg some (by kernel_rfl))
  t4 := Tryd.underlying4
  a4 := Tryd.isAgg4
  z4 := Tryd.sizeOf4
  v4 := Tryd.zeroValue4
  t9 := Tryd.underlying9
  a9 := Tryd.isAgg9
  z9 := Tryd.sizeOf9
  v9 := Tryd.zeroValue9
  t24 := Tryd.underlying38
  a24 := Tryd.isAgg38
  z24 := Tryd.sizeOf38
  v24 := Tryd.zeroValue38
  i9 := by kernel_rfl }
end Go.Proofs
