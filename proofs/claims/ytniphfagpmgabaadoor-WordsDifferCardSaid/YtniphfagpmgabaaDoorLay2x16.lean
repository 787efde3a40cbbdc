/- A laying of the shelf by hand. -/
import Derived.Shelf.Lays2
import Derived.Test.YtniphfagpmgabaaDoorProg
namespace Go.Proofs
open Go.Shelf
def Tryd.lays_2_16_ren : Go.Shelf.Ren := ⟨fun | 16 => 20 | n => n, fun | 4 => 4 | 9 => 9 | 24 => 45 | n => n, fun n => n⟩
theorem Tryd.lays_2_16 : Go.Proofs.Lays2.n16 Tryd.prog Tryd.lays_2_16_ren := {
  mixed := by kernel_rfl
  f16 := Tryd.func20.trans (congrArg some (by kernel_rfl))
  t4 := Tryd.underlying4
  a4 := Tryd.isAgg4
  z4 := Tryd.sizeOf4
  v4 := Tryd.zeroValue4
  t9 := Tryd.underlying9
  a9 := Tryd.isAgg9
  z9 := Tryd.sizeOf9
  v9 := Tryd.zeroValue9
  t24 := Tryd.underlying45
  a24 := Tryd.isAgg45
  z24 := Tryd.sizeOf45
  v24 := Tryd.zeroValue45
  i9 := by kernel_rfl }
end Go.Proofs
