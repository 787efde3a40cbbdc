/- A laying of the shelf by hand. -/
import Derived.Shelf.SlLaysQ
import Derived.Test.YtopdpooflihlpaaDoorProg
namespace Go.Proofs
open Go.Shelf
def Tryd.laysEqI_ren : Go.Shelf.Ren := ⟨fun | 8 => 12 | n => n, fun | 0 => 0 | 3 => 3 | 4 => 4 | 22 => 31 | 24 => 39 | n => n, fun n => n⟩
theorem Tryd.laysEqI : Go.Proofs.SlLaysQ.n8 Tryd.prog Tryd.laysEqI_ren := {
  mixed := by kernel_rfl
  f8 := ⟨Tryd.f12.name, by kernel_rfl, Tryd.func12.trans (congrArg some (by kernel_rfl))⟩
  t0 := Tryd.underlying0
  a0 := Tryd.isAgg0
  z0 := Tryd.sizeOf0
  v0 := Tryd.zeroValue0
  t3 := Tryd.underlying3
  a3 := Tryd.isAgg3
  z3 := Tryd.sizeOf3
  v3 := Tryd.zeroValue3
  t4 := Tryd.underlying4
  a4 := Tryd.isAgg4
  z4 := Tryd.sizeOf4
  v4 := Tryd.zeroValue4
  t22 := Tryd.underlying31
  a22 := Tryd.isAgg31
  z22 := Tryd.sizeOf31
  v22 := Tryd.zeroValue31 }
end Go.Proofs
