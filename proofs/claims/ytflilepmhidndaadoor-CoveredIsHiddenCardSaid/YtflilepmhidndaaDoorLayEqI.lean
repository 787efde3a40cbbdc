/- A laying of the shelf by hand. -/
import Derived.Shelf.SlLaysQ
import Derived.Test.YtflilepmhidndaaDoorProg
namespace Go.Proofs
open Go.Shelf
def Tryd.laysEqI_ren : Go.Shelf.Ren := ⟨fun | 8 => 13 | n => n, fun | 0 => 0 | 3 => 3 | 4 => 4 | 22 => 30 | 24 => 38 | n => n, fun n => n⟩
theorem Tryd.laysEqI : Go.Proofs.SlLaysQ.n8 Tryd.prog Tryd.laysEqI_ren := {
  mixed := by kernel_rfl
  f8 := ⟨Tryd.f13.name, by kernel_rfl, Tryd.func13.trans (congrArg some (by kernel_rfl))⟩
  t0 := Tryd.underlying0
  a0 := Tryd.isAgg0
  z0 := Tryd.sizeOf0
  v0 := Tryd.zeroValue0
  t3 := Tryd.underlying3
  a3 := Tryd.isAgg3
  z3 := Tryd.sizeOf3
  v3 := Tryd.zeroValue3
  t4 := Tryd.underlying4
  a4 := Tryd.isAgg4
  z4 := Tryd.sizeOf4
  v4 := Tryd.zeroValue4
  t22 := Tryd.underlying30
  a22 := Tryd.isAgg30
  z22 := Tryd.sizeOf30
  v22 := Tryd.zeroValue30 }
end Go.Proofs
