/- A laying of the shelf by hand. -/
import Derived.Shelf.Lays2
import Derived.Test.YthgembgincaapaaProg
namespace Go.Proofs
open Go.Shelf
def Try.lays_2_26_ren : Go.Shelf.Ren := ⟨fun | 26 => 50 | 33 => 63 | 34 => 64 | 38 => 80 | n => n, fun | 0 => 0 | 3 => 3 | 4 => 4 | 9 => 9 | 24 => 29 | 40 => 85 | n => n, fun n => n⟩
theorem Try.lays_2_26 : Go.Proofs.Lays2.n26 Try.prog Try.lays_2_26_ren := {
  mixed := by kernel_rfl
  f26 := Try.func50.trans (congrArg some (by kernel_rfl))
  f33 := Try.func63.trans (congrArg some (by kernel_rfl))
  f34 := Try.func64.trans (congrArg some (by kernel_rfl))
  f38 := Try.func80.trans (congrArg some (by kernel_rfl))
  t0 := Try.underlying0
  a0 := Try.isAgg0
  z0 := Try.sizeOf0
  v0 := Try.zeroValue0
  t3 := Try.underlying3
  a3 := Try.isAgg3
  z3 := Try.sizeOf3
  v3 := Try.zeroValue3
  t4 := Try.underlying4
  a4 := Try.isAgg4
  z4 := Try.sizeOf4
  v4 := Try.zeroValue4
  t9 := Try.underlying9
  a9 := Try.isAgg9
  z9 := Try.sizeOf9
  v9 := Try.zeroValue9
  t24 := Try.underlying29
  a24 := Try.isAgg29
  z24 := Try.sizeOf29
  v24 := Try.zeroValue29
  t40 := Try.underlying85
  a40 := Try.isAgg85
  z40 := Try.sizeOf85
  v40 := Try.zeroValue85 }
end Go.Proofs
