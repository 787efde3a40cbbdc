/- A laying of the shelf by hand. -/
import Derived.Shelf.Lays2
import Derived.Test.YthgembgincaapaaProg
namespace Go.Proofs
open Go.Shelf
def Try.lays_2_16_ren : Go.Shelf.Ren := ⟨fun | 16 => 49 | n => n, fun | 4 => 4 | 9 => 9 | 24 => 29 | n => n, fun n => n⟩
theorem Try.lays_2_16 : Go.Proofs.Lays2.n16 Try.prog Try.lays_2_16_ren := {
  mixed := by kernel_rfl
  f16 := Try.func49.trans (congrArg some (by kernel_rfl))
  t4 := Try.underlying4
  a4 := Try.isAgg4
  z4 := Try.sizeOf4
  v4 := Try.zeroValue4
  t9 := Try.underlying9
  a9 := Try.isAgg9
  z9 := Try.sizeOf9
  v9 := Try.zeroValue9
  t24 := Try.underlying29
  a24 := Try.isAgg29
  z24 := Try.sizeOf29
  v24 := Try.zeroValue29
  i9 := by kernel_rfl }
end Go.Proofs
