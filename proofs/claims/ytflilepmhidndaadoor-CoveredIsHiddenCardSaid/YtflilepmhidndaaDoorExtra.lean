/- What the contracts of the Builder ask of the program. -/
import Derived.Shelf.Strings.Builder1
import Derived.Test.YtflilepmhidndaaDoorRows
namespace Go.Proofs
open Go.Shelf
theorem Tryd.extra (ρ : Go.Shelf.Ren) (h5 : ρ.t 5 = 5) (h72 : ρ.t 72 = 66) : Builder.Extra Tryd.prog ρ where
  sizeBuilder := by rw [h72]; kernel_rfl
  liesBuilder := by rw [h72]; kernel_rfl
  t5 := by rw [h5]; exact Tryd.underlying5
  a5 := by rw [h5]; exact Tryd.isAgg5
  z5 := by rw [h5]; exact Tryd.sizeOf5
  v5 := by rw [h5]; exact Tryd.zeroValue5
  infoByte := by rw [h5]; kernel_rfl
  cellsByte := by rw [h5]; kernel_rfl
  sizeByte := by rw [h5]; kernel_rfl
  neB5 := by rw [h5, h72]; decide

end Go.Proofs
