/- A strings.Builder of the call's own: WriteByte. -/
import Derived.Test.YtmkbfnghkcjogaaDoorBld
import Derived.Test.YtmkbfnghkcjogaaDoorLay167
namespace Go.Proofs.YtmkbfnghkcjogaaDoor
open Go.RowKit

theorem writeByte_any (B b : Nat) (l : List UInt8) (c : UInt8) (w : World) (h : Bld B b l w) (hl : l.length ≤ 1000000000000) (hB : B ≤ w.heap.size) :
    Calls Tryd.prog 24 #[.pointer (some ⟨b, 0, none⟩), .int .u8 (c.toNat : Nat)] w (Wrote B b (l ++ [c]) w .nilIface) := by
  refine (Any.Builder_WriteByte Tryd.lays167 (Tryd.extra _ rfl rfl) B b (Lib.byteCells l) (c.toNat : Nat) w h (by rw [byteCells_len]; omega) hB).mono ?_
  rintro e w' ⟨rfl, h1, h2⟩
  refine ⟨rfl, .inr ?_, h2⟩
  rw [byteCells_append]
  exact h1
end Go.Proofs.YtmkbfnghkcjogaaDoor
