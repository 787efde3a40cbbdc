/- A strings.Builder of the call's own: WriteByte. -/
import Derived.Test.YtndeifdpiimbeaaGreatDoorBld
import Derived.Test.YtndeifdpiimbeaaGreatDoorLays
namespace Go.Proofs.YtndeifdpiimbeaaGreatDoor
open Go.RowKit

theorem writeByte_any (B b : Nat) (l : List UInt8) (c : UInt8) (w : World) (h : Bld B b l w) (hl : l.length ≤ 1000000000000) (hB : B ≤ w.heap.size) :
    Calls Tryz.prog 42 #[.pointer (some ⟨b, 0, none⟩), .int .u8 (c.toNat : Nat)] w (Wrote B b (l ++ [c]) w .nilIface) := by
  refine (Any.Builder_WriteByte Tryz.lays167 (Tryz.extra _ rfl rfl) B b (Lib.byteCells l) (c.toNat : Nat) w h (by rw [byteCells_len]; omega) hB).mono ?_
  rintro e w' ⟨rfl, h1, h2⟩
  refine ⟨rfl, .inr ?_, h2⟩
  rw [byteCells_append]
  exact h1
end Go.Proofs.YtndeifdpiimbeaaGreatDoor
