/- The hash of a string, byte by byte. -/
import Derived.Test.YtplocijdbadcjaaGreatDoorSays
import Derived.Test.YtplocijdbadcjaaGreatDoorQM
import Derived.Laws.Bits64
namespace Go.Proofs.YtplocijdbadcjaaGreatDoor
open Go.RowKit

def FnvRel (s : ByteArray) (h i : Value) : Prop := ∃ k H : Nat, k ≤ s.size ∧ i = .int .i64 k ∧ h = .int .u64 H ∧ Hid (H = QM.fnv (s.data.toList.take k))
theorem fnv_ref (h : Nat) (hh : h < 18446744073709551616) (b : UInt8) : (IntKind.u64.wrap
        (IntKind.u64.wrap
            (IntKind.u64.wrap
                (IntKind.u64.wrap
                    (IntKind.u64.wrap
                        (IntKind.u64.wrap
                            (IntKind.u64.wrap
                                (bits BinOp.xor IntKind.u64 (h : Int) (IntKind.u64.wrap (b.toNat : Int)) * 1099511627776) +
                              IntKind.u64.wrap
                                (bits BinOp.xor IntKind.u64 (h : Int) (IntKind.u64.wrap (b.toNat : Int)) * 256)) +
                          IntKind.u64.wrap
                            (bits BinOp.xor IntKind.u64 (h : Int) (IntKind.u64.wrap (b.toNat : Int)) * 128)) +
                      IntKind.u64.wrap (bits BinOp.xor IntKind.u64 (h : Int) (IntKind.u64.wrap (b.toNat : Int)) * 32)) +
                  IntKind.u64.wrap (bits BinOp.xor IntKind.u64 (h : Int) (IntKind.u64.wrap (b.toNat : Int)) * 16)) +
              IntKind.u64.wrap (bits BinOp.xor IntKind.u64 (h : Int) (IntKind.u64.wrap (b.toNat : Int)) * 2)) +
          bits BinOp.xor IntKind.u64 (h : Int) (IntKind.u64.wrap (b.toNat : Int)))) = (QM.fnvStep h b : Int) := by
  have hb : b.toNat < 256 := b.toNat_lt
  have e1 : IntKind.u64.wrap (b.toNat : Int) = (b.toNat : Int) := by rw [IntKind.wrap_u64]; omega
  rw [e1, bits_xor_u64_nat h b.toNat hh (by omega)]
  unfold QM.fnvStep
  generalize h ^^^ b.toNat = X
  simp only [IntKind.wrap_u64]
  omega
theorem fnv_prog (h : Nat) (hh : h < 18446744073709551616) (b : UInt8) : IntKind.u64.wrap (bits BinOp.xor IntKind.u64 (h : Int) (IntKind.u64.wrap (b.toNat : Int)) * 1099511628211) = (QM.fnvStep h b : Int) := by
  have hb : b.toNat < 256 := b.toNat_lt
  have e1 : IntKind.u64.wrap (b.toNat : Int) = (b.toNat : Int) := by rw [IntKind.wrap_u64]; omega
  rw [e1, bits_xor_u64_nat h b.toNat hh (by omega)]
  unfold QM.fnvStep
  generalize h ^^^ b.toNat = X
  simp only [IntKind.wrap_u64]
  omega
theorem fnv_next {s : ByteArray} {k H : Nat} (hlt : k < s.size) (HH : Hid (H = QM.fnv (s.data.toList.take k))) : QM.fnvStep H s[k] = QM.fnv (s.data.toList.take (k + 1)) := by rw [HH.out, take_snoc s k hlt, QM.fnv_snoc]
theorem fnv_hlt {s : ByteArray} {k H : Nat} (HH : Hid (H = QM.fnv (s.data.toList.take k))) : H < 18446744073709551616 := by rw [HH.out]; exact QM.fnv_lt _
end Go.Proofs.YtplocijdbadcjaaGreatDoor
