/- Contract of the reference's DigestOf. -/
import Derived.Test.YthhfbcddjnjllaaGreatDoorSays
import Derived.Test.YthhfbcddjnjllaaGreatDoorQM
import Derived.Laws.Bits64
namespace Go.Proofs.YthhfbcddjnjllaaGreatDoor
open Go.RowKit

def FnvRel (s : ByteArray) (h i : Value) : Prop := ∃ k H : Nat, k ≤ s.size ∧ i = .int .i64 k ∧ h = .int .u64 H ∧ Hid (H = QM.fnv (s.data.toList.take k))
theorem fnv_ref (h : Nat) (hh : h < 18446744073709551616) (b : UInt8) : (IntKind.u64.wrap
        (IntKind.u64.wrap
            (IntKind.u64.wrap
                (IntKind.u64.wrap
                    (IntKind.u64.wrap
                        (IntKind.u64.wrap
                            (IntKind.u64.wrap
                                (bits BinOp.xor IntKind.u64 (h : Int) (IntKind.u64.wrap (b.toNat : Int)) * 1099511627776) +
                              IntKind.u64.wrap
                                (bits BinOp.xor IntKind.u64 (h : Int) (IntKind.u64.wrap (b.toNat : Int)) * 256)) +
                          IntKind.u64.wrap
                            (bits BinOp.xor IntKind.u64 (h : Int) (IntKind.u64.wrap (b.toNat : Int)) * 128)) +
                      IntKind.u64.wrap (bits BinOp.xor IntKind.u64 (h : Int) (IntKind.u64.wrap (b.toNat : Int)) * 32)) +
                  IntKind.u64.wrap (bits BinOp.xor IntKind.u64 (h : Int) (IntKind.u64.wrap (b.toNat : Int)) * 16)) +
              IntKind.u64.wrap (bits BinOp.xor IntKind.u64 (h : Int) (IntKind.u64.wrap (b.toNat : Int)) * 2)) +
          bits BinOp.xor IntKind.u64 (h : Int) (IntKind.u64.wrap (b.toNat : Int)))) = (QM.fnvStep h b : Int) := by
  have hb : b.toNat < 256 := b.toNat_lt
  have e1 : IntKind.u64.wrap (b.toNat : Int) = (b.toNat : Int) := by rw [IntKind.wrap_u64]; omega
  rw [e1, bits_xor_u64_nat h b.toNat hh (by omega)]
  unfold QM.fnvStep
  generalize h ^^^ b.toNat = X
  simp only [IntKind.wrap_u64]
  omega
theorem fnv_prog (h : Nat) (hh : h < 18446744073709551616) (b : UInt8) : IntKind.u64.wrap (bits BinOp.xor IntKind.u64 (h : Int) (IntKind.u64.wrap (b.toNat : Int)) * 1099511628211) = (QM.fnvStep h b : Int) := by
  have hb : b.toNat < 256 := b.toNat_lt
  have e1 : IntKind.u64.wrap (b.toNat : Int) = (b.toNat : Int) := by rw [IntKind.wrap_u64]; omega
  rw [e1, bits_xor_u64_nat h b.toNat hh (by omega)]
  unfold QM.fnvStep
  generalize h ^^^ b.toNat = X
  simp only [IntKind.wrap_u64]
  omega
theorem fnv_next {s : ByteArray} {k H : Nat} (hlt : k < s.size) (HH : Hid (H = QM.fnv (s.data.toList.take k))) : QM.fnvStep H s[k] = QM.fnv (s.data.toList.take (k + 1)) := by rw [HH.out, take_snoc s k hlt, QM.fnv_snoc]
theorem fnv_hlt {s : ByteArray} {k H : Nat} (HH : Hid (H = QM.fnv (s.data.toList.take k))) : H < 18446744073709551616 := by rw [HH.out]; exact QM.fnv_lt _
def DigRel (h : Nat) (u o i : Value) : Prop := ∃ j U : Nat, j ≤ 16 ∧ i = .int .i64 j ∧ u = .int .u64 U ∧ Hid (U = h / 16 ^ j) ∧ o = .string ⟨(QM.hexN j h).toArray⟩

theorem hex_one : ∀ n : Fin 16, ({ data := #[48, 49, 50, 51, 52, 53, 54, 55, 56, 57, 97, 98, 99, 100, 101, 102] } : ByteArray).extract n.val (n.val + 1) = ⟨[QM.hexd n.val].toArray⟩ := by decide +kernel
theorem dig_next {H U j : Nat} (hj : j < 16) (HU : Hid (U = H / 16 ^ j)) (hH : H < 18446744073709551616) :
    DigRel H (.int .u64 (IntKind.u64.wrap ((U : Int) / 16))) (.string (({ data := #[48, 49, 50, 51, 52, 53, 54, 55, 56, 57, 97, 98, 99, 100, 101, 102] } : ByteArray).extract (U % 16) (U % 16 + 1) ++ { data := (QM.hexN j H).toArray })) (.int .i64 ((j : Int) + 1)) := by
  have hU : U ≤ H := by rw [HU.out]; exact Nat.div_le_self _ _
  refine ⟨j + 1, U / 16, by omega, rfl, congrArg (Value.int .u64) ?_, ?_, congrArg Value.string ?_⟩
  · rw [IntKind.wrap_u64]; omega
  · show _ = _
    rw [HU.out, Nat.div_div_eq_div_mul, Nat.pow_succ]
  · rw [hex_one ⟨U % 16, Nat.mod_lt _ (by omega)⟩, QM.hexN_cons, ← HU.out]
    apply ByteArray.ext
    simp

set_option maxRecDepth 100000 in
set_option maxHeartbeats 2000000 in
theorem DigestOf_any (s : ByteArray) (hs : s.size ≤ 1000000000) (w : World) :
    Calls Tryz.prog 82 #[.string s] w (SaysS (QM.digest s.data.toList) w) := by
  go_enter Tryz.func82, Tryz.ntmps82
  go_wp2_with fail
  go_loop [3, 8] (fun h i => FnvRel s h i) (fun _ i => s.size - (intOf i).toNat)
  case atStart => exact ⟨0, 14695981039346656037, by omega, rfl, rfl, by show _ = _; rw [List.take_zero, QM.fnv_nil]⟩
  case round =>
    obtain ⟨k, H, hk, rfl, rfl, HH⟩ := hrel
    by_cases hlt : k < s.size
    · go_wp2_with fail
      refine ⟨⟨k + 1, _, by omega, rfl, congrArg (Value.int .u64) (fnv_ref H (fnv_hlt HH) _), fnv_next hlt HH⟩, by simp [intOf]; omega⟩
    · have HF : Hid (H = QM.fnv s.data.toList) := by show _ = _; rw [HH.out, List.take_of_length_le (by simp; omega)]
      clear HH
      go_wp2_with fail
      go_loop [3, 5, 37] (fun u o i => DigRel H u o i) (fun _ _ i => 16 - (intOf i).toNat)
      case atStart => exact ⟨0, H, by omega, rfl, rfl, by show _ = _; simp, rfl⟩
      case round =>
        obtain ⟨j, U, hj, rfl, rfl, HU, rfl⟩ := hrel
        by_cases hl2 : j < 16
        · have hxl : (QM.hexN j H).length ≤ 16 := by rw [QM.hexN_len]; exact hj
          go_wp2_with fail
          exact ⟨dig_next hl2 HU (by rw [HF.out]; exact QM.fnv_lt _), by simp [intOf]; omega⟩
        · have hj16 : j = 16 := by omega
          go_wp2_with fail
          go_ret
          subst hj16
          exact says_of0 (by rw [HF.out]; rfl)
end Go.Proofs.YthhfbcddjnjllaaGreatDoor
