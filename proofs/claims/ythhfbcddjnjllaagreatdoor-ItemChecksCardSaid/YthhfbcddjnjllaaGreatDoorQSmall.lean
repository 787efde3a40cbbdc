/- Small facts on bytes and the quoted form. -/
import Derived.Test.YthhfbcddjnjllaaGreatDoorQM
import Derived.Test.YthhfbcddjnjllaaGreatDoorSays
import Derived.Test.YthhfbcddjnjllaaGreatDoorBytes
namespace Go.Proofs.YthhfbcddjnjllaaGreatDoor
open Go.RowKit

theorem bool_int {a b : Int} (h : a ≠ b) : (a == b) = false := beq_eq_false_iff_ne.2 h
theorem qb_a {c : UInt8} (h : c = 34 ∨ c = 92) : QM.qb c = [92, c] := by unfold QM.qb; rw [if_pos h]
theorem qb_b {c : UInt8} (h : c = 10) : QM.qb c = [92, 110] := by subst h; decide
theorem qb_c {c : UInt8} (h1 : c ≠ 34) (h2 : c ≠ 92) (h3 : c ≠ 10) (h4 : c.toNat < 33 ∨ 127 ≤ c.toNat) : QM.qb c = [92, 120, QM.hexd (c.toNat / 16), QM.hexd (c.toNat % 16)] := by unfold QM.qb; rw [if_neg (by simp [h1, h2]), if_neg h3, if_pos h4]
theorem qb_d {c : UInt8} (h1 : c ≠ 34) (h2 : c ≠ 92) (h3 : c ≠ 10) (h4 : ¬ (c.toNat < 33 ∨ 127 ≤ c.toNat)) : QM.qb c = [c] := by unfold QM.qb; rw [if_neg (by simp [h1, h2]), if_neg h3, if_neg h4]
theorem u8_eq {c : UInt8} {n : Nat} (hn : n < 256) (h : c = UInt8.ofNat n) : ((c.toNat : Int) == (n : Int)) = true := by subst h; simp; omega
theorem u8_ne {c : UInt8} {n : Nat} (_hn : n < 256) (h : c ≠ UInt8.ofNat n) : ((c.toNat : Int) == (n : Int)) = false := bool_int fun e => h (by rw [← Int.natCast_inj.1 e]; simp)

theorem tmod_nn (n : Nat) : (n : Int).tmod 16 = ((n % 16 : Nat) : Int) := by rw [Int.tmod_eq_emod_of_nonneg (by omega)]; omega
theorem tmod_lt (n : Nat) : (n : Int).tmod 16 < 16 := by rw [tmod_nn]; omega
theorem tmod_nonneg (n : Nat) : 0 ≤ (n : Int).tmod 16 := by rw [tmod_nn]; omega
theorem hex_at : ∀ n : Fin 16, (({ data := #[48, 49, 50, 51, 52, 53, 54, 55, 56, 57, 97, 98, 99, 100, 101, 102] } : ByteArray))[n.val]'(n.isLt) = QM.hexd n.val := by decide +kernel
theorem hex_get (n : Nat) (h : n < 16) : (({ data := #[48, 49, 50, 51, 52, 53, 54, 55, 56, 57, 97, 98, 99, 100, 101, 102] } : ByteArray))[n]'(h) = QM.hexd n := hex_at ⟨n, h⟩
theorem qb_hex {b c : UInt8} (hb : b = c) (hq : QM.qb c = [92, 120, QM.hexd (c.toNat / 16), QM.hexd (c.toNat % 16)]) {h1 : ((c.toNat : Int) / 16).toNat < 16} {h2 : ((c.toNat : Int).tmod 16).toNat < 16} :
    Hid (QM.qb b = [92, 120, (({ data := #[48, 49, 50, 51, 52, 53, 54, 55, 56, 57, 97, 98, 99, 100, 101, 102] } : ByteArray))[((c.toNat : Int) / 16).toNat], (({ data := #[48, 49, 50, 51, 52, 53, 54, 55, 56, 57, 97, 98, 99, 100, 101, 102] } : ByteArray))[((c.toNat : Int).tmod 16).toNat]]) := by
  subst hb
  show QM.qb b = _
  have e1 : ((b.toNat : Int) / 16).toNat = b.toNat / 16 := by omega
  have e2 : ((b.toNat : Int).tmod 16).toNat = b.toNat % 16 := by rw [tmod_nn]; omega
  rw [hq, hex_get _ h1, hex_get _ h2, e1, e2]
end Go.Proofs.YthhfbcddjnjllaaGreatDoor
