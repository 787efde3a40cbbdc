/- Numbers of pages: plain mathematics of digits. -/
import Derived.Lib.ItoaNum
namespace NM
open Go.Lib
theorem dig_one {u : Nat} (h : u < 10) : decDigits u = [UInt8.ofNat (48 + u)] := by rw [decDigits, dif_pos h]
theorem dig_more {u : Nat} (h : ¬ u < 10) : decDigits u = decDigits (u / 10) ++ [UInt8.ofNat (48 + u % 10)] := by rw [decDigits, dif_neg h]
/-- the digits of n, at least d of them -/
def pad (d n : Nat) : List UInt8 := List.replicate (d - (decDigits n).length) 48 ++ decDigits n
theorem dig_len : ∀ (d n : Nat), 1 ≤ d → n < 10 ^ d → 1 ≤ (decDigits n).length ∧ (decDigits n).length ≤ d
  | 0, n, h, _ => by omega
  | d + 1, n, _, hn => by
    by_cases h : n < 10
    · rw [dig_one h]; simp
    · rw [dig_more h, List.length_append]
      rw [Nat.pow_succ] at hn
      cases d with
      | zero => simp at hn; omega
      | succ d =>
        have := dig_len (d + 1) (n / 10) (by omega) (by omega)
        simp; omega
theorem pad_len (d n : Nat) (h : 1 ≤ d) (hn : n < 10 ^ d) : (pad d n).length = d := by
  have := dig_len d n h hn
  unfold pad
  rw [List.length_append, List.length_replicate]
  omega
theorem pad_more {d n : Nat} (hd : 1 ≤ d) (hn : n < 10 ^ (d + 1)) : pad (d + 1) n = pad d (n / 10) ++ [UInt8.ofNat (48 + n % 10)] := by
  unfold pad
  by_cases h : n < 10
  · rw [dig_one h, show n / 10 = 0 by omega, dig_one (by omega : 0 < 10), show n % 10 = n by omega]
    simp only [List.length_singleton]
    rw [show d + 1 - 1 = (d - 1) + 1 by omega, List.replicate_succ']
    simp
  · rw [dig_more h]
    simp
theorem dig_pow : ∀ (d n : Nat), 1 ≤ d → n < 10 ^ d → decDigits (10 ^ d + n) = 49 :: pad d n
  | 0, n, h, _ => by omega
  | d + 1, n, _, hn => by
    have h10 : 10 ^ (d + 1) = 10 ^ d * 10 := Nat.pow_succ 10 d
    have hp : 0 < 10 ^ d := Nat.pow_pos (by omega)
    rw [dig_more (by omega), show (10 ^ (d + 1) + n) / 10 = 10 ^ d + n / 10 by omega, show (10 ^ (d + 1) + n) % 10 = n % 10 by omega]
    by_cases hd : d = 0
    · subst hd
      have hn2 : n < 10 := by omega
      rw [show 10 ^ 0 + n / 10 = 1 by rw [Nat.pow_zero]; omega, dig_one (by omega : 1 < 10)]
      unfold pad
      rw [dig_one hn2, show n % 10 = n by omega]
      rfl
    · rw [dig_pow d (n / 10) (by omega) (by omega), pad_more (by omega) hn]
      rfl
end NM
