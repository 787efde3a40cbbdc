/- Contracts of quoteByte, Quote and the reference's Quoted. -/
import Derived.Test.YthhfbcddjnjllaaGreatDoorStream
import Derived.Test.YthhfbcddjnjllaaGreatDoorQM
import Derived.Test.YthhfbcddjnjllaaGreatDoorSays
import Derived.Test.YthhfbcddjnjllaaGreatDoorQSmall
namespace Go.Proofs.YthhfbcddjnjllaaGreatDoor
open Go.RowKit

theorem hex_cut : ∀ c : UInt8, (({ data := #[92, 120] } : ByteArray) ++ ({ data := #[48, 49, 50, 51, 52, 53, 54, 55, 56, 57, 97, 98, 99, 100, 101, 102] } : ByteArray).extract (c.toNat / 16) (c.toNat / 16 + 1) ++
    ({ data := #[48, 49, 50, 51, 52, 53, 54, 55, 56, 57, 97, 98, 99, 100, 101, 102] } : ByteArray).extract (c.toNat % 16) (c.toNat % 16 + 1)) = ⟨[92, 120, QM.hexd (c.toNat / 16), QM.hexd (c.toNat % 16)].toArray⟩ := by
  apply QM.all_u8; decide +kernel
theorem encode_small : ∀ c : UInt8, c.toNat < 128 → Utf8.encode (c.toNat : Int) = ⟨[c].toArray⟩ := by
  apply QM.all_u8; decide +kernel

set_option maxRecDepth 100000 in
set_option maxHeartbeats 1000000 in
theorem quoteByte_any (c : UInt8) (w : World) :
    Calls Tryz.prog 192 #[.int .u8 c.toNat] w (SaysS (QM.qb c) w) := by
  have hu := encode_size_le (wrap32 c.toNat)
  by_cases h1 : c = 34
  · subst h1
    go_enter Tryz.func192, Tryz.ntmps192
    go_wp2
    go_ret
    exact says_of0 (by decide +kernel)
  by_cases h2 : c = 92
  · subst h2
    go_enter Tryz.func192, Tryz.ntmps192
    go_wp2
    go_ret
    exact says_of0 (by decide +kernel)
  by_cases h3 : c = 10
  · subst h3
    go_enter Tryz.func192, Tryz.ntmps192
    go_wp2
    go_ret
    exact says_of0 (by decide +kernel)
  have hne : ∀ d : UInt8, c ≠ d → c.toNat ≠ d.toNat := fun d h e => h (UInt8.toNat_inj.1 e)
  have h1' : ((c.toNat : Int) == 34) = false := bool_int (by have := hne 34 h1; simp at this; omega)
  have h2' : ((c.toNat : Int) == 92) = false := bool_int (by have := hne 92 h2; simp at this; omega)
  have h3' : ((c.toNat : Int) == 10) = false := bool_int (by have := hne 10 h3; simp at this; omega)
  have hc : (c.toNat : Int) ≤ 255 := by have := UInt8.toNat_lt c; omega
  clear hne
  by_cases h4 : c.toNat < 33 ∨ 127 ≤ c.toNat
  · have e : QM.qb c = [92, 120, QM.hexd (c.toNat / 16), QM.hexd (c.toNat % 16)] := by unfold QM.qb; rw [if_neg (by simp [h1, h2]), if_neg h3, if_pos h4]
    rw [e]
    clear e h1 h2 h3
    have hx := Lib.hid (hex_cut c)
    rcases h4 with h4 | h4
    · go_enter Tryz.func192, Tryz.ntmps192
      go_wp2
      go_quiet (fail)
      go_wp2
      go_ret
      exact says_of hx.out
    · have h5 : ¬ c.toNat < 33 := by omega
      go_enter Tryz.func192, Tryz.ntmps192
      go_wp2
      go_quiet (fail)
      go_wp2
      go_ret
      exact says_of hx.out
  · have e : QM.qb c = [c] := by unfold QM.qb; rw [if_neg (by simp [h1, h2]), if_neg h3, if_neg h4]
    rw [e]
    clear e h1 h2 h3
    have h5 : 33 ≤ c.toNat := by omega
    have h6 : c.toNat < 127 := by omega
    clear h4 hc
    go_enter Tryz.func192, Tryz.ntmps192
    go_wp2
    go_ret
    exact says_of0 (encode_small c (by omega))
end Go.Proofs.YthhfbcddjnjllaaGreatDoor
