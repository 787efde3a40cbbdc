/- Contracts of shape.small and shape.digit. -/
import Derived.Test.YtcpneokkhjffeaaStream0
namespace Go.Proofs.Ytcpneokkhjffeaa
open Go.RowKit

namespace KM
def small (c : UInt8) : Bool := decide (97 ≤ c.toNat) && decide (c.toNat ≤ 122)
def digit (c : UInt8) : Bool := decide (48 ≤ c.toNat) && decide (c.toNat ≤ 57)
end KM

/-- a bool is answered; only the draws have moved -/
def SaysBo (b : Bool) (w : World) (e : Ending) (w' : World) : Prop := e = .returned (.bool b) ∧ ∃ n, w' = w.drewN n
theorem saysb_of {b c : Bool} {w : World} {n : Nat} (h : c = b) : SaysBo b w (.returned (.bool c)) (w.drewN n) := ⟨by rw [h], n, rfl⟩
theorem saysb_of0 {b c : Bool} {w : World} (h : c = b) : SaysBo b w (.returned (.bool c)) w := ⟨by rw [h], 0, rfl⟩

theorem small_any (c : UInt8) (b : Bool) (hb : KM.small c = b) (w : World) : Calls Try.prog 30 #[.int .u8 c.toNat] w (SaysBo b w) := by
  unfold KM.small at hb
  by_cases h1 : 97 ≤ c.toNat
  · by_cases h2 : c.toNat ≤ 122
    · go_enter Try.func30, Try.ntmps30
      go_wp2_with fail
      go_ret
      exact saysb_of0 (by rw [← hb]; simp [h1, h2]; try omega)
    · go_enter Try.func30, Try.ntmps30
      go_wp2_with fail
      go_ret
      exact saysb_of0 (by rw [← hb]; simp [h1, h2]; try omega)
  · go_enter Try.func30, Try.ntmps30
    go_wp2_with fail
    go_ret
    exact saysb_of0 (by rw [← hb]; simp [h1])

theorem digit_any (c : UInt8) (b : Bool) (hb : KM.digit c = b) (w : World) : Calls Try.prog 39 #[.int .u8 c.toNat] w (SaysBo b w) := by
  unfold KM.digit at hb
  by_cases h1 : 48 ≤ c.toNat
  · by_cases h2 : c.toNat ≤ 57
    · go_enter Try.func39, Try.ntmps39
      go_wp2_with fail
      go_ret
      exact saysb_of0 (by rw [← hb]; simp [h1, h2]; try omega)
    · go_enter Try.func39, Try.ntmps39
      go_wp2_with fail
      go_ret
      exact saysb_of0 (by rw [← hb]; simp [h1, h2]; try omega)
  · go_enter Try.func39, Try.ntmps39
    go_wp2_with fail
    go_ret
    exact saysb_of0 (by rw [← hb]; simp [h1])
end Go.Proofs.Ytcpneokkhjffeaa
