/- Contract of the reference's in. -/
import Derived.Test.YtcpneokkhjffeaaBlk
namespace Go.Proofs.Ytcpneokkhjffeaa
open Go.RowKit

/-- a bool is answered; only the draws have moved -/
def SaysQ (b : Bool) (w : World) (e : Ending) (w' : World) : Prop := e = .returned (.bool b) ∧ ∃ n, w' = w.drewN n
theorem saysq_of0 {b c : Bool} {w : World} (h : c = b) : SaysQ b w (.returned (.bool c)) w := ⟨by rw [h], 0, rfl⟩
theorem in_all (n lo hi : Int) (b : Bool) (hb : (decide (lo ≤ n) && decide (n ≤ hi)) = b) (w : World) : Calls Try.prog 19 #[.int .i64 n, .int .i64 lo, .int .i64 hi] w (SaysQ b w) := by
  by_cases h1 : lo ≤ n
  · by_cases h2 : n ≤ hi
    · go_enter Try.func19, Try.ntmps19
      go_wp2_with fail
      go_ret
      exact saysq_of0 (by rw [← hb]; simp [h1, h2])
    · go_enter Try.func19, Try.ntmps19
      go_wp2_with fail
      go_ret
      exact saysq_of0 (by rw [← hb]; simp [h1, h2])
  · go_enter Try.func19, Try.ntmps19
    go_wp2_with fail
    go_ret
    exact saysq_of0 (by rw [← hb]; simp; omega)
end Go.Proofs.Ytcpneokkhjffeaa
