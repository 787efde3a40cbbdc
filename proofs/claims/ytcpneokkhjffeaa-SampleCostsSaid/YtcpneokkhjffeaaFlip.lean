/- Contract of the maker Flip. -/
import Derived.Test.YtcpneokkhjffeaaStream0
namespace Go.Proofs.Ytcpneokkhjffeaa
open Go.RowKit

/-- yes or no -/
def TookB (B g k : Nat) (w : World) (e : Ending) (w' : World) : Prop := ∃ b : Bool, e = .returned (.bool b) ∧ Strm w' B g k ∧ w.grownBy w' (some g)
theorem tookB_of {b : Bool} {B g k : Nat} {w w' : World} (hs : Strm w' B g k) (hg : w.grownBy w' (some g)) : TookB B g k w (.returned (.bool b)) w' := ⟨b, rfl, hs, hg⟩
set_option maxHeartbeats 400000 in
theorem Flip_any (n : Int) (h1 : 1 ≤ n) (h2 : n ≤ 9223372036854775807) (B g k : Nat) (hk : k < 1000000000000) (w : World) (hs : Strm w B g k) :
    Calls Try.prog 6 #[.pointer (some ⟨g, 0, none⟩), .int .i64 n] w (TookB B g (k + 1) w) := by
  go_enter Try.func6, Try.ntmps6
  go_wp2_with fail
  refine (Next_any _ h1 h2 B g k hk _ hs).mono ?_
  rintro e w' ⟨r, hr1, hr2, rfl, hs1, hg1⟩
  go_wp2_with fail
  go_ret
  exact tookB_of hs1 hg1
end Go.Proofs.Ytcpneokkhjffeaa
