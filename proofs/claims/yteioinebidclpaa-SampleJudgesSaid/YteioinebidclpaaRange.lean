/- Contract of the maker Range. -/
import Derived.Test.YteioinebidclpaaStream0
namespace Go.Proofs.Yteioinebidclpaa
open Go.RowKit

/-- a number from low to high was taken -/
def TookR (low high : Int) (B g k : Nat) (w : World) (e : Ending) (w' : World) : Prop := ∃ r : Int, low ≤ r ∧ r ≤ high ∧ e = .returned (.int .i64 r) ∧ Strm w' B g k ∧ w.grownBy w' (some g)

theorem tookR_of {low high r : Int} {B g k : Nat} {w w' : World} (h1 : low ≤ r) (h2 : r ≤ high) (hs : Strm w' B g k) (hg : w.grownBy w' (some g)) : TookR low high B g k w (.returned (.int .i64 r)) w' := ⟨r, h1, h2, rfl, hs, hg⟩

set_option maxHeartbeats 400000 in
theorem Range_any (low high : Int) (h0 : -1000000000000 ≤ low) (h1 : low ≤ high) (h2 : high ≤ 1000000000000) (B g k : Nat) (hk : k < 1000000000000) (w : World) (hs : Strm w B g k) :
    Calls Try.prog 6 #[.pointer (some ⟨g, 0, none⟩), .int .i64 low, .int .i64 high] w (TookR low high B g (k + 1) w) := by
  go_enter Try.func6, Try.ntmps6
  go_wp2_with fail
  refine (Next_any _ (by omega) (by omega) B g k hk _ hs).mono ?_
  rintro e w' ⟨r, hr1, hr2, rfl, hs1, hg1⟩
  go_wp2_with fail
  go_ret
  exact tookR_of (by omega) (by omega) hs1 hg1

end Go.Proofs.Yteioinebidclpaa
