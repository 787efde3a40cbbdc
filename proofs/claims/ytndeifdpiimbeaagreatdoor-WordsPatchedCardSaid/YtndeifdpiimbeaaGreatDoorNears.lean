/- Contract of the law's nears. -/
import Derived.Test.YtndeifdpiimbeaaGreatDoorShing
namespace Go.Proofs.YtndeifdpiimbeaaGreatDoor
open Go.RowKit

set_option maxHeartbeats 1000000 in
theorem nears_any (w : World) : Calls Tryz.prog 10 #[] w (SaysT w) := by
  have hS : Calls Tryz.prog 26 #[.string ⟨#[97, 32, 98, 32, 99]⟩, .int .i64 2] w (ShSays [⟨#[97, 32, 98]⟩, ⟨#[98, 32, 99]⟩] 0 w) := by
    have := Shingles_ok ⟨#[97, 32, 98, 32, 99]⟩ (by decide) 2 (by omega) (by omega) (by rw [abc_words]; decide) w
    rwa [abc_shing] at this
  go_enter Tryz.func10, Tryz.ntmps10
  go_wp2_with fail
  refine hS.mono ?_
  rintro e w2 ⟨v, rfl, hown, hb⟩
  clear hS
  have hE := EqualS_any (hown.alloc _) (OwnS.made w2 [⟨#[97, 32, 98]⟩, ⟨#[98, 32, 99]⟩] (by unfold maxLen; decide)) true (by decide)
  clear hown
  go_wp2_with fail
  refine (hE).mono ?_
  rintro e w3 ⟨rfl, n, rfl⟩
  go_wp2_with fail
  go_ret
  exact ⟨rfl, below_drewN (hb.alloc hb.size _) n⟩
end Go.Proofs.YtndeifdpiimbeaaGreatDoor
