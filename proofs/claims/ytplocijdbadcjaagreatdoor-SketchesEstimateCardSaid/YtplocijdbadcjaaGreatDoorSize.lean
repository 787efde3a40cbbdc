/- Contract of the maker Size. -/
import Derived.Test.YtplocijdbadcjaaGreatDoorBlk
import Derived.Test.YtplocijdbadcjaaGreatDoorPick
namespace Go.Proofs.YtplocijdbadcjaaGreatDoor
open Go.RowKit

theorem small_all : ∀ r : Int, [Value.int .i64 1, .int .i64 2, .int .i64 2, .int .i64 3, .int .i64 5, .int .i64 10, .int .i64 r].length = 7 := fun _ => rfl
set_option maxHeartbeats 1000000 in
theorem Size_any (B g k : Nat) (hk : k < 100000000000) (w : World) (hs : Strm w B g k) :
    Calls Tryz.prog 5 #[.pointer (some ⟨g, 0, none⟩)] w (TookN 0 11 B g (k + 2) w) := by
  have hg := hs.lt
  have hP := pick_new 3 [.int .i64 2, .int .i64 0, .int .i64 11] 0 11 3 B g k w hs rfl (by omega) (by omega) (by decide) (by omega)
  go_enter Tryz.func5, Tryz.ntmps5
  go_wp2_with fail
  refine hP.mono ?_
  rintro e w1 ⟨r, hr1, hr2, rfl, ⟨k1, hk1, hs1⟩, hg1⟩
  have hQ := pick_new 7 [.int .i64 1, .int .i64 2, .int .i64 2, .int .i64 3, .int .i64 5, .int .i64 10, .int .i64 r] 0 11 3 B g k1 w1 hs1 rfl (by omega) (by omega) (by simp [intV, hr1, hr2]) (by omega)
  go_wp2_with fail
  refine hQ.mono ?_
  rintro e w2 ⟨z, hz1, hz2, rfl, ⟨k2, hk2, hs2⟩, hg2⟩
  go_wp2_with fail
  go_ret
  exact tookN_of hz1 hz2 hs2 (by omega) (hg1.trans hg2)
end Go.Proofs.YtplocijdbadcjaaGreatDoor
