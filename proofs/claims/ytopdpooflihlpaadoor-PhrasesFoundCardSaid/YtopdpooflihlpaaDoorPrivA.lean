/- privileges reports true: Redact at one string. -/
import Derived.Test.YtopdpooflihlpaaDoorSpCheck
namespace Go.Proofs.YtopdpooflihlpaaDoor
open Go.RowKit

set_option maxHeartbeats 1000000 in
set_option maxRecDepth 100000 in
theorem valid_ab (w : World) : Calls Tryd.prog 59 #[.string ⟨#[97, 98, 10]⟩] w fun e w' => e = .returned (.bool true) ∧ w = w' := by
  go_enter Tryd.func59, Tryd.ntmps59
  go_wp2_with fail
  refine wp_loop_rounds 4 ?_
  rw [rounds_succ]
  go_wp2_with fail
  rw [rounds_succ]
  go_wp2_with fail
  rw [rounds_succ]
  go_wp2_with fail
  rw [rounds_succ]
  go_wp2_with fail
  go_ret
  exact ⟨rfl, rfl⟩
theorem suffix_ab (w : World) : Calls Tryd.prog 58 #[.string ⟨#[97, 98, 10]⟩, .string ⟨#[10]⟩] w fun e w' => e = .returned (.bool true) ∧ w = w' := by
  have hq : (((⟨#[97, 98, 10]⟩ : ByteArray).extract 2 3).toList == [10]) = true := by kernel_rfl
  go_enter Tryd.func58, Tryd.ntmps58
  go_wp2_with fail
  go_ret
  exact ⟨rfl, rfl⟩
theorem hasSuffix_ab (w : World) : Calls Tryd.prog 47 #[.string ⟨#[97, 98, 10]⟩, .string ⟨#[10]⟩] w fun e w' => e = .returned (.bool true) ∧ w = w' := by
  go_enter Tryd.func47, Tryd.ntmps47
  go_wp2_with fail
  refine (suffix_ab _).mono ?_
  rintro e w' ⟨rfl, rfl⟩
  go_wp2_with fail
  go_ret
  exact ⟨rfl, rfl⟩
set_option maxHeartbeats 1000000 in
theorem printed_ab (w : World) : Calls Tryd.prog 48 #[.string ⟨#[97, 98, 10]⟩] w fun e w' => e = .returned (.bool true) ∧ w = w' := by
  go_enter Tryd.func48, Tryd.ntmps48
  go_wp2_with fail
  refine wp_loop_rounds 4 ?_
  rw [rounds_succ]
  go_wp2_with fail
  rw [rounds_succ]
  go_wp2_with fail
  rw [rounds_succ]
  go_wp2_with fail
  rw [rounds_succ]
  go_wp2_with fail
  refine (valid_ab _).mono ?_
  rintro e w' ⟨rfl, rfl⟩
  go_wp2_with fail
  go_ret
  exact ⟨rfl, rfl⟩
end Go.Proofs.YtopdpooflihlpaaDoor
