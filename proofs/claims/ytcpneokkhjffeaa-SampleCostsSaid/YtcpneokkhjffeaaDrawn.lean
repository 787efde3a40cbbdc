/- The laws' check that package sample hashes and counts. -/
import Derived.Test.YtcpneokkhjffeaaMost0
import Derived.Test.YtcpneokkhjffeaaHashP
namespace Go.Proofs.Ytcpneokkhjffeaa
open Go.RowKit

def DrSays (w : World) (e : Ending) (w' : World) : Prop := e = .returned (.bool true) ∧ Below w.heap.size w w'
set_option maxHeartbeats 4000000 in
theorem drawn_any (w : World) : Calls Try.prog 12 #[] w (DrSays w) := by
  have h1 : ∀ W, Calls Try.prog 20 #[.string ⟨#[97]⟩, .string ⟨#[98]⟩] W (TwoSays (SH.hash ⟨#[97]⟩ ⟨#[98]⟩ : Nat) 0 W) := by
    intro W
    have h := HashP_any ⟨#[97]⟩ ⟨#[98]⟩ (by decide) (by decide) W
    have e1 : hashN ⟨#[97]⟩ ⟨#[98]⟩ = SH.hash ⟨#[97]⟩ ⟨#[98]⟩ := by unfold hashN; rw [if_pos (by decide)]
    have e2 : hashC ⟨#[97]⟩ ⟨#[98]⟩ = 0 := by unfold hashC; rw [if_pos (by decide)]
    rw [e1, e2] at h
    exact h
  have h2 := fun W => Most_0 W
  have h3 : ∀ W, Calls Try.prog 22 #[.string ⟨#[97]⟩, .string ⟨#[98]⟩] W (HashSays ⟨#[97]⟩ ⟨#[98]⟩ W) := fun W => HashOf_any ⟨#[97]⟩ ⟨#[98]⟩ (by decide) (by decide) W
  unfold TwoSays at h1
  unfold HashSays at h3
  generalize SH.hash ⟨#[97]⟩ ⟨#[98]⟩ = H at *
  go_enter Try.func12, Try.ntmps12
  go_wp2_with fail
  refine (h1 _).mono ?_
  rintro e w1 ⟨rfl, hb1⟩
  go_wp2_with fail
  refine (h2 _).mono ?_
  rintro e w2 ⟨rfl, hb2⟩
  go_wp2_with fail
  refine (h3 _).mono ?_
  rintro e w3 ⟨rfl, hb3⟩
  go_wp2_with fail
  go_ret
  exact ⟨by first | rfl | simp, (hb1.trans (hb2.mono hb1.size)).trans (hb3.mono (Nat.le_trans hb1.size hb2.size))⟩
end Go.Proofs.Ytcpneokkhjffeaa
