/- Contract of the program's keep. -/
import Derived.Test.YtndeifdpiimbeaaGreatDoorPairs0
namespace Go.Proofs.YtndeifdpiimbeaaGreatDoor
open Go.RowKit

theorem kp_len (A B : List ByteArray) : ∀ i, i ≤ A.length → (WM.kpK A B i).1.length ≤ i := by
  intro i
  induction i with
  | zero => intro _; simp [WM.kpK]
  | succ i ih =>
    intro hi
    have := ih (by omega)
    rcases Classical.em (∃ k, (WM.kpK A B i).2 ≤ k ∧ WM.Fit A B i (WM.kpK A B i).2 k ∧ ∀ q, (WM.kpK A B i).2 ≤ q → q < k → B[q]? ≠ A[i]?) with ⟨k, h1, h2, h3⟩ | h
    · rw [WM.kp_hit (i := i) rfl h1 h2 h3]; simp; omega
    · rw [WM.kp_miss (i := i) rfl (fun k hk hf => h ⟨k, hk, hf⟩)]; exact Nat.le_succ_of_le this
/-- a row of pairs of the call's own is answered -/
def PairsNew (et : TypeId) (L : List (Nat × Nat)) (w : World) (e : Ending) (w' : World) : Prop := ∃ v, e = .returned v ∧ OwnQ et w' w.heap.size v L ∧ Below w.heap.size w w'
end Go.Proofs.YtndeifdpiimbeaaGreatDoor
