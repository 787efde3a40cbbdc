/- The right spans that have a given set of numbers. -/
import Derived.Test.YtflilepmhidndaaDoorTog
namespace WM
/-- the right spans that have C -/
noncomputable def canon (C : Int → Prop) : List (Int × Int) := Classical.epsilon fun M => sep M ∧ ∀ i, cov M i ↔ C i
theorem canon_eq {C : Int → Prop} {M : List (Int × Int)} (h1 : sep M) (h2 : ∀ i, cov M i ↔ C i) : M = canon C := by
  have h := Classical.epsilon_spec (p := fun M => sep M ∧ ∀ i, cov M i ↔ C i) ⟨M, h1, h2⟩
  exact sep_uniq h1 h.1 fun i => (h2 i).trans (h.2 i).symm
end WM
namespace Go.Proofs.YtflilepmhidndaaDoor
open Go.RowKit

theorem mix_says {C : Int → Prop} {w : World} {e : Ending} {w' : World} (h : MixSays C w e w') : SpSays (WM.bList (WM.canon C)) (WM.bCode (WM.canon C)) w e w' := by
  obtain ⟨M, h1, h2, h3⟩ := h
  rw [← WM.canon_eq h1 h2]
  exact h3
/-- true is answered; what lay, lies -/
def SaysTr (w : World) (e : Ending) (w' : World) : Prop := e = .returned (.bool true) ∧ Below w.heap.size w w'
end Go.Proofs.YtflilepmhidndaaDoor
