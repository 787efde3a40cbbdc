/- What a function that answers a string says. -/
import Derived.Test.YtplocijdbadcjaaGreatDoorStream0
namespace Go.Proofs.YtplocijdbadcjaaGreatDoor
open Go.RowKit

/-- a string is answered; nothing turns but draws -/
def SaysS (l : List UInt8) (w : World) (e : Ending) (w' : World) : Prop := e = .returned (.string ⟨l.toArray⟩) ∧ ∃ n, w' = w.drewN n

theorem says_of {l : List UInt8} {s : ByteArray} {w : World} {n : Nat} (h : s = ⟨l.toArray⟩) : SaysS l w (.returned (.string s)) (w.drewN n) := ⟨by rw [h], n, rfl⟩
theorem says_of0 {l : List UInt8} {s : ByteArray} {w : World} (h : s = ⟨l.toArray⟩) : SaysS l w (.returned (.string s)) w := ⟨by rw [h], 0, rfl⟩
/-- a string is answered; what was there has not turned -/
def SaysB (l : List UInt8) (w : World) (e : Ending) (w' : World) : Prop := e = .returned (.string ⟨l.toArray⟩) ∧ Below w.heap.size w w'
theorem take_snoc (s : ByteArray) (k : Nat) (h : k < s.size) : s.data.toList.take (k + 1) = s.data.toList.take k ++ [s[k]] := by
  rw [List.take_succ_eq_append_getElem (by simpa using h)]; rfl
end Go.Proofs.YtplocijdbadcjaaGreatDoor
