/- A string as a row of bytes. -/
import Derived.Test.YtcpneokkhjffeaaBlk
namespace Go.Proofs.Ytcpneokkhjffeaa
open Go.RowKit

/-- a string turned into a row of bytes -/
theorem conv_strS (s : ByteArray) (w : World) : ∃ (W : World) (cap : Nat), (convert 9 59 (.string s)).run Try.prog w = .ok (.slice (some ⟨w.heap.size, 0, none⟩) s.size cap) W ∧ Below w.heap.size w W ∧
    (∀ j u, s.data.toList[j]? = some u → W.cell? ⟨w.heap.size, j, none⟩ = some (.int .u8 u.toNat)) := by
  refine ⟨_, _, run_bytes_of_string w 9 59 5 s Try.underlying9 Try.underlying59 Try.underlying5, ((Below.refl _ _).drew).alloc (by simp) _, ?_⟩
  intro j u hj
  have e : (w.drew.alloc (.cells (bytesRow s (grownCap w s.size 0 5)) 5 ((bytesRow s (grownCap w s.size 0 5)).size, (bytesRow s (grownCap w s.size 0 5)).size + 1))).heap[w.heap.size]? = some (.cells (bytesRow s (grownCap w s.size 0 5)) 5 ((bytesRow s (grownCap w s.size 0 5)).size, (bytesRow s (grownCap w s.size 0 5)).size + 1)) := heap_alloc_new w.drew _
  rw [cell_of_row _ _ j _ _ _ e]
  have hlt : j < s.data.toList.length := by
    rcases Nat.lt_or_ge j s.data.toList.length with h | h
    · exact h
    · rw [List.getElem?_eq_none h] at hj; cases hj
  rw [List.getElem?_eq_getElem hlt] at hj
  injection hj with hj
  subst hj
  simp at hlt
  simp [bytesRow, Array.getElem?_append, hlt]
end Go.Proofs.Ytcpneokkhjffeaa
