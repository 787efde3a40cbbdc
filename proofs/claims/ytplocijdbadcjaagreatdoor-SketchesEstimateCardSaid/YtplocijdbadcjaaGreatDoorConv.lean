/- A string as a row of bytes; internal/strconv.lower. -/
import Derived.Test.YtplocijdbadcjaaGreatDoorSays
import Derived.Test.YtplocijdbadcjaaGreatDoorQM
import Derived.Test.YtplocijdbadcjaaGreatDoorBytes
namespace Go.Proofs.YtplocijdbadcjaaGreatDoor
open Go.RowKit

def lw (c : UInt8) : UInt8 := c ||| 32
theorem lw_bits : ∀ c : UInt8, bits BinOp.or IntKind.u8 (c.toNat : Int) 32 = ((lw c).toNat : Int) := by
  apply QM.all_u8; decide +kernel
set_option maxHeartbeats 400000 in
theorem lowerC_any (c : UInt8) (w : World) :
    Calls Tryz.prog 77 #[.int .u8 c.toNat] w fun e w' => e = .returned (.int .u8 (lw c).toNat) ∧ w = w' := by
  have hb := lw_bits c
  go_enter Tryz.func77, Tryz.ntmps77
  go_wp2
  go_ret
  exact ⟨rfl, rfl⟩

/-- a string turned into a row of bytes -/
theorem conv_str (s : ByteArray) (w : World) : ∃ (W : World) (cap : Nat), (convert 9 85 (.string s)).run Tryz.prog w = .ok (.slice (some ⟨w.heap.size, 0, none⟩) s.size cap) W ∧ Below w.heap.size w W ∧
    (∀ j u, s.data.toList[j]? = some u → W.cell? ⟨w.heap.size, j, none⟩ = some (.int .u8 u.toNat)) := by
  refine ⟨_, _, run_bytes_of_string w 9 85 5 s Tryz.underlying9 Tryz.underlying85 Tryz.underlying5, ((Below.refl _ _).drew).alloc (by simp) _, ?_⟩
  intro j u hj
  have e : (w.drew.alloc (.cells (bytesRow s (grownCap w s.size 0 5)) 5 ((bytesRow s (grownCap w s.size 0 5)).size, (bytesRow s (grownCap w s.size 0 5)).size + 1))).heap[w.heap.size]? = some (.cells (bytesRow s (grownCap w s.size 0 5)) 5 ((bytesRow s (grownCap w s.size 0 5)).size, (bytesRow s (grownCap w s.size 0 5)).size + 1)) := heap_alloc_new w.drew _
  rw [cell_of_row _ _ j _ _ _ e]
  have hlt : j < s.data.toList.length := by
    rcases Nat.lt_or_ge j s.data.toList.length with h | h
    · exact h
    · rw [List.getElem?_eq_none h] at hj; cases hj
  rw [List.getElem?_eq_getElem hlt] at hj
  injection hj with hj
  subst hj
  simp at hlt
  simp [bytesRow, Array.getElem?_append, hlt]

end Go.Proofs.YtplocijdbadcjaaGreatDoor
