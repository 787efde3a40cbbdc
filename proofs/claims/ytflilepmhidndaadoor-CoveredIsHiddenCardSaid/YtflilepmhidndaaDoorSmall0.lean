/- Contract of shape.Small. -/
import Derived.Test.YtflilepmhidndaaDoorStream0
import Derived.Test.YtflilepmhidndaaDoorWM
import Derived.Laws.BytesArg
import Derived.Below
import Derived.Lib.Hide
namespace Go.Proofs.YtflilepmhidndaaDoor
open Go.RowKit

/-- block g holds the bytes of s; the first k of them are small -/
def SmRow (w : World) (g : Nat) (s : ByteArray) (k : Nat) : Prop := ∀ j u, s.data.toList[j]? = some u → w.cell? ⟨g, j, none⟩ = some (.int .u8 (if j < k then WM.smallB u else u).toNat) ∧ w.frozen? ⟨g, j, none⟩ = false
theorem conv_row (s : ByteArray) (w : World) : ∃ (W : World) (cap : Nat), (convert 9 49 (.string s)).run Tryd.prog w = .ok (.slice (some ⟨w.heap.size, 0, none⟩) s.size cap) W ∧ Below w.heap.size w W ∧ w.heap.size < W.heap.size ∧ SmRow W w.heap.size s 0 := by
  refine ⟨_, _, run_bytes_of_string w 9 49 5 s Tryd.underlying9 Tryd.underlying49 Tryd.underlying5, ((Below.refl _ _).drew).alloc (by simp) _, by simp, ?_⟩
  intro j u hj
  have e : (w.drew.alloc (.cells (bytesRow s (grownCap w s.size 0 5)) 5 ((bytesRow s (grownCap w s.size 0 5)).size, (bytesRow s (grownCap w s.size 0 5)).size + 1))).heap[w.heap.size]? = some (.cells (bytesRow s (grownCap w s.size 0 5)) 5 ((bytesRow s (grownCap w s.size 0 5)).size, (bytesRow s (grownCap w s.size 0 5)).size + 1)) := heap_alloc_new w.drew _
  have hlt : j < s.data.toList.length := by
    rcases Nat.lt_or_ge j s.data.toList.length with h | h
    · exact h
    · rw [List.getElem?_eq_none h] at hj; cases hj
  rw [List.getElem?_eq_getElem hlt] at hj
  injection hj with hj
  subst hj
  simp at hlt
  have hlt' : j < s.data.size := by simpa using hlt
  refine ⟨?_, ?_⟩
  · rw [cell_of_row _ _ j _ _ _ e]
    simp [bytesRow, Array.getElem?_append, hlt]
  · have hm := World.frozen?_alloc_mark w.drew (bytesRow s (grownCap w s.size 0 5)) 5 (bytesRow s (grownCap w s.size 0 5)).size ((bytesRow s (grownCap w s.size 0 5)).size + 1) j
    have hsz : j < (bytesRow s (grownCap w s.size 0 5)).size := by simp [bytesRow]; omega
    refine hm.trans ?_
    simp; omega
theorem SmRow.drew {w : World} {g : Nat} {s : ByteArray} {k : Nat} (h : SmRow w g s k) : SmRow w.drew g s k := h
theorem SmRow.drewN {w : World} {g : Nat} {s : ByteArray} {k : Nat} (h : SmRow w g s k) (n : Nat) : SmRow (w.drewN n) g s k := h
theorem SmRow.yes {w : World} {g : Nat} {s : ByteArray} {k : Nat} {u : UInt8} (h : SmRow w g s k) (hu : s.data.toList[k]? = some u) {z : Int} (hz : z = ((WM.smallB u).toNat : Nat)) : SmRow (w.setCell ⟨g, k, none⟩ (.int .u8 z)) g s (k + 1) := by
  intro j v hj
  obtain ⟨h1, h2⟩ := h j v hj
  refine ⟨?_, by rw [World.frozen?_setCell]; exact h2⟩
  by_cases e : j = k
  · subst e
    rw [hu] at hj; injection hj with hj; subst hj
    rw [World.cell?_setCell_same w _ _ h1, if_pos (by omega), hz]
  · rw [World.cell?_setCell_other w _ _ _ (by simp), h1]
    congr 2
    by_cases hjk : j < k
    · rw [if_pos hjk, if_pos (by omega)]
    · rw [if_neg hjk, if_neg (by omega)]
theorem SmRow.no {w : World} {g : Nat} {s : ByteArray} {k : Nat} {u : UInt8} (h : SmRow w g s k) (hu : s.data.toList[k]? = some u) (hz : WM.smallB u = u) : SmRow w g s (k + 1) := by
  intro j v hj
  obtain ⟨h1, h2⟩ := h j v hj
  refine ⟨?_, h2⟩
  by_cases e : j = k
  · subst e
    rw [hu] at hj; injection hj with hj; subst hj
    rw [h1, if_neg (by omega), if_pos (by omega), hz]
  · rw [h1]
    congr 2
    by_cases hjk : j < k
    · rw [if_pos hjk, if_pos (by omega)]
    · rw [if_neg hjk, if_neg (by omega)]
theorem SmRow.str {w : World} {g : Nat} {s : ByteArray} (h : SmRow w g s s.size) (cap : Nat) : (convert 49 9 (.slice (some ⟨g, 0, none⟩) s.size cap)).run Tryd.prog w = .ok (.string (WM.small s)) w := by
  have e : WM.small s = strOfNums ((WM.small s).data.toList.map fun b => (b.toNat : Int)) := by simp [strOfNums, Function.comp_def]
  rw [e]
  have hl : (WM.small s).data.toList = s.data.toList.map WM.smallB := by show (s.data.map WM.smallB).toList = _; simp
  have hlen : s.data.toList.length = s.size := by simp
  refine run_convert_bytes_arg w 49 5 Tryd.underlying49 Tryd.underlying5 g 0 s.size cap _ (by rw [hl]; simp) (fun i hi => ?_) 9 Tryd.underlying9
  have hi' : i < s.data.toList.length := by omega
  obtain ⟨h1, _⟩ := h i _ (List.getElem?_eq_getElem hi')
  rw [Nat.zero_add, h1, if_pos hi, hl, List.getD_eq_getElem?_getD, List.map_map, List.getElem?_map, List.getElem?_eq_getElem hi']
  rfl
theorem small_up : ∀ u : UInt8, 65 ≤ u.toNat → u.toNat ≤ 90 → ((u.toNat : Int) - 65 + 97 = ((WM.smallB u).toNat : Nat)) := by apply WM.all_u8; decide +kernel
theorem small_same (u : UInt8) (h : ¬ (65 ≤ u.toNat ∧ u.toNat ≤ 90)) : WM.smallB u = u := by unfold WM.smallB; rw [if_neg h]

end Go.Proofs.YtflilepmhidndaaDoor
