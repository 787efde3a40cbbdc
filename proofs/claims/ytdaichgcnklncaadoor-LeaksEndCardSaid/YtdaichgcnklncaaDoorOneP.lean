/- The maker h06one: its answer has what all its strings have. -/
import Derived.Test.YtdaichgcnklncaaDoorTook0
namespace Go.Proofs.YtdaichgcnklncaaDoor
open Go.RowKit

def TookP (P : ByteArray → Prop) (B g k : Nat) (w : World) (e : Ending) (w' : World) : Prop := ∃ s : ByteArray, P s ∧ e = .returned (.string s) ∧ (∃ k', k' ≤ k ∧ Strm w' B g k') ∧ w.grownBy w' (some g)
theorem tookP_of {P : ByteArray → Prop} {B g k k' : Nat} {s : ByteArray} {w w' : World} (hm : P s) (hs : Strm w' B g k') (hk : k' ≤ k) (hg : w.grownBy w' (some g)) : TookP P B g k w (.returned (.string s)) w' := ⟨s, hm, rfl, ⟨k', hk, hs⟩, hg⟩
def allP (P : ByteArray → Prop) (cs : List Value) : Prop := ∀ v, v ∈ cs → ∃ u : ByteArray, v = .string u ∧ P u
set_option maxHeartbeats 400000 in
theorem oneP_any (n : Nat) (cs : List Value) (P : ByteArray → Prop) (b : Nat) (t : TypeId) (B g k : Nat) (w : World) (hs : Strm w B g k) (hb : w.heap[b]? = some (.cells cs.toArray t (0, 0))) (hn : cs.length = n) (h0 : 0 < n) (h1 : n ≤ 1000000) (hcs : allP P cs) (hk : k < 1000000000000) (hne : b ≠ g) :
    Calls Tryd.prog 13 #[.pointer (some ⟨g, 0, none⟩), .slice (some ⟨b, 0, none⟩) n n] w (TookP P B g (k + 1) w) := by
  have hbl : b < w.heap.size := by
    rcases Nat.lt_or_ge b w.heap.size with hlt | hge
    · exact hlt
    · rw [Array.getElem?_eq_none hge] at hb; cases hb
  have Hb := Lib.hid hb
  have HC := Lib.hid hcs
  have HN := Lib.hid hn
  clear hb hcs hn
  go_enter Tryd.func13, Tryd.ntmps13
  go_wp2_with fail
  refine (Next_any _ (by omega) (by omega) B g k hk _ hs).mono ?_
  rintro e w' ⟨r, hr1, hr2, rfl, hs1, hg1⟩
  obtain ⟨i, rfl⟩ := Int.eq_ofNat_of_zero_le hr1
  have hi : i < n := by omega
  have hil : i < cs.length := by have := HN.out; omega
  obtain ⟨u, hu, hm⟩ := HC.out _ (List.getElem_mem hil)
  have hu2 : cs[i]? = some (.string u) := by rw [List.getElem?_eq_getElem hil, hu]
  have HP := Lib.hid hm
  have hc : w'.cell? ⟨b, i, none⟩ = some (.string u) := by
    rw [cell_of_row w' b i _ t (0, 0) ((hg1.block b hbl (by simpa using hne)).trans Hb.out)]
    simpa using hu2
  clear hu hu2 hm hil
  go_wp2_with fail
  go_ret
  exact tookP_of HP.out hs1 (Nat.le_refl _) hg1
theorem oneP_new (n : Nat) (cs : List Value) (P : ByteArray → Prop) (t : TypeId) (B g k : Nat) (wr : World) (hs : Strm wr B g k) (hn : cs.length = n) (h0 : 0 < n) (h1 : n ≤ 1000000) (hcs : allP P cs) (hk : k < 1000000000000) :
    Calls Tryd.prog 13 #[.pointer (some ⟨g, 0, none⟩), .slice (some ⟨wr.heap.size, 0, none⟩) n n] (wr.alloc (.cells cs.toArray t)) (TookP P B g (k + 1) wr) :=
  (oneP_any n cs P wr.heap.size t B g k _ (hs.alloc _) (heap_alloc_new wr _) hn h0 h1 hcs hk (by have := hs.lt; omega)).mono fun _ _ ⟨s, h1, h2, h3, h4⟩ => ⟨s, h1, h2, h3, (World.grownBy_alloc _ _ _).trans h4⟩
end Go.Proofs.YtdaichgcnklncaaDoor
