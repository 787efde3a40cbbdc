/- Contract of the maker h06one. -/
import Derived.Test.YtflilepmhidndaaDoorTook0
namespace Go.Proofs.YtflilepmhidndaaDoor
open Go.RowKit

set_option maxHeartbeats 400000 in
theorem one_any (n : Nat) (cs : List Value) (m : Nat) (b : Nat) (t : TypeId) (B g k : Nat) (w : World) (hs : Strm w B g k) (hb : w.heap[b]? = some (.cells cs.toArray t (0, 0))) (hn : cs.length = n) (h0 : 0 < n) (h1 : n ≤ 1000000) (hcs : cs.all (strV m) = true) (hk : k < 1000000000000) (hne : b ≠ g) :
    Calls Tryd.prog 15 #[.pointer (some ⟨g, 0, none⟩), .slice (some ⟨b, 0, none⟩) n n] w (TookS m B g (k + 1) w) := by
  have hbl : b < w.heap.size := by
    rcases Nat.lt_or_ge b w.heap.size with hlt | hge
    · exact hlt
    · rw [Array.getElem?_eq_none hge] at hb; cases hb
  have Hb := Lib.hid hb
  have HC := Lib.hid hcs
  have HN := Lib.hid hn
  clear hb hcs hn
  go_enter Tryd.func15, Tryd.ntmps15
  go_wp2_with fail
  refine (Next_any _ (by omega) (by omega) B g k hk _ hs).mono ?_
  rintro e w' ⟨r, hr1, hr2, rfl, hs1, hg1⟩
  obtain ⟨i, rfl⟩ := Int.eq_ofNat_of_zero_le hr1
  have hi : i < n := by omega
  obtain ⟨u, hu, hm⟩ := strV_at HC.out (i := i) (by have := HN.out; omega)
  have hc : w'.cell? ⟨b, i, none⟩ = some (.string u) := by
    rw [cell_of_row w' b i _ t (0, 0) ((hg1.block b hbl (by simpa using hne)).trans Hb.out)]
    simpa using hu
  clear hu
  go_wp2_with fail
  go_ret
  exact tookS_of hm hs1 (Nat.le_refl _) hg1
theorem one_new (n : Nat) (cs : List Value) (m : Nat) (t : TypeId) (B g k : Nat) (wr : World) (hs : Strm wr B g k) (hn : cs.length = n) (h0 : 0 < n) (h1 : n ≤ 1000000) (hcs : cs.all (strV m) = true) (hk : k < 1000000000000) :
    Calls Tryd.prog 15 #[.pointer (some ⟨g, 0, none⟩), .slice (some ⟨wr.heap.size, 0, none⟩) n n] (wr.alloc (.cells cs.toArray t)) (TookS m B g (k + 1) wr) :=
  (one_any n cs m wr.heap.size t B g k _ (hs.alloc _) (heap_alloc_new wr _) hn h0 h1 hcs hk (by have := hs.lt; omega)).mono fun _ _ h => took_new h

end Go.Proofs.YtflilepmhidndaaDoor
