/- Contract of the maker Pick at a row of known numbers. -/
import Derived.Test.YtcpneokkhjffeaaTook0
namespace Go.Proofs.Ytcpneokkhjffeaa
open Go.RowKit

set_option maxHeartbeats 400000 in
theorem pick_any (n : Nat) (cs : List Value) (lo hi : Int) (b : Nat) (t : TypeId) (B g k : Nat) (w : World) (hs : Strm w B g k) (hb : w.heap[b]? = some (.cells cs.toArray t (0, 0))) (hn : cs.length = n) (h0 : 0 < n) (h1 : n ≤ 1000000) (hcs : cs.all (intV lo hi) = true) (hk : k < 1000000000000) (hne : b ≠ g) :
    Calls Try.prog 5 #[.pointer (some ⟨g, 0, none⟩), .slice (some ⟨b, 0, none⟩) n n] w (TookN lo hi B g (k + 1) w) := by
  have hbl : b < w.heap.size := by
    rcases Nat.lt_or_ge b w.heap.size with hlt | hge
    · exact hlt
    · rw [Array.getElem?_eq_none hge] at hb; cases hb
  have Hb := Lib.hid hb
  have HC := Lib.hid hcs
  have HN := Lib.hid hn
  clear hb hcs hn
  go_enter Try.func5, Try.ntmps5
  go_wp2_with fail
  refine (Next_any _ (by omega) (by omega) B g k hk _ hs).mono ?_
  rintro e w' ⟨r, hr1, hr2, rfl, hs1, hg1⟩
  obtain ⟨i, rfl⟩ := Int.eq_ofNat_of_zero_le hr1
  have hi' : i < n := by omega
  obtain ⟨z, hu, hm1, hm2⟩ := intV_at HC.out (i := i) (by have := HN.out; omega)
  have HM := Lib.hid (And.intro hm1 hm2)
  clear hm1 hm2
  have hc : w'.cell? ⟨b, i, none⟩ = some (.int .i64 z) := by
    rw [cell_of_row w' b i _ t (0, 0) ((hg1.block b hbl (by simpa using hne)).trans Hb.out)]
    simpa using hu
  clear hu
  go_wp2_with fail
  go_ret
  exact tookN_of HM.out.1 HM.out.2 hs1 (Nat.le_refl _) hg1

theorem pick_new (n : Nat) (cs : List Value) (lo hi : Int) (t : TypeId) (B g k : Nat) (wr : World) (hs : Strm wr B g k) (hn : cs.length = n) (h0 : 0 < n) (h1 : n ≤ 1000000) (hcs : cs.all (intV lo hi) = true) (hk : k < 1000000000000) :
    Calls Try.prog 5 #[.pointer (some ⟨g, 0, none⟩), .slice (some ⟨wr.heap.size, 0, none⟩) n n] (wr.alloc (.cells cs.toArray t)) (TookN lo hi B g (k + 1) wr) :=
  (pick_any n cs lo hi wr.heap.size t B g k _ (hs.alloc _) (heap_alloc_new wr _) hn h0 h1 hcs hk (by have := hs.lt; omega)).mono fun _ _ h => tookN_new h

end Go.Proofs.Ytcpneokkhjffeaa
