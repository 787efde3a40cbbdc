/- Contracts of the stream of raw numbers: Range, Pick. -/
import Derived.Test.YthgembgincaapaaStream0
namespace Go.Proofs.Ythgembgincaapaa
open Go.RowKit

/-- a number from low to high was taken -/
def TookR (low high : Int) (B g k : Nat) (w : World) (e : Ending) (w' : World) : Prop := ∃ r : Int, low ≤ r ∧ r ≤ high ∧ e = .returned (.int .i64 r) ∧ Strm w' B g k ∧ w.grownBy w' (some g)

theorem tookR_of {low high r : Int} {B g k : Nat} {w w' : World} (h1 : low ≤ r) (h2 : r ≤ high) (hs : Strm w' B g k) (hg : w.grownBy w' (some g)) : TookR low high B g k w (.returned (.int .i64 r)) w' := ⟨r, h1, h2, rfl, hs, hg⟩

set_option maxHeartbeats 400000 in
theorem Range_any (low high : Int) (h0 : -1000000000000 ≤ low) (h1 : low ≤ high) (h2 : high ≤ 1000000000000) (B g k : Nat) (hk : k < 1000000000000) (w : World) (hs : Strm w B g k) :
    Calls Try.prog 17 #[.pointer (some ⟨g, 0, none⟩), .int .i64 low, .int .i64 high] w (TookR low high B g (k + 1) w) := by
  go_enter Try.func17, Try.ntmps17
  go_wp2_with fail
  refine (Next_any _ (by omega) (by omega) B g k hk _ hs).mono ?_
  rintro e w' ⟨r, hr1, hr2, rfl, hs1, hg1⟩
  go_wp2_with fail
  go_ret
  exact tookR_of (by omega) (by omega) hs1 hg1

/-- one of the numbers zs was taken -/
def TookP (zs : List Int) (B g k : Nat) (w : World) (e : Ending) (w' : World) : Prop := ∃ r : Int, r ∈ zs ∧ e = .returned (.int .i64 r) ∧ Strm w' B g k ∧ w.grownBy w' (some g)
theorem tookP_of {zs : List Int} {i : Nat} {r : Int} {B g k : Nat} {w w' : World} (h1 : zs[i]? = some r) (hs : Strm w' B g k) (hg : w.grownBy w' (some g)) : TookP zs B g k w (.returned (.int .i64 r)) w' := ⟨r, List.mem_of_getElem? h1, rfl, hs, hg⟩

set_option maxHeartbeats 400000 in
theorem Pick_any (zs : List Int) (h0 : zs ≠ []) (h1 : zs.length ≤ 1000000) (b : Nat) (t : TypeId) (B g k : Nat) (hk : k < 1000000000000) (w : World) (hs : Strm w B g k) (hb : w.heap[b]? = some (.cells (zs.map (Value.int .i64)).toArray t (0, 0))) (hne : b ≠ g) :
    Calls Try.prog 18 #[.pointer (some ⟨g, 0, none⟩), .slice (some ⟨b, 0, none⟩) zs.length zs.length] w (TookP zs B g (k + 1) w) := by
  have hpos : 0 < zs.length := List.length_pos_iff.2 h0
  have hbl : b < w.heap.size := by
    rcases Nat.lt_or_ge b w.heap.size with hlt | hge
    · exact hlt
    · rw [Array.getElem?_eq_none hge] at hb; cases hb
  have Hb := Lib.hid hb
  clear hb h0
  go_enter Try.func18, Try.ntmps18
  go_wp2_with fail
  refine (Next_any _ (by omega) (by omega) B g k hk _ hs).mono ?_
  rintro e w' ⟨r, hr1, hr2, rfl, hs1, hg1⟩
  obtain ⟨i, rfl⟩ := Int.eq_ofNat_of_zero_le hr1
  have hi : i < zs.length := by omega
  have HZ := Lib.hid (List.getElem?_eq_getElem hi)
  generalize zs[i] = z at HZ
  have hc : w'.cell? ⟨b, i, none⟩ = some (.int .i64 z) := by
    rw [cell_of_row w' b i _ t (0, 0) ((hg1.block b hbl (by simpa using hne)).trans Hb.out)]
    simp [HZ.out]
  go_wp2_with fail
  go_ret
  exact tookP_of HZ.out hs1 hg1
end Go.Proofs.Ythgembgincaapaa
