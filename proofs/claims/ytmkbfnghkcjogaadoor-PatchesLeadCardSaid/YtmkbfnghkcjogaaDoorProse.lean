/- Contracts of the makers h06one and Prose. -/
import Derived.Test.YtmkbfnghkcjogaaDoorTook0
namespace Go.Proofs.YtmkbfnghkcjogaaDoor
open Go.RowKit

set_option maxHeartbeats 400000 in
theorem one_any (n : Nat) (cs : List Value) (m : Nat) (b : Nat) (t : TypeId) (B g k : Nat) (w : World) (hs : Strm w B g k) (hb : w.heap[b]? = some (.cells cs.toArray t (0, 0))) (hn : cs.length = n) (h0 : 0 < n) (h1 : n ≤ 1000000) (hcs : cs.all (strV m) = true) (hk : k < 1000000000000) (hne : b ≠ g) :
    Calls Tryd.prog 14 #[.pointer (some ⟨g, 0, none⟩), .slice (some ⟨b, 0, none⟩) n n] w (TookS m B g (k + 1) w) := by
  have hbl : b < w.heap.size := by
    rcases Nat.lt_or_ge b w.heap.size with hlt | hge
    · exact hlt
    · rw [Array.getElem?_eq_none hge] at hb; cases hb
  have Hb := Lib.hid hb
  have HC := Lib.hid hcs
  have HN := Lib.hid hn
  clear hb hcs hn
  go_enter Tryd.func14, Tryd.ntmps14
  go_wp2_with fail
  refine (Next_any _ (by omega) (by omega) B g k hk _ hs).mono ?_
  rintro e w' ⟨r, hr1, hr2, rfl, hs1, hg1⟩
  obtain ⟨i, rfl⟩ := Int.eq_ofNat_of_zero_le hr1
  have hi : i < n := by omega
  obtain ⟨u, hu, hm⟩ := strV_at HC.out (i := i) (by have := HN.out; omega)
  have hc : w'.cell? ⟨b, i, none⟩ = some (.string u) := by
    rw [cell_of_row w' b i _ t (0, 0) ((hg1.block b hbl (by simpa using hne)).trans Hb.out)]
    simpa using hu
  clear hu
  go_wp2_with fail
  go_ret
  exact tookS_of hm hs1 (Nat.le_refl _) hg1
theorem one_new (n : Nat) (cs : List Value) (m : Nat) (t : TypeId) (B g k : Nat) (wr : World) (hs : Strm wr B g k) (hn : cs.length = n) (h0 : 0 < n) (h1 : n ≤ 1000000) (hcs : cs.all (strV m) = true) (hk : k < 1000000000000) :
    Calls Tryd.prog 14 #[.pointer (some ⟨g, 0, none⟩), .slice (some ⟨wr.heap.size, 0, none⟩) n n] (wr.alloc (.cells cs.toArray t)) (TookS m B g (k + 1) wr) :=
  (one_any n cs m wr.heap.size t B g k _ (hs.alloc _) (heap_alloc_new wr _) hn h0 h1 hcs hk (by have := hs.lt; omega)).mono fun _ _ h => took_new h

def ProseRel (most : Int) (B g k : Nat) (w : World) (o i : Value) (wr : World) : Prop := ∃ (s : ByteArray) (j : Nat), o = .string s ∧ i = .int .i64 j ∧ (j : Int) ≤ most ∧ s.size ≤ 6 * j ∧ (∃ k', k' ≤ k + 2 * j ∧ Strm wr B g k') ∧ w.grownBy wr (some g)
def proseV : List Value := [.string ⟨#[97]⟩, .string ⟨#[98]⟩, .string ⟨#[99]⟩, .string ⟨#[100]⟩, .string ⟨#[101]⟩, .string ⟨#[65]⟩, .string ⟨#[66]⟩, .string ⟨#[105, 116, 39, 115]⟩, .string ⟨#[195, 169]⟩, .string ⟨#[120, 44]⟩, .string ⟨#[57]⟩]
def blankV : List Value := [.string ⟨#[32]⟩, .string ⟨#[32]⟩, .string ⟨#[32]⟩, .string ⟨#[32, 32]⟩, .string ⟨#[10]⟩, .string ⟨#[10, 10]⟩, .string ⟨#[44, 32]⟩, .string ⟨#[]⟩]
set_option maxHeartbeats 2000000 in
theorem Prose_any (most : Int) (h0 : 0 ≤ most) (h1 : most ≤ 100000) (B g k : Nat) (hk : k < 100000000000) (w : World) (hs : Strm w B g k) :
    Calls Tryd.prog 4 #[.pointer (some ⟨g, 0, none⟩), .int .i64 most] w (TookS (6 * most.toNat) B g (k + 1 + 2 * most.toNat) w) := by
  have hlt := hs.lt
  go_enter Tryd.func4, Tryd.ntmps4
  go_wp2_with fail
  refine (Next_any _ (by omega) (by omega) B g k (by omega) _ hs).mono ?_
  rintro e w1 ⟨r, hr1, hr2, rfl, hs1, hg1⟩
  obtain ⟨n, rfl⟩ := Int.eq_ofNat_of_zero_le hr1
  go_wp2_with fail
  go_loopw [5, 10] (fun o i wr => ProseRel most B g (k + 1) w o i wr) (fun _ i _ => most.toNat - (intOf i).toNat)
  case atStart => exact ⟨_, 0, rfl, rfl, h0, Nat.le_refl _, ⟨k + 1, by omega, hs1⟩, hg1⟩
  case round =>
    obtain ⟨s, j, rfl, rfl, hj, hsz, ⟨k2, hk2, hsr⟩, hgr⟩ := hrel
    by_cases hln : (j : Int) < (n : Int)
    · have hrl := hsr.lt
      go_wp2_with fail
      refine (one_new 11 proseV 4 _ B g k2 wr hsr rfl (by omega) (by omega) (by decide) (by omega)).mono ?_
      rintro e w2 ⟨u, hu, rfl, ⟨k3, hk3, hs2⟩, hg2⟩
      go_wp2_with fail
      refine (one_new 8 blankV 2 _ B g k3 w2 hs2 rfl (by omega) (by omega) (by decide) (by omega)).mono ?_
      rintro e w3 ⟨v, hv, rfl, ⟨k4, hk4, hs3⟩, hg3⟩
      go_wp2_with fail
      exact ⟨⟨_, j + 1, rfl, by simp, by omega, by simp only [ByteArray.size_append]; omega, ⟨k4, by omega, hs3⟩, hgr.trans (hg2.trans hg3)⟩, by simp [intOf]; omega⟩
    · go_wp2_with fail
      go_ret
      exact tookS_of (by omega) hsr (by omega) hgr
end Go.Proofs.YtmkbfnghkcjogaaDoor
