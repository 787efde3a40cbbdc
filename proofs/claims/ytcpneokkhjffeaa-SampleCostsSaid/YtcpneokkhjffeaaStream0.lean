/- Contracts of the stream of raw numbers (package chasemake): Below, Next, Range, Pick. -/
import Derived.Test.YtcpneokkhjffeaaRows
import Derived.WalkKit
import Derived.WalkSpells
import Derived.WalkLawsBesides
import Derived.Handy
import Derived.Lib.Hide
import Derived.BigQuiet
import Derived.Deep.QuietTactic
namespace Go.Proofs.Ytcpneokkhjffeaa
open Go.RowKit

/-- k lies where Below puts it -/
def InB (n k : Int) : Prop := (1 ≤ n → 0 ≤ k ∧ k < n) ∧ (n < 1 → k = 0)

set_option maxHeartbeats 400000 in
theorem Below_any (x n : Int) (hn : -9223372036854775808 ≤ n) (hn' : n ≤ 9223372036854775807) (w : World) :
    Calls Try.prog 23 #[.int .i64 x, .int .i64 n] w fun e w' => (∃ k, e = .returned (.int .i64 k) ∧ InB n k) ∧ w = w' := by
  by_cases h1 : n < 1
  · go_enter Try.func23, Try.ntmps23
    go_wp2
    go_ret
    exact ⟨⟨0, rfl, ⟨fun h => by omega, fun _ => rfl⟩⟩, rfl⟩
  · have h2 := Int.tmod_lt_of_pos x (show 0 < n by omega)
    have h3 := Int.lt_tmod_of_pos x (show 0 < n by omega)
    by_cases h4 : x.tmod n < 0
    · go_enter Try.func23, Try.ntmps23
      go_wp2
      go_ret
      exact ⟨⟨_, rfl, ⟨fun _ => by omega, fun h => by omega⟩⟩, rfl⟩
    · go_enter Try.func23, Try.ntmps23
      go_wp2
      go_ret
      exact ⟨⟨_, rfl, ⟨fun _ => by omega, fun h => by omega⟩⟩, rfl⟩

/-- block g is a stream: its numbers lie below block B; k: how many were taken -/
def Strm (w : World) (B g k : Nat) : Prop := ∃ (A : Option Addr) (n cap : Nat), w.heap[g]? = some (.cells #[.slice A n cap, .int .i64 k] 25 (0, 0)) ∧ B ≤ g ∧ n ≤ 9223372036854775807 ∧
  (0 < n → ∃ b off, A = some ⟨b, off, none⟩ ∧ b < B ∧ ∀ i, i < n → ∃ z, w.cell? ⟨b, off + i, none⟩ = some (.int .i64 z) ∧ -9223372036854775808 ≤ z ∧ z ≤ 9223372036854775807)

theorem Strm.lt {w : World} {B g k : Nat} (h : Strm w B g k) : g < w.heap.size := by
  obtain ⟨A, n, cap, hb, _⟩ := h
  rcases Nat.lt_or_ge g w.heap.size with hlt | hge
  · exact hlt
  · rw [Array.getElem?_eq_none hge] at hb; cases hb
theorem Strm.le {w : World} {B g k : Nat} (h : Strm w B g k) : B ≤ g := by
  obtain ⟨A, n, cap, hb, h, _⟩ := h
  exact h
theorem Strm.keep {w w' : World} {B g k : Nat} (h : Strm w B g k) (hb : ∀ i, i < B → w'.heap[i]? = w.heap[i]?) (hg : w'.heap[g]? = w.heap[g]?) : Strm w' B g k := by
  obtain ⟨A, n, cap, h1, h2, h3, h4⟩ := h
  refine ⟨A, n, cap, hg.trans h1, h2, h3, fun hn => ?_⟩
  obtain ⟨b, off, e, hlt, hc⟩ := h4 hn
  refine ⟨b, off, e, hlt, fun i hi => ?_⟩
  obtain ⟨z, hz, hz'⟩ := hc i hi
  exact ⟨z, (World.cell?_of_block (w := w) (a := ⟨b, off + i, none⟩) (hb b hlt)).trans hz, hz'⟩
theorem Strm.drew {w : World} {B g k : Nat} (h : Strm w B g k) : Strm w.drew B g k := h
theorem Strm.drewN {w : World} {B g k : Nat} (h : Strm w B g k) (n : Nat) : Strm (w.drewN n) B g k := h
theorem Strm.alloc {w : World} {B g k : Nat} (h : Strm w B g k) (o : Obj) : Strm (w.alloc o) B g k :=
  h.keep (fun i hi => Below.heap_alloc w o i (by have := h.lt; have := h.le; omega)) (Below.heap_alloc w o g h.lt)
theorem Strm.setCell {w : World} {B g k : Nat} (h : Strm w B g k) {p : Addr} (hp : B ≤ p.block) (hne : g ≠ p.block) (u : Value) : Strm (w.setCell p u) B g k :=
  h.keep (fun i hi => Below.heap_setCell w p u i (by omega)) (Below.heap_setCell w p u g hne)
theorem Strm.grown {w w' : World} {B g k : Nat} {row : Option Nat} (h : Strm w B g k) (hg : w.grownBy w' row) (hr : row ≠ some g) (hB : ∀ j, row = some j → B ≤ j) : Strm w' B g k :=
  h.keep (fun i hi => hg.block i (by have := h.lt; have := h.le; omega) (fun e => by have := hB _ e.symm; omega)) (hg.block g h.lt (fun e => hr e.symm))
theorem Strm.below {w w' : World} {B B' g k : Nat} (h : Strm w B g k) (hb : Below B' w w') (hg : g < B') : Strm w' B g k :=
  h.keep (fun i hi => hb.block i (by have := h.le; omega)) (hb.block g hg)

/-- the number that was taken lies from 0 to n - 1; of what was there only the stream has turned -/
def Took (n : Int) (B g k : Nat) (w : World) (e : Ending) (w' : World) : Prop := ∃ r : Int, 0 ≤ r ∧ r < n ∧ e = .returned (.int .i64 r) ∧ Strm w' B g k ∧ w.grownBy w' (some g)

theorem took_of {n r : Int} {B g k : Nat} {w w' : World} (hr : 0 ≤ r ∧ r < n) (hs : Strm w' B g k) (hg : w.grownBy w' (some g)) : Took n B g k w (.returned (.int .i64 r)) w' := ⟨r, hr.1, hr.2, rfl, hs, hg⟩

theorem Strm.bump {w : World} {B g k : Nat} (h : Strm w B g k) : Strm (w.setCell ⟨g, 1, none⟩ (.int .i64 (k + 1))) B g (k + 1) := by
  have hle := h.le
  obtain ⟨A, n, cap, h1, h2, h3, h4⟩ := h
  refine ⟨A, n, cap, ?_, h2, h3, fun hn => ?_⟩
  · simp [World.setCell, Array.getElem?_modify, h1]
  · obtain ⟨b, off, e, hlt, hc⟩ := h4 hn
    refine ⟨b, off, e, hlt, fun i hi => ?_⟩
    obtain ⟨z, hz, hz'⟩ := hc i hi
    exact ⟨z, (World.cell?_of_block (w := w) (a := ⟨b, off + i, none⟩) (Below.heap_setCell w _ _ b (by show b ≠ g; omega))).trans hz, hz'⟩
theorem grown_set (w : World) (g i : Nat) (v : Value) : w.grownBy (w.setCell ⟨g, i, none⟩ v) (some g) :=
  ⟨rfl, rfl, rfl, by simp [World.setCell], fun k _ hne => Below.heap_setCell w _ v k (fun e => hne (by rw [e]))⟩
theorem below_drewN {B : Nat} {a w : World} (h : Below B a w) (n : Nat) : Below B a (w.drewN n) := ⟨h.os, h.tape, h.output, h.size, h.block⟩
theorem ret_str {a b : List UInt8} (h : a = b) : Ending.returned (.string ⟨a.toArray⟩) = .returned (.string ⟨b.toArray⟩) := by rw [h]
theorem only_drewN {a w : World} {row : Option Nat} (h : a.grownBy w row) (n : Nat) : a.grownBy (w.drewN n) row := ⟨h.os, h.tape, h.output, h.size, h.block⟩

set_option maxHeartbeats 1000000 in
theorem Next_any (n : Int) (h1 : 1 ≤ n) (h2 : n ≤ 9223372036854775807) (B g k : Nat) (hk : k < 1000000000000) (w : World) (hs : Strm w B g k) :
    Calls Try.prog 13 #[.pointer (some ⟨g, 0, none⟩), .int .i64 n] w (Took n B g (k + 1) w) := by
  have hs0 := hs
  obtain ⟨A, m, cap, hb, hB, hm, hA⟩ := hs
  have hc0 : w.cell? ⟨g, 0, none⟩ = some (.slice A m cap) := by rw [cell_of_row w g 0 _ _ _ hb]; rfl
  have hc1 : w.cell? ⟨g, 1, none⟩ = some (.int .i64 k) := by rw [cell_of_row w g 1 _ _ _ hb]; rfl
  have hf1 : w.frozen? ⟨g, 1, none⟩ = false := by simp [World.frozen?, hb]
  by_cases hz : m = 0
  · subst hz
    clear hA hb
    go_enter Try.func13, Try.ntmps13
    go_wp2_with fail
    refine (Below_any _ _ (by omega) (by omega) _).mono ?_
    rintro e w' ⟨⟨r, rfl, hr, _⟩, rfl⟩
    have hr1 := hr h1
    clear hr
    go_wp2_with fail
    go_ret
    refine took_of hr1 ?_ ?_
    · exact hs0.bump
    · exact grown_set _ _ _ _
  · have hpos : 0 < m := by omega
    obtain ⟨b, off, rfl, hlt, hc⟩ := hA hpos
    obtain ⟨z, hz1, _⟩ := hc (k % m) (Nat.mod_lt _ hpos)
    have hm1 : 0 ≤ (k : Int) % (m : Int) := Int.emod_nonneg _ (by omega)
    have hm2 : (k : Int) % (m : Int) < (m : Int) := Int.emod_lt_of_pos _ (by omega)
    have hne1 : ¬ (g = b) := by omega
    have hne2 : ¬ (b = g) := by omega
    clear hA hb hc
    go_enter Try.func13, Try.ntmps13
    go_wp2_with fail
    go_quiet (fail)
    go_wp2_with fail
    go_quiet (fail)
    go_wp2_with fail
    refine (Below_any _ _ (by omega) (by omega) _).mono ?_
    rintro e w' ⟨⟨r, rfl, hr, _⟩, rfl⟩
    have hr1 := hr (by omega)
    clear hr
    go_wp2_with fail
    refine (Below_any _ _ (by omega) (by omega) _).mono ?_
    rintro e w' ⟨⟨r2, rfl, hr, _⟩, rfl⟩
    have hr2 := hr h1
    clear hr
    go_wp2_with fail
    go_ret
    refine took_of hr2 ?_ ?_
    · exact hs0.bump.drewN _
    · exact only_drewN (grown_set _ _ _ _) _
end Go.Proofs.Ytcpneokkhjffeaa
