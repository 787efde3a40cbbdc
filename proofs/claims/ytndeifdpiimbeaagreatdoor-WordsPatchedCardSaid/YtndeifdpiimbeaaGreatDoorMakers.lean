/- Texts put together. -/
import Derived.Test.YtndeifdpiimbeaaGreatDoorRows
import Derived.WalkKit
import Derived.WalkSpells
import Derived.WalkLawsBesides
import Derived.Handy
import Derived.Lib.Hide
import Derived.BigQuiet
import Derived.Deep.QuietTactic
import Derived.IntWalk
/- Contracts of the stream of raw numbers (package chasemake): Below, Next, Range, Pick. -/
namespace Go.Proofs.YtndeifdpiimbeaaGreatDoor
open Go.RowKit

/-- k lies where Below puts it -/
def InB (n k : Int) : Prop := (1 ≤ n → 0 ≤ k ∧ k < n) ∧ (n < 1 → k = 0)

set_option maxHeartbeats 400000 in
theorem Below_any (x n : Int) (hn : -9223372036854775808 ≤ n) (hn' : n ≤ 9223372036854775807) (w : World) :
    Calls Tryz.prog 30 #[.int .i64 x, .int .i64 n] w fun e w' => (∃ k, e = .returned (.int .i64 k) ∧ InB n k) ∧ w = w' := by
  by_cases h1 : n < 1
  · go_enter Tryz.func30, Tryz.ntmps30
    go_wp2
    go_ret
    exact ⟨⟨0, rfl, ⟨fun h => by omega, fun _ => rfl⟩⟩, rfl⟩
  · have h2 := Int.tmod_lt_of_pos x (show 0 < n by omega)
    have h3 := Int.lt_tmod_of_pos x (show 0 < n by omega)
    by_cases h4 : x.tmod n < 0
    · go_enter Tryz.func30, Tryz.ntmps30
      go_wp2
      go_ret
      exact ⟨⟨_, rfl, ⟨fun _ => by omega, fun h => by omega⟩⟩, rfl⟩
    · go_enter Tryz.func30, Tryz.ntmps30
      go_wp2
      go_ret
      exact ⟨⟨_, rfl, ⟨fun _ => by omega, fun h => by omega⟩⟩, rfl⟩

/-- block g is a stream: its numbers lie below block B; k: how many were taken -/
def Strm (w : World) (B g k : Nat) : Prop := ∃ (A : Option Addr) (n cap : Nat), w.heap[g]? = some (.cells #[.slice A n cap, .int .i64 k] 25 (0, 0)) ∧ B ≤ g ∧ n ≤ 9223372036854775807 ∧
  (0 < n → ∃ b off, A = some ⟨b, off, none⟩ ∧ b < B ∧ ∀ i, i < n → ∃ z, w.cell? ⟨b, off + i, none⟩ = some (.int .i64 z) ∧ -9223372036854775808 ≤ z ∧ z ≤ 9223372036854775807)

theorem Strm.lt {w : World} {B g k : Nat} (h : Strm w B g k) : g < w.heap.size := by
  obtain ⟨A, n, cap, hb, _⟩ := h
  rcases Nat.lt_or_ge g w.heap.size with hlt | hge
  · exact hlt
  · rw [Array.getElem?_eq_none hge] at hb; cases hb
theorem Strm.le {w : World} {B g k : Nat} (h : Strm w B g k) : B ≤ g := by
  obtain ⟨A, n, cap, hb, h, _⟩ := h
  exact h
theorem Strm.keep {w w' : World} {B g k : Nat} (h : Strm w B g k) (hb : ∀ i, i < B → w'.heap[i]? = w.heap[i]?) (hg : w'.heap[g]? = w.heap[g]?) : Strm w' B g k := by
  obtain ⟨A, n, cap, h1, h2, h3, h4⟩ := h
  refine ⟨A, n, cap, hg.trans h1, h2, h3, fun hn => ?_⟩
  obtain ⟨b, off, e, hlt, hc⟩ := h4 hn
  refine ⟨b, off, e, hlt, fun i hi => ?_⟩
  obtain ⟨z, hz, hz'⟩ := hc i hi
  exact ⟨z, (World.cell?_of_block (w := w) (a := ⟨b, off + i, none⟩) (hb b hlt)).trans hz, hz'⟩
theorem Strm.drew {w : World} {B g k : Nat} (h : Strm w B g k) : Strm w.drew B g k := h
theorem Strm.drewN {w : World} {B g k : Nat} (h : Strm w B g k) (n : Nat) : Strm (w.drewN n) B g k := h
theorem Strm.alloc {w : World} {B g k : Nat} (h : Strm w B g k) (o : Obj) : Strm (w.alloc o) B g k :=
  h.keep (fun i hi => Below.heap_alloc w o i (by have := h.lt; have := h.le; omega)) (Below.heap_alloc w o g h.lt)
theorem Strm.setCell {w : World} {B g k : Nat} (h : Strm w B g k) {p : Addr} (hp : B ≤ p.block) (hne : g ≠ p.block) (u : Value) : Strm (w.setCell p u) B g k :=
  h.keep (fun i hi => Below.heap_setCell w p u i (by omega)) (Below.heap_setCell w p u g hne)
theorem Strm.grown {w w' : World} {B g k : Nat} {row : Option Nat} (h : Strm w B g k) (hg : w.grownBy w' row) (hr : row ≠ some g) (hB : ∀ j, row = some j → B ≤ j) : Strm w' B g k :=
  h.keep (fun i hi => hg.block i (by have := h.lt; have := h.le; omega) (fun e => by have := hB _ e.symm; omega)) (hg.block g h.lt (fun e => hr e.symm))
theorem Strm.below {w w' : World} {B B' g k : Nat} (h : Strm w B g k) (hb : Below B' w w') (hg : g < B') : Strm w' B g k :=
  h.keep (fun i hi => hb.block i (by have := h.le; omega)) (hb.block g hg)

/-- the number that was taken lies from 0 to n - 1; of what was there only the stream has turned -/
def Took (n : Int) (B g k : Nat) (w : World) (e : Ending) (w' : World) : Prop := ∃ r : Int, 0 ≤ r ∧ r < n ∧ e = .returned (.int .i64 r) ∧ Strm w' B g k ∧ w.grownBy w' (some g)

theorem took_of {n r : Int} {B g k : Nat} {w w' : World} (hr : 0 ≤ r ∧ r < n) (hs : Strm w' B g k) (hg : w.grownBy w' (some g)) : Took n B g k w (.returned (.int .i64 r)) w' := ⟨r, hr.1, hr.2, rfl, hs, hg⟩

theorem Strm.bump {w : World} {B g k : Nat} (h : Strm w B g k) : Strm (w.setCell ⟨g, 1, none⟩ (.int .i64 (k + 1))) B g (k + 1) := by
  have hle := h.le
  obtain ⟨A, n, cap, h1, h2, h3, h4⟩ := h
  refine ⟨A, n, cap, ?_, h2, h3, fun hn => ?_⟩
  · simp [World.setCell, Array.getElem?_modify, h1]
  · obtain ⟨b, off, e, hlt, hc⟩ := h4 hn
    refine ⟨b, off, e, hlt, fun i hi => ?_⟩
    obtain ⟨z, hz, hz'⟩ := hc i hi
    exact ⟨z, (World.cell?_of_block (w := w) (a := ⟨b, off + i, none⟩) (Below.heap_setCell w _ _ b (by show b ≠ g; omega))).trans hz, hz'⟩
theorem grown_set (w : World) (g i : Nat) (v : Value) : w.grownBy (w.setCell ⟨g, i, none⟩ v) (some g) :=
  ⟨rfl, rfl, rfl, by simp [World.setCell], fun k _ hne => Below.heap_setCell w _ v k (fun e => hne (by rw [e]))⟩
theorem below_drewN {B : Nat} {a w : World} (h : Below B a w) (n : Nat) : Below B a (w.drewN n) := ⟨h.os, h.tape, h.output, h.size, h.block⟩
theorem ret_str {a b : List UInt8} (h : a = b) : Ending.returned (.string ⟨a.toArray⟩) = .returned (.string ⟨b.toArray⟩) := by rw [h]
theorem only_drewN {a w : World} {row : Option Nat} (h : a.grownBy w row) (n : Nat) : a.grownBy (w.drewN n) row := ⟨h.os, h.tape, h.output, h.size, h.block⟩

set_option maxHeartbeats 1000000 in
theorem Next_any (n : Int) (h1 : 1 ≤ n) (h2 : n ≤ 9223372036854775807) (B g k : Nat) (hk : k < 1000000000000) (w : World) (hs : Strm w B g k) :
    Calls Tryz.prog 12 #[.pointer (some ⟨g, 0, none⟩), .int .i64 n] w (Took n B g (k + 1) w) := by
  have hs0 := hs
  obtain ⟨A, m, cap, hb, hB, hm, hA⟩ := hs
  have hc0 : w.cell? ⟨g, 0, none⟩ = some (.slice A m cap) := by rw [cell_of_row w g 0 _ _ _ hb]; rfl
  have hc1 : w.cell? ⟨g, 1, none⟩ = some (.int .i64 k) := by rw [cell_of_row w g 1 _ _ _ hb]; rfl
  have hf1 : w.frozen? ⟨g, 1, none⟩ = false := by simp [World.frozen?, hb]
  by_cases hz : m = 0
  · subst hz
    clear hA hb
    go_enter Tryz.func12, Tryz.ntmps12
    go_wp2_with fail
    refine (Below_any _ _ (by omega) (by omega) _).mono ?_
    rintro e w' ⟨⟨r, rfl, hr, _⟩, rfl⟩
    have hr1 := hr h1
    clear hr
    go_wp2_with fail
    go_ret
    refine took_of hr1 ?_ ?_
    · exact hs0.bump
    · exact grown_set _ _ _ _
  · have hpos : 0 < m := by omega
    obtain ⟨b, off, rfl, hlt, hc⟩ := hA hpos
    obtain ⟨z, hz1, _⟩ := hc (k % m) (Nat.mod_lt _ hpos)
    have hm1 : 0 ≤ (k : Int) % (m : Int) := Int.emod_nonneg _ (by omega)
    have hm2 : (k : Int) % (m : Int) < (m : Int) := Int.emod_lt_of_pos _ (by omega)
    have hne1 : ¬ (g = b) := by omega
    have hne2 : ¬ (b = g) := by omega
    clear hA hb hc
    go_enter Tryz.func12, Tryz.ntmps12
    go_wp2_with fail
    go_quiet (fail)
    go_wp2_with fail
    go_quiet (fail)
    go_wp2_with fail
    refine (Below_any _ _ (by omega) (by omega) _).mono ?_
    rintro e w' ⟨⟨r, rfl, hr, _⟩, rfl⟩
    have hr1 := hr (by omega)
    clear hr
    go_wp2_with fail
    refine (Below_any _ _ (by omega) (by omega) _).mono ?_
    rintro e w' ⟨⟨r2, rfl, hr, _⟩, rfl⟩
    have hr2 := hr h1
    clear hr
    go_wp2_with fail
    go_ret
    refine took_of hr2 ?_ ?_
    · exact hs0.bump.drewN _
    · exact only_drewN (grown_set _ _ _ _) _
end Go.Proofs.YtndeifdpiimbeaaGreatDoor
/- Contract of the maker Range. -/
namespace Go.Proofs.YtndeifdpiimbeaaGreatDoor
open Go.RowKit

/-- a number from low to high was taken -/
def TookR (low high : Int) (B g k : Nat) (w : World) (e : Ending) (w' : World) : Prop := ∃ r : Int, low ≤ r ∧ r ≤ high ∧ e = .returned (.int .i64 r) ∧ Strm w' B g k ∧ w.grownBy w' (some g)

theorem tookR_of {low high r : Int} {B g k : Nat} {w w' : World} (h1 : low ≤ r) (h2 : r ≤ high) (hs : Strm w' B g k) (hg : w.grownBy w' (some g)) : TookR low high B g k w (.returned (.int .i64 r)) w' := ⟨r, h1, h2, rfl, hs, hg⟩

set_option maxHeartbeats 400000 in
theorem Range_any (low high : Int) (h0 : -1000000000000 ≤ low) (h1 : low ≤ high) (h2 : high ≤ 1000000000000) (B g k : Nat) (hk : k < 1000000000000) (w : World) (hs : Strm w B g k) :
    Calls Tryz.prog 17 #[.pointer (some ⟨g, 0, none⟩), .int .i64 low, .int .i64 high] w (TookR low high B g (k + 1) w) := by
  go_enter Tryz.func17, Tryz.ntmps17
  go_wp2_with fail
  refine (Next_any _ (by omega) (by omega) B g k hk _ hs).mono ?_
  rintro e w' ⟨r, hr1, hr2, rfl, hs1, hg1⟩
  go_wp2_with fail
  go_ret
  exact tookR_of (by omega) (by omega) hs1 hg1

end Go.Proofs.YtndeifdpiimbeaaGreatDoor
/- Contract of the maker Flip. -/
namespace Go.Proofs.YtndeifdpiimbeaaGreatDoor
open Go.RowKit

/-- yes or no -/
def TookB (B g k : Nat) (w : World) (e : Ending) (w' : World) : Prop := ∃ b : Bool, e = .returned (.bool b) ∧ Strm w' B g k ∧ w.grownBy w' (some g)
theorem tookB_of {b : Bool} {B g k : Nat} {w w' : World} (hs : Strm w' B g k) (hg : w.grownBy w' (some g)) : TookB B g k w (.returned (.bool b)) w' := ⟨b, rfl, hs, hg⟩
set_option maxHeartbeats 400000 in
theorem Flip_any (n : Int) (h1 : 1 ≤ n) (h2 : n ≤ 9223372036854775807) (B g k : Nat) (hk : k < 1000000000000) (w : World) (hs : Strm w B g k) :
    Calls Tryz.prog 16 #[.pointer (some ⟨g, 0, none⟩), .int .i64 n] w (TookB B g (k + 1) w) := by
  go_enter Tryz.func16, Tryz.ntmps16
  go_wp2_with fail
  refine (Next_any _ h1 h2 B g k hk _ hs).mono ?_
  rintro e w' ⟨r, hr1, hr2, rfl, hs1, hg1⟩
  go_wp2_with fail
  go_ret
  exact tookB_of hs1 hg1
end Go.Proofs.YtndeifdpiimbeaaGreatDoor
/- What makers of strings and numbers answer. -/
namespace Go.Proofs.YtndeifdpiimbeaaGreatDoor
open Go.RowKit

/-- a string of at most m bytes; of what was there only the stream has turned -/
def TookS (m : Nat) (B g k : Nat) (w : World) (e : Ending) (w' : World) : Prop := ∃ s : ByteArray, s.size ≤ m ∧ e = .returned (.string s) ∧ (∃ k', k' ≤ k ∧ Strm w' B g k') ∧ w.grownBy w' (some g)
theorem tookS_of {m B g k k' : Nat} {s : ByteArray} {w w' : World} (hm : s.size ≤ m) (hs : Strm w' B g k') (hk : k' ≤ k) (hg : w.grownBy w' (some g)) : TookS m B g k w (.returned (.string s)) w' := ⟨s, hm, rfl, ⟨k', hk, hs⟩, hg⟩
def strV (m : Nat) (v : Value) : Bool := match v with | .string u => decide (u.size ≤ m) | _ => false
theorem strV_at {m : Nat} {cs : List Value} (h : cs.all (strV m) = true) {i : Nat} (hi : i < cs.length) : ∃ u : ByteArray, cs[i]? = some (.string u) ∧ u.size ≤ m := by
  have := List.all_eq_true.1 h cs[i] (List.getElem_mem hi)
  rw [List.getElem?_eq_getElem hi]
  revert this
  generalize cs[i] = v
  cases v <;> intro this <;> first | exact ⟨_, rfl, of_decide_eq_true this⟩ | cases this

/-- one of some numbers, all of them at least lo and at most hi -/
def TookN (lo hi : Int) (B g k : Nat) (w : World) (e : Ending) (w' : World) : Prop := ∃ r : Int, lo ≤ r ∧ r ≤ hi ∧ e = .returned (.int .i64 r) ∧ (∃ k', k' ≤ k ∧ Strm w' B g k') ∧ w.grownBy w' (some g)
theorem tookN_of {lo hi r : Int} {B g k k' : Nat} {w w' : World} (h1 : lo ≤ r) (h2 : r ≤ hi) (hs : Strm w' B g k') (hk : k' ≤ k) (hg : w.grownBy w' (some g)) : TookN lo hi B g k w (.returned (.int .i64 r)) w' := ⟨r, h1, h2, rfl, ⟨k', hk, hs⟩, hg⟩
def intV (lo hi : Int) (v : Value) : Bool := match v with | .int .i64 z => decide (lo ≤ z) && decide (z ≤ hi) | _ => false
theorem intV_at {lo hi : Int} {cs : List Value} (h : cs.all (intV lo hi) = true) {i : Nat} (hi' : i < cs.length) : ∃ z : Int, cs[i]? = some (.int .i64 z) ∧ lo ≤ z ∧ z ≤ hi := by
  have := List.all_eq_true.1 h cs[i] (List.getElem_mem hi')
  rw [List.getElem?_eq_getElem hi']
  revert this
  generalize cs[i] = v
  cases v with
  | int k z => cases k <;> intro this <;> first | exact ⟨_, rfl, by simpa [intV] using this⟩ | cases this
  | _ => intro this; cases this

theorem took_new {m B g k : Nat} {wr : World} {o : Obj} {e : Ending} {w' : World} (h : TookS m B g k (wr.alloc o) e w') : TookS m B g k wr e w' := by
  obtain ⟨s, h1, h2, h3, h4⟩ := h
  exact ⟨s, h1, h2, h3, (World.grownBy_alloc _ _ _).trans h4⟩
theorem tookN_new {lo hi : Int} {B g k : Nat} {wr : World} {o : Obj} {e : Ending} {w' : World} (h : TookN lo hi B g k (wr.alloc o) e w') : TookN lo hi B g k wr e w' := by
  obtain ⟨s, h1, h1', h2, h3, h4⟩ := h
  exact ⟨s, h1, h1', h2, h3, (World.grownBy_alloc _ _ _).trans h4⟩
end Go.Proofs.YtndeifdpiimbeaaGreatDoor
/- Contracts of the makers h06one and Prose. -/
namespace Go.Proofs.YtndeifdpiimbeaaGreatDoor
open Go.RowKit

set_option maxHeartbeats 400000 in
theorem one_any (n : Nat) (cs : List Value) (m : Nat) (b : Nat) (t : TypeId) (B g k : Nat) (w : World) (hs : Strm w B g k) (hb : w.heap[b]? = some (.cells cs.toArray t (0, 0))) (hn : cs.length = n) (h0 : 0 < n) (h1 : n ≤ 1000000) (hcs : cs.all (strV m) = true) (hk : k < 1000000000000) (hne : b ≠ g) :
    Calls Tryz.prog 13 #[.pointer (some ⟨g, 0, none⟩), .slice (some ⟨b, 0, none⟩) n n] w (TookS m B g (k + 1) w) := by
  have hbl : b < w.heap.size := by
    rcases Nat.lt_or_ge b w.heap.size with hlt | hge
    · exact hlt
    · rw [Array.getElem?_eq_none hge] at hb; cases hb
  have Hb := Lib.hid hb
  have HC := Lib.hid hcs
  have HN := Lib.hid hn
  clear hb hcs hn
  go_enter Tryz.func13, Tryz.ntmps13
  go_wp2_with fail
  refine (Next_any _ (by omega) (by omega) B g k hk _ hs).mono ?_
  rintro e w' ⟨r, hr1, hr2, rfl, hs1, hg1⟩
  obtain ⟨i, rfl⟩ := Int.eq_ofNat_of_zero_le hr1
  have hi : i < n := by omega
  obtain ⟨u, hu, hm⟩ := strV_at HC.out (i := i) (by have := HN.out; omega)
  have hc : w'.cell? ⟨b, i, none⟩ = some (.string u) := by
    rw [cell_of_row w' b i _ t (0, 0) ((hg1.block b hbl (by simpa using hne)).trans Hb.out)]
    simpa using hu
  clear hu
  go_wp2_with fail
  go_ret
  exact tookS_of hm hs1 (Nat.le_refl _) hg1
theorem one_new (n : Nat) (cs : List Value) (m : Nat) (t : TypeId) (B g k : Nat) (wr : World) (hs : Strm wr B g k) (hn : cs.length = n) (h0 : 0 < n) (h1 : n ≤ 1000000) (hcs : cs.all (strV m) = true) (hk : k < 1000000000000) :
    Calls Tryz.prog 13 #[.pointer (some ⟨g, 0, none⟩), .slice (some ⟨wr.heap.size, 0, none⟩) n n] (wr.alloc (.cells cs.toArray t)) (TookS m B g (k + 1) wr) :=
  (one_any n cs m wr.heap.size t B g k _ (hs.alloc _) (heap_alloc_new wr _) hn h0 h1 hcs hk (by have := hs.lt; omega)).mono fun _ _ h => took_new h

def ProseRel (most : Int) (B g k : Nat) (w : World) (o i : Value) (wr : World) : Prop := ∃ (s : ByteArray) (j : Nat), o = .string s ∧ i = .int .i64 j ∧ (j : Int) ≤ most ∧ s.size ≤ 6 * j ∧ (∃ k', k' ≤ k + 2 * j ∧ Strm wr B g k') ∧ w.grownBy wr (some g)
def proseV : List Value := [.string ⟨#[97]⟩, .string ⟨#[98]⟩, .string ⟨#[99]⟩, .string ⟨#[100]⟩, .string ⟨#[101]⟩, .string ⟨#[65]⟩, .string ⟨#[66]⟩, .string ⟨#[105, 116, 39, 115]⟩, .string ⟨#[195, 169]⟩, .string ⟨#[120, 44]⟩, .string ⟨#[57]⟩]
def blankV : List Value := [.string ⟨#[32]⟩, .string ⟨#[32]⟩, .string ⟨#[32]⟩, .string ⟨#[32, 32]⟩, .string ⟨#[10]⟩, .string ⟨#[10, 10]⟩, .string ⟨#[44, 32]⟩, .string ⟨#[]⟩]
set_option maxHeartbeats 2000000 in
theorem Prose_any (most : Int) (h0 : 0 ≤ most) (h1 : most ≤ 100000) (B g k : Nat) (hk : k < 100000000000) (w : World) (hs : Strm w B g k) :
    Calls Tryz.prog 4 #[.pointer (some ⟨g, 0, none⟩), .int .i64 most] w (TookS (6 * most.toNat) B g (k + 1 + 2 * most.toNat) w) := by
  have hlt := hs.lt
  go_enter Tryz.func4, Tryz.ntmps4
  go_wp2_with fail
  refine (Next_any _ (by omega) (by omega) B g k (by omega) _ hs).mono ?_
  rintro e w1 ⟨r, hr1, hr2, rfl, hs1, hg1⟩
  obtain ⟨n, rfl⟩ := Int.eq_ofNat_of_zero_le hr1
  go_wp2_with fail
  go_loopw [5, 10] (fun o i wr => ProseRel most B g (k + 1) w o i wr) (fun _ i _ => most.toNat - (intOf i).toNat)
  case atStart => exact ⟨_, 0, rfl, rfl, h0, Nat.le_refl _, ⟨k + 1, by omega, hs1⟩, hg1⟩
  case round =>
    obtain ⟨s, j, rfl, rfl, hj, hsz, ⟨k2, hk2, hsr⟩, hgr⟩ := hrel
    by_cases hln : (j : Int) < (n : Int)
    · have hrl := hsr.lt
      go_wp2_with fail
      refine (one_new 11 proseV 4 _ B g k2 wr hsr rfl (by omega) (by omega) (by decide) (by omega)).mono ?_
      rintro e w2 ⟨u, hu, rfl, ⟨k3, hk3, hs2⟩, hg2⟩
      go_wp2_with fail
      refine (one_new 8 blankV 2 _ B g k3 w2 hs2 rfl (by omega) (by omega) (by decide) (by omega)).mono ?_
      rintro e w3 ⟨v, hv, rfl, ⟨k4, hk4, hs3⟩, hg3⟩
      go_wp2_with fail
      exact ⟨⟨_, j + 1, rfl, by simp, by omega, by simp only [ByteArray.size_append]; omega, ⟨k4, by omega, hs3⟩, hgr.trans (hg2.trans hg3)⟩, by simp [intOf]; omega⟩
    · go_wp2_with fail
      go_ret
      exact tookS_of (by omega) hsr (by omega) hgr
end Go.Proofs.YtndeifdpiimbeaaGreatDoor
/- Contract of the maker Changed, with a small bound. -/
namespace Go.Proofs.YtndeifdpiimbeaaGreatDoor
open Go.RowKit

set_option maxHeartbeats 1000000 in
theorem ChangedD_nil (t d : ByteArray) (m D : Nat) (hd : d.size ≤ D) (B g k : Nat) (w : World) (hs : Strm w B g k) (h1 : t.toList = []) :
    Calls Tryz.prog 15 #[.pointer (some ⟨g, 0, none⟩), .string t, .string d] w (TookS (m + D) B g (k + 3) w) := by
  go_enter Tryz.func15, Tryz.ntmps15
  go_wp2_with fail
  go_ret
  exact ⟨_, by omega, rfl, ⟨k, by omega, hs⟩, World.grownBy.refl _ _⟩

set_option maxHeartbeats 1000000 in
theorem ChangedD_some (t d : ByteArray) (m D : Nat) (ht : t.size ≤ m) (hd : d.size ≤ D) (hD : 4 ≤ D ∧ D ≤ 1000) (hm : m ≤ 1000000000) (B g k : Nat) (hk : k < 100000000000) (w : World) (hs : Strm w B g k)
    (h1 : (t.toList.isEmpty) = false) (h2 : (d.toList.isEmpty) = false) (hp1 : 0 < t.size) (hp2 : 0 < d.size) :
    Calls Tryz.prog 15 #[.pointer (some ⟨g, 0, none⟩), .string t, .string d] w (TookS (m + D) B g (k + 3) w) := by
  obtain ⟨hD1, hD2⟩ := hD
  go_enter Tryz.func15, Tryz.ntmps15
  go_wp2_with fail
  refine (Next_any _ (by omega) (by omega) B g k (by omega) _ hs).mono ?_
  rintro e w1 ⟨r, hr1, hr2, rfl, hs1, hg1⟩
  obtain ⟨i, rfl⟩ := Int.eq_ofNat_of_zero_le hr1
  go_wp2_with fail
  refine (Next_any _ (by omega) (by omega) B g (k + 1) (by omega) _ hs1).mono ?_
  rintro e w2 ⟨r, hr3, hr4, rfl, hs2, hg2⟩
  obtain ⟨j, rfl⟩ := Int.eq_ofNat_of_zero_le hr3
  go_wp2_with fail
  refine (Next_any _ (by omega) (by omega) B g (k + 2) (by omega) _ hs2).mono ?_
  rintro e w3 ⟨r, hr5, hr6, rfl, hs3, hg3⟩
  go_wp2_with fail
  all_goals have hb : d[j].toNat < 256 := UInt8.toNat_lt _
  all_goals have hu := encode_size_le (d[j].toNat : Int)
  all_goals go_quiet (fail)
  all_goals go_wp2_with fail
  all_goals go_ret
  all_goals refine ⟨_, ?_, rfl, ⟨k + 3, by omega, hs3.drewN _⟩, only_drewN ((hg1.trans hg2).trans hg3) _⟩
  all_goals (simp only [ByteArray.size_append, ByteArray.size_extract]; omega)
theorem ChangedD_any (t d : ByteArray) (m D : Nat) (ht : t.size ≤ m) (hd : d.size ≤ D) (hD : 4 ≤ D ∧ D ≤ 1000) (hm : m ≤ 1000000000) (h2 : (d.toList.isEmpty) = false) (hp2 : 0 < d.size) (B g k : Nat) (hk : k < 100000000000) (w : World) (hs : Strm w B g k) :
    Calls Tryz.prog 15 #[.pointer (some ⟨g, 0, none⟩), .string t, .string d] w (TookS (m + D) B g (k + 3) w) := by
  by_cases h : t.toList = []
  · exact ChangedD_nil t d m D hd B g k w hs h
  · have h1 : t.toList.isEmpty = false := by simpa using h
    have hp : 0 < t.size := by
      rcases Nat.eq_zero_or_pos t.size with e | e
      · exact absurd (by rw [ByteArray.toList_eq]; exact List.eq_nil_of_length_eq_zero (by simpa using e)) h
      · exact e
    exact ChangedD_some t d m D ht hd hD hm B g k hk w hs h1 h2 hp hp2
end Go.Proofs.YtndeifdpiimbeaaGreatDoor
/- A slice of ints that came in; the stream over it. -/
namespace Go.Proofs.YtndeifdpiimbeaaGreatDoor
open Go.RowKit

/-- a slice of ints below block B -/
def Ints (w : World) (B : Nat) (A : Option Addr) (n : Nat) : Prop := n ≤ 9223372036854775807 ∧ (0 < n → ∃ b off, A = some ⟨b, off, none⟩ ∧ b < B ∧ ∀ i, i < n → ∃ z, w.cell? ⟨b, off + i, none⟩ = some (.int .i64 z) ∧ -9223372036854775808 ≤ z ∧ z ≤ 9223372036854775807)
theorem Ints.strm {w : World} {A : Option Addr} {n cap : Nat} (h : Ints w w.heap.size A n) : Strm (w.alloc (.cells #[.slice A n cap, .int .i64 0] 25)) w.heap.size w.heap.size 0 := by
  refine ⟨A, n, cap, heap_alloc_new w _, Nat.le_refl _, h.1, fun hn => ?_⟩
  obtain ⟨b, off, e, hb, hc⟩ := h.2 hn
  refine ⟨b, off, e, hb, fun i hi => ?_⟩
  obtain ⟨z, hz, hz'⟩ := hc i hi
  exact ⟨z, (World.cell?_of_block (w := w) (a := ⟨b, off + i, none⟩) (Below.heap_alloc w _ b hb)).trans hz, hz'⟩
end Go.Proofs.YtndeifdpiimbeaaGreatDoor
