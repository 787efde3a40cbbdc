/- Contracts of the small makers: some10, Flip, odd10, itemId, ItemText. -/
import Derived.Test.YthhfbcddjnjllaaGreatDoorStream
import Derived.IntWalk
namespace Go.Proofs.YthhfbcddjnjllaaGreatDoor
open Go.RowKit

/-- a string of at most m bytes; of what was there only the stream has turned -/
def TookS (m : Nat) (B g k : Nat) (w : World) (e : Ending) (w' : World) : Prop := ∃ s : ByteArray, s.size ≤ m ∧ e = .returned (.string s) ∧ (∃ k', k' ≤ k ∧ Strm w' B g k') ∧ w.grownBy w' (some g)
theorem tookS_of {m B g k k' : Nat} {s : ByteArray} {w w' : World} (hm : s.size ≤ m) (hs : Strm w' B g k') (hk : k' ≤ k) (hg : w.grownBy w' (some g)) : TookS m B g k w (.returned (.string s)) w' := ⟨s, hm, rfl, ⟨k', hk, hs⟩, hg⟩
def strV (m : Nat) (v : Value) : Bool := match v with | .string u => decide (u.size ≤ m) | _ => false
theorem strV_at {m : Nat} {cs : List Value} (h : cs.all (strV m) = true) {i : Nat} (hi : i < cs.length) : ∃ u : ByteArray, cs[i]? = some (.string u) ∧ u.size ≤ m := by
  have := List.all_eq_true.1 h cs[i] (List.getElem_mem hi)
  rw [List.getElem?_eq_getElem hi]
  revert this
  generalize cs[i] = v
  cases v <;> intro this <;> first | exact ⟨_, rfl, of_decide_eq_true this⟩ | cases this

set_option maxHeartbeats 400000 in
theorem some10_any (n : Nat) (cs : List Value) (m : Nat) (b : Nat) (t : TypeId) (B g k : Nat) (w : World) (hs : Strm w B g k) (hb : w.heap[b]? = some (.cells cs.toArray t (0, 0))) (hn : cs.length = n) (h0 : 0 < n) (h1 : n ≤ 1000000) (hcs : cs.all (strV m) = true) (hk : k < 1000000000000) (hne : b ≠ g) :
    Calls Tryz.prog 68 #[.pointer (some ⟨g, 0, none⟩), .slice (some ⟨b, 0, none⟩) n n] w (TookS m B g (k + 1) w) := by
  have hbl : b < w.heap.size := by
    rcases Nat.lt_or_ge b w.heap.size with hlt | hge
    · exact hlt
    · rw [Array.getElem?_eq_none hge] at hb; cases hb
  have Hb := Lib.hid hb
  have HC := Lib.hid hcs
  have HN := Lib.hid hn
  clear hb hcs hn
  go_enter Tryz.func68, Tryz.ntmps68
  go_wp2_with fail
  refine (Next_any _ (by omega) (by omega) B g k hk _ hs).mono ?_
  rintro e w' ⟨r, hr1, hr2, rfl, hs1, hg1⟩
  obtain ⟨i, rfl⟩ := Int.eq_ofNat_of_zero_le hr1
  have hi : i < n := by omega
  obtain ⟨u, hu, hm⟩ := strV_at HC.out (i := i) (by have := HN.out; omega)
  have hc : w'.cell? ⟨b, i, none⟩ = some (.string u) := by
    rw [cell_of_row w' b i _ t (0, 0) ((hg1.block b hbl (by simpa using hne)).trans Hb.out)]
    simpa using hu
  clear hu
  go_wp2_with fail
  go_ret
  exact tookS_of hm hs1 (Nat.le_refl _) hg1

/-- one of some numbers, all of them at least lo and at most hi -/
def TookN (lo hi : Int) (B g k : Nat) (w : World) (e : Ending) (w' : World) : Prop := ∃ r : Int, lo ≤ r ∧ r ≤ hi ∧ e = .returned (.int .i64 r) ∧ (∃ k', k' ≤ k ∧ Strm w' B g k') ∧ w.grownBy w' (some g)
theorem tookN_of {lo hi r : Int} {B g k k' : Nat} {w w' : World} (h1 : lo ≤ r) (h2 : r ≤ hi) (hs : Strm w' B g k') (hk : k' ≤ k) (hg : w.grownBy w' (some g)) : TookN lo hi B g k w (.returned (.int .i64 r)) w' := ⟨r, h1, h2, rfl, ⟨k', hk, hs⟩, hg⟩
def intV (lo hi : Int) (v : Value) : Bool := match v with | .int .i64 z => decide (lo ≤ z) && decide (z ≤ hi) | _ => false
theorem intV_at {lo hi : Int} {cs : List Value} (h : cs.all (intV lo hi) = true) {i : Nat} (hi' : i < cs.length) : ∃ z : Int, cs[i]? = some (.int .i64 z) ∧ lo ≤ z ∧ z ≤ hi := by
  have := List.all_eq_true.1 h cs[i] (List.getElem_mem hi')
  rw [List.getElem?_eq_getElem hi']
  revert this
  generalize cs[i] = v
  cases v with
  | int k z => cases k <;> intro this <;> first | exact ⟨_, rfl, by simpa [intV] using this⟩ | cases this
  | _ => intro this; cases this

set_option maxHeartbeats 400000 in
theorem pick_any (n : Nat) (cs : List Value) (lo hi : Int) (b : Nat) (t : TypeId) (B g k : Nat) (w : World) (hs : Strm w B g k) (hb : w.heap[b]? = some (.cells cs.toArray t (0, 0))) (hn : cs.length = n) (h0 : 0 < n) (h1 : n ≤ 1000000) (hcs : cs.all (intV lo hi) = true) (hk : k < 1000000000000) (hne : b ≠ g) :
    Calls Tryz.prog 55 #[.pointer (some ⟨g, 0, none⟩), .slice (some ⟨b, 0, none⟩) n n] w (TookN lo hi B g (k + 1) w) := by
  have hbl : b < w.heap.size := by
    rcases Nat.lt_or_ge b w.heap.size with hlt | hge
    · exact hlt
    · rw [Array.getElem?_eq_none hge] at hb; cases hb
  have Hb := Lib.hid hb
  have HC := Lib.hid hcs
  have HN := Lib.hid hn
  clear hb hcs hn
  go_enter Tryz.func55, Tryz.ntmps55
  go_wp2_with fail
  refine (Next_any _ (by omega) (by omega) B g k hk _ hs).mono ?_
  rintro e w' ⟨r, hr1, hr2, rfl, hs1, hg1⟩
  obtain ⟨i, rfl⟩ := Int.eq_ofNat_of_zero_le hr1
  have hi' : i < n := by omega
  obtain ⟨z, hu, hm1, hm2⟩ := intV_at HC.out (i := i) (by have := HN.out; omega)
  have HM := Lib.hid (And.intro hm1 hm2)
  clear hm1 hm2
  have hc : w'.cell? ⟨b, i, none⟩ = some (.int .i64 z) := by
    rw [cell_of_row w' b i _ t (0, 0) ((hg1.block b hbl (by simpa using hne)).trans Hb.out)]
    simpa using hu
  clear hu
  go_wp2_with fail
  go_ret
  exact tookN_of HM.out.1 HM.out.2 hs1 (Nat.le_refl _) hg1

theorem took_new {m B g k : Nat} {wr : World} {o : Obj} {e : Ending} {w' : World} (h : TookS m B g k (wr.alloc o) e w') : TookS m B g k wr e w' := by
  obtain ⟨s, h1, h2, h3, h4⟩ := h
  exact ⟨s, h1, h2, h3, (World.grownBy_alloc _ _ _).trans h4⟩
theorem tookN_new {lo hi : Int} {B g k : Nat} {wr : World} {o : Obj} {e : Ending} {w' : World} (h : TookN lo hi B g k (wr.alloc o) e w') : TookN lo hi B g k wr e w' := by
  obtain ⟨s, h1, h1', h2, h3, h4⟩ := h
  exact ⟨s, h1, h1', h2, h3, (World.grownBy_alloc _ _ _).trans h4⟩
/-- some10 at a row that was just made -/
theorem some10_new (n : Nat) (cs : List Value) (m : Nat) (t : TypeId) (B g k : Nat) (wr : World) (hs : Strm wr B g k) (hn : cs.length = n) (h0 : 0 < n) (h1 : n ≤ 1000000) (hcs : cs.all (strV m) = true) (hk : k < 1000000000000) :
    Calls Tryz.prog 68 #[.pointer (some ⟨g, 0, none⟩), .slice (some ⟨wr.heap.size, 0, none⟩) n n] (wr.alloc (.cells cs.toArray t)) (TookS m B g (k + 1) wr) :=
  (some10_any n cs m wr.heap.size t B g k _ (hs.alloc _) (heap_alloc_new wr _) hn h0 h1 hcs hk (by have := hs.lt; omega)).mono fun _ _ h => took_new h
theorem pick_new (n : Nat) (cs : List Value) (lo hi : Int) (t : TypeId) (B g k : Nat) (wr : World) (hs : Strm wr B g k) (hn : cs.length = n) (h0 : 0 < n) (h1 : n ≤ 1000000) (hcs : cs.all (intV lo hi) = true) (hk : k < 1000000000000) :
    Calls Tryz.prog 55 #[.pointer (some ⟨g, 0, none⟩), .slice (some ⟨wr.heap.size, 0, none⟩) n n] (wr.alloc (.cells cs.toArray t)) (TookN lo hi B g (k + 1) wr) :=
  (pick_any n cs lo hi wr.heap.size t B g k _ (hs.alloc _) (heap_alloc_new wr _) hn h0 h1 hcs hk (by have := hs.lt; omega)).mono fun _ _ h => tookN_new h

/-- yes or no -/
def TookB (B g k : Nat) (w : World) (e : Ending) (w' : World) : Prop := ∃ b : Bool, e = .returned (.bool b) ∧ Strm w' B g k ∧ w.grownBy w' (some g)
theorem tookB_of {b : Bool} {B g k : Nat} {w w' : World} (hs : Strm w' B g k) (hg : w.grownBy w' (some g)) : TookB B g k w (.returned (.bool b)) w' := ⟨b, rfl, hs, hg⟩
set_option maxHeartbeats 400000 in
theorem Flip_any (n : Int) (h1 : 1 ≤ n) (h2 : n ≤ 9223372036854775807) (B g k : Nat) (hk : k < 1000000000000) (w : World) (hs : Strm w B g k) :
    Calls Tryz.prog 44 #[.pointer (some ⟨g, 0, none⟩), .int .i64 n] w (TookB B g (k + 1) w) := by
  go_enter Tryz.func44, Tryz.ntmps44
  go_wp2_with fail
  refine (Next_any _ h1 h2 B g k hk _ hs).mono ?_
  rintro e w' ⟨r, hr1, hr2, rfl, hs1, hg1⟩
  go_wp2_with fail
  go_ret
  exact tookB_of hs1 hg1

theorem odd_all {lo hi : Int} (h0 : -1000000000000 ≤ lo) (h1 : lo ≤ hi) (h2 : hi ≤ 1000000000000) : List.all [Value.int .i64 (lo - 1), .int .i64 (hi + 1), .int .i64 lo, .int .i64 hi, .int .i64 (-1099511627776), .int .i64 1099511627776] (intV (-2000000000000) 2000000000000) = true := by
  simp only [List.all_cons, List.all_nil, intV, Bool.and_true, Bool.and_eq_true, decide_eq_true_eq]; omega
set_option maxHeartbeats 400000 in
theorem odd10_any (lo hi : Int) (h0 : -1000000000000 ≤ lo) (h1 : lo ≤ hi) (h2 : hi ≤ 1000000000000) (B g k : Nat) (hk : k < 100000000000) (w : World) (hs : Strm w B g k) :
    Calls Tryz.prog 70 #[.pointer (some ⟨g, 0, none⟩), .int .i64 lo, .int .i64 hi] w (TookN (-2000000000000) 2000000000000 B g (k + 2) w) := by
  go_enter Tryz.func70, Tryz.ntmps70
  go_wp2_with fail
  refine (Flip_any _ (by omega) (by omega) B g k (by omega) _ hs).mono ?_
  rintro e w1 ⟨b, rfl, hs1, hg1⟩
  cases b
  · go_wp2_with fail
    refine (Range_any _ _ h0 h1 h2 B g (k + 1) (by omega) _ hs1).mono ?_
    rintro e w2 ⟨r, hr1, hr2, rfl, hs2, hg2⟩
    go_wp2_with fail
    go_ret
    exact tookN_of (by omega) (by omega) hs2 (by omega) (hg1.trans hg2)
  · go_wp2_with fail
    have hlt := hs1.lt
    have hP := fun t => pick_any 6 [.int .i64 (lo - 1), .int .i64 (hi + 1), .int .i64 lo, .int .i64 hi, .int .i64 (-1099511627776), .int .i64 1099511627776] (-2000000000000) 2000000000000 w1.heap.size t B g (k + 1) _ (hs1.alloc _) (heap_alloc_new w1 _) rfl (by omega) (by omega) (odd_all h0 h1 h2) (by omega) (by omega)
    refine (hP _).mono ?_
    rintro e w2 ⟨r, hr1, hr2, rfl, ⟨k', hk', hs2⟩, hg2⟩
    go_wp2_with fail
    go_ret
    exact tookN_of hr1 hr2 hs2 (by omega) (hg1.trans ((World.grownBy_alloc _ _ _).trans hg2))
end Go.Proofs.YthhfbcddjnjllaaGreatDoor
