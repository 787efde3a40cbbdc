/- Contracts of slices.Sort and slices.Compact at rows of strings of the call's own; of strings.Join at a part of such a row. -/
import Derived.Test.YtndeifdpiimbeaaGreatDoorRowS
import Derived.Test.YtndeifdpiimbeaaGreatDoorPlain
import Derived.Test.YtndeifdpiimbeaaGreatDoorBld
import Derived.Test.YtndeifdpiimbeaaGreatDoorLays
import Derived.Sort.OwnSorted
import Derived.Shelf.Sort.Plain
import Derived.Shelf.Slices.CompactS
import Derived.Shelf.Strings.OnBuilder
namespace WM
def bl (l : List ByteArray) : List (List UInt8) := l.map (·.data.toList)
def toB (l : List (List UInt8)) : List ByteArray := l.map fun x => ⟨x.toArray⟩
theorem toB_bl (l : List ByteArray) : toB (bl l) = l := by
  induction l with
  | nil => rfl
  | cons x l ih => simp only [toB, bl, List.map_cons] at ih ⊢; rw [ih]
theorem compact_len (l : List (List UInt8)) : (Go.Lib.compact l).length ≤ l.length := by
  unfold Go.Lib.compact Go.Lib.compactUpTo
  rw [List.length_map]
  have := List.length_filter_le (Go.Lib.keeps l.toArray) (List.range l.length)
  simpa using this
theorem bl_toB (l : List (List UInt8)) : bl (toB l) = l := by simp [toB, bl, Function.comp_def]
theorem bl_len (l : List ByteArray) : (bl l).length = l.length := by simp [bl]
theorem toB_len (l : List (List UInt8)) : (toB l).length = l.length := by simp [toB]
def sortS (l : List ByteArray) : List ByteArray := toB ((bl l).mergeSort fun x y => decide (x ≤ y))
theorem sortS_len (l : List ByteArray) : (sortS l).length = l.length := by simp [sortS, toB_len, bl_len]
def compS (l : List ByteArray) : List ByteArray := toB (Go.Lib.compact (bl l))
theorem join_len : ∀ l : List ByteArray, (Go.Lib.join (bl l) [32]).length ≤ wt l
  | [] => by simp [bl, Go.Lib.join_nil]
  | [x] => by simp [bl, Go.Lib.join_one, wt]
  | x :: y :: l => by
    have ih := join_len (y :: l)
    simp only [Go.Lib.join, bl, List.map_cons] at ih ⊢
    rw [List.intercalate_cons_cons]
    simp [wt] at ih ⊢
    omega
def joinB (l : List ByteArray) : ByteArray := ⟨(Go.Lib.join (bl l) [32]).toArray⟩
end WM
namespace Go.Proofs.YtndeifdpiimbeaaGreatDoor
open Go.RowKit Go.Sort

theorem svs_bl (l : List ByteArray) : svs l = (WM.bl l).map encStr := by simp [svs, WM.bl, Function.comp_def, encStr]
theorem svs_toB (l : List (List UInt8)) : svs (WM.toB l) = l.map encStr := by simp [svs, WM.toB, Function.comp_def]
/-- the row has been sorted where it lies -/
def SortedAt (base : Nat) (v : Value) (l : List ByteArray) (w : World) (e : Ending) (w' : World) : Prop := e = .returned (.tuple #[]) ∧ OwnS w' base v (WM.sortS l) ∧ w.grownBy w' v.ownBlock
theorem SortS_any {w : World} {base : Nat} {v : Value} {l : List ByteArray} (h : OwnS w base v l) (h0 : 0 < l.length) (hl : l.length ≤ 1000000000000) :
    Calls Tryz.prog 60 #[v] w (SortedAt base v l w) := by
  rcases h.2 with ⟨rfl, h2⟩ | ⟨g, cap, cur, rfl, hg, hh, hn, hc, hsz, ht⟩
  · omega
  · have hgl : g < w.heap.size := (Array.getElem?_eq_some_iff.1 hh).1
    have hH : Holds encStr w g 0 (WM.bl l).toArray := holds_of_block hh (by rw [WM.bl_len, ← svs_bl]; simpa using ht)
    have c := Any.slices_Sort_string Tryz.lays190 g 0 cap (WM.bl l) w hH hgl (by rw [WM.bl_len]; omega)
    rw [WM.bl_len] at c
    refine c.mono ?_
    rintro e w' ⟨rfl, n, os, rfl⟩
    have ho := ownsRow_sorted (ss := WM.bl l) (ts := (WM.bl l).mergeSort fun x y => decide (x ≤ y)) (n := n) (os := os) (by simp) hg hh (by rw [WM.bl_len]; exact hn) hc hsz
    refine ⟨rfl, ?_, grownBy_sorted _⟩
    unfold OwnS
    rw [WM.sortS, svs_toB, WM.toB_len, List.length_mergeSort, WM.bl_len]
    rw [WM.bl_len] at ho
    exact ho
/-- a part of the row from its head on -/
theorem ownsRow_head {w : World} {base g cap n m : Nat} {e : TypeId} {xs : List Value} (h : w.ownsRow base e 1 (.slice (some ⟨g, 0, none⟩) n cap) n xs) (hm : m ≤ n) : w.ownsRow base e 1 (.slice (some ⟨g, 0, none⟩) m cap) m (xs.take m) := by
  rcases h.2 with ⟨h1, _⟩ | ⟨g', cap', cur, h1, hg, hh, hn, hc, hsz, ht⟩
  · cases h1
  · injection h1 with h1 h2 h3
    injection h1 with h1
    injection h1 with h1
    subst h1
    subst h3
    have hl : xs.length = n := by have := h.1; omega
    refine ⟨by simp; omega, .inr ⟨g, cap, cur, rfl, hg, hh, by omega, hc, hsz, ?_⟩⟩
    rw [← ht, Nat.mul_one, Nat.mul_one, List.take_take, Nat.min_eq_left hm]
/-- a row of the strings l in the same block is answered -/
def CompAt (base : Nat) (v : Value) (l : List ByteArray) (w : World) (e : Ending) (w' : World) : Prop := ∃ v', e = .returned v' ∧ OwnS w' base v' l ∧ w.grownBy w' v.ownBlock ∧ (0 < l.length → v'.ownBlock = v.ownBlock)
theorem putRow_own {w : World} {base g cap q : Nat} {cur : Array Value} {e : TypeId} {ss ts : List (List UInt8)} (hl : ts.length = ss.length) (hbase : base ≤ g) (hb : w.heap[g]? = some (.cells cur e (0, 0))) (h1 : ss.length ≤ cap) (h2 : cap ≤ maxLen) (h3 : cur.size = cap * 1) :
    (putRow encStr (Sort.ahead w q) g 0 ts.toArray).ownsRow base e 1 (.slice (some ⟨g, 0, none⟩) ss.length cap) ss.length (ts.map encStr) ∧ w.grownBy (putRow encStr (Sort.ahead w q) g 0 ts.toArray) (some g) := by
  have a := ownsRow_sorted (n := q) (os := #[]) hl hbase hb h1 h2 h3
  have b := grownBy_sorted (w := w) (g := g) (n := q) (os := #[]) ts.toArray
  have e0 : ∀ W : World, grow W #[] = W := fun W => by simp [grow]
  rw [e0] at a b
  exact ⟨a, b⟩
theorem CompS_any {w : World} {base : Nat} {v : Value} {l : List ByteArray} (h : OwnS w base v l) (h0 : 0 < l.length) :
    Calls Tryz.prog 61 #[v] w (CompAt base v (WM.compS l) w) := by
  rcases h.2 with ⟨rfl, h2⟩ | ⟨g, cap, cur, rfl, hg, hh, hn, hc, hsz, ht⟩
  · omega
  · have hgl : g < w.heap.size := (Array.getElem?_eq_some_iff.1 hh).1
    have hH : Holds encStr w g 0 (WM.bl l).toArray := holds_of_block hh (by rw [WM.bl_len, ← svs_bl]; simpa using ht)
    have c := Any.slices_Compact_string Tryz.lays194 g 0 cap (WM.bl l) w hH (by rw [WM.bl_len]; unfold maxLen at hc; omega) (by rw [WM.bl_len]; exact hn)
    rw [WM.bl_len] at c
    refine c.mono ?_
    rintro e w' ⟨rfl, q, rfl⟩
    have hcl : (Lib.compact (WM.bl l)).length ≤ l.length := by have := WM.compact_len (WM.bl l); rwa [WM.bl_len] at this
    obtain ⟨ho, hg'⟩ := putRow_own (ss := WM.bl l) (ts := Lib.compact (WM.bl l) ++ List.replicate (l.length - (Lib.compact (WM.bl l)).length) []) (q := q) (by simp [WM.bl_len]; omega) hg hh (by rw [WM.bl_len]; exact hn) hc hsz
    refine ⟨_, rfl, ?_, hg', fun _ => rfl⟩
    rw [WM.bl_len] at ho
    have hh2 := ownsRow_head ho hcl
    unfold OwnS
    rw [WM.compS, svs_toB, WM.toB_len]
    rw [List.map_append, List.take_append_of_le_length (by simp), List.take_of_length_le (by simp)] at hh2
    exact hh2
theorem JoinS_any (g o c : Nat) (l : List ByteArray) (w : World) (hc : ∀ (j : Nat) x, l[j]? = some x → w.cell? ⟨g, o + j, none⟩ = some (.string x)) (hg : g < w.heap.size) (hw : WM.wt l ≤ 1000000000000) (hcap : l.length ≤ c) :
    Calls Tryz.prog 59 #[.slice (some ⟨g, o, none⟩) l.length c, .string ⟨#[32]⟩] w fun e w' => e = .returned (.string (WM.joinB l)) ∧ Below w.heap.size w w' :=
  Any.strings_Join Tryz.lays156 (Tryz.extra _ rfl rfl) g o c l ⟨#[32]⟩ w hc hg (by have := WM.wt_len l; omega) hcap (by have := WM.join_len l; exact Nat.le_trans this (by omega))
end Go.Proofs.YtndeifdpiimbeaaGreatDoor
