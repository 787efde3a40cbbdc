/- Rows of pairs of numbers of the call's own, of whatever type; slices.Index at strings. -/
import Derived.Test.YtndeifdpiimbeaaGreatDoorTab0
import Derived.Laws.OwnMore
import Derived.Lib.FieldsP
namespace Go.Proofs.YtndeifdpiimbeaaGreatDoor
open Go.RowKit

/-- a type of two numbers, and the slices of it -/
def Two (st et : TypeId) : Prop := Tryz.prog.underlying st = some (.slice et) ∧ (Tryz.prog.info? et).map (fun i => (i.zero, i.size, i.bytes)) = some (some (.agg #[.int .i64 0, .int .i64 0]), 2, 16)
/-- v is a row of the pairs L in a block from base on -/
def OwnQ (et : TypeId) (w : World) (base : Nat) (v : Value) (L : List (Nat × Nat)) : Prop := w.ownsRow base et 2 v L.length (Lib.spanCells L)
section
variable {et : TypeId} {w w' : World} {base : Nat} {v : Value} {l : List (Nat × Nat)}
theorem OwnQ.lt (h : OwnQ et w base v l) : ∀ k, v.ownBlock = some k → base ≤ k ∧ k < w.heap.size := fun k hk => World.ownsRow.lt h k hk
theorem OwnQ.alloc (h : OwnQ et w base v l) (o : Obj) : OwnQ et (w.alloc o) base v l := World.ownsRow.alloc h o
theorem OwnQ.nil (et : TypeId) (w : World) (base : Nat) : OwnQ et w base (.slice none 0 0) [] := ⟨rfl, .inl ⟨rfl, rfl⟩⟩
theorem OwnQ.below (h : OwnQ et w base v l) (hb : Below w.heap.size w w') : OwnQ et w' base v l := by
  refine ⟨h.1, ?_⟩
  rcases h.2 with h2 | ⟨g, cap, cur, rfl, hg, hh, r⟩
  · exact .inl h2
  · exact .inr ⟨g, cap, cur, rfl, hg, (hb.block g (h.lt g (by simp [Value.ownBlock])).2).trans hh, r⟩
theorem OwnQ.drewN (h : OwnQ et w base v l) (n : Nat) : OwnQ et (w.drewN n) base v l := h
theorem OwnQ.less {b' : Nat} (h : OwnQ et w base v l) (hB : b' ≤ base) : OwnQ et w b' v l := by
  refine ⟨h.1, ?_⟩
  rcases h.2 with h2 | ⟨g, cap, cur, rfl, hg, r⟩
  · exact .inl h2
  · exact .inr ⟨g, cap, cur, rfl, by omega, r⟩
theorem OwnQ.form (h : OwnQ et w base v l) : ∃ (A : Option Addr) (cap : Nat), v = .slice A l.length cap ∧ l.length ≤ 9223372036854775807 ∧ (0 < l.length → ∃ g, A = some ⟨g, 0, none⟩ ∧ base ≤ g ∧ g < w.heap.size ∧ ∀ j x, l[j]? = some x → w.cell? ⟨g, j * 2, none⟩ = some (.int .i64 x.1) ∧ w.cell? ⟨g, j * 2 + 1, none⟩ = some (.int .i64 x.2)) := by
  rcases h.2 with ⟨rfl, h2⟩ | ⟨g, cap, cur, rfl, hg, hh, hn, hc, hsz, ht⟩
  · exact ⟨none, 0, by rw [h2], by omega, fun h0 => by omega⟩
  · refine ⟨_, cap, rfl, by unfold maxLen at hc; omega, fun _ => ⟨g, rfl, hg, (h.lt g (by simp [Value.ownBlock])).2, fun j x hx => ?_⟩⟩
    have hj : j < l.length := (List.getElem?_eq_some_iff.1 hx).1
    obtain ⟨h1, h2⟩ := Lib.spanCells_at l j x hx
    exact ⟨(World.ownsRow.cellAt h (j * 2) (by omega)).trans h1, (World.ownsRow.cellAt h (j * 2 + 1) (by omega)).trans h2⟩
end
/-- append of a pair that was just laid -/
theorem app_pair {ops : Array Oper} {rest : List Oper} {o : Oper} {a : Act} {Q : Exit → Act → World → Prop} {st et : TypeId} (ht : Two st et) (w : World) (hgd : o.guard = none) (sl x : Operand)
    (ho : o.op = .call { callee := .builtin .append, args := #[sl, x], argTypes := #[st, st] }) (base : Nat) (v : Value) (L : List (Nat × Nat)) (hs : a.eval sl = v) (hown : OwnQ et w base v L) (ad : Addr) (p q : Nat) (hx : a.eval x = .slice (some ad) 1 1)
    (h : ∀ v' w', OwnQ et w' base v' (L ++ [(p, q)]) → w.grownBy w' v.ownBlock → wpList Tryz.prog ops Q rest (a.put o.dst v') w')
    (hnews : ∀ j u, [Value.int .i64 p, Value.int .i64 q][j]? = some u → w.cell? (ad.add j) = some u) (hb : L.length ≤ 1000000000000) (hbase : base ≤ w.heap.size) : wpList Tryz.prog ops Q (o :: rest) a w := by
  obtain ⟨i0, hi, hz0, hz1, hz2⟩ := info_parts ht.2
  refine wpList_append_own w hgd sl x _ ho base et i0 _ 2 16 ht.1 hi hz0 hz1 hz2 rfl (by omega) v L.length (Lib.spanCells L) hs hown ad 1 1 [Value.int .i64 p, Value.int .i64 q] hx rfl hnews ?_ (by unfold maxLen; omega) (by omega) hbase ?_
  · intro u hu
    simp at hu
    rcases hu with rfl | rfl <;> rfl
  intro v' w' h1 h2 _
  refine h v' w' ?_ h2
  unfold OwnQ
  rw [Lib.spanCells_snoc, List.length_append]
  exact h1
theorem lits_pair (w : World) (p q : Nat) (t : TypeId) : ∀ j u, [Value.int .i64 p, Value.int .i64 q][j]? = some u → (w.alloc (.cells #[Value.int .i64 p, Value.int .i64 q] t)).cell? ((⟨w.heap.size, 0, none⟩ : Addr).add j) = some u := by
  intro j u h
  have e : (⟨w.heap.size, 0, none⟩ : Addr).add j = ⟨w.heap.size, j, none⟩ := by unfold Addr.add; split <;> simp_all
  rw [e, cell_of_row _ _ j _ _ _ (heap_alloc_new w _)]
  simpa using h
/-- a row of strings that can be read from an address on -/
def RdO (w : World) (A : Option Addr) (l : List ByteArray) : Prop := 0 < l.length → ∃ g off, A = some ⟨g, off, none⟩ ∧ g < w.heap.size ∧ ∀ j s, l[j]? = some s → w.cell? ⟨g, off + j, none⟩ = some (.string s)
theorem Rd.drop {w : World} {A : Option Addr} {l : List ByteArray} (h : Rd w A l) (lo : Nat) : RdO w (Option.map (fun x => x.add lo) A) (l.drop lo) := fun h0 => by
  simp at h0
  obtain ⟨g, rfl, hg, hc⟩ := h (by omega)
  refine ⟨g, lo, by simp [Addr.add]; omega, hg, fun j s hs => ?_⟩
  rw [List.getElem?_drop] at hs
  exact hc _ s hs
theorem RdO.take {w : World} {A : Option Addr} {l : List ByteArray} (h : RdO w A l) (n : Nat) : RdO w A (l.take n) := fun h0 => by
  rw [List.length_take] at h0
  obtain ⟨g, off, rfl, hg, hc⟩ := h (by omega)
  refine ⟨g, off, rfl, hg, fun j s hs => hc j s ?_⟩
  rw [List.getElem?_take] at hs
  split at hs
  · exact hs
  · cases hs
theorem RdO.none_ (w : World) (A : Option Addr) (l : List ByteArray) (h : l.length = 0) : RdO w A l := fun h0 => by omega
theorem RdO.below {w w' : World} {A : Option Addr} {l : List ByteArray} (h : RdO w A l) (hb : Below w.heap.size w w') : RdO w' A l := fun h0 => by
  obtain ⟨g, off, e, hl, hc⟩ := h h0
  exact ⟨g, off, e, Nat.lt_of_lt_of_le hl hb.size, fun j s hs => (hb.cell (p := ⟨g, off + j, none⟩) hl).trans (hc j s hs)⟩
end Go.Proofs.YtndeifdpiimbeaaGreatDoor
