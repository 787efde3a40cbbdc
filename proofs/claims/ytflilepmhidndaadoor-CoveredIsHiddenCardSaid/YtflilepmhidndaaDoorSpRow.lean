/- Rows of spans of the call's own, of whatever numbers; append, a store to the end of one. -/
import Derived.Test.YtflilepmhidndaaDoorBlk
import Derived.Laws.OwnMore
import Derived.OwnWalk
import Derived.Deep.OwnRows
namespace Go.Proofs.YtflilepmhidndaaDoor
open Go.RowKit

def icells (L : List (Int × Int)) : List Value := L.flatMap fun x => [Value.int .i64 x.1, Value.int .i64 x.2]
theorem icells_len (L : List (Int × Int)) : (icells L).length = L.length * 2 := by
  induction L with
  | nil => rfl
  | cons x t ih => simp [icells, List.flatMap_cons] at ih ⊢; omega
theorem icells_append (K L : List (Int × Int)) : icells (K ++ L) = icells K ++ icells L := by simp [icells]
theorem icells_cons (x : Int × Int) (L : List (Int × Int)) : icells (x :: L) = Value.int .i64 x.1 :: Value.int .i64 x.2 :: icells L := by simp [icells]
theorem icells_at : ∀ (L : List (Int × Int)) (i : Nat) (x : Int × Int), L[i]? = some x → (icells L)[i * 2]? = some (Value.int .i64 x.1) ∧ (icells L)[i * 2 + 1]? = some (Value.int .i64 x.2)
  | [], i, x, h => by simp at h
  | y :: t, 0, x, h => by
    simp at h
    subst h
    simp [icells]
  | y :: t, i + 1, x, h => by
    have ih := icells_at t i x (by simpa using h)
    rw [icells_cons, show (i + 1) * 2 = i * 2 + 1 + 1 by omega, show i * 2 + 1 + 1 + 1 = (i * 2 + 1) + 1 + 1 by omega]
    simpa using ih
theorem icells_set : ∀ (L : List (Int × Int)) (i : Nat) (p q z : Int), L[i]? = some (p, q) → (icells L).set (i * 2 + 1) (.int .i64 z) = icells (L.set i (p, z))
  | [], i, p, q, z, h => by simp at h
  | y :: t, 0, p, q, z, h => by
    simp at h
    subst h
    simp [icells]
  | y :: t, i + 1, p, q, z, h => by
    have ih := icells_set t i p q z (by simpa using h)
    rw [icells_cons, show (i + 1) * 2 + 1 = (i * 2 + 1) + 1 + 1 by omega, List.set_cons_succ, List.set_cons_succ, ih, List.set_cons_succ, icells_cons]
theorem icells_set0 : ∀ (L : List (Int × Int)) (i : Nat) (p q z : Int), L[i]? = some (p, q) → (icells L).set (i * 2) (.int .i64 z) = icells (L.set i (z, q))
  | [], i, p, q, z, h => by simp at h
  | y :: t, 0, p, q, z, h => by
    simp at h
    subst h
    simp [icells]
  | y :: t, i + 1, p, q, z, h => by
    have ih := icells_set0 t i p q z (by simpa using h)
    rw [icells_cons, show (i + 1) * 2 = (i * 2) + 1 + 1 by omega, List.set_cons_succ, List.set_cons_succ, ih, List.set_cons_succ, icells_cons]
/-- v is a row of the spans L in a block from base on -/
def OwnI (w : World) (base : Nat) (v : Value) (L : List (Int × Int)) : Prop := w.ownsRow base 38 2 v L.length (icells L)
theorem info_spi : (Tryd.prog.info? 38).map (fun i => (i.zero, i.size, i.bytes)) = some (some (.agg #[.int .i64 0, .int .i64 0]), 2, 16) := by kernel_rfl
section
variable {w w' : World} {base : Nat} {v : Value} {L : List (Int × Int)}
theorem OwnI.lt (h : OwnI w base v L) : ∀ k, v.ownBlock = some k → base ≤ k ∧ k < w.heap.size := fun k hk => World.ownsRow.lt h k hk
theorem OwnI.base_le (h : OwnI w base v L) : ∀ k, v.ownBlock = some k → base ≤ k := fun k hk => (h.lt k hk).1
theorem OwnI.alloc (h : OwnI w base v L) (o : Obj) : OwnI (w.alloc o) base v L := World.ownsRow.alloc h o
theorem OwnI.nil (w : World) (base : Nat) : OwnI w base (.slice none 0 0) [] := ⟨rfl, .inl ⟨rfl, rfl⟩⟩
theorem OwnI.drewN (h : OwnI w base v L) (n : Nat) : OwnI (w.drewN n) base v L := h
theorem OwnI.below (h : OwnI w base v L) (hb : Below w.heap.size w w') : OwnI w' base v L := by
  refine ⟨h.1, ?_⟩
  rcases h.2 with h2 | ⟨g, cap, cur, rfl, hg, hh, r⟩
  · exact .inl h2
  · exact .inr ⟨g, cap, cur, rfl, hg, (hb.block g (h.lt g (by simp [Value.ownBlock])).2).trans hh, r⟩
theorem OwnI.less {b' : Nat} (h : OwnI w base v L) (hB : b' ≤ base) : OwnI w b' v L := by
  refine ⟨h.1, ?_⟩
  rcases h.2 with h2 | ⟨g, cap, cur, rfl, hg, r⟩
  · exact .inl h2
  · exact .inr ⟨g, cap, cur, rfl, by omega, r⟩
theorem OwnI.grown {row : Option Nat} (h : OwnI w base v L) (hg : w.grownBy w' row) (hr : ∀ k, v.ownBlock = some k → row ≠ some k) : OwnI w' base v L := by
  refine ⟨h.1, ?_⟩
  rcases h.2 with h2 | ⟨g, cap, cur, rfl, hgb, hh, r⟩
  · exact .inl h2
  · have hlt := (h.lt g (by simp [Value.ownBlock])).2
    exact .inr ⟨g, cap, cur, rfl, hgb, (hg.block g hlt (fun e => hr g (by simp [Value.ownBlock]) e.symm)).trans hh, r⟩
theorem OwnI.form (h : OwnI w base v L) : ∃ (A : Option Addr) (cap : Nat), v = .slice A L.length cap ∧ L.length ≤ 9223372036854775807 ∧ (0 < L.length → ∃ g, A = some ⟨g, 0, none⟩ ∧ base ≤ g ∧ g < w.heap.size ∧ (∀ i, w.frozen? ⟨g, i, none⟩ = false) ∧ ∀ j x, L[j]? = some x → w.cell? ⟨g, j * 2, none⟩ = some (.int .i64 x.1) ∧ w.cell? ⟨g, j * 2 + 1, none⟩ = some (.int .i64 x.2)) := by
  rcases h.2 with ⟨rfl, h2⟩ | ⟨g, cap, cur, rfl, hg, hh, hn, hc, hsz, ht⟩
  · exact ⟨none, 0, by rw [h2], by omega, fun h0 => by omega⟩
  · refine ⟨_, cap, rfl, by unfold maxLen at hc; omega, fun _ => ⟨g, rfl, hg, (h.lt g (by simp [Value.ownBlock])).2, fun i => by simp [World.frozen?, hh], fun j x hx => ?_⟩⟩
    have hj : j < L.length := (List.getElem?_eq_some_iff.1 hx).1
    obtain ⟨h1, h2⟩ := icells_at L j x hx
    exact ⟨(World.ownsRow.cellAt h (j * 2) (by omega)).trans h1, (World.ownsRow.cellAt h (j * 2 + 1) (by omega)).trans h2⟩
/-- the end of span number i is written -/
theorem OwnI.set {g n cap i : Nat} {p q : Int} (h : OwnI w base (.slice (some ⟨g, 0, none⟩) n cap) L) (hi : L[i]? = some (p, q)) (z : Int) : OwnI (w.setCell ⟨g, i * 2 + 1, none⟩ (.int .i64 z)) base (.slice (some ⟨g, 0, none⟩) n cap) (L.set i (p, z)) := by
  have hil : i < L.length := (List.getElem?_eq_some_iff.1 hi).1
  rcases h.2 with ⟨h1, h2⟩ | ⟨g', cap', cur, h1, hg, hh, hn, hc, hsz, ht⟩
  · omega
  · injection h1 with h1 h3 h4
    injection h1 with h1
    injection h1 with h1
    subst h1; subst h3; subst h4
    refine ⟨by rw [icells_len], .inr ⟨g, cap, cur.setIfInBounds (i * 2 + 1) (.int .i64 z), by simp, hg, ?_, by simpa using hn, hc, by simpa using hsz, ?_⟩⟩
    · simp [World.setCell, Array.getElem?_modify, hh]
    · rw [Array.toList_setIfInBounds, List.length_set, List.take_set, ht, icells_set L i p q z hi]
/-- the beginning of span number i is written -/
theorem OwnI.set0 {g n cap i : Nat} {p q : Int} (h : OwnI w base (.slice (some ⟨g, 0, none⟩) n cap) L) (hi : L[i]? = some (p, q)) (z : Int) : OwnI (w.setCell ⟨g, i * 2, none⟩ (.int .i64 z)) base (.slice (some ⟨g, 0, none⟩) n cap) (L.set i (z, q)) := by
  have hil : i < L.length := (List.getElem?_eq_some_iff.1 hi).1
  rcases h.2 with ⟨h1, h2⟩ | ⟨g', cap', cur, h1, hg, hh, hn, hc, hsz, ht⟩
  · omega
  · injection h1 with h1 h3 h4
    injection h1 with h1
    injection h1 with h1
    subst h1; subst h3; subst h4
    refine ⟨by rw [icells_len], .inr ⟨g, cap, cur.setIfInBounds (i * 2) (.int .i64 z), by simp, hg, ?_, by simpa using hn, hc, by simpa using hsz, ?_⟩⟩
    · simp [World.setCell, Array.getElem?_modify, hh]
    · rw [Array.toList_setIfInBounds, List.length_set, List.take_set, ht, icells_set0 L i p q z hi]
end
/-- a row that ends with a span -/
theorem OwnI.formS {w : World} {base : Nat} {v : Value} {L : List (Int × Int)} {p q : Int} (h : OwnI w base v (L ++ [(p, q)])) : ∃ g cap m : Nat, v = .slice (some ⟨g, 0, none⟩) m cap ∧ base ≤ g ∧ g < w.heap.size ∧ m ≤ 9223372036854775807 ∧ 1 ≤ m ∧ ((m : Int) - 1).toNat = L.length ∧ m = L.length + 1 ∧ (∀ i, w.frozen? ⟨g, i, none⟩ = false) ∧ w.cell? ⟨g, L.length * 2, none⟩ = some (.int .i64 p) ∧ w.cell? ⟨g, L.length * 2 + 1, none⟩ = some (.int .i64 q) := by
  obtain ⟨A, cap, rfl, hl, hf⟩ := h.form
  obtain ⟨g, rfl, h1, h2, h3, h4⟩ := hf (by simp)
  obtain ⟨c1, c2⟩ := h4 L.length (p, q) (by simp)
  exact ⟨g, cap, L.length + 1, by simp, h1, h2, by simpa using hl, by omega, by omega, rfl, h3, c1, c2⟩
/-- its end is written -/
theorem OwnI.setS {w : World} {base g n cap : Nat} {L : List (Int × Int)} {p q : Int} (h : OwnI w base (.slice (some ⟨g, 0, none⟩) n cap) (L ++ [(p, q)])) (z : Int) : OwnI (w.setCell ⟨g, L.length * 2 + 1, none⟩ (.int .i64 z)) base (.slice (some ⟨g, 0, none⟩) n cap) (L ++ [(p, z)]) := by
  have := OwnI.set h (i := L.length) (p := p) (q := q) (by simp) z
  simpa using this
/-- append of a span that was just laid -/
theorem app_sp {ops : Array Oper} {rest : List Oper} {o : Oper} {a : Act} {Q : Exit → Act → World → Prop} (w : World) (hgd : o.guard = none) (sl x : Operand)
    (ho : o.op = .call { callee := .builtin .append, args := #[sl, x], argTypes := #[30, 30] }) (base : Nat) (v : Value) (L : List (Int × Int)) (hs : a.eval sl = v) (hown : OwnI w base v L) (ad : Addr) (p q : Int) (hx : a.eval x = .slice (some ad) 1 1)
    (h : ∀ v' w', OwnI w' base v' (L ++ [(p, q)]) → w.grownBy w' v.ownBlock → wpList Tryd.prog ops Q rest (a.put o.dst v') w')
    (hnews : ∀ j u, [Value.int .i64 p, Value.int .i64 q][j]? = some u → w.cell? (ad.add j) = some u) (hb : L.length ≤ 1000000000000) (hbase : base ≤ w.heap.size) : wpList Tryd.prog ops Q (o :: rest) a w := by
  obtain ⟨i0, hi, hz0, hz1, hz2⟩ := info_parts info_spi
  refine wpList_append_own w hgd sl x _ ho base 38 i0 _ 2 16 Tryd.underlying30 hi hz0 hz1 hz2 rfl (by omega) v L.length (icells L) hs hown ad 1 1 [Value.int .i64 p, Value.int .i64 q] hx rfl hnews ?_ (by unfold maxLen; omega) (by omega) hbase ?_
  · intro u hu
    simp at hu
    rcases hu with rfl | rfl <;> rfl
  intro v' w' h1 h2 _
  refine h v' w' ?_ h2
  unfold OwnI
  rw [icells_append, List.length_append]
  exact h1
theorem lits_sp (w : World) (p q : Int) (t : TypeId) : ∀ j u, [Value.int .i64 p, Value.int .i64 q][j]? = some u → (w.alloc (.cells #[Value.int .i64 p, Value.int .i64 q] t)).cell? ((⟨w.heap.size, 0, none⟩ : Addr).add j) = some u := by
  intro j u h
  have e : (⟨w.heap.size, 0, none⟩ : Addr).add j = ⟨w.heap.size, j, none⟩ := by unfold Addr.add; split <;> simp_all
  rw [e, cell_of_row _ _ j _ _ _ (heap_alloc_new w _)]
  simpa using h
theorem lits_spA (w : World) (p q : Int) (t : TypeId) (n : Nat) (hn : w.heap.size = n) : ∀ j u, [Value.int .i64 p, Value.int .i64 q][j]? = some u → (w.alloc (.cells #[Value.int .i64 p, Value.int .i64 q] t)).cell? ((⟨n, 0, none⟩ : Addr).add j) = some u := by
  subst hn
  exact lits_sp w p q t
theorem below_setI {B : Nat} {a w : World} (h : Below B a w) {p : Addr} (hp : B ≤ p.block) (u : Value) : Below B a (w.setCell p u) :=
  ⟨h.os, h.tape, h.output, by simpa [World.setCell] using h.size, fun i hi => (Below.heap_setCell w p u i (by omega)).trans (h.block i hi)⟩
/-- a row of spans is answered, or nil where there is none -/
def RowOwnI (L : List (Int × Int)) (w : World) (e : Ending) (w' : World) : Prop := ∃ v, e = .returned v ∧ OwnI w' w.heap.size v L ∧ Below w.heap.size w w'
/-- a code is answered -/
def SaysN (c : Int) (w : World) (e : Ending) (w' : World) : Prop := e = .returned (.int .i64 c) ∧ Below w.heap.size w w'
theorem saysN_of {c c' : Int} {w w' : World} (h : c = c') (hb : Below w.heap.size w w') : SaysN c' w (.returned (.int .i64 c)) w' := ⟨by rw [h], hb⟩
/-- a row of spans and a code -/
def SpSays (L : List (Int × Int)) (c : Int) (w : World) (e : Ending) (w' : World) : Prop := ∃ v, e = .returned (.tuple #[v, .int .i64 c]) ∧ OwnI w' w.heap.size v L ∧ Below w.heap.size w w'
end Go.Proofs.YtflilepmhidndaaDoor
