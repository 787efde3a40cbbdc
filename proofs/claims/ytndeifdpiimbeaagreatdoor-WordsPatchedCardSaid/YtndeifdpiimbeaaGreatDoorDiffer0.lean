/- Contract of the program's Differ. -/
import Derived.Test.YtndeifdpiimbeaaGreatDoorOwnC
import Derived.Deep.DeepCutAuto
import Derived.Deep.RegionHeld3
import Derived.IntWalk
namespace Go.Proofs.YtndeifdpiimbeaaGreatDoor
open Go.RowKit

/-- append of a pair, as a step of a region that draws -/
theorem step_app_pair {ops : Array Oper} {o : Oper} {a : Act} {K : Act → World → Prop} {Q : Exit → Act → World → Prop} {E : Prop} {st et : TypeId} (ht : Two st et) {w : World} (hgd : o.guard = none) (sl x : Operand)
    (ho : o.op = .call { callee := .builtin .append, args := #[sl, x], argTypes := #[st, st] }) (base : Nat) (v : Value) (L : List (Nat × Nat)) (hs : a.eval sl = v) (hown : OwnQ et w base v L) (ad : Addr) (p q : Nat) (hx : a.eval x = .slice (some ad) 1 1)
    (h : ∀ v' w', OwnQ et w' base v' (L ++ [(p, q)]) → w.grownBy w' v.ownBlock → K (a.put o.dst v') w')
    (hnews : ∀ j u, [Value.int .i64 p, Value.int .i64 q][j]? = some u → w.cell? (ad.add j) = some u) (hb : L.length ≤ 1000000000000) (hbase : base ≤ w.heap.size) :
    if Region.wanted o (yielded ops a.tmps) = true then Oper.wp Tryz.prog o a w K Q else E := by
  have hw : Region.wanted o (yielded ops a.tmps) = true := by simp [Region.wanted, hgd]
  rw [if_pos hw]
  obtain ⟨i0, hi, hz0, hz1, hz2⟩ := info_parts ht.2
  refine wp_append_own w sl x _ ho base et i0 _ 2 16 ht.1 hi hz0 hz1 hz2 rfl (by omega) v L.length (Lib.spanCells L) hs hown ad 1 1 [Value.int .i64 p, Value.int .i64 q] hx rfl hnews ?_ (by unfold maxLen; omega) (by omega) hbase ?_
  · intro u hu
    simp at hu
    rcases hu with rfl | rfl <;> rfl
  intro v' w' h1 h2 _
  refine h v' w' ?_ h2
  unfold OwnQ
  rw [Lib.spanCells_snoc, List.length_append]
  exact h1
/-- a pair that was laid ahead of a call -/
theorem news_far {w w3 : World} {p q : Nat} {t : TypeId} (hb : Below (w.alloc (.cells #[.int .i64 p, .int .i64 q] t)).drew.heap.size (w.alloc (.cells #[.int .i64 p, .int .i64 q] t)).drew w3) : ∀ j u, [Value.int .i64 p, Value.int .i64 q][j]? = some u → w3.cell? ((⟨w.heap.size, 0, none⟩ : Addr).add j) = some u := by
  intro j u h
  refine (hb.cell (p := (⟨w.heap.size, 0, none⟩ : Addr).add j) ?_).trans (lits_pair w p q t j u h)
  have e : ((⟨w.heap.size, 0, none⟩ : Addr).add j).block = w.heap.size := by unfold Addr.add; split <;> rfl
  rw [e, show (w.alloc (.cells #[.int .i64 p, .int .i64 q] t)).drew.heap.size = w.heap.size + 1 from Array.size_push _]
  exact Nat.lt_succ_self _
theorem pair_ne {et : TypeId} {w : World} {b k : Nat} {v : Value} {l : List (Nat × Nat)} (h : OwnQ et w b v l) (hk : k < b) : some k ≠ v.ownBlock := fun e => by
  have := (h.lt k e.symm).1
  omega
/-- changes are answered, with a code -/
def ChgSays (D : List WM.Chg) (w : World) (e : Ending) (w' : World) : Prop := ∃ v, e = .returned (.tuple #[v, .int .i64 0]) ∧ OwnC w' w.heap.size v D ∧ Below w.heap.size w w'
theorem rows_ne {w w' : World} {b b' B z : Nat} {v v' : Value} {l l' : List ByteArray} (hz : z < B) (hB : B ≤ b) (h : OwnS w b v l) (h' : OwnS w' b' v' l') (hb : b ≤ b') : v.ownBlock ≠ some z ∧ v'.ownBlock ≠ some z := by
  refine ⟨fun e => ?_, fun e => ?_⟩
  · have := h.base_le z e; omega
  · have := h'.base_le z e; omega
theorem chg_ne {w : World} {b : Nat} {v : Value} {D : List WM.Chg} (h : OwnC w b v D) : some w.heap.size ≠ v.ownBlock := fun e => by
  have := (h.lt _ e.symm).2
  omega
theorem RowsC.alloc {w : World} {base : Nat} {v : Value} {c : WM.Chg} {x : Nat × Value × Value} (h : RowsC w base v c x) (o : Obj) : RowsC (w.alloc o) base v c x := ⟨h.1, h.2.1.alloc o, h.2.2.1.alloc o, h.2.2.2⟩
def DfRel (wc : World) (X Y : List ByteArray) (E : List (Nat × Nat)) (l i j k : Value) (wr : World) : Prop := ∃ n : Nat, i = .int .i64 (WM.fI E n : Nat) ∧ j = .int .i64 (WM.fJ E n : Nat) ∧ k = .int .i64 n ∧ n ≤ E.length ∧ OwnC wr wc.heap.size l (WM.chgK X Y E n) ∧ Below wc.heap.size wc wr
end Go.Proofs.YtndeifdpiimbeaaGreatDoor
