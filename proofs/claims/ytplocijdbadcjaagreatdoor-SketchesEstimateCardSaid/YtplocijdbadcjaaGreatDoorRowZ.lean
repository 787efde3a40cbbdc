/- Rows of numbers that a call owns: append of a number; frames. -/
import Derived.Test.YtplocijdbadcjaaGreatDoorBlk
import Derived.Lib.AppendStr
import Derived.OwnWalk
import Derived.Deep.OwnRows
namespace Go.Proofs.YtplocijdbadcjaaGreatDoor
open Go.RowKit

def ivs (l : List Int) : List Value := l.map (Value.int .i64)
/-- v is a row of the numbers l in a block from base on -/
def OwnZ (w : World) (base : Nat) (v : Value) (l : List Int) : Prop := w.ownsRow base 3 1 v l.length (ivs l)
theorem ivs_len (l : List Int) : (ivs l).length = l.length := by simp [ivs]
theorem ivs_append (a b : List Int) : ivs (a ++ b) = ivs a ++ ivs b := by simp [ivs]
theorem info_int : (Tryz.prog.info? 3).map (fun i => (i.zero, i.size, i.bytes)) = some (some (.int .i64 0), 1, 8) := by kernel_rfl
theorem OwnZ.base_le {w : World} {base : Nat} {v : Value} {l : List Int} (h : OwnZ w base v l) : ∀ k, v.ownBlock = some k → base ≤ k := by
  intro k hk
  rcases h.2 with ⟨rfl, _⟩ | ⟨g, cap, cur, rfl, hg, _⟩
  · cases hk
  · simp [Value.ownBlock] at hk; omega
theorem OwnZ.lt {w : World} {base : Nat} {v : Value} {l : List Int} (h : OwnZ w base v l) : ∀ k, v.ownBlock = some k → k < w.heap.size := by
  intro k hk
  rcases h.2 with ⟨rfl, _⟩ | ⟨g, cap, cur, rfl, hg, hh, _⟩
  · cases hk
  · simp [Value.ownBlock] at hk
    subst hk
    rcases Nat.lt_or_ge g w.heap.size with hlt | hge
    · exact hlt
    · rw [Array.getElem?_eq_none hge] at hh; cases hh
theorem OwnZ.drew {w : World} {base : Nat} {v : Value} {l : List Int} (h : OwnZ w base v l) : OwnZ w.drew base v l := h
theorem OwnZ.drewN {w : World} {base : Nat} {v : Value} {l : List Int} (h : OwnZ w base v l) (n : Nat) : OwnZ (w.drewN n) base v l := h
theorem OwnZ.alloc {w : World} {base : Nat} {v : Value} {l : List Int} (h : OwnZ w base v l) (o : Obj) : OwnZ (w.alloc o) base v l := World.ownsRow.alloc h o
theorem OwnZ.nil (w : World) (base : Nat) : OwnZ w base (.slice none 0 0) [] := ⟨rfl, .inl ⟨rfl, rfl⟩⟩
theorem OwnZ.below {w w' : World} {base B : Nat} {v : Value} {l : List Int} (h : OwnZ w base v l) (hb : Below B w w') (hB : w.heap.size ≤ B) : OwnZ w' base v l := by
  refine ⟨h.1, ?_⟩
  rcases h.2 with h2 | ⟨g, cap, cur, rfl, hg, hh, r⟩
  · exact .inl h2
  · refine .inr ⟨g, cap, cur, rfl, hg, (hb.block g ?_).trans hh, r⟩
    have := h.lt g (by simp [Value.ownBlock])
    omega
theorem OwnZ.far {w : World} {base : Nat} {v : Value} {l : List Int} (h : OwnZ w base v l) {b i : Nat} (hb : b < base) (u : Value) : OwnZ (w.setCell ⟨b, i, none⟩ u) base v l := by
  refine ⟨h.1, ?_⟩
  rcases h.2 with h2 | ⟨g, cap, cur, rfl, hg, hh, r⟩
  · exact .inl h2
  · exact .inr ⟨g, cap, cur, rfl, hg, (Below.heap_setCell w ⟨b, i, none⟩ u g (by show g ≠ b; omega)).trans hh, r⟩
theorem below_grown {B : Nat} {a w w' : World} {row : Option Nat} (h : Below B a w) (hg : w.grownBy w' row) (hB : B ≤ w.heap.size) (hr : ∀ k, row = some k → B ≤ k) : Below B a w' :=
  ⟨hg.os.trans h.os, hg.tape.trans h.tape, hg.output.trans h.output, Nat.le_trans h.size hg.size, fun i hi => (hg.block i (by omega) (fun e => by have := hr i e.symm; omega)).trans (h.block i hi)⟩
/-- append of a row of numbers that was just made -/
theorem app_int {ops : Array Oper} {rest : List Oper} {o : Oper} {a : Act} {Q : Exit → Act → World → Prop} (w : World) (hgd : o.guard = none) (sl x : Operand)
    (ho : o.op = .call { callee := .builtin .append, args := #[sl, x], argTypes := #[22, 22] }) (base : Nat) (v : Value) (l : List Int) (hs : a.eval sl = v) (hown : OwnZ w base v l) (ad : Addr) (m : Nat) (news : List Int) (hx : a.eval x = .slice (some ad) m m)
    (h : ∀ v' w', OwnZ w' base v' (l ++ news) → w.grownBy w' v.ownBlock → wpList Tryz.prog ops Q rest (a.put o.dst v') w')
    (hm : news.length = m) (hnews : ∀ j u, (ivs news)[j]? = some u → w.cell? (ad.add j) = some u) (hb : l.length + m ≤ 1000000000000) (hbase : base ≤ w.heap.size) : wpList Tryz.prog ops Q (o :: rest) a w := by
  obtain ⟨i0, hi, hz0, hz1, hz2⟩ := info_parts info_int
  refine wpList_append_own w hgd sl x _ ho base 3 i0 (.int .i64 0) 1 8 Tryz.underlying22 hi hz0 hz1 hz2 rfl (by omega) v l.length (ivs l) hs hown ad m m (ivs news) hx (by rw [ivs_len]; omega) hnews ?_ (by unfold maxLen; omega) (by omega) hbase ?_
  · intro u hu
    obtain ⟨b, _, rfl⟩ := List.mem_map.1 hu
    rfl
  intro v' w' h1 h2 _
  refine h v' w' ?_ h2
  unfold OwnZ
  rw [ivs_append, List.length_append, hm]
  exact h1
theorem litz_cells (w : World) (l : List Int) (t : TypeId) : ∀ j u, (ivs l)[j]? = some u → (w.alloc (.cells (ivs l).toArray t)).cell? ((⟨w.heap.size, 0, none⟩ : Addr).add j) = some u := by
  intro j u h
  have e : (⟨w.heap.size, 0, none⟩ : Addr).add j = ⟨w.heap.size, j, none⟩ := by unfold Addr.add; split <;> simp_all
  rw [e, cell_of_row _ _ j _ _ _ (heap_alloc_new w _)]
  simpa using h
/-- a row of numbers as a slice value -/
theorem OwnZ.form {w : World} {base : Nat} {v : Value} {l : List Int} (h : OwnZ w base v l) : ∃ (A : Option Addr) (cap : Nat), v = .slice A l.length cap ∧ (0 < l.length → ∃ g, A = some ⟨g, 0, none⟩ ∧ base ≤ g ∧ ∀ j z, l[j]? = some z → w.cell? ⟨g, j, none⟩ = some (.int .i64 z)) := by
  rcases h.2 with ⟨rfl, h2⟩ | ⟨g, cap, cur, rfl, hg, hh, hn, hc, hsz, ht⟩
  · exact ⟨none, 0, by rw [h2], fun h0 => by omega⟩
  · refine ⟨_, cap, rfl, fun _ => ⟨g, rfl, hg, fun j z hz => ?_⟩⟩
    rw [cell_of_row w g j cur _ _ hh]
    have h3 : (cur.toList.take (l.length * 1))[j]? = (ivs l)[j]? := by rw [ht]
    have hj : j < l.length := (List.getElem?_eq_some_iff.1 hz).1
    rw [List.getElem?_take, if_pos (by omega)] at h3
    rw [← Array.getElem?_toList, h3]
    simp [ivs, hz]
end Go.Proofs.YtplocijdbadcjaaGreatDoor
