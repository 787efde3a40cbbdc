/- Rows of changes of the call's own: structs with a number and two rows. -/
import Derived.Test.YtndeifdpiimbeaaGreatDoorFew0
import Derived.Test.YtndeifdpiimbeaaGreatDoorPlain
namespace Go.Proofs.YtndeifdpiimbeaaGreatDoor
open Go.RowKit

def ccells (L : List (Nat × Value × Value)) : List Value := L.flatMap fun x => [Value.int .i64 x.1, x.2.1, x.2.2]
theorem ccells_len : ∀ L : List (Nat × Value × Value), (ccells L).length = 3 * L.length
  | [] => rfl
  | x :: L => by have := ccells_len L; simp only [ccells, List.flatMap_cons, List.length_append, List.length_cons, List.length_nil] at this ⊢; omega
theorem ccells_snoc (L : List (Nat × Value × Value)) (x : Nat × Value × Value) : ccells (L ++ [x]) = ccells L ++ [Value.int .i64 x.1, x.2.1, x.2.2] := by simp [ccells]
theorem ccells_at : ∀ (L : List (Nat × Value × Value)) (n : Nat) (x : Nat × Value × Value), L[n]? = some x → (ccells L)[n * 3]? = some (.int .i64 x.1) ∧ (ccells L)[n * 3 + 1]? = some x.2.1 ∧ (ccells L)[n * 3 + 2]? = some x.2.2
  | [], n, x, h => by simp at h
  | y :: L, 0, x, h => by simp at h; subst h; simp [ccells]
  | y :: L, n + 1, x, h => by
    have ih := ccells_at L n x (by simpa using h)
    have e : ccells (y :: L) = [Value.int .i64 y.1, y.2.1, y.2.2] ++ ccells L := rfl
    rw [e]
    refine ⟨?_, ?_, ?_⟩
    · rw [List.getElem?_append_right (by simp; omega)]; exact (congrArg (fun k => (ccells L)[k]?) (show _ = n * 3 by simp only [List.length_cons, List.length_nil]; omega)).trans ih.1
    · rw [List.getElem?_append_right (by simp; omega)]; exact (congrArg (fun k => (ccells L)[k]?) (show _ = n * 3 + 1 by simp only [List.length_cons, List.length_nil]; omega)).trans ih.2.1
    · rw [List.getElem?_append_right (by simp; omega)]; exact (congrArg (fun k => (ccells L)[k]?) (show _ = n * 3 + 2 by simp only [List.length_cons, List.length_nil]; omega)).trans ih.2.2
theorem info_chg : (Tryz.prog.info? 45).map (fun i => (i.zero, i.size, i.bytes)) = some (some (.agg #[.int .i64 0, .slice none 0 0, .slice none 0 0]), 3, 56) := by kernel_rfl
/-- two values are rows of a change, of blocks from base on, and not of block v -/
def RowsC (w : World) (base : Nat) (v : Value) (c : WM.Chg) (x : Nat × Value × Value) : Prop := x.1 = c.at_ ∧ OwnS w base x.2.1 c.drop ∧ OwnS w base x.2.2 c.add ∧ ∀ q, v.ownBlock = some q → x.2.1.ownBlock ≠ some q ∧ x.2.2.ownBlock ≠ some q
/-- v is a row of the changes D -/
def OwnC (w : World) (base : Nat) (v : Value) (D : List WM.Chg) : Prop := ∃ L : List (Nat × Value × Value), w.ownsRow base 45 3 v D.length (ccells L) ∧ L.length = D.length ∧ ∀ (n : Nat) (c : WM.Chg) (x : Nat × Value × Value), D[n]? = some c → L[n]? = some x → RowsC w base v c x
section
variable {w w' : World} {base : Nat} {v : Value} {D : List WM.Chg}
theorem OwnC.nil (w : World) (base : Nat) : OwnC w base (.slice none 0 0) [] := ⟨[], ⟨rfl, .inl ⟨rfl, rfl⟩⟩, rfl, fun n c x h => by simp at h⟩
theorem OwnC.lt (h : OwnC w base v D) : ∀ k, v.ownBlock = some k → base ≤ k ∧ k < w.heap.size := fun k hk => by
  obtain ⟨L, h1, _⟩ := h
  exact World.ownsRow.lt h1 k hk
theorem OwnC.below (h : OwnC w base v D) (hb : Below w.heap.size w w') : OwnC w' base v D := by
  have hlt := h.lt
  obtain ⟨L, h1, h2, h3⟩ := h
  refine ⟨L, ?_, h2, fun n c x hc hx => ?_⟩
  · refine ⟨h1.1, ?_⟩
    rcases h1.2 with h2 | ⟨g, cap, cur, rfl, hg, hh, r⟩
    · exact .inl h2
    · exact .inr ⟨g, cap, cur, rfl, hg, (hb.block g (hlt g (by simp [Value.ownBlock])).2).trans hh, r⟩
  · obtain ⟨e1, e2, e3, e4⟩ := h3 n c x hc hx
    exact ⟨e1, e2.below hb (Nat.le_refl _), e3.below hb (Nat.le_refl _), e4⟩
theorem OwnC.alloc (h : OwnC w base v D) (o : Obj) : OwnC (w.alloc o) base v D := h.below ((Below.refl _ _).alloc (Nat.le_refl _) o)
theorem OwnC.drewN (h : OwnC w base v D) (n : Nat) : OwnC (w.drewN n) base v D := h.below (below_drewN (Below.refl _ _) n)
theorem OwnC.less {b' : Nat} (h : OwnC w base v D) (hB : b' ≤ base) : OwnC w b' v D := by
  obtain ⟨L, h1, h2, h3⟩ := h
  refine ⟨L, ⟨h1.1, ?_⟩, h2, fun n c x hc hx => ?_⟩
  · rcases h1.2 with h2 | ⟨g, cap, cur, rfl, hg, r⟩
    · exact .inl h2
    · exact .inr ⟨g, cap, cur, rfl, by omega, r⟩
  · obtain ⟨e1, e2, e3, e4⟩ := h3 n c x hc hx
    exact ⟨e1, e2.less hB, e3.less hB, e4⟩
theorem OwnC.form (h : OwnC w base v D) : ∃ (A : Option Addr) (cap : Nat), v = .slice A D.length cap ∧ D.length ≤ 9223372036854775807 ∧ (0 < D.length → ∃ g, A = some ⟨g, 0, none⟩ ∧ base ≤ g ∧ g < w.heap.size ∧ ∀ (n : Nat) (c : WM.Chg), D[n]? = some c → ∃ vd va, w.cell? ⟨g, n * 3, none⟩ = some (.int .i64 c.at_) ∧ w.cell? ⟨g, n * 3 + 1, none⟩ = some vd ∧ w.cell? ⟨g, n * 3 + 2, none⟩ = some va ∧ OwnS w base vd c.drop ∧ OwnS w base va c.add) := by
  have hlt := h.lt
  obtain ⟨L, h1, h2, h3⟩ := h
  rcases id h1.2 with ⟨rfl, e⟩ | ⟨g, cap, cur, rfl, hg, hh, hn, hc, hsz, ht⟩
  · exact ⟨none, 0, by rw [e], by omega, fun h0 => by omega⟩
  · refine ⟨_, cap, rfl, by unfold maxLen at hc; omega, fun _ => ⟨g, rfl, hg, (hlt g (by simp [Value.ownBlock])).2, fun n c hx => ?_⟩⟩
    have hj : n < D.length := (List.getElem?_eq_some_iff.1 hx).1
    obtain ⟨x, hL⟩ : ∃ x, L[n]? = some x := ⟨_, List.getElem?_eq_getElem (show n < L.length by omega)⟩
    obtain ⟨e1, e2, e3, _⟩ := h3 n c x hx hL
    obtain ⟨c1, c2, c3⟩ := ccells_at L n x hL
    exact ⟨x.2.1, x.2.2, by rw [← e1]; exact (World.ownsRow.cellAt h1 (n * 3) (by omega)).trans c1, (World.ownsRow.cellAt h1 (n * 3 + 1) (by omega)).trans c2, (World.ownsRow.cellAt h1 (n * 3 + 2) (by omega)).trans c3, e2, e3⟩
end
theorem OwnS.oneCell {w : World} {base : Nat} {v : Value} {l : List ByteArray} (h : OwnS w base v l) : v.oneCell' = true := by
  rcases h.2 with ⟨rfl, _⟩ | ⟨g, cap, cur, rfl, _⟩ <;> rfl
theorem chg_post {w w' : World} {base : Nat} {v v' : Value} {D : List WM.Chg} {L : List (Nat × Value × Value)} {c : WM.Chg} {vd va : Value} (hr : RowsC w base v c (c.at_, vd, va)) (h2 : L.length = D.length) (h3 : ∀ (n : Nat) (c : WM.Chg) (x : Nat × Value × Value), D[n]? = some c → L[n]? = some x → RowsC w base v c x)
    (g1 : w'.ownsRow base 45 3 v' (D.length + 1) (ccells L ++ [Value.int .i64 c.at_, vd, va])) (g2 : w.grownBy w' v.ownBlock) (g4 : v'.ownBlock = v.ownBlock ∨ v'.ownBlock = some w.heap.size) : OwnC w' base v' (D ++ [c]) := by
  have hfar : ∀ (z : Value) (l : List ByteArray), OwnS w base z l → (∀ q, v.ownBlock = some q → z.ownBlock ≠ some q) → OwnS w' base z l ∧ ∀ q, v'.ownBlock = some q → z.ownBlock ≠ some q := fun z l hz hne => by
    refine ⟨hz.grown g2 (fun k hk he => hne k he hk), fun q hq he => ?_⟩
    rcases g4 with g4 | g4
    · exact hne q (g4 ▸ hq) he
    · rw [g4] at hq; injection hq with hq
      have := hz.lt q he
      omega
  refine ⟨L ++ [(c.at_, vd, va)], ?_, by simp [h2], fun n e x he hx => ?_⟩
  · rw [ccells_snoc, List.length_append]
    exact g1
  · have hn : n < (D ++ [c]).length := (List.getElem?_eq_some_iff.1 he).1
    simp at hn
    by_cases q : n < D.length
    · rw [List.getElem?_append_left q] at he
      rw [List.getElem?_append_left (by omega)] at hx
      obtain ⟨e1, e2, e3, e4⟩ := h3 n e x he hx
      obtain ⟨a1, a2⟩ := hfar _ _ e2 (fun q hq => (e4 q hq).1)
      obtain ⟨b1, b2⟩ := hfar _ _ e3 (fun q hq => (e4 q hq).2)
      exact ⟨e1, a1, b1, fun q hq => ⟨a2 q hq, b2 q hq⟩⟩
    · obtain rfl : n = D.length := by omega
      rw [List.getElem?_append_right (Nat.le_refl _), Nat.sub_self] at he
      rw [← h2, List.getElem?_append_right (Nat.le_refl _), Nat.sub_self] at hx
      simp at he hx
      subst he; subst hx
      obtain ⟨_, e2, e3, e4⟩ := hr
      obtain ⟨a1, a2⟩ := hfar _ _ e2 (fun q hq => (e4 q hq).1)
      obtain ⟨b1, b2⟩ := hfar _ _ e3 (fun q hq => (e4 q hq).2)
      exact ⟨rfl, a1, b1, fun q hq => ⟨a2 q hq, b2 q hq⟩⟩
/-- append of a change that was just laid -/
theorem app_chg {ops : Array Oper} {rest : List Oper} {o : Oper} {a : Act} {Q : Exit → Act → World → Prop} (w : World) (hgd : o.guard = none) (sl x : Operand)
    (ho : o.op = .call { callee := .builtin .append, args := #[sl, x], argTypes := #[27, 27] }) (base : Nat) (v : Value) (D : List WM.Chg) (hs : a.eval sl = v) (hown : OwnC w base v D) (ad : Addr) (c : WM.Chg) (vd va : Value) (hr : RowsC w base v c (c.at_, vd, va)) (hx : a.eval x = .slice (some ad) 1 1)
    (h : ∀ v' w', OwnC w' base v' (D ++ [c]) → w.grownBy w' v.ownBlock → wpList Tryz.prog ops Q rest (a.put o.dst v') w')
    (hnews : ∀ j u, [Value.int .i64 c.at_, vd, va][j]? = some u → w.cell? (ad.add j) = some u) (hb : D.length ≤ 1000000000000) (hbase : base ≤ w.heap.size) : wpList Tryz.prog ops Q (o :: rest) a w := by
  obtain ⟨i0, hi, hz0, hz1, hz2⟩ := info_parts info_chg
  obtain ⟨L, h1, h2, h3⟩ := id hown
  refine wpList_append_own_at w hgd sl x _ ho base 45 i0 _ 3 56 Tryz.underlying27 hi hz0 hz1 hz2 rfl (by omega) v D.length (ccells L) hs h1 ad 1 1 [Value.int .i64 c.at_, vd, va] hx rfl hnews ?_ (by unfold maxLen; omega) (by omega) hbase ?_
  · intro u hu
    simp at hu
    rcases hu with rfl | rfl | rfl
    · rfl
    · exact hr.2.1.oneCell
    · exact hr.2.2.1.oneCell
  intro v' w' g1 g2 _ g4
  exact h v' w' (chg_post hr h2 h3 g1 g2 g4) g2
/-- the same, as a step of a region that draws -/
theorem step_app_chg {ops : Array Oper} {o : Oper} {a : Act} {K : Act → World → Prop} {Q : Exit → Act → World → Prop} {E : Prop} {w : World} (hgd : o.guard = none) (sl x : Operand)
    (ho : o.op = .call { callee := .builtin .append, args := #[sl, x], argTypes := #[27, 27] }) (base : Nat) (v : Value) (D : List WM.Chg) (hs : a.eval sl = v) (hown : OwnC w base v D) (ad : Addr) (c : WM.Chg) (vd va : Value) (hr : RowsC w base v c (c.at_, vd, va)) (hx : a.eval x = .slice (some ad) 1 1)
    (h : ∀ v' w', OwnC w' base v' (D ++ [c]) → w.grownBy w' v.ownBlock → K (a.put o.dst v') w')
    (hnews : ∀ j u, [Value.int .i64 c.at_, vd, va][j]? = some u → w.cell? (ad.add j) = some u) (hb : D.length ≤ 1000000000000) (hbase : base ≤ w.heap.size) :
    if Region.wanted o (yielded ops a.tmps) = true then Oper.wp Tryz.prog o a w K Q else E := by
  have hw : Region.wanted o (yielded ops a.tmps) = true := by simp [Region.wanted, hgd]
  rw [if_pos hw]
  obtain ⟨i0, hi, hz0, hz1, hz2⟩ := info_parts info_chg
  obtain ⟨L, h1, h2, h3⟩ := id hown
  obtain ⟨v', w', hrun, g1, g2, _, g4⟩ := run_append_own_at (P := Tryz.prog) w base 27 o.type 45 i0 _ 3 56 Tryz.underlying27 hi hz0 hz1 hz2 rfl (by omega) v D.length (ccells L) h1 ad 1 1 [Value.int .i64 c.at_, vd, va] rfl hnews (fun u hu => by
    simp at hu
    rcases hu with rfl | rfl | rfl
    · rfl
    · exact hr.2.1.oneCell
    · exact hr.2.2.1.oneCell) (by unfold maxLen; omega) (by omega) hbase
  unfold Oper.wp execOp
  simp only [ho, resolve, invoke, builtin, Sem.run_bind, Sem.run_pure, Result.andThen_ok, List.map_toArray, List.map_cons, List.map_nil, hs, hx, hrun]
  exact h v' w' (chg_post hr h2 h3 g1 g2 g4) g2
theorem lits_chg (w : World) (p : Nat) (vd va : Value) (t : TypeId) : ∀ j u, [Value.int .i64 p, vd, va][j]? = some u → (w.alloc (.cells #[Value.int .i64 p, vd, va] t)).cell? ((⟨w.heap.size, 0, none⟩ : Addr).add j) = some u := by
  intro j u h
  have e : (⟨w.heap.size, 0, none⟩ : Addr).add j = ⟨w.heap.size, j, none⟩ := by unfold Addr.add; split <;> simp_all
  rw [e, cell_of_row _ _ j _ _ _ (heap_alloc_new w _)]
  simpa using h
end Go.Proofs.YtndeifdpiimbeaaGreatDoor
