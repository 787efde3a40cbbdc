/- A row of changes beside a row that grows. -/
import Derived.Test.YtndeifdpiimbeaaGreatDoorRdC
import Derived.Test.YtndeifdpiimbeaaGreatDoorDiffer0
namespace Go.Proofs.YtndeifdpiimbeaaGreatDoor
open Go.RowKit

/-- v is a row of the changes D, and no block of it is that of u -/
def OwnCF (w : World) (base : Nat) (v : Value) (D : List WM.Chg) (u : Value) : Prop := ∃ L : List (Nat × Value × Value), w.ownsRow base 45 3 v D.length (ccells L) ∧ L.length = D.length ∧ (∀ (n : Nat) (c : WM.Chg) (x : Nat × Value × Value), D[n]? = some c → L[n]? = some x → RowsC w base v c x ∧ ∀ q, u.ownBlock = some q → x.2.1.ownBlock ≠ some q ∧ x.2.2.ownBlock ≠ some q) ∧ ∀ q, u.ownBlock = some q → v.ownBlock ≠ some q
section
variable {w w' : World} {base : Nat} {v u : Value} {D : List WM.Chg}
theorem OwnCF.own (h : OwnCF w base v D u) : OwnC w base v D := by
  obtain ⟨L, h1, h2, h3, _⟩ := h
  exact ⟨L, h1, h2, fun n c x hc hx => (h3 n c x hc hx).1⟩
theorem OwnCF.nil (w : World) (base : Nat) (u : Value) : OwnCF w base (.slice none 0 0) [] u := ⟨[], ⟨rfl, .inl ⟨rfl, rfl⟩⟩, rfl, fun n c x h => by simp at h, fun q _ h => by simp [Value.ownBlock] at h⟩
theorem OwnCF.far (h : OwnCF w base v D u) : ∀ q, u.ownBlock = some q → v.ownBlock ≠ some q := by
  obtain ⟨L, _, _, _, h4⟩ := h
  exact h4
theorem OwnCF.below (h : OwnCF w base v D u) (hb : Below w.heap.size w w') : OwnCF w' base v D u := by
  have hlt := h.own.lt
  obtain ⟨L, h1, h2, h3, h4⟩ := h
  refine ⟨L, ?_, h2, fun n c x hc hx => ?_, h4⟩
  · refine ⟨h1.1, ?_⟩
    rcases h1.2 with h2 | ⟨g, cap, cur, rfl, hg, hh, r⟩
    · exact .inl h2
    · exact .inr ⟨g, cap, cur, rfl, hg, (hb.block g (hlt g (by simp [Value.ownBlock])).2).trans hh, r⟩
  · obtain ⟨⟨e1, e2, e3, e4⟩, e5⟩ := h3 n c x hc hx
    exact ⟨⟨e1, e2.below hb (Nat.le_refl _), e3.below hb (Nat.le_refl _), e4⟩, e5⟩
theorem OwnCF.alloc (h : OwnCF w base v D u) (o : Obj) : OwnCF (w.alloc o) base v D u := h.below ((Below.refl _ _).alloc (Nat.le_refl _) o)
/-- u has grown -/
theorem OwnCF.side {u' : Value} (h : OwnCF w base v D u) (hg : w.grownBy w' u.ownBlock) (hat : u'.ownBlock = u.ownBlock ∨ u'.ownBlock = some w.heap.size) : OwnCF w' base v D u' := by
  have hlt := h.own.lt
  obtain ⟨L, h1, h2, h3, h4⟩ := h
  have hu : ∀ (z : Value), (∀ q, z.ownBlock = some q → q < w.heap.size) → (∀ q, u.ownBlock = some q → z.ownBlock ≠ some q) → ∀ q, u'.ownBlock = some q → z.ownBlock ≠ some q := fun z hz hz2 q hq he => by
    rcases hat with hat | hat
    · exact hz2 q (hat ▸ hq) he
    · rw [hat] at hq; injection hq with hq
      have := hz q he
      omega
  refine ⟨L, ?_, h2, fun n c x hc hx => ?_, hu v (fun q hq => (hlt q hq).2) h4⟩
  · refine ⟨h1.1, ?_⟩
    rcases h1.2 with h2 | ⟨g, cap, cur, rfl, hb, hh, r⟩
    · exact .inl h2
    · exact .inr ⟨g, cap, cur, rfl, hb, (hg.block g (hlt g (by simp [Value.ownBlock])).2 (fun e => h4 g e.symm (by simp [Value.ownBlock]))).trans hh, r⟩
  · obtain ⟨⟨e1, e2, e3, e4⟩, e5⟩ := h3 n c x hc hx
    exact ⟨⟨e1, e2.grown hg (fun k hk he => (e5 k he).1 hk), e3.grown hg (fun k hk he => (e5 k he).2 hk), e4⟩, fun q hq => ⟨hu x.2.1 (fun q hq => e2.lt q hq) (fun q hq => (e5 q hq).1) q hq, hu x.2.2 (fun q hq => e3.lt q hq) (fun q hq => (e5 q hq).2) q hq⟩⟩
end
theorem chg_postF {w w' : World} {base : Nat} {v v' u : Value} {D : List WM.Chg} {L : List (Nat × Value × Value)} {c : WM.Chg} {vd va : Value} (hr : RowsC w base v c (c.at_, vd, va)) (hru : ∀ q, u.ownBlock = some q → vd.ownBlock ≠ some q ∧ va.ownBlock ≠ some q) (hul : ∀ q, u.ownBlock = some q → q < w.heap.size) (h2 : L.length = D.length) (h3 : ∀ (n : Nat) (c : WM.Chg) (x : Nat × Value × Value), D[n]? = some c → L[n]? = some x → RowsC w base v c x ∧ ∀ q, u.ownBlock = some q → x.2.1.ownBlock ≠ some q ∧ x.2.2.ownBlock ≠ some q) (h4 : ∀ q, u.ownBlock = some q → v.ownBlock ≠ some q)
    (g1 : w'.ownsRow base 45 3 v' (D.length + 1) (ccells L ++ [Value.int .i64 c.at_, vd, va])) (g2 : w.grownBy w' v.ownBlock) (g4 : v'.ownBlock = v.ownBlock ∨ v'.ownBlock = some w.heap.size) : OwnCF w' base v' (D ++ [c]) u := by
  have hfar : ∀ (z : Value) (l : List ByteArray), OwnS w base z l → (∀ q, v.ownBlock = some q → z.ownBlock ≠ some q) → OwnS w' base z l ∧ ∀ q, v'.ownBlock = some q → z.ownBlock ≠ some q := fun z l hz hne => by
    refine ⟨hz.grown g2 (fun k hk he => hne k he hk), fun q hq he => ?_⟩
    rcases g4 with g4 | g4
    · exact hne q (g4 ▸ hq) he
    · rw [g4] at hq; injection hq with hq
      have := hz.lt q he
      omega
  refine ⟨L ++ [(c.at_, vd, va)], ?_, by simp [h2], fun n e x he hx => ?_, fun q hq he => ?_⟩
  · rw [ccells_snoc, List.length_append]
    exact g1
  · have hn : n < (D ++ [c]).length := (List.getElem?_eq_some_iff.1 he).1
    simp at hn
    by_cases q : n < D.length
    · rw [List.getElem?_append_left q] at he
      rw [List.getElem?_append_left (by omega)] at hx
      obtain ⟨⟨e1, e2, e3, e4⟩, e5⟩ := h3 n e x he hx
      obtain ⟨a1, a2⟩ := hfar _ _ e2 (fun q hq => (e4 q hq).1)
      obtain ⟨b1, b2⟩ := hfar _ _ e3 (fun q hq => (e4 q hq).2)
      exact ⟨⟨e1, a1, b1, fun q hq => ⟨a2 q hq, b2 q hq⟩⟩, e5⟩
    · obtain rfl : n = D.length := by omega
      rw [List.getElem?_append_right (Nat.le_refl _), Nat.sub_self] at he
      rw [← h2, List.getElem?_append_right (Nat.le_refl _), Nat.sub_self] at hx
      simp at he hx
      subst he; subst hx
      obtain ⟨_, e2, e3, e4⟩ := hr
      obtain ⟨a1, a2⟩ := hfar _ _ e2 (fun q hq => (e4 q hq).1)
      obtain ⟨b1, b2⟩ := hfar _ _ e3 (fun q hq => (e4 q hq).2)
      exact ⟨⟨rfl, a1, b1, fun q hq => ⟨a2 q hq, b2 q hq⟩⟩, hru⟩
  · rcases g4 with g4 | g4
    · exact h4 q hq (g4 ▸ he)
    · rw [g4] at he; injection he with he
      have := hul q hq
      omega
/-- append of a change as a step of a region that draws, beside a row that stays -/
theorem step_app_chgF {ops : Array Oper} {o : Oper} {a : Act} {K : Act → World → Prop} {Q : Exit → Act → World → Prop} {E : Prop} {w : World} (hgd : o.guard = none) (sl x : Operand)
    (ho : o.op = .call { callee := .builtin .append, args := #[sl, x], argTypes := #[27, 27] }) (base : Nat) (v u : Value) (D : List WM.Chg) (hs : a.eval sl = v) (hown : OwnCF w base v D u) (ad : Addr) (c : WM.Chg) (vd va : Value) (hr : RowsC w base v c (c.at_, vd, va)) (hru : ∀ q, u.ownBlock = some q → vd.ownBlock ≠ some q ∧ va.ownBlock ≠ some q) (hul : ∀ q, u.ownBlock = some q → q < w.heap.size) (hx : a.eval x = .slice (some ad) 1 1)
    (h : ∀ v' w', OwnCF w' base v' (D ++ [c]) u → w.grownBy w' v.ownBlock → K (a.put o.dst v') w')
    (hnews : ∀ j u, [Value.int .i64 c.at_, vd, va][j]? = some u → w.cell? (ad.add j) = some u) (hb : D.length ≤ 1000000000000) (hbase : base ≤ w.heap.size) :
    if Region.wanted o (yielded ops a.tmps) = true then Oper.wp Tryz.prog o a w K Q else E := by
  have hw : Region.wanted o (yielded ops a.tmps) = true := by simp [Region.wanted, hgd]
  rw [if_pos hw]
  obtain ⟨i0, hi, hz0, hz1, hz2⟩ := info_parts info_chg
  obtain ⟨L, h1, h2, h3, h4⟩ := id hown
  obtain ⟨v', w', hrun, g1, g2, _, g4⟩ := run_append_own_at (P := Tryz.prog) w base 27 o.type 45 i0 _ 3 56 Tryz.underlying27 hi hz0 hz1 hz2 rfl (by omega) v D.length (ccells L) h1 ad 1 1 [Value.int .i64 c.at_, vd, va] rfl hnews (fun u hu => by
    simp at hu
    rcases hu with rfl | rfl | rfl
    · rfl
    · exact hr.2.1.oneCell
    · exact hr.2.2.1.oneCell) (by unfold maxLen; omega) (by omega) hbase
  unfold Oper.wp execOp
  simp only [ho, resolve, invoke, builtin, Sem.run_bind, Sem.run_pure, Result.andThen_ok, List.map_toArray, List.map_cons, List.map_nil, hs, hx, hrun]
  exact h v' w' (chg_postF hr hru hul h2 h3 h4 g1 g2 g4) g2
end Go.Proofs.YtndeifdpiimbeaaGreatDoor
