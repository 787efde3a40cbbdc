/- Append of any part of a row of strings; rows of changes, read. -/
import Derived.Test.YtndeifdpiimbeaaGreatDoorOwnC
import Derived.Laws.AppendOwnNone
import Derived.Maps.AppendAt
namespace Go.Proofs.YtndeifdpiimbeaaGreatDoor
open Go.RowKit

/-- append of a row that can be read from an address on -/
theorem app_rd {ops : Array Oper} {rest : List Oper} {o : Oper} {a : Act} {Q : Exit → Act → World → Prop} (w : World) (hgd : o.guard = none) (sl x : Operand)
    (ho : o.op = .call { callee := .builtin .append, args := #[sl, x], argTypes := #[43, 43] }) (base : Nat) (v : Value) (l : List ByteArray) (hs : a.eval sl = v) (hown : OwnS w base v l) (A : Option Addr) (m c : Nat) (news : List ByteArray) (hx : a.eval x = .slice A m c) (hm : news.length = m) (hrd : RdO w A news) (hnone : A = none → m = 0 ∧ c = 0)
    (h : ∀ v' w', OwnS w' base v' (l ++ news) → w.grownBy w' v.ownBlock → (v'.ownBlock = v.ownBlock ∨ v'.ownBlock = some w.heap.size) → wpList Tryz.prog ops Q rest (a.put o.dst v') w')
    (hb : l.length + m ≤ 4000000000000) (hbase : base ≤ w.heap.size) : wpList Tryz.prog ops Q (o :: rest) a w := by
  obtain ⟨i0, hi, hz0, hz1, hz2⟩ := info_parts info_str
  subst hm
  rcases A with _ | ad
  · obtain ⟨h1, h2⟩ := hnone rfl
    have hnn : news = [] := List.eq_nil_of_length_eq_zero h1
    subst hnn
    rw [h2] at hx
    refine wpList_append_own_none hgd sl x _ ho base 9 i0 1 Tryz.underlying43 hi v l.length (svs l) hs hown hx ?_
    exact h v w (by rw [List.append_nil]; exact hown) (World.grownBy.refl _ _) (.inl rfl)
  · have hcell : ∀ j u, (svs news)[j]? = some u → w.cell? (ad.add j) = some u := fun j u hu => by
      have hj : j < (svs news).length := (List.getElem?_eq_some_iff.1 hu).1
      rw [svs_len] at hj
      obtain ⟨g, off, e, _, hc⟩ := hrd (by omega)
      obtain rfl := Option.some.inj e
      have e : (⟨g, off, none⟩ : Addr).add j = ⟨g, off + j, none⟩ := by unfold Addr.add; split <;> simp_all
      rw [e]
      simp only [svs, List.getElem?_map, Option.map_eq_some_iff] at hu
      obtain ⟨s, hs, rfl⟩ := hu
      exact hc j s hs
    refine wpList_append_own_at w hgd sl x _ ho base 9 i0 (.string ⟨#[]⟩) 1 16 Tryz.underlying43 hi hz0 hz1 hz2 rfl (by omega) v l.length (svs l) hs hown ad news.length c (svs news) hx (by rw [svs_len]; omega) hcell ?_ (by unfold maxLen; omega) (by omega) hbase ?_
    · intro u hu
      obtain ⟨b, _, rfl⟩ := List.mem_map.1 hu
      rfl
    intro v' w' h1 h2 _ h4
    refine h v' w' ?_ h2 h4
    unfold OwnS
    rw [svs_append, List.length_append]
    exact h1
theorem OwnS.cap0 {w : World} {base : Nat} {A : Option Addr} {n c : Nat} {l : List ByteArray} (h : OwnS w base (.slice A n c) l) : A = none → n = 0 ∧ c = 0 := by
  rintro rfl
  rcases h.2 with ⟨e, h2⟩ | ⟨g, cap, cur, e, hg, hh, hn, hc, hsz, ht⟩
  · injection e with _ e2 e3; exact ⟨e2, e3⟩
  · injection e with e1; cases e1
theorem OwnS.rdo {w : World} {base : Nat} {A : Option Addr} {n c : Nat} {l : List ByteArray} (h : OwnS w base (.slice A n c) l) : RdO w A l := fun h0 => by
  rcases h.2 with ⟨e, h2⟩ | ⟨g, cap, cur, e, hg, hh, hn, hc, hsz, ht⟩
  · omega
  · injection e with e1 e2 e3
    subst e1
    subst e2
    refine ⟨g, 0, rfl, h.lt g (by simp [Value.ownBlock]), fun j s hs => ?_⟩
    have hj := (List.getElem?_eq_some_iff.1 hs).1
    rw [Nat.zero_add]
    refine (World.ownsRow.cellAt h j (by omega)).trans ?_
    simp [svs, hs]
theorem OwnC.rd {w : World} {base : Nat} {v : Value} {D : List WM.Chg} (h : OwnC w base v D) : ∃ (AD : Option Addr) (cap : Nat), v = .slice AD D.length cap ∧ (0 < D.length → ∃ g, AD = some ⟨g, 0, none⟩ ∧ g < w.heap.size ∧ ∀ W, Below w.heap.size w W → ∀ (n : Nat) (c : WM.Chg), D[n]? = some c → ∃ A1 c1 A2 c2, W.cell? ⟨g, n * 3, none⟩ = some (.int .i64 c.at_) ∧ W.cell? ⟨g, n * 3 + 1, none⟩ = some (.slice A1 c.drop.length c1) ∧ W.cell? ⟨g, n * 3 + 2, none⟩ = some (.slice A2 c.add.length c2) ∧ OwnS W base (.slice A1 c.drop.length c1) c.drop ∧ OwnS W base (.slice A2 c.add.length c2) c.add) := by
  obtain ⟨A, cap, rfl, _, hf⟩ := h.form
  refine ⟨A, cap, rfl, fun h0 => ?_⟩
  obtain ⟨g, rfl, _, hg, _⟩ := hf h0
  refine ⟨g, rfl, hg, fun W hW n c hc => ?_⟩
  obtain ⟨A', cap', e, _, hf'⟩ := (h.below hW).form
  obtain ⟨g', e', _, _, hc'⟩ := hf' h0
  obtain ⟨vd, va, k0, k1, k2, o1, o2⟩ := hc' n c hc
  have hgg : g = g' := by
    injection e with e1
    rw [e'] at e1
    injection e1 with e1
    injection e1
  subst hgg
  obtain ⟨A1, c1, rfl, _⟩ := o1.rd
  obtain ⟨A2, c2, rfl, _⟩ := o2.rd
  exact ⟨A1, c1, A2, c2, k0, k1, k2, o1, o2⟩
theorem app_ne {v v' : Value} {k m : Nat} (h : v'.ownBlock = v.ownBlock ∨ v'.ownBlock = some m) (hn : some k ≠ v.ownBlock) (hk : k < m) : some k ≠ v'.ownBlock := fun e => by
  rcases h with h | h
  · exact hn (e.trans h)
  · rw [h] at e; injection e with e; omega
theorem own_ne {w : World} {b : Nat} {v : Value} {l : List ByteArray} (h : OwnS w b v l) : some w.heap.size ≠ v.ownBlock := fun e => by
  have := h.lt _ e.symm
  omega
end Go.Proofs.YtndeifdpiimbeaaGreatDoor
