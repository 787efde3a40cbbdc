/- append of a row of spans of the call's own. -/
import Derived.Test.YtflilepmhidndaaDoorSpRow
import Derived.Laws.AppendOwnNone
import Derived.Maps.AppendAt
namespace Go.Proofs.YtflilepmhidndaaDoor
open Go.RowKit

/-- append of a row of spans of whatever spare room -/
theorem app_spsC {ops : Array Oper} {rest : List Oper} {o : Oper} {a : Act} {Q : Exit → Act → World → Prop} (w : World) (hgd : o.guard = none) (sl x : Operand)
    (ho : o.op = .call { callee := .builtin .append, args := #[sl, x], argTypes := #[30, 30] }) (base : Nat) (v : Value) (l : List (Int × Int)) (hs : a.eval sl = v) (hown : OwnI w base v l) (b2 : Nat) (v2 : Value) (news : List (Int × Int)) (hx : a.eval x = v2) (hown2 : OwnI w b2 v2 news)
    (h : ∀ v' w', OwnI w' base v' (l ++ news) → w.grownBy w' v.ownBlock → (v'.ownBlock = v.ownBlock ∨ w.heap.size ≤ v'.ownBlock.getD w.heap.size) → wpList Tryd.prog ops Q rest (a.put o.dst v') w')
    (hb : l.length + news.length ≤ 4000000000000) (hbase : base ≤ w.heap.size) : wpList Tryd.prog ops Q (o :: rest) a w := by
  obtain ⟨i0, hi, hz0, hz1, hz2⟩ := info_parts info_spi
  rcases hown2.2 with ⟨rfl, h2⟩ | ⟨g, cap, cur, rfl, hg, hh, hn, hc, hsz, ht⟩
  · have hnn : news = [] := List.eq_nil_of_length_eq_zero h2
    subst hnn
    refine wpList_append_own_none hgd sl x _ ho base 38 i0 2 Tryd.underlying30 hi v l.length (icells l) hs hown hx ?_
    exact h v w (by rw [List.append_nil]; exact hown) (World.grownBy.refl _ _) (.inl rfl)
  · have hcell : ∀ j u, (icells news)[j]? = some u → w.cell? ((⟨g, 0, none⟩ : Addr).add j) = some u := fun j u hu => by
      have e : (⟨g, 0, none⟩ : Addr).add j = ⟨g, j, none⟩ := by unfold Addr.add; split <;> simp_all
      rw [e]
      have hj : j < (icells news).length := (List.getElem?_eq_some_iff.1 hu).1
      rw [icells_len] at hj
      exact (World.ownsRow.cellAt hown2 j (by omega)).trans hu
    refine wpList_append_own_at w hgd sl x _ ho base 38 i0 (.agg #[.int .i64 0, .int .i64 0]) 2 16 Tryd.underlying30 hi hz0 hz1 hz2 rfl (by omega) v l.length (icells l) hs hown ⟨g, 0, none⟩ news.length cap (icells news) hx (icells_len news) hcell ?_ (by unfold maxLen; omega) (by omega) hbase ?_
    · intro u hu
      obtain ⟨b, _, hb⟩ := List.mem_flatMap.1 hu
      simp at hb
      rcases hb with rfl | rfl <;> rfl
    intro v' w' h1 h2 _ h4
    refine h v' w' ?_ h2 ?_
    · unfold OwnI
      rw [icells_append, List.length_append]
      exact h1
    · rcases h4 with h4 | h4
      · exact .inl h4
      · exact .inr (by rw [h4]; exact Nat.le_refl _)
end Go.Proofs.YtflilepmhidndaaDoor
