/- Texts put together. -/
import Derived.Test.YtdmgfkgfcofmhaaDoorRowS
import Derived.Test.YtdmgfkgfcofmhaaDoorLays
import Derived.Shelf.Slices.Equal
import Derived.Lib.AppendZeros
import Derived.Laws.AppendOwnNone
import Derived.WalkSpells
import Derived.IntWalk
import Derived.Maps.AppendAt
import Derived.Laws.OwnMore
/- slices.Equal of two rows of strings. -/
namespace Go.Proofs.YtdmgfkgfcofmhaaDoor
open Go.RowKit

/-- slices.Equal of two rows -/
theorem EqualS_any {w : World} {b1 b2 : Nat} {v1 v2 : Value} {l1 l2 : List ByteArray} (h1 : OwnS w b1 v1 l1) (h2 : OwnS w b2 v2 l2) (b : Bool) (hb : decide (l1 = l2) = b) :
    Calls Tryd.prog 16 #[v1, v2] w (SaysBo b w) := by
  obtain ⟨A1, c1, rfl, hf1⟩ := h1.form
  obtain ⟨A2, c2, rfl, hf2⟩ := h2.form
  have hl1 := h1.len_le
  have hl2 := h2.len_le
  have hget : ∀ (l : List ByteArray) j, j < l.length → l[j]? = some (l.getD j ByteArray.empty) := fun l j hj => by
    rw [List.getD_eq_getElem?_getD, List.getElem?_eq_getElem hj]; rfl
  rcases Nat.eq_zero_or_pos l1.length with e1 | p1
  · refine ((e1 ▸ Any.slices_Equal_string_empty Tryd.lays193 A1 A2 c1 l2.length c2 w hl2 :) : Calls Tryd.prog 16 #[.slice A1 l1.length c1, .slice A2 l2.length c2] w _).mono ?_
    rintro e w' ⟨rfl, rfl⟩
    have hn : l1 = [] := List.eq_nil_of_length_eq_zero e1
    refine saysb_of0 ?_
    rw [← hb, hn]
    cases l2 <;> simp
  · obtain ⟨g1, rfl, _, _, hc1⟩ := hf1 p1
    rcases Nat.eq_zero_or_pos l2.length with e2 | p2
    · have hn : l2 = [] := List.eq_nil_of_length_eq_zero e2
      subst hn
      go_enter Tryd.func16, Tryd.ntmps16
      have hne : ((l1.length : Int) != 0) = true := bne_iff_ne.2 (by omega)
      go_wp2_with fail
      go_ret
      exact saysb_of0 (by rw [← hb]; cases l1 <;> simp at p1 ⊢)
    · obtain ⟨g2, rfl, _, _, hc2⟩ := hf2 p2
      refine (Any.slices_Equal_string Tryd.lays193 g1 0 l1.length c1 g2 0 l2.length c2 l1 l2 w (Nat.le_refl _) (Nat.le_refl _) hl1 hl2 (fun j hj => by rw [Nat.zero_add]; exact hc1 j _ (hget l1 j hj)) (fun j hj => by rw [Nat.zero_add]; exact hc2 j _ (hget l2 j hj))).mono ?_
      rintro e w' ⟨rfl, q, rfl⟩
      exact saysb_of (by rw [← hb, List.take_of_length_le (Nat.le_refl _), List.take_of_length_le (Nat.le_refl _)])
end Go.Proofs.YtdmgfkgfcofmhaaDoor
/- Append of a row of strings to one of the call's own. -/
namespace Go.Proofs.YtdmgfkgfcofmhaaDoor
open Go.RowKit

/-- append of a row of strings of whatever spare room -/
theorem app_strsC {ops : Array Oper} {rest : List Oper} {o : Oper} {a : Act} {Q : Exit → Act → World → Prop} (w : World) (hgd : o.guard = none) (sl x : Operand)
    (ho : o.op = .call { callee := .builtin .append, args := #[sl, x], argTypes := #[34, 34] }) (base : Nat) (v : Value) (l : List ByteArray) (hs : a.eval sl = v) (hown : OwnS w base v l) (b2 : Nat) (v2 : Value) (news : List ByteArray) (hx : a.eval x = v2) (hown2 : OwnS w b2 v2 news)
    (h : ∀ v' w', OwnS w' base v' (l ++ news) → w.grownBy w' v.ownBlock → (v'.ownBlock = v.ownBlock ∨ w.heap.size ≤ v'.ownBlock.getD w.heap.size) → wpList Tryd.prog ops Q rest (a.put o.dst v') w')
    (hb : l.length + news.length ≤ 4000000000000) (hbase : base ≤ w.heap.size) : wpList Tryd.prog ops Q (o :: rest) a w := by
  obtain ⟨i0, hi, hz0, hz1, hz2⟩ := info_parts info_str
  rcases hown2.2 with ⟨rfl, h2⟩ | ⟨g, cap, cur, rfl, hg, hh, hn, hc, hsz, ht⟩
  · have hnn : news = [] := List.eq_nil_of_length_eq_zero h2
    subst hnn
    refine wpList_append_own_none hgd sl x _ ho base 9 i0 1 Tryd.underlying34 hi v l.length (svs l) hs hown hx ?_
    exact h v w (by rw [List.append_nil]; exact hown) (World.grownBy.refl _ _) (.inl rfl)
  · have hcell : ∀ j u, (svs news)[j]? = some u → w.cell? ((⟨g, 0, none⟩ : Addr).add j) = some u := fun j u hu => by
      have e : (⟨g, 0, none⟩ : Addr).add j = ⟨g, j, none⟩ := by unfold Addr.add; split <;> simp_all
      rw [e]
      have hj : j < (svs news).length := (List.getElem?_eq_some_iff.1 hu).1
      rw [svs_len] at hj
      exact (World.ownsRow.cellAt hown2 j (by omega)).trans hu
    refine wpList_append_own_at w hgd sl x _ ho base 9 i0 (.string ⟨#[]⟩) 1 16 Tryd.underlying34 hi hz0 hz1 hz2 rfl (by omega) v l.length (svs l) hs hown ⟨g, 0, none⟩ news.length cap (svs news) hx (by rw [svs_len]; omega) hcell ?_ (by unfold maxLen; omega) (by omega) hbase ?_
    · intro u hu
      obtain ⟨b, _, rfl⟩ := List.mem_map.1 hu
      rfl
    intro v' w' h1 h2 _ h4
    refine h v' w' ?_ h2 ?_
    · unfold OwnS
      rw [svs_append, List.length_append]
      exact h1
    · rcases h4 with h4 | h4
      · exact .inl h4
      · exact .inr (by rw [h4]; exact Nat.le_refl _)
end Go.Proofs.YtdmgfkgfcofmhaaDoor
