/- Contracts of the reference's wordSpans and WordsOf. -/
import Derived.Test.YtdmgfkgfcofmhaaDoorRefW
import Derived.Test.YtdmgfkgfcofmhaaDoorBlk
import Derived.Laws.OwnMore
namespace WM
theorem get_at (s : ByteArray) (i : Nat) (h : i < s.size) : s.get! i = s[i] := by
  have := get_list s i h
  rw [List.getElem?_eq_getElem (by simpa using h)] at this
  injection this with this
  rw [← this]
  simp [ByteArray.getElem_eq_getElem_data]
end WM
namespace Go.Proofs.YtdmgfkgfcofmhaaDoor
open Go.RowKit

/-- v is a row of the spans L in a block from base on -/
def OwnP (w : World) (base : Nat) (v : Value) (L : List (Nat × Nat)) : Prop := w.ownsRow base 41 2 v L.length (Lib.spanCells L)
theorem info_sp : (Tryd.prog.info? 41).map (fun i => (i.zero, i.size, i.bytes)) = some (some (.agg #[.int .i64 0, .int .i64 0]), 2, 16) := by kernel_rfl
theorem OwnP.lt {w : World} {base : Nat} {v : Value} {l : List (Nat × Nat)} (h : OwnP w base v l) : ∀ k, v.ownBlock = some k → base ≤ k ∧ k < w.heap.size := fun k hk => World.ownsRow.lt h k hk
theorem OwnP.alloc {w : World} {base : Nat} {v : Value} {l : List (Nat × Nat)} (h : OwnP w base v l) (o : Obj) : OwnP (w.alloc o) base v l := World.ownsRow.alloc h o
theorem OwnP.nil (w : World) (base : Nat) : OwnP w base (.slice none 0 0) [] := ⟨rfl, .inl ⟨rfl, rfl⟩⟩
theorem OwnP.below {w w' : World} {base : Nat} {v : Value} {l : List (Nat × Nat)} (h : OwnP w base v l) (hb : Below w.heap.size w w') : OwnP w' base v l := own_below h hb
theorem OwnP.form {w : World} {base : Nat} {v : Value} {L : List (Nat × Nat)} (h : OwnP w base v L) : ∃ (A : Option Addr) (cap : Nat), v = .slice A L.length cap ∧ L.length ≤ 9223372036854775807 ∧ (0 < L.length → ∃ g, A = some ⟨g, 0, none⟩ ∧ base ≤ g ∧ g < w.heap.size ∧ ∀ j x, L[j]? = some x → w.cell? ⟨g, j * 2, none⟩ = some (.int .i64 x.1) ∧ w.cell? ⟨g, j * 2 + 1, none⟩ = some (.int .i64 x.2)) := by
  rcases h.2 with ⟨rfl, h2⟩ | ⟨g, cap, cur, rfl, hg, hh, hn, hc, hsz, ht⟩
  · exact ⟨none, 0, by rw [h2], by omega, fun h0 => by omega⟩
  · refine ⟨_, cap, rfl, by unfold maxLen at hc; omega, fun _ => ⟨g, rfl, hg, (h.lt g (by simp [Value.ownBlock])).2, fun j x hx => ?_⟩⟩
    have hj : j < L.length := (List.getElem?_eq_some_iff.1 hx).1
    obtain ⟨h1, h2⟩ := Lib.spanCells_at L j x hx
    exact ⟨(World.ownsRow.cellAt h (j * 2) (by omega)).trans h1, (World.ownsRow.cellAt h (j * 2 + 1) (by omega)).trans h2⟩
/-- append of a span that was just laid -/
theorem app_span {ops : Array Oper} {rest : List Oper} {o : Oper} {a : Act} {Q : Exit → Act → World → Prop} (w : World) (hgd : o.guard = none) (sl x : Operand)
    (ho : o.op = .call { callee := .builtin .append, args := #[sl, x], argTypes := #[27, 27] }) (base : Nat) (v : Value) (L : List (Nat × Nat)) (hs : a.eval sl = v) (hown : OwnP w base v L) (ad : Addr) (p q : Nat) (hx : a.eval x = .slice (some ad) 1 1)
    (h : ∀ v' w', OwnP w' base v' (L ++ [(p, q)]) → w.grownBy w' v.ownBlock → wpList Tryd.prog ops Q rest (a.put o.dst v') w')
    (hnews : ∀ j u, [Value.int .i64 p, Value.int .i64 q][j]? = some u → w.cell? (ad.add j) = some u) (hb : L.length ≤ 1000000000000) (hbase : base ≤ w.heap.size) : wpList Tryd.prog ops Q (o :: rest) a w := by
  obtain ⟨i0, hi, hz0, hz1, hz2⟩ := info_parts info_sp
  refine wpList_append_own w hgd sl x _ ho base 41 i0 _ 2 16 Tryd.underlying27 hi hz0 hz1 hz2 rfl (by omega) v L.length (Lib.spanCells L) hs hown ad 1 1 [Value.int .i64 p, Value.int .i64 q] hx rfl hnews ?_ (by unfold maxLen; omega) (by omega) hbase ?_
  · intro u hu
    simp at hu
    rcases hu with rfl | rfl <;> rfl
  intro v' w' h1 h2 _
  refine h v' w' ?_ h2
  unfold OwnP
  rw [Lib.spanCells_snoc, List.length_append]
  exact h1
theorem lits_span (w : World) (p q : Nat) (t : TypeId) : ∀ j u, [Value.int .i64 p, Value.int .i64 q][j]? = some u → (w.alloc (.cells #[Value.int .i64 p, Value.int .i64 q] t)).cell? ((⟨w.heap.size, 0, none⟩ : Addr).add j) = some u := by
  intro j u h
  have e : (⟨w.heap.size, 0, none⟩ : Addr).add j = ⟨w.heap.size, j, none⟩ := by unfold Addr.add; split <;> simp_all
  rw [e, cell_of_row _ _ j _ _ _ (heap_alloc_new w _)]
  simpa using h
/-- a row of spans of the call's own is answered -/
def SpansNew (L : List (Nat × Nat)) (w : World) (e : Ending) (w' : World) : Prop := ∃ v, e = .returned v ∧ OwnP w' w.heap.size v L ∧ Below w.heap.size w w'
def SpRel (w : World) (s : ByteArray) (l i : Value) (wr : World) : Prop := ∃ (k : Nat) (acc : List (Nat × Nat)), i = .int .i64 k ∧ WM.OutR s k acc ∧ acc.length ≤ k ∧ OwnP wr w.heap.size l acc ∧ Below w.heap.size w wr
def SpIn (s : ByteArray) (i : Nat) (acc : List (Nat × Nat)) (v : Value) : Prop := ∃ k : Nat, v = .int .i64 k ∧ WM.InR s i k acc
theorem SpIn.le {s : ByteArray} {i k : Nat} {acc : List (Nat × Nat)} (h : WM.InR s i k acc) : k ≤ s.size := h.2.2.1
set_option maxHeartbeats 1000000 in
theorem wordSpans_any (s : ByteArray) (hs : s.size ≤ 1000000000) (w : World) : Calls Tryd.prog 37 #[.string s] w (SpansNew (WM.runs WM.wordB s) w) := by
  go_enter Tryd.func37, Tryd.ntmps37
  go_wp2_with fail
  go_loopw [3, 4] (fun l i wr => SpRel w s l i wr) (fun _ i _ => s.size + 1 - (intOf i).toNat)
  case atStart => exact ⟨0, [], rfl, .inl ⟨by omega, WM.AtR.start s⟩, by simp, OwnP.nil _ _, Below.refl _ _⟩
  case round =>
    obtain ⟨i, acc, rfl, hR, hal, hown, hbw⟩ := hrel
    have hile := hR.le
    have hsz := hbw.size
    obtain ⟨A, cap, rfl, hl0, hf⟩ := hown.form
    by_cases hlt : i < s.size
    · have hg := WM.get_at s i hlt
      cases hq : WM.wordB s[i]
      · have hW := wordByte_any s[i] _ hq
        have hN := Lib.hid (hR.skip hlt (by rw [hg]; exact hq))
        have HH := Lib.hid (And.intro hown hbw)
        clear hq hg hR hown hbw hf
        go_wp2_with fail
        refine (hW _).mono ?_
        rintro e w' ⟨rfl, rfl⟩
        go_wp2_with fail
        exact ⟨⟨i + 1, acc, by simp, hN.out, by omega, HH.out.1, HH.out.2⟩, by simp [intOf]; omega⟩
      · have hW := wordByte_any s[i] _ hq
        have hI0 := Lib.hid (WM.InR.start hR hlt (by rw [hg]; exact hq))
        have HH := Lib.hid (And.intro hown hbw)
        clear hq hg hR hown hbw hf
        go_wp2_with fail
        refine (hW _).mono ?_
        rintro e w' ⟨rfl, rfl⟩
        clear hW
        go_wp2_with fail
        go_loop [5] (fun v => SpIn s i acc v) (fun v => s.size - (intOf v).toNat)
        case atStart => exact ⟨i, rfl, hI0.out⟩
        case round =>
          obtain ⟨k, rfl, hI⟩ := hrel
          have hkl := SpIn.le hI
          by_cases hk : k < s.size
          · have hg := WM.get_at s k hk
            cases hq : WM.wordB s[k]
            · have hW := wordByte_any s[k] _ hq
              have hD := Lib.hid (hI.done (fun _ => by rw [hg]; exact hq))
              have hik := hD.out.2.1
              clear hq hg hI hI0
              go_wp2_with fail
              refine (hW _).mono ?_
              rintro e w' ⟨rfl, rfl⟩
              clear hW
              go_wp2_with (at_builtin; refine app_span _ rfl (.tmp 30) (.tmp 34) rfl w.heap.size _ acc rfl (HH.out.1.alloc _) _ i k rfl ?_ (lits_span _ i k _) ?d1 ?d2; intro v2 w6 hown2 hg2)
              case d1 => omega
              case d2 => first | omega | (simp; omega)
              go_wp2_with fail
              exact ⟨⟨k + 1, acc ++ [(i, k)], by simp, hD.out.1, by simp; omega, hown2, (HH.out.2.alloc hsz _).grown hg2 (by simp; omega) (fun j hj => (HH.out.1.lt j hj).1)⟩, by simp [intOf]; omega⟩
            · have hW := wordByte_any s[k] _ hq
              have hM := Lib.hid (hI.more hk (by rw [hg]; exact hq))
              clear hq hg hI hI0
              go_wp2_with fail
              refine (hW _).mono ?_
              rintro e w' ⟨rfl, rfl⟩
              go_wp2_with fail
              exact ⟨⟨k + 1, by simp, hM.out⟩, by simp [intOf]; omega⟩
          · have hD := Lib.hid (hI.done (fun h => absurd h hk))
            have hik := hD.out.2.1
            clear hI hI0
            go_wp2_with (at_builtin; refine app_span _ rfl (.tmp 30) (.tmp 34) rfl w.heap.size _ acc rfl (HH.out.1.alloc _) _ i k rfl ?_ (lits_span _ i k _) ?d1 ?d2; intro v2 w6 hown2 hg2)
            case d1 => omega
            case d2 => first | omega | (simp; omega)
            go_wp2_with fail
            exact ⟨⟨k + 1, acc ++ [(i, k)], by simp, hD.out.1, by simp; omega, hown2, (HH.out.2.alloc hsz _).grown hg2 (by simp; omega) (fun j hj => (HH.out.1.lt j hj).1)⟩, by simp [intOf]; omega⟩
    · have hD := hR.done hlt
      go_wp2_with fail
      go_ret
      exact ⟨_, rfl, by rw [← hD]; exact hown, hbw⟩
end Go.Proofs.YtdmgfkgfcofmhaaDoor
