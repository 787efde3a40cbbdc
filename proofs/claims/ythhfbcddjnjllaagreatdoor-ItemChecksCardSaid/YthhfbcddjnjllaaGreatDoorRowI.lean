/- Rows of items that a call owns. -/
import Derived.Test.YthhfbcddjnjllaaGreatDoorPlace
import Derived.Test.YthhfbcddjnjllaaGreatDoorRowZ
import Derived.Laws.OwnMore
namespace Go.Proofs.YthhfbcddjnjllaaGreatDoor
open Go.RowKit

def flat (L : List It) : List Value := L.flatMap fun x => x.cells.toList
theorem cells_len (x : It) : x.cells.toList.length = 7 := rfl
theorem flat_nil : flat [] = [] := rfl
theorem flat_cons (x : It) (L : List It) : flat (x :: L) = x.cells.toList ++ flat L := by simp [flat]
theorem flat_len (L : List It) : (flat L).length = L.length * 7 := by
  induction L with
  | nil => rfl
  | cons x L ih => rw [flat_cons, List.length_append, ih, cells_len, List.length_cons]; omega
theorem flat_snoc (L : List It) (x : It) : flat (L ++ [x]) = flat L ++ x.cells.toList := by simp [flat]
theorem flat_get {L : List It} {i f : Nat} {x : It} (h : L[i]? = some x) (hf : f < 7) : (flat L)[i * 7 + f]? = x.cells[f]? := by
  induction L generalizing i with
  | nil => simp at h
  | cons y L ih =>
    rw [flat_cons]
    cases i with
    | zero =>
      simp at h
      subst h
      rw [List.getElem?_append_left (by rw [cells_len]; omega)]
      simp
    | succ i =>
      rw [List.getElem?_append_right (by rw [cells_len]; omega), cells_len, show (i + 1) * 7 + f - 7 = i * 7 + f from by omega]
      exact ih (by simpa using h)
theorem flat_set {L : List It} {i f : Nat} {x x' : It} {u : Value} (h : L[i]? = some x) (hf : f < 7) (he : x.cells.setIfInBounds f u = x'.cells) : (flat L).set (i * 7 + f) u = flat (L.set i x') := by
  induction L generalizing i with
  | nil => simp at h
  | cons y L ih =>
    rw [flat_cons]
    cases i with
    | zero =>
      simp at h
      subst h
      rw [List.set_append_left _ _ (by rw [cells_len]; omega), List.set_cons_zero, flat_cons, ← he]
      simp
    | succ i =>
      rw [List.set_append_right _ _ (by rw [cells_len]; omega), cells_len, show (i + 1) * 7 + f - 7 = i * 7 + f from by omega, ih (by simpa using h), List.set_cons_succ, flat_cons]
/-- v is a row of the items L in a block from base on -/
def OwnI (w : World) (base : Nat) (v : Value) (L : List It) : Prop := w.ownsRow base 30 7 v L.length (flat L)
theorem info_item : (Tryz.prog.info? 30).map (fun i => (i.zero, i.size, i.bytes)) = some (some (.agg #[.string ⟨#[]⟩, .string ⟨#[]⟩, .int .i64 0, .string ⟨#[]⟩, .int .i64 0, .string ⟨#[]⟩, .string ⟨#[]⟩]), 7, 96) := by kernel_rfl
theorem OwnI.base_le {w : World} {base : Nat} {v : Value} {l : List It} (h : OwnI w base v l) : ∀ k, v.ownBlock = some k → base ≤ k := fun k hk => (World.ownsRow.lt h k hk).1
theorem OwnI.lt {w : World} {base : Nat} {v : Value} {l : List It} (h : OwnI w base v l) : ∀ k, v.ownBlock = some k → k < w.heap.size := fun k hk => (World.ownsRow.lt h k hk).2
theorem OwnI.drew {w : World} {base : Nat} {v : Value} {l : List It} (h : OwnI w base v l) : OwnI w.drew base v l := h
theorem OwnI.drewN {w : World} {base : Nat} {v : Value} {l : List It} (h : OwnI w base v l) (n : Nat) : OwnI (w.drewN n) base v l := h
theorem OwnI.alloc {w : World} {base : Nat} {v : Value} {l : List It} (h : OwnI w base v l) (o : Obj) : OwnI (w.alloc o) base v l := World.ownsRow.alloc h o
theorem OwnI.nil (w : World) (base : Nat) : OwnI w base (.slice none 0 0) [] := ⟨rfl, .inl ⟨rfl, rfl⟩⟩
theorem OwnI.below {w w' : World} {base : Nat} {v : Value} {l : List It} (h : OwnI w base v l) (hb : Below w.heap.size w w') : OwnI w' base v l := by
  refine ⟨h.1, ?_⟩
  rcases h.2 with h2 | ⟨g, cap, cur, rfl, hg, hh, r⟩
  · exact .inl h2
  · refine .inr ⟨g, cap, cur, rfl, hg, (hb.block g ?_).trans hh, r⟩
    exact h.lt g (by simp [Value.ownBlock])
theorem OwnI.grown {w w' : World} {base g : Nat} {v : Value} {l : List It} (h : OwnI w base v l) (hg : w.grownBy w' (some g)) (hb : g < base) : OwnI w' base v l := by
  refine World.ownsRow.kept h hg ?_
  cases hv : v.ownBlock with
  | none => exact .inl rfl
  | some k => exact .inr fun e => by injection e with e; have := h.base_le k hv; omega
/-- the row as a slice, with its items read -/
structure ReadI (w : World) (base : Nat) (A : Option Addr) (cap : Nat) (L : List It) : Prop where
  own : OwnI w base (.slice A L.length cap) L
  cap_ : L.length ≤ cap ∧ cap ≤ 9223372036854775807
  at_ : 0 < L.length → ∃ g, A = some ⟨g, 0, none⟩ ∧ base ≤ g ∧ g < w.heap.size
theorem OwnI.form {w : World} {base : Nat} {v : Value} {L : List It} (h : OwnI w base v L) : ∃ (A : Option Addr) (cap : Nat), v = .slice A L.length cap ∧ ReadI w base A cap L := by
  rcases h.2 with ⟨rfl, h2⟩ | ⟨g, cap, cur, rfl, hg, hh, hn, hc, hsz, ht⟩
  · exact ⟨none, 0, by rw [h2], by rw [h2]; exact h, by omega, fun h0 => by omega⟩
  · exact ⟨_, cap, rfl, h, ⟨hn, by unfold maxLen at hc; omega⟩, fun _ => ⟨g, rfl, hg, h.lt g (by simp [Value.ownBlock])⟩⟩
theorem OwnI.at_ {w : World} {base g n cap : Nat} {L : List It} (h : OwnI w base (.slice (some ⟨g, 0, none⟩) n cap) L) (hn : n = L.length) {i : Nat} {x : It} (hx : L[i]? = some x) : At x g (i * 7) w := by
  subst hn
  have hi : i < L.length := (List.getElem?_eq_some_iff.1 hx).1
  have hc : ∀ f, f < 7 → w.cell? ⟨g, i * 7 + f, none⟩ = x.cells[f]? := fun f hf => (World.ownsRow.cellAt h (i * 7 + f) (by omega)).trans (flat_get hx hf)
  exact ⟨hc 0 (by omega), hc 1 (by omega), hc 2 (by omega), hc 3 (by omega), hc 4 (by omega), hc 5 (by omega), hc 6 (by omega)⟩
theorem ReadI.row {w : World} {base : Nat} {A : Option Addr} {cap : Nat} {L : List It} (h : ReadI w base A cap L) : ItRow w A cap L :=
  ⟨h.cap_.1, h.cap_.2, fun i x hx => by
    have hi : i < L.length := (List.getElem?_eq_some_iff.1 hx).1
    obtain ⟨g, rfl, hg, hl⟩ := h.at_ (by omega)
    refine ⟨g, 0, rfl, hl, ?_⟩
    rw [Nat.zero_add]
    exact OwnI.at_ h.own rfl hx⟩
theorem OwnI.read {w : World} {base n cap : Nat} {A : Option Addr} {L : List It} (h : OwnI w base (.slice A n cap) L) : n = L.length ∧ ReadI w base A cap L := by
  obtain ⟨A', cap', e, hr⟩ := h.form
  injection e with e1 e2 e3
  subst e1; subst e2; subst e3
  exact ⟨rfl, hr⟩
/-- a field of an item is stored -/
theorem OwnI.store {w : World} {base g cap i f : Nat} {L : List It} {x x' : It} {u : Value} (h : OwnI w base (.slice (some ⟨g, 0, none⟩) L.length cap) L) (hx : L[i]? = some x) (hf : f < 7) (he : x.cells.setIfInBounds f u = x'.cells) :
    OwnI (w.setCell ⟨g, i * 7 + f, none⟩ u) base (.slice (some ⟨g, 0, none⟩) L.length cap) (L.set i x') := by
  have := (World.ownsRow.stored h (i * 7 + f) u).1
  rw [flat_set hx hf he] at this
  unfold OwnI
  rw [List.length_set]
  exact this
theorem OwnI.put {w : World} {base g n cap i f : Nat} {L : List It} {x x' : It} {u : Value} (h : OwnI w base (.slice (some ⟨g, 0, none⟩) n cap) L) (hn : L.length = n) (hx : L[i]? = some x) (hf : f < 7) (he : x.cells.setIfInBounds f u = x'.cells) :
    OwnI (w.setCell ⟨g, i * 7 + f, none⟩ u) base (.slice (some ⟨g, 0, none⟩) n cap) (L.set i x') := by
  subst hn
  exact h.store hx hf he
theorem OwnI.cold {w : World} {base g n cap : Nat} {L : List It} (h : OwnI w base (.slice (some ⟨g, 0, none⟩) n cap) L) (hn : L.length = n) (j : Nat) : w.frozen? ⟨g, j, none⟩ = false := by
  subst hn
  exact World.ownsRow.frozenAt h j
theorem OwnI.putAll {w : World} {base g n cap i : Nat} {L : List It} {x y : It} (h : OwnI w base (.slice (some ⟨g, 0, none⟩) n cap) L) (hn : L.length = n) (hx : L[i]? = some x) :
    OwnI (((((((w.setCell ⟨g, i * 7, none⟩ (.string y.id)).setCell ⟨g, i * 7 + 1, none⟩ (.string y.cu)).setCell ⟨g, i * 7 + 2, none⟩ (.int .i64 y.kind)).setCell ⟨g, i * 7 + 3, none⟩ (.string y.name)).setCell ⟨g, i * 7 + 4, none⟩ (.int .i64 y.at')).setCell ⟨g, i * 7 + 5, none⟩ (.string y.parent)).setCell ⟨g, i * 7 + 6, none⟩ (.string y.text)) base (.slice (some ⟨g, 0, none⟩) n cap) (L.set i y) := by
  have hi : i < L.length := (List.getElem?_eq_some_iff.1 hx).1
  have hs : ∀ z : It, (L.set i z)[i]? = some z := fun z => by rw [List.getElem?_set_self (by omega)]
  have hl : ∀ z : It, (L.set i z).length = n := fun z => by rw [List.length_set, hn]
  have h0 := h.put (f := 0) (x' := ⟨y.id, x.cu, x.kind, x.name, x.at', x.parent, x.text⟩) (u := .string y.id) hn hx (by omega) rfl
  have h1 := h0.put (f := 1) (x' := ⟨y.id, y.cu, x.kind, x.name, x.at', x.parent, x.text⟩) (u := .string y.cu) (hl _) (hs _) (by omega) rfl
  rw [List.set_set] at h1
  have h2 := h1.put (f := 2) (x' := ⟨y.id, y.cu, y.kind, x.name, x.at', x.parent, x.text⟩) (u := .int .i64 y.kind) (hl _) (hs _) (by omega) rfl
  rw [List.set_set] at h2
  have h3 := h2.put (f := 3) (x' := ⟨y.id, y.cu, y.kind, y.name, x.at', x.parent, x.text⟩) (u := .string y.name) (hl _) (hs _) (by omega) rfl
  rw [List.set_set] at h3
  have h4 := h3.put (f := 4) (x' := ⟨y.id, y.cu, y.kind, y.name, y.at', x.parent, x.text⟩) (u := .int .i64 y.at') (hl _) (hs _) (by omega) rfl
  rw [List.set_set] at h4
  have h5 := h4.put (f := 5) (x' := ⟨y.id, y.cu, y.kind, y.name, y.at', y.parent, x.text⟩) (u := .string y.parent) (hl _) (hs _) (by omega) rfl
  rw [List.set_set] at h5
  have h6 := h5.put (f := 6) (x' := y) (u := .string y.text) (hl _) (hs _) (by omega) rfl
  rw [List.set_set] at h6
  exact h6
theorem OwnI.frozen {w : World} {base g cap : Nat} {L : List It} (h : OwnI w base (.slice (some ⟨g, 0, none⟩) L.length cap) L) (j : Nat) : w.frozen? ⟨g, j, none⟩ = false := World.ownsRow.frozenAt h j
/-- append of an item that was just laid -/
theorem app_item {ops : Array Oper} {rest : List Oper} {o : Oper} {a : Act} {Q : Exit → Act → World → Prop} (w : World) (hgd : o.guard = none) (sl x : Operand)
    (ho : o.op = .call { callee := .builtin .append, args := #[sl, x], argTypes := #[26, 26] }) (base : Nat) (v : Value) (L : List It) (hs : a.eval sl = v) (hown : OwnI w base v L) (ad : Addr) (y : It) (hx : a.eval x = .slice (some ad) 1 1)
    (h : ∀ v' w', OwnI w' base v' (L ++ [y]) → w.grownBy w' v.ownBlock → wpList Tryz.prog ops Q rest (a.put o.dst v') w')
    (hnews : ∀ j u, y.cells.toList[j]? = some u → w.cell? (ad.add j) = some u) (hb : L.length ≤ 1000000) (hbase : base ≤ w.heap.size) : wpList Tryz.prog ops Q (o :: rest) a w := by
  obtain ⟨i0, hi, hz0, hz1, hz2⟩ := info_parts info_item
  refine wpList_append_own w hgd sl x _ ho base 30 i0 _ 7 96 Tryz.underlying26 hi hz0 hz1 hz2 rfl (by omega) v L.length (flat L) hs hown ad 1 1 y.cells.toList hx rfl hnews ?_ (by unfold maxLen; omega) (by omega) hbase ?_
  · intro u hu
    simp [It.cells] at hu
    rcases hu with rfl | rfl | rfl | rfl | rfl | rfl | rfl <;> rfl
  intro v' w' h1 h2 _
  refine h v' w' ?_ h2
  unfold OwnI
  rw [flat_snoc, List.length_append]
  exact h1
theorem liti_cells (w : World) (y : It) (t : TypeId) : ∀ j u, y.cells.toList[j]? = some u → (w.alloc (.cells y.cells t)).cell? ((⟨w.heap.size, 0, none⟩ : Addr).add j) = some u := by
  intro j u h
  have e : (⟨w.heap.size, 0, none⟩ : Addr).add j = ⟨w.heap.size, j, none⟩ := by unfold Addr.add; split <;> simp_all
  rw [e, cell_of_row _ _ j _ _ _ (heap_alloc_new w _)]
  simpa using h
end Go.Proofs.YthhfbcddjnjllaaGreatDoor
