/- Changes of small size; rows of changes cell by cell, written in place. -/
import Derived.Test.YtndeifdpiimbeaaGreatDoorPatchZ
import Derived.Test.YtndeifdpiimbeaaGreatDoorRefDiff0
import Derived.Test.YtndeifdpiimbeaaGreatDoorPlain
import Derived.Test.YtndeifdpiimbeaaGreatDoorMakers
import Derived.Test.YtndeifdpiimbeaaGreatDoorLays
import Derived.Shelf.Strings.Repeat
namespace WM
theorem chg_wt (X Y : List ByteArray) (l : List (Nat × Nat)) : ∀ n c, c ∈ chgK X Y l n → ((∀ x, x ∈ c.drop → x ∈ X) ∧ wt c.drop ≤ wt X) ∧ ((∀ x, x ∈ c.add → x ∈ Y) ∧ wt c.add ≤ wt Y)
  | 0, c, h => by simp [chgK] at h
  | n + 1, c, h => by
    have hw : ∀ (Z : List ByteArray) i m, wt ((Z.drop i).take m) ≤ wt Z := fun Z i m => by
      have h1 := wt_take (Z.drop i) m
      have h2 := wt_append (Z.take i) (Z.drop i)
      rw [List.take_append_drop] at h2
      omega
    simp only [chgK, List.mem_append] at h
    rcases h with h | h
    · exact chg_wt X Y l n c h
    · split at h
      · simp at h
        subst h
        exact ⟨⟨fun x hx => List.mem_of_mem_drop (List.mem_of_mem_take hx), hw _ _ _⟩, fun x hx => List.mem_of_mem_drop (List.mem_of_mem_take hx), hw _ _ _⟩
      · simp at h
theorem mem_wtZ : ∀ (l : List ByteArray) (x : ByteArray), x ∈ l → x.size ≤ wt l
  | y :: l, x, h => by
    rcases List.mem_cons.1 h with rfl | h
    · simp only [wt]; omega
    · have := mem_wtZ l x h
      simp only [wt]; omega
end WM
namespace Go.Proofs.YtndeifdpiimbeaaGreatDoor
open Go.RowKit

theorem few_of {s : ByteArray} (h : s.size ≤ 600) : Few s := by
  refine ⟨by omega, ?_⟩
  have h1 := WM.wt_len (WM.toks s)
  have h2 := WM.toks_wt s
  omega
/-- a string that may be laid to a change -/
def Okx (x : ByteArray) : Prop := Odd x ∧ x.size ≤ 20000
theorem odd_toks (s : ByteArray) (hs : s.size ≤ 600) : ∀ x, x ∈ WM.toks s → Odd x ∧ x.size ≤ 1000000000 := fun x hx => by
  have h2 := WM.toks_wt s
  have h3 := WM.mem_wtZ _ x hx
  exact ⟨.inl (WM.toks_ok s x hx), by omega⟩
/-- one change of small size -/
structure OkC (c : WM.ZC) : Prop where
  odd : (∀ x, x ∈ c.drop → Odd x ∧ x.size ≤ 1000000000) ∧ (∀ x, x ∈ c.add → Odd x ∧ x.size ≤ 1000000000)
  drop : WM.wt c.drop ≤ 50000
  add : WM.wt c.add ≤ 50000
theorem OkC.moved {c : WM.ZC} (h : OkC c) (z : Int) : OkC ⟨z, c.drop, c.add⟩ := ⟨h.odd, h.drop, h.add⟩
theorem wt_one (x : ByteArray) (h : x.size ≤ 20000) : WM.wt [x] ≤ 20001 := by simp only [WM.wt]; omega
theorem okz_of {D : List WM.ZC} (h : ∀ c, c ∈ D → OkC c ∧ True) (hl : D.length ≤ 3000) : OkZ D := ⟨fun c hc => (h c hc).1.odd, hl, fun c hc => Nat.le_trans (h c hc).1.drop (by omega), fun c hc => Nat.le_trans (h c hc).1.add (by omega)⟩
theorem differ_len (X Y : List ByteArray) : (WM.differ X Y).length ≤ X.length + 1 := Nat.le_trans (WM.chg_len X Y _ _) (WM.ends_len X Y)
theorem differ_okc {a b : ByteArray} (ha : a.size ≤ 600) (hb : b.size ≤ 600) : ∀ c, c ∈ WM.differ (WM.toks a) (WM.toks b) → OkC c.z ∧ WM.wt c.drop ≤ 2000 ∧ WM.wt c.add ≤ 2000 := fun c hc => by
  have h1 := WM.chg_wt _ _ _ _ c hc
  have h2 := WM.toks_wt a
  have h3 := WM.toks_wt b
  refine ⟨⟨⟨fun x hx => odd_toks a ha x (h1.1.1 x hx), fun x hx => odd_toks b hb x (h1.2.1 x hx)⟩, ?_, ?_⟩, ?_, ?_⟩
  · show WM.wt c.drop ≤ _; omega
  · show WM.wt c.add ≤ _; omega
  · omega
  · omega
theorem differ_at {a b : ByteArray} (ha : a.size ≤ 600) : ∀ c, c ∈ WM.differ (WM.toks a) (WM.toks b) → c.at_ ≤ 1000000 := fun c hc => by
  have h4 := WM.wt_len (WM.toks a)
  have h2 := WM.toks_wt a
  obtain ⟨n, hn⟩ := List.getElem?_of_mem hc
  have h5 := WM.fol_at (WM.differ_fol (WM.toks a) (WM.toks b)) hn
  omega
/-- cell by cell: change number n of the row at block g -/
def ZAt (w : World) (base g n : Nat) (c : WM.ZC) : Prop := ∃ A1 c1 A2 c2, w.cell? ⟨g, n * 3, none⟩ = some (.int .i64 c.at_) ∧ w.cell? ⟨g, n * 3 + 1, none⟩ = some (.slice A1 c.drop.length c1) ∧ w.cell? ⟨g, n * 3 + 2, none⟩ = some (.slice A2 c.add.length c2) ∧ OwnS w base (.slice A1 c.drop.length c1) c.drop ∧ OwnS w base (.slice A2 c.add.length c2) c.add ∧ (Value.slice A1 c.drop.length c1).ownBlock ≠ some g ∧ (Value.slice A2 c.add.length c2).ownBlock ≠ some g
theorem ZAt.below {w w' : World} {base g n : Nat} {c : WM.ZC} (h : ZAt w base g n c) (hg : g < w.heap.size) (hb : Below w.heap.size w w') : ZAt w' base g n c := by
  obtain ⟨A1, c1, A2, c2, k0, k1, k2, o1, o2, n1, n2⟩ := h
  exact ⟨A1, c1, A2, c2, (hb.cell (p := ⟨g, n * 3, none⟩) hg).trans k0, (hb.cell (p := ⟨g, n * 3 + 1, none⟩) hg).trans k1, (hb.cell (p := ⟨g, n * 3 + 2, none⟩) hg).trans k2, o1.below hb (Nat.le_refl _), o2.below hb (Nat.le_refl _), n1, n2⟩
theorem rdz_of {w : World} {base g : Nat} {D : List WM.ZC} (hg : g < w.heap.size) (h : ∀ (n : Nat) (c : WM.ZC), D[n]? = some c → ZAt w base g n c) : RdZ w base (some ⟨g, 0, none⟩) D := fun _ =>
  ⟨g, rfl, hg, fun W hW n c hc => by
    obtain ⟨A1, c1, A2, c2, k0, k1, k2, o1, o2, _, _⟩ := (h n c hc).below hg hW
    exact ⟨A1, c1, A2, c2, k0, k1, k2, o1, o2⟩⟩
/-- a cell of the row is written: the other changes stay -/
theorem ZAt.set {w : World} {base g n i : Nat} {c : WM.ZC} (h : ZAt w base g n c) (v : Value) (h0 : n * 3 ≠ i) (h1 : n * 3 + 1 ≠ i) (h2 : n * 3 + 2 ≠ i) : ZAt (w.setCell ⟨g, i, none⟩ v) base g n c := by
  obtain ⟨A1, c1, A2, c2, k0, k1, k2, o1, o2, n1, n2⟩ := h
  have hg := grown_set w g i v
  have hc : ∀ j, j ≠ i → (w.setCell ⟨g, i, none⟩ v).cell? ⟨g, j, none⟩ = w.cell? ⟨g, j, none⟩ := fun j hj => by
    refine World.cell?_setCell_other _ _ _ _ ?_
    intro e; injection e with _ e; exact hj e.symm
  exact ⟨A1, c1, A2, c2, (hc _ h0).trans k0, (hc _ h1).trans k1, (hc _ h2).trans k2, o1.grown hg (fun k hk e => n1 (hk.trans e.symm)), o2.grown hg (fun k hk e => n2 (hk.trans e.symm)), n1, n2⟩
theorem ZAt.grown {w w' : World} {base q g n : Nat} {c : WM.ZC} (h : ZAt w base q n c) (hg : w.grownBy w' (some g)) (hq : q < w.heap.size) (hqg : q ≠ g) (hgb : g < base) : ZAt w' base q n c := by
  obtain ⟨A1, c1, A2, c2, k0, k1, k2, o1, o2, n1, n2⟩ := h
  have hc : ∀ j, w'.cell? ⟨q, j, none⟩ = w.cell? ⟨q, j, none⟩ := fun j => World.cell?_of_block (a := ⟨q, j, none⟩) (hg.block q hq (fun e => hqg (Option.some.inj e)))
  exact ⟨A1, c1, A2, c2, (hc _).trans k0, (hc _).trans k1, (hc _).trans k2, o1.grown hg (fun k hk e => by have := o1.base_le k hk; injection e with e; omega), o2.grown hg (fun k hk e => by have := o2.base_le k hk; injection e with e; omega), n1, n2⟩
theorem OwnS.setQ {w : World} {base q j : Nat} {u v : Value} {l : List ByteArray} (h : OwnS w base u l) (hn : u.ownBlock ≠ some q) : OwnS (w.setCell ⟨q, j, none⟩ v) base u l := h.grown (grown_set w q j v) (fun _ hk e => hn (hk.trans e.symm))
theorem set_hit {w : World} {q j : Nat} {u v : Value} (h : w.cell? ⟨q, j, none⟩ = some u) : (w.setCell ⟨q, j, none⟩ v).cell? ⟨q, j, none⟩ = some v := World.cell?_setCell_same' w _ v (by rw [h]; rfl)
theorem set_miss {w : World} {q j i : Nat} {v : Value} (h : j ≠ i) : (w.setCell ⟨q, j, none⟩ v).cell? ⟨q, i, none⟩ = w.cell? ⟨q, i, none⟩ := World.cell?_setCell_other _ _ _ _ (fun e => by injection e with _ e; exact h e)
theorem zat_at {w : World} {base q i : Nat} {c : WM.ZC} (z : Int) (h : ZAt w base q i c) : ZAt (w.setCell ⟨q, i * 3, none⟩ (.int .i64 z)) base q i ⟨z, c.drop, c.add⟩ := by
  obtain ⟨A1, c1, A2, c2, k0, k1, k2, o1, o2, n1, n2⟩ := h
  exact ⟨A1, c1, A2, c2, set_hit k0, (set_miss (by omega)).trans k1, (set_miss (by omega)).trans k2, o1.setQ n1, o2.setQ n2, n1, n2⟩
theorem zat_drop {w : World} {base q i : Nat} {c : WM.ZC} {A : Option Addr} {k : Nat} {l : List ByteArray} (h : ZAt w base q i c) (ho : OwnS w base (.slice A l.length k) l) (hn : (Value.slice A l.length k).ownBlock ≠ some q) : ZAt (w.setCell ⟨q, i * 3 + 1, none⟩ (.slice A l.length k)) base q i ⟨c.at_, l, c.add⟩ := by
  obtain ⟨A1, c1, A2, c2, k0, k1, k2, o1, o2, n1, n2⟩ := h
  exact ⟨A, k, A2, c2, (set_miss (by omega)).trans k0, set_hit k1, (set_miss (by omega)).trans k2, ho.setQ hn, o2.setQ n2, hn, n2⟩
theorem zat_add {w : World} {base q i : Nat} {c : WM.ZC} {A : Option Addr} {k : Nat} {l : List ByteArray} (h : ZAt w base q i c) (ho : OwnS w base (.slice A l.length k) l) (hn : (Value.slice A l.length k).ownBlock ≠ some q) : ZAt (w.setCell ⟨q, i * 3 + 2, none⟩ (.slice A l.length k)) base q i ⟨c.at_, c.drop, l⟩ := by
  obtain ⟨A1, c1, A2, c2, k0, k1, k2, o1, o2, n1, n2⟩ := h
  exact ⟨A1, c1, A, k, (set_miss (by omega)).trans k0, (set_miss (by omega)).trans k1, set_hit k2, o1.setQ n1, ho.setQ hn, n1, hn⟩
/-- change number i is written: the whole row -/
theorem zat_upd {w : World} {base q i j : Nat} {D : List WM.ZC} {c' : WM.ZC} {v : Value} (hall : ∀ (n : Nat) (c : WM.ZC), D[n]? = some c → ZAt w base q n c) (hc : ZAt (w.setCell ⟨q, j, none⟩ v) base q i c') (hj : i * 3 ≤ j ∧ j < i * 3 + 3) : ∀ (n : Nat) (c : WM.ZC), (D.set i c')[n]? = some c → ZAt (w.setCell ⟨q, j, none⟩ v) base q n c := fun n c hn => by
  by_cases e : i = n
  · subst e
    have hlt : i < D.length := by have := (List.getElem?_eq_some_iff.1 hn).1; simpa using this
    rw [List.getElem?_set_self hlt] at hn
    obtain rfl := Option.some.inj hn
    exact hc
  · rw [List.getElem?_set_ne e] at hn
    exact (hall n c hn).set v (by omega) (by omega) (by omega)
theorem okz_set {D : List WM.ZC} {i : Nat} {c' : WM.ZC} (h : ∀ c, c ∈ D → OkC c) (hl : D.length ≤ 2999) (hc : OkC c') : OkZ (D.set i c') := okz_of (fun c hm => ⟨by
  rcases List.mem_or_eq_of_mem_set hm with h1 | h1
  · exact h c h1
  · rw [h1]; exact hc, trivial⟩) (by rw [List.length_set]; omega)
theorem OwnC.zat {w : World} {base : Nat} {v : Value} {D : List WM.Chg} (h : OwnC w base v D) : ∃ (A : Option Addr) (cap : Nat), v = .slice A D.length cap ∧ (0 < D.length → ∃ g, A = some ⟨g, 0, none⟩ ∧ base ≤ g ∧ g < w.heap.size ∧ (∃ cs t, w.heap[g]? = some (.cells cs t (0, 0))) ∧ ∀ (n : Nat) (c : WM.Chg), D[n]? = some c → ZAt w base g n c.z) := by
  have hlt := h.lt
  obtain ⟨L, h1, h2, h3⟩ := h
  rcases id h1.2 with ⟨rfl, e⟩ | ⟨g, cap, cur, rfl, hg, hh, hn, hc, hsz, ht⟩
  · exact ⟨none, 0, by rw [e], fun h0 => by omega⟩
  · refine ⟨_, cap, rfl, fun _ => ⟨g, rfl, hg, (hlt g (by simp [Value.ownBlock])).2, ⟨_, _, hh⟩, fun n c hx => ?_⟩⟩
    have hj : n < D.length := (List.getElem?_eq_some_iff.1 hx).1
    obtain ⟨x, hL⟩ : ∃ x, L[n]? = some x := ⟨_, List.getElem?_eq_getElem (show n < L.length by omega)⟩
    obtain ⟨e1, e2, e3, e4⟩ := h3 n c x hx hL
    obtain ⟨c1, c2, c3⟩ := ccells_at L n x hL
    obtain ⟨a, vd, va⟩ := x
    simp only at e1 e2 e3 e4 c1 c2 c3
    have e5 := e4 g (by simp [Value.ownBlock])
    obtain ⟨A1, k1, rfl, _⟩ := e2.form
    obtain ⟨A2, k2, rfl, _⟩ := e3.form
    exact ⟨A1, k1, A2, k2, by show _ = some (Value.int .i64 (c.at_ : Nat)); rw [← e1]; exact (World.ownsRow.cellAt h1 (n * 3) (by omega)).trans c1, (World.ownsRow.cellAt h1 (n * 3 + 1) (by omega)).trans c2, (World.ownsRow.cellAt h1 (n * 3 + 2) (by omega)).trans c3, e2, e3, e5.1, e5.2⟩
theorem OwnC.grownG {w w' : World} {base g : Nat} {v : Value} {D : List WM.Chg} (h : OwnC w base v D) (hg : w.grownBy w' (some g)) (hgb : g < base) : OwnC w' base v D := by
  have hlt := h.lt
  obtain ⟨L, h1, h2, h3⟩ := h
  refine ⟨L, ⟨h1.1, ?_⟩, h2, fun n c x hc hx => ?_⟩
  · rcases h1.2 with h2 | ⟨q, cap, cur, rfl, hq, hh, r⟩
    · exact .inl h2
    · exact .inr ⟨q, cap, cur, rfl, hq, (hg.block q (hlt q (by simp [Value.ownBlock])).2 (fun e => by injection e with e; omega)).trans hh, r⟩
  · obtain ⟨e1, e2, e3, e4⟩ := h3 n c x hc hx
    exact ⟨e1, e2.grown hg (fun k hk e => by have := e2.base_le k hk; injection e with e; omega), e3.grown hg (fun k hk e => by have := e3.base_le k hk; injection e with e; omega), e4⟩
theorem OwnS.keep {w w' : World} {base g : Nat} {v : Value} {l : List ByteArray} (h : OwnS w base v l) (hk : ∀ k, k < w.heap.size → k ≠ g → w'.heap[k]? = w.heap[k]?) (hgb : g < base) : OwnS w' base v l := by
  have hlt := h.lt
  refine ⟨h.1, ?_⟩
  rcases h.2 with h2 | ⟨q, cap, cur, rfl, hq, hh, r⟩
  · exact .inl h2
  · exact .inr ⟨q, cap, cur, rfl, hq, (hk q (hlt q (by simp [Value.ownBlock])) (by omega)).trans hh, r⟩
theorem ZAt.keep {w w' : World} {base q g n : Nat} {c : WM.ZC} (h : ZAt w base q n c) (hk : ∀ k, k < w.heap.size → k ≠ g → w'.heap[k]? = w.heap[k]?) (hq : q < w.heap.size) (hqg : q ≠ g) (hgb : g < base) : ZAt w' base q n c := by
  obtain ⟨A1, c1, A2, c2, k0, k1, k2, o1, o2, n1, n2⟩ := h
  have hc : ∀ j, w'.cell? ⟨q, j, none⟩ = w.cell? ⟨q, j, none⟩ := fun j => World.cell?_of_block (a := ⟨q, j, none⟩) (hk q hq hqg)
  exact ⟨A1, c1, A2, c2, (hc _).trans k0, (hc _).trans k1, (hc _).trans k2, o1.keep hk hgb, o2.keep hk hgb, n1, n2⟩
theorem zat_map {w : World} {base q : Nat} {D : List WM.Chg} (h : ∀ (n : Nat) (c : WM.Chg), D[n]? = some c → ZAt w base q n c.z) : ∀ (n : Nat) (c : WM.ZC), (D.map WM.Chg.z)[n]? = some c → ZAt w base q n c := fun n c hc => by
  rw [List.getElem?_map, Option.map_eq_some_iff] at hc
  obtain ⟨x, hx, rfl⟩ := hc
  exact h n x hx
theorem rdz_nil {w : World} {base : Nat} {A : Option Addr} {D : List WM.Chg} (h : ¬ 0 < D.length) : RdZ w base A (D.map WM.Chg.z) := fun h0 => by rw [List.length_map] at h0; exact absurd h0 h
theorem okc_map {D : List WM.Chg} (h : ∀ c, c ∈ D → OkC c.z ∧ WM.wt c.drop ≤ 2000 ∧ WM.wt c.add ≤ 2000) : ∀ c, c ∈ D.map WM.Chg.z → OkC c := fun c hc => by
  obtain ⟨x, hx, rfl⟩ := List.mem_map.1 hc
  exact (h x hx).1
theorem okz_map {D : List WM.Chg} (h : ∀ c, c ∈ D → OkC c.z ∧ WM.wt c.drop ≤ 2000 ∧ WM.wt c.add ≤ 2000) (hl : D.length ≤ 2999) : OkZ (D.map WM.Chg.z) := okz_of (fun c hc => ⟨okc_map h c hc, trivial⟩) (by rw [List.length_map]; omega)
/-- one of some strings -/
def TookM (cs : List Value) (B g k : Nat) (w : World) (e : Ending) (w' : World) : Prop := ∃ (i : Nat) (s : ByteArray), cs[i]? = some (.string s) ∧ e = .returned (.string s) ∧ Strm w' B g k ∧ w.grownBy w' (some g)
set_option maxHeartbeats 400000 in
theorem one_mem (n : Nat) (cs : List Value) (m : Nat) (b : Nat) (t : TypeId) (B g k : Nat) (w : World) (hs : Strm w B g k) (hb : w.heap[b]? = some (.cells cs.toArray t (0, 0))) (hn : cs.length = n) (h0 : 0 < n) (h1 : n ≤ 1000000) (hcs : cs.all (strV m) = true) (hk : k < 1000000000000) (hne : b ≠ g) :
    Calls Tryz.prog 13 #[.pointer (some ⟨g, 0, none⟩), .slice (some ⟨b, 0, none⟩) n n] w (TookM cs B g (k + 1) w) := by
  have hbl : b < w.heap.size := by
    rcases Nat.lt_or_ge b w.heap.size with hlt | hge
    · exact hlt
    · rw [Array.getElem?_eq_none hge] at hb; cases hb
  have Hb := Lib.hid hb
  have HC := Lib.hid hcs
  have HN := Lib.hid hn
  clear hb hcs hn
  go_enter Tryz.func13, Tryz.ntmps13
  go_wp2_with fail
  refine (Next_any _ (by omega) (by omega) B g k hk _ hs).mono ?_
  rintro e w' ⟨r, hr1, hr2, rfl, hs1, hg1⟩
  obtain ⟨i, rfl⟩ := Int.eq_ofNat_of_zero_le hr1
  have hi : i < n := by omega
  obtain ⟨u, hu, hm⟩ := strV_at HC.out (i := i) (by have := HN.out; omega)
  have hc : w'.cell? ⟨b, i, none⟩ = some (.string u) := by
    rw [cell_of_row w' b i _ t (0, 0) ((hg1.block b hbl (by simpa using hne)).trans Hb.out)]
    simpa using hu
  have HU := Lib.hid hu
  clear hu
  go_wp2_with fail
  go_ret
  exact ⟨i, u, HU.out, rfl, hs1, hg1⟩
theorem one_memN (n : Nat) (cs : List Value) (m : Nat) (t : TypeId) (B g k : Nat) (wr : World) (hs : Strm wr B g k) (hn : cs.length = n) (h0 : 0 < n) (h1 : n ≤ 1000000) (hcs : cs.all (strV m) = true) (hk : k < 1000000000000) :
    Calls Tryz.prog 13 #[.pointer (some ⟨g, 0, none⟩), .slice (some ⟨wr.heap.size, 0, none⟩) n n] (wr.alloc (.cells cs.toArray t)) (TookM cs B g (k + 1) wr) :=
  (one_mem n cs m wr.heap.size t B g k _ (hs.alloc _) (heap_alloc_new wr _) hn h0 h1 hcs hk (by have := hs.lt; omega)).mono fun _ _ ⟨i, s, h1, h2, h3, h4⟩ => ⟨i, s, h1, h2, h3, (World.grownBy_alloc _ _ _).trans h4⟩
/-- 20000 letters x -/
noncomputable def manyX : ByteArray := ⟨(Lib.repeatL [120] 20000).toArray⟩
theorem manyX_size : manyX.size = 20000 := by
  show (Lib.repeatL [120] 20000).toArray.size = 20000
  rw [List.size_toArray, Lib.repeatL_length]
  rfl
theorem rep_mem : ∀ n b, b ∈ Lib.repeatL [120] n → b = 120
  | 0, b, h => by simp [Lib.repeatL] at h
  | n + 1, b, h => by
    have e : Lib.repeatL [120] (n + 1) = [120] ++ Lib.repeatL [120] n := rfl
    rw [e, List.mem_append] at h
    rcases h with h | h
    · simpa using h
    · exact rep_mem n b h
theorem manyX_ne : manyX.data.toList ≠ [] := fun h => by
  have h2 := congrArg List.length h
  rw [show manyX.data.toList.length = manyX.size from Array.length_toList, manyX_size] at h2
  exact absurd h2 (by decide)
theorem manyX_tok : WM.IsTok manyX := by
  refine .inr ⟨manyX_ne, fun b hb => ?_⟩
  have := rep_mem 20000 b (by simpa [manyX] using hb)
  subst this
  decide
theorem IsTok1 (x : UInt8) (h : x ≠ 10 ∧ x ≠ 32) : WM.IsTok ⟨#[x]⟩ := .inr ⟨by simp, fun b hb => by
  have e : b = x := by simpa using hb
  rw [e]; exact h⟩
def lit4 : List Value := [.string ⟨#[97]⟩, .string ⟨#[]⟩, .string ⟨#[97, 32, 98]⟩, .string ⟨#[10]⟩]
noncomputable def lit5 : List Value := [.string ⟨#[97]⟩, .string ⟨#[]⟩, .string ⟨#[97, 32, 98]⟩, .string ⟨#[10]⟩, .string manyX]
theorem okx_a : Okx ⟨#[97]⟩ := ⟨.inl (IsTok1 97 (by decide)), by show 1 ≤ 20000; omega⟩
theorem okx_n : Okx ⟨#[]⟩ := ⟨.inr (.inl rfl), by show 0 ≤ 20000; omega⟩
theorem okx_ab : Okx ⟨#[97, 32, 98]⟩ := ⟨.inr (.inr rfl), by show 3 ≤ 20000; omega⟩
theorem okx_nl : Okx ⟨#[10]⟩ := ⟨.inl (.inl rfl), by show 1 ≤ 20000; omega⟩
theorem okx_x : Okx manyX := ⟨.inl manyX_tok, by rw [manyX_size]; omega⟩
theorem lit5_ok {j : Nat} {u : ByteArray} (h : lit5[j]? = some (.string u)) : Okx u := by
  have hm := List.mem_of_getElem? h
  simp only [lit5, List.mem_cons, List.not_mem_nil, or_false] at hm
  rcases hm with e | e | e | e | e <;> (injection e with e; subst e)
  · exact okx_a
  · exact okx_n
  · exact okx_ab
  · exact okx_nl
  · exact okx_x
theorem lit4_ok {j : Nat} {u : ByteArray} (h : lit4[j]? = some (.string u)) : Okx u := by
  have hm := List.mem_of_getElem? h
  simp only [lit4, List.mem_cons, List.not_mem_nil, or_false] at hm
  rcases hm with e | e | e | e <;> (injection e with e; subst e)
  · exact okx_a
  · exact okx_n
  · exact okx_ab
  · exact okx_nl
theorem lit4_str : lit4.all (strV 3) = true := by decide
theorem lit5_str : lit5.all (strV 20000) = true := by
  rw [List.all_eq_true]
  intro v hv
  obtain ⟨j, hj⟩ := List.getElem?_of_mem hv
  simp only [lit5, List.mem_cons, List.not_mem_nil, or_false] at hv
  have hs : ∀ u, Okx u → strV 20000 (.string u) = true := fun u hu => decide_eq_true hu.2
  rcases hv with rfl | rfl | rfl | rfl | rfl
  · exact hs _ okx_a
  · exact hs _ okx_n
  · exact hs _ okx_ab
  · exact hs _ okx_nl
  · exact hs _ okx_x
theorem okc_drop {c : WM.Chg} {u : ByteArray} (h : OkC c.z ∧ WM.wt c.drop ≤ 2000 ∧ WM.wt c.add ≤ 2000) (hu : Okx u) : OkC ⟨c.at_, c.drop ++ [u], c.add⟩ := by
  have h1 := WM.wt_append c.drop [u]
  have h2 := wt_one u hu.2
  refine ⟨⟨fun x hx => ?_, h.1.odd.2⟩, ?_, h.1.add⟩
  · rcases List.mem_append.1 hx with hx | hx
    · exact h.1.odd.1 x hx
    · simp at hx; subst hx; exact ⟨hu.1, Nat.le_trans hu.2 (by omega)⟩
  · show WM.wt (c.drop ++ [u]) ≤ 50000; omega
theorem okc_add {c : WM.Chg} {u : ByteArray} (h : OkC c.z ∧ WM.wt c.drop ≤ 2000 ∧ WM.wt c.add ≤ 2000) (hu : Okx u) : OkC ⟨c.at_, c.drop, c.add ++ [u]⟩ := by
  have h1 := WM.wt_append c.add [u]
  have h2 := wt_one u hu.2
  refine ⟨⟨h.1.odd.1, fun x hx => ?_⟩, h.1.drop, ?_⟩
  · rcases List.mem_append.1 hx with hx | hx
    · exact h.1.odd.2 x hx
    · simp at hx; subst hx; exact ⟨hu.1, Nat.le_trans hu.2 (by omega)⟩
  · show WM.wt (c.add ++ [u]) ≤ 50000; omega
theorem okc_none (c : WM.ZC) : OkC ⟨c.at_, [], []⟩ := ⟨⟨fun x hx => by simp at hx, fun x hx => by simp at hx⟩, by show WM.wt [] ≤ _; simp [WM.wt], by show WM.wt [] ≤ _; simp [WM.wt]⟩
theorem Repeat_x (w : World) : Calls Tryz.prog 19 #[.string ⟨#[120]⟩, .int .i64 20000] w fun e w' => e = .returned (.string manyX) ∧ Below w.heap.size w w' :=
  Any.strings_Repeat Tryz.lays105 (Tryz.extra _ rfl rfl) ⟨#[120]⟩ 20000 w (by omega) (by show 1 * 20000 ≤ _; omega)
end Go.Proofs.YtndeifdpiimbeaaGreatDoor
