/- Covered bytes and the spans that cover them: plain mathematics; rows of bytes. -/
import Derived.Test.YtflilepmhidndaaDoorStretch
import Derived.Test.YtflilepmhidndaaDoorSpCheck
import Derived.Test.YtflilepmhidndaaDoorPriv
namespace PT
/-- C as yes or no -/
noncomputable def rc (C : Int → Prop) (i : Nat) : Bool := @decide (C i) (Classical.propDecidable _)
theorem rc_iff {C : Int → Prop} {i : Nat} : rc C i = true ↔ C i := by unfold rc; exact @decide_eq_true_iff _ (Classical.propDecidable _)
theorem rc_congr {C D : Int → Prop} {i : Nat} (h : C i ↔ D i) : rc C i = rc D i := by rw [Bool.eq_iff_iff, rc_iff, rc_iff]; exact h
theorem red_congr {f f' : Nat → Bool} {l : List UInt8} (h : ∀ i, i < l.length → f i = f' i) : red f l = red f' l := by
  apply List.ext_getElem?
  intro i
  rw [red_at, red_at]
  rcases Nat.lt_or_ge i l.length with h1 | h1
  · rw [h i h1]
  · rw [List.getElem?_eq_none h1]; rfl
theorem red_set {f f' : Nat → Bool} {l : List UInt8} {z : Nat} {u : UInt8} (hu : (red f l)[z]? = some u) (h1 : f' z = true) (h2 : ∀ j, j ≠ z → f' j = f j) : red f' l = (red f l).set z (rdc u) := by
  apply List.ext_getElem?
  intro i
  by_cases e : i = z
  · subst e
    rw [red_at] at hu ⊢
    have hlt : i < l.length := by
      rcases Nat.lt_or_ge i l.length with h3 | h3
      · exact h3
      · rw [List.getElem?_eq_none h3] at hu; cases hu
    rw [List.getElem?_eq_getElem hlt] at hu ⊢
    rw [List.getElem?_set_self (by rw [red_len]; exact hlt), h1]
    simp only [Option.map_some, Option.some.injEq] at hu ⊢
    rw [← hu]
    cases f i <;> simp [rdc_twice]
  · rw [List.getElem?_set_ne (fun h => e h.symm), red_at, red_at, h2 i e]
theorem set_same {l : List UInt8} {z : Nat} {u : UInt8} (h : l[z]? = some u) : l.set z u = l := by
  apply List.ext_getElem?
  intro i
  by_cases e : i = z
  · subst e
    have hlt : i < l.length := (List.getElem?_eq_some_iff.1 h).1
    rw [List.getElem?_set_self hlt, h]
  · rw [List.getElem?_set_ne (fun h => e h.symm)]
/-- what spans of whole code points cover -/
theorem cov_st {l : List UInt8} {L : List (Int × Int)} (hL : ∀ x, x ∈ L → 0 ≤ x.1 ∧ x.1 < x.2 ∧ x.2 ≤ l.length) (i : Nat) : WM.cov (L.map (st l)) i ↔ covd l (WM.cov L) i := by
  constructor
  · rintro ⟨t, ht, h1, h2⟩
    obtain ⟨s, hs, rfl⟩ := List.mem_map.1 ht
    have := hL s hs
    have hk := (span_covd (l := l) (p := s.1.toNat) (q := s.2.toNat) (i := i) (by omega) (by omega)).1 ⟨by simp only [st] at h1; omega, by simp only [st] at h2; omega⟩
    obtain ⟨k, k1, k2, k3⟩ := hk
    exact ⟨k, ⟨s, hs, by omega, by omega⟩, by omega, k3⟩
  · rintro ⟨k, ⟨s, hs, h1, h2⟩, h3, h4⟩
    have := hL s hs
    obtain ⟨a, b⟩ := (span_covd (l := l) (p := s.1.toNat) (q := s.2.toNat) (i := i) (by omega) (by omega)).2 ⟨k, by omega, by omega, h4⟩
    exact ⟨st l s, List.mem_map.2 ⟨s, hs, rfl⟩, by simp only [st]; omega, by simp only [st]; omega⟩
theorem red_st {l : List UInt8} {L : List (Int × Int)} (hL : ∀ x, x ∈ L → 0 ≤ x.1 ∧ x.1 < x.2 ∧ x.2 ≤ l.length) : red (rc (WM.cov (L.map (st l)))) l = red (covB l (WM.cov L)) l :=
  red_congr fun i _ => by rw [Bool.eq_iff_iff, rc_iff, covB_iff]; exact cov_st hL i
theorem st_in {l : List UInt8} {L : List (Int × Int)} (hL : ∀ x, x ∈ L → 0 ≤ x.1 ∧ x.1 < x.2 ∧ x.2 ≤ l.length) : ∀ x, x ∈ L.map (st l) → 0 ≤ x.1 ∧ x.1 < x.2 ∧ x.2 ≤ l.length := fun t ht => by
  obtain ⟨s, hs, rfl⟩ := List.mem_map.1 ht
  have := hL s hs
  have h1 := dn_le l s.1.toNat
  have h2 := up_le (l := l) (i := s.2.toNat) (by omega)
  simp only [st]
  omega
theorem rdc_keep {u : UInt8} (h : u.toNat = 32 ∨ u.toNat = 10) : rdc u = u := by
  unfold rdc
  rw [if_pos]
  rcases h with h | h
  · exact .inl (UInt8.toNat_inj.1 h)
  · exact .inr (UInt8.toNat_inj.1 h)
theorem rdc_sign {u : UInt8} (h : ¬ u.toNat = 32) (h2 : ¬ u.toNat = 10) : rdc u = 35 := by
  unfold rdc
  rw [if_neg]
  rintro (h3 | h3)
  · exact h (by rw [h3]; rfl)
  · exact h2 (by rw [h3]; rfl)
end PT
namespace Go.Proofs.YtflilepmhidndaaDoor
open Go.RowKit

/-- block g holds bytes -/
def BRow (w : World) (g : Nat) (l : List UInt8) : Prop := ∀ j u, l[j]? = some u → w.cell? ⟨g, j, none⟩ = some (.int .u8 u.toNat) ∧ w.frozen? ⟨g, j, none⟩ = false
theorem BRow.below {w w' : World} {B g : Nat} {l : List UInt8} (h : BRow w g l) (hb : Below B w w') (hg : g < B) : BRow w' g l := fun j u hj => ⟨(hb.cell (p := ⟨g, j, none⟩) hg).trans (h j u hj).1, (hb.frozen (p := ⟨g, j, none⟩) hg).trans (h j u hj).2⟩
theorem BRow.set {w : World} {g z : Nat} {l : List UInt8} {u : UInt8} (h : BRow w g l) (hz : l[z]? = some u) (u' : UInt8) : BRow (w.setCell ⟨g, z, none⟩ (.int .u8 u'.toNat)) g (l.set z u') := by
  intro j v hj
  by_cases e : j = z
  · subst e
    rw [List.getElem?_set_self (List.getElem?_eq_some_iff.1 hz).1] at hj
    injection hj with hj
    subst hj
    exact ⟨World.cell?_setCell_same w _ _ (h j u hz).1, by rw [World.frozen?_setCell]; exact (h j u hz).2⟩
  · rw [List.getElem?_set_ne (fun h => e h.symm)] at hj
    exact ⟨(World.cell?_setCell_other w _ _ _ (fun h => e (by injection h with _ h2; exact h2.symm))).trans (h j v hj).1, by rw [World.frozen?_setCell]; exact (h j v hj).2⟩
theorem BRow.str {w : World} {g n : Nat} {l : List UInt8} (h : BRow w g l) (hn : l.length = n) (cap : Nat) : (convert 49 9 (.slice (some ⟨g, 0, none⟩) n cap)).run Tryd.prog w = .ok (.string ⟨l.toArray⟩) w := by
  have e : (⟨l.toArray⟩ : ByteArray) = strOfNums (l.map fun b => (b.toNat : Int)) := by simp [strOfNums, Function.comp_def]
  rw [e]
  refine run_convert_bytes_arg w 49 5 Tryd.underlying49 Tryd.underlying5 g 0 n cap _ (by rw [List.length_map, hn]) (fun i hi => ?_) 9 Tryd.underlying9
  have hi' : i < l.length := by omega
  obtain ⟨h1, _⟩ := h i _ (List.getElem?_eq_getElem hi')
  rw [Nat.zero_add, h1, List.getD_eq_getElem?_getD, List.getElem?_map, List.getElem?_eq_getElem hi']
  rfl
theorem OwnI.other {w : World} {base g z : Nat} {v : Value} {L : List (Int × Int)} (h : OwnI w base v L) (hg : g < base) (u : Value) : OwnI (w.setCell ⟨g, z, none⟩ u) base v L :=
  h.grown (row := some g) ⟨rfl, rfl, rfl, by simp, fun i _ hne => Below.heap_setCell w _ u i (fun e => hne (by rw [e]))⟩ (fun k hk e => by have := h.base_le k hk; injection e; omega)
theorem OwnI.atK {w : World} {base g n cap k : Nat} {L : List (Int × Int)} {x : Int × Int} (h : OwnI w base (.slice (some ⟨g, 0, none⟩) n cap) L) (hx : L[k]? = some x) : base ≤ g ∧ g < w.heap.size ∧ w.cell? ⟨g, k * 2, none⟩ = some (.int .i64 x.1) ∧ w.cell? ⟨g, k * 2 + 1, none⟩ = some (.int .i64 x.2) := by
  obtain ⟨A, c, e, hl, hf⟩ := h.form
  have hlt := (List.getElem?_eq_some_iff.1 hx).1
  obtain ⟨g', rfl, h1, h2, h3, h4⟩ := hf (by omega)
  injection e with e1 e2 e3
  injection e1 with e1
  injection e1 with e1
  subst e1
  exact ⟨h1, h2, (h4 k x hx).1, (h4 k x hx).2⟩
theorem checkCovered_ok {w : World} {b : Nat} {v : Value} {L : List (Int × Int)} (h : OwnI w b v L) (s : ByteArray) (hB : TB.bodyC s = 0) (hL : WM.spFault s.size L = 0) (hT : LibV w) : Calls Tryd.prog 20 #[.string s, v] w (SaysN 0 w) := by
  have hs : s.size ≤ 20000 := by
    unfold TB.bodyC at hB
    split at hB
    · cases hB
    · omega
  have hX := CheckBody_any s (by omega) w hT
  rw [hB] at hX
  have hC := fun w' (hb : Below w.heap.size w w') => CheckSpans_any (h.below hb) s.size
  rw [hL] at hC
  clear h hB hL
  go_enter Tryd.func20, Tryd.ntmps20
  go_wp2_with fail
  refine hX.mono ?_
  rintro e w1 ⟨rfl, hw1⟩
  have hC1 := hC w1 hw1
  have HW := Lib.hid hw1
  clear hX hw1 hC
  go_wp2_with fail
  refine hC1.mono ?_
  rintro e w2 ⟨rfl, hb2⟩
  have HB := Lib.hid (HW.out.trans (hb2.mono HW.out.size))
  clear hC1 hb2
  go_wp2_with fail
  go_ret
  exact ⟨rfl, HB.out⟩
theorem pointsWhole_any {w : World} {b : Nat} {v : Value} {s : ByteArray} {L : List (Int × Int)} (h : OwnI w b v L) (hl : L.length ≤ 1000000) (hs : s.size ≤ 1000000) (hL : ∀ x, x ∈ L → 0 ≤ x.1 ∧ x.1 < x.2 ∧ x.2 ≤ s.size) (h0 : PT.cont (s.data.toList.getD 0 0) = false) : Calls Tryd.prog 21 #[.string s, v] w (RowOwnI (L.map (PT.st s.data.toList)) w) := by
  have hS := stretched_any (bx := w.heap.size) (h.alloc (.cells #[.string s] 9)) hl hs hL h0 (by simp) (by rw [cell_of_row _ _ 0 _ _ _ (heap_alloc_new w _)]; rfl)
  generalize L.map (PT.st s.data.toList) = M at *
  clear h hL h0
  go_enter Tryd.func21, Tryd.ntmps21
  go_wp2_with fail
  refine hS.mono ?_
  rintro e w1 ⟨v1, rfl, ho1, hb1⟩
  have HO := Lib.hid (And.intro ho1 hb1)
  obtain ⟨A, cap, rfl, -, -⟩ := ho1.form
  clear hS ho1 hb1
  go_wp2_with fail
  go_ret
  exact ⟨_, rfl, HO.out.1.less (by simp), ((Below.refl w.heap.size w).alloc (Nat.le_refl _) _).trans (HO.out.2.mono (by simp))⟩
end Go.Proofs.YtflilepmhidndaaDoor
