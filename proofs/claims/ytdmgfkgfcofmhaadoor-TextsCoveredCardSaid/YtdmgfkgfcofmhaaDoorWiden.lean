/- Contract of privilege.Widen at a right text and right spans. -/
import Derived.Test.YtdmgfkgfcofmhaaDoorStretchW
import Derived.Test.YtdmgfkgfcofmhaaDoorCvM
import Derived.Test.YtdmgfkgfcofmhaaDoorTog
namespace PT
/-- the starts of spans made longer keep their order -/
theorem st_order {l : List UInt8} {L : List (Int × Int)} (h : WM.sep L) (h0 : ∀ x, x ∈ L → 0 ≤ x.1) : ∀ (i j : Nat) (s t : Int × Int), (L.map (st l))[i]? = some s → (L.map (st l))[j]? = some t → i < j → s.1 ≤ t.1 := fun i j s t hi hj hij => by
  rw [List.getElem?_map] at hi hj
  obtain ⟨a, ha, rfl⟩ := Option.map_eq_some_iff.1 hi
  obtain ⟨b, hb, rfl⟩ := Option.map_eq_some_iff.1 hj
  obtain ⟨hjl, hbe⟩ := List.getElem?_eq_some_iff.1 hb
  obtain ⟨hil, hae⟩ := List.getElem?_eq_some_iff.1 ha
  have hsep : WM.sep (L.take i ++ a :: L.drop (i + 1)) := by
    have : L.take i ++ a :: L.drop (i + 1) = L := by rw [← hae, ← List.drop_eq_getElem_cons hil, List.take_append_drop]
    rw [this]; exact h
  have hm : b ∈ L.drop (i + 1) := by
    refine List.mem_of_getElem? (i := j - (i + 1)) ?_
    rw [List.getElem?_drop, show i + 1 + (j - (i + 1)) = j by omega]; exact hb
  have h1 := (WM.sep_mid hsep).2.2 b hm
  have h2 := (WM.sep_mid hsep).1
  have ha0 := h0 a (by rw [← hae]; exact List.getElem_mem hil)
  have := dn_mono (l := l) (i := a.1.toNat) (j := b.1.toNat) (by omega)
  simp only [st]
  omega
end PT
namespace Go.Proofs.YtdmgfkgfcofmhaaDoor
open Go.RowKit

theorem wordsWhole_any {w : World} {b : Nat} {v : Value} {s : ByteArray} {L : List (Int × Int)} (h : OwnI w b v L) (hl : L.length ≤ 1000000) (hs : s.size ≤ 1000000) (hL : ∀ x, x ∈ L → 0 ≤ x.1 ∧ x.1 < x.2 ∧ x.2 ≤ s.size) : Calls Tryd.prog 26 #[.string s, v] w (RowOwnI (L.map (PT.st (PT.wl s.data.toList))) w) := by
  have hS := stretchedW_any (bx := w.heap.size) (h.alloc (.cells #[.string s] 9)) hl hs hL (PT.wl_zero _) (by simp) (by rw [cell_of_row _ _ 0 _ _ _ (heap_alloc_new w _)]; rfl)
  generalize L.map (PT.st (PT.wl s.data.toList)) = M at *
  clear h hL
  go_enter Tryd.func26, Tryd.ntmps26
  go_wp2_with fail
  refine hS.mono ?_
  rintro e w1 ⟨v1, rfl, ho1, hb1⟩
  have HO := Lib.hid (And.intro ho1 hb1)
  obtain ⟨A, cap, rfl, -, -⟩ := ho1.form
  clear hS ho1 hb1
  go_wp2_with fail
  go_ret
  exact ⟨_, rfl, HO.out.1.less (by simp), ((Below.refl w.heap.size w).alloc (Nat.le_refl _) _).trans (HO.out.2.mono (by simp))⟩
/-- right spans that cover what D says are answered, and no fault -/
def WidSays (D : Int → Prop) (w : World) (e : Ending) (w' : World) : Prop := ∃ v M, e = .returned (.tuple #[v, .int .i64 0]) ∧ WM.sep M ∧ (∀ i, WM.cov M i ↔ D i) ∧ OwnI w' w.heap.size v M ∧ Below w.heap.size w w'
set_option maxHeartbeats 2000000 in
theorem Widen_ok {w : World} {b : Nat} {v : Value} {L : List (Int × Int)} (h : OwnI w b v L) (s : ByteArray) (hB : TB.bodyC s = 0) (hLf : WM.spFault s.size L = 0) (hT : LibV w) : Calls Tryd.prog 6 #[.string s, v] w (WidSays (WM.cov (L.map (PT.st (PT.wl s.data.toList)))) w) := by
  have hs := (PT.body_valid hB).1
  have hF := WM.spFault_ok hLf
  have hL : ∀ x, x ∈ L → 0 ≤ x.1 ∧ x.1 < x.2 ∧ x.2 ≤ s.size := fun x hx => by
    have := hF.2.2.2.2 x hx
    have h2 := WM.sep_ne hF.2.2.2.1 x hx
    omega
  have hwl : (PT.wl s.data.toList).length = s.size := by rw [PT.wl_len]; simp
  have hin := PT.st_in (l := PT.wl s.data.toList) (L := L) (by rw [hwl]; exact hL)
  have hord := PT.st_order (l := PT.wl s.data.toList) hF.2.2.2.1 (fun x hx => (hL x hx).1)
  have hC := checkCovered_ok h s hB hLf hT
  have H := Lib.hid h
  have hP := fun W (hw : Below w.heap.size w W) => wordsWhole_any (H.out.below hw) (by have := hF.2.2.1; omega) (by omega) hL
  have hMl : (L.map (PT.st (PT.wl s.data.toList))).length ≤ 1000 := by rw [List.length_map]; exact hF.2.2.1
  generalize L.map (PT.st (PT.wl s.data.toList)) = M at *
  have HIN := Lib.hid (And.intro hin hord)
  clear h hB hLf hT hF hL hin hord hwl
  go_enter Tryd.func6, Tryd.ntmps6
  go_wp2_with fail
  refine hC.mono ?_
  rintro e w1 ⟨rfl, hb1⟩
  have hP1 := hP w1 hb1
  have HB1 := Lib.hid hb1
  clear hC hb1 hP
  go_wp2_with fail
  refine hP1.mono ?_
  rintro e w2 ⟨v2, rfl, ho2, hb2⟩
  have HB2 := Lib.hid (HB1.out.trans (hb2.mono HB1.out.size))
  have hTg := together_any ho2 (fun x hx => (HIN.out.1 x hx).2.1) HIN.out.2 (by omega)
  obtain ⟨A2, c2, rfl, -, -⟩ := ho2.form
  clear hP1 ho2 hb2
  go_wp2_with fail
  refine hTg.mono ?_
  rintro e w3 ⟨N, hN, v3, rfl, ho3, hb3⟩
  have HB3 := Lib.hid (HB2.out.trans (hb3.mono HB2.out.size))
  have HN := Lib.hid hN
  have HO3 := Lib.hid (ho3.less HB2.out.size)
  obtain ⟨A3, c3, rfl, -, -⟩ := ho3.form
  clear hTg ho3 hb3 hN
  go_wp2_with fail
  go_ret2
  exact ⟨_, N, rfl, HN.out.sep, fun i => HN.out.cov i, HO3.out, HB3.out⟩
end Go.Proofs.YtdmgfkgfcofmhaaDoor
