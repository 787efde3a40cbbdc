/- Contracts of privilege.checkBoth, Union. -/
import Derived.Test.YtflilepmhidndaaDoorTog
import Derived.Test.YtflilepmhidndaaDoorSortI
import Derived.Test.YtflilepmhidndaaDoorConcatI
namespace Go.Proofs.YtflilepmhidndaaDoor
open Go.RowKit

theorem checkBoth_any {w : World} {b1 b2 : Nat} {v1 v2 : Value} {X Y : List (Int × Int)} (h1 : OwnI w b1 v1 X) (h2 : OwnI w b2 v2 Y) (z : Int) : Calls Tryd.prog 22 #[v1, v2, .int .i64 z] w (SaysN (WM.orC (WM.spFault z X) (WM.spFault z Y)) w) := by
  have hA := CheckSpans_any h1 z
  have H2 := Lib.hid h2
  clear h1 h2
  generalize WM.spFault z X = a at *
  generalize hb : WM.spFault z Y = b at *
  have HB := Lib.hid hb
  clear hb
  go_enter Tryd.func22, Tryd.ntmps22
  go_wp2_with fail
  refine hA.mono ?_
  rintro e w1 ⟨rfl, hb1⟩
  clear hA
  by_cases ha : a = 0
  · subst ha
    have hB := CheckSpans_any (H2.out.below hb1) z
    rw [HB.out] at hB
    have HB1 := Lib.hid hb1
    clear hb1
    go_wp2_with fail
    refine hB.mono ?_
    rintro e w2 ⟨rfl, hb2⟩
    have HB2 := Lib.hid (HB1.out.trans (hb2.mono HB1.out.size))
    clear hb2
    go_wp2_with fail
    go_ret
    exact saysN_of (by unfold WM.orC; rw [if_pos rfl]) HB2.out
  · have e1 : (a != 0) = true := bne_iff_ne.2 ha
    have HE := Lib.hid (show a = WM.orC a b by unfold WM.orC; rw [if_neg ha])
    have HB1 := Lib.hid hb1
    clear hb1 ha
    go_wp2_with fail
    go_ret
    exact saysN_of HE.out HB1.out
set_option maxHeartbeats 4000000 in
theorem Union_bad {w : World} {b1 b2 : Nat} {v1 v2 : Value} {X Y : List (Int × Int)} (h1 : OwnI w b1 v1 X) (h2 : OwnI w b2 v2 Y) (z c : Int) (hc : WM.orC (WM.spFault z X) (WM.spFault z Y) = c) (h0 : c ≠ 0) : Calls Tryd.prog 9 #[v1, v2, .int .i64 z] w (SpSays [] c w) := by
  have hA := checkBoth_any h1 h2 z
  rw [hc] at hA
  have e1 : (c != 0) = true := bne_iff_ne.2 h0
  clear h1 h2 hc h0
  go_enter Tryd.func9, Tryd.ntmps9
  go_wp2_with fail
  refine hA.mono ?_
  rintro e w1 ⟨rfl, hb1⟩
  have HB := Lib.hid hb1
  clear hA hb1
  go_wp2_with fail
  go_ret2
  exact ⟨.slice none 0 0, rfl, OwnI.nil _ _, HB.out⟩
set_option maxHeartbeats 8000000 in
theorem Union_ok {w : World} {b1 b2 : Nat} {v1 v2 : Value} {X Y : List (Int × Int)} (h1 : OwnI w b1 v1 X) (h2 : OwnI w b2 v2 Y) (z : Int) (hX : WM.spFault z X = 0) (hY : WM.spFault z Y = 0) : Calls Tryd.prog 9 #[v1, v2, .int .i64 z] w (MixSays (fun i => WM.cov X i ∨ WM.cov Y i) w) := by
  have hA := checkBoth_any h1 h2 z
  rw [hX, hY] at hA
  obtain ⟨z1, z2, x1, x2, x3⟩ := WM.spFault_ok hX
  obtain ⟨_, _, y1, y2, y3⟩ := WM.spFault_ok hY
  have HL := Lib.hid (And.intro x1 y1)
  have HR : Hid (∀ s, s ∈ X ++ Y → (0 ≤ s.1 ∧ s.1 ≤ 200000) ∧ s.1 < s.2) := Lib.hid fun s hs => by
    rcases List.mem_append.1 hs with hs | hs
    · have := x3 s hs; have := WM.sep_ne x2 s hs; omega
    · have := y3 s hs; have := WM.sep_ne y2 s hs; omega
  obtain ⟨A1, c1, rfl, -⟩ := h1.form
  obtain ⟨A2, c2, rfl, -⟩ := h2.form
  have HH := Lib.hid (And.intro h1 h2)
  clear h1 h2 hX hY z1 z2 x1 x2 x3 y1 y2 y3
  go_enter Tryd.func9, Tryd.ntmps9
  go_wp2_with fail
  refine hA.mono ?_
  rintro e w1 ⟨rfl, hb1⟩
  have hsz1 := hb1.size
  have HH1 := Lib.hid (And.intro (HH.out.1.below hb1) (And.intro (HH.out.2.below hb1) hb1))
  have hC := ConcatI_any (b := w1.heap.size) (w1.alloc (.cells #[.slice A1 X.length c1, .slice A2 Y.length c2] 30)) (HH1.out.1.alloc _) (HH1.out.2.1.alloc _) (by rw [cell_of_row _ _ 0 _ _ _ (heap_alloc_new w1 _)]; rfl) (by rw [cell_of_row _ _ 1 _ _ _ (heap_alloc_new w1 _)]; rfl) (by simp) (by have := HL.out; omega)
  have HC := Lib.hid hC
  clear hA hb1 hC
  go_wp2_with fail
  refine HC.out.mono ?_
  rintro e w2 ⟨v3, rfl, ho3, hb2⟩
  have hLL : (X ++ Y).length ≤ 2000 := by have := HL.out; simp; omega
  have HS := Lib.hid (SortI_any ho3 (by omega) (fun s hs => (HR.out s hs).1))
  have HO3 := Lib.hid ho3
  have HB2 := Lib.hid ((HH1.out.2.2.alloc hsz1 (.cells #[.slice A1 X.length c1, .slice A2 Y.length c2] 30)).trans (hb2.mono (by simp; omega)))
  have HS2 := Lib.hid hb2.size
  have HLL := Lib.hid hLL
  clear ho3 hb2 hLL
  go_wp2_with fail
  refine HS.out.mono ?_
  rintro e w3 ⟨rfl, M, ho4, hl4, hm4, hs4, hg4⟩
  have hT := together_any ho4 (fun s hs => (HR.out s ((hm4 s).1 hs)).2) hs4 (by have := HLL.out; omega)
  have HB3 := Lib.hid (below_grownI HB2.out (HO3.out.less (by simp; omega)) hg4 HB2.out.size)
  have HM4 := Lib.hid (And.intro hm4 hl4)
  have HT := Lib.hid hT
  clear ho4 hl4 hm4 hs4 hg4 hT
  go_wp2_with fail
  refine HT.out.mono ?_
  rintro e w4 ⟨N, hN, v5, rfl, ho5, hb5⟩
  have hBn := bounded_any ho5
  have HN := Lib.hid hN
  have HB5 := Lib.hid (HB3.out.trans (hb5.mono HB3.out.size))
  clear ho5 hb5 hN
  go_wp2_with fail
  refine hBn.mono ?_
  rintro e w5 ⟨v6, rfl, ho6, rfl⟩
  have HO6 := Lib.hid ho6
  clear hBn ho6
  go_wp2_with fail
  go_ret2
  exact ⟨N, HN.out.sep, fun i => by rw [HN.out.cov, cov_perm HM4.out.1, WM.cov_append], v6, rfl, HO6.out.less HB3.out.size, HB5.out⟩
end Go.Proofs.YtflilepmhidndaaDoor
