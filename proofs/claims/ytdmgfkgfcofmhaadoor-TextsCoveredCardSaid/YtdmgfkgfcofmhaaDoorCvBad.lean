/- Texts and spans that are not right: contracts of checkCovered, of its callers, of the reference's CoverFault. -/
import Derived.Test.YtdmgfkgfcofmhaaDoorRedM
import Derived.Test.YtdmgfkgfcofmhaaDoorBits
import Derived.Test.YtdmgfkgfcofmhaaDoorSpFault
namespace Go.Proofs.YtdmgfkgfcofmhaaDoor
open Go.RowKit

/-- the fault of a text and its spans -/
def cvC (s : ByteArray) (L : List (Int × Int)) : Int := WM.orC (TB.bodyC s) (WM.spFault s.size L)
theorem checkCovered_any {w : World} {b : Nat} {v : Value} {L : List (Int × Int)} (h : OwnI w b v L) (s : ByteArray) (hs : s.size ≤ 1000000) (hT : LibV w) : Calls Tryd.prog 24 #[.string s, v] w (SaysN (cvC s L) w) := by
  unfold cvC WM.orC
  have hX := CheckBody_any s (by omega) w hT
  have hC := fun w' (hb : Below w.heap.size w w') => CheckSpans_any (h.below hb) s.size
  generalize WM.spFault s.size L = c at *
  by_cases hB : TB.bodyC s = 0
  · rw [if_pos hB]
    rw [hB] at hX
    clear h hB
    go_enter Tryd.func24, Tryd.ntmps24
    go_wp2_with fail
    refine hX.mono ?_
    rintro e w1 ⟨rfl, hw1⟩
    have hC1 := hC w1 hw1
    have HW := Lib.hid hw1
    clear hX hw1 hC
    go_wp2_with fail
    refine hC1.mono ?_
    rintro e w2 ⟨rfl, hb2⟩
    have HB := Lib.hid (HW.out.trans (hb2.mono HW.out.size))
    clear hC1 hb2
    go_wp2_with fail
    go_ret
    exact ⟨rfl, HB.out⟩
  · rw [if_neg hB]
    generalize TB.bodyC s = d at *
    clear h hC
    go_enter Tryd.func24, Tryd.ntmps24
    go_wp2_with fail
    refine hX.mono ?_
    rintro e w1 ⟨rfl, hw1⟩
    clear hX
    go_wp2_with fail
    go_ret
    exact ⟨rfl, hw1⟩
theorem CoverFault_any {w : World} {b : Nat} {v : Value} {L : List (Int × Int)} (h : OwnI w b v L) (s : ByteArray) (hs : s.size ≤ 1000000) (hT : LibV w) : Calls Tryd.prog 10 #[.string s, v] w (SaysN (cvC s L) w) := by
  unfold cvC WM.orC
  have hX := BodyFault_any s (by omega) w hT
  have hC := fun w' (hb : Below w.heap.size w w') => SpansFault_any (h.below hb) s.size
  generalize WM.spFault s.size L = c at *
  by_cases hB : TB.bodyC s = 0
  · rw [if_pos hB]
    rw [hB] at hX
    clear h hB
    go_enter Tryd.func10, Tryd.ntmps10
    go_wp2_with fail
    refine hX.mono ?_
    rintro e w1 ⟨rfl, hw1⟩
    have hC1 := hC w1 hw1
    have HW := Lib.hid hw1
    clear hX hw1 hC
    go_wp2_with fail
    refine hC1.mono ?_
    rintro e w2 ⟨rfl, hb2⟩
    have HB := Lib.hid (HW.out.trans (hb2.mono HW.out.size))
    clear hC1 hb2
    go_wp2_with fail
    go_ret
    exact ⟨rfl, HB.out⟩
  · rw [if_neg hB]
    generalize TB.bodyC s = d at *
    clear h hC
    go_enter Tryd.func10, Tryd.ntmps10
    go_wp2_with fail
    refine hX.mono ?_
    rintro e w1 ⟨rfl, hw1⟩
    clear hX
    go_wp2_with fail
    go_ret
    exact ⟨rfl, hw1⟩
def BadSays (v : Value) (c : Int) (w : World) (e : Ending) (w' : World) : Prop := e = .returned (.tuple #[v, .int .i64 c]) ∧ Below w.heap.size w w'
theorem Widen_bad {w : World} {b : Nat} {v : Value} {L : List (Int × Int)} (h : OwnI w b v L) (s : ByteArray) (hs : s.size ≤ 1000000) (hT : LibV w) (c : Int) (hc : cvC s L = c) (h0 : c ≠ 0) : Calls Tryd.prog 6 #[.string s, v] w (BadSays (.slice none 0 0) c w) := by
  have hC := checkCovered_any h s hs hT
  rw [hc] at hC
  clear h hc hT
  go_enter Tryd.func6, Tryd.ntmps6
  go_wp2_with fail
  refine hC.mono ?_
  rintro e w1 ⟨rfl, hw1⟩
  clear hC
  go_wp2_with fail
  go_ret2
  exact ⟨rfl, hw1⟩
theorem Redact_bad {w : World} {b : Nat} {v : Value} {L : List (Int × Int)} (h : OwnI w b v L) (s : ByteArray) (hs : s.size ≤ 1000000) (hT : LibV w) (c : Int) (hc : cvC s L = c) (h0 : c ≠ 0) : Calls Tryd.prog 7 #[.string s, v] w (BadSays (.string ⟨#[]⟩) c w) := by
  have hC := checkCovered_any h s hs hT
  rw [hc] at hC
  clear h hc hT
  go_enter Tryd.func7, Tryd.ntmps7
  go_wp2_with fail
  refine hC.mono ?_
  rintro e w1 ⟨rfl, hw1⟩
  clear hC
  go_wp2_with fail
  go_ret2
  exact ⟨rfl, hw1⟩
theorem Seen_bad {w : World} {b : Nat} {v : Value} {L : List (Int × Int)} (h : OwnI w b v L) (s : ByteArray) (hs : s.size ≤ 1000000) (hT : LibV w) (c : Int) (hc : cvC s L = c) (h0 : c ≠ 0) : Calls Tryd.prog 8 #[.string s, v] w (BadSays (.slice none 0 0) c w) := by
  have hC := checkCovered_any h s hs hT
  rw [hc] at hC
  clear h hc hT
  go_enter Tryd.func8, Tryd.ntmps8
  go_wp2_with fail
  refine hC.mono ?_
  rintro e w1 ⟨rfl, hw1⟩
  clear hC
  go_wp2_with fail
  go_ret2
  exact ⟨rfl, hw1⟩
theorem Leaks_bad {w : World} {b : Nat} {v : Value} {L : List (Int × Int)} (h : OwnI w b v L) (s : ByteArray) (hs : s.size ≤ 1000000) (hT : LibV w) (c : Int) (hc : cvC s L = c) (h0 : c ≠ 0) : Calls Tryd.prog 9 #[.string s, v] w (BadSays (.slice none 0 0) c w) := by
  have hC := checkCovered_any h s hs hT
  rw [hc] at hC
  clear h hc hT
  go_enter Tryd.func9, Tryd.ntmps9
  go_wp2_with fail
  refine hC.mono ?_
  rintro e w1 ⟨rfl, hw1⟩
  clear hC
  go_wp2_with fail
  go_ret2
  exact ⟨rfl, hw1⟩
end Go.Proofs.YtdmgfkgfcofmhaaDoor
