/- slices.ContainsFunc at the law's closure. -/
import Derived.Test.YtflilepmhidndaaDoorRedM
import Derived.Shelf.Abstract
namespace Go.Proofs.YtflilepmhidndaaDoor
open Go.RowKit

theorem inU_any (p q i : Int) (c : Bool) (hcc : (decide (p ≤ i) && decide (i < q)) = c) (w : World) (bx : Nat) (hbx : bx < w.heap.size) (h : w.cell? ⟨bx, 0, none⟩ = some (.int .i64 i)) : Calls Tryd.prog 11 #[.agg #[.int .i64 p, .int .i64 q], .pointer (some ⟨bx, 0, none⟩)] w fun e w' => e = .returned (.bool c) ∧ Below w.heap.size w w' := by
  have hc := (((Below.refl w.heap.size w).alloc (Nat.le_refl _) (.cells #[.int .i64 p, .int .i64 q] 38)).cell (p := ⟨bx, 0, none⟩) hbx).trans h
  have HB := Lib.hid ((Below.refl w.heap.size w).alloc (Nat.le_refl _) (.cells #[.int .i64 p, .int .i64 q] 38))
  clear h
  by_cases h1 : p ≤ i
  · by_cases h2 : i < q
    · obtain rfl : c = true := by rw [← hcc, decide_eq_true h1, decide_eq_true h2]; rfl
      clear hcc
      go_enter Tryd.func11, Tryd.ntmps11
      go_wp2_with fail
      go_ret
      exact ⟨rfl, HB.out⟩
    · obtain rfl : c = false := by rw [← hcc, decide_eq_false h2, Bool.and_false]
      clear hcc
      go_enter Tryd.func11, Tryd.ntmps11
      go_wp2_with fail
      go_ret
      exact ⟨rfl, HB.out⟩
  · obtain rfl : c = false := by rw [← hcc, decide_eq_false h1, Bool.false_and]
    clear hcc
    go_enter Tryd.func11, Tryd.ntmps11
    go_wp2_with fail
    go_ret
    exact ⟨rfl, HB.out⟩
def inB (i : Int) (s : Int × Int) : Bool := decide (s.1 ≤ i) && decide (i < s.2)
theorem inB_any (L : List (Int × Int)) (i : Int) : L.any (inB i) = true ↔ WM.cov L i := by
  rw [List.any_eq_true]
  constructor
  · rintro ⟨s, hs, h⟩
    unfold inB at h
    simp only [Bool.and_eq_true, decide_eq_true_eq] at h
    exact ⟨s, hs, h⟩
  · rintro ⟨s, hs, h1, h2⟩
    exact ⟨s, hs, by unfold inB; simp [h1, h2]⟩
def IfSaysI (b : Bool) (w : World) (e : Ending) (w' : World) : Prop := ∃ z : Int, e = .returned (.int .i64 z) ∧ decide (0 ≤ z) = b ∧ Below w.heap.size w w'
set_option maxHeartbeats 4000000 in
theorem IndexFuncI_any {w : World} {b bx : Nat} {v : Value} {L : List (Int × Int)} {i : Int} (h : OwnI w b v L) (hl : L.length ≤ 1000000) (hbx : bx < w.heap.size) (hc : w.cell? ⟨bx, 0, none⟩ = some (.int .i64 i)) : Calls Tryd.prog 28 #[v, .func (.func 11) #[] #[.pointer (some ⟨bx, 0, none⟩)]] w (IfSaysI (L.any (inB i)) w) := by
  obtain ⟨A, cap, rfl, hlM, hf⟩ := h.form
  have eg := enters_of Tryd.func11 (by kernel_rfl) rfl
  have HC := Lib.hid hc
  clear h hc
  go_enter Tryd.func28, Tryd.ntmps28
  go_wp2_with fail
  go_loopw [8] (fun j wr => ∃ k : Nat, j = .int .i64 k ∧ k ≤ L.length ∧ Hid ((L.take k).any (inB i) = false) ∧ Below w.heap.size w wr) (fun j _ => L.length - (intOf j).toNat)
  case atStart => exact ⟨0, rfl, Nat.zero_le _, rfl, Below.refl _ _⟩
  case round =>
    obtain ⟨k, rfl, hk, HK, hbw⟩ := hrel
    by_cases hlt : k < L.length
    · obtain ⟨g, rfl, hg1, hg2, hfz0, hcs⟩ := hf (by omega)
      have hx := List.getElem?_eq_getElem hlt
      have hmem := List.getElem_mem hlt
      generalize L[k] = x at hx hmem
      obtain ⟨p, q⟩ := x
      obtain ⟨hc1, hc2⟩ := hcs k _ hx
      have hd1 := (hbw.cell (p := ⟨g, k * 2, none⟩) hg2).trans hc1
      have hd2 := (hbw.cell (p := ⟨g, k * 2 + 1, none⟩) hg2).trans hc2
      simp only at hd1 hd2
      have hsw := hbw.size
      have hB := fun c hcc => inU_any p q i c hcc wr bx (by omega) ((hbw.cell (p := ⟨bx, 0, none⟩) hbx).trans HC.out)
      have HB := Lib.hid hbw
      cases hbq : inB i (p, q)
      · have HN : Hid ((L.take (k + 1)).any (inB i) = false) := Lib.hid (by
          obtain ⟨hk2, hxe⟩ := List.getElem?_eq_some_iff.1 hx
          rw [List.take_succ_eq_append_getElem hk2, List.any_append, HK.out, hxe]
          simp [hbq])
        have hB := hB false hbq
        clear hx hcs hf hmem hbq hc1 hc2 hbw hfz0
        go_wp2_with fail
        refine hB.mono ?_
        rintro e w' ⟨rfl, hb2⟩
        have HB2 := Lib.hid (HB.out.trans (hb2.mono hsw))
        clear hB hb2
        go_wp2_with fail
        exact ⟨⟨k + 1, by simp, by omega, HN, HB2.out⟩, by simp [intOf]; omega⟩
      · have HN : Hid (L.any (inB i) = true) := Lib.hid (List.any_eq_true.2 ⟨_, hmem, hbq⟩)
        have hB := hB true hbq
        clear hx hcs hf hmem hbq hc1 hc2 hbw hfz0
        go_wp2_with fail
        refine hB.mono ?_
        rintro e w' ⟨rfl, hb2⟩
        have HB2 := Lib.hid (HB.out.trans (hb2.mono hsw))
        clear hB hb2
        go_wp2_with fail
        go_ret
        exact ⟨k, rfl, by rw [HN.out]; exact decide_eq_true (by omega), HB2.out⟩
    · have HN : Hid (L.any (inB i) = false) := Lib.hid (by have := HK.out; rwa [List.take_of_length_le (by omega)] at this)
      have HB := Lib.hid hbw
      clear hf hbw
      go_wp2_with fail
      go_ret
      exact ⟨-1, rfl, by rw [HN.out]; rfl, HB.out⟩
theorem ContainsFuncI_any {w : World} {b bx : Nat} {v : Value} {L : List (Int × Int)} {i : Int} (h : OwnI w b v L) (hl : L.length ≤ 1000000) (hbx : bx < w.heap.size) (hc : w.cell? ⟨bx, 0, none⟩ = some (.int .i64 i)) (c : Bool) (hcc : L.any (inB i) = c) : Calls Tryd.prog 10 #[v, .func (.func 11) #[] #[.pointer (some ⟨bx, 0, none⟩)]] w fun e w' => e = .returned (.bool c) ∧ Below w.heap.size w w' := by
  have hI := IndexFuncI_any h hl hbx hc
  rw [hcc] at hI
  clear h hc hcc
  go_enter Tryd.func10, Tryd.ntmps10
  go_wp2_with fail
  refine hI.mono ?_
  rintro e w' ⟨z, rfl, hz, hb⟩
  have HB := Lib.hid hb
  clear hI hb
  go_wp2_with fail
  go_ret
  exact ⟨by first | rw [hz] | (rw [← hz]; rfl), HB.out⟩
end Go.Proofs.YtflilepmhidndaaDoor
