/- privileges reports true: Redact at one string. -/
import Derived.Test.YtflilepmhidndaaDoorPrivB
namespace Go.Proofs.YtflilepmhidndaaDoor
open Go.RowKit

/-- block g holds three bytes -/
def By3 (w : World) (g : Nat) (a b c : UInt8) : Prop := (w.cell? ⟨g, 0, none⟩ = some (.int .u8 a.toNat) ∧ w.cell? ⟨g, 1, none⟩ = some (.int .u8 b.toNat) ∧ w.cell? ⟨g, 2, none⟩ = some (.int .u8 c.toNat)) ∧ (∀ j, j < 3 → w.frozen? ⟨g, j, none⟩ = false) ∧ g < w.heap.size
/-- a string turned into a row of bytes -/
theorem conv_bytes (s : ByteArray) (w : World) : ∃ (W : World) (cap : Nat), (convert 9 49 (.string s)).run Tryd.prog w = .ok (.slice (some ⟨w.heap.size, 0, none⟩) s.size cap) W ∧ Below w.heap.size w W ∧ w.heap.size < W.heap.size ∧ ∀ j u, s.data.toList[j]? = some u → W.cell? ⟨w.heap.size, j, none⟩ = some (.int .u8 u.toNat) ∧ W.frozen? ⟨w.heap.size, j, none⟩ = false := by
  refine ⟨_, _, run_bytes_of_string w 9 49 5 s Tryd.underlying9 Tryd.underlying49 Tryd.underlying5, ((Below.refl _ _).drew).alloc (by simp) _, by simp, ?_⟩
  intro j u hj
  have e : (w.drew.alloc (.cells (bytesRow s (grownCap w s.size 0 5)) 5 ((bytesRow s (grownCap w s.size 0 5)).size, (bytesRow s (grownCap w s.size 0 5)).size + 1))).heap[w.heap.size]? = some (.cells (bytesRow s (grownCap w s.size 0 5)) 5 ((bytesRow s (grownCap w s.size 0 5)).size, (bytesRow s (grownCap w s.size 0 5)).size + 1)) := heap_alloc_new w.drew _
  have hlt : j < s.data.toList.length := by
    rcases Nat.lt_or_ge j s.data.toList.length with h | h
    · exact h
    · rw [List.getElem?_eq_none h] at hj; cases hj
  rw [List.getElem?_eq_getElem hlt] at hj
  injection hj with hj
  subst hj
  simp at hlt
  have hlt' : j < s.data.size := by simpa using hlt
  refine ⟨?_, ?_⟩
  · rw [cell_of_row _ _ j _ _ _ e]
    simp [bytesRow, Array.getElem?_append, hlt]
  · have hm := World.frozen?_alloc_mark w.drew (bytesRow s (grownCap w s.size 0 5)) 5 (bytesRow s (grownCap w s.size 0 5)).size ((bytesRow s (grownCap w s.size 0 5)).size + 1) j
    have hsz : j < (bytesRow s (grownCap w s.size 0 5)).size := by simp [bytesRow]; omega
    refine hm.trans ?_
    simp; omega
theorem conv_ab (w : World) : ∃ (W : World) (cap : Nat), (convert 9 49 (.string ⟨#[97, 98, 10]⟩)).run Tryd.prog w = .ok (.slice (some ⟨w.heap.size, 0, none⟩) 3 cap) W ∧ Below w.heap.size w W ∧ By3 W w.heap.size 97 98 10 := by
  obtain ⟨W, cap, h1, h2, h3, h4⟩ := conv_bytes ⟨#[97, 98, 10]⟩ w
  refine ⟨W, cap, h1, h2, ⟨(h4 0 97 rfl).1, (h4 1 98 rfl).1, (h4 2 10 rfl).1⟩, fun j hj => ?_, h3⟩
  rcases (show j = 0 ∨ j = 1 ∨ j = 2 by omega) with rfl | rfl | rfl
  · exact (h4 0 97 rfl).2
  · exact (h4 1 98 rfl).2
  · exact (h4 2 10 rfl).2
theorem By3.below {w w' : World} {B g : Nat} {a b c : UInt8} (h : By3 w g a b c) (hb : Below B w w') (hg : g < B) : By3 w' g a b c :=
  ⟨⟨(hb.cell (p := ⟨g, 0, none⟩) hg).trans h.1.1, (hb.cell (p := ⟨g, 1, none⟩) hg).trans h.1.2.1, (hb.cell (p := ⟨g, 2, none⟩) hg).trans h.1.2.2⟩, fun j hj => (hb.frozen (p := ⟨g, j, none⟩) hg).trans (h.2.1 j hj), Nat.lt_of_lt_of_le h.2.2 hb.size⟩
theorem back_ab {w : World} {g : Nat} (cap : Nat) (h0 : w.cell? ⟨g, 0, none⟩ = some (.int .u8 35)) (h1 : w.cell? ⟨g, 1, none⟩ = some (.int .u8 98)) (h2 : w.cell? ⟨g, 2, none⟩ = some (.int .u8 10)) : (convert 49 9 (.slice (some ⟨g, 0, none⟩) 3 cap)).run Tryd.prog w = .ok (.string ⟨#[35, 98, 10]⟩) w := by
  have e : (⟨#[35, 98, 10]⟩ : ByteArray) = strOfNums [35, 98, 10] := by simp [strOfNums]
  rw [e]
  refine run_convert_bytes_arg w 49 5 Tryd.underlying49 Tryd.underlying5 g 0 3 cap _ rfl (fun i hi => ?_) 9 Tryd.underlying9
  rcases (show i = 0 ∨ i = 1 ∨ i = 2 by omega) with rfl | rfl | rfl
  · exact h0
  · exact h1
  · exact h2
set_option maxHeartbeats 4000000 in
theorem Redact_ab {w : World} {b g cap : Nat} (h : OwnI w b (.slice (some ⟨g, 0, none⟩) 1 cap) [(0, 1)]) : Calls Tryd.prog 8 #[.string ⟨#[97, 98, 10]⟩, .slice (some ⟨g, 0, none⟩) 1 cap] w fun e w' => e = .returned (.tuple #[.string ⟨#[35, 98, 10]⟩, .int .i64 0]) ∧ Below w.heap.size w w' := by
  have hC := checkCovered_ab h
  have H := Lib.hid h
  clear h
  go_enter Tryd.func8, Tryd.ntmps8
  go_wp2_with fail
  refine hC.mono ?_
  rintro e w1 ⟨rfl, hb1⟩
  obtain ⟨W, cp, hconv, hbW, hB⟩ := conv_ab w1
  have hP := pointsWhole_ab ((H.out.below hb1).below hbW)
  have HB1 := Lib.hid (hb1.trans (hbW.mono hb1.size))
  have HB := Lib.hid hB
  have hsz1 := hb1.size
  clear hC hb1 hbW hB
  go_wp2_with fail
  refine hP.mono ?_
  rintro e w2 ⟨v2, rfl, ho2, hb2⟩
  obtain ⟨g2, cap2, rfl, h1, h2, c0, c1⟩ := ho2.one
  have HB2 := Lib.hid (HB.out.below hb2 HB.out.2.2)
  have HW2 := Lib.hid (HB1.out.trans (hb2.mono HB1.out.size))
  have hlt := HB.out.2.2
  clear hP ho2 hb2 hconv
  obtain ⟨n0, n1, n2⟩ := HB2.out.1
  have f0 := HB2.out.2.1 0 (by omega)
  have f1 := HB2.out.2.1 1 (by omega)
  have x0 := (((Below.refl w2.heap.size w2).alloc (Nat.le_refl _) (.cells #[.int .i64 0, .int .i64 1] 38)).cell (p := ⟨w1.heap.size, 0, none⟩) HB2.out.2.2).trans n0
  have x1 := (((Below.refl w2.heap.size w2).alloc (Nat.le_refl _) (.cells #[.int .i64 0, .int .i64 1] 38)).cell (p := ⟨w1.heap.size, 1, none⟩) HB2.out.2.2).trans n1
  have x2 := (((Below.refl w2.heap.size w2).alloc (Nat.le_refl _) (.cells #[.int .i64 0, .int .i64 1] 38)).cell (p := ⟨w1.heap.size, 2, none⟩) HB2.out.2.2).trans n2
  have y0 := (((Below.refl w2.heap.size w2).alloc (Nat.le_refl _) (.cells #[.int .i64 0, .int .i64 1] 38)).frozen (p := ⟨w1.heap.size, 0, none⟩) HB2.out.2.2).trans f0
  have hb0 : (w2.alloc (.cells #[.int .i64 0, .int .i64 1] 38)).cell? ⟨w2.heap.size, 0, none⟩ = some (.int .i64 0) := by rw [cell_of_row _ _ 0 _ _ _ (heap_alloc_new w2 _)]; rfl
  have hb1 : (w2.alloc (.cells #[.int .i64 0, .int .i64 1] 38)).cell? ⟨w2.heap.size, 1, none⟩ = some (.int .i64 1) := by rw [cell_of_row _ _ 1 _ _ _ (heap_alloc_new w2 _)]; rfl
  have hne : w1.heap.size ≠ w2.heap.size := by have := HB2.out.2.2; omega
  have z0 : ((w2.alloc (.cells #[.int .i64 0, .int .i64 1] 38)).setCell ⟨w1.heap.size, 0, none⟩ (.int .u8 35)).cell? ⟨w2.heap.size, 1, none⟩ = some (.int .i64 1) := (World.cell?_setCell_other _ _ _ _ (fun e => hne (by injection e))).trans hb1
  have s0 : ((w2.alloc (.cells #[.int .i64 0, .int .i64 1] 38)).setCell ⟨w1.heap.size, 0, none⟩ (.int .u8 35)).cell? ⟨w1.heap.size, 0, none⟩ = some (.int .u8 35) := World.cell?_setCell_same' _ _ _ (by rw [x0]; rfl)
  have s1 : ((w2.alloc (.cells #[.int .i64 0, .int .i64 1] 38)).setCell ⟨w1.heap.size, 0, none⟩ (.int .u8 35)).cell? ⟨w1.heap.size, 1, none⟩ = some (.int .u8 98) := (World.cell?_setCell_other _ _ _ _ (fun e => by injection e with _ e; cases e)).trans x1
  have s2 : ((w2.alloc (.cells #[.int .i64 0, .int .i64 1] 38)).setCell ⟨w1.heap.size, 0, none⟩ (.int .u8 35)).cell? ⟨w1.heap.size, 2, none⟩ = some (.int .u8 10) := (World.cell?_setCell_other _ _ _ _ (fun e => by injection e with _ e; cases e)).trans x2
  have hK := back_ab cp s0 s1 s2
  have HE := Lib.hid (below_setI (HW2.out.alloc HW2.out.size (.cells #[.int .i64 0, .int .i64 1] 38)) (p := ⟨w1.heap.size, 0, none⟩) hsz1 (.int .u8 35))
  clear hb0 hb1 hne n0 n1 n2 f0 f1 s0 s1 s2
  go_wp2_with fail
  refine wp_loop_rounds 2 ?_
  rw [rounds_succ]
  go_wp2_with fail
  refine wp_loop_rounds 2 ?_
  rw [rounds_succ]
  go_wp2_with fail
  rw [rounds_succ]
  go_wp2_with fail
  rw [rounds_succ]
  go_wp2_with fail
  go_ret2
  exact ⟨rfl, HE.out⟩
set_option maxHeartbeats 1000000 in
theorem privileges_any (w : World) : Calls Tryd.prog 6 #[] w fun e w' => e = .returned (.bool true) ∧ Below w.heap.size w w' := by
  have hO : OwnI (w.alloc (.cells #[.int .i64 0, .int .i64 1] 38)) w.heap.size (.slice (some ⟨w.heap.size, 0, none⟩) 1 1) [(0, 1)] :=
    ⟨rfl, .inr ⟨w.heap.size, 1, #[.int .i64 0, .int .i64 1], rfl, Nat.le_refl _, heap_alloc_new w _, Nat.le_refl _, by unfold maxLen; omega, rfl, rfl⟩⟩
  have hR := Redact_ab hO
  have hq : ((⟨#[35, 98, 10]⟩ : ByteArray).toList == [35, 98, 10]) = true := by kernel_rfl
  clear hO
  go_enter Tryd.func6, Tryd.ntmps6
  go_wp2_with fail
  refine hR.mono ?_
  rintro e w1 ⟨rfl, hb1⟩
  have HB := Lib.hid (((Below.refl w.heap.size w).alloc (Nat.le_refl _) _).trans (hb1.mono (by simp)))
  clear hR hb1
  go_wp2_with fail
  go_ret
  exact ⟨rfl, HB.out⟩
end Go.Proofs.YtflilepmhidndaaDoor
