/- privileges reports true: Redact at one string. -/
import Derived.Test.YtflilepmhidndaaDoorPrivA
import Derived.Test.YtflilepmhidndaaDoorSpApp
import Derived.Laws.BytesArg
import Derived.Shelf.Abstract
import Derived.Lib.SliceRun
namespace Go.Proofs.YtflilepmhidndaaDoor
open Go.RowKit

theorem text_ab (w : World) : Calls Tryd.prog 53 #[.string ⟨#[97, 98, 10]⟩] w fun e w' => e = .returned (.bool true) ∧ w = w' := by
  go_enter Tryd.func53, Tryd.ntmps53
  go_wp2_with fail
  refine (hasSuffix_ab _).mono ?_
  rintro e w' ⟨rfl, rfl⟩
  go_wp2_with fail
  refine (printed_ab _).mono ?_
  rintro e w' ⟨rfl, rfl⟩
  go_wp2_with fail
  go_ret
  exact ⟨rfl, rfl⟩
theorem checkBody_ab (w : World) : Calls Tryd.prog 38 #[.string ⟨#[97, 98, 10]⟩] w fun e w' => e = .returned (.int .i64 0) ∧ w = w' := by
  go_enter Tryd.func38, Tryd.ntmps38
  go_wp2_with fail
  refine (text_ab _).mono ?_
  rintro e w' ⟨rfl, rfl⟩
  go_wp2_with fail
  go_ret
  exact ⟨rfl, rfl⟩
theorem checkCovered_ab {w : World} {b : Nat} {v : Value} (h : OwnI w b v [(0, 1)]) : Calls Tryd.prog 20 #[.string ⟨#[97, 98, 10]⟩, v] w (SaysN 0 w) := by
  have hC := CheckSpans_any h 3
  rw [show WM.spFault 3 [(0, 1)] = 0 from by decide] at hC
  clear h
  go_enter Tryd.func20, Tryd.ntmps20
  go_wp2_with fail
  refine (checkBody_ab _).mono ?_
  rintro e w' ⟨rfl, rfl⟩
  go_wp2_with fail
  refine hC.mono ?_
  rintro e w1 ⟨rfl, hb1⟩
  have HB := Lib.hid hb1
  clear hC hb1
  go_wp2_with fail
  go_ret
  exact ⟨rfl, HB.out⟩
theorem below_grownC {B : Nat} {a w w' : World} {row : Option Nat} (h : Below B a w) (hg : w.grownBy w' row) (hB : B ≤ w.heap.size) (hr : ∀ k, row = some k → B ≤ k) : Below B a w' :=
  ⟨hg.os.trans h.os, hg.tape.trans h.tape, hg.output.trans h.output, Nat.le_trans h.size hg.size, fun i hi => (hg.block i (by omega) (fun e => by have := hr i e.symm; omega)).trans (h.block i hi)⟩
set_option maxHeartbeats 1000000 in
/-- slices.Clone of a row that is not nil -/
theorem CloneI_any {w : World} {b g n cap : Nat} {L : List (Int × Int)} (h : OwnI w b (.slice (some ⟨g, 0, none⟩) n cap) L) (hl : L.length ≤ 1000000) : Calls Tryd.prog 54 #[.slice (some ⟨g, 0, none⟩) n cap] w (RowOwnI L w) := by
  have H := Lib.hid h
  have hE : OwnI (w.alloc (.cells #[] 38)) w.heap.size (.slice (some ⟨w.heap.size, 0, none⟩) 0 0) [] := World.ownsRow_made w _ _ (Nat.le_refl _) (by unfold maxLen; omega) (by simp)
  have HE := Lib.hid hE
  have q22 : ∀ (w : World) (a : Option Addr) (n c n' c' : Nat), (binOp .eql 30 (.slice a n c) (.slice none n' c')).run Tryd.prog w = .ok (.bool a.isNone) w := fun w a n c n' c' => Lib.run_eql_slice_nil w _ _ a n c n' c' Tryd.underlying30
  clear h hE
  go_enter Tryd.func54, Tryd.ntmps54
  go_wp2_with (at_builtin; refine app_spsC _ rfl (.tmp 5) (.tmp 6) rfl w.heap.size _ [] rfl HE.out _ _ L rfl (H.out.alloc _) ?_ ?d1 ?d2; intro v4 w4 ho4 hg4 _; have HO4 := Lib.hid (And.intro ho4 hg4); clear ho4 hg4)
  case d1 => simp; omega
  case d2 => simp
  go_ret
  exact ⟨v4, rfl, by simpa using HO4.out.1, below_grownC ((Below.refl w.heap.size w).alloc (Nat.le_refl _) _) HO4.out.2 (by simp) (fun k hk => HE.out.base_le k hk)⟩
theorem runeStart_a (w : World) : Calls Tryd.prog 42 #[.int .u8 97] w fun e w' => e = .returned (.bool true) ∧ w = w' := by
  have hb : bits BinOp.and IntKind.u8 97 192 = 64 := by decide +kernel
  go_enter Tryd.func42, Tryd.ntmps42
  go_wp2_with fail
  go_ret
  exact ⟨rfl, rfl⟩
theorem runeStart_b (w : World) : Calls Tryd.prog 42 #[.int .u8 98] w fun e w' => e = .returned (.bool true) ∧ w = w' := by
  have hb : bits BinOp.and IntKind.u8 98 192 = 64 := by decide +kernel
  go_enter Tryd.func42, Tryd.ntmps42
  go_wp2_with fail
  go_ret
  exact ⟨rfl, rfl⟩
theorem divides_0 (w : World) (bx : Nat) (h : w.cell? ⟨bx, 0, none⟩ = some (.string ⟨#[97, 98, 10]⟩)) : Calls Tryd.prog 41 #[.int .i64 0, .pointer (some ⟨bx, 0, none⟩)] w fun e w' => e = .returned (.bool false) ∧ w = w' := by
  go_enter Tryd.func41, Tryd.ntmps41
  go_wp2_with fail
  refine (runeStart_a _).mono ?_
  rintro e w' ⟨rfl, rfl⟩
  go_wp2_with fail
  go_ret
  exact ⟨rfl, rfl⟩
theorem divides_1 (w : World) (bx : Nat) (h : w.cell? ⟨bx, 0, none⟩ = some (.string ⟨#[97, 98, 10]⟩)) : Calls Tryd.prog 41 #[.int .i64 1, .pointer (some ⟨bx, 0, none⟩)] w fun e w' => e = .returned (.bool false) ∧ w = w' := by
  go_enter Tryd.func41, Tryd.ntmps41
  go_wp2_with fail
  refine (runeStart_b _).mono ?_
  rintro e w' ⟨rfl, rfl⟩
  go_wp2_with fail
  go_ret
  exact ⟨rfl, rfl⟩
theorem OwnI.one {w : World} {base : Nat} {v : Value} {p q : Int} (h : OwnI w base v [(p, q)]) : ∃ g cap : Nat, v = .slice (some ⟨g, 0, none⟩) 1 cap ∧ base ≤ g ∧ g < w.heap.size ∧ w.cell? ⟨g, 0, none⟩ = some (.int .i64 p) ∧ w.cell? ⟨g, 1, none⟩ = some (.int .i64 q) := by
  obtain ⟨A, cap, rfl, hl, hf⟩ := h.form
  obtain ⟨g, rfl, h1, h2, h3, h4⟩ := hf (by simp)
  obtain ⟨c1, c2⟩ := h4 0 (p, q) (by simp)
  exact ⟨g, cap, rfl, h1, h2, by simpa using c1, by simpa using c2⟩
set_option maxHeartbeats 2000000 in
theorem stretched_ab {w : World} {b g cap bx : Nat} (h : OwnI w b (.slice (some ⟨g, 0, none⟩) 1 cap) [(0, 1)]) (hbx : bx < w.heap.size) (hc : w.cell? ⟨bx, 0, none⟩ = some (.string ⟨#[97, 98, 10]⟩)) : Calls Tryd.prog 40 #[.slice (some ⟨g, 0, none⟩) 1 cap, .func (.func 41) #[] #[.pointer (some ⟨bx, 0, none⟩)]] w (RowOwnI [(0, 1)] w) := by
  have hC := CloneI_any h (by simp)
  have eg := enters_of Tryd.func41 (by kernel_rfl) rfl
  clear h
  go_enter Tryd.func40, Tryd.ntmps40
  go_wp2_with fail
  refine hC.mono ?_
  rintro e w1 ⟨v1, rfl, ho1, hb1⟩
  obtain ⟨g1, cap1, rfl, h1, h2, c0, c1⟩ := ho1.one
  have hc1 := (hb1.cell (p := ⟨bx, 0, none⟩) hbx).trans hc
  have HO := Lib.hid (And.intro ho1 hb1)
  clear hC ho1 hb1 hc
  go_wp2_with fail
  refine wp_loop_rounds 2 ?_
  rw [rounds_succ]
  go_wp2_with fail
  refine wp_loop_rounds 1 ?_
  rw [rounds_succ]
  go_wp2_with fail
  refine (divides_0 _ bx hc1).mono ?_
  rintro e w' ⟨rfl, rfl⟩
  go_wp2_with fail
  refine wp_loop_rounds 1 ?_
  rw [rounds_succ]
  go_wp2_with fail
  refine (divides_1 _ bx hc1).mono ?_
  rintro e w' ⟨rfl, rfl⟩
  go_wp2_with fail
  rw [rounds_succ]
  go_wp2_with fail
  go_ret
  exact ⟨_, rfl, HO.out.1, HO.out.2⟩
set_option maxHeartbeats 2000000 in
theorem pointsWhole_ab {w : World} {b g cap : Nat} (h : OwnI w b (.slice (some ⟨g, 0, none⟩) 1 cap) [(0, 1)]) : Calls Tryd.prog 21 #[.string ⟨#[97, 98, 10]⟩, .slice (some ⟨g, 0, none⟩) 1 cap] w (RowOwnI [(0, 1)] w) := by
  have hS := stretched_ab (bx := w.heap.size) (h.alloc (.cells #[.string ⟨#[97, 98, 10]⟩] 9)) (by simp) (by rw [cell_of_row _ _ 0 _ _ _ (heap_alloc_new w _)]; rfl)
  clear h
  go_enter Tryd.func21, Tryd.ntmps21
  go_wp2_with fail
  refine hS.mono ?_
  rintro e w1 ⟨v1, rfl, ho1, hb1⟩
  have HO := Lib.hid (And.intro ho1 hb1)
  obtain ⟨g1, cap1, rfl, h1, h2, c0, c1⟩ := ho1.one
  clear hS ho1 hb1
  go_wp2_with fail
  go_ret
  exact ⟨_, rfl, HO.out.1.less (by simp), ((Below.refl w.heap.size w).alloc (Nat.le_refl _) _).trans (HO.out.2.mono (by simp))⟩
end Go.Proofs.YtflilepmhidndaaDoor
