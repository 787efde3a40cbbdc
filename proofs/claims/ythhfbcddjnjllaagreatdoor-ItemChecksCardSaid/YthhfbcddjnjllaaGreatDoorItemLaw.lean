/- The law ItemChecks returns true, whatever its numbers are. -/
import Derived.Test.YthhfbcddjnjllaaGreatDoorTaken
import Derived.Test.YthhfbcddjnjllaaGreatDoorSumP
import Derived.Test.YthhfbcddjnjllaaGreatDoorGenS
namespace Go.Proofs.YthhfbcddjnjllaaGreatDoor
open Go.RowKit

/-- all tables that the code reads -/
structure LaidA (w : World) : Prop where
  tabs : Tabs w
  laid : Laid w
theorem LaidA.below {w w' : World} (h : LaidA w) (hb : Below w.heap.size w w') : LaidA w' := ⟨h.tabs.below hb, h.laid.below hb⟩
/-- inside the law: the item x in block bx, the items L -/
structure InLaw (w W : World) (g k : Nat) : Prop where
  below : Below w.heap.size w W
  strm : ∃ k', k' ≤ k ∧ Strm W w.heap.size w.heap.size k'
theorem sum_case {x : It} (h : x.fault = 0) : x.sums = x.sum := by unfold It.sums; rw [if_pos h]
theorem fault_kind {x : It} (h : x.fault = 0) : KM.kind x.kind = true := by
  cases hk : KM.kind x.kind with
  | true => rfl
  | false =>
    unfold It.fault at h
    split at h
    · cases h
    · exact absurd h (by decide)
theorem sum_none {x : It} (h : x.fault ≠ 0) : x.sums = [] := by unfold It.sums; rw [if_neg h]

set_option maxRecDepth 100000 in
set_option maxHeartbeats 8000000 in
theorem ItemChecks_any (A : Option Addr) (n cap : Nat) (w : World) (hA : Ints w w.heap.size A n) (hl : LaidA w) :
    Calls Tryz.prog 3 #[.slice A n cap] w (SaysT w) := by
  have hs0 := hA.strm (cap := cap)
  have hb0 : Below w.heap.size w (w.alloc (.cells #[.slice A n cap, .int .i64 0] 25)) := (Below.refl _ _).alloc (Nat.le_refl _) _
  have Hl := Lib.hid hl
  have htop : tabTop ≤ w.heap.size := hl.tabs.2.2
  clear hl hA
  go_enter Tryz.func3, Tryz.ntmps3
  go_wp2_with fail
  refine (Range_any 0 8 (by omega) (by omega) (by omega) w.heap.size w.heap.size 0 (by omega) _ hs0).mono ?_
  rintro e w1 ⟨r, hr1, hr2, rfl, hs1, hg1⟩
  obtain ⟨m, rfl⟩ := Int.eq_ofNat_of_zero_le hr1
  have hm : m ≤ 8 := by omega
  have hb1 := below_grown hb0 hg1 hb0.size (by intro k hk; injection hk with hk; omega)
  clear hs0 hb0 hg1 hr1 hr2
  go_wp2_with fail
  refine (Items_any m (by omega) w.heap.size w.heap.size 1 (by omega) _ hs1 (Hl.out.below hb1).tabs htop).mono ?_
  rintro e w2 ⟨v, L, rfl, hL, hM⟩
  obtain ⟨A2, cap2, hv, _⟩ := hM.own.form
  subst hv
  have hgl := hM.gl
  clear hs1
  go_wp2_with fail
  obtain ⟨k2, hk2, hs2⟩ := hM.strm
  refine (Item_any ⟨#[105, 97]⟩ (by decide) w.heap.size w.heap.size k2 (by omega) _ hs2).mono ?_
  rintro e w3 ⟨x, hx, rfl, ⟨k3, hk3, hs3⟩, hg3⟩
  replace hM := hM.call hg3 ⟨k3, Nat.le_refl _, hs3⟩
  clear hs2 hg3
  unfold It.cells
  go_upto_region 4 with (fail)
  have hI := InItem.start x w3 30 hM.tabs
  revert hI
  show (InItem x w3 (w3.alloc (.cells #[.string x.id, .string x.cu, .int .i64 x.kind, .string x.name, .int .i64 x.at', .string x.parent, .string x.text] 30)) → _)
  generalize (w3.alloc (.cells #[.string x.id, .string x.cu, .int .i64 x.kind, .string x.name, .int .i64 x.at', .string x.parent, .string x.text] 30)) = w4
  intro hI
  have hSum := fun W h1 h2 => Sum_any x hx.1 W h1 h2
  have hIF := fun W h1 => ItemFault_any x hx.1 W h1
  have hCI := fun W h1 => CheckItem_any x hx.1 W h1
  have hSO := fun W h0 h1 => SumOf_any x hx.1 h0 W h1
  unfold It.cells at hSum hIF hCI hSO
  obtain ⟨c0, c1, c2, c3, c4, c5, c6⟩ := id hI.box
  have hbw := below_grown hb1 (hM.grown.trans (only_of_below hI.below _)) hb1.size (by intro k hk; injection hk with hk; omega)
  go_wp2_with fail
  refine (hSum _ hI.tabs (Hl.out.below hbw).laid.2).mono ?_
  rintro e w5 ⟨rfl, hw5⟩
  replace hI := hI.step hw5
  clear hw5 hbw c0 c1 c2 c3 c4 c5 c6
  obtain ⟨c0, c1, c2, c3, c4, c5, c6⟩ := id hI.box
  go_wp2_with fail
  refine (hIF _ hI.tabs).mono ?_
  rintro e w6 ⟨rfl, hw6⟩
  replace hI := hI.step hw6
  clear hw6 c0 c1 c2 c3 c4 c5 c6
  obtain ⟨c0, c1, c2, c3, c4, c5, c6⟩ := id hI.box
  go_wp2_with fail
  refine (hCI _ hI.tabs).mono ?_
  rintro e w7 ⟨rfl, hw7⟩
  replace hI := hI.step hw7
  clear hw7 c0 c1 c2 c3 c4 c5 c6
  obtain ⟨f, hf⟩ : ∃ f, x.fault = f := ⟨_, rfl⟩
  rw [hf]
  have HF := Lib.hid hf
  clear hf
  by_cases h0 : f = 0
  · subst h0
    obtain ⟨c0, c1, c2, c3, c4, c5, c6⟩ := id hI.box
    have hSO1 := fun W => hSO W (fault_kind HF.out)
    rw [sum_case HF.out]
    clear hSO
    generalize x.sum = sm at *
    go_wp2_with fail
    refine (hSO1 _ hI.tabs).mono ?_
    rintro e w8 ⟨rfl, hw8⟩
    replace hI := hI.step hw8
    clear hw8 c0 c1 c2 c3 c4 c5 c6
    have hM7 := hM.below hI.below
    obtain ⟨hLn, hrd⟩ := hM7.own.read
    have hCk := Check_any L A2 cap2 _ hrd.row hM7.tabs hM7.sane.smalls (by omega)
    clear hrd hLn
    go_wp2_with fail
    refine hCk.mono ?_
    clear hCk
    rintro e w9 ⟨rfl, hw9⟩
    have hM9 := hM7.below hw9
    obtain ⟨hLn, hrd⟩ := hM9.own.read
    have hFk := ItemsFault_any L A2 cap2 _ hrd.row hM9.tabs hM9.sane.smalls (by omega)
    clear hrd hLn hM7 hw9
    go_wp2_with fail
    refine hFk.mono ?_
    clear hFk
    generalize IM.fault L = ff
    rintro e w10 ⟨rfl, hw10⟩
    have hM10 := hM9.below hw10
    have hbw := below_grown hb1 hM10.grown hb1.size (by intro k hk; injection hk with hk; omega)
    clear hM9 hw10
    go_wp2_with fail
    refine (taken_any _ (Hl.out.below hbw).laid).mono ?_
    rintro e w11 ⟨rfl, hw11⟩
    go_wp2_with fail
    go_ret
    exact ⟨rfl, hbw.trans (hw11.mono hbw.size)⟩
  · have q1 : (f == 0) = false := beq_eq_false_iff_ne.2 h0
    have q2 : (f != 0) = true := bne_iff_ne.2 h0
    rw [sum_none (by rw [HF.out]; exact h0)]
    clear h0
    have hM7 := hM.below hI.below
    obtain ⟨hLn, hrd⟩ := hM7.own.read
    have hCk := Check_any L A2 cap2 _ hrd.row hM7.tabs hM7.sane.smalls (by omega)
    clear hrd hLn
    go_wp2_with fail
    refine hCk.mono ?_
    clear hCk
    rintro e w9 ⟨rfl, hw9⟩
    have hM9 := hM7.below hw9
    obtain ⟨hLn, hrd⟩ := hM9.own.read
    have hFk := ItemsFault_any L A2 cap2 _ hrd.row hM9.tabs hM9.sane.smalls (by omega)
    clear hrd hLn hM7 hw9
    go_wp2_with fail
    refine hFk.mono ?_
    clear hFk
    generalize IM.fault L = ff
    rintro e w10 ⟨rfl, hw10⟩
    have hM10 := hM9.below hw10
    have hbw := below_grown hb1 hM10.grown hb1.size (by intro k hk; injection hk with hk; omega)
    clear hM9 hw10
    go_wp2_with fail
    refine (taken_any _ (Hl.out.below hbw).laid).mono ?_
    rintro e w11 ⟨rfl, hw11⟩
    go_wp2_with fail
    go_ret
    exact ⟨rfl, hbw.trans (hw11.mono hbw.size)⟩
end Go.Proofs.YthhfbcddjnjllaaGreatDoor
