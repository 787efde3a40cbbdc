/- The law WordsPatched. -/
import Derived.Test.YtndeifdpiimbeaaGreatDoorTurnZ
import Derived.Test.YtndeifdpiimbeaaGreatDoorPatOf
import Derived.Test.YtndeifdpiimbeaaGreatDoorChgs
import Derived.Test.YtndeifdpiimbeaaGreatDoorSame0
import Derived.Test.YtndeifdpiimbeaaGreatDoorNears
import Derived.Test.YtndeifdpiimbeaaGreatDoorMakers
namespace Go.Proofs.YtndeifdpiimbeaaGreatDoor
open Go.RowKit

theorem back_okl {X : List ByteArray} {D : List WM.ZC} (h : OkZ D) : (backP X D).length ≤ 3000 := by
  unfold backP
  split
  · have h1 := back_lenZ (D.map WM.ZC.nat) (D.map WM.ZC.nat).length
    have h2 := h.len
    rw [List.length_map] at h1 ⊢
    omega
  · simp
set_option maxHeartbeats 8000000 in
theorem WordsPatched_any (A : Option Addr) (n cap : Nat) (w : World) (hl : Ints w w.heap.size A n) (hm : Mx w) :
    Calls Tryz.prog 3 #[.slice A n cap] w (SaysT w) := by
  have hst := hl.strm (cap := cap)
  have HM := Lib.hid hm
  clear hl hm
  go_enter Tryz.func3, Tryz.ntmps3
  go_wp2_with fail
  refine (Prose_any 14 (by omega) (by omega) w.heap.size w.heap.size 0 (by omega) _ hst).mono ?_
  rintro e w1 ⟨a, hsa, rfl, ⟨k1, hk1, hs1⟩, hg1⟩
  have hb1 : Below w.heap.size w w1 := below_only ((Below.refl _ _).alloc (Nat.le_refl _) _) hg1 (by simp) (Nat.le_refl _)
  have hsa2 : a.size ≤ 84 := by simp at hsa; omega
  clear hst hg1 hsa
  go_wp2_with fail
  refine (Changes_any a (by omega) w.heap.size w.heap.size k1 (by simp at hk1; omega) w1 hs1 (HM.out.below hb1 HM.out.2) HM.out.2 hb1.size).mono ?_
  rintro e w2 ⟨base, AD, D, cD, rfl, hrd, hok, hb2⟩
  have hb2' : Below w.heap.size w w2 := hb1.trans hb2
  have hF := few_of (s := a) (by omega)
  have hPt := fun W (h : Below w2.heap.size w2 W) => Patch_gen a hF D AD cD base W (HM.out.below (hb2'.trans (h.mono hb2'.size)) HM.out.2) (hrd.below h) hok
  have hTu := fun W (h : Below w2.heap.size w2 W) => Turn_gen a hF D AD cD base W (HM.out.below (hb2'.trans (h.mono hb2'.size)) HM.out.2) (hrd.below h) hok
  have hPo := fun W (h : Below w2.heap.size w2 W) => PatchOf_gen a hF D AD cD base W (HM.out.below (hb2'.trans (h.mono hb2'.size)) HM.out.2) (hrd.below h) hok
  have hTo := fun W (h : Below w2.heap.size w2 W) => TurnOf_gen a hF D AD cD base W (HM.out.below (hb2'.trans (h.mono hb2'.size)) HM.out.2) (hrd.below h) hok
  have HBL := Lib.hid (back_okl (X := WM.toks a) hok)
  have HB2 := Lib.hid hb2'
  generalize resP (WM.toks a) D = r at *
  generalize codeP (WM.toks a) D = c at *
  generalize backP (WM.toks a) D = K at *
  have HC := Lib.hid (And.intro hPt (And.intro hTu (And.intro hPo hTo)))
  have HDL := Lib.hid hok.len
  clear hb1 hs1 hb2 hb2' hrd hok hF hPt hTu hPo hTo hsa2 hk1
  go_wp2_with fail
  refine (HC.out.1 w2 (Below.refl _ _)).mono ?_
  rintro e w3 ⟨rfl, hb3⟩
  have H3 := Lib.hid hb3
  clear hb3
  go_wp2_with fail
  refine (HC.out.2.1 w3 H3.out).mono ?_
  rintro e w4 ⟨v4, rfl, ho4, hb4⟩
  have H4 := Lib.hid (And.intro ho4 (H3.out.trans (hb4.mono H3.out.size)))
  clear ho4 hb4
  go_wp2_with fail
  refine (HC.out.2.2.1 w4 H4.out.2).mono ?_
  rintro e w5 ⟨rfl, hb5⟩
  have H5 := Lib.hid (And.intro (H4.out.1.below hb5) (H4.out.2.trans (hb5.mono H4.out.2.size)))
  clear hb5
  go_wp2_with fail
  refine (HC.out.2.2.2 w5 H5.out.2).mono ?_
  rintro e w6 ⟨v6, rfl, ho6, hb6⟩
  have H6 := Lib.hid (And.intro (H5.out.1.below hb6) (And.intro ho6 (H5.out.2.trans (hb6.mono H5.out.2.size))))
  clear ho6 hb6
  have hrr : (r.toList == r.toList) = true := beq_self_eq_true _
  have hcc : (c == c) = true := beq_self_eq_true _
  go_wp2_with fail
  refine (nears_any _).mono ?_
  rintro e w7 ⟨rfl, hb7⟩
  have H7 := Lib.hid (And.intro (H6.out.1.below hb7) (And.intro (H6.out.2.1.below hb7) (H6.out.2.2.trans (hb7.mono H6.out.2.2.size))))
  clear hb7
  go_wp2_with fail
  refine (SameChanges_any K v4 v6 _ _ w7 H7.out.1 H7.out.2.1 HBL.out).mono ?_
  rintro e w8 ⟨rfl, hb8⟩
  have H8 := Lib.hid (HB2.out.trans ((H7.out.2.2.trans (hb8.mono H7.out.2.2.size)).mono HB2.out.size))
  clear hb8
  go_wp2_with fail
  go_ret
  exact ⟨rfl, H8.out⟩
end Go.Proofs.YtndeifdpiimbeaaGreatDoor
