/- The law WordsDiffer. -/
import Derived.Test.YtniphfagpmgabaaDoorMarkOf
import Derived.Test.YtniphfagpmgabaaDoorSame
import Derived.Test.YtniphfagpmgabaaDoorProse
import Derived.Test.YtniphfagpmgabaaDoorChangedD
import Derived.Test.YtniphfagpmgabaaDoorFlip
import Derived.Test.YtniphfagpmgabaaDoorInts
import Derived.Test.YtniphfagpmgabaaDoorShing
namespace Go.Proofs.YtniphfagpmgabaaDoor
open Go.RowKit

theorem below_only {B : Nat} {a w w' : World} {g : Nat} (h : Below B a w) (hg : w.grownBy w' (some g)) (hB : B ≤ w.heap.size) (hgB : B ≤ g) : Below B a w' := h.grown hg hB (fun k hk => by injection hk with hk; omega)
theorem lit1_ne : (({ data := #[97, 98, 99, 32, 120, 10] } : ByteArray).toList.isEmpty) = false := by decide +kernel
theorem lit2_ne : (({ data := #[100, 32] } : ByteArray).toList.isEmpty) = false := by decide +kernel
theorem few_of {s : ByteArray} (h : s.size ≤ 600) : Few s := by
  refine ⟨by omega, ?_⟩
  have h1 := WM.wt_len (WM.toks s)
  have h2 := WM.toks_wt s
  omega
set_option maxHeartbeats 8000000 in
theorem WordsDiffer_any (A : Option Addr) (n cap : Nat) (w : World) (hl : Ints w w.heap.size A n) (hm : Mx w) :
    Calls Tryd.prog 3 #[.slice A n cap] w (SaysT w) := by
  have hst := hl.strm (cap := cap)
  have HM := Lib.hid hm
  clear hl hm
  go_enter Tryd.func3, Tryd.ntmps3
  go_wp2_with fail
  refine (Prose_any 14 (by omega) (by omega) w.heap.size w.heap.size 0 (by omega) _ hst).mono ?_
  rintro e w1 ⟨a, hsa, rfl, ⟨k1, hk1, hs1⟩, hg1⟩
  have hb1 : Below w.heap.size w w1 := below_only ((Below.refl _ _).alloc (Nat.le_refl _) _) hg1 (by simp) (Nat.le_refl _)
  clear hst hg1
  have hsa2 : a.size ≤ 84 := by simp at hsa; omega
  have HA := Lib.hid (few_of (show a.size ≤ 600 by omega))
  clear hsa
  go_wp2_with fail
  refine (ChangedD_any a ⟨#[97, 98, 99, 32, 120, 10]⟩ 84 6 hsa2 (by decide) (by decide) (by decide) lit1_ne (by decide) w.heap.size w.heap.size k1 (by simp at hk1; omega) _ hs1).mono ?_
  rintro e w2 ⟨t, hst2, rfl, ⟨k2, hk2, hs2⟩, hg2⟩
  have hb2 : Below w.heap.size w w2 := below_only hb1 hg2 hb1.size (Nat.le_refl _)
  clear hs1 hb1 hg2
  go_wp2_with fail
  refine (ChangedD_any t ⟨#[100, 32]⟩ 90 6 (by omega) (by decide) (by decide) (by decide) lit2_ne (by decide) w.heap.size w.heap.size k2 (by simp at hk1; omega) _ hs2).mono ?_
  rintro e w3 ⟨b, hsb, rfl, ⟨k3, hk3, hs3⟩, hg3⟩
  have hb3 : Below w.heap.size w w3 := below_only hb2 hg3 hb2.size (Nat.le_refl _)
  clear hs2 hb2 hg3
  have HB := Lib.hid (few_of (show b.size ≤ 600 by omega))
  have HK := Lib.hid (show k3 ≤ 1000 by simp at hk1; omega)
  clear hk1 hk2 hk3 hsb hst2 hsa2
  go_wp2_with fail
  refine (Flip_any 3 (by omega) (by omega) w.heap.size w.heap.size k3 (by have := HK.out; omega) _ hs3).mono ?_
  rintro e w4 ⟨f, rfl, hs4, hg4⟩
  have hb4 : Below w.heap.size w w4 := below_only hb3 hg4 hb3.size (Nat.le_refl _)
  clear hs3 hb3 hg4
  cases f
  · clear hs4
    have HB0 := Lib.hid hb4
    clear hb4
    have hDi := fun W (hW : Below w.heap.size w W) => Distance_any a b HA.out HB.out W (HM.out.below hW HM.out.2)
    have hDf := fun W (hW : Below w.heap.size w W) => Differ_any a b HA.out HB.out W (HM.out.below hW HM.out.2)
    have hMa := fun W (hW : Below w.heap.size w W) => Marked_any a b HA.out HB.out W (HM.out.below hW HM.out.2)
    have hRD := fun W (hW : Below w.heap.size w W) => DistanceOf_any a b HA.out HB.out W (HM.out.below hW HM.out.2)
    have hRF := fun W (hW : Below w.heap.size w W) => DifferOf_any a b HA.out HB.out W (HM.out.below hW HM.out.2)
    have hRM := fun W (hW : Below w.heap.size w W) => MarkedOf_any a b HA.out HB.out W (HM.out.below hW HM.out.2)
    have hdl := Lib.hid (differ_len (WM.toks a) (WM.toks b) HA.out.2)
    generalize dist (WM.toks a) (WM.toks b) = z at *
    generalize (⟨(WM.joinT (marks (WM.toks a) (WM.toks b))).toArray⟩ : ByteArray) = S at *
    generalize WM.differ (WM.toks a) (WM.toks b) = D at *
    have hSS : (S.toList == S.toList) = true := beq_self_eq_true _
    go_wp2_with fail
    refine (hDi _ HB0.out).mono ?_
    rintro e w5 ⟨rfl, hb5⟩
    have H5 := Lib.hid (HB0.out.trans (hb5.mono HB0.out.size))
    clear hb5 hDi
    go_wp2_with fail
    refine (hDf _ H5.out).mono ?_
    rintro e w6 ⟨v6, rfl, ho6, hb6⟩
    obtain ⟨A6, c6, rfl, _⟩ := ho6.rd
    have H6 := Lib.hid (And.intro ho6 (H5.out.trans (hb6.mono H5.out.size)))
    clear hb6 ho6 hDf
    go_wp2_with fail
    refine (hMa _ H6.out.2).mono ?_
    rintro e w7 ⟨rfl, hb7⟩
    have H7 := Lib.hid (And.intro (H6.out.1.below hb7) (H6.out.2.trans (hb7.mono H6.out.2.size)))
    clear hb7 hMa
    have hTF := TokensFault_any a b HA.out HB.out w7.heap.size (w7.alloc (.cells #[.string a, .string b] 9)) ((Blk.new w7 9 #[.string a, .string b]).cell 0) ((Blk.new w7 9 #[.string a, .string b]).cell 1) (by simp) ((HM.out.below H7.out.2 HM.out.2).below ((Below.refl _ _).alloc (Nat.le_refl _) _) (HM.out.below H7.out.2 HM.out.2).2)
    go_wp2_with fail
    refine hTF.mono ?_
    rintro e w8 ⟨rfl, hb8⟩
    have b78 : Below w7.heap.size w7 w8 := ((Below.refl _ _).alloc (Nat.le_refl _) _).trans (hb8.mono (by simp))
    have H8 := Lib.hid (And.intro (H7.out.1.below b78) (H7.out.2.trans (b78.mono H7.out.2.size)))
    clear hb8 hTF b78
    go_wp2_with fail
    refine (nears_any _).mono ?_
    rintro e w9 ⟨rfl, hb9⟩
    have H9 := Lib.hid (And.intro (H8.out.1.below hb9) (H8.out.2.trans (hb9.mono H8.out.2.size)))
    clear hb9
    go_wp2_with fail
    refine (hRD _ H9.out.2).mono ?_
    rintro e w10 ⟨rfl, hb10⟩
    have H10 := Lib.hid (And.intro (H9.out.1.below hb10) (H9.out.2.trans (hb10.mono H9.out.2.size)))
    clear hb10 hRD
    go_wp2_with fail
    refine (hRF _ H10.out.2).mono ?_
    rintro e w11 ⟨v11, rfl, ho11, hb11⟩
    obtain ⟨A11, c11, rfl, _⟩ := ho11.rd
    have hSC := SameChanges_any D _ _ _ _ w11 (H10.out.1.below hb11) ho11 (Nat.le_trans hdl.out (by omega))
    have H11 := Lib.hid (H10.out.2.trans (hb11.mono H10.out.2.size))
    clear hb11 ho11 hRF
    go_wp2_with fail
    refine hSC.mono ?_
    rintro e w12 ⟨rfl, hb12⟩
    have H12 := Lib.hid (H11.out.trans (hb12.mono H11.out.size))
    clear hb12 hSC
    go_wp2_with fail
    refine (hRM _ H12.out).mono ?_
    rintro e w13 ⟨rfl, hb13⟩
    have H13 := Lib.hid (H12.out.trans (hb13.mono H12.out.size))
    clear hb13 hRM
    go_wp2_with fail
    go_ret
    exact ⟨rfl, H13.out⟩
  · clear HB
    go_wp2_with fail
    refine (Prose_any 10 (by omega) (by omega) w.heap.size w.heap.size (k3 + 1) (by have := HK.out; omega) _ hs4).mono ?_
    rintro e w4b ⟨b, hsb, rfl, _, hg5⟩
    have hb4b : Below w.heap.size w w4b := below_only hb4 hg5 hb4.size (Nat.le_refl _)
    have HB := Lib.hid (few_of (show b.size ≤ 600 by simp at hsb; omega))
    clear hs4 hb4 hg5 hsb
    have HB0 := Lib.hid hb4b
    clear hb4b
    have hDi := fun W (hW : Below w.heap.size w W) => Distance_any a b HA.out HB.out W (HM.out.below hW HM.out.2)
    have hDf := fun W (hW : Below w.heap.size w W) => Differ_any a b HA.out HB.out W (HM.out.below hW HM.out.2)
    have hMa := fun W (hW : Below w.heap.size w W) => Marked_any a b HA.out HB.out W (HM.out.below hW HM.out.2)
    have hRD := fun W (hW : Below w.heap.size w W) => DistanceOf_any a b HA.out HB.out W (HM.out.below hW HM.out.2)
    have hRF := fun W (hW : Below w.heap.size w W) => DifferOf_any a b HA.out HB.out W (HM.out.below hW HM.out.2)
    have hRM := fun W (hW : Below w.heap.size w W) => MarkedOf_any a b HA.out HB.out W (HM.out.below hW HM.out.2)
    have hdl := Lib.hid (differ_len (WM.toks a) (WM.toks b) HA.out.2)
    generalize dist (WM.toks a) (WM.toks b) = z at *
    generalize (⟨(WM.joinT (marks (WM.toks a) (WM.toks b))).toArray⟩ : ByteArray) = S at *
    generalize WM.differ (WM.toks a) (WM.toks b) = D at *
    have hSS : (S.toList == S.toList) = true := beq_self_eq_true _
    go_wp2_with fail
    refine (hDi _ HB0.out).mono ?_
    rintro e w5 ⟨rfl, hb5⟩
    have H5 := Lib.hid (HB0.out.trans (hb5.mono HB0.out.size))
    clear hb5 hDi
    go_wp2_with fail
    refine (hDf _ H5.out).mono ?_
    rintro e w6 ⟨v6, rfl, ho6, hb6⟩
    obtain ⟨A6, c6, rfl, _⟩ := ho6.rd
    have H6 := Lib.hid (And.intro ho6 (H5.out.trans (hb6.mono H5.out.size)))
    clear hb6 ho6 hDf
    go_wp2_with fail
    refine (hMa _ H6.out.2).mono ?_
    rintro e w7 ⟨rfl, hb7⟩
    have H7 := Lib.hid (And.intro (H6.out.1.below hb7) (H6.out.2.trans (hb7.mono H6.out.2.size)))
    clear hb7 hMa
    have hTF := TokensFault_any a b HA.out HB.out w7.heap.size (w7.alloc (.cells #[.string a, .string b] 9)) ((Blk.new w7 9 #[.string a, .string b]).cell 0) ((Blk.new w7 9 #[.string a, .string b]).cell 1) (by simp) ((HM.out.below H7.out.2 HM.out.2).below ((Below.refl _ _).alloc (Nat.le_refl _) _) (HM.out.below H7.out.2 HM.out.2).2)
    go_wp2_with fail
    refine hTF.mono ?_
    rintro e w8 ⟨rfl, hb8⟩
    have b78 : Below w7.heap.size w7 w8 := ((Below.refl _ _).alloc (Nat.le_refl _) _).trans (hb8.mono (by simp))
    have H8 := Lib.hid (And.intro (H7.out.1.below b78) (H7.out.2.trans (b78.mono H7.out.2.size)))
    clear hb8 hTF b78
    go_wp2_with fail
    refine (nears_any _).mono ?_
    rintro e w9 ⟨rfl, hb9⟩
    have H9 := Lib.hid (And.intro (H8.out.1.below hb9) (H8.out.2.trans (hb9.mono H8.out.2.size)))
    clear hb9
    go_wp2_with fail
    refine (hRD _ H9.out.2).mono ?_
    rintro e w10 ⟨rfl, hb10⟩
    have H10 := Lib.hid (And.intro (H9.out.1.below hb10) (H9.out.2.trans (hb10.mono H9.out.2.size)))
    clear hb10 hRD
    go_wp2_with fail
    refine (hRF _ H10.out.2).mono ?_
    rintro e w11 ⟨v11, rfl, ho11, hb11⟩
    obtain ⟨A11, c11, rfl, _⟩ := ho11.rd
    have hSC := SameChanges_any D _ _ _ _ w11 (H10.out.1.below hb11) ho11 (Nat.le_trans hdl.out (by omega))
    have H11 := Lib.hid (H10.out.2.trans (hb11.mono H10.out.2.size))
    clear hb11 ho11 hRF
    go_wp2_with fail
    refine hSC.mono ?_
    rintro e w12 ⟨rfl, hb12⟩
    have H12 := Lib.hid (H11.out.trans (hb12.mono H11.out.size))
    clear hb12 hSC
    go_wp2_with fail
    refine (hRM _ H12.out).mono ?_
    rintro e w13 ⟨rfl, hb13⟩
    have H13 := Lib.hid (H12.out.trans (hb13.mono H12.out.size))
    clear hb13 hRM
    go_wp2_with fail
    go_ret
    exact ⟨rfl, H13.out⟩
end Go.Proofs.YtniphfagpmgabaaDoor
