/- The law CoveredIsHidden. -/
import Derived.Test.YtflilepmhidndaaDoorRedact
import Derived.Test.YtflilepmhidndaaDoorCvM
import Derived.Test.YtflilepmhidndaaDoorInU
import Derived.Test.YtflilepmhidndaaDoorSpMakeR
import Derived.Test.YtflilepmhidndaaDoorWithout
import Derived.Test.YtflilepmhidndaaDoorEqualI
import Derived.Test.YtflilepmhidndaaDoorMemo
import Derived.Test.YtflilepmhidndaaDoorInts
import Derived.Test.YtflilepmhidndaaDoorCanon
namespace Go.Proofs.YtflilepmhidndaaDoor
open Go.RowKit

theorem below_onlyC {B : Nat} {a w w' : World} {g : Nat} (h : Below B a w) (hg : w.grownBy w' (some g)) (hB : B ≤ w.heap.size) (hgB : B ≤ g) : Below B a w' := h.grown hg hB (fun k hk => by injection hk with hk; omega)
theorem right_fault {n z : Int} {L : List (Int × Int)} (h : RightI n L) (hn : 0 ≤ n) (hn2 : n ≤ 1000) (hnz : n ≤ z) (hz : z ≤ 200000) : WM.spFault z L = 0 := by
  have := WM.sep_size h.1 h.2 hn
  exact WM.spFault_of (by omega) hz (by omega) h.1 fun s hs => ⟨(h.2 s hs).1, by have := (h.2 s hs).2; omega⟩
/-- right spans with C are answered, and no fault -/
def MixR (n : Int) (C : Int → Prop) (w : World) (e : Ending) (w' : World) : Prop := ∃ v M, e = .returned (.tuple #[v, .int .i64 0]) ∧ RightI n M ∧ (∀ i, WM.cov M i ↔ C i) ∧ OwnI w' w.heap.size v M ∧ Below w.heap.size w w'
theorem mix_right {n : Int} {C : Int → Prop} {w w' : World} {e : Ending} (hn : 0 ≤ n) (hn2 : n ≤ 1000) (hC : ∀ i, C i → 0 ≤ i ∧ i < n) (h : MixSays C w e w') : MixR n C w e w' := by
  obtain ⟨M, h1, h2, v, rfl, h3, h4⟩ := h
  obtain ⟨-, r2, r3⟩ := WM.right_of (z := n) h1 (fun i hi => hC i ((h2 i).1 hi)) hn hn2 (by omega) (by omega)
  rw [r2]
  rw [r3] at h3
  exact ⟨v, M, rfl, ⟨h1, WM.cov_in h1 fun i hi => hC i ((h2 i).1 hi)⟩, h2, h3, h4⟩
theorem Union_right {w : World} {b1 b2 : Nat} {v1 v2 : Value} {X Y : List (Int × Int)} (h1 : OwnI w b1 v1 X) (h2 : OwnI w b2 v2 Y) {n z : Int} (hX : RightI n X) (hY : RightI n Y) (hn : 0 ≤ n) (hn2 : n ≤ 1000) (hnz : n ≤ z) (hz : z ≤ 200000) : Calls Tryd.prog 9 #[v1, v2, .int .i64 z] w (MixR n (fun i => WM.cov X i ∨ WM.cov Y i) w) :=
  (Union_ok h1 h2 z (right_fault hX hn hn2 hnz hz) (right_fault hY hn hn2 hnz hz)).mono fun _ _ h => mix_right hn hn2 (fun i hi => hi.elim (WM.in_cov hX.2 i) (WM.in_cov hY.2 i)) h
theorem Without_right {w : World} {b1 b2 : Nat} {v1 v2 : Value} {X Y : List (Int × Int)} (h1 : OwnI w b1 v1 X) (h2 : OwnI w b2 v2 Y) {n z : Int} (hX : RightI n X) (hY : RightI n Y) (hn : 0 ≤ n) (hn2 : n ≤ 1000) (hnz : n ≤ z) (hz : z ≤ 200000) : Calls Tryd.prog 12 #[v1, v2, .int .i64 z] w (MixR n (fun i => WM.cov X i ∧ ¬ WM.cov Y i) w) :=
  (Without_ok h1 h2 z (right_fault hX hn hn2 hnz hz) (right_fault hY hn hn2 hnz hz)).mono fun _ _ h => mix_right hn hn2 (fun i hi => WM.in_cov hX.2 i hi.1) h
/-- the text with what is covered -/
noncomputable def redS (t : ByteArray) (C : Int → Prop) : ByteArray := ⟨(PT.red (PT.covB t.data.toList C) t.data.toList).toArray⟩
theorem redS_size (t : ByteArray) (C : Int → Prop) : (redS t C).size = t.size := PT.red_size _ _
theorem redS_list (t : ByteArray) (C : Int → Prop) : (redS t C).data.toList = PT.red (PT.covB t.data.toList C) t.data.toList := rfl
theorem redS_body {t : ByteArray} (C : Int → Prop) (h : TB.bodyC t = 0) : TB.bodyC (redS t C) = 0 := PT.red_body _ _ (PT.covB_whole _ _) h
theorem redS_twice (t : ByteArray) (A B C : Int → Prop) (hC : ∀ i : Nat, C i ↔ A i ∨ B i) : redS (redS t A) B = redS t C := by
  unfold redS
  exact congrArg (fun l : List UInt8 => (⟨l.toArray⟩ : ByteArray)) (PT.red_twice t.data.toList A B C hC)
theorem Redact_right {w : World} {b : Nat} {v : Value} {L : List (Int × Int)} (h : OwnI w b v L) (t : ByteArray) (hB : TB.bodyC t = 0) {n : Int} (hL : RightI n L) (hn : 0 ≤ n) (hn2 : n ≤ 1000) (hnt : n ≤ t.size) (hT : LibV w) : Calls Tryd.prog 8 #[.string t, v] w fun e w' => e = .returned (.tuple #[.string (redS t (WM.cov L)), .int .i64 0]) ∧ Below w.heap.size w w' :=
  Redact_ok h t hB (right_fault hL hn hn2 hnt (by have := (PT.body_valid hB).1; omega)) (PT.body_head hB) hT
def CvRel (w : World) (t : ByteArray) (B1 B2 : Nat) (v1 v2 : Value) (M Y : List (Int × Int)) (i : Value) (wr : World) : Prop := ∃ k : Nat, i = .int .i64 k ∧ k ≤ t.size ∧ Hid (OwnI wr B1 v1 M) ∧ Hid (OwnI wr B2 v2 Y) ∧ Below w.heap.size w wr
set_option maxHeartbeats 16000000 in
set_option maxRecDepth 100000 in
theorem CoveredIsHidden_any (A : Option Addr) (n cap : Nat) (w : World) (hl : Ints w w.heap.size A n) (hT : LibV w) :
    Calls Tryd.prog 3 #[.slice A n cap] w (SaysTr w) := by
  have hst := hl.strm (cap := cap)
  clear hl
  have HTL := Lib.hid hT
  have htop := hT.2
  have HB0 := Lib.hid ((Below.refl w.heap.size w).alloc (Nat.le_refl _) (.cells #[.slice A n cap, .int .i64 0] 25))
  clear hT
  go_enter Tryd.func3, Tryd.ntmps3
  go_wp2_with fail
  refine (Memo_any w.heap.size w.heap.size 0 (by omega) _ hst).mono ?_
  rintro e w1 ⟨t, ht, rfl, ⟨k1, hk1, hs1⟩, hg1⟩
  have HB1 := Lib.hid (below_onlyC HB0.out hg1 HB0.out.size (Nat.le_refl _))
  have HS1 := Lib.hid (And.intro hs1 hk1)
  have hF := BodyFault_any t (by omega) w1 (HTL.out.below HB1.out htop)
  clear hst hg1 hs1 hk1
  by_cases hbc : TB.bodyC t = 0
  · rw [hbc] at hF
    have HBC := Lib.hid hbc
    have ht2 := (PT.body_valid hbc).1
    clear hbc ht
    go_wp2_with fail
    refine hF.mono ?_
    rintro e w2 ⟨rfl, hb2⟩
    have HB2 := Lib.hid (HB1.out.trans (hb2.mono HB1.out.size))
    have hs2 := HS1.out.1.below hb2 HS1.out.1.lt
    have hlt2 := hs2.lt
    obtain ⟨m, hm⟩ : ∃ m : Nat, min (t.size : Int) 50 = (m : Int) := ⟨min t.size 50, by omega⟩
    have hm1 : (m : Int) ≤ t.size := by omega
    have hm2 : (m : Int) ≤ 50 := by omega
    have hk1 := HS1.out.2
    clear hF hb2
    go_wp2_with fail
    refine (SpanListR_any m (by omega) (by omega) w.heap.size w.heap.size k1 (by omega) _ hs2).mono ?_
    rintro e w3 ⟨v1, X, rfl, hXl, hX, ho1, ⟨k3, hk3, hs3⟩, hg3⟩
    have HB3 := Lib.hid (below_onlyC HB2.out hg3 HB2.out.size (Nat.le_refl _))
    have HO1 := Lib.hid ho1
    have HX := Lib.hid hX
    clear hs2 hg3 ho1 hX hXl
    go_wp2_with fail
    refine (SpanListR_any m (by omega) (by omega) w.heap.size w.heap.size k3 (by omega) _ hs3).mono ?_
    rintro e w4 ⟨v2, Y, rfl, hYl, hY, ho2, -, hg4⟩
    have HB4 := Lib.hid (below_onlyC HB3.out hg4 HB3.out.size (Nat.le_refl _))
    have HO := Lib.hid (And.intro (HO1.out.grown hg4 (fun q hq => by have := HO1.out.base_le q hq; intro h; injection h; omega)) ho2)
    clear hlt2
    have HY := Lib.hid hY
    clear hs3 hg4 ho2 hY hYl hk1 hk3 HO1 HS1
    obtain ⟨A1, c1, rfl, -, -⟩ := HO.out.1.form
    obtain ⟨A2, c2, rfl, -, -⟩ := HO.out.2.form
    have hR1 := Redact_right HO.out.1 t HBC.out HX.out (by omega) (by omega) hm1 (HTL.out.below HB4.out htop)
    obtain ⟨x, hx⟩ : ∃ x, redS t (WM.cov X) = x := ⟨_, rfl⟩
    have HXB := Lib.hid (show TB.bodyC x = 0 by rw [← hx]; exact redS_body _ HBC.out)
    have hxs : x.size = t.size := by rw [← hx]; exact redS_size _ _
    rw [hx] at hR1
    have Hx := Lib.hid hx
    clear hx
    go_wp2_with fail
    refine hR1.mono ?_
    rintro e w5 ⟨rfl, hb5⟩
    have HB5 := Lib.hid (HB4.out.trans (hb5.mono HB4.out.size))
    have HO5 := Lib.hid (And.intro (HO.out.1.below hb5) (HO.out.2.below hb5))
    have hR2 := Redact_right HO5.out.2 x HXB.out HY.out (by omega) (by omega) (by omega) (HTL.out.below HB5.out htop)
    obtain ⟨y, hy⟩ : ∃ y, redS x (WM.cov Y) = y := ⟨_, rfl⟩
    have hys : y.size = t.size := by rw [← hy, redS_size, hxs]
    rw [hy] at hR2
    have Hy := Lib.hid hy
    clear hy hR1 hb5
    go_wp2_with fail
    refine hR2.mono ?_
    rintro e w6 ⟨rfl, hb6⟩
    have HB6 := Lib.hid (HB5.out.trans (hb6.mono HB5.out.size))
    have HO6 := Lib.hid (And.intro (HO5.out.1.below hb6) (HO5.out.2.below hb6))
    have hU := Union_right HO6.out.1 HO6.out.2 (z := t.size) HX.out HY.out (by omega) (by omega) hm1 (by omega)
    clear hR2 hb6
    go_wp2_with fail
    refine hU.mono ?_
    rintro e w7 ⟨v3, M, rfl, hM, hMc, ho3, hb7⟩
    have HB7 := Lib.hid (HB6.out.trans (hb7.mono HB6.out.size))
    have HO7 := Lib.hid (And.intro ho3 (HO6.out.2.below hb7))
    have HM := Lib.hid (And.intro hM hMc)
    obtain ⟨A3, c3, rfl, -, -⟩ := ho3.form
    have hR3 := Redact_right ho3 t HBC.out hM (by omega) (by omega) hm1 (HTL.out.below HB7.out htop)
    have HZ : Hid (redS t (WM.cov M) = y) := Lib.hid (by rw [← Hy.out, ← Hx.out]; exact (redS_twice t _ _ _ fun i => hMc i).symm)
    rw [HZ.out] at hR3
    clear hU hb7 ho3 hM hMc
    go_wp2_with fail
    refine hR3.mono ?_
    rintro e w8 ⟨rfl, hb8⟩
    have HB8 := Lib.hid (HB7.out.trans (hb8.mono HB7.out.size))
    have HO8 := Lib.hid (And.intro (HO7.out.1.below hb8) (HO7.out.2.below hb8))
    have q1 : (y.data.toList == y.data.toList) = true := by simp
    have q2 : ((y.size : Int) != (t.size : Int)) = false := by rw [hys]; simp
    clear hR3 hb8
    go_wp2_with fail
    have hMl : M.length ≤ 1000 := by have := WM.sep_size HM.out.1.1 HM.out.1.2 (by omega); omega
    have HV := Lib.hid (PT.body_valid HBC.out).2
    go_loopw [92] (fun i wr => CvRel w t w6.heap.size w3.heap.size (.slice A3 M.length c3) (.slice A2 Y.length c2) M Y i wr) (fun i _ => t.size - (intOf i).toNat)
    case atStart => exact ⟨0, rfl, Nat.zero_le _, Lib.hid HO8.out.1, Lib.hid HO8.out.2, HB8.out⟩
    case round =>
      obtain ⟨k, rfl, hk, HU, HY2, hbw⟩ := hrel
      have hsw := hbw.size
      by_cases hlt : k < t.size
      · have hky : k < y.size := by omega
        have i1 : (k : Int) < (t.size : Int) := by omega
        have i2 : (k : Int) < (y.size : Int) := by omega
        have hbx : (wr.alloc (.cells #[.int .i64 k] 3)).cell? ⟨wr.heap.size, 0, none⟩ = some (.int .i64 k) := by rw [cell_of_row _ _ 0 _ _ _ (heap_alloc_new wr _)]; rfl
        obtain ⟨c, hc⟩ : ∃ c, M.any (inB k) = c := ⟨_, rfl⟩
        have hCF := ContainsFuncI_any (bx := wr.heap.size) (HU.out.alloc (.cells #[.int .i64 k] 3)) (by omega) (by simp) hbx c hc
        have HB := Lib.hid (hbw.alloc hsw (.cells #[.int .i64 k] 3))
        have HBX := Lib.hid hbx
        have hgy : (y[k]'hky) = (PT.red (PT.covB t.data.toList (WM.cov M)) t.data.toList).getD k 0 := by rw [PT.get_D hky, ← HZ.out]; rfl
        have hgt := PT.get_D hlt
        have HKL := Lib.hid (show k < t.data.toList.length by simpa using hlt)
        clear hbw q1 q2 hbx
        cases c
        · have hnc : ¬ WM.cov M (k : Int) := fun h => by rw [(inB_any M k).2 h] at hc; cases hc
          by_cases hasc : (t[k]'hlt).toNat < 128
          · have hyt : (y[k]'hky) = (t[k]'hlt) := by rw [hgy, hgt]; exact PT.red_out HV.out HKL.out (by rw [← hgt]; exact hasc) hnc
            have e1 : (((y[k]'hky).toNat : Int) != ((t[k]'hlt).toNat : Int)) = false := by rw [hyt]; simp
            have ha : decide (((t[k]'hlt).toNat : Int) < 128) = true := decide_eq_true (by omega)
            clear hgy hgt hnc hc hyt
            go_wp2_with fail
            refine hCF.mono ?_
            rintro e w10 ⟨rfl, hb10⟩
            have hbi := (hb10.cell (p := ⟨wr.heap.size, 0, none⟩) (by simp)).trans HBX.out
            have H10 := Lib.hid (And.intro ((HU.out.alloc (.cells #[.int .i64 k] 3)).below hb10) (And.intro ((HY2.out.alloc (.cells #[.int .i64 k] 3)).below hb10) (HB.out.trans (hb10.mono HB.out.size))))
            clear hCF hb10
            go_wp2_with fail
            go_quiet (fail)
            go_wp2_with fail
            exact ⟨⟨k + 1, by simp, by omega, Lib.hid (H10.out.1.drewN nq), Lib.hid (H10.out.2.1.drewN nq), below_drewN H10.out.2.2 nq⟩, by simp [intOf]; omega⟩
          · have ha : decide (((t[k]'hlt).toNat : Int) < 128) = false := decide_eq_false (by omega)
            clear hgy hgt hnc hc
            go_wp2_with fail
            refine hCF.mono ?_
            rintro e w10 ⟨rfl, hb10⟩
            have hbi := (hb10.cell (p := ⟨wr.heap.size, 0, none⟩) (by simp)).trans HBX.out
            have H10 := Lib.hid (And.intro ((HU.out.alloc (.cells #[.int .i64 k] 3)).below hb10) (And.intro ((HY2.out.alloc (.cells #[.int .i64 k] 3)).below hb10) (HB.out.trans (hb10.mono HB.out.size))))
            clear hCF hb10
            go_wp2_with fail
            go_quiet (fail)
            go_wp2_with fail
            exact ⟨⟨k + 1, by simp, by omega, Lib.hid (H10.out.1.drewN nq), Lib.hid (H10.out.2.1.drewN nq), below_drewN H10.out.2.2 nq⟩, by simp [intOf]; omega⟩
        · have hin : WM.cov M (k : Int) := (inB_any M k).1 hc
          rcases PT.red_in HKL.out hin with hv | hv | hv
          · rw [← hgy] at hv
            have e35 : (((y[k]'hky).toNat : Int) != 35) = false := by rw [hv]; rfl
            clear hgy hgt hin hc hv
            go_wp2_with fail
            refine hCF.mono ?_
            rintro e w10 ⟨rfl, hb10⟩
            have hbi := (hb10.cell (p := ⟨wr.heap.size, 0, none⟩) (by simp)).trans HBX.out
            have H10 := Lib.hid (And.intro ((HU.out.alloc (.cells #[.int .i64 k] 3)).below hb10) (And.intro ((HY2.out.alloc (.cells #[.int .i64 k] 3)).below hb10) (HB.out.trans (hb10.mono HB.out.size))))
            clear hCF hb10
            go_wp2_with fail
            go_quiet (fail)
            go_wp2_with fail
            exact ⟨⟨k + 1, by simp, by omega, Lib.hid (H10.out.1.drewN nq), Lib.hid (H10.out.2.1.drewN nq), below_drewN H10.out.2.2 nq⟩, by simp [intOf]; omega⟩
          · rw [← hgy] at hv
            have e35 : (((y[k]'hky).toNat : Int) != 35) = true := by rw [hv]; rfl
            have e32 : (((y[k]'hky).toNat : Int) != 32) = false := by rw [hv]; rfl
            clear hgy hgt hin hc hv
            go_wp2_with fail
            refine hCF.mono ?_
            rintro e w10 ⟨rfl, hb10⟩
            have hbi := (hb10.cell (p := ⟨wr.heap.size, 0, none⟩) (by simp)).trans HBX.out
            have H10 := Lib.hid (And.intro ((HU.out.alloc (.cells #[.int .i64 k] 3)).below hb10) (And.intro ((HY2.out.alloc (.cells #[.int .i64 k] 3)).below hb10) (HB.out.trans (hb10.mono HB.out.size))))
            clear hCF hb10
            go_wp2_with fail
            go_quiet (fail)
            go_wp2_with fail
            exact ⟨⟨k + 1, by simp, by omega, Lib.hid (H10.out.1.drewN nq), Lib.hid (H10.out.2.1.drewN nq), below_drewN H10.out.2.2 nq⟩, by simp [intOf]; omega⟩
          · rw [← hgy] at hv
            have e35 : (((y[k]'hky).toNat : Int) != 35) = true := by rw [hv]; rfl
            have e32 : (((y[k]'hky).toNat : Int) != 32) = true := by rw [hv]; rfl
            have e10 : (((y[k]'hky).toNat : Int) != 10) = false := by rw [hv]; rfl
            clear hgy hgt hin hc hv
            go_wp2_with fail
            refine hCF.mono ?_
            rintro e w10 ⟨rfl, hb10⟩
            have hbi := (hb10.cell (p := ⟨wr.heap.size, 0, none⟩) (by simp)).trans HBX.out
            have H10 := Lib.hid (And.intro ((HU.out.alloc (.cells #[.int .i64 k] 3)).below hb10) (And.intro ((HY2.out.alloc (.cells #[.int .i64 k] 3)).below hb10) (HB.out.trans (hb10.mono HB.out.size))))
            clear hCF hb10
            go_wp2_with fail
            go_quiet (fail)
            go_wp2_with fail
            exact ⟨⟨k + 1, by simp, by omega, Lib.hid (H10.out.1.drewN nq), Lib.hid (H10.out.2.1.drewN nq), below_drewN H10.out.2.2 nq⟩, by simp [intOf]; omega⟩
      · have HB9 := Lib.hid hbw
        have hW := Without_right HU.out HY2.out (z := t.size) HM.out.1 HY.out (by omega) (by omega) hm1 (by omega)
        clear hbw q1 q2
        go_wp2_with fail
        refine hW.mono ?_
        rintro e w10 ⟨v4, R, rfl, hR, hRc, ho4, hb10⟩
        have H10 := Lib.hid (And.intro (HU.out.below hb10) (And.intro (HY2.out.below hb10) (HB9.out.trans (hb10.mono HB9.out.size))))
        have HR := Lib.hid (And.intro hR hRc)
        obtain ⟨A4, c4, rfl, -, -⟩ := ho4.form
        have hV := Union_right ho4 H10.out.2.1 (z := t.size) hR HY.out (by omega) (by omega) hm1 (by omega)
        clear hW hb10 ho4 hR hRc
        go_wp2_with fail
        refine hV.mono ?_
        rintro e w11 ⟨v5, S, rfl, hS, hSc, ho5, hb11⟩
        have HSM : Hid (S = M) := Lib.hid (WM.sep_uniq hS.1 HM.out.1.1 fun i => (hSc i).trans ⟨fun h => h.elim (fun h => ((HR.out.2 i).1 h).1) (fun h => (HM.out.2 i).2 (.inr h)), fun h => (Classical.em (WM.cov Y i)).elim .inr (fun h2 => .inl ((HR.out.2 i).2 ⟨h, h2⟩))⟩)
        have H11 := Lib.hid (And.intro (H10.out.1.below hb11) (And.intro (HSM.out ▸ ho5) (H10.out.2.2.trans (hb11.mono H10.out.2.2.size))))
        obtain ⟨A5, c5, rfl, -, -⟩ := ho5.form
        clear hV hb11 ho5 hS hSc
        go_wp2_with fail
        refine (privileges_any _).mono ?_
        rintro e w12 ⟨rfl, hb12⟩
        have HB12 := Lib.hid (H11.out.2.2.trans (hb12.mono H11.out.2.2.size))
        have hE := EqualI_same (H11.out.2.1.below hb12) (H11.out.1.below hb12)
        clear hb12
        go_wp2_with fail
        refine hE.mono ?_
        rintro e w13 ⟨rfl, q, rfl⟩
        clear hE
        go_wp2_with fail
        go_ret
        exact ⟨rfl, below_drewN HB12.out q⟩
  · have hcb : (TB.bodyC t != 0) = true := bne_iff_ne.2 hbc
    generalize TB.bodyC t = c at *
    clear hbc ht
    go_wp2_with fail
    refine hF.mono ?_
    rintro e w2 ⟨rfl, hb2⟩
    have HB2 := Lib.hid (HB1.out.trans (hb2.mono HB1.out.size))
    clear hF hb2
    go_wp2_with fail
    refine (privileges_any _).mono ?_
    rintro e w9 ⟨rfl, hb9⟩
    have HB9 := Lib.hid (HB2.out.trans (hb9.mono HB2.out.size))
    clear hb9
    go_wp2_with fail
    go_ret
    exact ⟨rfl, HB9.out⟩
end Go.Proofs.YtflilepmhidndaaDoor
