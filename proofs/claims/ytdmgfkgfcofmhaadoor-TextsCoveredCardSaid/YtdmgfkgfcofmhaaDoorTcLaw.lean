/- The law TextsCovered. -/
import Derived.Test.YtdmgfkgfcofmhaaDoorCvBad
import Derived.Test.YtdmgfkgfcofmhaaDoorWiden
import Derived.Test.YtdmgfkgfcofmhaaDoorWidenOf
import Derived.Test.YtdmgfkgfcofmhaaDoorRedact
import Derived.Test.YtdmgfkgfcofmhaaDoorRedOf
import Derived.Test.YtdmgfkgfcofmhaaDoorSeen
import Derived.Test.YtdmgfkgfcofmhaaDoorSeenOf
import Derived.Test.YtdmgfkgfcofmhaaDoorLeaks
import Derived.Test.YtdmgfkgfcofmhaaDoorLeaksOf
import Derived.Test.YtdmgfkgfcofmhaaDoorMakers
import Derived.Test.YtdmgfkgfcofmhaaDoorEqualI
import Derived.Test.YtdmgfkgfcofmhaaDoorRowsS
import Derived.Test.YtdmgfkgfcofmhaaDoorPriv
import Derived.Test.YtdmgfkgfcofmhaaDoorCanon
namespace Go.Proofs.YtdmgfkgfcofmhaaDoor
open Go.RowKit

theorem below_onlyT {B : Nat} {a w w' : World} {g : Nat} (h : Below B a w) (hg : w.grownBy w' (some g)) (hB : B ≤ w.heap.size) (hgB : B ≤ g) : Below B a w' := h.grown hg hB (fun k hk => by injection hk with hk; omega)
set_option maxHeartbeats 16000000 in
set_option maxRecDepth 100000 in
theorem TextsCovered_any (A : Option Addr) (n cap : Nat) (w : World) (hl : Ints w w.heap.size A n) (hT : LibV w) :
    Calls Tryd.prog 3 #[.slice A n cap] w (SaysTr w) := by
  have hst := hl.strm (cap := cap)
  clear hl
  have HTL := Lib.hid hT
  have htop := hT.2
  have HB0 := Lib.hid ((Below.refl w.heap.size w).alloc (Nat.le_refl _) (.cells #[.slice A n cap, .int .i64 0] 25))
  clear hT
  go_enter Tryd.func3, Tryd.ntmps3
  go_wp2_with fail
  refine (Memo_any w.heap.size w.heap.size 0 (by omega) _ hst).mono ?_
  rintro e w1 ⟨t, ht, rfl, ⟨k1, hk1, hs1⟩, hg1⟩
  have HB1 := Lib.hid (below_onlyT HB0.out hg1 HB0.out.size (Nat.le_refl _))
  obtain ⟨m, hm⟩ : ∃ m : Nat, min (t.size : Int) 60 = (m : Int) := ⟨min t.size 60, by omega⟩
  have hlt1 := hs1.lt
  clear hst hg1
  go_wp2_with fail
  refine (AnySpans_any m (by omega) (by omega) w.heap.size w.heap.size k1 (by omega) _ hs1).mono ?_
  rintro e w2 ⟨v1, L, rfl, -, ho1, -, hg2⟩
  have HB2 := Lib.hid (below_onlyT HB1.out hg2 HB1.out.size (Nat.le_refl _))
  have HO2 := Lib.hid ho1
  obtain ⟨A1, c1, rfl, -, -⟩ := ho1.form
  clear hs1 hg2 ho1 hlt1
  by_cases hc : cvC t L = 0
  · have hbf : TB.bodyC t = 0 ∧ WM.spFault t.size L = 0 := by
      unfold cvC WM.orC at hc
      split at hc
      · rename_i h; exact ⟨h, hc⟩
      · rename_i h; exact absurd hc h
    obtain ⟨hB, hSF⟩ := hbf
    have hbv := PT.body_valid hB
    have hF := WM.spFault_ok hSF
    have hL : ∀ x, x ∈ L → 0 ≤ x.1 ∧ x.1 < x.2 ∧ x.2 ≤ t.size := fun x hx => by
      have := hF.2.2.2.2 x hx
      have h2 := WM.sep_ne hF.2.2.2.1 x hx
      omega
    have hlen : t.data.toList.length = t.size := by simp
    have hcs := fun i : Nat => PT.cov_st (l := t.data.toList) (L := L) (by rw [hlen]; exact hL) i
    have HCS := Lib.hid hcs
    have HC := Lib.hid hc
    have HBC := Lib.hid hB
    have HSF := Lib.hid hSF
    have HLR := Lib.hid hL
    have HLL := Lib.hid hF.2.2.1
    have ht2 := hbv.1
    have HVL := Lib.hid hbv.2
    have hW1 := Widen_ok HO2.out t hB hSF (HTL.out.below HB2.out htop)
    clear hc hB hSF hF hL hlen hcs hbv
    go_wp2_with fail
    refine hW1.mono ?_
    rintro e w3 ⟨v2, M2, rfl, hM2, hM2c, ho2, hb3⟩
    have HM2 := Lib.hid (And.intro hM2 hM2c)
    have HB3 := Lib.hid (HB2.out.trans (hb3.mono HB2.out.size))
    have HO3 := Lib.hid (HO2.out.below hb3)
    have HA3 := Lib.hid ho2
    obtain ⟨A2, c2, rfl, -, -⟩ := ho2.form
    have hW2 := Redact_ok HO3.out t HBC.out HSF.out (PT.body_head HBC.out) (HTL.out.below HB3.out htop)
    obtain ⟨T, hTe⟩ : ∃ T : ByteArray, ⟨(PT.red (PT.covB t.data.toList (WM.cov L)) t.data.toList).toArray⟩ = T := ⟨_, rfl⟩
    rw [hTe] at hW2
    have HTE := Lib.hid hTe
    clear hW1 hb3 hM2 hM2c ho2 hTe
    go_wp2_with fail
    refine hW2.mono ?_
    rintro e w4 ⟨rfl, hb4⟩
    have HB4 := Lib.hid (HB3.out.trans (hb4.mono HB3.out.size))
    have HO4 := Lib.hid (HO3.out.below hb4)
    have HA4 := Lib.hid (HA3.out.below hb4)
    have hW3 := Seen_ok HO4.out t HBC.out HSF.out (HTL.out.below HB4.out htop)
    clear hW2 hb4
    go_wp2_with fail
    refine hW3.mono ?_
    rintro e w5 ⟨v3, N, rfl, hN1, hN2, hN3, ho3, hb5⟩
    have HN := Lib.hid (And.intro hN1 (And.intro hN2 hN3))
    have HB5 := Lib.hid (HB4.out.trans (hb5.mono HB4.out.size))
    have HO5 := Lib.hid (HO4.out.below hb5)
    have HA5 := Lib.hid (HA4.out.below hb5)
    obtain ⟨SW, hSW⟩ : ∃ SW, WM.seenW t 0 N = SW := ⟨_, rfl⟩
    rw [hSW] at ho3
    have HSW := Lib.hid hSW
    have HS5 := Lib.hid ho3
    obtain ⟨A3, c3, rfl, -⟩ := ho3.form
    clear hSW
    have hW4 := Leaks_ok HO5.out t HBC.out HSF.out (HTL.out.below HB5.out htop)
    obtain ⟨K, hKe⟩ : ∃ K, leaksL (WM.hid t (L.map (PT.st t.data.toList))) (L.map (PT.st t.data.toList)) (WM.qwords t) = K := ⟨_, rfl⟩
    rw [hKe] at hW4
    have HKE := Lib.hid hKe
    clear hW3 hb5 hN1 hN2 hN3 ho3 hKe
    go_wp2_with fail
    refine hW4.mono ?_
    rintro e w6 ⟨v4, rfl, ho4, hb6⟩
    have HB6 := Lib.hid (HB5.out.trans (hb6.mono HB5.out.size))
    have HO6 := Lib.hid (HO5.out.below hb6)
    have HA6 := Lib.hid (HA5.out.below hb6)
    have HS6 := Lib.hid (HS5.out.below hb6 (Nat.le_refl _))
    have HK6 := Lib.hid ho4
    generalize hkc : WM.bCode K = kc at *
    have HKC := Lib.hid hkc
    clear hkc
    obtain ⟨BK, hBK⟩ : ∃ BK, WM.bList K = BK := ⟨_, rfl⟩
    rw [hBK] at HK6 ho4
    have HBKE := Lib.hid hBK
    obtain ⟨A4, c4, rfl, -, -⟩ := ho4.form
    have hW5 := CoverFault_any HO6.out t (by omega) (HTL.out.below HB6.out htop)
    rw [HC.out] at hW5
    clear hW4 hb6 ho4 hBK
    go_wp2_with fail
    refine hW5.mono ?_
    rintro e w7 ⟨rfl, hb7⟩
    have HB7 := Lib.hid (HB6.out.trans (hb7.mono HB6.out.size))
    have HO7 := Lib.hid (HO6.out.below hb7)
    have HA7 := Lib.hid (HA6.out.below hb7)
    have HS7 := Lib.hid (HS6.out.below hb7 (Nat.le_refl _))
    have HK7 := Lib.hid (HK6.out.below hb7)
    have hW6 := LeaksOf_ok HO7.out t ht2 HVL.out HLR.out HLL.out (HTL.out.below HB7.out htop)
    rw [HKE.out, HKC.out, HBKE.out] at hW6
    clear hW5 hb7
    go_wp2_with fail
    refine hW6.mono ?_
    rintro e w8 ⟨v5, rfl, ho5, hb8⟩
    have HB8 := Lib.hid (HB7.out.trans (hb8.mono HB7.out.size))
    have HO8 := Lib.hid (HO7.out.below hb8)
    have HA8 := Lib.hid (HA7.out.below hb8)
    have HS8 := Lib.hid (HS7.out.below hb8 (Nat.le_refl _))
    have HK8 := Lib.hid (HK7.out.below hb8)
    have HX8 := Lib.hid ho5
    obtain ⟨A5, c5, rfl, -, -⟩ := ho5.form
    have q1 : (kc == kc) = true := by simp
    have q2 : (T.toList == T.toList) = true := by simp
    clear hW6 hb8 ho5
    go_wp2_with fail
    refine (privileges_any _).mono ?_
    rintro e w9 ⟨rfl, hb9⟩
    have HB9 := Lib.hid (HB8.out.trans (hb9.mono HB8.out.size))
    have HO9 := Lib.hid (HO8.out.below hb9)
    have HA9 := Lib.hid (HA8.out.below hb9)
    have HS9 := Lib.hid (HS8.out.below hb9 (Nat.le_refl _))
    have HK9 := Lib.hid (HK8.out.below hb9)
    have HX9 := Lib.hid (HX8.out.below hb9)
    have hW7 := WidenOf_ok HO9.out t ht2 HVL.out HLR.out
    clear hb9
    go_wp2_with fail
    refine hW7.mono ?_
    rintro e w10 ⟨M3, hM3, hM3c, v6, rfl, ho6, hb10⟩
    have hME : M3 = M2 := WM.sep_uniq hM3 HM2.out.1 fun i => (hM3c i).trans (HM2.out.2 i).symm
    subst hME
    have HB10 := Lib.hid (HB9.out.trans (hb10.mono HB9.out.size))
    have HO10 := Lib.hid (HO9.out.below hb10)
    have HS10 := Lib.hid (HS9.out.below hb10 (Nat.le_refl _))
    have HK10 := Lib.hid (HK9.out.below hb10)
    have HX10 := Lib.hid (HX9.out.below hb10)
    have hE1 := EqualI_same (HA9.out.below hb10) ho6
    obtain ⟨A6, c6, rfl, -, -⟩ := ho6.form
    clear hW7 hb10 hM3 hM3c ho6
    go_wp2_with fail
    refine hE1.mono ?_
    rintro e w11 ⟨rfl, qa, rfl⟩
    have HB11 := Lib.hid (below_drewN HB10.out qa)
    have HO11 := Lib.hid (HO10.out.drewN qa)
    have HS11 := Lib.hid (HS10.out.drewN qa)
    have HK11 := Lib.hid (HK10.out.drewN qa)
    have HX11 := Lib.hid (HX10.out.drewN qa)
    have hW8 := RedactOf_ok HO11.out t (by omega) HVL.out HLR.out (HTL.out.below HB11.out htop)
    rw [HTE.out] at hW8
    clear hE1
    generalize w10.drewN qa = w11 at *
    go_wp2_with fail
    refine hW8.mono ?_
    rintro e w12 ⟨rfl, hb12⟩
    have HB12 := Lib.hid (HB11.out.trans (hb12.mono HB11.out.size))
    have HO12 := Lib.hid (HO11.out.below hb12)
    have HS12 := Lib.hid (HS11.out.below hb12 (Nat.le_refl _))
    have HK12 := Lib.hid (HK11.out.below hb12)
    have HX12 := Lib.hid (HX11.out.below hb12)
    have hW9 := SeenOf_ok HO12.out t ht2 HVL.out HLR.out (HTL.out.below HB12.out htop)
    clear hW8 hb12
    go_wp2_with fail
    refine hW9.mono ?_
    rintro e w13 ⟨M4, hM4, v7, rfl, ho7, hb13⟩
    have hSE := WM.seen_same (s := t) HN.out.1 HN.out.2.1 hM4 (fun i hi => by
      rw [Bool.not_eq_true', Bool.eq_false_iff, Ne, PT.covB_iff, ← HCS.out i, ← HN.out.2.2 i])
    rw [← hSE, HSW.out] at ho7
    clear hSE
    have HB13 := Lib.hid (HB12.out.trans (hb13.mono HB12.out.size))
    have HK13 := Lib.hid (HK12.out.below hb13)
    have HX13 := Lib.hid (HX12.out.below hb13)
    have hE2 := EqualS_any (HS12.out.below hb13 (Nat.le_refl _)) ho7 true (decide_eq_true rfl)
    obtain ⟨A7, c7, rfl, -⟩ := ho7.form
    clear hW9 hb13 hM4 ho7
    go_wp2_with fail
    refine hE2.mono ?_
    rintro e w14 ⟨rfl, qb, rfl⟩
    have HB14 := Lib.hid (below_drewN HB13.out qb)
    have hE3 := EqualI_same (HK13.out.drewN qb) (HX13.out.drewN qb)
    clear hE2
    generalize w13.drewN qb = w14 at *
    go_wp2_with fail
    refine hE3.mono ?_
    rintro e w15 ⟨rfl, qc, rfl⟩
    clear hE3
    go_wp2_with fail
    go_ret
    exact ⟨rfl, below_drewN HB14.out qc⟩
  · obtain ⟨c, hce⟩ : ∃ c, cvC t L = c := ⟨_, rfl⟩
    have HC := Lib.hid hce
    rw [hce] at hc
    have q1 : (c == c) = true := by simp
    have hW1 := Widen_bad HO2.out t (by omega) (HTL.out.below HB2.out htop) c hce hc
    clear hce
    go_wp2_with fail
    refine hW1.mono ?_
    rintro e w3 ⟨rfl, hb3⟩
    have HB3 := Lib.hid (HB2.out.trans (hb3.mono HB2.out.size))
    have HO3 := Lib.hid (HO2.out.below hb3)
    have hW2 := Redact_bad HO3.out t (by omega) (HTL.out.below HB3.out htop) c HC.out hc
    clear hW1 hb3
    go_wp2_with fail
    refine hW2.mono ?_
    rintro e w4 ⟨rfl, hb4⟩
    have HB4 := Lib.hid (HB3.out.trans (hb4.mono HB3.out.size))
    have HO4 := Lib.hid (HO3.out.below hb4)
    have hW3 := Seen_bad HO4.out t (by omega) (HTL.out.below HB4.out htop) c HC.out hc
    clear hW2 hb4
    go_wp2_with fail
    refine hW3.mono ?_
    rintro e w5 ⟨rfl, hb5⟩
    have HB5 := Lib.hid (HB4.out.trans (hb5.mono HB4.out.size))
    have HO5 := Lib.hid (HO4.out.below hb5)
    have hW4 := Leaks_bad HO5.out t (by omega) (HTL.out.below HB5.out htop) c HC.out hc
    clear hW3 hb5
    go_wp2_with fail
    refine hW4.mono ?_
    rintro e w6 ⟨rfl, hb6⟩
    have HB6 := Lib.hid (HB5.out.trans (hb6.mono HB5.out.size))
    have HO6 := Lib.hid (HO5.out.below hb6)
    have hW5 := CoverFault_any HO6.out t (by omega) (HTL.out.below HB6.out htop)
    rw [HC.out] at hW5
    clear hW4 hb6
    go_wp2_with fail
    refine hW5.mono ?_
    rintro e w7 ⟨rfl, hb7⟩
    have HB7 := Lib.hid (HB6.out.trans (hb7.mono HB6.out.size))
    clear hW5 hb7
    go_wp2_with fail
    refine (privileges_any _).mono ?_
    rintro e w8 ⟨rfl, hb8⟩
    have HB8 := Lib.hid (HB7.out.trans (hb8.mono HB7.out.size))
    clear hb8
    go_wp2_with fail
    go_ret
    exact ⟨rfl, HB8.out⟩
end Go.Proofs.YtdmgfkgfcofmhaaDoor
