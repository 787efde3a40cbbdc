/- The law LeaksEnd. -/
import Derived.Test.YtdaichgcnklncaaDoorLkM
import Derived.Test.YtdaichgcnklncaaDoorWiden
import Derived.Test.YtdaichgcnklncaaDoorSpMakeR
import Derived.Test.YtdaichgcnklncaaDoorUnion
import Derived.Test.YtdaichgcnklncaaDoorEqualI
import Derived.Test.YtdaichgcnklncaaDoorMemoP
import Derived.Test.YtdaichgcnklncaaDoorPriv
import Derived.Test.YtdaichgcnklncaaDoorInts
import Derived.Test.YtdaichgcnklncaaDoorCanon
namespace Go.Proofs.YtdaichgcnklncaaDoor
open Go.RowKit

theorem below_onlyC {B : Nat} {a w w' : World} {g : Nat} (h : Below B a w) (hg : w.grownBy w' (some g)) (hB : B ≤ w.heap.size) (hgB : B ≤ g) : Below B a w' := h.grown hg hB (fun k hk => by injection hk with hk; omega)
theorem right_fault {n z : Int} {L : List (Int × Int)} (h : RightI n L) (hn : 0 ≤ n) (hn2 : n ≤ 1000) (hnz : n ≤ z) (hz : z ≤ 200000) : WM.spFault z L = 0 := by
  have := WM.sep_size h.1 h.2 hn
  exact WM.spFault_of (by omega) hz (by omega) h.1 fun s hs => ⟨(h.2 s hs).1, by have := (h.2 s hs).2; omega⟩
/-- right spans with C are answered, and no fault -/
def MixR (n : Int) (C : Int → Prop) (w : World) (e : Ending) (w' : World) : Prop := ∃ v M, e = .returned (.tuple #[v, .int .i64 0]) ∧ RightI n M ∧ (∀ i, WM.cov M i ↔ C i) ∧ OwnI w' w.heap.size v M ∧ Below w.heap.size w w'
theorem mix_right {n : Int} {C : Int → Prop} {w w' : World} {e : Ending} (hn : 0 ≤ n) (hn2 : n ≤ 1000) (hC : ∀ i, C i → 0 ≤ i ∧ i < n) (h : MixSays C w e w') : MixR n C w e w' := by
  obtain ⟨M, h1, h2, v, rfl, h3, h4⟩ := h
  obtain ⟨-, r2, r3⟩ := WM.right_of (z := n) h1 (fun i hi => hC i ((h2 i).1 hi)) hn hn2 (by omega) (by omega)
  rw [r2]
  rw [r3] at h3
  exact ⟨v, M, rfl, ⟨h1, WM.cov_in h1 fun i hi => hC i ((h2 i).1 hi)⟩, h2, h3, h4⟩
theorem Union_right {w : World} {b1 b2 : Nat} {v1 v2 : Value} {X Y : List (Int × Int)} (h1 : OwnI w b1 v1 X) (h2 : OwnI w b2 v2 Y) {n z : Int} (hX : RightI n X) (hY : RightI n Y) (hn : 0 ≤ n) (hn2 : n ≤ 1000) (hnz : n ≤ z) (hz : z ≤ 200000) : Calls Tryd.prog 10 #[v1, v2, .int .i64 z] w (MixR n (fun i => WM.cov X i ∨ WM.cov Y i) w) :=
  (Union_ok h1 h2 z (right_fault hX hn hn2 hnz hz) (right_fault hY hn hn2 hnz hz)).mono fun _ _ h => mix_right hn hn2 (fun i hi => hi.elim (WM.in_cov hX.2 i) (WM.in_cov hY.2 i)) h
/-- spans that end between words -/
def RightE (t : ByteArray) (L : List (Int × Int)) : Prop := RightI t.size L ∧ WM.WEnds t.data.toList t.size L
def WideE (t : ByteArray) (D : Int → Prop) (w : World) (e : Ending) (w' : World) : Prop := ∃ v M, e = .returned (.tuple #[v, .int .i64 0]) ∧ RightE t M ∧ (∀ i, WM.cov M i ↔ D i) ∧ OwnI w' w.heap.size v M ∧ Below w.heap.size w w'
theorem Widen_right {w : World} {b : Nat} {v : Value} {L : List (Int × Int)} (h : OwnI w b v L) (t : ByteArray) (hB : TB.bodyC t = 0) {n : Int} (hL : RightI n L) (hn : 0 ≤ n) (hnt : n ≤ t.size) (ht : t.size ≤ 1000) (hT : LibV w) :
    Calls Tryd.prog 7 #[.string t, v] w (WideE t (WM.cov (L.map (PT.st (PT.wl t.data.toList)))) w) := by
  have hl : t.data.toList.length = t.size := by simp
  refine (Widen_ok h t hB (right_fault hL hn (by omega) hnt (by omega)) hT).mono ?_
  rintro e w' ⟨v', M, rfl, hM, hc, ho, hb⟩
  have hE := WM.st_ends (l := t.data.toList) (L := L) fun x hx => by have := hL.2 x hx; have := WM.sep_ne hL.1 x hx; omega
  rw [hl] at hE
  have hin := WM.cov_in (n := t.size) hM fun i hi => by
    obtain ⟨x, hx, h1, h2⟩ := (hc i).1 hi
    have := hE x hx
    omega
  exact ⟨v', M, rfl, ⟨⟨hM, hin⟩, WM.ends_of hM hin (hE.wa.or hE.wa fun i => (hc i).trans ⟨.inl, fun h => h.elim id id⟩)⟩, hc, ho, hb⟩
theorem Widen_same {w : World} {b : Nat} {v : Value} {L : List (Int × Int)} (h : OwnI w b v L) (t : ByteArray) (hB : TB.bodyC t = 0) (hL : RightE t L) (ht : t.size ≤ 1000) (hT : LibV w) :
    Calls Tryd.prog 7 #[.string t, v] w fun e w' => ∃ v', e = .returned (.tuple #[v', .int .i64 0]) ∧ OwnI w' w.heap.size v' L ∧ Below w.heap.size w w' := by
  refine (Widen_right h t hB hL.1 (by omega) (Int.le_refl _) ht hT).mono ?_
  rintro e w' ⟨v', M, rfl, hM, hc, ho, hb⟩
  rw [WM.ends_st hL.2] at hc
  rw [WM.sep_uniq hM.1.1 hL.1.1 hc] at ho
  exact ⟨v', rfl, ho, hb⟩
/-- what Leaks answers at such spans -/
def lks (t : ByteArray) (L : List (Int × Int)) : List (Int × Int) := leaksL (WM.hid t L) L (WM.qwords t)
theorem lks_right (t : ByteArray) (L : List (Int × Int)) : RightE t (lks t L) :=
  ⟨⟨leaks_sep t _ _, fun x hx => by have := leaks_ends t (WM.hid t L) L x hx; omega⟩, leaks_ends t _ _⟩
theorem Leaks_right {w : World} {b : Nat} {v : Value} {L : List (Int × Int)} (h : OwnI w b v L) (t : ByteArray) (hB : TB.bodyC t = 0) (hL : RightE t L) (ht : t.size ≤ 1000) (hT : LibV w) :
    Calls Tryd.prog 9 #[.string t, v] w fun e w' => ∃ v', e = .returned (.tuple #[v', .int .i64 0]) ∧ OwnI w' w.heap.size v' (lks t L) ∧ Below w.heap.size w w' := by
  have hk := Leaks_ok h t hB (right_fault hL.1 (by omega) (by omega) (Int.le_refl _) (by omega)) hT
  rw [WM.ends_stc (PT.body_valid hB).2 hL.2] at hk
  have hr := (lks_right t L).1
  obtain ⟨-, r2, r3⟩ := WM.right_of (z := t.size) hr.1 (WM.in_cov hr.2) (by omega) (by omega) (Int.le_refl _) (by omega)
  unfold lks at r2 r3
  rw [r2, r3] at hk
  refine hk.mono ?_
  rintro e w' ⟨v', rfl, ho, hb⟩
  exact ⟨v', rfl, ho, hb⟩
set_option maxHeartbeats 16000000 in
set_option maxRecDepth 100000 in
theorem LeaksEnd_any (A : Option Addr) (n cap : Nat) (w : World) (hl : Ints w w.heap.size A n) (hT : LibV w) :
    Calls Tryd.prog 3 #[.slice A n cap] w (SaysTr w) := by
  have hst := hl.strm (cap := cap)
  clear hl
  have HTL := Lib.hid hT
  have htop := hT.2
  have HB0 := Lib.hid ((Below.refl w.heap.size w).alloc (Nat.le_refl _) (.cells #[.slice A n cap, .int .i64 0] 25))
  clear hT
  go_enter Tryd.func3, Tryd.ntmps3
  go_wp2_with fail
  refine (MemoP_any w.heap.size w.heap.size 0 (by omega) _ hst).mono ?_
  rintro e w1 ⟨t, ht, rfl, ⟨k1, hk1, hs1⟩, hg1⟩
  have HB1 := Lib.hid (below_onlyC HB0.out hg1 HB0.out.size (Nat.le_refl _))
  have HS1 := Lib.hid (And.intro hs1 hk1)
  have hF := BodyFault_any t (by unfold MemoS at ht; omega) w1 (HTL.out.below HB1.out htop)
  clear hst hg1 hs1 hk1
  by_cases hbc : TB.bodyC t = 0
  · rw [hbc] at hF
    have HBC := Lib.hid hbc
    have ht2 := (PT.body_valid hbc).1
    have ht3 : t.size ≤ 1000 := by unfold MemoS at ht; omega
    clear hbc ht ht2
    go_wp2_with fail
    refine hF.mono ?_
    rintro e w2 ⟨rfl, hb2⟩
    have HB2 := Lib.hid (HB1.out.trans (hb2.mono HB1.out.size))
    have hs2 := HS1.out.1.below hb2 HS1.out.1.lt
    have hlt2 := hs2.lt
    obtain ⟨m, hm⟩ : ∃ m : Nat, min (t.size : Int) 50 = (m : Int) := ⟨min t.size 50, by omega⟩
    have hm1 : (m : Int) ≤ t.size := by omega
    have hm2 : (m : Int) ≤ 50 := by omega
    have hk1 := HS1.out.2
    clear hF hb2
    go_wp2_with fail
    refine (SpanListR_any m (by omega) (by omega) w.heap.size w.heap.size k1 (by omega) _ hs2).mono ?_
    rintro e w3 ⟨v1, X, rfl, -, hX, ho1, -, hg3⟩
    have HB3 := Lib.hid (below_onlyC HB2.out hg3 HB2.out.size (Nat.le_refl _))
    have hW := Widen_right ho1 t HBC.out hX (by omega) hm1 ht3 (HTL.out.below HB3.out htop)
    generalize WM.cov (X.map (PT.st (PT.wl t.data.toList))) = D at hW
    obtain ⟨A1, c1, rfl, -, -⟩ := ho1.form
    clear hs2 hg3 ho1 hX hlt2 hk1 HS1
    go_wp2_with fail
    refine hW.mono ?_
    rintro e w4 ⟨v2, a, rfl, ha, -, ho2, hb4⟩
    have HB4 := Lib.hid (HB3.out.trans (hb4.mono HB3.out.size))
    have HA := Lib.hid ha
    have HO4 := Lib.hid ho2
    obtain ⟨A2, c2, rfl, -, -⟩ := ho2.form
    have hK := Leaks_right HO4.out t HBC.out ha ht3 (HTL.out.below HB4.out htop)
    clear hW ha ho2 hb4
    go_wp2_with fail
    refine hK.mono ?_
    rintro e w5 ⟨v3, rfl, ho3, hb5⟩
    have HB5 := Lib.hid (HB4.out.trans (hb5.mono HB4.out.size))
    have HO5 := Lib.hid (And.intro (HO4.out.below hb5) ho3)
    have hKR := lks_right t a
    obtain ⟨K, hKe⟩ : ∃ K, lks t a = K := ⟨_, rfl⟩
    have HKE := Lib.hid hKe
    rw [hKe] at ho3 hKR
    have HO5 : Hid (OwnI w5 w3.heap.size (.slice A2 a.length c2) a ∧ OwnI w5 w4.heap.size v3 K) := Lib.hid ⟨HO5.out.1, ho3⟩
    obtain ⟨A3, c3, rfl, -, -⟩ := ho3.form
    have hU := Union_right HO5.out.1 HO5.out.2 (z := t.size) HA.out.1 hKR.1 (by omega) (by omega) (Int.le_refl _) (by omega)
    have HKR := Lib.hid hKR
    clear hK ho3 hb5 hKe hKR
    go_wp2_with fail
    refine hU.mono ?_
    rintro e w6 ⟨v4, u, rfl, hu, huc, ho4, hb6⟩
    have HB6 := Lib.hid (HB5.out.trans (hb6.mono HB5.out.size))
    have hue : RightE t u := ⟨hu, WM.ends_of hu.1 hu.2 (HA.out.2.wa.or HKR.out.2.wa huc)⟩
    have hend : lks t u = [] := leaks_end HA.out.2 hue.2 fun i => by rw [huc i, ← HKE.out]; rfl
    have HUE := Lib.hid hue
    have HO6 := Lib.hid ho4
    have hK := Leaks_right ho4 t HBC.out hue ht3 (HTL.out.below HB6.out htop)
    rw [hend] at hK
    obtain ⟨A4, c4, rfl, -, -⟩ := ho4.form
    clear hU hu huc ho4 hb6 hue hend
    go_wp2_with fail
    refine hK.mono ?_
    rintro e w7 ⟨v5, rfl, ho5, hb7⟩
    have HB7 := Lib.hid (HB6.out.trans (hb7.mono HB6.out.size))
    have HO7 := Lib.hid (HO6.out.below hb7)
    obtain ⟨A5, c5, rfl, -, -⟩ := ho5.form
    have hW := Widen_same HO7.out t HBC.out HUE.out ht3 (HTL.out.below HB7.out htop)
    clear hK ho5 hb7
    go_wp2_with fail
    refine hW.mono ?_
    rintro e w8 ⟨v6, rfl, ho6, hb8⟩
    have HB8 := Lib.hid (HB7.out.trans (hb8.mono HB7.out.size))
    have HO8 := Lib.hid (And.intro ho6 (HO7.out.below hb8))
    obtain ⟨A6, c6, rfl, -, -⟩ := ho6.form
    clear hW ho6 hb8
    go_wp2_with fail
    refine (privileges_any _).mono ?_
    rintro e w9 ⟨rfl, hb9⟩
    have HB9 := Lib.hid (HB8.out.trans (hb9.mono HB8.out.size))
    have hE := EqualI_same (HO8.out.1.below hb9) (HO8.out.2.below hb9)
    clear hb9
    go_wp2_with fail
    refine hE.mono ?_
    rintro e w10 ⟨rfl, q, rfl⟩
    clear hE
    go_wp2_with fail
    go_ret
    exact ⟨rfl, below_drewN HB9.out q⟩
  · have hcb : (TB.bodyC t != 0) = true := bne_iff_ne.2 hbc
    generalize TB.bodyC t = c at *
    clear hbc ht
    go_wp2_with fail
    refine hF.mono ?_
    rintro e w2 ⟨rfl, hb2⟩
    have HB2 := Lib.hid (HB1.out.trans (hb2.mono HB1.out.size))
    clear hF hb2
    go_wp2_with fail
    refine (privileges_any _).mono ?_
    rintro e w9 ⟨rfl, hb9⟩
    have HB9 := Lib.hid (HB2.out.trans (hb9.mono HB2.out.size))
    clear hb9
    go_wp2_with fail
    go_ret
    exact ⟨rfl, HB9.out⟩
end Go.Proofs.YtdaichgcnklncaaDoor
