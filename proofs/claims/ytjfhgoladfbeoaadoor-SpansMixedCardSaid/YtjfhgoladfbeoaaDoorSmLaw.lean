/- The law SpansMixed. -/
import Derived.Test.YtjfhgoladfbeoaaDoorMixed
import Derived.Test.YtjfhgoladfbeoaaDoorWithout
import Derived.Test.YtjfhgoladfbeoaaDoorEqualI
import Derived.Test.YtjfhgoladfbeoaaDoorSpMake
import Derived.Test.YtjfhgoladfbeoaaDoorPriv
import Derived.Test.YtjfhgoladfbeoaaDoorInts
namespace WM
/-- the right spans that have C -/
noncomputable def canon (C : Int → Prop) : List (Int × Int) := Classical.epsilon fun M => sep M ∧ ∀ i, cov M i ↔ C i
theorem canon_eq {C : Int → Prop} {M : List (Int × Int)} (h1 : sep M) (h2 : ∀ i, cov M i ↔ C i) : M = canon C := by
  have h := Classical.epsilon_spec (p := fun M => sep M ∧ ∀ i, cov M i ↔ C i) ⟨M, h1, h2⟩
  exact sep_uniq h1 h.1 fun i => (h2 i).trans (h.2 i).symm
/-- what Union and Without answer -/
noncomputable def resL (z : Int) (X Y : List (Int × Int)) (wo : Bool) : List (Int × Int) := if orC (spFault z X) (spFault z Y) = 0 then bList (canon (mixC wo X Y)) else []
noncomputable def resC (z : Int) (X Y : List (Int × Int)) (wo : Bool) : Int := if orC (spFault z X) (spFault z Y) = 0 then bCode (canon (mixC wo X Y)) else orC (spFault z X) (spFault z Y)
theorem orC_zero {a b : Int} (h : orC a b = 0) : a = 0 ∧ b = 0 := by
  unfold orC at h
  split at h
  · exact ⟨‹_›, h⟩
  · exact absurd h ‹_›
end WM
namespace Go.Proofs.YtjfhgoladfbeoaaDoor
open Go.RowKit

theorem mix_says {C : Int → Prop} {w : World} {e : Ending} {w' : World} (h : MixSays C w e w') : SpSays (WM.bList (WM.canon C)) (WM.bCode (WM.canon C)) w e w' := by
  obtain ⟨M, h1, h2, h3⟩ := h
  rw [← WM.canon_eq h1 h2]
  exact h3
theorem res_ok {z : Int} {X Y : List (Int × Int)} {wo : Bool} {w : World} {e : Ending} {w' : World} (h0 : WM.orC (WM.spFault z X) (WM.spFault z Y) = 0) (h : MixSays (WM.mixC wo X Y) w e w') : SpSays (WM.resL z X Y wo) (WM.resC z X Y wo) w e w' := by
  unfold WM.resL WM.resC
  rw [if_pos h0, if_pos h0]
  exact mix_says h
theorem res_bad {z : Int} {X Y : List (Int × Int)} {wo : Bool} {w : World} {e : Ending} {w' : World} (h0 : WM.orC (WM.spFault z X) (WM.spFault z Y) ≠ 0) (h : SpSays [] (WM.orC (WM.spFault z X) (WM.spFault z Y)) w e w') : SpSays (WM.resL z X Y wo) (WM.resC z X Y wo) w e w' := by
  unfold WM.resL WM.resC
  rw [if_neg h0, if_neg h0]
  exact h
theorem Union_any {w : World} {b1 b2 : Nat} {v1 v2 : Value} {X Y : List (Int × Int)} (h1 : OwnI w b1 v1 X) (h2 : OwnI w b2 v2 Y) (z : Int) : Calls Tryd.prog 8 #[v1, v2, .int .i64 z] w (SpSays (WM.resL z X Y false) (WM.resC z X Y false) w) := by
  by_cases h0 : WM.orC (WM.spFault z X) (WM.spFault z Y) = 0
  · obtain ⟨a, b⟩ := WM.orC_zero h0
    refine (Union_ok h1 h2 z a b).mono fun e w' h => res_ok h0 ?_
    exact h
  · exact (Union_bad h1 h2 z _ rfl h0).mono fun e w' h => res_bad h0 h
theorem Without_any {w : World} {b1 b2 : Nat} {v1 v2 : Value} {X Y : List (Int × Int)} (h1 : OwnI w b1 v1 X) (h2 : OwnI w b2 v2 Y) (z : Int) : Calls Tryd.prog 9 #[v1, v2, .int .i64 z] w (SpSays (WM.resL z X Y true) (WM.resC z X Y true) w) := by
  by_cases h0 : WM.orC (WM.spFault z X) (WM.spFault z Y) = 0
  · obtain ⟨a, b⟩ := WM.orC_zero h0
    refine (Without_ok h1 h2 z a b).mono fun e w' h => res_ok h0 ?_
    exact h
  · exact (Without_bad h1 h2 z _ rfl h0).mono fun e w' h => res_bad h0 h
theorem MixedOf_any {w : World} {b1 b2 : Nat} {v1 v2 : Value} {X Y : List (Int × Int)} (h1 : OwnI w b1 v1 X) (h2 : OwnI w b2 v2 Y) (z : Int) (wo : Bool) : Calls Tryd.prog 10 #[v1, v2, .int .i64 z, .bool wo] w (SpSays (WM.resL z X Y wo) (WM.resC z X Y wo) w) := by
  by_cases h0 : WM.orC (WM.spFault z X) (WM.spFault z Y) = 0
  · obtain ⟨a, b⟩ := WM.orC_zero h0
    exact (MixedOf_ok h1 h2 z wo a b).mono fun e w' h => res_ok h0 h
  · exact (MixedOf_bad h1 h2 z _ wo rfl h0).mono fun e w' h => res_bad h0 h
theorem below_onlyI {B : Nat} {a w w' : World} {g : Nat} (h : Below B a w) (hg : w.grownBy w' (some g)) (hB : B ≤ w.heap.size) (hgB : B ≤ g) : Below B a w' := h.grown hg hB (fun k hk => by injection hk with hk; omega)
/-- true is answered; what lay, lies -/
def SaysTr (w : World) (e : Ending) (w' : World) : Prop := e = .returned (.bool true) ∧ Below w.heap.size w w'
set_option maxHeartbeats 8000000 in
theorem SpansMixed_any (A : Option Addr) (n cap : Nat) (w : World) (hl : Ints w w.heap.size A n) :
    Calls Tryd.prog 3 #[.slice A n cap] w (SaysTr w) := by
  have hst := hl.strm (cap := cap)
  clear hl
  have hb0 : Below w.heap.size w (w.alloc (.cells #[.slice A n cap, .int .i64 0] 25)) := (Below.refl _ _).alloc (Nat.le_refl _) _
  have hP := pick_new 7 [.int .i64 0, .int .i64 5, .int .i64 20, .int .i64 40, .int .i64 200000, .int .i64 (-1), .int .i64 200001] (-1) 200001 3 w.heap.size w.heap.size 0 _ hst rfl (by omega) (by omega) (by decide) (by omega)
  rw [show (w.alloc (.cells #[.slice A n cap, .int .i64 0] 25)).heap.size = w.heap.size + 1 from by simp] at hP
  have HB0 := Lib.hid hb0
  clear hst hb0
  go_enter Tryd.func3, Tryd.ntmps3
  go_wp2_with fail
  refine hP.mono ?_
  rintro e w1 ⟨z, hz1, hz2, rfl, ⟨k1, hk1, hs1⟩, hg1⟩
  have HB1 := Lib.hid (below_onlyI HB0.out hg1 HB0.out.size (Nat.le_refl _))
  obtain ⟨m, hm⟩ : ∃ m : Int, max z 0 = m := ⟨_, rfl⟩
  have hm1 : 0 ≤ m := by omega
  have hm2 : m ≤ 1000000 := by omega
  have hlt1 := hs1.lt
  clear hP hg1 hz1 hz2
  go_wp2_with fail
  refine (AnySpans_any m hm1 hm2 w.heap.size w.heap.size k1 (by omega) _ hs1).mono ?_
  rintro e w2 ⟨v1, X, rfl, hX, ho1, ⟨k2, hk2, hs2⟩, hg2⟩
  have HB2 := Lib.hid (below_onlyI HB1.out hg2 HB1.out.size (Nat.le_refl _))
  have HO1 := Lib.hid ho1
  have hlt2 := hs2.lt
  clear hs1 hg2 ho1 hX
  go_wp2_with fail
  refine (AnySpans_any m hm1 hm2 w.heap.size w.heap.size k2 (by omega) _ hs2).mono ?_
  rintro e w3 ⟨v2, Y, rfl, hY, ho2, -, hg3⟩
  have HB3 := Lib.hid (below_onlyI HB2.out hg3 HB2.out.size (Nat.le_refl _))
  have HO := Lib.hid (And.intro (HO1.out.grown hg3 (fun q hq => by have := HO1.out.base_le q hq; intro h; injection h; omega)) ho2)
  clear hs2 hg3 ho2 hY hk1 hk2 hm1 hm2 HO1 hlt1 hlt2
  obtain ⟨A1, c1, rfl, -, -⟩ := HO.out.1.form
  obtain ⟨A2, c2, rfl, -, -⟩ := HO.out.2.form
  have hC := CheckSpans_any HO.out.1 z
  obtain ⟨c, hc⟩ : ∃ c, WM.spFault z X = c := ⟨_, rfl⟩
  rw [hc] at hC
  have HC := Lib.hid hc
  clear hc
  go_wp2_with fail
  refine hC.mono ?_
  rintro e w4 ⟨rfl, hb4⟩
  have hF := SpansFault_any (HO.out.1.below hb4) z
  rw [HC.out] at hF
  have HB4 := Lib.hid (HB3.out.trans (hb4.mono HB3.out.size))
  have HO4 := Lib.hid (And.intro (HO.out.1.below hb4) (HO.out.2.below hb4))
  have hcc : (c != c) = false := by simp
  clear hC hb4
  go_wp2_with fail
  refine hF.mono ?_
  rintro e w5 ⟨rfl, hb5⟩
  have HB5 := Lib.hid (HB4.out.trans (hb5.mono HB4.out.size))
  have HO5 := Lib.hid (And.intro (HO4.out.1.below hb5) (HO4.out.2.below hb5))
  have hU := Union_any HO5.out.1 HO5.out.2 z
  obtain ⟨L1, hL1⟩ : ∃ L, WM.resL z X Y false = L := ⟨_, rfl⟩
  obtain ⟨d1, hd1⟩ : ∃ d, WM.resC z X Y false = d := ⟨_, rfl⟩
  obtain ⟨L2, hL2⟩ : ∃ L, WM.resL z X Y true = L := ⟨_, rfl⟩
  obtain ⟨d2, hd2⟩ : ∃ d, WM.resC z X Y true = d := ⟨_, rfl⟩
  rw [hL1, hd1] at hU
  have HL := Lib.hid (And.intro (And.intro hL1 hd1) (And.intro hL2 hd2))
  clear hF hb5 hcc hL1 hd1 hL2 hd2
  go_wp2_with fail
  refine hU.mono ?_
  rintro e w6 ⟨v6, rfl, ho6, hb6⟩
  have HB6 := Lib.hid (HB5.out.trans (hb6.mono HB5.out.size))
  have HO6 := Lib.hid (And.intro (HO5.out.1.below hb6) (HO5.out.2.below hb6))
  have HV6 := Lib.hid ho6
  have hW := Without_any HO6.out.1 HO6.out.2 z
  rw [HL.out.2.1, HL.out.2.2] at hW
  clear hU hb6 ho6
  go_wp2_with fail
  refine hW.mono ?_
  rintro e w7 ⟨v7, rfl, ho7, hb7⟩
  have HB7 := Lib.hid (HB6.out.trans (hb7.mono HB6.out.size))
  have HO7 := Lib.hid (And.intro (HO6.out.1.below hb7) (HO6.out.2.below hb7))
  have HV7 := Lib.hid (And.intro (HV6.out.below hb7) ho7)
  have hM := MixedOf_any HO7.out.1 HO7.out.2 z false
  rw [HL.out.1.1, HL.out.1.2] at hM
  clear hW hb7 ho7
  go_wp2_with fail
  refine hM.mono ?_
  rintro e w8 ⟨v8, rfl, ho8, hb8⟩
  have HB8 := Lib.hid (HB7.out.trans (hb8.mono HB7.out.size))
  have HO8 := Lib.hid (And.intro (HO7.out.1.below hb8) (HO7.out.2.below hb8))
  have HV8 := Lib.hid (And.intro (HV7.out.1.below hb8) (And.intro (HV7.out.2.below hb8) ho8))
  have hN := MixedOf_any HO8.out.1 HO8.out.2 z true
  rw [HL.out.2.1, HL.out.2.2] at hN
  clear hM hb8 ho8
  go_wp2_with fail
  refine hN.mono ?_
  rintro e w9 ⟨v9, rfl, ho9, hb9⟩
  have HB9 := Lib.hid (HB8.out.trans (hb9.mono HB8.out.size))
  have HV9 := Lib.hid (And.intro (HV8.out.1.below hb9) (And.intro (HV8.out.2.1.below hb9) (And.intro (HV8.out.2.2.below hb9) ho9)))
  have q1 : (d1 == d1) = true := by simp
  have q2 : (d2 == d2) = true := by simp
  clear hN hb9 ho9
  go_wp2_with fail
  refine (privileges_any _).mono ?_
  rintro e w10 ⟨rfl, hb10⟩
  have HB10 := Lib.hid (HB9.out.trans (hb10.mono HB9.out.size))
  have HV10 := Lib.hid (And.intro (And.intro (HV9.out.1.below hb10) (HV9.out.2.2.1.below hb10)) (And.intro (HV9.out.2.1.below hb10) (HV9.out.2.2.2.below hb10)))
  have hE := EqualI_same HV10.out.1.1 HV10.out.1.2
  clear hb10
  go_wp2_with fail
  refine hE.mono ?_
  rintro e w11 ⟨rfl, q, rfl⟩
  have hE2 := EqualI_same (HV10.out.2.1.drewN q) (HV10.out.2.2.drewN q)
  clear hE
  go_wp2_with fail
  refine hE2.mono ?_
  rintro e w12 ⟨rfl, r, rfl⟩
  clear hE2
  go_wp2_with fail
  go_ret
  exact ⟨rfl, below_drewN HB10.out (q + r)⟩
end Go.Proofs.YtjfhgoladfbeoaaDoor
