/- The makers of numbers, and the law NumbersWritten. -/
import Derived.Test.YtppbjekfagnleaaDoorNumC
import Derived.Test.YtppbjekfagnleaaDoorOne0
import Derived.Test.YtppbjekfagnleaaDoorPick
import Derived.Test.YtppbjekfagnleaaDoorRange
import Derived.Test.YtppbjekfagnleaaDoorFlip
import Derived.Test.YtppbjekfagnleaaDoorInts
namespace NM
theorem numT_size (s : ByteArray) (d n : Int) : (numT s d n).size ≤ s.size + 9 := by
  unfold numT
  split
  · rename_i h
    unfold numC at h
    split at h
    · rename_i hs
      have hd : 4 ≤ d ∧ d ≤ 9 := by
        unfold serC at hs
        split at hs
        · split at hs
          · cases hs
          · omega
        · cases hs
      split at h
      · cases h
      · rw [ByteArray.size_append]
        show s.size + (pad d.toNat n.toNat).toArray.size ≤ _
        rw [List.size_toArray, pad_len _ _ (by omega) (by omega)]
        omega
    · rename_i h2; exact absurd h h2
  · show 0 ≤ _
    omega
theorem num_ab7 : numC ⟨#[65, 66]⟩ 4 7 = 0 ∧ numT ⟨#[65, 66]⟩ 4 7 = ⟨#[65, 66, 48, 48, 48, 55]⟩ := by
  have h0 : serC ⟨#[65, 66]⟩ 4 = 0 := by decide
  have h := numC_ok (s := ⟨#[65, 66]⟩) (d := 4) (n := 7) h0 (by omega) (by decide)
  refine ⟨h.1, ?_⟩
  rw [h.2]
  unfold pad
  rw [show (7 : Int).toNat = 7 from rfl, dig_one (by omega : 7 < 10)]
  rfl
end NM
namespace Go.Proofs.YtppbjekfagnleaaDoor
open Go.RowKit

theorem below_onlyN {B : Nat} {a w w' : World} {g : Nat} (h : Below B a w) (hg : w.grownBy w' (some g)) (hB : B ≤ w.heap.size) (hgB : B ≤ g) : Below B a w' := h.grown hg hB (fun k hk => by injection hk with hk; omega)
theorem only_belowN {a w w' : World} {g : Nat} (hg : a.grownBy w (some g)) (h : Below w.heap.size w w') : a.grownBy w' (some g) := hg.trans ⟨h.os, h.tape, h.output, h.size, fun k hk _ => h.block k hk⟩
def pfxV : List Value := [.string ⟨#[65, 66]⟩, .string ⟨#[65, 66]⟩, .string ⟨#[67, 68, 69]⟩]
def preV : List Value := [.string ⟨#[65, 66]⟩, .string ⟨#[65]⟩, .string ⟨#[65, 66, 67, 68, 69, 70, 71, 72]⟩, .string ⟨#[65, 66, 67, 68, 69, 70, 71, 72, 73]⟩, .string ⟨#[]⟩, .string ⟨#[97]⟩]
def nmsV : List Value := [.string ⟨#[]⟩, .string ⟨#[65, 66]⟩, .string ⟨#[65, 66, 48, 48, 49]⟩, .string ⟨#[65, 66, 48, 48, 48, 48]⟩, .string ⟨#[97, 98, 48, 48, 48, 49]⟩, .string ⟨#[65, 66, 48, 48, 48, 48, 49]⟩, .string ⟨#[65, 66, 48, 48, 48, 49, 32]⟩, .string ⟨#[65, 66, 67, 68, 69, 70, 71, 72, 73, 48, 48, 48, 49]⟩, .string ⟨#[65, 49, 66, 48, 48, 48, 49]⟩, .string ⟨#[65, 66, 48, 48, 48, 48, 48, 48, 48, 48, 48, 49]⟩, .string ⟨#[48, 48, 48, 49]⟩, .string ⟨#[65, 66, 57, 57, 57, 57, 57, 57, 57, 57, 57, 57]⟩]
set_option maxHeartbeats 4000000 in
theorem NumberText_any (B g k : Nat) (hk : k < 100000000000) (w : World) (hs : Strm w B g k) (hV : NumV w) (hB : numTop ≤ B) :
    Calls Tryd.prog 8 #[.pointer (some ⟨g, 0, none⟩)] w (TookS 100 B g (k + 10) w) := by
  have hlt := hs.lt
  have hBg := hs.le
  have HK := Lib.hid hk
  have HV := Lib.hid hV
  have hP := one_new 3 pfxV 3 9 B g k w hs rfl (by omega) (by omega) (by decide) (by omega)
  clear hs hV
  go_enter Tryd.func8, Tryd.ntmps8
  go_wp2_with fail
  refine hP.mono ?_
  rintro e w1 ⟨s, hs3, rfl, ⟨k1, hk1, hs1⟩, hg1⟩
  have hP2 := pick_new 3 [.int .i64 4, .int .i64 4, .int .i64 6] 4 6 3 B g k1 w1 hs1 rfl (by omega) (by omega) (by decide) (by omega)
  have H1 := Lib.hid (And.intro hg1 hk1)
  have HS := Lib.hid hs3
  clear hP hs1 hg1 hk1 hs3
  go_wp2_with fail
  refine hP2.mono ?_
  rintro e w2 ⟨d, hd1, hd2, rfl, ⟨k2, hk2, hs2⟩, hg2⟩
  have hR := Range_any 1 8 (by omega) (by omega) (by omega) B g k2 (by have := H1.out.2; omega) w2 hs2
  have H2 := Lib.hid (And.intro (H1.out.1.trans hg2) (show k2 ≤ k + 2 by have := H1.out.2; omega))
  clear hP2 hs2 hg2 hk2 hd1 hd2
  go_wp2_with fail
  refine hR.mono ?_
  rintro e w3 ⟨n, hn1, hn2, rfl, hs3, hg3⟩
  have H3 := Lib.hid (And.intro (H2.out.1.trans hg3) hs3)
  have hB3 : Below B w w3 := ((Below.refl B w).grown H3.out.1 (by omega) (fun q hq => by injection hq; omega))
  have hN := NumberOf_any s d n (by have := HS.out; omega) w3 (HV.out.below hB3 hB)
  have hz := NM.numT_size s d n
  unfold NumSays at hN
  generalize NM.numC s d n = c at *
  generalize NM.numT s d n = T at *
  have HZ := Lib.hid (show T.size ≤ 100 by have := HS.out; omega)
  clear hR hs3 hg3 hB3 hz hn1 hn2
  go_wp2_with fail
  refine hN.mono ?_
  rintro e w4 ⟨rfl, hb4⟩
  have H4 := Lib.hid (And.intro (only_belowN H3.out.1 hb4) (H3.out.2.below hb4 H3.out.2.lt))
  clear hN hb4
  by_cases hc : c = 0
  · subst hc
    have hF := Flip_any 8 (by omega) (by omega) B g (k2 + 1) (by have := H2.out.2; omega) w4 H4.out.2
    go_wp2_with fail
    refine hF.mono ?_
    rintro e w5 ⟨b, rfl, hs5, hg5⟩
    have H5 := Lib.hid (And.intro (H4.out.1.trans hg5) hs5)
    clear hF hs5 hg5
    cases b
    · go_wp2_with fail
      go_ret
      exact tookS_of HZ.out H5.out.2 (by have := H2.out.2; omega) H5.out.1
    · have hP6 := one_new 12 nmsV 100 9 B g (k2 + 1 + 1) w5 H5.out.2 rfl (by omega) (by omega) (by decide) (by have := H2.out.2; omega)
      go_wp2_with fail
      refine hP6.mono ?_
      rintro e w6 ⟨u, hu, rfl, ⟨k6, hk6, hs6⟩, hg6⟩
      have H6 := Lib.hid (And.intro hu (And.intro hs6 (And.intro hk6 (H5.out.1.trans hg6))))
      clear hP6 hu hs6 hk6 hg6
      go_wp2_with fail
      go_ret
      exact tookS_of H6.out.1 H6.out.2.1 (by have := H2.out.2; have := H6.out.2.2.1; omega) H6.out.2.2.2
  · have hP6 := one_new 12 nmsV 100 9 B g (k2 + 1) w4 H4.out.2 rfl (by omega) (by omega) (by decide) (by have := H2.out.2; omega)
    go_wp2_with fail
    refine hP6.mono ?_
    rintro e w6 ⟨u, hu, rfl, ⟨k6, hk6, hs6⟩, hg6⟩
    have H6 := Lib.hid (And.intro hu (And.intro hs6 (And.intro hk6 (H4.out.1.trans hg6))))
    clear hP6 hu hs6 hk6 hg6
    go_wp2_with fail
    go_ret
    exact tookS_of H6.out.1 H6.out.2.1 (by have := H2.out.2; have := H6.out.2.2.1; omega) H6.out.2.2.2
theorem OneW_new (n : Nat) (cs : List Value) (m : Nat) (t : TypeId) (B g k : Nat) (wr : World) (hs : Strm wr B g k) (hn : cs.length = n) (h0 : 0 < n) (h1 : n ≤ 1000000) (hcs : cs.all (strV m) = true) (hk : k < 1000000000000) :
    Calls Tryd.prog 4 #[.pointer (some ⟨g, 0, none⟩), .slice (some ⟨wr.heap.size, 0, none⟩) n n] (wr.alloc (.cells cs.toArray t)) (TookS m B g (k + 1) wr) := by
  have hP := one_new n cs m t B g k wr hs hn h0 h1 hcs hk
  clear hs hn hcs
  go_enter Tryd.func4, Tryd.ntmps4
  go_wp2_with fail
  refine hP.mono ?_
  rintro e w1 ⟨s, hs3, rfl, ⟨k1, hk1, hs1⟩, hg1⟩
  have H := Lib.hid (And.intro hs3 (And.intro hk1 (And.intro hs1 hg1)))
  clear hP hs3 hk1 hs1 hg1
  go_wp2_with fail
  go_ret
  exact tookS_of H.out.1 H.out.2.2.1 H.out.2.1 H.out.2.2.2
theorem produces_any (w : World) (hV : NumV w) : Calls Tryd.prog 11 #[] w (SaysK true w) := by
  have hN := Number_any ⟨#[65, 66]⟩ 4 7 (by decide) w hV
  unfold NumSays at hN
  rw [NM.num_ab7.1, NM.num_ab7.2] at hN
  clear hV
  go_enter Tryd.func11, Tryd.ntmps11
  go_wp2_with fail
  refine hN.mono ?_
  rintro e w1 ⟨rfl, hb⟩
  clear hN
  go_wp2_with fail
  go_ret
  exact saysk_of hb rfl
def SaysTr (w : World) (e : Ending) (w' : World) : Prop := e = .returned (.bool true) ∧ Below w.heap.size w w'
set_option maxHeartbeats 16000000 in
set_option maxRecDepth 100000 in
theorem NumbersWritten_any (A : Option Addr) (n cap : Nat) (w : World) (hl : Ints w w.heap.size A n) (hV : NumV w) :
    Calls Tryd.prog 3 #[.slice A n cap] w (SaysTr w) := by
  have hst := hl.strm (cap := cap)
  clear hl
  have HV := Lib.hid hV
  have htop := hV.2
  have HB0 := Lib.hid ((Below.refl w.heap.size w).alloc (Nat.le_refl _) (.cells #[.slice A n cap, .int .i64 0] 25))
  have hP := OneW_new 6 preV 9 9 w.heap.size w.heap.size 0 _ hst rfl (by omega) (by omega) (by decide) (by omega)
  rw [show (w.alloc (.cells #[.slice A n cap, .int .i64 0] 25)).heap.size = w.heap.size + 1 by simp] at hP
  clear hV hst
  go_enter Tryd.func3, Tryd.ntmps3
  go_wp2_with fail
  refine hP.mono ?_
  rintro e w1 ⟨s, hs3, rfl, ⟨k1, hk1, hs1⟩, hg1⟩
  have HB1 := Lib.hid (below_onlyN HB0.out hg1 HB0.out.size (Nat.le_refl _))
  have hP2 := pick_new 5 [.int .i64 4, .int .i64 6, .int .i64 9, .int .i64 3, .int .i64 10] 3 10 3 w.heap.size w.heap.size k1 w1 hs1 rfl (by omega) (by omega) (by decide) (by omega)
  have HS := Lib.hid hs3
  clear hP hs1 hg1 hs3
  go_wp2_with fail
  refine hP2.mono ?_
  rintro e w2 ⟨d, hd1, hd2, rfl, ⟨k2, hk2, hs2⟩, hg2⟩
  have HB2 := Lib.hid (below_onlyN HB1.out hg2 HB1.out.size (Nat.le_refl _))
  have hP3 := pick_new 7 [.int .i64 1, .int .i64 7, .int .i64 9999, .int .i64 10000, .int .i64 999999999, .int .i64 0, .int .i64 (-1)] (-1) 999999999 3 w.heap.size w.heap.size k2 w2 hs2 rfl (by omega) (by omega) (by decide) (by omega)
  clear hP2 hs2 hg2 hd1 hd2
  go_wp2_with fail
  refine hP3.mono ?_
  rintro e w3 ⟨z, hz1, hz2, rfl, ⟨k3, hk3, hs3⟩, hg3⟩
  have HB3 := Lib.hid (below_onlyN HB2.out hg3 HB2.out.size (Nat.le_refl _))
  have HS3 := Lib.hid (And.intro hs3 (show k3 ≤ 10 by omega))
  have hN1 := fun W hV => Number_any s d z (by have := HS.out; omega) W hV
  have hN2 := fun W hV => NumberOf_any s d z (by have := HS.out; omega) W hV
  unfold NumSays at hN1 hN2
  generalize NM.numC s d z = c at *
  generalize NM.numT s d z = T at *
  have q1 : (T.toList == T.toList) = true := by simp
  have hM1 := hN1 w3 (HV.out.below HB3.out htop)
  clear hP3 hs3 hg3 hz1 hz2 hk3 hk2 hk1 hN1
  go_wp2_with fail
  refine hM1.mono ?_
  rintro e w4 ⟨rfl, hb4⟩
  have HB4 := Lib.hid (HB3.out.trans (hb4.mono HB3.out.size))
  have HS4 := Lib.hid (HS3.out.1.below hb4 HS3.out.1.lt)
  have hM2 := hN2 w4 (HV.out.below HB4.out htop)
  clear hM1 hb4 hN2
  go_wp2_with fail
  refine hM2.mono ?_
  rintro e w5 ⟨rfl, hb5⟩
  have HB5 := Lib.hid (HB4.out.trans (hb5.mono HB4.out.size))
  have hs5 := HS4.out.below hb5 HS4.out.lt
  have hT := NumberText_any w.heap.size w.heap.size k3 (by have := HS3.out.2; omega) w5 hs5 (HV.out.below HB5.out htop) htop
  clear hM2 hb5 hs5
  go_wp2_with fail
  refine hT.mono ?_
  rintro e w6 ⟨t, ht, rfl, -, hg6⟩
  have HB6 := Lib.hid (below_onlyN HB5.out hg6 HB5.out.size (Nat.le_refl _))
  have hR1 := ReadNumber_any t (by omega) w6 (HV.out.below HB6.out htop)
  have hR2 := fun W hV => NumberFrom_any t (by omega) W hV
  unfold RdSays at hR1 hR2
  obtain ⟨x1, x2, x3, x4, hrd⟩ : ∃ (x1 : ByteArray) (x2 x3 x4 : Int), NM.rdV t = .tuple #[.string x1, .int .i64 x2, .int .i64 x3, .int .i64 x4] := by
    unfold NM.rdV
    split
    · split
      · exact ⟨_, _, _, _, rfl⟩
      · exact ⟨_, _, _, _, rfl⟩
    · exact ⟨_, _, _, _, rfl⟩
  rw [hrd] at hR1 hR2
  have q2 : (x1.toList == x1.toList) = true := by simp
  clear hT hg6 ht hrd
  go_wp2_with fail
  refine hR1.mono ?_
  rintro e w7 ⟨rfl, hb7⟩
  have HB7 := Lib.hid (HB6.out.trans (hb7.mono HB6.out.size))
  have hR3 := hR2 w7 (HV.out.below HB7.out htop)
  clear hR1 hb7 hR2
  go_wp2_with fail
  refine hR3.mono ?_
  rintro e w8 ⟨rfl, hb8⟩
  have HB8 := Lib.hid (HB7.out.trans (hb8.mono HB7.out.size))
  have hQ := produces_any w8 (HV.out.below HB8.out htop)
  clear hR3 hb8
  go_wp2_with fail
  refine hQ.mono ?_
  rintro e w9 ⟨rfl, hb9⟩
  have HB9 := Lib.hid (HB8.out.trans (hb9.mono HB8.out.size))
  clear hQ hb9
  go_wp2_with fail
  go_ret
  exact ⟨rfl, HB9.out⟩
end Go.Proofs.YtppbjekfagnleaaDoor
