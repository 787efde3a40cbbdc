/- The law SampleJudges. -/
import Derived.Test.YteioinebidclpaaJudgeR
import Derived.Test.YteioinebidclpaaPick
import Derived.Test.YteioinebidclpaaFlip
import Derived.Test.YteioinebidclpaaRange
import Derived.Test.YteioinebidclpaaInts
import Derived.Test.YteioinebidclpaaMsEq
import Derived.Deep.DeepCutAuto
import Derived.Deep.RegionWith
import Derived.Deep.RegionHeld3
namespace Go.Proofs.Yteioinebidclpaa
open Go.RowKit

theorem cell_al {w : World} {p : Addr} {v : Value} (h : w.cell? p = some v) (hlt : p.block < w.heap.size) (o : Obj) : (w.alloc o).cell? p = some v := (World.cell?_of_block (w := w) (a := p) (Below.heap_alloc w o p.block hlt)).trans h
set_option maxHeartbeats 4000000 in
theorem nj_any (B g k bx : Nat) (W : World) (hs : Strm W B g k) (hb : W.cell? ⟨bx, 0, none⟩ = some (.pointer (some ⟨g, 0, none⟩))) (hbx : bx < W.heap.size) (hne : bx ≠ g) (hk : k < 100000000000) :
    Calls Try.prog 4 #[.pointer (some ⟨bx, 0, none⟩)] W (TookN 0 1000000 B g (k + 2) W) := by
  have hR := Range_any 0 50 (by omega) (by omega) (by omega) B g k (by omega) W.drew hs
  have HB := Lib.hid (And.intro hbx hne)
  clear hbx hne
  have c0 : W.drew.cell? ⟨bx, 0, none⟩ = some (.pointer (some ⟨g, 0, none⟩)) := hb
  go_enter Try.func4, Try.ntmps4
  go_upto_region 1 with fail
  go_region_held3 (fun w' => w'.cell? ⟨bx, 0, none⟩ = some (.pointer (some ⟨g, 0, none⟩)))
    (first | (with_reducible exact hb) | (with_reducible exact c0) | (with_reducible exact c1) | (with_reducible exact c2) | (exact cell_al c1 l1 _) | fail)
    (first
      | ((with_reducible refine hR.mono ?_); rintro e w1 ⟨r, hr1, hr2, rfl, hs1, hg1⟩; have c1 := (World.cell?_of_block (a := ⟨bx, 0, none⟩) (hg1.block bx HB.out.1 (fun h => HB.out.2 (Option.some.inj h)))).trans hb; have l1 : (⟨bx, 0, none⟩ : Addr).block < w1.heap.size := Nat.lt_of_lt_of_le HB.out.1 hg1.size; have hP := pick_new 9 [.int .i64 0, .int .i64 0, .int .i64 1, .int .i64 2, .int .i64 5, .int .i64 8, .int .i64 20, .int .i64 1000000, .int .i64 r] 0 1000000 3 B g (k + 1) w1 hs1 rfl (by omega) (by omega) (by simp [intV]; omega) (by omega); have H1 := Lib.hid hg1; clear hg1 hs1)
      | ((with_reducible refine hP.mono ?_); rintro e w2 ⟨z, hz1, hz2, rfl, ⟨k2, hk2, hs2⟩, hg2⟩; have c2 := (World.cell?_of_block (a := ⟨bx, 0, none⟩) (hg2.block bx l1 (fun h => HB.out.2 (Option.some.inj h)))).trans c1; have H2 := Lib.hid (And.intro hs2 (H1.out.trans hg2)); clear hs2 hg2)
      | fail)
  go_wp2_with fail
  go_ret
  have hG := H2.out.2
  exact tookN_of hz1 hz2 H2.out.1 (by omega) ⟨hG.os, hG.tape, hG.output, hG.size, hG.block⟩
def JdCode (c : Int) : Int := if 0 ≤ c ∧ c ≤ 1000000 then 0 else 1
def JdVal (a b c : Int) : Array Value := if 0 ≤ c ∧ c ≤ 1000000 then SL.judge a b c else #[.int .i64 0, .int .i64 0, .int .i64 0, .int .i64 0, .int .i64 0, .int .i64 0]
def JudgeSays (a b c : Int) (w : World) (e : Ending) (w' : World) : Prop := e = .returned (.tuple #[.agg (JdVal a b c), .int .i64 (JdCode c)]) ∧ Below w.heap.size w w'
def KpCode (a b c d : Int) : Int := if 0 ≤ c ∧ c ≤ 1000000 then (if a + b + c + d = 0 then 8 else 0) else 1
def KpN (a b c d : Int) : Int := if KpCode a b c d = 0 then SL.oneN (SL.kapN a b c d) (SL.kapD a b c d) else 0
def KpD (a b c d : Int) : Int := if KpCode a b c d = 0 then SL.oneD (SL.kapN a b c d) (SL.kapD a b c d) else 0
def KappaSays (a b c d : Int) (w : World) (e : Ending) (w' : World) : Prop := e = .returned (.tuple #[.agg #[.int .i64 (KpN a b c d), .int .i64 (KpD a b c d)], .int .i64 (KpCode a b c d)]) ∧ Below w.heap.size w w'
def SaysTr (w : World) (e : Ending) (w' : World) : Prop := e = .returned (.bool true) ∧ Below w.heap.size w w'
theorem below_oj {B : Nat} {a w w' : World} {g : Nat} (h : Below B a w) (hg : w.grownBy w' (some g)) (hB : B ≤ w.heap.size) (hgB : B ≤ g) : Below B a w' := h.grown hg hB (fun k hk => by injection hk with hk; omega)
set_option maxHeartbeats 16000000 in
set_option maxRecDepth 100000 in
theorem SampleJudges_of (A : Option Addr) (n cap : Nat) (w : World) (hl : Ints w w.heap.size A n)
    (hJ : ∀ (a b c : Int), 0 ≤ a ∧ a ≤ 1000000 → 0 ≤ b ∧ b ≤ 1000000 → -1 ≤ c ∧ c ≤ 1000001 → ∀ W, Below w.heap.size w W → Calls Try.prog 8 #[.int .i64 a, .int .i64 b, .int .i64 c] W (JudgeSays a b c W))
    (hK : ∀ (a b c d : Int), 0 ≤ a ∧ a ≤ 1000000 → 0 ≤ b ∧ b ≤ 1000000 → -1 ≤ c ∧ c ≤ 1000001 → 0 ≤ d ∧ d ≤ 1000000 → ∀ W, Below w.heap.size w W → Calls Try.prog 9 #[.int .i64 a, .int .i64 b, .int .i64 c, .int .i64 d] W (KappaSays a b c d W))
    (hD : ∀ W, Below w.heap.size w W → Calls Try.prog 10 #[] W (SaysTr W)) :
    Calls Try.prog 3 #[.slice A n cap] w (SaysTr w) := by
  have hst := hl.strm (cap := cap)
  clear hl
  have hs1 := hst.alloc (.cells #[.pointer (some ⟨w.heap.size, 0, none⟩)] 23)
  have hb1 := Blk.new (w.alloc (.cells #[.slice A n cap, .int .i64 0] 25)) 23 #[.pointer (some ⟨w.heap.size, 0, none⟩)]
  rw [show (w.alloc (.cells #[.slice A n cap, .int .i64 0] 25)).heap.size = w.heap.size + 1 by simp] at hb1
  have hw1 : Below w.heap.size w ((w.alloc (.cells #[.slice A n cap, .int .i64 0] 25)).alloc (.cells #[.pointer (some ⟨w.heap.size, 0, none⟩)] 23)) := ((Below.refl _ _).alloc (Nat.le_refl _) _).alloc (by simp) _
  clear hst
  have HJ := Lib.hid hJ
  have HK := Lib.hid hK
  have HD := Lib.hid hD
  clear hJ hK hD
  go_enter Try.func3, Try.ntmps3
  go_upto_region 3 with fail
  generalize ((w.alloc (.cells #[.slice A n cap, .int .i64 0] 25)).alloc (.cells #[.pointer (some ⟨w.heap.size, 0, none⟩)] 23)) = W1 at *
  have hn1 := nj_any w.heap.size w.heap.size 0 (w.heap.size + 1) W1 hs1 (hb1.cell 0) hb1.lt (by omega) (by omega)
  have H1 := Lib.hid (And.intro hb1 hw1)
  clear hs1 hb1 hw1
  go_wp2_with fail
  refine hn1.mono ?_
  rintro e w2 ⟨a, ha1, ha2, rfl, ⟨k2, hk2, hs2⟩, hg2⟩
  have hb2 := H1.out.1.grown hg2 (by simp)
  have hn2 := nj_any w.heap.size w.heap.size k2 (w.heap.size + 1) w2 hs2 (hb2.cell 0) hb2.lt (by omega) (by omega)
  have H2 := Lib.hid (And.intro hb2 (below_oj H1.out.2 hg2 H1.out.2.size (Nat.le_refl _)))
  clear hn1 hs2 hb2 hg2
  go_wp2_with fail
  refine hn2.mono ?_
  rintro e w3 ⟨b, hb1, hb2, rfl, ⟨k3, hk3, hs3⟩, hg3⟩
  have hb3 := H2.out.1.grown hg3 (by simp)
  have hn3 := nj_any w.heap.size w.heap.size k3 (w.heap.size + 1) w3 hs3 (hb3.cell 0) hb3.lt (by omega) (by omega)
  have H3 := Lib.hid (And.intro hb3 (below_oj H2.out.2 hg3 H2.out.2.size (Nat.le_refl _)))
  clear hn2 hs3 hb3 hg3
  go_wp2_with fail
  refine hn3.mono ?_
  rintro e w4 ⟨c, hc1, hc2, rfl, ⟨k4, hk4, hs4⟩, hg4⟩
  have hb4 := H3.out.1.grown hg4 (by simp)
  have hn4 := nj_any w.heap.size w.heap.size k4 (w.heap.size + 1) w4 hs4 (hb4.cell 0) hb4.lt (by omega) (by omega)
  have H4 := Lib.hid (And.intro hb4 (below_oj H3.out.2 hg4 H3.out.2.size (Nat.le_refl _)))
  clear hn3 hs4 hb4 hg4
  go_wp2_with fail
  refine hn4.mono ?_
  rintro e w5 ⟨d, hd1, hd2, rfl, ⟨k5, hk5, hs5⟩, hg5⟩
  have hb5 := H4.out.1.grown hg5 (by simp)
  have c5 : w5.cell? ⟨w.heap.size + 1, 0, none⟩ = some (.pointer (some ⟨w.heap.size, 0, none⟩)) := hb5.cell 0
  have hF := Flip_any 12 (by omega) (by omega) w.heap.size w.heap.size k5 (by omega) w5 hs5
  have H5 := Lib.hid (And.intro hb5 (And.intro (below_oj H4.out.2 hg5 H4.out.2.size (Nat.le_refl _)) (show k5 ≤ 8 by omega)))
  have HA := Lib.hid (And.intro (And.intro ha1 ha2) (And.intro (And.intro hb1 hb2) (And.intro (And.intro hc1 hc2) (And.intro hd1 hd2))))
  clear hn4 hs5 hb5 hg5 hk2 hk3 hk4 hk5 ha1 ha2 hb1 hb2 hc1 hc2 hd1 hd2
  go_wp2_with fail
  refine hF.mono ?_
  rintro e w6 ⟨f, rfl, hs6, hg6⟩
  have hb6 := H5.out.1.grown hg6 (by simp)
  have c6 : w6.cell? ⟨w.heap.size + 1, 0, none⟩ = some (.pointer (some ⟨w.heap.size, 0, none⟩)) := hb6.cell 0
  have hP := pick_new 2 [.int .i64 (-1), .int .i64 1000001] (-1) 1000001 3 w.heap.size w.heap.size (k5 + 1) w6 hs6 rfl (by omega) (by omega) (by decide) (by have := H5.out.2.2; omega)
  have H6 := Lib.hid (below_oj H5.out.2.1 hg6 H5.out.2.1.size (Nat.le_refl _))
  clear hF hs6 hb6 hg6 c5
  go_upto_if 26 with fail
  go_cut [7] (fun v wx => ∃ c : Int, v = .int .i64 c ∧ -1 ≤ c ∧ c ≤ 1000001 ∧ Below w.heap.size w wx)
  case first =>
    cases f
    · go_wp2_with fail
      go_meet
      exact ⟨c, rfl, by have := HA.out.2.2.1; omega, by have := HA.out.2.2.1; omega, H6.out⟩
    · go_wp2_with fail
      refine hP.mono ?_
      rintro e w7 ⟨z, hz1, hz2, rfl, -, hg7⟩
      have H7 := Lib.hid (below_oj H6.out hg7 H6.out.size (Nat.le_refl _))
      clear hg7 hP
      go_wp2_with fail
      go_meet
      exact ⟨z, rfl, hz1, hz2, H7.out⟩
  case rest =>
    obtain ⟨z, rfl, hz1, hz2, hwc⟩ := hcut
    have HZ := Lib.hid (And.intro hz1 (And.intro hz2 hwc))
    have hJ := HJ.out a b z HA.out.1 HA.out.2.1 ⟨hz1, hz2⟩ wc hwc
    have hK := fun W hW => HK.out a b z d HA.out.1 HA.out.2.1 ⟨hz1, hz2⟩ HA.out.2.2.2 W hW
    unfold JudgeSays at hJ
    unfold KappaSays at hK
    clear hP H1 H2 H3 H4 H5 H6 c6 hwc HJ HK
    by_cases hb : 0 ≤ z ∧ z ≤ 1000000
    · have j1 : JdCode z = 0 := by unfold JdCode; rw [if_pos hb]
      have j2 : JdVal a b z = SL.judge a b z := by unfold JdVal; rw [if_pos hb]
      rw [j1, j2] at hJ
      have hJR := fun W => JudgeOf_any a b z HA.out.1 HA.out.2.1 hb W
      unfold SL.judge at hJ hJR
      generalize SL.oneN a (a + b) = p1 at *
      generalize SL.oneD a (a + b) = p2 at *
      generalize SL.oneN a (a + z) = p3 at *
      generalize SL.oneD a (a + z) = p4 at *
      generalize SL.oneN (2 * a) (2 * a + b + z) = p5 at *
      generalize SL.oneD (2 * a) (2 * a + b + z) = p6 at *
      have j3 : KpCode a b z d = if a + b + z + d = 0 then 8 else 0 := by unfold KpCode; rw [if_pos hb]
      have m1 := ms_neq p1 p2 p3 p4 p5 p6
      have hq1 : decide (z < 0) = false := decide_eq_false (by omega)
      have hq2 : decide (1000000 < z) = false := decide_eq_false (by omega)
      have hA := HA.out
      clear j1 j2
      by_cases h0 : a + b + z + d = 0
      · have j3' : KpCode a b z d = 8 := by rw [j3, if_pos h0]
        have j4 : KpN a b z d = 0 := by unfold KpN; rw [j3']; rfl
        have j5 : KpD a b z d = 0 := by unfold KpD; rw [j3']; rfl
        rw [j3', j4, j5] at hK
        have m2 := fr_eql 0 0 0 0
        clear j3 j3' j4 j5
        obtain ⟨rfl, rfl, rfl, rfl⟩ : a = 0 ∧ b = 0 ∧ z = 0 ∧ d = 0 := by omega
        clear h0 hb hq1 hq2 hA
        go_wp2_with fail
        refine hJ.mono ?_
        rintro e w8 ⟨rfl, hb8⟩
        have H8 := Lib.hid (HZ.out.2.2.trans (hb8.mono HZ.out.2.2.size))
        have hK8 := hK _ (H8.out.alloc (by have := H8.out.size; omega) (.cells #[.int .i64 p1, .int .i64 p2, .int .i64 p3, .int .i64 p4, .int .i64 p5, .int .i64 p6] 33))
        clear hJ hK hb8
        go_wp2_with fail
        refine hK8.mono ?_
        rintro e w9 ⟨rfl, hb9⟩
        have hM : Blk w9 w8.heap.size 33 #[.int .i64 p1, .int .i64 p2, .int .i64 p3, .int .i64 p4, .int .i64 p5, .int .i64 p6] := (Blk.new w8 _ _).below hb9 (by simp)
        have hM2 := hM.alloc (.cells #[.int .i64 0, .int .i64 0] 31)
        have HM := Lib.hid hM2
        have HF := Lib.hid (Blk.new w9 31 #[.int .i64 0, .int .i64 0])
        have hw8 : Below w.heap.size w (w8.alloc (.cells #[.int .i64 p1, .int .i64 p2, .int .i64 p3, .int .i64 p4, .int .i64 p5, .int .i64 p6] 33)) := H8.out.alloc (by have := H8.out.size; omega) _
        have hw9 := hw8.trans (hb9.mono hw8.size)
        have H10 := Lib.hid (hw9.alloc (by have := hw9.size; omega) (.cells #[.int .i64 0, .int .i64 0] 31))
        clear hK8 hb9 hM hM2 hw8 hw9
        go_upto_region 10 with fail
        have m3 : (w9.alloc (.cells #[.int .i64 0, .int .i64 0] 31)).cell? ⟨w8.heap.size, 0, none⟩ = some (.int .i64 p1) := HM.out.cell 0
        have m4 : (w9.alloc (.cells #[.int .i64 0, .int .i64 0] 31)).cell? ⟨w8.heap.size, 1, none⟩ = some (.int .i64 p2) := HM.out.cell 1
        have m5 : (w9.alloc (.cells #[.int .i64 0, .int .i64 0] 31)).cell? ⟨w8.heap.size, 2, none⟩ = some (.int .i64 p3) := HM.out.cell 2
        have m6 : (w9.alloc (.cells #[.int .i64 0, .int .i64 0] 31)).cell? ⟨w8.heap.size, 3, none⟩ = some (.int .i64 p4) := HM.out.cell 3
        have m7 : (w9.alloc (.cells #[.int .i64 0, .int .i64 0] 31)).cell? ⟨w8.heap.size, 4, none⟩ = some (.int .i64 p5) := HM.out.cell 4
        have m8 : (w9.alloc (.cells #[.int .i64 0, .int .i64 0] 31)).cell? ⟨w8.heap.size, 5, none⟩ = some (.int .i64 p6) := HM.out.cell 5
        have d3 : (w9.alloc (.cells #[.int .i64 0, .int .i64 0] 31)).drew.cell? ⟨w8.heap.size, 0, none⟩ = some (.int .i64 p1) := m3
        have d4 : (w9.alloc (.cells #[.int .i64 0, .int .i64 0] 31)).drew.cell? ⟨w8.heap.size, 1, none⟩ = some (.int .i64 p2) := m4
        have d5 : (w9.alloc (.cells #[.int .i64 0, .int .i64 0] 31)).drew.cell? ⟨w8.heap.size, 2, none⟩ = some (.int .i64 p3) := m5
        have d6 : (w9.alloc (.cells #[.int .i64 0, .int .i64 0] 31)).drew.cell? ⟨w8.heap.size, 3, none⟩ = some (.int .i64 p4) := m6
        have d7 : (w9.alloc (.cells #[.int .i64 0, .int .i64 0] 31)).drew.cell? ⟨w8.heap.size, 4, none⟩ = some (.int .i64 p5) := m7
        have d8 : (w9.alloc (.cells #[.int .i64 0, .int .i64 0] 31)).drew.cell? ⟨w8.heap.size, 5, none⟩ = some (.int .i64 p6) := m8
        have l8 : (⟨w8.heap.size, 0, none⟩ : Addr).block < (w9.alloc (.cells #[.int .i64 0, .int .i64 0] 31)).heap.size := HM.out.lt
        have hJd := hJR (w9.alloc (.cells #[.int .i64 0, .int .i64 0] 31)).drew
        go_region_held3 (fun w' => w'.cell? ⟨w8.heap.size, 0, none⟩ = some (.int .i64 p1) ∧ w'.cell? ⟨w8.heap.size, 1, none⟩ = some (.int .i64 p2) ∧ w'.cell? ⟨w8.heap.size, 2, none⟩ = some (.int .i64 p3) ∧ w'.cell? ⟨w8.heap.size, 3, none⟩ = some (.int .i64 p4) ∧ w'.cell? ⟨w8.heap.size, 4, none⟩ = some (.int .i64 p5) ∧ w'.cell? ⟨w8.heap.size, 5, none⟩ = some (.int .i64 p6))
          (first | (with_reducible exact ⟨m3, m4, m5, m6, m7, m8⟩) | (with_reducible exact ⟨d3, d4, d5, d6, d7, d8⟩) | (with_reducible exact ⟨n3, n4, n5, n6, n7, n8⟩) | fail)
          (first | ((with_reducible refine hJd.mono ?_); rintro e w11 ⟨rfl, hb11⟩; replace hb11 : Below (w9.alloc (.cells #[.int .i64 0, .int .i64 0] 31)).heap.size (w9.alloc (.cells #[.int .i64 0, .int .i64 0] 31)) w11 := ⟨hb11.os, hb11.tape, hb11.output, hb11.size, hb11.block⟩; have n3 := (hb11.cell (p := ⟨w8.heap.size, 0, none⟩) l8).trans m3; have n4 := (hb11.cell (p := ⟨w8.heap.size, 1, none⟩) l8).trans m4; have n5 := (hb11.cell (p := ⟨w8.heap.size, 2, none⟩) l8).trans m5; have n6 := (hb11.cell (p := ⟨w8.heap.size, 3, none⟩) l8).trans m6; have n7 := (hb11.cell (p := ⟨w8.heap.size, 4, none⟩) l8).trans m7; have n8 := (hb11.cell (p := ⟨w8.heap.size, 5, none⟩) l8).trans m8; have HB11 := Lib.hid hb11; clear hb11) | fail)
        clear m3 m4 m5 m6 m7 m8 d3 d4 d5 d6 d7 d8 n3 n4 n5 n6 n7 n8 hJd hJR l8
        have hFw := HF.out.below HB11.out (by simp)
        have k0 : w11.cell? ⟨w9.heap.size, 0, none⟩ = some (.int .i64 0) := hFw.cell 0
        have k1 : w11.cell? ⟨w9.heap.size, 1, none⟩ = some (.int .i64 0) := hFw.cell 1
        have H12 := Lib.hid (H10.out.trans (HB11.out.mono H10.out.size))
        have HFw := Lib.hid hFw
        clear hFw HM HF H10 HB11
        have hDr := HD.out _ H12.out
        go_wp2_with fail
        refine hDr.mono ?_
        rintro e w13 ⟨rfl, hb13⟩
        have H13 := Lib.hid (H12.out.trans (hb13.mono H12.out.size))
        clear hDr hb13
        go_wp2_with fail
        go_ret
        exact ⟨rfl, H13.out⟩
      · have j3' : KpCode a b z d = 0 := by rw [j3, if_neg h0]
        have j4 : KpN a b z d = SL.oneN (SL.kapN a b z d) (SL.kapD a b z d) := by unfold KpN; rw [if_pos j3']
        have j5 : KpD a b z d = SL.oneD (SL.kapN a b z d) (SL.kapD a b z d) := by unfold KpD; rw [if_pos j3']
        rw [j3', j4, j5] at hK
        have hKR := fun W => KappaOf_any a b z d hA.1 hA.2.1 hb hA.2.2.2 W
        generalize SL.oneN (SL.kapN a b z d) (SL.kapD a b z d) = P at *
        generalize SL.oneD (SL.kapN a b z d) (SL.kapD a b z d) = Q at *
        unfold FrSays at hKR
        have m2 := fr_eql P Q P Q
        have hsum : (a + b + z + d == 0) = false := beq_eq_false_iff_ne.2 h0
        clear j3 j3' j4 j5
        go_wp2_with fail
        refine hJ.mono ?_
        rintro e w8 ⟨rfl, hb8⟩
        have H8 := Lib.hid (HZ.out.2.2.trans (hb8.mono HZ.out.2.2.size))
        have hK8 := hK _ (H8.out.alloc (by have := H8.out.size; omega) (.cells #[.int .i64 p1, .int .i64 p2, .int .i64 p3, .int .i64 p4, .int .i64 p5, .int .i64 p6] 33))
        clear hJ hK hb8
        go_wp2_with fail
        refine hK8.mono ?_
        rintro e w9 ⟨rfl, hb9⟩
        have hM : Blk w9 w8.heap.size 33 #[.int .i64 p1, .int .i64 p2, .int .i64 p3, .int .i64 p4, .int .i64 p5, .int .i64 p6] := (Blk.new w8 _ _).below hb9 (by simp)
        have hM2 := hM.alloc (.cells #[.int .i64 P, .int .i64 Q] 31)
        have HM := Lib.hid hM2
        have HF := Lib.hid (Blk.new w9 31 #[.int .i64 P, .int .i64 Q])
        have hw8 : Below w.heap.size w (w8.alloc (.cells #[.int .i64 p1, .int .i64 p2, .int .i64 p3, .int .i64 p4, .int .i64 p5, .int .i64 p6] 33)) := H8.out.alloc (by have := H8.out.size; omega) _
        have hw9 := hw8.trans (hb9.mono hw8.size)
        have H10 := Lib.hid (hw9.alloc (by have := hw9.size; omega) (.cells #[.int .i64 P, .int .i64 Q] 31))
        clear hK8 hb9 hM hM2 hw8 hw9
        go_upto_region 10 with fail
        have m3 : (w9.alloc (.cells #[.int .i64 P, .int .i64 Q] 31)).cell? ⟨w8.heap.size, 0, none⟩ = some (.int .i64 p1) := HM.out.cell 0
        have m4 : (w9.alloc (.cells #[.int .i64 P, .int .i64 Q] 31)).cell? ⟨w8.heap.size, 1, none⟩ = some (.int .i64 p2) := HM.out.cell 1
        have m5 : (w9.alloc (.cells #[.int .i64 P, .int .i64 Q] 31)).cell? ⟨w8.heap.size, 2, none⟩ = some (.int .i64 p3) := HM.out.cell 2
        have m6 : (w9.alloc (.cells #[.int .i64 P, .int .i64 Q] 31)).cell? ⟨w8.heap.size, 3, none⟩ = some (.int .i64 p4) := HM.out.cell 3
        have m7 : (w9.alloc (.cells #[.int .i64 P, .int .i64 Q] 31)).cell? ⟨w8.heap.size, 4, none⟩ = some (.int .i64 p5) := HM.out.cell 4
        have m8 : (w9.alloc (.cells #[.int .i64 P, .int .i64 Q] 31)).cell? ⟨w8.heap.size, 5, none⟩ = some (.int .i64 p6) := HM.out.cell 5
        have d3 : (w9.alloc (.cells #[.int .i64 P, .int .i64 Q] 31)).drew.cell? ⟨w8.heap.size, 0, none⟩ = some (.int .i64 p1) := m3
        have d4 : (w9.alloc (.cells #[.int .i64 P, .int .i64 Q] 31)).drew.cell? ⟨w8.heap.size, 1, none⟩ = some (.int .i64 p2) := m4
        have d5 : (w9.alloc (.cells #[.int .i64 P, .int .i64 Q] 31)).drew.cell? ⟨w8.heap.size, 2, none⟩ = some (.int .i64 p3) := m5
        have d6 : (w9.alloc (.cells #[.int .i64 P, .int .i64 Q] 31)).drew.cell? ⟨w8.heap.size, 3, none⟩ = some (.int .i64 p4) := m6
        have d7 : (w9.alloc (.cells #[.int .i64 P, .int .i64 Q] 31)).drew.cell? ⟨w8.heap.size, 4, none⟩ = some (.int .i64 p5) := m7
        have d8 : (w9.alloc (.cells #[.int .i64 P, .int .i64 Q] 31)).drew.cell? ⟨w8.heap.size, 5, none⟩ = some (.int .i64 p6) := m8
        have l8 : (⟨w8.heap.size, 0, none⟩ : Addr).block < (w9.alloc (.cells #[.int .i64 P, .int .i64 Q] 31)).heap.size := HM.out.lt
        have hJd := hJR (w9.alloc (.cells #[.int .i64 P, .int .i64 Q] 31)).drew
        go_region_held3 (fun w' => w'.cell? ⟨w8.heap.size, 0, none⟩ = some (.int .i64 p1) ∧ w'.cell? ⟨w8.heap.size, 1, none⟩ = some (.int .i64 p2) ∧ w'.cell? ⟨w8.heap.size, 2, none⟩ = some (.int .i64 p3) ∧ w'.cell? ⟨w8.heap.size, 3, none⟩ = some (.int .i64 p4) ∧ w'.cell? ⟨w8.heap.size, 4, none⟩ = some (.int .i64 p5) ∧ w'.cell? ⟨w8.heap.size, 5, none⟩ = some (.int .i64 p6))
          (first | (with_reducible exact ⟨m3, m4, m5, m6, m7, m8⟩) | (with_reducible exact ⟨d3, d4, d5, d6, d7, d8⟩) | (with_reducible exact ⟨n3, n4, n5, n6, n7, n8⟩) | fail)
          (first | ((with_reducible refine hJd.mono ?_); rintro e w11 ⟨rfl, hb11⟩; replace hb11 : Below (w9.alloc (.cells #[.int .i64 P, .int .i64 Q] 31)).heap.size (w9.alloc (.cells #[.int .i64 P, .int .i64 Q] 31)) w11 := ⟨hb11.os, hb11.tape, hb11.output, hb11.size, hb11.block⟩; have n3 := (hb11.cell (p := ⟨w8.heap.size, 0, none⟩) l8).trans m3; have n4 := (hb11.cell (p := ⟨w8.heap.size, 1, none⟩) l8).trans m4; have n5 := (hb11.cell (p := ⟨w8.heap.size, 2, none⟩) l8).trans m5; have n6 := (hb11.cell (p := ⟨w8.heap.size, 3, none⟩) l8).trans m6; have n7 := (hb11.cell (p := ⟨w8.heap.size, 4, none⟩) l8).trans m7; have n8 := (hb11.cell (p := ⟨w8.heap.size, 5, none⟩) l8).trans m8; have HB11 := Lib.hid hb11; clear hb11) | fail)
        clear m3 m4 m5 m6 m7 m8 d3 d4 d5 d6 d7 d8 n3 n4 n5 n6 n7 n8 hJd hJR l8
        have hFw := HF.out.below HB11.out (by simp)
        have k0 : w11.cell? ⟨w9.heap.size, 0, none⟩ = some (.int .i64 P) := hFw.cell 0
        have k1 : w11.cell? ⟨w9.heap.size, 1, none⟩ = some (.int .i64 Q) := hFw.cell 1
        have H12 := Lib.hid (H10.out.trans (HB11.out.mono H10.out.size))
        have HFw := Lib.hid hFw
        clear hFw HM HF H10 HB11
        go_upto_region 14 with fail
        have e0 : w11.drew.cell? ⟨w9.heap.size, 0, none⟩ = some (.int .i64 P) := k0
        have e1 : w11.drew.cell? ⟨w9.heap.size, 1, none⟩ = some (.int .i64 Q) := k1
        have l9 : (⟨w9.heap.size, 0, none⟩ : Addr).block < w11.heap.size := HFw.out.lt
        have hKd := hKR w11.drew
        go_region_held3 (fun w' => w'.cell? ⟨w9.heap.size, 0, none⟩ = some (.int .i64 P) ∧ w'.cell? ⟨w9.heap.size, 1, none⟩ = some (.int .i64 Q))
          (first | (with_reducible exact ⟨k0, k1⟩) | (with_reducible exact ⟨e0, e1⟩) | (with_reducible exact ⟨g0, g1⟩) | (with_reducible exact ⟨i0, i1⟩) | fail)
          (first
            | ((with_reducible refine hKd.mono ?_); rintro e w12 ⟨rfl, hb12⟩; replace hb12 : Below w11.heap.size w11 w12 := ⟨hb12.os, hb12.tape, hb12.output, hb12.size, hb12.block⟩; have g0 := (hb12.cell (p := ⟨w9.heap.size, 0, none⟩) l9).trans k0; have g1 := (hb12.cell (p := ⟨w9.heap.size, 1, none⟩) l9).trans k1; have HB12 := Lib.hid (H12.out.trans (hb12.mono H12.out.size)); have hDr := HD.out _ HB12.out; have l10 := Nat.lt_of_lt_of_le l9 hb12.size; clear hb12)
            | ((with_reducible refine hDr.mono ?_); rintro e w13 ⟨rfl, hb13⟩; have i0 := (hb13.cell (p := ⟨w9.heap.size, 0, none⟩) l10).trans g0; have i1 := (hb13.cell (p := ⟨w9.heap.size, 1, none⟩) l10).trans g1; have H13 := Lib.hid (HB12.out.trans (hb13.mono HB12.out.size)); clear hb13)
            | fail)
        go_wp2_with fail
        go_ret
        exact ⟨rfl, H13.out⟩
    · have j1 : JdCode z = 1 := by unfold JdCode; rw [if_neg hb]
      have j2 : JdVal a b z = #[.int .i64 0, .int .i64 0, .int .i64 0, .int .i64 0, .int .i64 0, .int .i64 0] := by unfold JdVal; rw [if_neg hb]
      have j3 : KpCode a b z d = 1 := by unfold KpCode; rw [if_neg hb]
      have j4 : KpN a b z d = 0 := by unfold KpN; rw [j3]; rfl
      have j5 : KpD a b z d = 0 := by unfold KpD; rw [j3]; rfl
      rw [j1, j2] at hJ
      rw [j3, j4, j5] at hK
      have m1 := ms_eql 0 0 0 0 0 0
      have m2 := fr_eql 0 0 0 0
      clear j1 j2 j3 j4 j5
      go_wp2_with fail
      refine hJ.mono ?_
      rintro e w8 ⟨rfl, hb8⟩
      have H8 := Lib.hid (HZ.out.2.2.trans (hb8.mono HZ.out.2.2.size))
      have hK8 := hK _ (H8.out.alloc (by have := H8.out.size; omega) (.cells #[.int .i64 0, .int .i64 0, .int .i64 0, .int .i64 0, .int .i64 0, .int .i64 0] 33))
      clear hJ hK hb8
      go_wp2_with fail
      refine hK8.mono ?_
      rintro e w9 ⟨rfl, hb9⟩
      have hM : Blk w9 w8.heap.size 33 #[.int .i64 0, .int .i64 0, .int .i64 0, .int .i64 0, .int .i64 0, .int .i64 0] := (Blk.new w8 _ _).below hb9 (by simp)
      have hM2 := hM.alloc (.cells #[.int .i64 0, .int .i64 0] 31)
      have m3 : (w9.alloc (.cells #[.int .i64 0, .int .i64 0] 31)).cell? ⟨w8.heap.size, 0, none⟩ = some (.int .i64 0) := hM2.cell 0
      have m4 : (w9.alloc (.cells #[.int .i64 0, .int .i64 0] 31)).cell? ⟨w8.heap.size, 1, none⟩ = some (.int .i64 0) := hM2.cell 1
      have m5 : (w9.alloc (.cells #[.int .i64 0, .int .i64 0] 31)).cell? ⟨w8.heap.size, 2, none⟩ = some (.int .i64 0) := hM2.cell 2
      have m6 : (w9.alloc (.cells #[.int .i64 0, .int .i64 0] 31)).cell? ⟨w8.heap.size, 3, none⟩ = some (.int .i64 0) := hM2.cell 3
      have m7 : (w9.alloc (.cells #[.int .i64 0, .int .i64 0] 31)).cell? ⟨w8.heap.size, 4, none⟩ = some (.int .i64 0) := hM2.cell 4
      have m8 : (w9.alloc (.cells #[.int .i64 0, .int .i64 0] 31)).cell? ⟨w8.heap.size, 5, none⟩ = some (.int .i64 0) := hM2.cell 5
      have hw8 : Below w.heap.size w (w8.alloc (.cells #[.int .i64 0, .int .i64 0, .int .i64 0, .int .i64 0, .int .i64 0, .int .i64 0] 33)) := H8.out.alloc (by have := H8.out.size; omega) _
      have hw9 := hw8.trans (hb9.mono hw8.size)
      have hw10 := hw9.alloc (by have := hw9.size; omega) (.cells #[.int .i64 0, .int .i64 0] 31)
      have H10 := Lib.hid hw10
      clear hK8 hb9 hM hM2 hw8 hw9 hw10
      have hDr := HD.out _ H10.out
      rcases (by omega : z < 0 ∨ 1000000 < z) with hz | hz
      · have hq1 : decide (z < 0) = true := decide_eq_true hz
        go_wp2_with fail
        refine hDr.mono ?_
        rintro e w11 ⟨rfl, hb11⟩
        have H11 := Lib.hid (H10.out.trans (hb11.mono H10.out.size))
        clear hDr hb11
        go_wp2_with fail
        go_ret
        exact ⟨rfl, H11.out⟩
      · have hq1 : decide (z < 0) = false := decide_eq_false (by omega)
        have hq2 : decide (1000000 < z) = true := decide_eq_true hz
        go_wp2_with fail
        refine hDr.mono ?_
        rintro e w11 ⟨rfl, hb11⟩
        have H11 := Lib.hid (H10.out.trans (hb11.mono H10.out.size))
        clear hDr hb11
        go_wp2_with fail
        go_ret
        exact ⟨rfl, H11.out⟩
end Go.Proofs.Yteioinebidclpaa
