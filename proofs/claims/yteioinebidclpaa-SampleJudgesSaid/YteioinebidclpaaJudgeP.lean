/- Contracts of sample.areCounts, Judge, Kappa. -/
import Derived.Test.YteioinebidclpaaRatio
import Derived.Test.YteioinebidclpaaCounts
import Derived.Test.YteioinebidclpaaJudgeLaw
namespace Go.Proofs.Yteioinebidclpaa
open Go.RowKit

set_option maxHeartbeats 1000000 in
theorem JudgeP_any (a b c : Int) (ha : 0 ≤ a ∧ a ≤ 1000000) (hb : 0 ≤ b ∧ b ≤ 1000000) (hc : -1 ≤ c ∧ c ≤ 1000001) (w : World) : Calls Try.prog 8 #[.int .i64 a, .int .i64 b, .int .i64 c] w (JudgeSays a b c w) := by
  have hz : (w.alloc (.cells #[.int .i64 0, .int .i64 0, .int .i64 0, .int .i64 0, .int .i64 0, .int .i64 0] 33)).heap.size = w.heap.size + 1 := by simp
  have hrow := lit_ints (w.alloc (.cells #[.int .i64 0, .int .i64 0, .int .i64 0, .int .i64 0, .int .i64 0, .int .i64 0] 33)) [a, b, c] 3 (fun j => if j = 0 then a else if j = 1 then b else c) (by
    intro j z h
    match j, h with
    | 0, h => simpa using h
    | 1, h => simpa using h
    | 2, h => simpa using h)
  rw [hz] at hrow
  have hB0 := (Blk.new w 33 #[.int .i64 0, .int .i64 0, .int .i64 0, .int .i64 0, .int .i64 0, .int .i64 0]).alloc (.cells #[.int .i64 a, .int .i64 b, .int .i64 c] 3)
  have hW0 := ((Below.refl w.heap.size w).alloc (Nat.le_refl _) (.cells #[.int .i64 0, .int .i64 0, .int .i64 0, .int .i64 0, .int .i64 0, .int .i64 0] 33)).alloc (by simp) (.cells #[.int .i64 a, .int .i64 b, .int .i64 c] 3)
  have HB0 := Lib.hid (And.intro hB0 hW0)
  clear hz hB0 hW0
  unfold JudgeSays
  by_cases h : 0 ≤ c ∧ c ≤ 1000000
  · have j1 : JdCode c = 0 := by unfold JdCode; rw [if_pos h]
    have j2 : JdVal a b c = SL.judge a b c := by unfold JdVal; rw [if_pos h]
    rw [j1, j2]
    have hA := areCounts_any (c := 3) (fun j => if j = 0 then a else if j = 1 then b else c) hrow (by simp) true (by
      refine ⟨fun _ => rfl, fun _ j hj => ?_⟩
      split
      · exact ha
      · split
        · exact hb
        · exact h)
    have h1 := fun W => PartP_any a (a + b) (by omega) (by omega) W
    have h2 := fun W => PartP_any a (a + c) (by omega) (by omega) W
    have h3 := fun W => PartP_any (2 * a) (2 * a + b + c) (by omega) (by omega) W
    unfold SL.judge
    clear j1 j2 hrow
    generalize SL.oneN a (a + b) = p1 at *
    generalize SL.oneD a (a + b) = p2 at *
    generalize SL.oneN a (a + c) = p3 at *
    generalize SL.oneD a (a + c) = p4 at *
    generalize SL.oneN (2 * a) (2 * a + b + c) = p5 at *
    generalize SL.oneD (2 * a) (2 * a + b + c) = p6 at *
    go_enter Try.func8, Try.ntmps8
    go_wp2_with fail
    refine hA.mono ?_
    rintro e w1 ⟨rfl, q, rfl⟩
    clear hA
    go_wp2_with fail
    refine (h1 _).mono ?_
    rintro e w1 ⟨rfl, hb1⟩
    go_wp2_with fail
    refine (h2 _).mono ?_
    rintro e w2 ⟨rfl, hb2⟩
    go_wp2_with fail
    refine (h3 _).mono ?_
    rintro e w3 ⟨rfl, hb3⟩
    have hbb := hb1.trans ((hb2.mono hb1.size).trans (hb3.mono (Nat.le_trans hb1.size hb2.size)))
    have hB : Blk w3 w.heap.size 33 #[.int .i64 0, .int .i64 0, .int .i64 0, .int .i64 0, .int .i64 0, .int .i64 0] := (HB0.out.1.drewN q).below hbb (HB0.out.1.drewN q).lt
    have hbw := (below_drewN HB0.out.2 q).trans (hbb.mono HB0.out.2.size)
    clear hb1 hb2 hb3 h1 h2 h3 hbb HB0
    have k0 : w3.cell? ⟨w.heap.size, 0, none⟩ = some (.int .i64 0) := hB.cell 0
    have f0 := hB.frozen 0
    have k1 : w3.cell? ⟨w.heap.size, 1, none⟩ = some (.int .i64 0) := hB.cell 1
    have f1 := hB.frozen 1
    have k2 : w3.cell? ⟨w.heap.size, 2, none⟩ = some (.int .i64 0) := hB.cell 2
    have f2 := hB.frozen 2
    have k3 : w3.cell? ⟨w.heap.size, 3, none⟩ = some (.int .i64 0) := hB.cell 3
    have f3 := hB.frozen 3
    have k4 : w3.cell? ⟨w.heap.size, 4, none⟩ = some (.int .i64 0) := hB.cell 4
    have f4 := hB.frozen 4
    have k5 : w3.cell? ⟨w.heap.size, 5, none⟩ = some (.int .i64 0) := hB.cell 5
    have f5 := hB.frozen 5
    have hB2 := ((((((hB.set_ 0 (.int .i64 p1)).set_ 1 (.int .i64 p2)).set_ 2 (.int .i64 p3)).set_ 3 (.int .i64 p4)).set_ 4 (.int .i64 p5)).set_ 5 (.int .i64 p6))
    have r0 : ((((((w3.setCell ⟨w.heap.size, 0, none⟩ (.int .i64 p1)).setCell ⟨w.heap.size, 1, none⟩ (.int .i64 p2)).setCell ⟨w.heap.size, 2, none⟩ (.int .i64 p3)).setCell ⟨w.heap.size, 3, none⟩ (.int .i64 p4)).setCell ⟨w.heap.size, 4, none⟩ (.int .i64 p5)).setCell ⟨w.heap.size, 5, none⟩ (.int .i64 p6)).cell? ⟨w.heap.size, 0, none⟩ = some (.int .i64 p1) := hB2.cell 0
    have r1 : ((((((w3.setCell ⟨w.heap.size, 0, none⟩ (.int .i64 p1)).setCell ⟨w.heap.size, 1, none⟩ (.int .i64 p2)).setCell ⟨w.heap.size, 2, none⟩ (.int .i64 p3)).setCell ⟨w.heap.size, 3, none⟩ (.int .i64 p4)).setCell ⟨w.heap.size, 4, none⟩ (.int .i64 p5)).setCell ⟨w.heap.size, 5, none⟩ (.int .i64 p6)).cell? ⟨w.heap.size, 1, none⟩ = some (.int .i64 p2) := hB2.cell 1
    have r2 : ((((((w3.setCell ⟨w.heap.size, 0, none⟩ (.int .i64 p1)).setCell ⟨w.heap.size, 1, none⟩ (.int .i64 p2)).setCell ⟨w.heap.size, 2, none⟩ (.int .i64 p3)).setCell ⟨w.heap.size, 3, none⟩ (.int .i64 p4)).setCell ⟨w.heap.size, 4, none⟩ (.int .i64 p5)).setCell ⟨w.heap.size, 5, none⟩ (.int .i64 p6)).cell? ⟨w.heap.size, 2, none⟩ = some (.int .i64 p3) := hB2.cell 2
    have r3 : ((((((w3.setCell ⟨w.heap.size, 0, none⟩ (.int .i64 p1)).setCell ⟨w.heap.size, 1, none⟩ (.int .i64 p2)).setCell ⟨w.heap.size, 2, none⟩ (.int .i64 p3)).setCell ⟨w.heap.size, 3, none⟩ (.int .i64 p4)).setCell ⟨w.heap.size, 4, none⟩ (.int .i64 p5)).setCell ⟨w.heap.size, 5, none⟩ (.int .i64 p6)).cell? ⟨w.heap.size, 3, none⟩ = some (.int .i64 p4) := hB2.cell 3
    have r4 : ((((((w3.setCell ⟨w.heap.size, 0, none⟩ (.int .i64 p1)).setCell ⟨w.heap.size, 1, none⟩ (.int .i64 p2)).setCell ⟨w.heap.size, 2, none⟩ (.int .i64 p3)).setCell ⟨w.heap.size, 3, none⟩ (.int .i64 p4)).setCell ⟨w.heap.size, 4, none⟩ (.int .i64 p5)).setCell ⟨w.heap.size, 5, none⟩ (.int .i64 p6)).cell? ⟨w.heap.size, 4, none⟩ = some (.int .i64 p5) := hB2.cell 4
    have r5 : ((((((w3.setCell ⟨w.heap.size, 0, none⟩ (.int .i64 p1)).setCell ⟨w.heap.size, 1, none⟩ (.int .i64 p2)).setCell ⟨w.heap.size, 2, none⟩ (.int .i64 p3)).setCell ⟨w.heap.size, 3, none⟩ (.int .i64 p4)).setCell ⟨w.heap.size, 4, none⟩ (.int .i64 p5)).setCell ⟨w.heap.size, 5, none⟩ (.int .i64 p6)).cell? ⟨w.heap.size, 5, none⟩ = some (.int .i64 p6) := hB2.cell 5
    have hW := Lib.hid ((((((hbw.setCell (p := ⟨w.heap.size, 0, none⟩) (Nat.le_refl _) (.int .i64 p1)).setCell (p := ⟨w.heap.size, 1, none⟩) (Nat.le_refl _) (.int .i64 p2)).setCell (p := ⟨w.heap.size, 2, none⟩) (Nat.le_refl _) (.int .i64 p3)).setCell (p := ⟨w.heap.size, 3, none⟩) (Nat.le_refl _) (.int .i64 p4)).setCell (p := ⟨w.heap.size, 4, none⟩) (Nat.le_refl _) (.int .i64 p5)).setCell (p := ⟨w.heap.size, 5, none⟩) (Nat.le_refl _) (.int .i64 p6))
    clear hB hB2 hbw
    go_wp2_with fail
    exact bodyPost_ret (v := .tuple #[.agg #[.int .i64 p1, .int .i64 p2, .int .i64 p3, .int .i64 p4, .int .i64 p5, .int .i64 p6], .int .i64 0]) (by simp [results, Try.results8, go_sem, r0, r1, r2, r3, r4, r5]) rfl ⟨rfl, hW.out⟩
  · have j1 : JdCode c = 1 := by unfold JdCode; rw [if_neg h]
    have j2 : JdVal a b c = #[.int .i64 0, .int .i64 0, .int .i64 0, .int .i64 0, .int .i64 0, .int .i64 0] := by unfold JdVal; rw [if_neg h]
    rw [j1, j2]
    have hA := areCounts_any (c := 3) (fun j => if j = 0 then a else if j = 1 then b else c) hrow (by simp) false (by
      refine ⟨fun hh => absurd (hh 2 (by simp)) (by simpa using h), fun hh => by cases hh⟩)
    have hB := HB0.out.1
    have hbw := HB0.out.2
    clear j1 j2 hrow HB0
    go_enter Try.func8, Try.ntmps8
    go_wp2_with fail
    refine hA.mono ?_
    rintro e w1 ⟨rfl, hq⟩
    clear hA
    replace hB := hB.of_drewN hq
    replace hbw := below_of_drewN hbw hq
    clear hq
    have k0 : w1.cell? ⟨w.heap.size, 0, none⟩ = some (.int .i64 0) := hB.cell 0
    have f0 := hB.frozen 0
    have k1 : w1.cell? ⟨w.heap.size, 1, none⟩ = some (.int .i64 0) := hB.cell 1
    have f1 := hB.frozen 1
    have k2 : w1.cell? ⟨w.heap.size, 2, none⟩ = some (.int .i64 0) := hB.cell 2
    have f2 := hB.frozen 2
    have k3 : w1.cell? ⟨w.heap.size, 3, none⟩ = some (.int .i64 0) := hB.cell 3
    have f3 := hB.frozen 3
    have k4 : w1.cell? ⟨w.heap.size, 4, none⟩ = some (.int .i64 0) := hB.cell 4
    have f4 := hB.frozen 4
    have k5 : w1.cell? ⟨w.heap.size, 5, none⟩ = some (.int .i64 0) := hB.cell 5
    have f5 := hB.frozen 5
    have hB2 := ((((((hB.set_ 0 (.int .i64 0)).set_ 1 (.int .i64 0)).set_ 2 (.int .i64 0)).set_ 3 (.int .i64 0)).set_ 4 (.int .i64 0)).set_ 5 (.int .i64 0))
    have r0 : ((((((w1.setCell ⟨w.heap.size, 0, none⟩ (.int .i64 0)).setCell ⟨w.heap.size, 1, none⟩ (.int .i64 0)).setCell ⟨w.heap.size, 2, none⟩ (.int .i64 0)).setCell ⟨w.heap.size, 3, none⟩ (.int .i64 0)).setCell ⟨w.heap.size, 4, none⟩ (.int .i64 0)).setCell ⟨w.heap.size, 5, none⟩ (.int .i64 0)).cell? ⟨w.heap.size, 0, none⟩ = some (.int .i64 0) := hB2.cell 0
    have r1 : ((((((w1.setCell ⟨w.heap.size, 0, none⟩ (.int .i64 0)).setCell ⟨w.heap.size, 1, none⟩ (.int .i64 0)).setCell ⟨w.heap.size, 2, none⟩ (.int .i64 0)).setCell ⟨w.heap.size, 3, none⟩ (.int .i64 0)).setCell ⟨w.heap.size, 4, none⟩ (.int .i64 0)).setCell ⟨w.heap.size, 5, none⟩ (.int .i64 0)).cell? ⟨w.heap.size, 1, none⟩ = some (.int .i64 0) := hB2.cell 1
    have r2 : ((((((w1.setCell ⟨w.heap.size, 0, none⟩ (.int .i64 0)).setCell ⟨w.heap.size, 1, none⟩ (.int .i64 0)).setCell ⟨w.heap.size, 2, none⟩ (.int .i64 0)).setCell ⟨w.heap.size, 3, none⟩ (.int .i64 0)).setCell ⟨w.heap.size, 4, none⟩ (.int .i64 0)).setCell ⟨w.heap.size, 5, none⟩ (.int .i64 0)).cell? ⟨w.heap.size, 2, none⟩ = some (.int .i64 0) := hB2.cell 2
    have r3 : ((((((w1.setCell ⟨w.heap.size, 0, none⟩ (.int .i64 0)).setCell ⟨w.heap.size, 1, none⟩ (.int .i64 0)).setCell ⟨w.heap.size, 2, none⟩ (.int .i64 0)).setCell ⟨w.heap.size, 3, none⟩ (.int .i64 0)).setCell ⟨w.heap.size, 4, none⟩ (.int .i64 0)).setCell ⟨w.heap.size, 5, none⟩ (.int .i64 0)).cell? ⟨w.heap.size, 3, none⟩ = some (.int .i64 0) := hB2.cell 3
    have r4 : ((((((w1.setCell ⟨w.heap.size, 0, none⟩ (.int .i64 0)).setCell ⟨w.heap.size, 1, none⟩ (.int .i64 0)).setCell ⟨w.heap.size, 2, none⟩ (.int .i64 0)).setCell ⟨w.heap.size, 3, none⟩ (.int .i64 0)).setCell ⟨w.heap.size, 4, none⟩ (.int .i64 0)).setCell ⟨w.heap.size, 5, none⟩ (.int .i64 0)).cell? ⟨w.heap.size, 4, none⟩ = some (.int .i64 0) := hB2.cell 4
    have r5 : ((((((w1.setCell ⟨w.heap.size, 0, none⟩ (.int .i64 0)).setCell ⟨w.heap.size, 1, none⟩ (.int .i64 0)).setCell ⟨w.heap.size, 2, none⟩ (.int .i64 0)).setCell ⟨w.heap.size, 3, none⟩ (.int .i64 0)).setCell ⟨w.heap.size, 4, none⟩ (.int .i64 0)).setCell ⟨w.heap.size, 5, none⟩ (.int .i64 0)).cell? ⟨w.heap.size, 5, none⟩ = some (.int .i64 0) := hB2.cell 5
    have hW := Lib.hid ((((((hbw.setCell (p := ⟨w.heap.size, 0, none⟩) (Nat.le_refl _) (.int .i64 0)).setCell (p := ⟨w.heap.size, 1, none⟩) (Nat.le_refl _) (.int .i64 0)).setCell (p := ⟨w.heap.size, 2, none⟩) (Nat.le_refl _) (.int .i64 0)).setCell (p := ⟨w.heap.size, 3, none⟩) (Nat.le_refl _) (.int .i64 0)).setCell (p := ⟨w.heap.size, 4, none⟩) (Nat.le_refl _) (.int .i64 0)).setCell (p := ⟨w.heap.size, 5, none⟩) (Nat.le_refl _) (.int .i64 0))
    clear hB hB2 hbw
    go_wp2_with fail
    exact bodyPost_ret (v := .tuple #[.agg #[.int .i64 0, .int .i64 0, .int .i64 0, .int .i64 0, .int .i64 0, .int .i64 0], .int .i64 1]) (by simp [results, Try.results8, go_sem, r0, r1, r2, r3, r4, r5]) rfl ⟨rfl, hW.out⟩
theorem kap_nonneg (a b c d : Int) (ha : 0 ≤ a) (hb : 0 ≤ b) (hc : 0 ≤ c) (hd : 0 ≤ d) : 0 ≤ SL.kapD a b c d := by
  have h : SL.kapD a b c d = b * b + c * c + a * b + a * c + 2 * (a * d) + b * d + c * d := by unfold SL.kapD SL.kapE SL.kapT; grind
  rw [h]
  have h1 := Int.mul_nonneg hb hb
  have h2 := Int.mul_nonneg hc hc
  have h3 := Int.mul_nonneg ha hb
  have h4 := Int.mul_nonneg ha hc
  have h5 := Int.mul_nonneg ha hd
  have h6 := Int.mul_nonneg hb hd
  have h7 := Int.mul_nonneg hc hd
  omega
set_option maxHeartbeats 1000000 in
theorem KappaP_any (a b c d : Int) (ha : 0 ≤ a ∧ a ≤ 1000000) (hb : 0 ≤ b ∧ b ≤ 1000000) (hc : -1 ≤ c ∧ c ≤ 1000001) (hd : 0 ≤ d ∧ d ≤ 1000000) (w : World) : Calls Try.prog 9 #[.int .i64 a, .int .i64 b, .int .i64 c, .int .i64 d] w (KappaSays a b c d w) := by
  have hz : (w.alloc (.cells #[.int .i64 0, .int .i64 0] 31)).heap.size = w.heap.size + 1 := by simp
  have hrow := lit_ints (w.alloc (.cells #[.int .i64 0, .int .i64 0] 31)) [a, b, c, d] 3 (fun j => if j = 0 then a else if j = 1 then b else if j = 2 then c else d) (by
    intro j z h
    match j, h with
    | 0, h => simpa using h
    | 1, h => simpa using h
    | 2, h => simpa using h
    | 3, h => simpa using h)
  rw [hz] at hrow
  have hB0 := (Blk.new w 31 #[.int .i64 0, .int .i64 0]).alloc (.cells #[.int .i64 a, .int .i64 b, .int .i64 c, .int .i64 d] 3)
  have hW0 := ((Below.refl w.heap.size w).alloc (Nat.le_refl _) (.cells #[.int .i64 0, .int .i64 0] 31)).alloc (by simp) (.cells #[.int .i64 a, .int .i64 b, .int .i64 c, .int .i64 d] 3)
  have HB0 := Lib.hid (And.intro hB0 hW0)
  clear hz hB0 hW0
  unfold KappaSays
  by_cases h : 0 ≤ c ∧ c ≤ 1000000
  · have hA := areCounts_any (c := 4) (fun j => if j = 0 then a else if j = 1 then b else if j = 2 then c else d) hrow (by simp) true (by
      refine ⟨fun _ => rfl, fun _ j hj => ?_⟩
      split
      · exact ha
      · split
        · exact hb
        · split
          · exact h
          · exact hd)
    have j3 : KpCode a b c d = if a + b + c + d = 0 then 8 else 0 := by unfold KpCode; rw [if_pos h]
    clear hrow
    by_cases h0 : a + b + c + d = 0
    · have j3' : KpCode a b c d = 8 := by rw [j3, if_pos h0]
      have j4 : KpN a b c d = 0 := by unfold KpN; rw [j3']; rfl
      have j5 : KpD a b c d = 0 := by unfold KpD; rw [j3']; rfl
      rw [j3', j4, j5]
      have hsum : (a + b + c + d == 0) = true := beq_iff_eq.2 h0
      have hB := HB0.out.1
      have hbw := HB0.out.2
      clear j3 j3' j4 j5 h0 HB0
      go_enter Try.func9, Try.ntmps9
      go_wp2_with fail
      refine hA.mono ?_
      rintro e w1 ⟨rfl, hq⟩
      clear hA
      replace hB := hB.of_drewN hq
      replace hbw := below_of_drewN hbw hq
      clear hq
      have k0 : w1.cell? ⟨w.heap.size, 0, none⟩ = some (.int .i64 0) := hB.cell 0
      have k1 : w1.cell? ⟨w.heap.size, 1, none⟩ = some (.int .i64 0) := hB.cell 1
      have f0 := hB.frozen 0
      have f1 := hB.frozen 1
      have hB2 := (hB.set_ 0 (.int .i64 0)).set_ 1 (.int .i64 0)
      have r0 : ((w1.setCell ⟨w.heap.size, 0, none⟩ (.int .i64 0)).setCell ⟨w.heap.size, 1, none⟩ (.int .i64 0)).cell? ⟨w.heap.size, 0, none⟩ = some (.int .i64 0) := hB2.cell 0
      have r1 : ((w1.setCell ⟨w.heap.size, 0, none⟩ (.int .i64 0)).setCell ⟨w.heap.size, 1, none⟩ (.int .i64 0)).cell? ⟨w.heap.size, 1, none⟩ = some (.int .i64 0) := hB2.cell 1
      have hW := Lib.hid ((hbw.setCell (p := ⟨w.heap.size, 0, none⟩) (Nat.le_refl _) (.int .i64 0)).setCell (p := ⟨w.heap.size, 1, none⟩) (Nat.le_refl _) (.int .i64 0))
      clear hB hB2 hbw
      go_wp2_with fail
      exact bodyPost_ret (v := .tuple #[.agg #[.int .i64 0, .int .i64 0], .int .i64 8]) (by simp [results, Try.results9, go_sem, r0, r1]) rfl ⟨rfl, hW.out⟩
    · have j3' : KpCode a b c d = 0 := by rw [j3, if_neg h0]
      have j4 : KpN a b c d = SL.oneN (SL.kapN a b c d) (SL.kapD a b c d) := by unfold KpN; rw [if_pos j3']
      have j5 : KpD a b c d = SL.oneD (SL.kapN a b c d) (SL.kapD a b c d) := by unfold KpD; rw [if_pos j3']
      rw [j3', j4, j5]
      have hsum : (a + b + c + d == 0) = false := beq_eq_false_iff_ne.2 h0
      have b1 : 0 ≤ (a + b) * (a + c) ∧ (a + b) * (a + c) ≤ 4000000000000 := ⟨Int.mul_nonneg (by omega) (by omega), Int.le_trans (Int.mul_le_mul (show a + b ≤ 2000000 by omega) (show a + c ≤ 2000000 by omega) (by omega) (by omega)) (by decide)⟩
      have b2 : 0 ≤ (c + d) * (b + d) ∧ (c + d) * (b + d) ≤ 4000000000000 := ⟨Int.mul_nonneg (by omega) (by omega), Int.le_trans (Int.mul_le_mul (show c + d ≤ 2000000 by omega) (show b + d ≤ 2000000 by omega) (by omega) (by omega)) (by decide)⟩
      have b3 : 0 ≤ (a + d) * (a + b + c + d) ∧ (a + d) * (a + b + c + d) ≤ 8000000000000 := ⟨Int.mul_nonneg (by omega) (by omega), Int.le_trans (Int.mul_le_mul (show a + d ≤ 2000000 by omega) (show a + b + c + d ≤ 4000000 by omega) (by omega) (by omega)) (by decide)⟩
      have b4 : 0 ≤ (a + b + c + d) * (a + b + c + d) ∧ (a + b + c + d) * (a + b + c + d) ≤ 16000000000000 := ⟨Int.mul_nonneg (by omega) (by omega), Int.le_trans (Int.mul_le_mul (show a + b + c + d ≤ 4000000 by omega) (show a + b + c + d ≤ 4000000 by omega) (by omega) (by omega)) (by decide)⟩
      have e1 : wrap64 ((a + b) * (a + c)) = (a + b) * (a + c) := IntWalk.wrap64_in _ ⟨by omega, by omega⟩
      have e2 : wrap64 ((c + d) * (b + d)) = (c + d) * (b + d) := IntWalk.wrap64_in _ ⟨by omega, by omega⟩
      have e3 : wrap64 ((a + d) * (a + b + c + d)) = (a + d) * (a + b + c + d) := IntWalk.wrap64_in _ ⟨by omega, by omega⟩
      have e4 : wrap64 ((a + b + c + d) * (a + b + c + d)) = (a + b + c + d) * (a + b + c + d) := IntWalk.wrap64_in _ ⟨by omega, by omega⟩
      have h1 := fun W => PartP_any (SL.kapN a b c d) (SL.kapD a b c d) (by unfold SL.kapN SL.kapE SL.kapT; omega) ⟨kap_nonneg a b c d ha.1 hb.1 h.1 hd.1, by unfold SL.kapD SL.kapE SL.kapT; omega⟩ W
      generalize SL.oneN (SL.kapN a b c d) (SL.kapD a b c d) = P at *
      generalize SL.oneD (SL.kapN a b c d) (SL.kapD a b c d) = Q at *
      unfold SL.kapN SL.kapD SL.kapE SL.kapT at h1
      have hB := HB0.out.1
      have hbw := HB0.out.2
      clear j3 j3' j4 j5 h0 HB0
      go_enter Try.func9, Try.ntmps9
      go_wp2_with fail
      refine hA.mono ?_
      rintro e w0 ⟨rfl, hq⟩
      clear hA
      replace hB := hB.of_drewN hq
      replace hbw := below_of_drewN hbw hq
      clear hq
      have HB := Lib.hid (And.intro hB hbw)
      clear hB hbw
      go_wp2_with fail
      refine (h1 _).mono ?_
      rintro e w1 ⟨rfl, hb1⟩
      clear b1 b2 b3 b4 e1 e2 e3 e4 hsum
      have hB := HB.out.1.below hb1 HB.out.1.lt
      have hbw := HB.out.2.trans (hb1.mono HB.out.2.size)
      have k0 : w1.cell? ⟨w.heap.size, 0, none⟩ = some (.int .i64 0) := hB.cell 0
      have k1 : w1.cell? ⟨w.heap.size, 1, none⟩ = some (.int .i64 0) := hB.cell 1
      have f0 := hB.frozen 0
      have f1 := hB.frozen 1
      have hB2 := (hB.set_ 0 (.int .i64 P)).set_ 1 (.int .i64 Q)
      have r0 : ((w1.setCell ⟨w.heap.size, 0, none⟩ (.int .i64 P)).setCell ⟨w.heap.size, 1, none⟩ (.int .i64 Q)).cell? ⟨w.heap.size, 0, none⟩ = some (.int .i64 P) := hB2.cell 0
      have r1 : ((w1.setCell ⟨w.heap.size, 0, none⟩ (.int .i64 P)).setCell ⟨w.heap.size, 1, none⟩ (.int .i64 Q)).cell? ⟨w.heap.size, 1, none⟩ = some (.int .i64 Q) := hB2.cell 1
      have hW := Lib.hid ((hbw.setCell (p := ⟨w.heap.size, 0, none⟩) (Nat.le_refl _) (.int .i64 P)).setCell (p := ⟨w.heap.size, 1, none⟩) (Nat.le_refl _) (.int .i64 Q))
      clear hB hB2 h1 hb1 hbw HB
      go_wp2_with fail
      exact bodyPost_ret (v := .tuple #[.agg #[.int .i64 P, .int .i64 Q], .int .i64 0]) (by simp [results, Try.results9, go_sem, r0, r1]) rfl ⟨rfl, hW.out⟩
  · have j3 : KpCode a b c d = 1 := by unfold KpCode; rw [if_neg h]
    have j4 : KpN a b c d = 0 := by unfold KpN; rw [j3]; rfl
    have j5 : KpD a b c d = 0 := by unfold KpD; rw [j3]; rfl
    rw [j3, j4, j5]
    have hA := areCounts_any (c := 4) (fun j => if j = 0 then a else if j = 1 then b else if j = 2 then c else d) hrow (by simp) false (by
      refine ⟨fun hh => absurd (hh 2 (by simp)) (by simpa using h), fun hh => by cases hh⟩)
    have hB := HB0.out.1
    have hbw := HB0.out.2
    clear j3 j4 j5 hrow HB0
    go_enter Try.func9, Try.ntmps9
    go_wp2_with fail
    refine hA.mono ?_
    rintro e w1 ⟨rfl, hq⟩
    clear hA
    replace hB := hB.of_drewN hq
    replace hbw := below_of_drewN hbw hq
    clear hq
    have k0 : w1.cell? ⟨w.heap.size, 0, none⟩ = some (.int .i64 0) := hB.cell 0
    have k1 : w1.cell? ⟨w.heap.size, 1, none⟩ = some (.int .i64 0) := hB.cell 1
    have f0 := hB.frozen 0
    have f1 := hB.frozen 1
    have hB2 := (hB.set_ 0 (.int .i64 0)).set_ 1 (.int .i64 0)
    have r0 : ((w1.setCell ⟨w.heap.size, 0, none⟩ (.int .i64 0)).setCell ⟨w.heap.size, 1, none⟩ (.int .i64 0)).cell? ⟨w.heap.size, 0, none⟩ = some (.int .i64 0) := hB2.cell 0
    have r1 : ((w1.setCell ⟨w.heap.size, 0, none⟩ (.int .i64 0)).setCell ⟨w.heap.size, 1, none⟩ (.int .i64 0)).cell? ⟨w.heap.size, 1, none⟩ = some (.int .i64 0) := hB2.cell 1
    have hW := Lib.hid ((hbw.setCell (p := ⟨w.heap.size, 0, none⟩) (Nat.le_refl _) (.int .i64 0)).setCell (p := ⟨w.heap.size, 1, none⟩) (Nat.le_refl _) (.int .i64 0))
    clear hB hB2 hbw
    go_wp2_with fail
    exact bodyPost_ret (v := .tuple #[.agg #[.int .i64 0, .int .i64 0], .int .i64 1]) (by simp [results, Try.results9, go_sem, r0, r1]) rfl ⟨rfl, hW.out⟩
end Go.Proofs.Yteioinebidclpaa
