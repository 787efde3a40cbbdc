/- Contracts of the reference's JudgeOf, KappaOf. -/
import Derived.Test.YteioinebidclpaaLowR
namespace SL
def kapT (a b c d : Int) : Int := a + b + c + d
def kapE (a b c d : Int) : Int := (a + b) * (a + c) + (c + d) * (b + d)
def kapN (a b c d : Int) : Int := (a + d) * kapT a b c d - kapE a b c d
def kapD (a b c d : Int) : Int := kapT a b c d * kapT a b c d - kapE a b c d
def judge (a b c : Int) : Array Go.Value := #[.int .i64 (oneN a (a + b)), .int .i64 (oneD a (a + b)), .int .i64 (oneN a (a + c)), .int .i64 (oneD a (a + c)), .int .i64 (oneN (2 * a) (2 * a + b + c)), .int .i64 (oneD (2 * a) (2 * a + b + c))]
end SL
namespace Go.Proofs.Yteioinebidclpaa
open Go.RowKit

set_option maxHeartbeats 4000000 in
theorem JudgeOf_any (a b c : Int) (ha : 0 ≤ a ∧ a ≤ 1000000) (hb : 0 ≤ b ∧ b ≤ 1000000) (hc : 0 ≤ c ∧ c ≤ 1000000) (w : World) :
    Calls Try.prog 11 #[.int .i64 a, .int .i64 b, .int .i64 c] w (fun e w' => e = .returned (.agg (SL.judge a b c)) ∧ Below w.heap.size w w') := by
  have h1 := fun W => orOne_any a (a + b) (by omega) (by omega) W
  have h2 := fun W => orOne_any a (a + c) (by omega) (by omega) W
  have h3 := fun W => orOne_any (2 * a) (2 * a + b + c) (by omega) (by omega) W
  unfold SL.judge
  generalize SL.oneN a (a + b) = p1 at *
  generalize SL.oneD a (a + b) = p2 at *
  generalize SL.oneN a (a + c) = p3 at *
  generalize SL.oneD a (a + c) = p4 at *
  generalize SL.oneN (2 * a) (2 * a + b + c) = p5 at *
  generalize SL.oneD (2 * a) (2 * a + b + c) = p6 at *
  go_enter Try.func11, Try.ntmps11
  go_wp2_with fail
  refine (h1 _).mono ?_
  rintro e w1 ⟨rfl, hb1⟩
  go_wp2_with fail
  refine (h2 _).mono ?_
  rintro e w2 ⟨rfl, hb2⟩
  go_wp2_with fail
  refine (h3 _).mono ?_
  rintro e w3 ⟨rfl, hb3⟩
  have hbb := hb1.trans ((hb2.mono hb1.size).trans (hb3.mono (Nat.le_trans hb1.size hb2.size)))
  clear hb1 hb2 hb3 h1 h2 h3
  have hB : Blk w3 w.heap.size 33 #[.int .i64 0, .int .i64 0, .int .i64 0, .int .i64 0, .int .i64 0, .int .i64 0] := (Blk.new w _ _).below hbb (by simp)
  have k0 : w3.cell? ⟨w.heap.size, 0, none⟩ = some (.int .i64 0) := hB.cell 0
  have f0 := hB.frozen 0
  have k1 : w3.cell? ⟨w.heap.size, 1, none⟩ = some (.int .i64 0) := hB.cell 1
  have f1 := hB.frozen 1
  have k2 : w3.cell? ⟨w.heap.size, 2, none⟩ = some (.int .i64 0) := hB.cell 2
  have f2 := hB.frozen 2
  have k3 : w3.cell? ⟨w.heap.size, 3, none⟩ = some (.int .i64 0) := hB.cell 3
  have f3 := hB.frozen 3
  have k4 : w3.cell? ⟨w.heap.size, 4, none⟩ = some (.int .i64 0) := hB.cell 4
  have f4 := hB.frozen 4
  have k5 : w3.cell? ⟨w.heap.size, 5, none⟩ = some (.int .i64 0) := hB.cell 5
  have f5 := hB.frozen 5
  have hB2 := ((((((hB.set_ 0 (.int .i64 p1)).set_ 1 (.int .i64 p2)).set_ 2 (.int .i64 p3)).set_ 3 (.int .i64 p4)).set_ 4 (.int .i64 p5)).set_ 5 (.int .i64 p6))
  have r0 : ((((((w3.setCell ⟨w.heap.size, 0, none⟩ (.int .i64 p1)).setCell ⟨w.heap.size, 1, none⟩ (.int .i64 p2)).setCell ⟨w.heap.size, 2, none⟩ (.int .i64 p3)).setCell ⟨w.heap.size, 3, none⟩ (.int .i64 p4)).setCell ⟨w.heap.size, 4, none⟩ (.int .i64 p5)).setCell ⟨w.heap.size, 5, none⟩ (.int .i64 p6)).cell? ⟨w.heap.size, 0, none⟩ = some (.int .i64 p1) := hB2.cell 0
  have r1 : ((((((w3.setCell ⟨w.heap.size, 0, none⟩ (.int .i64 p1)).setCell ⟨w.heap.size, 1, none⟩ (.int .i64 p2)).setCell ⟨w.heap.size, 2, none⟩ (.int .i64 p3)).setCell ⟨w.heap.size, 3, none⟩ (.int .i64 p4)).setCell ⟨w.heap.size, 4, none⟩ (.int .i64 p5)).setCell ⟨w.heap.size, 5, none⟩ (.int .i64 p6)).cell? ⟨w.heap.size, 1, none⟩ = some (.int .i64 p2) := hB2.cell 1
  have r2 : ((((((w3.setCell ⟨w.heap.size, 0, none⟩ (.int .i64 p1)).setCell ⟨w.heap.size, 1, none⟩ (.int .i64 p2)).setCell ⟨w.heap.size, 2, none⟩ (.int .i64 p3)).setCell ⟨w.heap.size, 3, none⟩ (.int .i64 p4)).setCell ⟨w.heap.size, 4, none⟩ (.int .i64 p5)).setCell ⟨w.heap.size, 5, none⟩ (.int .i64 p6)).cell? ⟨w.heap.size, 2, none⟩ = some (.int .i64 p3) := hB2.cell 2
  have r3 : ((((((w3.setCell ⟨w.heap.size, 0, none⟩ (.int .i64 p1)).setCell ⟨w.heap.size, 1, none⟩ (.int .i64 p2)).setCell ⟨w.heap.size, 2, none⟩ (.int .i64 p3)).setCell ⟨w.heap.size, 3, none⟩ (.int .i64 p4)).setCell ⟨w.heap.size, 4, none⟩ (.int .i64 p5)).setCell ⟨w.heap.size, 5, none⟩ (.int .i64 p6)).cell? ⟨w.heap.size, 3, none⟩ = some (.int .i64 p4) := hB2.cell 3
  have r4 : ((((((w3.setCell ⟨w.heap.size, 0, none⟩ (.int .i64 p1)).setCell ⟨w.heap.size, 1, none⟩ (.int .i64 p2)).setCell ⟨w.heap.size, 2, none⟩ (.int .i64 p3)).setCell ⟨w.heap.size, 3, none⟩ (.int .i64 p4)).setCell ⟨w.heap.size, 4, none⟩ (.int .i64 p5)).setCell ⟨w.heap.size, 5, none⟩ (.int .i64 p6)).cell? ⟨w.heap.size, 4, none⟩ = some (.int .i64 p5) := hB2.cell 4
  have r5 : ((((((w3.setCell ⟨w.heap.size, 0, none⟩ (.int .i64 p1)).setCell ⟨w.heap.size, 1, none⟩ (.int .i64 p2)).setCell ⟨w.heap.size, 2, none⟩ (.int .i64 p3)).setCell ⟨w.heap.size, 3, none⟩ (.int .i64 p4)).setCell ⟨w.heap.size, 4, none⟩ (.int .i64 p5)).setCell ⟨w.heap.size, 5, none⟩ (.int .i64 p6)).cell? ⟨w.heap.size, 5, none⟩ = some (.int .i64 p6) := hB2.cell 5
  have hW := Lib.hid (((((((((Below.refl w.heap.size w).alloc (Nat.le_refl _) (.cells #[.int .i64 0, .int .i64 0, .int .i64 0, .int .i64 0, .int .i64 0, .int .i64 0] 33)).trans (hbb.mono (by simp))).setCell (p := ⟨w.heap.size, 0, none⟩) (Nat.le_refl _) (.int .i64 p1)).setCell (p := ⟨w.heap.size, 1, none⟩) (Nat.le_refl _) (.int .i64 p2)).setCell (p := ⟨w.heap.size, 2, none⟩) (Nat.le_refl _) (.int .i64 p3)).setCell (p := ⟨w.heap.size, 3, none⟩) (Nat.le_refl _) (.int .i64 p4)).setCell (p := ⟨w.heap.size, 4, none⟩) (Nat.le_refl _) (.int .i64 p5)).setCell (p := ⟨w.heap.size, 5, none⟩) (Nat.le_refl _) (.int .i64 p6))
  clear hB hB2 hbb
  go_wp2_with fail
  exact bodyPost_ret (v := .agg #[.int .i64 p1, .int .i64 p2, .int .i64 p3, .int .i64 p4, .int .i64 p5, .int .i64 p6]) (by simp [results, Try.results11, go_sem, r0, r1, r2, r3, r4, r5]) rfl ⟨rfl, hW.out⟩
set_option maxHeartbeats 4000000 in
theorem KappaOf_any (a b c d : Int) (ha : 0 ≤ a ∧ a ≤ 1000000) (hb : 0 ≤ b ∧ b ≤ 1000000) (hc : 0 ≤ c ∧ c ≤ 1000000) (hd : 0 ≤ d ∧ d ≤ 1000000) (w : World) :
    Calls Try.prog 12 #[.int .i64 a, .int .i64 b, .int .i64 c, .int .i64 d] w (FrSays (SL.oneN (SL.kapN a b c d) (SL.kapD a b c d)) (SL.oneD (SL.kapN a b c d) (SL.kapD a b c d)) w) := by
  have b1 : 0 ≤ (a + b) * (a + c) ∧ (a + b) * (a + c) ≤ 4000000000000 := ⟨Int.mul_nonneg (by omega) (by omega), Int.le_trans (Int.mul_le_mul (show a + b ≤ 2000000 by omega) (show a + c ≤ 2000000 by omega) (by omega) (by omega)) (by decide)⟩
  have b2 : 0 ≤ (c + d) * (b + d) ∧ (c + d) * (b + d) ≤ 4000000000000 := ⟨Int.mul_nonneg (by omega) (by omega), Int.le_trans (Int.mul_le_mul (show c + d ≤ 2000000 by omega) (show b + d ≤ 2000000 by omega) (by omega) (by omega)) (by decide)⟩
  have b3 : 0 ≤ (a + d) * (a + b + c + d) ∧ (a + d) * (a + b + c + d) ≤ 8000000000000 := ⟨Int.mul_nonneg (by omega) (by omega), Int.le_trans (Int.mul_le_mul (show a + d ≤ 2000000 by omega) (show a + b + c + d ≤ 4000000 by omega) (by omega) (by omega)) (by decide)⟩
  have b4 : 0 ≤ (a + b + c + d) * (a + b + c + d) ∧ (a + b + c + d) * (a + b + c + d) ≤ 16000000000000 := ⟨Int.mul_nonneg (by omega) (by omega), Int.le_trans (Int.mul_le_mul (show a + b + c + d ≤ 4000000 by omega) (show a + b + c + d ≤ 4000000 by omega) (by omega) (by omega)) (by decide)⟩
  have e1 : wrap64 ((a + b) * (a + c)) = (a + b) * (a + c) := IntWalk.wrap64_in _ ⟨by omega, by omega⟩
  have e2 : wrap64 ((c + d) * (b + d)) = (c + d) * (b + d) := IntWalk.wrap64_in _ ⟨by omega, by omega⟩
  have e3 : wrap64 ((a + d) * (a + b + c + d)) = (a + d) * (a + b + c + d) := IntWalk.wrap64_in _ ⟨by omega, by omega⟩
  have e4 : wrap64 ((a + b + c + d) * (a + b + c + d)) = (a + b + c + d) * (a + b + c + d) := IntWalk.wrap64_in _ ⟨by omega, by omega⟩
  have h1 := fun W => orOne_any (SL.kapN a b c d) (SL.kapD a b c d) (by unfold SL.kapN SL.kapE SL.kapT; omega) (by unfold SL.kapD SL.kapE SL.kapT; omega) W
  generalize SL.oneN (SL.kapN a b c d) (SL.kapD a b c d) = P at *
  generalize SL.oneD (SL.kapN a b c d) (SL.kapD a b c d) = Q at *
  unfold SL.kapN SL.kapD SL.kapE SL.kapT at h1
  go_enter Try.func12, Try.ntmps12
  go_wp2_with fail
  refine (h1 _).mono ?_
  rintro e w1 ⟨rfl, hb1⟩
  clear b1 b2 b3 b4 e1 e2 e3 e4
  have hB : Blk w1 w.heap.size 31 #[.int .i64 0, .int .i64 0] := (Blk.new w _ _).below hb1 (by simp)
  have k0 : w1.cell? ⟨w.heap.size, 0, none⟩ = some (.int .i64 0) := hB.cell 0
  have k1 : w1.cell? ⟨w.heap.size, 1, none⟩ = some (.int .i64 0) := hB.cell 1
  have f0 := hB.frozen 0
  have f1 := hB.frozen 1
  have hB2 := (hB.set_ 0 (.int .i64 P)).set_ 1 (.int .i64 Q)
  have r0 : ((w1.setCell ⟨w.heap.size, 0, none⟩ (.int .i64 P)).setCell ⟨w.heap.size, 1, none⟩ (.int .i64 Q)).cell? ⟨w.heap.size, 0, none⟩ = some (.int .i64 P) := hB2.cell 0
  have r1 : ((w1.setCell ⟨w.heap.size, 0, none⟩ (.int .i64 P)).setCell ⟨w.heap.size, 1, none⟩ (.int .i64 Q)).cell? ⟨w.heap.size, 1, none⟩ = some (.int .i64 Q) := hB2.cell 1
  have hW := Lib.hid (((((Below.refl w.heap.size w).alloc (Nat.le_refl _) (.cells #[.int .i64 0, .int .i64 0] 31)).trans (hb1.mono (by simp))).setCell (p := ⟨w.heap.size, 0, none⟩) (Nat.le_refl _) (.int .i64 P)).setCell (p := ⟨w.heap.size, 1, none⟩) (Nat.le_refl _) (.int .i64 Q))
  clear hB hB2 h1 hb1
  go_wp2_with fail
  exact bodyPost_ret (v := .agg #[.int .i64 P, .int .i64 Q]) (by simp [results, Try.results12, go_sem, r0, r1]) rfl ⟨rfl, hW.out⟩
end Go.Proofs.Yteioinebidclpaa
