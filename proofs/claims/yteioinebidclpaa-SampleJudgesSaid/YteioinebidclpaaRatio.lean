/- Contracts of package ratio. -/
import Derived.Test.YteioinebidclpaaLowR
import Derived.IntWalk
import Derived.RegionTactic
namespace Go.Proofs.Yteioinebidclpaa
open Go.RowKit

def DvrRel (a b : Nat) (x y : Value) : Prop := ∃ m n : Nat, x = .int .i64 m ∧ y = .int .i64 n ∧ Hid (Nat.gcd m n = Nat.gcd a b) ∧ m ≤ 100000000000000000 ∧ n ≤ 100000000000000000
theorem divisorR_any (a b : Nat) (ha : a ≤ 100000000000000000) (hb : b ≤ 100000000000000000) (w : World) :
    Calls Try.prog 28 #[.int .i64 a, .int .i64 b] w fun e w' => e = .returned (.int .i64 (Nat.gcd a b : Nat)) ∧ w = w' := by
  go_enter Try.func28, Try.ntmps28
  go_wp2_with fail
  go_loop [0, 1] (fun x y => DvrRel a b x y) (fun x _ => (intOf x).toNat)
  case atStart => exact ⟨a, b, rfl, rfl, rfl, ha, hb⟩
  case round =>
    obtain ⟨m, n, rfl, rfl, HG, hm, hn⟩ := hrel
    clear ha hb
    by_cases h0 : 0 < m
    · have hmod : n % m < m := Nat.mod_lt _ h0
      have e1 : IntKind.i64.wrap ((n : Int).tmod (m : Int)) = ((n % m : Nat) : Int) := by
        rw [Int.tmod_eq_emod_of_nonneg (by omega), ← Int.natCast_emod]
        exact IntWalk.i64_in _ ⟨by omega, by omega⟩
      go_wp2_with fail
      exact ⟨⟨n % m, m, by simp, rfl, by show _ = _; rw [← HG.out, Nat.gcd_rec m n], by omega, hm⟩, by simp [intOf]; omega⟩
    · obtain rfl : m = 0 := by omega
      go_wp2_with fail
      go_ret
      exact ⟨by show Ending.returned (.int .i64 (n : Nat)) = _; rw [← HG.out, Nat.gcd_zero_left], rfl⟩
set_option maxHeartbeats 4000000 in
theorem LowestP_any (n d : Int) (hn : -100000000000000000 ≤ n ∧ n ≤ 100000000000000000) (hd : 1 ≤ d ∧ d ≤ 100000000000000000) (w : World) :
    Calls Try.prog 21 #[.int .i64 n, .int .i64 d] w (FrSays (SL.lowN n d) (SL.lowD n d) w) := by
  have hg : SL.g n d = (Nat.gcd n.natAbs d.natAbs : Nat) := by
    unfold SL.g Int.gcd
    rw [if_neg]
    have := Nat.gcd_pos_of_pos_right n.natAbs (show 0 < d.natAbs by omega)
    omega
  have hgp := SL.g_pos n d
  have t1 := SL.tdiv_in n (SL.g n d) hn
  have t2 := SL.tdiv_in d (SL.g n d) ⟨by omega, hd.2⟩
  have HF := Lib.hid (show SL.lowN n d = n.tdiv (SL.g n d) ∧ SL.lowD n d = d.tdiv (SL.g n d) from ⟨rfl, rfl⟩)
  rw [HF.out.1, HF.out.2]
  clear HF
  have hD := fun W => divisorR_any n.natAbs d.natAbs (by omega) (by omega) W
  rw [hg] at hgp t1 t2 ⊢
  clear hg
  generalize Nat.gcd n.natAbs d.natAbs = G at *
  have hmx : max n (-n) = (n.natAbs : Int) := by omega
  have hmx2 : (if n < -n then -n else n) = (n.natAbs : Int) := by split <;> omega
  have hneg : wrap64 (-n) = -n := IntWalk.wrap64_in _ ⟨by omega, by omega⟩
  have hdd : d = (d.natAbs : Int) := by omega
  rw [← hdd] at hD
  clear hdd
  have e1 : wrap64 (n.tdiv (G : Int)) = n.tdiv (G : Int) := IntWalk.wrap64_in _ ⟨by omega, by omega⟩
  have e2 : wrap64 (d.tdiv (G : Int)) = d.tdiv (G : Int) := IntWalk.wrap64_in _ ⟨by omega, by omega⟩
  have hz : ((G : Int) == 0) = false := beq_eq_false_iff_ne.2 (by omega)
  have hz1 : ¬ (G : Int) = 0 := by omega
  clear t1 t2 hgp hn hd
  generalize n.natAbs = M at *
  go_enter Try.func21, Try.ntmps21
  go_wp2_with fail
  refine (hD _).mono ?_
  rintro e w1 ⟨rfl, rfl⟩
  clear hD
  have hB : Blk (w.alloc (.cells #[.int .i64 0, .int .i64 0] 31)) w.heap.size 31 #[.int .i64 0, .int .i64 0] := Blk.new _ _ _
  have k0 : (w.alloc (.cells #[.int .i64 0, .int .i64 0] 31)).cell? ⟨w.heap.size, 0, none⟩ = some (.int .i64 0) := hB.cell 0
  have k1 : (w.alloc (.cells #[.int .i64 0, .int .i64 0] 31)).cell? ⟨w.heap.size, 1, none⟩ = some (.int .i64 0) := hB.cell 1
  have f0 := hB.frozen 0
  have f1 := hB.frozen 1
  have HB := Lib.hid hB
  have hW := Lib.hid ((Below.refl w.heap.size w).alloc (Nat.le_refl _) (.cells #[.int .i64 0, .int .i64 0] 31))
  clear hB
  generalize w.alloc (.cells #[.int .i64 0, .int .i64 0] 31) = wr at *
  go_wp2_with fail
  try go_region
  all_goals go_wp2_with fail
  all_goals have hB2 := (HB.out.set_ 0 (.int .i64 (n.tdiv G))).set_ 1 (.int .i64 (d.tdiv G))
  all_goals have r0 : ((wr.setCell ⟨w.heap.size, 0, none⟩ (.int .i64 (n.tdiv G))).setCell ⟨w.heap.size, 1, none⟩ (.int .i64 (d.tdiv G))).cell? ⟨w.heap.size, 0, none⟩ = some (.int .i64 (n.tdiv G)) := hB2.cell 0
  all_goals have r1 : ((wr.setCell ⟨w.heap.size, 0, none⟩ (.int .i64 (n.tdiv G))).setCell ⟨w.heap.size, 1, none⟩ (.int .i64 (d.tdiv G))).cell? ⟨w.heap.size, 1, none⟩ = some (.int .i64 (d.tdiv G)) := hB2.cell 1
  all_goals exact bodyPost_ret (v := .agg #[.int .i64 (n.tdiv G), .int .i64 (d.tdiv G)]) (by simp [results, Try.results21, go_sem, r0, r1]) rfl ⟨rfl, ((hW.out.setCell (Nat.le_refl _) _).setCell (Nat.le_refl _) _).drew⟩
set_option maxHeartbeats 4000000 in
theorem PartP_any (n d : Int) (hn : -100000000000000000 ≤ n ∧ n ≤ 100000000000000000) (hd : 0 ≤ d ∧ d ≤ 100000000000000000) (w : World) :
    Calls Try.prog 15 #[.int .i64 n, .int .i64 d] w (FrSays (SL.oneN n d) (SL.oneD n d) w) := by
  by_cases h0 : d = 0
  · subst h0
    go_enter Try.func15, Try.ntmps15
    go_wp2_with fail
    exact bodyPost_ret (v := .agg #[.int .i64 1, .int .i64 1]) (by simp [results, Try.results15, go_sem]) rfl ⟨rfl, (Below.refl _ _).alloc (Nat.le_refl _) _⟩
  · have hz : (d == 0) = false := beq_eq_false_iff_ne.2 h0
    have hL := fun W => LowestP_any n d hn ⟨by omega, hd.2⟩ W
    have HG := Lib.hid (show SL.oneN n d = SL.lowN n d ∧ SL.oneD n d = SL.lowD n d by unfold SL.oneN SL.oneD; rw [if_neg h0, if_neg h0]; exact ⟨rfl, rfl⟩)
    generalize SL.lowN n d = P at *
    generalize SL.lowD n d = Q at *
    clear hn hd h0
    go_enter Try.func15, Try.ntmps15
    go_wp2_with fail
    refine (hL _).mono ?_
    rintro e w1 ⟨rfl, hb1⟩
    have hB : Blk w1 w.heap.size 31 #[.int .i64 0, .int .i64 0] := (Blk.new w _ _).below hb1 (by simp)
    have k0 : w1.cell? ⟨w.heap.size, 0, none⟩ = some (.int .i64 0) := hB.cell 0
    have k1 : w1.cell? ⟨w.heap.size, 1, none⟩ = some (.int .i64 0) := hB.cell 1
    have f0 := hB.frozen 0
    have f1 := hB.frozen 1
    have hB2 := (hB.set_ 0 (.int .i64 P)).set_ 1 (.int .i64 Q)
    have r0 : ((w1.setCell ⟨w.heap.size, 0, none⟩ (.int .i64 P)).setCell ⟨w.heap.size, 1, none⟩ (.int .i64 Q)).cell? ⟨w.heap.size, 0, none⟩ = some (.int .i64 P) := hB2.cell 0
    have r1 : ((w1.setCell ⟨w.heap.size, 0, none⟩ (.int .i64 P)).setCell ⟨w.heap.size, 1, none⟩ (.int .i64 Q)).cell? ⟨w.heap.size, 1, none⟩ = some (.int .i64 Q) := hB2.cell 1
    have hW := Lib.hid (((((Below.refl w.heap.size w).alloc (Nat.le_refl _) (.cells #[.int .i64 0, .int .i64 0] 31)).trans (hb1.mono (by simp))).setCell (p := ⟨w.heap.size, 0, none⟩) (Nat.le_refl _) (.int .i64 P)).setCell (p := ⟨w.heap.size, 1, none⟩) (Nat.le_refl _) (.int .i64 Q))
    clear hB hB2 hL hb1
    go_wp2_with fail
    exact bodyPost_ret (v := .agg #[.int .i64 P, .int .i64 Q]) (by simp [results, Try.results15, go_sem, r0, r1]) rfl ⟨by rw [HG.out.1, HG.out.2], hW.out⟩
end Go.Proofs.Yteioinebidclpaa
