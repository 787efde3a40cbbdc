/- Contract of the reference's part. -/
import Derived.Test.YtplocijdbadcjaaGreatDoorFrac0
import Derived.Test.YtplocijdbadcjaaGreatDoorBlk
namespace Go.Proofs.YtplocijdbadcjaaGreatDoor
open Go.RowKit

def DrRel (w : World) (a b : Nat) (x y : Value) (wr : World) : Prop := ∃ m n : Nat, x = .int .i64 m ∧ y = .int .i64 n ∧ Nat.gcd m n = Nat.gcd a b ∧ m ≤ 1000000000000 ∧ n ≤ 1000000000000 ∧ Blk wr w.heap.size 35 #[.int .i64 0, .int .i64 0] ∧ Below w.heap.size w wr
set_option maxHeartbeats 2000000 in
theorem partR_any (n d : Nat) (hn : n ≤ 1000000000) (hd : d ≤ 1000000000) (w : World) :
    Calls Tryz.prog 31 #[.int .i64 n, .int .i64 d] w (FracSays (WM.frac n d) w) := by
  by_cases h0 : d = 0
  · subst h0
    have hz : (((0 : Nat) : Int) == 0) = true := rfl
    go_enter Tryz.func31, Tryz.ntmps31
    go_wp2_with fail
    exact bodyPost_ret (v := .agg #[.int .i64 1, .int .i64 1]) (by simp [results, Tryz.results31, go_sem]) rfl ⟨rfl, ((Below.refl _ _).alloc (Nat.le_refl _) _)⟩
  · have hz : ((d : Int) == 0) = false := beq_eq_false_iff_ne.2 (by omega)
    have hgp : 0 < Nat.gcd n d := Nat.gcd_pos_of_pos_right n (by omega)
    have HF := Lib.hid (show WM.frac n d = (n / Nat.gcd n d, d / Nat.gcd n d) by unfold WM.frac; rw [if_neg h0])
    have HN := Lib.hid (And.intro hn hd)
    rw [HF.out]
    clear hn hd h0
    go_enter Tryz.func31, Tryz.ntmps31
    go_wp2_with fail
    go_loopw [5, 6] (fun x y wr => DrRel w n d x y wr) (fun _ y _ => (intOf y).toNat)
    case atStart => exact ⟨n, d, rfl, rfl, rfl, by have := HN.out; omega, by have := HN.out; omega, Blk.new w _ _, (Below.refl _ _).alloc (Nat.le_refl _) _⟩
    case round =>
      obtain ⟨p, q, rfl, rfl, hg, hp, hq, hblk, hbw⟩ := hrel
      have HG := Lib.hid hg
      clear hg
      by_cases hq0 : q = 0
      · subst hq0
        have hpg : p = Nat.gcd n d := by rw [← HG.out, Nat.gcd_zero_right]
        rw [← hpg] at hgp
        have HPG := Lib.hid hpg
        have hz0 : (((0 : Nat) : Int) != 0) = false := rfl
        have hg0 : ((p : Int) == 0) = false := beq_eq_false_iff_ne.2 (by omega)
        have hg1 : ¬ (p : Int) = 0 := by omega
        have hq1 : n / p ≤ n := Nat.div_le_self _ _
        have hq2 : d / p ≤ d := Nat.div_le_self _ _
        have e1 : wrap64 ((n : Int) / (p : Int)) = (n : Int) / (p : Int) := by
          rw [← Int.natCast_ediv]
          have := HN.out
          generalize n / p = x at hq1 ⊢
          exact IntWalk.wrap64_in _ ⟨by omega, by omega⟩
        have e2 : wrap64 ((d : Int) / (p : Int)) = (d : Int) / (p : Int) := by
          rw [← Int.natCast_ediv]
          have := HN.out
          generalize d / p = x at hq2 ⊢
          exact IntWalk.wrap64_in _ ⟨by omega, by omega⟩
        have hd0 := hblk.cell 0
        have hd1 := hblk.cell 1
        have hf0 := hblk.frozen 0
        have hf1 := hblk.frozen 1
        simp at hd0 hd1
        have HB := Lib.hid hbw
        clear hq1 hq2 hgp hp hq hpg hblk hbw
        go_wp2_with fail
        go_region
        all_goals go_wp2_with fail
        all_goals refine bodyPost_ret (v := .agg #[.int .i64 ((n / p : Nat) : Int), .int .i64 ((d / p : Nat) : Int)]) (by simp [results, Tryz.results31, go_sem, e1, e2, hd0, hd1]) rfl ⟨by rw [← HPG.out]; rfl, ?_⟩
        all_goals exact ((HB.out.setCell (p := ⟨w.heap.size, 0, none⟩) (Nat.le_refl _) _).setCell (p := ⟨w.heap.size, 1, none⟩) (Nat.le_refl _) _).drew
      · have hmod : p % q < q := Nat.mod_lt _ (by omega)
        have hz0 : ((q : Int) != 0) = true := bne_iff_ne.2 (by omega)
        have hg0 : ((q : Int) == 0) = false := beq_eq_false_iff_ne.2 (by omega)
        have hz1 : ¬ (q : Int) = 0 := by omega
        have e1 : IntKind.i64.wrap ((p : Int).tmod (q : Int)) = ((p % q : Nat) : Int) := by
          rw [Int.tmod_eq_emod_of_nonneg (by omega), ← Int.natCast_emod]
          exact IntWalk.i64_in _ ⟨by omega, by omega⟩
        have HB := Lib.hid (And.intro hblk hbw)
        clear hblk hbw
        go_wp2_with fail
        go_quiet (fail)
        go_wp2_with fail
        exact ⟨⟨q, p % q, rfl, by simp, by rw [← HG.out, Nat.gcd_comm q, ← Nat.gcd_rec, Nat.gcd_comm], hq, by omega, HB.out.1.drewN _, below_drewN HB.out.2 _⟩, by simp [intOf]; omega⟩
end Go.Proofs.YtplocijdbadcjaaGreatDoor
