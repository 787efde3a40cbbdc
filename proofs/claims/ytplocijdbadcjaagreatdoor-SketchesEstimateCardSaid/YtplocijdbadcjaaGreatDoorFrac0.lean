/- Fractions: divisor, part. -/
import Derived.Test.YtplocijdbadcjaaGreatDoorBlk
import Derived.Deep.QuietTactic
import Derived.BigQuiet
import Derived.RegionTactic
import Derived.IntWalk
namespace WM
/-- n / d in lowest terms; 1 of nothing -/
def frac (n d : Nat) : Nat × Nat := if d = 0 then (1, 1) else (n / Nat.gcd n d, d / Nat.gcd n d)
end WM
namespace Go.Proofs.YtplocijdbadcjaaGreatDoor
open Go.RowKit

def fracV (p : Nat × Nat) : Value := .agg #[.int .i64 p.1, .int .i64 p.2]
def DvRel (a b : Nat) (x y : Value) : Prop := ∃ m n : Nat, x = .int .i64 m ∧ y = .int .i64 n ∧ Nat.gcd m n = Nat.gcd a b ∧ m ≤ 1000000000000 ∧ n ≤ 1000000000000
theorem divisor_any (a b : Nat) (ha : a ≤ 1000000000000) (hb : b ≤ 1000000000000) (w : World) :
    Calls Tryz.prog 46 #[.int .i64 a, .int .i64 b] w fun e w' => e = .returned (.int .i64 (Nat.gcd a b : Nat)) ∧ w = w' := by
  go_enter Tryz.func46, Tryz.ntmps46
  go_wp2_with fail
  go_loop [0, 1] (fun x y => DvRel a b x y) (fun x _ => (intOf x).toNat)
  case atStart => exact ⟨a, b, rfl, rfl, rfl, ha, hb⟩
  case round =>
    obtain ⟨m, n, rfl, rfl, hg, hm, hn⟩ := hrel
    have HG := Lib.hid hg
    clear hg ha hb
    by_cases h0 : 0 < m
    · have hmod : n % m < m := Nat.mod_lt _ h0
      have e1 : IntKind.i64.wrap ((n : Int).tmod (m : Int)) = ((n % m : Nat) : Int) := by
        rw [Int.tmod_eq_emod_of_nonneg (by omega), ← Int.natCast_emod]
        exact IntWalk.i64_in _ ⟨by omega, by omega⟩
      go_wp2_with fail
      exact ⟨⟨n % m, m, by simp, rfl, by rw [← HG.out, Nat.gcd_rec m n], by omega, hm⟩, by simp [intOf]; omega⟩
    · obtain rfl : m = 0 := by omega
      go_wp2_with fail
      go_ret
      exact ⟨by show Ending.returned (.int .i64 (n : Nat)) = _; rw [← HG.out, Nat.gcd_zero_left], rfl⟩
/-- a fraction is answered; what lay, lies -/
def FracSays (p : Nat × Nat) (w : World) (e : Ending) (w' : World) : Prop := e = .returned (fracV p) ∧ Below w.heap.size w w'
set_option maxHeartbeats 1000000 in
theorem part_any (n d : Nat) (hn : n ≤ 1000000000) (hd : d ≤ 1000000000) (w : World) :
    Calls Tryz.prog 29 #[.int .i64 n, .int .i64 d] w (FracSays (WM.frac n d) w) := by
  by_cases h0 : d = 0
  · subst h0
    have hz : (((0 : Nat) : Int) == 0) = true := rfl
    go_enter Tryz.func29, Tryz.ntmps29
    go_wp2_with fail
    exact bodyPost_ret (v := .agg #[.int .i64 1, .int .i64 1]) (by simp [results, Tryz.results29, go_sem]) rfl ⟨rfl, ((Below.refl _ _).alloc (Nat.le_refl _) _)⟩
  · have hz : ((d : Int) == 0) = false := beq_eq_false_iff_ne.2 (by omega)
    have hD := divisor_any n d (by omega) (by omega)
    have hgp : 0 < Nat.gcd n d := Nat.gcd_pos_of_pos_right n (by omega)
    have HF := Lib.hid (show WM.frac n d = (n / Nat.gcd n d, d / Nat.gcd n d) by unfold WM.frac; rw [if_neg h0])
    rw [HF.out]
    generalize Nat.gcd n d = g at *
    clear HF
    have hg0 : ((g : Int) == 0) = false := beq_eq_false_iff_ne.2 (by omega)
    have hg1 : ¬ (g : Int) = 0 := by omega
    have hq1 : n / g ≤ n := Nat.div_le_self _ _
    have hq2 : d / g ≤ d := Nat.div_le_self _ _
    have e1 : wrap64 ((n : Int) / (g : Int)) = (n : Int) / (g : Int) := by
      rw [← Int.natCast_ediv]
      generalize n / g = x at hq1 ⊢
      exact IntWalk.wrap64_in _ ⟨by omega, by omega⟩
    have e2 : wrap64 ((d : Int) / (g : Int)) = (d : Int) / (g : Int) := by
      rw [← Int.natCast_ediv]
      generalize d / g = x at hq2 ⊢
      exact IntWalk.wrap64_in _ ⟨by omega, by omega⟩
    clear hq1 hq2 h0 hgp
    go_enter Tryz.func29, Tryz.ntmps29
    go_wp2_with fail
    refine (hD _).mono ?_
    rintro e w1 ⟨rfl, rfl⟩
    clear hD
    go_wp2_with fail
    go_region
    all_goals go_wp2_with fail
    all_goals refine bodyPost_ret (v := .agg #[.int .i64 ((n / g : Nat) : Int), .int .i64 ((d / g : Nat) : Int)]) (by simp [results, Tryz.results29, go_sem, e1, e2]) rfl ⟨rfl, ?_⟩
    all_goals exact ((Below.refl _ _).alloc (Nat.le_refl _) _).drew

/-- a number is answered; only the draws have moved -/
def SaysI (n : Nat) (w : World) (e : Ending) (w' : World) : Prop := e = .returned (.int .i64 n) ∧ ∃ q, w' = w.drewN q
end Go.Proofs.YtplocijdbadcjaaGreatDoor
