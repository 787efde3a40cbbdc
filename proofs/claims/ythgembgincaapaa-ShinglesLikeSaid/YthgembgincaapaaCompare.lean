/- Contracts of cmp.Compare at int, near.compare, isFraction, Compare, of the reference's FractionRight, CompareOf. -/
import Derived.Test.YthgembgincaapaaRefPart
import Derived.Laws.StructEq
import Derived.Deep.RegionHeld3
import Derived.WalkLawsBesides
namespace WM
def cmpI (x y : Int) : Int := if x < y then -1 else if y < x then 1 else 0
/-- a fraction that can be compared -/
def right (n d : Int) : Bool := decide (1 ≤ d) && decide (d ≤ 1000000) && decide (0 ≤ n) && decide (n ≤ 1000000) && decide (Nat.gcd n.toNat d.toNat = 1)
end WM
namespace Go.Proofs.Ythgembgincaapaa
open Go.RowKit

theorem fr_in (a b c d : Int) (w : World) : (Op.equalIn 10000 34 (.agg #[.int .i64 a, .int .i64 b]) (.agg #[.int .i64 c, .int .i64 d])).run Try.prog w = .ok (a == c && b == d) w := by
  have hf : ((Try.prog.fieldsOf 34).toList.map fun f => (f.name, f.type, f.offset)) = [("Num", 3, 0), ("Den", 3, 1)] := by kernel_rfl
  rw [run_equalIn_agg _ _ _ _ _ (by kernel_rfl) (by kernel_rfl)]
  have e : ∀ fs : List Field, (fs.map fun f => (f.name, f.type, f.offset)) = [("Num", 3, 0), ("Den", 3, 1)] → (Op.eqFields 9999 #[.int .i64 a, .int .i64 b] #[.int .i64 c, .int .i64 d] fs).run Try.prog w = .ok (a == c && b == d) w := by
    intro fs h
    rcases fs with _ | ⟨f0, _ | ⟨f1, _ | ⟨f2, fs⟩⟩⟩
    · simp at h
    · simp at h
    · simp only [List.map_cons, List.map_nil, List.cons.injEq, Prod.mk.injEq, and_true] at h
      obtain ⟨⟨n0, t0, o0⟩, n1, t1, o1⟩ := h
      have z := Try.sizeOf3
      have g := Try.isAgg3
      have u := Try.underlying3
      simp only [Op.eqFields, n0, t0, o0, n1, t1, o1]
      rw [if_pos (by decide), if_pos (by decide)]
      cases h1 : a == c <;> cases h2 : b == d <;> simp [part, go_sem, z, g, u, h1, h2]
    · simp at h
  exact e _ hf
theorem fr_eql (a b c d : Int) (w : World) : (binOp .eql 34 (.agg #[.int .i64 a, .int .i64 b]) (.agg #[.int .i64 c, .int .i64 d])).run Try.prog w = .ok (.bool (a == c && b == d)) w := by
  rw [run_eql_struct, fr_in]; rfl
theorem fr_same (a b : Int) (w : World) : (binOp .neq 34 (.agg #[.int .i64 a, .int .i64 b]) (.agg #[.int .i64 a, .int .i64 b])).run Try.prog w = .ok (.bool false) w := by
  rw [run_neq_struct, fr_in]; simp [Result.andThen]
theorem isNaN_any (x : Int) (w : World) : Calls Try.prog 52 #[.int .i64 x] w fun e w' => e = .returned (.bool false) ∧ w = w' := by
  go_enter Try.func52, Try.ntmps52
  go_wp2_with fail
  go_ret
  exact ⟨rfl, rfl⟩
theorem cmpI_any (x y : Int) (w : World) : Calls Try.prog 39 #[.int .i64 x, .int .i64 y] w fun e w' => e = .returned (.int .i64 (WM.cmpI x y)) ∧ w = w' := by
  have hN := isNaN_any
  unfold WM.cmpI
  by_cases h1 : x < y
  · rw [if_pos h1]
    go_enter Try.func39, Try.ntmps39
    go_wp2_with fail
    refine (hN x _).mono ?_
    rintro e w' ⟨rfl, rfl⟩
    go_wp2_with fail
    refine (hN y _).mono ?_
    rintro e w' ⟨rfl, rfl⟩
    go_wp2_with fail
    go_ret
    exact ⟨rfl, rfl⟩
  · rw [if_neg h1]
    by_cases h2 : y < x
    · rw [if_pos h2]
      go_enter Try.func39, Try.ntmps39
      go_wp2_with fail
      refine (hN x _).mono ?_
      rintro e w' ⟨rfl, rfl⟩
      go_wp2_with fail
      refine (hN y _).mono ?_
      rintro e w' ⟨rfl, rfl⟩
      go_wp2_with fail
      go_ret
      exact ⟨rfl, rfl⟩
    · rw [if_neg h2]
      go_enter Try.func39, Try.ntmps39
      go_wp2_with fail
      refine (hN x _).mono ?_
      rintro e w' ⟨rfl, rfl⟩
      go_wp2_with fail
      refine (hN y _).mono ?_
      rintro e w' ⟨rfl, rfl⟩
      go_wp2_with fail
      go_ret
      exact ⟨rfl, rfl⟩
/-- a number is answered; what lay, lies -/
def SaysZ (z : Int) (w : World) (e : Ending) (w' : World) : Prop := e = .returned (.int .i64 z) ∧ Below w.heap.size w w'
def SaysBn (b : Bool) (w : World) (e : Ending) (w' : World) : Prop := e = .returned (.bool b) ∧ Below w.heap.size w w'
def fr (n d : Int) : Value := .agg #[.int .i64 n, .int .i64 d]

set_option maxHeartbeats 1000000 in
theorem compare_any (a b c d : Int) (ha : 0 ≤ a ∧ a ≤ 1000000) (hb : 1 ≤ b ∧ b ≤ 1000000) (hc : 0 ≤ c ∧ c ≤ 1000000) (hd : 1 ≤ d ∧ d ≤ 1000000) (w : World) :
    Calls Try.prog 38 #[.agg #[.int .i64 a, .int .i64 b], .agg #[.int .i64 c, .int .i64 d]] w (SaysZ (WM.cmpI (a * d) (c * b)) w) := by
  have h1 : 0 ≤ a * d ∧ a * d ≤ 1000000000000 := ⟨Int.mul_nonneg ha.1 (by omega), by have := Int.mul_le_mul ha.2 hd.2 (by omega) (by omega); omega⟩
  have h2 : 0 ≤ c * b ∧ c * b ≤ 1000000000000 := ⟨Int.mul_nonneg hc.1 (by omega), by have := Int.mul_le_mul hc.2 hb.2 (by omega) (by omega); omega⟩
  have e1 : wrap64 (a * d) = a * d := IntWalk.wrap64_in _ ⟨by omega, by omega⟩
  have e2 : wrap64 (c * b) = c * b := IntWalk.wrap64_in _ ⟨by omega, by omega⟩
  have hC := fun W => cmpI_any (a * d) (c * b) W
  clear h1 h2 ha hb hc hd
  go_enter Try.func38, Try.ntmps38
  go_wp2_with fail
  try rw [e1, e2]
  refine (hC _).mono ?_
  rintro e w' ⟨rfl, rfl⟩
  go_wp2_with fail
  go_ret
  exact ⟨rfl, ((Below.refl _ _).alloc (Nat.le_refl _) _).alloc (by simp) _⟩

set_option maxHeartbeats 1000000 in
theorem CompareOf_any (a b c d : Int) (ha : 0 ≤ a ∧ a ≤ 1000000) (hb : 1 ≤ b ∧ b ≤ 1000000) (hc : 0 ≤ c ∧ c ≤ 1000000) (hd : 1 ≤ d ∧ d ≤ 1000000) (w : World) :
    Calls Try.prog 21 #[.agg #[.int .i64 a, .int .i64 b], .agg #[.int .i64 c, .int .i64 d]] w (SaysZ (WM.cmpI (a * d) (c * b)) w) := by
  have h1 : 0 ≤ a * d ∧ a * d ≤ 1000000000000 := ⟨Int.mul_nonneg ha.1 (by omega), by have := Int.mul_le_mul ha.2 hd.2 (by omega) (by omega); omega⟩
  have h2 : 0 ≤ c * b ∧ c * b ≤ 1000000000000 := ⟨Int.mul_nonneg hc.1 (by omega), by have := Int.mul_le_mul hc.2 hb.2 (by omega) (by omega); omega⟩
  have e1 : wrap64 (a * d) = a * d := IntWalk.wrap64_in _ ⟨by omega, by omega⟩
  have e2 : wrap64 (c * b) = c * b := IntWalk.wrap64_in _ ⟨by omega, by omega⟩
  have hC := fun W => cmpI_any (a * d) (c * b) W
  clear h1 h2 ha hb hc hd
  go_enter Try.func21, Try.ntmps21
  go_wp2_with fail
  try rw [e1, e2]
  refine (hC _).mono ?_
  rintro e w' ⟨rfl, rfl⟩
  go_wp2_with fail
  go_ret
  exact ⟨rfl, ((Below.refl _ _).alloc (Nat.le_refl _) _).alloc (by simp) _⟩
end Go.Proofs.Ythgembgincaapaa
