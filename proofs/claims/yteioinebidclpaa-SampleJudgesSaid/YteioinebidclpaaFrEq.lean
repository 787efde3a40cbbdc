/- Fractions compared as structs. -/
import Derived.Test.YteioinebidclpaaStream0
import Derived.Laws.StructEq
import Derived.WalkLawsBesides
namespace Go.Proofs.Yteioinebidclpaa
open Go.RowKit

theorem fr_in (a b c d : Int) (w : World) : (Op.equalIn 10000 31 (.agg #[.int .i64 a, .int .i64 b]) (.agg #[.int .i64 c, .int .i64 d])).run Try.prog w = .ok (a == c && b == d) w := by
  have hf : ((Try.prog.fieldsOf 31).toList.map fun f => (f.name, f.type, f.offset)) = [("Num", 3, 0), ("Den", 3, 1)] := by kernel_rfl
  rw [run_equalIn_agg _ _ _ _ _ (by kernel_rfl) (by kernel_rfl)]
  have e : ∀ fs : List Field, (fs.map fun f => (f.name, f.type, f.offset)) = [("Num", 3, 0), ("Den", 3, 1)] → (Op.eqFields 9999 #[.int .i64 a, .int .i64 b] #[.int .i64 c, .int .i64 d] fs).run Try.prog w = .ok (a == c && b == d) w := by
    intro fs h
    rcases fs with _ | ⟨f0, _ | ⟨f1, _ | ⟨f2, fs⟩⟩⟩
    · simp at h
    · simp at h
    · simp only [List.map_cons, List.map_nil, List.cons.injEq, Prod.mk.injEq, and_true] at h
      obtain ⟨⟨n0, t0, o0⟩, n1, t1, o1⟩ := h
      have z := Try.sizeOf3
      have g := Try.isAgg3
      have u := Try.underlying3
      simp only [Op.eqFields, n0, t0, o0, n1, t1, o1]
      rw [if_pos (by decide), if_pos (by decide)]
      cases h1 : a == c <;> cases h2 : b == d <;> simp [part, go_sem, z, g, u, h1, h2]
    · simp at h
  exact e _ hf
theorem fr_eql (a b c d : Int) (w : World) : (binOp .eql 31 (.agg #[.int .i64 a, .int .i64 b]) (.agg #[.int .i64 c, .int .i64 d])).run Try.prog w = .ok (.bool (a == c && b == d)) w := by
  rw [run_eql_struct, fr_in]; rfl
theorem fr_same (a b : Int) (w : World) : (binOp .neq 31 (.agg #[.int .i64 a, .int .i64 b]) (.agg #[.int .i64 a, .int .i64 b])).run Try.prog w = .ok (.bool false) w := by
  rw [run_neq_struct, fr_in]; simp [Result.andThen]
end Go.Proofs.Yteioinebidclpaa
