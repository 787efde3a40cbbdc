/- Measures compared as structs. -/
import Derived.Test.YteioinebidclpaaFrEq
namespace Go.Proofs.Yteioinebidclpaa
open Go.RowKit

theorem ms_in (a b c d e f : Int) (w : World) : (Op.equalIn 10000 33 (.agg #[.int .i64 a, .int .i64 b, .int .i64 c, .int .i64 d, .int .i64 e, .int .i64 f]) (.agg #[.int .i64 a, .int .i64 b, .int .i64 c, .int .i64 d, .int .i64 e, .int .i64 f])).run Try.prog w = .ok true w := by
  have hf : ((Try.prog.fieldsOf 33).toList.map fun f => (f.name, f.type, f.offset)) = [("Precision", 31, 0), ("Recall", 31, 2), ("Both", 31, 4)] := by kernel_rfl
  rw [run_equalIn_agg _ _ _ _ _ (by kernel_rfl) (by kernel_rfl)]
  have ee : ∀ fs : List Field, (fs.map fun f => (f.name, f.type, f.offset)) = [("Precision", 31, 0), ("Recall", 31, 2), ("Both", 31, 4)] → (Op.eqFields 9999 #[.int .i64 a, .int .i64 b, .int .i64 c, .int .i64 d, .int .i64 e, .int .i64 f] #[.int .i64 a, .int .i64 b, .int .i64 c, .int .i64 d, .int .i64 e, .int .i64 f] fs).run Try.prog w = .ok true w := by
    intro fs h
    rcases fs with _ | ⟨f0, _ | ⟨f1, _ | ⟨f2, _ | ⟨f3, fs⟩⟩⟩⟩
    · simp at h
    · simp at h
    · simp at h
    · simp only [List.map_cons, List.map_nil, List.cons.injEq, Prod.mk.injEq, and_true] at h
      obtain ⟨⟨n0, t0, o0⟩, ⟨n1, t1, o1⟩, n2, t2, o2⟩ := h
      have z := Try.sizeOf31
      have g := Try.isAgg31
      simp only [Op.eqFields, n0, t0, o0, n1, t1, o1, n2, t2, o2]
      rw [if_pos (by decide), if_pos (by decide), if_pos (by decide)]
      simp [part, go_sem, z, g]
    · simp at h
  exact ee _ hf
theorem ms_eql (a b c d e f : Int) (w : World) : (binOp .eql 33 (.agg #[.int .i64 a, .int .i64 b, .int .i64 c, .int .i64 d, .int .i64 e, .int .i64 f]) (.agg #[.int .i64 a, .int .i64 b, .int .i64 c, .int .i64 d, .int .i64 e, .int .i64 f])).run Try.prog w = .ok (.bool true) w := by
  rw [run_eql_struct, ms_in]; rfl
theorem ms_neq (a b c d e f : Int) (w : World) : (binOp .neq 33 (.agg #[.int .i64 a, .int .i64 b, .int .i64 c, .int .i64 d, .int .i64 e, .int .i64 f]) (.agg #[.int .i64 a, .int .i64 b, .int .i64 c, .int .i64 d, .int .i64 e, .int .i64 f])).run Try.prog w = .ok (.bool false) w := by
  rw [run_neq_struct, ms_in]; simp [Result.andThen]
end Go.Proofs.Yteioinebidclpaa
