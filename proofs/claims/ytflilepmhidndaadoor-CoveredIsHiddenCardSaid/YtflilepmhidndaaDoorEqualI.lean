/- slices.Equal of two rows of the same spans. -/
import Derived.Test.YtflilepmhidndaaDoorLayEqI
import Derived.Test.YtflilepmhidndaaDoorSpRow
import Derived.Shelf.SlicesQ.Equal
import Derived.Laws.StructEq
namespace WM
def encI (x : Int × Int) : List Go.Value := [.int .i64 x.1, .int .i64 x.2]
end WM
namespace Go.Proofs.YtflilepmhidndaaDoor
open Go.RowKit Go.Shelf Go.Lib

theorem neqI : NeqAt Tryd.prog 38 (fun x => .agg (WM.encI x).toArray) (fun x y => x.1 == y.1 && x.2 == y.2) := by
  refine ⟨fun x y w => ?_, GuardAt.agg _ (by kernel_rfl)⟩
  have u3 := Tryd.underlying3
  have a3 := Tryd.isAgg3
  have z3 := Tryd.sizeOf3
  have hS : Tryd.prog.underlying 38 = some (.struct (Tryd.prog.fieldsOf 38)) := by kernel_rfl
  have hp : Tryd.prog.stoodInHeld 38 = false := by kernel_rfl
  simp only [WM.encI]
  rw [run_neq_struct, show (10000 : Nat) = 9999 + 1 from rfl, run_equalIn_agg w 9999 38 _ _ hS hp]
  simp only [Program.fieldsOf, Tryd.underlying38]
  go_simp
  by_cases h1 : x.fst = y.fst <;> by_cases h2 : x.snd = y.snd <;> simp [h1, h2]
theorem allEq_same : ∀ L : List (Int × Int), Lib.allEq (fun x y : Int × Int => x.1 == y.1 && x.2 == y.2) L L = true
  | [] => rfl
  | x :: L => by simp [Lib.allEq, allEq_same L]
/-- yes or no is answered -/
def SaysY (b : Bool) (w : World) (e : Ending) (w' : World) : Prop := e = .returned (.bool b) ∧ ∃ q, w' = w.drewN q
set_option maxHeartbeats 1000000 in
theorem EqualI_same {w : World} {b1 b2 : Nat} {v1 v2 : Value} {L : List (Int × Int)} (h1 : OwnI w b1 v1 L) (h2 : OwnI w b2 v2 L) :
    Calls Tryd.prog 13 #[v1, v2] w (SaysY true w) := by
  obtain ⟨A1, c1, rfl, hl1, hf1⟩ := h1.form
  obtain ⟨A2, c2, rfl, hl2, hf2⟩ := h2.form
  rcases Nat.eq_zero_or_pos L.length with e1 | p1
  · rw [e1]
    clear hf1 hf2 h1 h2 hl1 hl2 e1
    go_enter Tryd.func13, Tryd.ntmps13
    go_wp2_with fail
    refine wp_loop_rounds 1 ?_
    rw [rounds_succ]
    go_wp2_with fail
    go_ret
    exact ⟨rfl, 0, rfl⟩
  · obtain ⟨g1, rfl, _, _, _, hc1⟩ := hf1 p1
    obtain ⟨g2, rfl, _, _, _, hc2⟩ := hf2 p1
    have hcell : ∀ {g : Nat}, (∀ (j : Nat) (x : Int × Int), L[j]? = some x → w.cell? ⟨g, j * 2, none⟩ = some (.int .i64 x.1) ∧ w.cell? ⟨g, j * 2 + 1, none⟩ = some (.int .i64 x.2)) → ∀ j, j < L.length → ∀ i v, (WM.encI L[j]!)[i]? = some v → w.cell? ⟨g, 0 + j * 2 + i, none⟩ = some v := fun {g} hc j hj i v hv => by
      have hx : L[j]? = some L[j]! := by rw [List.getElem?_eq_getElem hj, getElem!_pos L j hj]
      obtain ⟨k1, k2⟩ := hc j _ hx
      rw [Nat.zero_add]
      rcases i with _ | _ | i
      · obtain rfl := Option.some.inj (show some (Value.int .i64 L[j]!.1) = some v from hv); exact k1
      · obtain rfl := Option.some.inj (show some (Value.int .i64 L[j]!.2) = some v from hv); exact k2
      · cases (show (none : Option Value) = some v from hv)
    refine (show Calls Tryd.prog 13 #[.slice (some ⟨g1, 0, none⟩) L.length c1, .slice (some ⟨g2, 0, none⟩) L.length c2] w _ from
      AnyQ.slices_Equal Tryd.laysEqI 2 Tryd.isAgg38 Tryd.sizeOf38 WM.encI (fun _ => rfl) _ neqI g1 0 L.length c1 g2 0 L.length c2 L L w (Nat.le_refl _) (Nat.le_refl _) hl1 hl2 (hcell hc1) (hcell hc2)).mono ?_
    rintro e w' ⟨rfl, q, rfl⟩
    refine ⟨?_, q, rfl⟩
    rw [allEq_same]
end Go.Proofs.YtflilepmhidndaaDoor
