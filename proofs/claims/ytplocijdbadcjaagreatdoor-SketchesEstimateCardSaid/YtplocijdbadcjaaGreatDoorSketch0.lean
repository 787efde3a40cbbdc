/- Contracts of near.leastOf, isSketchSize. -/
import Derived.Test.YtplocijdbadcjaaGreatDoorNums
namespace WM
def least (l : List Int) (k : Nat) : List Int := (compZ (sortZ l)).take k
theorem least_len (l : List Int) (k : Nat) : (least l k).length ≤ l.length := by
  unfold least
  rw [List.length_take]
  have := compZ_len (sortZ l)
  rw [sortZ_len] at this
  omega
end WM
namespace Go.Proofs.YtplocijdbadcjaaGreatDoor
open Go.RowKit

set_option maxHeartbeats 1000000 in
theorem leastOf_any {w : World} {base : Nat} {v : Value} {l : List Int} (h : OwnZ w base v l) (hl : l.length ≤ 1000000000000) (k : Nat) (hk : k ≤ 1000000) :
    Calls Tryz.prog 19 #[v, .int .i64 k] w (CompAtZ base v (WM.least l k) w) := by
  have hS := SortZ_any h hl
  obtain ⟨A, cap, rfl, _⟩ := h.formC
  have HS : Hid (∀ v, CompAtZ base v ((WM.compZ (WM.sortZ l)).take k) w = CompAtZ base v (WM.least l k) w) := fun v => rfl
  have hcl := WM.compZ_len (WM.sortZ l)
  rw [WM.sortZ_len] at hcl
  clear h
  go_enter Tryz.func19, Tryz.ntmps19
  go_wp2_with fail
  refine hS.mono ?_
  rintro e w1 ⟨rfl, ho1, hg1⟩
  have hC := CompZ_any ho1
  clear hS ho1
  go_wp2_with fail
  refine hC.mono ?_
  rintro e w2 ⟨v2, rfl, ho2, hg2, hob⟩
  obtain ⟨A2, cap2, rfl, hlc, hcm, _⟩ := ho2.formC
  have hmin : min (k : Int) ((WM.compZ (WM.sortZ l)).length : Int) = ((min k (WM.compZ (WM.sortZ l)).length : Nat) : Int) := by omega
  have HR := Lib.hid (ho2.head (min k (WM.compZ (WM.sortZ l)).length) (by omega))
  have HT : Hid ((WM.compZ (WM.sortZ l)).take (min k (WM.compZ (WM.sortZ l)).length) = (WM.compZ (WM.sortZ l)).take k) := by
    show _ = _
    rw [Nat.min_comm, ← List.take_take]
    exact List.take_of_length_le (by rw [List.length_take]; omega)
  have hm2 : min k (WM.compZ (WM.sortZ l)).length ≤ (WM.compZ (WM.sortZ l)).length := by omega
  have HG := Lib.hid (And.intro (grownBy_comp hg1 hg2) hob)
  clear hC ho2 hg1 hg2 hob
  generalize min k (WM.compZ (WM.sortZ l)).length = m at *
  go_wp2_with fail
  go_ret
  rw [← HS.out]
  exact ⟨.slice A2 m cap2, rfl, by rw [← HT.out]; exact HR.out, HG.out.1, (by cases A2 <;> rfl : (Value.slice A2 m cap2).ownBlock = (Value.slice A2 (WM.compZ (WM.sortZ l)).length cap2).ownBlock).trans HG.out.2⟩
theorem isSketch_any (k : Int) (b : Bool) (hb : (decide (1 ≤ k) && decide (k ≤ 200)) = b) (w : World) : Calls Tryz.prog 17 #[.int .i64 k] w fun e w' => e = .returned (.bool b) ∧ w = w' := by
  by_cases h1 : 1 ≤ k
  · go_enter Tryz.func17, Tryz.ntmps17
    go_wp2_with fail
    go_ret
    exact ⟨by rw [← hb]; simp [h1], rfl⟩
  · go_enter Tryz.func17, Tryz.ntmps17
    go_wp2_with fail
    go_ret
    exact ⟨by rw [← hb]; simp; omega, rfl⟩
end Go.Proofs.YtplocijdbadcjaaGreatDoor
