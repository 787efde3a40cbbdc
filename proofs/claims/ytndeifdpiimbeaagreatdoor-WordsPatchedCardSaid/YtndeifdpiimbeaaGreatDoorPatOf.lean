/- Contracts of the reference's PatchOf and TurnOf at any changes. -/
import Derived.Test.YtndeifdpiimbeaaGreatDoorPatched
namespace Go.Proofs.YtndeifdpiimbeaaGreatDoor
open Go.RowKit

theorem PatchOf_gen (s : ByteArray) (hs : Few s) (D : List WM.ZC) (AD : Option Addr) (cD : Nat) (base : Nat) (w : World) (hm : Mx w) (hD : RdZ w base AD D) (hk : OkZ D) :
    Calls Tryz.prog 8 #[.string s, .slice AD D.length cD] w fun e w' => e = .returned (.tuple #[.string (resP (WM.toks s) D), .int .i64 (codeP (WM.toks s) D)]) ∧ Below w.heap.size w w' := by
  have hP := patched_gen s hs D AD cD base w hm hD hk
  clear hs hm hD hk
  go_enter Tryz.func8, Tryz.ntmps8
  go_wp2_with fail
  refine hP.mono ?_
  rintro e w1 ⟨v, rfl, ho, hb⟩
  have HB := Lib.hid hb
  obtain ⟨r, hr⟩ : ∃ r, r = resP (WM.toks s) D := ⟨_, rfl⟩
  obtain ⟨c, hc⟩ : ∃ c, c = codeP (WM.toks s) D := ⟨_, rfl⟩
  rw [← hr, ← hc]
  have HR := Lib.hid (And.intro hr hc)
  clear hr hc
  clear hP ho hb
  go_wp2_with fail
  exact bodyPost_ret (v := .tuple #[.string r, .int .i64 c]) (by simp [results, Tryz.results8, go_sem]) rfl ⟨by rw [HR.out.1, HR.out.2], HB.out⟩
theorem TurnOf_gen (s : ByteArray) (hs : Few s) (D : List WM.ZC) (AD : Option Addr) (cD : Nat) (base : Nat) (w : World) (hm : Mx w) (hD : RdZ w base AD D) (hk : OkZ D) :
    Calls Tryz.prog 9 #[.string s, .slice AD D.length cD] w fun e w' => ∃ v, e = .returned (.tuple #[v, .int .i64 (codeP (WM.toks s) D)]) ∧ OwnC w' w.heap.size v (backP (WM.toks s) D) ∧ Below w.heap.size w w' := by
  have hP := patched_gen s hs D AD cD base w hm hD hk
  clear hs hm hD hk
  go_enter Tryz.func9, Tryz.ntmps9
  go_wp2_with fail
  refine hP.mono ?_
  rintro e w1 ⟨v, rfl, ho, hb⟩
  have HB := Lib.hid (And.intro ho hb)
  obtain ⟨r, hr⟩ : ∃ r, r = resP (WM.toks s) D := ⟨_, rfl⟩
  obtain ⟨c, hc⟩ : ∃ c, c = codeP (WM.toks s) D := ⟨_, rfl⟩
  rw [← hr, ← hc]
  have HR := Lib.hid (And.intro hr hc)
  clear hr hc
  clear hP ho hb
  go_wp2_with fail
  exact bodyPost_ret (v := .tuple #[v, .int .i64 c]) (by simp [results, Tryz.results9, go_sem]) rfl ⟨v, by rw [HR.out.2], HB.out.1, HB.out.2⟩
end Go.Proofs.YtndeifdpiimbeaaGreatDoor
