/- Contracts of fewTokens, bothTokens, Distance; slices.Clone of a part of a row. -/
import Derived.Test.YtndeifdpiimbeaaGreatDoorKeep0
import Derived.Test.YtndeifdpiimbeaaGreatDoorTokens
import Derived.Test.YtndeifdpiimbeaaGreatDoorLays
import Derived.Shelf.Slices.Clone
namespace Go.Proofs.YtndeifdpiimbeaaGreatDoor
open Go.RowKit

/-- a string of few tokens -/
def Few (s : ByteArray) : Prop := s.size ≤ 20000 ∧ (WM.toks s).length ≤ 2000
theorem Clone_any (l : List ByteArray) (n : Nat) (hn : l.length = n) (A : Option Addr) (c : Nat) (w : World) (h : RdO w A l) (hl : n ≤ 1000000000) : Calls Tryz.prog 18 #[.slice A n c] w (RowOwn l w) := by
  subst hn
  rcases Nat.eq_zero_or_pos l.length with e | p
  · have hnil : l = [] := List.eq_nil_of_length_eq_zero e
    subst hnil
    rcases A with _ | a
    · refine (Any.slices_Clone_string_nil Tryz.lays_2_16 0 c w).mono ?_
      rintro e w1 ⟨rfl, rfl⟩
      exact ⟨_, rfl, OwnS.nil _ _, Below.refl _ _⟩
    · refine (Any.slices_Clone_string_zero Tryz.lays_2_16 a c w).mono ?_
      rintro e w1 ⟨v1, rfl, ho1, _, hb1⟩
      exact ⟨_, rfl, ho1, hb1⟩
  · obtain ⟨g, off, rfl, hg, hc⟩ := h p
    have hC := Any.slices_Clone_string Tryz.lays_2_16 g off l.length c l w (Nat.le_refl _) (by omega) (fun j hj => by
      refine (hc j _ (List.getElem?_eq_getElem hj)).trans ?_
      rw [List.getD_eq_getElem?_getD, List.getElem?_eq_getElem hj]; rfl)
    rw [List.take_length] at hC
    refine hC.mono ?_
    rintro e w1 ⟨v1, rfl, ho1, _, hb1⟩
    exact ⟨_, rfl, ho1, hb1⟩
set_option maxHeartbeats 1000000 in
theorem fewTokens_any (s : ByteArray) (hf : Few s) (w : World) (hm : Mx w) : Calls Tryz.prog 20 #[.string s] w fun e w' => ∃ v, e = .returned (.tuple #[v, .int .i64 0]) ∧ OwnS w' w.heap.size v (WM.toks s) ∧ Below w.heap.size w w' := by
  obtain ⟨h1, h2⟩ := hf
  have hT := Tokens_any s (by omega) w hm
  generalize WM.toks s = l at *
  clear hm
  go_enter Tryz.func20, Tryz.ntmps20
  go_wp2_with fail
  refine hT.mono ?_
  rintro e w1 ⟨v, rfl, ho, hb⟩
  obtain ⟨A, cap, rfl, _⟩ := ho.form
  have HO := Lib.hid (And.intro ho hb)
  clear hT ho hb h1
  go_wp2_with fail
  exact bodyPost_ret (v := .tuple #[.slice A l.length cap, .int .i64 0]) (by simp [results, Tryz.results20, go_sem]) rfl ⟨_, rfl, HO.out⟩
noncomputable def dist (X Y : List ByteArray) : Int := (X.length : Int) + Y.length - 2 * (WM.kept X Y).length
end Go.Proofs.YtndeifdpiimbeaaGreatDoor
