/- Contracts of fewTokens, bothTokens, Distance; slices.Clone of a part of a row. -/
import Derived.Test.YtmkbfnghkcjogaaDoorKeep
import Derived.Test.YtmkbfnghkcjogaaDoorTokens
import Derived.Test.YtmkbfnghkcjogaaDoorLay2x16
import Derived.Shelf.Slices.Clone
namespace Go.Proofs.YtmkbfnghkcjogaaDoor
open Go.RowKit

/-- a string of few tokens -/
def Few (s : ByteArray) : Prop := s.size ≤ 20000 ∧ (WM.toks s).length ≤ 2000
theorem Clone_any (l : List ByteArray) (n : Nat) (hn : l.length = n) (A : Option Addr) (c : Nat) (w : World) (h : RdO w A l) (hl : n ≤ 1000000000) : Calls Tryd.prog 17 #[.slice A n c] w (RowOwn l w) := by
  subst hn
  rcases Nat.eq_zero_or_pos l.length with e | p
  · have hnil : l = [] := List.eq_nil_of_length_eq_zero e
    subst hnil
    rcases A with _ | a
    · refine (Any.slices_Clone_string_nil Tryd.lays_2_16 0 c w).mono ?_
      rintro e w1 ⟨rfl, rfl⟩
      exact ⟨_, rfl, OwnS.nil _ _, Below.refl _ _⟩
    · refine (Any.slices_Clone_string_zero Tryd.lays_2_16 a c w).mono ?_
      rintro e w1 ⟨v1, rfl, ho1, _, hb1⟩
      exact ⟨_, rfl, ho1, hb1⟩
  · obtain ⟨g, off, rfl, hg, hc⟩ := h p
    have hC := Any.slices_Clone_string Tryd.lays_2_16 g off l.length c l w (Nat.le_refl _) (by omega) (fun j hj => by
      refine (hc j _ (List.getElem?_eq_getElem hj)).trans ?_
      rw [List.getD_eq_getElem?_getD, List.getElem?_eq_getElem hj]; rfl)
    rw [List.take_length] at hC
    refine hC.mono ?_
    rintro e w1 ⟨v1, rfl, ho1, _, hb1⟩
    exact ⟨_, rfl, ho1, hb1⟩
set_option maxHeartbeats 1000000 in
theorem fewTokens_any (s : ByteArray) (hf : Few s) (w : World) (hm : Mx w) : Calls Tryd.prog 18 #[.string s] w fun e w' => ∃ v, e = .returned (.tuple #[v, .int .i64 0]) ∧ OwnS w' w.heap.size v (WM.toks s) ∧ Below w.heap.size w w' := by
  obtain ⟨h1, h2⟩ := hf
  have hT := Tokens_any s (by omega) w hm
  generalize WM.toks s = l at *
  clear hm
  go_enter Tryd.func18, Tryd.ntmps18
  go_wp2_with fail
  refine hT.mono ?_
  rintro e w1 ⟨v, rfl, ho, hb⟩
  obtain ⟨A, cap, rfl, _⟩ := ho.form
  have HO := Lib.hid (And.intro ho hb)
  clear hT ho hb h1
  go_wp2_with fail
  exact bodyPost_ret (v := .tuple #[.slice A l.length cap, .int .i64 0]) (by simp [results, Tryd.results18, go_sem]) rfl ⟨_, rfl, HO.out⟩
set_option maxHeartbeats 1000000 in
theorem bothTokens_any (a b : ByteArray) (ha : Few a) (hb : Few b) (w : World) (hm : Mx w) : Calls Tryd.prog 15 #[.string a, .string b] w fun e w' => ∃ v1 v2, e = .returned (.tuple #[v1, v2, .int .i64 0]) ∧ OwnS w' w.heap.size v1 (WM.toks a) ∧ OwnS w' w.heap.size v2 (WM.toks b) ∧ Below w.heap.size w w' := by
  have h1 := fewTokens_any a ha w hm
  have HM := Lib.hid hm
  have h2 := fun W (h : Mx W) => fewTokens_any b hb W h
  clear hm
  go_enter Tryd.func15, Tryd.ntmps15
  go_wp2_with fail
  refine h1.mono ?_
  rintro e w1 ⟨v1, rfl, ho1, hb1⟩
  have HO := Lib.hid (And.intro ho1 hb1)
  have h3 := h2 w1 (HM.out.below hb1 HM.out.2)
  clear h1 h2 ho1 hb1
  go_wp2_with fail
  refine h3.mono ?_
  rintro e w2 ⟨v2, rfl, ho2, hb2⟩
  obtain ⟨A1, c1, e1, _⟩ := HO.out.1.rd
  subst e1
  obtain ⟨A2, c2, e2, _⟩ := ho2.rd
  subst e2
  have HO2 := Lib.hid (And.intro (HO.out.1.below hb2 (Nat.le_refl _)) (And.intro (ho2.less HO.out.2.size) (HO.out.2.trans (hb2.mono HO.out.2.size))))
  clear h3 ho2 hb2
  go_wp2_with fail
  exact bodyPost_ret (v := .tuple #[.slice A1 (WM.toks a).length c1, .slice A2 (WM.toks b).length c2, .int .i64 0]) (by simp [results, Tryd.results15, go_sem]) rfl ⟨_, _, rfl, HO2.out.1, HO2.out.2.1, HO2.out.2.2⟩
noncomputable def dist (X Y : List ByteArray) : Int := (X.length : Int) + Y.length - 2 * (WM.kept X Y).length
set_option maxHeartbeats 1000000 in
theorem Distance_any (a b : ByteArray) (ha : Few a) (hb : Few b) (w : World) (hm : Mx w) : Calls Tryd.prog 9 #[.string a, .string b] w fun e w' => e = .returned (.tuple #[.int .i64 (dist (WM.toks a) (WM.toks b)), .int .i64 0]) ∧ Below w.heap.size w w' := by
  have h1 := bothTokens_any a b ha hb w hm
  obtain ⟨_, la⟩ := ha
  obtain ⟨_, lb⟩ := hb
  generalize WM.toks a = X at *
  generalize WM.toks b = Y at *
  have hk := WM.kept_len X Y
  clear hm
  go_enter Tryd.func9, Tryd.ntmps9
  go_wp2_with fail
  refine h1.mono ?_
  rintro e w1 ⟨v1, v2, rfl, ho1, ho2, hb1⟩
  obtain ⟨A1, c1, rfl, hr1⟩ := ho1.rd
  obtain ⟨A2, c2, rfl, hr2⟩ := ho2.rd
  have hK := keep_any X Y A1 A2 c1 c2 w1 hr1 hr2 la lb ho2.cap_le
  have HO := Lib.hid hb1
  clear h1 ho1 ho2 hb1 hr1 hr2
  go_wp2_with fail
  refine hK.mono ?_
  rintro e w2 ⟨v, rfl, ho, hb2⟩
  obtain ⟨A, cap, rfl, _, _⟩ := ho.form
  have HO2 := Lib.hid (HO.out.trans (hb2.mono HO.out.size))
  clear hK ho hb2
  generalize hkk : (WM.kept X Y).length = kk at *
  go_wp2_with fail
  refine bodyPost_ret (v := .tuple #[.int .i64 ((X.length : Int) + Y.length - 2 * kk), .int .i64 0]) (by simp [results, Tryd.results9, go_sem]) rfl ⟨by unfold dist; rw [hkk], HO2.out⟩
end Go.Proofs.YtmkbfnghkcjogaaDoor
