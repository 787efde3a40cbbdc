/- Contract of the reference's SpansFault. -/
import Derived.Test.YtjfhgoladfbeoaaDoorSpCheck
namespace Go.Proofs.YtjfhgoladfbeoaaDoor
open Go.RowKit

def SfRel (w : World) (z : Int) (L : List (Int × Int)) (i : Value) (wr : World) : Prop := ∃ (k : Nat) (last : Int), i = .int .i64 k ∧ k ≤ L.length ∧ Hid (WM.spFault z L = WM.spBad z last (L.drop k)) ∧ Hid ((k = 0 ∧ last = -1) ∨ ∃ p, 0 < k ∧ L[k - 1]? = some (p, last)) ∧ Below w.heap.size w wr
set_option maxHeartbeats 2000000 in
theorem SpansFault_any {w : World} {b : Nat} {v : Value} {L : List (Int × Int)} (h : OwnI w b v L) (z : Int) : Calls Tryd.prog 7 #[v, .int .i64 z] w (SaysN (WM.spFault z L) w) := by
  obtain ⟨A, cap, rfl, hl, hf⟩ := h.form
  clear h
  by_cases h0 : z < 0
  · have HE := Lib.hid (show (1 : Int) = WM.spFault z L by unfold WM.spFault; rw [if_pos (.inl h0)])
    clear hf
    go_enter Tryd.func7, Tryd.ntmps7
    go_wp2_with fail
    go_ret
    exact saysN_of HE.out (Below.refl _ _)
  by_cases h1 : 200000 < z
  · have HE := Lib.hid (show (1 : Int) = WM.spFault z L by unfold WM.spFault; rw [if_pos (.inr h1)])
    clear hf
    go_enter Tryd.func7, Tryd.ntmps7
    go_wp2_with fail
    go_ret
    exact saysN_of HE.out (Below.refl _ _)
  by_cases h2 : 1000 < L.length
  · have HE := Lib.hid (show (2 : Int) = WM.spFault z L by unfold WM.spFault; rw [if_neg (by omega), if_pos h2])
    clear hf
    go_enter Tryd.func7, Tryd.ntmps7
    go_wp2_with fail
    go_ret
    exact saysN_of HE.out (Below.refl _ _)
  have HE := Lib.hid (show WM.spFault z L = WM.spBad z (-1) (L.drop 0) by unfold WM.spFault; rw [if_neg (by omega), if_neg h2]; rfl)
  go_enter Tryd.func7, Tryd.ntmps7
  go_wp2_with fail
  go_loopw [18] (fun i wr => SfRel w z L i wr) (fun i _ => L.length - (intOf i).toNat)
  case atStart => exact ⟨0, -1, rfl, Nat.zero_le _, HE, Lib.hid (.inl ⟨rfl, rfl⟩), Below.refl _ _⟩
  case round =>
    obtain ⟨k, last, rfl, hk, HK, HL, hbw⟩ := hrel
    have hsz := hbw.size
    by_cases hlt : k < L.length
    · obtain ⟨g, rfl, hg1, hg2, hfz, hcs⟩ := hf (by omega)
      have hx := List.getElem?_eq_getElem hlt
      generalize L[k] = x at hx
      obtain ⟨p, q⟩ := x
      obtain ⟨hc1, hc2⟩ := hcs k _ hx
      have hd1 := (hbw.cell (p := ⟨g, k * 2, none⟩) hg2).trans hc1
      have hd2 := (hbw.cell (p := ⟨g, k * 2 + 1, none⟩) hg2).trans hc2
      simp only at hd1 hd2
      have HD := Lib.hid (drop_at hx)
      have HX := Lib.hid hx
      have HB := Lib.hid hbw
      clear hx hc1 hc2 hfz
      by_cases a1 : p < 0
      · have HR := Lib.hid (show (1 : Int) = WM.spFault z L by rw [HK.out, HD.out, WM.spBad_arg (.inl a1)])
        clear hbw hcs hf
        go_wp2_with fail
        go_ret
        exact saysN_of HR.out (HB.out.alloc hsz _)
      by_cases a2 : q ≤ p
      · have HR := Lib.hid (show (1 : Int) = WM.spFault z L by rw [HK.out, HD.out, WM.spBad_arg (.inr (.inl a2))])
        clear hbw hcs hf
        go_wp2_with fail
        go_ret
        exact saysN_of HR.out (HB.out.alloc hsz _)
      by_cases a3 : z < q
      · have HR := Lib.hid (show (1 : Int) = WM.spFault z L by rw [HK.out, HD.out, WM.spBad_arg (.inr (.inr a3))])
        clear hbw hcs hf
        go_wp2_with fail
        go_ret
        exact saysN_of HR.out (HB.out.alloc hsz _)
      rcases HL.out with ⟨rfl, rfl⟩ | ⟨p0, hk0, hp0⟩
      · have HR := Lib.hid (show WM.spFault z L = WM.spBad z q (L.drop (0 + 1)) by rw [HK.out, HD.out, WM.spBad_next (by omega) (by omega)])
        clear hbw hcs hf
        go_wp2_with fail
        go_quiet (fail)
        go_wp2_with fail
        exact ⟨⟨0 + 1, q, by simp, by omega, HR, Lib.hid (.inr ⟨p, by omega, HX.out⟩), below_drewN (HB.out.alloc hsz _) _⟩, by simp [intOf]; omega⟩
      · obtain ⟨_, he2⟩ := hcs (k - 1) _ hp0
        have hd3 := (hbw.cell (p := ⟨g, (k - 1) * 2 + 1, none⟩) hg2).trans he2
        simp only at hd3
        obtain ⟨j, rfl⟩ : ∃ j, k = j + 1 := ⟨k - 1, by omega⟩
        simp only [Nat.add_sub_cancel] at hd3
        have hd4 : (wr.alloc (.cells #[.int .i64 p, .int .i64 q] 37)).cell? ⟨g, j * 2 + 1, none⟩ = some (.int .i64 last) := (((Below.refl wr.heap.size wr).alloc (Nat.le_refl _) _).cell (p := ⟨g, j * 2 + 1, none⟩) (by show g < _; omega)).trans hd3
        have e1 : IntKind.i64.wrap (j : Int) = (j : Int) := IntWalk.i64_in _ ⟨by omega, by omega⟩
        have e2 : IntKind.i64.wrap ((j : Int) + 1 - 1) = (j : Int) := by rw [IntWalk.i64_in _ ⟨by omega, by omega⟩]; omega
        have e3 : decide (0 < (j : Int) + 1) = true := decide_eq_true (by omega)
        have e4 : (j : Int) < (L.length : Int) := by omega
        have e5 : 0 ≤ (j : Int) := by omega
        clear hbw hcs hf hp0 he2
        by_cases a4 : p ≤ last
        · have HR := Lib.hid (show (7 : Int) = WM.spFault z L by rw [HK.out, HD.out, WM.spBad_order (by omega) a4])
          go_wp2_with fail
          go_quiet (fail)
          go_wp2_with fail
          go_ret
          exact saysN_of HR.out (below_drewN (HB.out.alloc hsz _) _)
        · have HR := Lib.hid (show WM.spFault z L = WM.spBad z q (L.drop (j + 1 + 1)) by rw [HK.out, HD.out, WM.spBad_next (by omega) a4])
          go_wp2_with fail
          go_quiet (fail)
          go_wp2_with fail
          exact ⟨⟨j + 1 + 1, q, by simp, by omega, HR, Lib.hid (.inr ⟨p, by omega, HX.out⟩), below_drewN (HB.out.alloc hsz _) _⟩, by simp [intOf]; omega⟩
    · have HR := Lib.hid (show (0 : Int) = WM.spFault z L by rw [HK.out, List.drop_of_length_le (by omega)]; rfl)
      go_wp2_with fail
      go_ret
      exact saysN_of HR.out hbw
end Go.Proofs.YtjfhgoladfbeoaaDoor
