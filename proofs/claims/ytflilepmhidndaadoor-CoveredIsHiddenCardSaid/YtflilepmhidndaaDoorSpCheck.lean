/- Contract of privilege.CheckSpans. -/
import Derived.Test.YtflilepmhidndaaDoorSpRow
import Derived.Test.YtflilepmhidndaaDoorSpM
import Derived.IntWalk
namespace WM
/-- what is wrong with spans, where the one before them ends at last -/
def spBad (z : Int) : Int → List (Int × Int) → Int
  | _, [] => 0
  | last, s :: L => if s.1 < 0 ∨ s.2 ≤ s.1 ∨ z < s.2 then 1 else if s.1 ≤ last then 7 else spBad z s.2 L
def spFault (z : Int) (L : List (Int × Int)) : Int := if z < 0 ∨ 200000 < z then 1 else if 1000 < L.length then 2 else spBad z (-1) L
theorem spBad_ok (z : Int) : ∀ (last : Int) (L : List (Int × Int)), spBad z last L = 0 → sep L ∧ ∀ s, s ∈ L → 0 ≤ s.1 ∧ s.2 ≤ z ∧ last < s.1
  | _, [], _ => ⟨trivial, fun s hs => by cases hs⟩
  | last, s :: L, h => by
    unfold spBad at h
    split at h
    · cases h
    · split at h
      · cases h
      · rename_i h1 h2
        obtain ⟨i1, i2⟩ := spBad_ok z s.2 L h
        refine ⟨⟨by omega, fun t ht => (i2 t ht).2.2, i1⟩, fun t ht => ?_⟩
        rcases List.mem_cons.1 ht with rfl | ht
        · omega
        · have := i2 t ht; omega
theorem spFault_ok {z : Int} {L : List (Int × Int)} (h : spFault z L = 0) : 0 ≤ z ∧ z ≤ 200000 ∧ L.length ≤ 1000 ∧ sep L ∧ ∀ s, s ∈ L → 0 ≤ s.1 ∧ s.2 ≤ z := by
  unfold spFault at h
  split at h
  · cases h
  · split at h
    · cases h
    · obtain ⟨h1, h2⟩ := spBad_ok _ _ _ h
      exact ⟨by omega, by omega, by omega, h1, fun s hs => ⟨(h2 s hs).1, (h2 s hs).2.1⟩⟩
theorem spBad_arg {z last p q : Int} {L : List (Int × Int)} (h : p < 0 ∨ q ≤ p ∨ z < q) : spBad z last ((p, q) :: L) = 1 := by simp only [spBad]; rw [if_pos h]
theorem spBad_order {z last p q : Int} {L : List (Int × Int)} (h : ¬ (p < 0 ∨ q ≤ p ∨ z < q)) (h2 : p ≤ last) : spBad z last ((p, q) :: L) = 7 := by simp only [spBad]; rw [if_neg h, if_pos h2]
theorem spBad_next {z last p q : Int} {L : List (Int × Int)} (h : ¬ (p < 0 ∨ q ≤ p ∨ z < q)) (h2 : ¬ p ≤ last) : spBad z last ((p, q) :: L) = spBad z q L := by simp only [spBad]; rw [if_neg h, if_neg h2]
end WM
namespace Go.Proofs.YtflilepmhidndaaDoor
open Go.RowKit

def CsRel (w : World) (z : Int) (L : List (Int × Int)) (l i : Value) (wr : World) : Prop := ∃ (k : Nat) (last : Int), i = .int .i64 k ∧ k ≤ L.length ∧ l = .int .i64 last ∧ Hid (WM.spFault z L = WM.spBad z last (L.drop k)) ∧ Below w.heap.size w wr
theorem drop_at {L : List (Int × Int)} {k : Nat} {x : Int × Int} (h : L[k]? = some x) : L.drop k = x :: L.drop (k + 1) := by
  obtain ⟨hk, rfl⟩ := List.getElem?_eq_some_iff.1 h
  exact List.drop_eq_getElem_cons hk
set_option maxHeartbeats 2000000 in
theorem CheckSpans_any {w : World} {b : Nat} {v : Value} {L : List (Int × Int)} (h : OwnI w b v L) (z : Int) : Calls Tryd.prog 39 #[v, .int .i64 z] w (SaysN (WM.spFault z L) w) := by
  obtain ⟨A, cap, rfl, hl, hf⟩ := h.form
  clear h
  by_cases h0 : z < 0
  · have HE := Lib.hid (show (1 : Int) = WM.spFault z L by unfold WM.spFault; rw [if_pos (.inl h0)])
    clear hf
    go_enter Tryd.func39, Tryd.ntmps39
    go_wp2_with fail
    go_ret
    exact saysN_of HE.out (Below.refl _ _)
  by_cases h1 : 200000 < z
  · have HE := Lib.hid (show (1 : Int) = WM.spFault z L by unfold WM.spFault; rw [if_pos (.inr h1)])
    clear hf
    go_enter Tryd.func39, Tryd.ntmps39
    go_wp2_with fail
    go_ret
    exact saysN_of HE.out (Below.refl _ _)
  by_cases h2 : 1000 < L.length
  · have HE := Lib.hid (show (2 : Int) = WM.spFault z L by unfold WM.spFault; rw [if_neg (by omega), if_pos h2])
    clear hf
    go_enter Tryd.func39, Tryd.ntmps39
    go_wp2_with fail
    go_ret
    exact saysN_of HE.out (Below.refl _ _)
  have HE := Lib.hid (show WM.spFault z L = WM.spBad z (-1) (L.drop 0) by unfold WM.spFault; rw [if_neg (by omega), if_neg h2]; rfl)
  go_enter Tryd.func39, Tryd.ntmps39
  go_wp2_with fail
  go_loopw [5, 19] (fun l i wr => CsRel w z L l i wr) (fun _ i _ => L.length - (intOf i).toNat)
  case atStart => exact ⟨0, -1, rfl, Nat.zero_le _, rfl, HE, Below.refl _ _⟩
  case round =>
    obtain ⟨k, last, rfl, hk, rfl, HK, hbw⟩ := hrel
    have hsz := hbw.size
    by_cases hlt : k < L.length
    · obtain ⟨g, rfl, hg1, hg2, hfz, hcs⟩ := hf (by omega)
      have hx := List.getElem?_eq_getElem hlt
      generalize L[k] = x at hx
      obtain ⟨p, q⟩ := x
      obtain ⟨hc1, hc2⟩ := hcs k _ hx
      have hd1 := (hbw.cell (p := ⟨g, k * 2, none⟩) hg2).trans hc1
      have hd2 := (hbw.cell (p := ⟨g, k * 2 + 1, none⟩) hg2).trans hc2
      simp only at hd1 hd2
      have HD := Lib.hid (drop_at hx)
      have HB := Lib.hid hbw
      clear hx hc1 hc2 hbw hcs hf hfz
      by_cases a1 : p < 0
      · have HR := Lib.hid (show (1 : Int) = WM.spFault z L by rw [HK.out, HD.out, WM.spBad_arg (.inl a1)])
        go_wp2_with fail
        go_ret
        exact saysN_of HR.out (HB.out.alloc hsz _)
      by_cases a2 : q ≤ p
      · have HR := Lib.hid (show (1 : Int) = WM.spFault z L by rw [HK.out, HD.out, WM.spBad_arg (.inr (.inl a2))])
        go_wp2_with fail
        go_ret
        exact saysN_of HR.out (HB.out.alloc hsz _)
      by_cases a3 : z < q
      · have HR := Lib.hid (show (1 : Int) = WM.spFault z L by rw [HK.out, HD.out, WM.spBad_arg (.inr (.inr a3))])
        go_wp2_with fail
        go_ret
        exact saysN_of HR.out (HB.out.alloc hsz _)
      by_cases a4 : p ≤ last
      · have HR := Lib.hid (show (7 : Int) = WM.spFault z L by rw [HK.out, HD.out, WM.spBad_order (by omega) a4])
        go_wp2_with fail
        go_ret
        exact saysN_of HR.out (HB.out.alloc hsz _)
      · have HR := Lib.hid (show WM.spFault z L = WM.spBad z q (L.drop (k + 1)) by rw [HK.out, HD.out, WM.spBad_next (by omega) a4])
        go_wp2_with fail
        exact ⟨⟨k + 1, q, by simp, by omega, rfl, HR, HB.out.alloc hsz _⟩, by simp [intOf]; omega⟩
    · have HR := Lib.hid (show (0 : Int) = WM.spFault z L by rw [HK.out, List.drop_of_length_le (by omega)]; rfl)
      go_wp2_with fail
      go_ret
      exact saysN_of HR.out hbw
end Go.Proofs.YtflilepmhidndaaDoor
