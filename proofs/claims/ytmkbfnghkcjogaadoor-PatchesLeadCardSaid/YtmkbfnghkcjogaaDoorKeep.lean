/- Contract of the program's keep. -/
import Derived.Test.YtmkbfnghkcjogaaDoorPairs
namespace Go.Proofs.YtmkbfnghkcjogaaDoor
open Go.RowKit

def KpRel (w1 : World) (X Y : List ByteArray) (l j i : Value) (wr : World) : Prop := ∃ (k jj : Nat) (acc : List (Nat × Nat)), i = .int .i64 k ∧ j = .int .i64 jj ∧ k ≤ X.length ∧ jj ≤ Y.length ∧ WM.kpK X Y k = (acc, jj) ∧ acc.length ≤ k ∧ OwnQ 50 wr w1.heap.size l acc ∧ Below w1.heap.size w1 wr
theorem kp_len (A B : List ByteArray) : ∀ i, i ≤ A.length → (WM.kpK A B i).1.length ≤ i := by
  intro i
  induction i with
  | zero => intro _; simp [WM.kpK]
  | succ i ih =>
    intro hi
    have := ih (by omega)
    rcases Classical.em (∃ k, (WM.kpK A B i).2 ≤ k ∧ WM.Fit A B i (WM.kpK A B i).2 k ∧ ∀ q, (WM.kpK A B i).2 ≤ q → q < k → B[q]? ≠ A[i]?) with ⟨k, h1, h2, h3⟩ | h
    · rw [WM.kp_hit (i := i) rfl h1 h2 h3]; simp; omega
    · rw [WM.kp_miss (i := i) rfl (fun k hk hf => h ⟨k, hk, hf⟩)]; exact Nat.le_succ_of_le this
/-- a row of pairs of the call's own is answered -/
def PairsNew (et : TypeId) (L : List (Nat × Nat)) (w : World) (e : Ending) (w' : World) : Prop := ∃ v, e = .returned v ∧ OwnQ et w' w.heap.size v L ∧ Below w.heap.size w w'
set_option maxHeartbeats 8000000 in
set_option maxRecDepth 1000000 in
theorem keep_any (X Y : List ByteArray) (A1 A2 : Option Addr) (c1 c2 : Nat) (w : World) (h1 : Rd w A1 X) (h2 : Rd w A2 Y) (hx : X.length ≤ 2000) (hy : Y.length ≤ 2000) (hc2 : Y.length ≤ c2) :
    Calls Tryd.prog 16 #[.slice A1 X.length c1, .slice A2 Y.length c2] w (PairsNew 50 (WM.kept X Y) w) := by
  have hM := mostKept_any X Y A1 A2 c1 c2 w h1 h2 hx hy
  have H1 := Lib.hid (And.intro h1 h2)
  clear h1 h2
  go_enter Tryd.func16, Tryd.ntmps16
  go_wp2_with fail
  refine hM.mono ?_
  rintro e w1 ⟨rfl, hT⟩
  clear hM
  have HT := Lib.hid hT
  have HL := Lib.hid hT.size
  clear hT
  go_wp2_with fail
  go_loopw [6, 7, 16] (fun l j i wr => KpRel w1 X Y l j i wr) (fun _ _ i _ => X.length - (intOf i).toNat)
  case atStart => exact ⟨0, 0, [], rfl, rfl, Nat.zero_le _, Nat.zero_le _, rfl, Nat.le_refl _, OwnQ.nil _ _ _, Below.refl _ _⟩
  case round =>
    obtain ⟨k, jj, acc, rfl, rfl, hk, hjj, hkp, hal, hown, hbw⟩ := hrel
    obtain ⟨wo, rfl⟩ : ∃ wo : World, wo = wr := ⟨_, rfl⟩
    by_cases hlt : k < X.length
    · obtain ⟨g1, rfl, hg1, hc1⟩ := H1.out.1 (by omega)
      have hx0 := List.getElem?_eq_getElem hlt
      generalize X[k] = x at hx0
      have d1 := (hbw.cell (p := ⟨g1, k, none⟩) (Nat.lt_of_lt_of_le hg1 HT.out.below.size)).trans ((HT.out.below.cell (p := ⟨g1, k, none⟩) hg1).trans (hc1 k x hx0))
      have HX := Lib.hid hx0
      have HO := Lib.hid (And.intro hown (And.intro hbw hkp))
      have hR1 : ∀ A, Y.length ≤ jj → RdO wo A (Y.drop jj) := fun A h => RdO.none_ _ _ _ (by simp; omega)
      have hR2 := Rd.drop (Rd.below (Rd.below H1.out.2 HT.out.below) hbw) jj
      have hI := fun A c (h : RdO wo A (Y.drop jj)) => Index_any (Y.drop jj) x (Y.length - jj) (by simp) A c wo h (by omega)
      have b0 : w.heap.size < w1.heap.size := by rw [HL.out]; omega
      have t0 := (hbw.cell (p := ⟨w.heap.size, k, none⟩) b0).trans (HT.out.at_top (show k < X.length + 1 by omega))
      have t1 := (hbw.cell (p := ⟨w.heap.size, k + 1, none⟩) b0).trans (HT.out.at_top (show k + 1 < X.length + 1 by omega))
      have t2 := (hbw.cell (p := ⟨w.heap.size + 1 + k, jj, none⟩) (by show w.heap.size + 1 + k < w1.heap.size; rw [HL.out]; omega)).trans (HT.out.at_ (show k < X.length + 1 by omega) (show jj < Y.length + 1 by omega))
      by_cases hcj : jj = c2
      · have hfo : WM.firstOf x (Y.drop jj) = none := by rw [List.drop_eq_nil_of_le (by omega)]; rfl
        subst hcj
        have HN := Lib.hid (WM.kp_none HO.out.2.2 hx0 hfo)
        rw [hfo, show idx none = -1 from rfl] at hI
        have HJ := Lib.hid (And.intro hjj hc2)
        clear hc1 hx0 hown hbw hkp hfo t0 t1 t2 hc2
        go_wp2_with fail
        refine (hI _ _ (hR1 _ HJ.out.2)).mono ?_
        rintro e w3 ⟨rfl, rfl⟩
        clear hI hR1 hR2
        go_wp2_with fail
        go_quiet (fail)
        go_wp2_with fail
        exact ⟨⟨k + 1, jj, acc, by simp, rfl, by omega, by omega, HN.out, by omega, HO.out.1.drewN _, below_drewN HO.out.2.1 _⟩, by simp [intOf]; omega⟩
      have hcj' : ¬ c2 = jj := fun h => hcj h.symm
      cases hfo : WM.firstOf x (Y.drop jj) with
      | none =>
        have HN := Lib.hid (WM.kp_none HO.out.2.2 hx0 hfo)
        rw [hfo, show idx none = -1 from rfl] at hI
        clear hc1 hx0 hown hbw hkp hfo t0 t1 t2
        go_wp2_with fail
        refine (hI _ _ (hR2)).mono ?_
        rintro e w3 ⟨rfl, rfl⟩
        clear hI hR1 hR2
        go_wp2_with fail
        go_quiet (fail)
        go_wp2_with fail
        exact ⟨⟨k + 1, jj, acc, by simp, rfl, by omega, by omega, HN.out, by omega, HO.out.1.drewN _, below_drewN HO.out.2.1 _⟩, by simp [intOf]; omega⟩
      | some s =>
        rw [hfo, show idx (some s) = (s : Int) from rfl] at hI
        have hsl := WM.firstOf_lt hfo
        rw [List.length_drop] at hsl
        have t3 := (hbw.cell (p := ⟨w.heap.size + 1 + (k + 1), jj + s + 1, none⟩) (by show w.heap.size + 1 + (k + 1) < w1.heap.size; rw [HL.out]; omega)).trans (HT.out.at_ (show k + 1 < X.length + 1 by omega) (show jj + s + 1 < Y.length + 1 by omega))
        have e1 := WM.tb_le X Y (k + 1) (jj + s + 1)
        have hw := wrap16_in (1 + (WM.tb X Y (k + 1) (jj + s + 1) : Int)) (by omega) (by omega)
        have hge : decide ((0 : Int) ≤ (s : Int)) = true := by simp
        by_cases hq : WM.tb X Y k jj = 1 + WM.tb X Y (k + 1) (jj + s + 1)
        · have HN := Lib.hid (WM.kp_some HO.out.2.2 hx0 hfo hq)
          have hb : ((WM.tb X Y k jj : Int) == 1 + (WM.tb X Y (k + 1) (jj + s + 1) : Int)) = true := by rw [beq_iff_eq]; omega
          clear hc1 hx0 hown hbw hkp hfo hq e1
          go_wp2_with fail
          refine (hI _ _ hR2).mono ?_
          rintro e w3 ⟨rfl, rfl⟩
          clear hI hR1 hR2
          go_wp2_with fail
          go_quiet (fail)
          go_wp2_with (at_builtin; refine app_pair two_kept _ rfl (.tmp 50) (.tmp 56) rfl w1.heap.size _ acc rfl ((HO.out.1.drewN _).alloc _) _ k (jj + s) rfl ?_ (lits_pair _ k (jj + s) _) ?d1 ?d2; intro v2 w6 hown2 hg2)
          case d1 => omega
          case d2 => have := HO.out.2.1.size; simp; omega
          go_wp2_with fail
          exact ⟨⟨k + 1, jj + s + 1, acc ++ [(k, jj + s)], by simp, by simp; omega, by omega, by omega, HN.out, by simp; omega, hown2, ((below_drewN HO.out.2.1 _).alloc HO.out.2.1.size _).grown hg2 (by have := HO.out.2.1.size; simp; omega) (fun j hj => (HO.out.1.lt j hj).1)⟩, by simp [intOf]; omega⟩
        · have HN := Lib.hid (WM.kp_less HO.out.2.2 hx0 hfo hq)
          have hb : ((WM.tb X Y k jj : Int) == 1 + (WM.tb X Y (k + 1) (jj + s + 1) : Int)) = false := beq_eq_false_iff_ne.2 (by omega)
          clear hc1 hx0 hown hbw hkp hfo hq e1
          go_wp2_with fail
          refine (hI _ _ hR2).mono ?_
          rintro e w3 ⟨rfl, rfl⟩
          clear hI hR1 hR2
          go_wp2_with fail
          go_quiet (fail)
          go_wp2_with fail
          exact ⟨⟨k + 1, jj, acc, by simp, rfl, by omega, by omega, HN.out, by omega, HO.out.1.drewN _, below_drewN HO.out.2.1 _⟩, by simp [intOf]; omega⟩
    · obtain rfl : k = X.length := by omega
      have HR := Lib.hid (And.intro hown (And.intro hbw hkp))
      clear hown hbw hkp
      go_wp2_with fail
      go_ret
      exact ⟨_, rfl, by unfold WM.kept; rw [HR.out.2.2]; exact HR.out.1.less HT.out.below.size, HT.out.below.trans (HR.out.2.1.mono HT.out.below.size)⟩
end Go.Proofs.YtmkbfnghkcjogaaDoor
