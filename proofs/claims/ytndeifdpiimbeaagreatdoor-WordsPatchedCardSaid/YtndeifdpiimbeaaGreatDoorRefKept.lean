/- Contract of the reference's keptOf. -/
import Derived.Test.YtndeifdpiimbeaaGreatDoorKeep0
namespace Go.Proofs.YtndeifdpiimbeaaGreatDoor
open Go.RowKit

theorem two_arr : Two 62 64 := ⟨Tryz.underlying62, by kernel_rfl⟩
theorem info_int : (Tryz.prog.info? 3).map (fun i => (i.zero, i.size, i.bytes)) = some (some (.int .i64 0), 1, 8) := by kernel_rfl
theorem info_sint : (Tryz.prog.info? 22).map (fun i => (i.zero, i.size, i.bytes)) = some (some (.slice none 0 0), 1, 24) := by kernel_rfl
def KrRel (w1 : World) (X Y : List ByteArray) (l j i : Value) (wr : World) : Prop := ∃ (k jj : Nat) (acc : List (Nat × Nat)), i = .int .i64 k ∧ j = .int .i64 jj ∧ k ≤ X.length ∧ jj ≤ Y.length ∧ WM.kpK X Y k = (acc, jj) ∧ acc.length ≤ k ∧ OwnQ 64 wr w1.heap.size l acc ∧ Below w1.heap.size w1 wr
def KiRel (w1 : World) (X Y : List ByteArray) (i j : Nat) (acc : List (Nat × Nat)) (l jv v : Value) (wr : World) : Prop := ∃ k : Nat, jv = .int .i64 j ∧ v = .int .i64 k ∧ j ≤ k ∧ k ≤ Y.length ∧ (∀ q, j ≤ q → q < k → ¬ WM.Fit X Y i j q) ∧ OwnQ 64 wr w1.heap.size l acc ∧ Below w1.heap.size w1 wr
set_option maxHeartbeats 16000000 in
set_option maxRecDepth 1000000 in
theorem keptOf_any (X Y : List ByteArray) (A1 A2 : Option Addr) (c1 c2 : Nat) (w : World) (h1 : Rd w A1 X) (h2 : Rd w A2 Y) (hx : X.length ≤ 2000) (hy : Y.length ≤ 2000) :
    Calls Tryz.prog 32 #[.slice A1 X.length c1, .slice A2 Y.length c2] w (PairsNew 64 (WM.kept X Y) w) := by
  have hmk1 := run_make_row' (P := Tryz.prog) 86 22 (.slice none 0 0) 24 Tryz.underlying86 info_sint rfl .i64 .i64 (X.length + 1) (by omega) (by omega)
  have hmk2 := run_make_row' (P := Tryz.prog) 22 3 (.int .i64 0) 8 Tryz.underlying22 info_int rfl .i64 .i64 (Y.length + 1) (by omega) (by omega)
  simp only [Int.natCast_add, Int.cast_ofNat_Int] at hmk1 hmk2
  have H1 := Lib.hid (And.intro h1 h2)
  clear h1 h2
  go_enter Tryz.func32, Tryz.ntmps32
  go_wp2_with fail
  go_loopw [19] (fun i wr => ∃ c : Nat, c ≤ X.length + 1 ∧ i = .int .i64 c ∧ Mk w wr 22 3 .i64 (X.length + 1) (Y.length + 1) c) (fun i _ => X.length + 1 - (intOf i).toNat)
  case atStart => exact ⟨0, Nat.zero_le _, rfl, Mk.start _ _ _ _ _ _⟩
  case round =>
    obtain ⟨c, hc, rfl, hM⟩ := hrel
    have hs := hM.size
    by_cases hlt : c < X.length + 1
    · have hst1 : ∀ o, (wr.alloc o).cell? ⟨w.heap.size, c, none⟩ = some (topV w.heap.size (Y.length + 1) c c) := fun o => (hM.top.alloc o).cell hlt
      have hst2 : ∀ o, (wr.alloc o).frozen? ⟨w.heap.size, c, none⟩ = false := fun o => (hM.top.alloc o).frozen c
      have HS := Lib.hid hM.step
      clear hM
      go_wp2_with fail
      exact ⟨⟨c + 1, by omega, by simp, HS.out⟩, by simp [intOf]; omega⟩
    · have hce : c = X.length + 1 := by omega
      rw [hce] at hM
      have HT := Lib.hid (hM.done.congr (fun i j hi hj => fill_start X Y i j hi))
      clear hM hmk1 hmk2 hce hs hc
      go_wp2_with fail
      clear hlt
      go_loopw [7] (fun i wr => ∃ (k : Nat) (z : Int), z = (k : Int) - 1 ∧ k ≤ X.length ∧ i = .int .i64 z ∧ Tab w wr 22 3 .i64 (X.length + 1) (Y.length + 1) (fillV X Y k 0)) (fun i _ => (intOf i + 1).toNat)
      case atStart => exact ⟨X.length, _, rfl, Nat.le_refl _, rfl, HT.out⟩
      case round =>
        obtain ⟨k, z, hz, hk, rfl, hT⟩ := hrel
        clear HT
        rcases k with _ | k
        · obtain rfl : z = -1 := by omega
          have HD := Lib.hid (hT.congr (fun i j hi hj => fill_done X Y i j))
          obtain ⟨w1, rfl⟩ : ∃ w1 : World, w1 = wr := ⟨_, rfl⟩
          have HL := Lib.hid HD.out.size
          clear hT hz
          go_wp2_with fail
          go_loopw [9, 10, 102] (fun l j i wr => KrRel w1 X Y l j i wr) (fun _ _ i _ => X.length - (intOf i).toNat)
          case atStart => exact ⟨0, 0, [], rfl, rfl, Nat.zero_le _, Nat.zero_le _, rfl, Nat.le_refl _, OwnQ.nil _ _ _, Below.refl _ _⟩
          case round =>
            obtain ⟨k, jj, acc, rfl, rfl, hk, hjj, hkp, hal, hown, hbw⟩ := hrel
            obtain ⟨wo, rfl⟩ : ∃ wo : World, wo = wr := ⟨_, rfl⟩
            by_cases hlt : k < X.length
            · obtain ⟨g1, rfl, hg1, hc1⟩ := H1.out.1 (by omega)
              have hx0 := List.getElem?_eq_getElem hlt
              generalize X[k] = x at hx0
              have HX := Lib.hid (And.intro hx0 (hc1 k x hx0))
              have HO := Lib.hid (And.intro hown (And.intro hbw hkp))
              clear hc1 hx0 hown hbw hkp
              go_wp2_with fail
              go_loopw [9, 10, 12] (fun l jv v wr => KiRel w1 X Y k jj acc l jv v wr) (fun _ _ v _ => Y.length - (intOf v).toNat)
              case atStart => exact ⟨jj, rfl, rfl, Nat.le_refl _, hjj, fun q h1 h2 => absurd h1 (by omega), HO.out.1, HO.out.2.1⟩
              case round =>
                obtain ⟨k2, rfl, rfl, hjk, hk2, hnf, hown, hbw⟩ := hrel
                obtain ⟨wi, rfl⟩ : ∃ wi : World, wi = wr := ⟨_, rfl⟩
                by_cases hlt2 : k2 < Y.length
                · obtain ⟨g2, rfl, hg2, hc2⟩ := H1.out.2 (by omega)
                  have hy0 := List.getElem?_eq_getElem hlt2
                  generalize Y[k2] = y at hy0
                  have b0 : w.heap.size < w1.heap.size := by rw [HL.out]; omega
                  have d1 := (hbw.cell (p := ⟨g1, k, none⟩) (Nat.lt_of_lt_of_le hg1 HD.out.below.size)).trans ((HD.out.below.cell (p := ⟨g1, k, none⟩) hg1).trans HX.out.2)
                  have d2 := (hbw.cell (p := ⟨g2, k2, none⟩) (Nat.lt_of_lt_of_le hg2 HD.out.below.size)).trans ((HD.out.below.cell (p := ⟨g2, k2, none⟩) hg2).trans (hc2 k2 y hy0))
                  have t0 := (hbw.cell (p := ⟨w.heap.size, k, none⟩) b0).trans (HD.out.at_top (show k < X.length + 1 by omega))
                  have t1 := (hbw.cell (p := ⟨w.heap.size, k + 1, none⟩) b0).trans (HD.out.at_top (show k + 1 < X.length + 1 by omega))
                  have t2 := (hbw.cell (p := ⟨w.heap.size + 1 + k, jj, none⟩) (by show w.heap.size + 1 + k < w1.heap.size; rw [HL.out]; omega)).trans (HD.out.at_ (show k < X.length + 1 by omega) (show jj < Y.length + 1 by omega))
                  have t3 := (hbw.cell (p := ⟨w.heap.size + 1 + (k + 1), k2 + 1, none⟩) (by show w.heap.size + 1 + (k + 1) < w1.heap.size; rw [HL.out]; omega)).trans (HD.out.at_ (show k + 1 < X.length + 1 by omega) (show k2 + 1 < Y.length + 1 by omega))
                  have HI := Lib.hid (And.intro hown (And.intro hbw (And.intro hnf hy0)))
                  have hbd : (WM.tb X Y (k + 1) (k2 + 1) : Int) ≤ 2000 := by have := WM.tb_le X Y (k + 1) (k2 + 1); omega
                  clear hown hbw hnf hy0 hc2
                  by_cases hxy : x = y
                  · have hb : (x.toList == y.toList) = true := beq_iff_eq.2 (by rw [hxy])
                    by_cases hq : WM.tb X Y (k + 1) (k2 + 1) + 1 = WM.tb X Y k jj
                    · have hb2 : ((WM.tb X Y (k + 1) (k2 + 1) : Int) + 1 == (WM.tb X Y k jj : Int)) = true := by rw [beq_iff_eq]; omega
                      have HN := Lib.hid (WM.kp_hit' HO.out.2.2 hjk ⟨x, HX.out.1, hxy ▸ HI.out.2.2.2, hq⟩ HI.out.2.2.1)
                      clear hq hxy
                      go_wp2_with fail
                      go_quiet (fail)
                      go_wp2_with (at_builtin; refine app_pair two_arr _ rfl (.tmp 141) (.tmp 145) rfl w1.heap.size _ acc rfl ((HI.out.1.drewN _).alloc _) _ k k2 rfl ?_ (lits_pair _ k k2 _) ?d1 ?d2; intro v2 w6 hown2 hg2)
                      case d1 => omega
                      case d2 => have := HI.out.2.1.size; simp; omega
                      go_wp2_with fail
                      exact ⟨⟨k + 1, k2 + 1, acc ++ [(k, k2)], by simp, by simp, by omega, by omega, HN.out, by simp; omega, hown2, ((below_drewN HI.out.2.1 _).alloc HI.out.2.1.size _).grown hg2 (by have := HI.out.2.1.size; simp; omega) (fun j hj => (HI.out.1.lt j hj).1)⟩, by simp [intOf]; omega⟩
                    · have hb2 : ((WM.tb X Y (k + 1) (k2 + 1) : Int) + 1 == (WM.tb X Y k jj : Int)) = false := beq_eq_false_iff_ne.2 (by omega)
                      have HN := Lib.hid (show ∀ q, jj ≤ q → q < k2 + 1 → ¬ WM.Fit X Y k jj q from fun q h1 h2 => by
                        by_cases e : q = k2
                        · subst e; rintro ⟨_, _, _, h⟩; exact hq h
                        · exact HI.out.2.2.1 q h1 (by omega))
                      clear hq hxy
                      go_wp2_with fail
                      go_quiet (fail)
                      go_wp2_with fail
                      exact ⟨⟨k2 + 1, rfl, by simp, by omega, by omega, HN.out, HI.out.1.drewN _, below_drewN HI.out.2.1 _⟩, by simp [intOf]; omega⟩
                  · have hb : (x.toList == y.toList) = false := beq_eq_false_iff_ne.2 (fun h => hxy (tl_inj h))
                    have HN := Lib.hid (show ∀ q, jj ≤ q → q < k2 + 1 → ¬ WM.Fit X Y k jj q from fun q h1 h2 => by
                      by_cases e : q = k2
                      · subst e; rintro ⟨z, a1, a2, _⟩
                        rw [HX.out.1] at a1; rw [HI.out.2.2.2] at a2
                        exact hxy ((Option.some.inj a1).trans (Option.some.inj a2).symm)
                      · exact HI.out.2.2.1 q h1 (by omega))
                    clear hxy
                    go_wp2_with fail
                    go_quiet (fail)
                    go_wp2_with fail
                    exact ⟨⟨k2 + 1, rfl, by simp, by omega, by omega, HN.out, HI.out.1.drewN _, below_drewN HI.out.2.1 _⟩, by simp [intOf]; omega⟩
                · have HN := Lib.hid (WM.kp_off HO.out.2.2 (fun q h1 h2 => hnf q h1 (by omega)))
                  have HI := Lib.hid (And.intro hown hbw)
                  clear hnf hown hbw
                  go_wp2_with fail
                  exact ⟨⟨k + 1, jj, acc, by simp, rfl, by omega, hjj, HN.out, by omega, HI.out.1, HI.out.2⟩, by simp [intOf]; omega⟩
            · obtain rfl : k = X.length := by omega
              have HR := Lib.hid (And.intro hown (And.intro hbw hkp))
              clear hown hbw hkp
              go_wp2_with fail
              go_ret
              exact ⟨_, rfl, by unfold WM.kept; rw [HR.out.2.2]; exact HR.out.1.less HD.out.below.size, HD.out.below.trans (HR.out.2.1.mono HD.out.below.size)⟩
        · obtain rfl : z = (k : Int) := by omega
          have HI := Lib.hid (hT.congr (fun i j hi hj => fill_row X Y k i j hj))
          obtain ⟨g1, rfl, hg1, hc1⟩ := H1.out.1 (by omega)
          have hx0 := List.getElem?_eq_getElem (show k < X.length by omega)
          generalize X[k] = x at hx0
          have HX := Lib.hid hx0
          have HC1 := Lib.hid (hc1 k x hx0)
          clear hT hz hc1 hx0
          go_wp2_with fail
          go_loopw [8] (fun i wr => ∃ (j : Nat) (z : Int), z = (j : Int) - 1 ∧ j ≤ Y.length ∧ i = .int .i64 z ∧ Tab w wr 22 3 .i64 (X.length + 1) (Y.length + 1) (fillV X Y k j)) (fun i _ => (intOf i + 1).toNat)
          case atStart => exact ⟨Y.length, _, rfl, Nat.le_refl _, rfl, HI.out⟩
          case round =>
            obtain ⟨j, z, hz, hj, rfl, hT⟩ := hrel
            clear HI
            rcases j with _ | j
            · obtain rfl : z = -1 := by omega
              have HD := Lib.hid hT
              clear hT hz
              go_wp2_with fail
              exact ⟨⟨k, _, rfl, by omega, by simp, HD.out⟩, by simp [intOf]⟩
            · obtain rfl : z = (j : Int) := by omega
              obtain ⟨g2, rfl, hg2, hc2⟩ := H1.out.2 (by omega)
              have hy0 := List.getElem?_eq_getElem (show j < Y.length by omega)
              generalize Y[j] = y at hy0
              have HY := Lib.hid (And.intro hy0 (hc2 j y hy0))
              have t0 := hT.at_top (show k < X.length + 1 by omega)
              have t1 := hT.at_top (show k + 1 < X.length + 1 by omega)
              have t2 := hT.at_ (show k + 1 < X.length + 1 by omega) (show j < Y.length + 1 by omega)
              have t5 := hT.at_ (show k < X.length + 1 by omega) (show j + 1 < Y.length + 1 by omega)
              have t3 := hT.at_ (show k < X.length + 1 by omega) (show j < Y.length + 1 by omega)
              have t4 := hT.frozen (show k < X.length + 1 by omega) j
              rw [fill_at1] at t2
              rw [fill_at2] at t5
              have HV := Lib.hid (hT.set k j (max (WM.tb X Y (k + 1) j : Int) (WM.tb X Y k (j + 1) : Int))).drew
              clear hT hz hc2 hy0
              go_wp2_with fail
              go_region
              have HW := HV
              generalize hwn : (wr.setCell ⟨w.heap.size + 1 + k, j, none⟩ (.int .i64 (max (WM.tb X Y (k + 1) j : Int) (WM.tb X Y k (j + 1) : Int)))).drew = w2 at HW ⊢
              clear t0 t1 t2 t3 t4 t5 HV hwn
              have d1 := (HW.out.below.cell (p := ⟨g1, k, none⟩) hg1).trans HC1.out
              have d2 := (HW.out.below.cell (p := ⟨g2, j, none⟩) hg2).trans HY.out.2
              by_cases hxy : x = y
              · have hb : (x.toList == y.toList) = true := beq_iff_eq.2 (by rw [hxy])
                go_wp2_with fail
                go_quiet (fail)
                have HT2 := Lib.hid (HW.out.drewN nq)
                generalize w2.drewN nq = w3 at HT2 ⊢
                have t0 := HT2.out.at_top (show k < X.length + 1 by omega)
                have t1 := HT2.out.at_top (show k + 1 < X.length + 1 by omega)
                have t2 := HT2.out.at_ (show k + 1 < X.length + 1 by omega) (show j + 1 < Y.length + 1 by omega)
                have t3 := HT2.out.at_ (show k < X.length + 1 by omega) (show j < Y.length + 1 by omega)
                have t4 := HT2.out.frozen (show k < X.length + 1 by omega) j
                rw [if_neg (by omega), fill_at1] at t2
                rw [if_pos ⟨rfl, rfl⟩] at t3
                have hbd : (WM.tb X Y (k + 1) (j + 1) : Int) ≤ 2000 := by have := WM.tb_le X Y (k + 1) (j + 1); omega
                have hw : max (WM.tb X Y (k + 1) j : Int) (max (WM.tb X Y k (j + 1) : Int) ((WM.tb X Y (k + 1) (j + 1) : Int) + 1)) = (WM.tb X Y k j : Int) := by
                  have e1 := WM.tb_eq' HX.out HY.out.1 hxy
                  omega
                have HZ := Lib.hid ((HT2.out.set k j (max (WM.tb X Y (k + 1) j : Int) (max (WM.tb X Y k (j + 1) : Int) ((WM.tb X Y (k + 1) (j + 1) : Int) + 1)))).drew.congr (V' := fillV X Y k j) (fun a b _ _ => by
                  by_cases h : a = k ∧ b = j
                  · rw [if_pos h, hw, ← fill_set X Y k j a b, if_pos h]
                  · rw [if_neg h, if_neg h, ← fill_set X Y k j a b, if_neg h]))
                clear d1 d2 hw
                go_wp2_with fail
                go_region
                go_wp2_with fail
                exact ⟨⟨j, _, rfl, by omega, by simp, HZ.out⟩, by simp [intOf]⟩
              · have hb : (x.toList == y.toList) = false := beq_eq_false_iff_ne.2 (fun h => hxy (tl_inj h))
                have hw : max (WM.tb X Y (k + 1) j : Int) (WM.tb X Y k (j + 1) : Int) = (WM.tb X Y k j : Int) := by
                  have e1 := WM.tb_ne HX.out HY.out.1 hxy
                  omega
                have HZ := Lib.hid (HW.out.congr (V' := fillV X Y k j) (fun a b _ _ => by rw [hw, fill_set]))
                clear hw
                go_wp2_with fail
                go_quiet (fail)
                go_wp2_with fail
                exact ⟨⟨j, _, rfl, by omega, by simp, HZ.out.drewN _⟩, by simp [intOf]⟩
end Go.Proofs.YtndeifdpiimbeaaGreatDoor
