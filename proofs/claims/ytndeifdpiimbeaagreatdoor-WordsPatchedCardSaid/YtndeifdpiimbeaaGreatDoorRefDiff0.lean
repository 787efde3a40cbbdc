/- Contracts of the reference's DistanceOf, DifferOf. -/
import Derived.Test.YtndeifdpiimbeaaGreatDoorDiffer0
import Derived.Test.YtndeifdpiimbeaaGreatDoorRefKept
import Derived.Test.YtndeifdpiimbeaaGreatDoorTokensOf
namespace Go.Proofs.YtndeifdpiimbeaaGreatDoor
open Go.RowKit

theorem ends_form {et : TypeId} {w : World} {base : Nat} {v : Value} {X Y : List ByteArray} (h : OwnQ et w base v (WM.kept X Y ++ [(X.length, Y.length)])) : ∃ (A : Option Addr) (cap : Nat), v = .slice A (WM.ends X Y).length cap ∧ (WM.ends X Y).length ≤ 9223372036854775807 ∧ (0 < (WM.ends X Y).length → ∃ g, A = some ⟨g, 0, none⟩ ∧ base ≤ g ∧ g < w.heap.size ∧ ∀ (j : Nat) (x : Nat × Nat), (WM.ends X Y)[j]? = some x → w.cell? ⟨g, j * 2, none⟩ = some (.int .i64 x.1) ∧ w.cell? ⟨g, j * 2 + 1, none⟩ = some (.int .i64 x.2)) := OwnQ.form (l := WM.ends X Y) h
/-- changes are answered -/
def ChgNew (D : List WM.Chg) (w : World) (e : Ending) (w' : World) : Prop := ∃ v, e = .returned v ∧ OwnC w' w.heap.size v D ∧ Below w.heap.size w w'
set_option maxHeartbeats 8000000 in
set_option maxRecDepth 100000 in
theorem DifferOf_any (a b : ByteArray) (ha : Few a) (hb : Few b) (w : World) (hm : Mx w) : Calls Tryz.prog 14 #[.string a, .string b] w (ChgNew (WM.differ (WM.toks a) (WM.toks b)) w) := by
  have h1 := TokensOf_any a (by have := ha.1; omega) w hm hm.2
  have h2 := fun W (hW : Mx W) => TokensOf_any b (by have := hb.1; omega) W hW hW.2
  have HM := Lib.hid hm
  obtain ⟨_, la⟩ := ha
  obtain ⟨_, lb⟩ := hb
  generalize WM.toks a = X at *
  generalize WM.toks b = Y at *
  clear hm
  have HL := Lib.hid (And.intro la lb)
  clear la lb
  go_enter Tryz.func14, Tryz.ntmps14
  go_wp2_with fail
  refine h1.mono ?_
  rintro e w0 ⟨v1, rfl, ho1, hb1⟩
  obtain ⟨A1, c1, rfl, hr0⟩ := ho1.rd
  have hY := h2 w0 (HM.out.below hb1 HM.out.2)
  have H0 := Lib.hid (And.intro ho1 hb1)
  have HR0 := Lib.hid hr0
  clear h1 h2 ho1 hb1 hr0
  go_wp2_with fail
  refine hY.mono ?_
  rintro e w1 ⟨v2, rfl, ho2, hb2⟩
  obtain ⟨A2, c2, rfl, hr2⟩ := ho2.rd
  have hr1 := Rd.below HR0.out hb2
  have hK := keptOf_any X Y A1 A2 c1 c2 w1 hr1 hr2 HL.out.1 HL.out.2
  have HC := Lib.hid (And.intro H0.out.1.cap_le ho2.cap_le)
  have HR := Lib.hid (And.intro hr1 hr2)
  have HB := Lib.hid (H0.out.2.trans (hb2.mono H0.out.2.size))
  have HB2 := Lib.hid (And.intro (Below.refl w1.heap.size w1) True.intro)
  clear hY ho2 hb2 hr1 hr2 H0
  go_wp2_with fail
  refine hK.mono ?_
  rintro e w2 ⟨v3, rfl, ho3, hb3⟩
  have HK := Lib.hid (And.intro ho3 hb3)
  have HKL := Lib.hid (show (WM.kept X Y).length ≤ 1000000000000 by have := HL.out.1; have := WM.kept_len X Y; omega)
  clear hK ho3 hb3
  go_wp2_with (at_builtin; refine app_pair two_arr _ rfl (.tmp 18) (.tmp 24) rfl w1.heap.size v3 (WM.kept X Y) rfl (HK.out.1.alloc _) _ X.length Y.length rfl ?_ (lits_pair _ X.length Y.length _) HKL.out ?d2; intro v4 wc hown4 hg4; obtain ⟨AE, cE, HV4, hEl, hfE⟩ := ends_form hown4; cases HV4)
  case d2 => have := HK.out.2.size; simp; omega
  have hoE : OwnQ 64 wc w1.heap.size (.slice AE (WM.ends X Y).length cE) (WM.ends X Y) := hown4
  have hbE : Below w1.heap.size w1 wc := (HK.out.2.alloc HK.out.2.size _).grown hg4 (by have := HK.out.2.size; simp; omega) (fun j hj => (HK.out.1.lt j hj).1)
  clear hown4 hg4
  have HE := Lib.hid (And.intro hoE (And.intro hbE hfE))
  have hrise := Lib.hid (WM.ends_rise X Y)
  have hends := Lib.hid (WM.ends_le X Y)
  have helen := Lib.hid (WM.ends_len X Y)
  generalize hgE : WM.ends X Y = E at *
  have HD := Lib.hid (show WM.differ X Y = WM.chgK X Y E E.length by rw [← hgE]; rfl)
  have hEl2 : E.length ≤ 3000 := by have := helen.out; have := HL.out.1; omega
  clear hgE hoE hbE hfE hEl
  go_wp2_with fail
  go_loopw [7, 8, 9, 27] (fun l i j k wr => DfRel wc X Y E l i j k wr) (fun _ _ _ k _ => E.length - (intOf k).toNat)
  case atStart => exact ⟨0, rfl, rfl, rfl, Nat.zero_le _, OwnC.nil _ _, Below.refl _ _⟩
  case round =>
    obtain ⟨n, rfl, rfl, rfl, hn, hown, hbw⟩ := hrel
    obtain ⟨wo, rfl⟩ : ∃ wo : World, wo = wr := ⟨_, rfl⟩
    by_cases hlt : n < E.length
    · obtain ⟨g, rfl, hg1, hg2, hgc⟩ := HE.out.2.2 (by omega)
      obtain ⟨⟨p, q⟩, hx⟩ : ∃ x, E[n]? = some x := ⟨_, List.getElem?_eq_getElem hlt⟩
      have k0 := (hbw.cell (p := ⟨g, n * 2, none⟩) hg2).trans (hgc n _ hx).1
      have k1 := (hbw.cell (p := ⟨g, n * 2 + 1, none⟩) hg2).trans (hgc n _ hx).2
      have hr := hrise.out.1 n _ hx
      have he := hends.out n _ hx
      simp only at k0 k1 hr he
      have HX := Lib.hid hx
      have HI := Lib.hid (And.intro (show WM.fI E (n + 1) = p + 1 by simp [WM.fI, hx]) (show WM.fJ E (n + 1) = q + 1 by simp [WM.fJ, hx]))
      have HY := Lib.hid (fun h => WM.chg_yes (A := X) (B := Y) hx h)
      have HN := Lib.hid (fun h => WM.chg_no (A := X) (B := Y) hx h)
      simp only at HY HN
      generalize WM.fI E n = I at *
      generalize WM.fJ E n = J at *
      have HO := Lib.hid (And.intro hown hbw)
      have HRX := Lib.hid (fun W (hW : Below w1.heap.size w1 W) => (Rd.drop (Rd.below HR.out.1 hW) I).take (p - I))
      have HRY := Lib.hid (fun W (hW : Below w1.heap.size w1 W) => (Rd.drop (Rd.below HR.out.2 hW) J).take (q - J))
      have HLX := Lib.hid (show ((X.drop I).take (p - I)).length = p - I by simp; omega)
      have HLY := Lib.hid (show ((Y.drop J).take (q - J)).length = q - J by simp; omega)
      generalize (X.drop I).take (p - I) = DX at *
      generalize (Y.drop J).take (q - J) = DY at *
      clear hx hown hbw hgc
      rcases Nat.lt_or_ge I p with h1 | h1
      · have HOR := Lib.hid (show I < p ∨ J < q from .inl h1)
        go_wp2_with fail
        obtain ⟨w5, hw5⟩ : ∃ w5, wo.alloc (.cells #[.int .i64 (p : Nat), .int .i64 (q : Nat)] 64) = w5 := ⟨_, rfl⟩
        rw [hw5]
        have b5 : Below wo.heap.size wo w5 := by rw [← hw5]; exact (Below.refl _ _).alloc (Nat.le_refl _) _
        have hk5 : Blk w5 wo.heap.size 64 #[.int .i64 (p : Nat), .int .i64 (q : Nat)] := by rw [← hw5]; exact Blk.new wo _ _
        have l5 := hk5.lt
        have f0 : w5.cell? ⟨wo.heap.size, 0, none⟩ = some (.int .i64 (p : Nat)) := hk5.cell 0
        have f1 : w5.cell? ⟨wo.heap.size, 1, none⟩ = some (.int .i64 (q : Nat)) := hk5.cell 1
        have e0 : w5.drew.cell? ⟨wo.heap.size, 0, none⟩ = some (.int .i64 (p : Nat)) := f0
        have e1 : w5.drew.cell? ⟨wo.heap.size, 1, none⟩ = some (.int .i64 (q : Nat)) := f1
        have B5 := Lib.hid b5
        have BW := Lib.hid (show Below w1.heap.size w1 w5 from HB2.out.1.trans (((HE.out.2.1.trans ((HO.out.2.mono HE.out.2.1.size))).trans (b5.mono (Nat.le_trans HE.out.2.1.size HO.out.2.size))).mono HB2.out.1.size))
        clear hw5 b5 hk5 k0 k1
        go_cut [7] (fun s9 wx => OwnC wx wc.heap.size s9 (WM.chgK X Y E (n + 1)) ∧ Below wc.heap.size wc wx ∧ wx.cell? ⟨wo.heap.size, 0, none⟩ = some (.int .i64 (p : Nat)) ∧ wx.cell? ⟨wo.heap.size, 1, none⟩ = some (.int .i64 (q : Nat)))
        case first =>
          have hi1 : (I : Int) ≤ (p : Int) := by omega
          have hi2 : (p : Int) ≤ (c1 : Int) := by have := HC.out.1; omega
          have hj1 : (J : Int) ≤ (q : Int) := by omega
          have hj2 : (q : Int) ≤ (c2 : Int) := by have := HC.out.2; omega
          have HNL := Lib.hid (show (WM.chgK X Y E n).length ≤ 1000000000000 by have := WM.chg_len X Y E n; have := helen.out; have := HL.out.1; omega)
          have hnI : ¬ c1 = I := by omega
          by_cases hnJ : c2 = J
          · obtain rfl : J = q := by have := HC.out.2; omega
            subst hnJ
            have hX := fun W (hW : Below w5.heap.size w5 W) => Clone_any DX (p - I) HLX.out (Option.map (fun x => x.add I) A1) (c1 - I) W (HRX.out W (BW.out.trans (hW.mono BW.out.size))) (by have := HL.out.1; omega)
            have hCx := hX w5.drew ⟨rfl, rfl, rfl, Nat.le_refl _, fun _ _ => rfl⟩
            have hY := fun W (hW : Below w5.heap.size w5 W) => Clone_any DY 0 (by rw [HLY.out]; omega) A2 0 W (RdO.none_ _ _ _ (by rw [HLY.out]; omega)) (by omega)
            clear hr he hX hn hj1 hj2
            go_region_held3 (fun w' => w'.cell? ⟨wo.heap.size, 0, none⟩ = some (.int .i64 (p : Nat)) ∧ w'.cell? ⟨wo.heap.size, 1, none⟩ = some (.int .i64 (c2 : Nat)))
              (first | (with_reducible exact ⟨f0, f1⟩) | (with_reducible exact ⟨e0, e1⟩) | (with_reducible exact ⟨g0, g1⟩) | (with_reducible exact ⟨h0, h1'⟩) | (with_reducible exact ⟨r0, r1⟩) | (with_reducible exact ⟨s0, s1⟩))
              (first
                | ((with_reducible refine hCx.mono ?_); rintro e w6 ⟨v6, rfl, ho6, hb6⟩; obtain ⟨A6, d6, rfl, _⟩ := ho6.rd; replace hb6 : Below w5.heap.size w5 w6 := ⟨hb6.os, hb6.tape, hb6.output, hb6.size, hb6.block⟩; have g0 := (hb6.cell (p := ⟨wo.heap.size, 0, none⟩) l5).trans f0; have g1 := (hb6.cell (p := ⟨wo.heap.size, 1, none⟩) l5).trans f1; have l6 := Nat.lt_of_lt_of_le l5 hb6.size; have hCy := hY w6 hb6; have H6 := Lib.hid (And.intro ho6 hb6); clear ho6 hb6)
                | ((with_reducible refine hCy.mono ?_); rintro e w7 ⟨v7, rfl, ho7, hb7⟩; obtain ⟨A7, d7, rfl, _⟩ := ho7.rd; have h0 := (hb7.cell (p := ⟨wo.heap.size, 0, none⟩) l6).trans g0; have h1' := (hb7.cell (p := ⟨wo.heap.size, 1, none⟩) l6).trans g1; have l7 := Nat.lt_of_lt_of_le l6 hb7.size; have B7 := Lib.hid (H6.out.2.trans (hb7.mono H6.out.2.size)); have hrow : RowsC w7 wc.heap.size u7 ⟨I, DX, DY⟩ (I, .slice A6 DX.length d6, .slice A7 DY.length d7) := ⟨rfl, (H6.out.1.below hb7 (Nat.le_refl _)).less (Nat.le_trans HO.out.2.size B5.out.size), ho7.less (Nat.le_trans (Nat.le_trans HO.out.2.size B5.out.size) H6.out.2.size), fun z hz => rows_ne (HO.out.1.lt z hz).2 (Nat.le_trans B5.out.size (Nat.le_refl _)) H6.out.1 ho7 H6.out.2.size⟩; have r0 := (World.cell?_of_block (a := ⟨wo.heap.size, 0, none⟩) (Below.heap_alloc w7 (.cells #[.int .i64 (I : Nat), .slice A6 DX.length d6, .slice A7 DY.length d7] 45) wo.heap.size l7)).trans h0; have r1 := (World.cell?_of_block (a := ⟨wo.heap.size, 1, none⟩) (Below.heap_alloc w7 (.cells #[.int .i64 (I : Nat), .slice A6 DX.length d6, .slice A7 DY.length d7] 45) wo.heap.size l7)).trans h1'; clear ho7 hb7)
                | (have hz := l7; clear hz; (refine step_app_chg rfl (.tmp 41) (.tmp 56) rfl wc.heap.size u7 (WM.chgK X Y E n) rfl ((HO.out.1.below (B5.out.trans (B7.out.mono B5.out.size))).alloc _) _ ⟨I, DX, DY⟩ (.slice A6 DX.length d6) (.slice A7 DY.length d7) (hrow.alloc _) rfl ?_ (lits_chg w7 I (.slice A6 DX.length d6) (.slice A7 DY.length d7) _) HNL.out (Nat.le_trans (Nat.le_trans HO.out.2.size B5.out.size) (Nat.le_trans B7.out.size (by simp)))); intro v8 w8 hown8 hg8; have s0 := (World.cell?_of_block (a := ⟨wo.heap.size, 0, none⟩) (hg8.block wo.heap.size (Nat.lt_of_lt_of_le l7 (by simp)) (chg_ne HO.out.1))).trans r0; have s1 := (World.cell?_of_block (a := ⟨wo.heap.size, 1, none⟩) (hg8.block wo.heap.size (Nat.lt_of_lt_of_le l7 (by simp)) (chg_ne HO.out.1))).trans r1; have HZ := Lib.hid (And.intro hown8 ((((HO.out.2.trans ((B5.out.trans (B7.out.mono B5.out.size)).mono HO.out.2.size)).alloc (Nat.le_trans (Nat.le_trans HO.out.2.size B5.out.size) B7.out.size) _).grown hg8 (Nat.le_trans (Nat.le_trans HO.out.2.size B5.out.size) (Nat.le_trans B7.out.size (by simp))) (fun j hj => (HO.out.1.lt j hj).1)))); clear hown8))
            all_goals (go_wp2_with fail; go_meet; exact ⟨by rw [HY.out HOR.out]; exact HZ.out.1, HZ.out.2, s0, s1⟩)
          · have hX := fun W (hW : Below w5.heap.size w5 W) => Clone_any DX (p - I) HLX.out (Option.map (fun x => x.add I) A1) (c1 - I) W (HRX.out W (BW.out.trans (hW.mono BW.out.size))) (by have := HL.out.1; omega)
            have hCx := hX w5.drew ⟨rfl, rfl, rfl, Nat.le_refl _, fun _ _ => rfl⟩
            have hY := fun W (hW : Below w5.heap.size w5 W) => Clone_any DY (q - J) HLY.out (Option.map (fun x => x.add J) A2) (c2 - J) W (HRY.out W (BW.out.trans (hW.mono BW.out.size))) (by have := HL.out.2; omega)
            clear hr he hX hn
            go_region_held3 (fun w' => w'.cell? ⟨wo.heap.size, 0, none⟩ = some (.int .i64 (p : Nat)) ∧ w'.cell? ⟨wo.heap.size, 1, none⟩ = some (.int .i64 (q : Nat)))
              (first | (with_reducible exact ⟨f0, f1⟩) | (with_reducible exact ⟨e0, e1⟩) | (with_reducible exact ⟨g0, g1⟩) | (with_reducible exact ⟨h0, h1'⟩) | (with_reducible exact ⟨r0, r1⟩) | (with_reducible exact ⟨s0, s1⟩))
              (first
                | ((with_reducible refine hCx.mono ?_); rintro e w6 ⟨v6, rfl, ho6, hb6⟩; obtain ⟨A6, d6, rfl, _⟩ := ho6.rd; replace hb6 : Below w5.heap.size w5 w6 := ⟨hb6.os, hb6.tape, hb6.output, hb6.size, hb6.block⟩; have g0 := (hb6.cell (p := ⟨wo.heap.size, 0, none⟩) l5).trans f0; have g1 := (hb6.cell (p := ⟨wo.heap.size, 1, none⟩) l5).trans f1; have l6 := Nat.lt_of_lt_of_le l5 hb6.size; have hCy := hY w6 hb6; have H6 := Lib.hid (And.intro ho6 hb6); clear ho6 hb6)
                | ((with_reducible refine hCy.mono ?_); rintro e w7 ⟨v7, rfl, ho7, hb7⟩; obtain ⟨A7, d7, rfl, _⟩ := ho7.rd; have h0 := (hb7.cell (p := ⟨wo.heap.size, 0, none⟩) l6).trans g0; have h1' := (hb7.cell (p := ⟨wo.heap.size, 1, none⟩) l6).trans g1; have l7 := Nat.lt_of_lt_of_le l6 hb7.size; have B7 := Lib.hid (H6.out.2.trans (hb7.mono H6.out.2.size)); have hrow : RowsC w7 wc.heap.size u7 ⟨I, DX, DY⟩ (I, .slice A6 DX.length d6, .slice A7 DY.length d7) := ⟨rfl, (H6.out.1.below hb7 (Nat.le_refl _)).less (Nat.le_trans HO.out.2.size B5.out.size), ho7.less (Nat.le_trans (Nat.le_trans HO.out.2.size B5.out.size) H6.out.2.size), fun z hz => rows_ne (HO.out.1.lt z hz).2 (Nat.le_trans B5.out.size (Nat.le_refl _)) H6.out.1 ho7 H6.out.2.size⟩; have r0 := (World.cell?_of_block (a := ⟨wo.heap.size, 0, none⟩) (Below.heap_alloc w7 (.cells #[.int .i64 (I : Nat), .slice A6 DX.length d6, .slice A7 DY.length d7] 45) wo.heap.size l7)).trans h0; have r1 := (World.cell?_of_block (a := ⟨wo.heap.size, 1, none⟩) (Below.heap_alloc w7 (.cells #[.int .i64 (I : Nat), .slice A6 DX.length d6, .slice A7 DY.length d7] 45) wo.heap.size l7)).trans h1'; clear ho7 hb7)
                | (have hz := l7; clear hz; (refine step_app_chg rfl (.tmp 41) (.tmp 56) rfl wc.heap.size u7 (WM.chgK X Y E n) rfl ((HO.out.1.below (B5.out.trans (B7.out.mono B5.out.size))).alloc _) _ ⟨I, DX, DY⟩ (.slice A6 DX.length d6) (.slice A7 DY.length d7) (hrow.alloc _) rfl ?_ (lits_chg w7 I (.slice A6 DX.length d6) (.slice A7 DY.length d7) _) HNL.out (Nat.le_trans (Nat.le_trans HO.out.2.size B5.out.size) (Nat.le_trans B7.out.size (by simp)))); intro v8 w8 hown8 hg8; have s0 := (World.cell?_of_block (a := ⟨wo.heap.size, 0, none⟩) (hg8.block wo.heap.size (Nat.lt_of_lt_of_le l7 (by simp)) (chg_ne HO.out.1))).trans r0; have s1 := (World.cell?_of_block (a := ⟨wo.heap.size, 1, none⟩) (hg8.block wo.heap.size (Nat.lt_of_lt_of_le l7 (by simp)) (chg_ne HO.out.1))).trans r1; have HZ := Lib.hid (And.intro hown8 ((((HO.out.2.trans ((B5.out.trans (B7.out.mono B5.out.size)).mono HO.out.2.size)).alloc (Nat.le_trans (Nat.le_trans HO.out.2.size B5.out.size) B7.out.size) _).grown hg8 (Nat.le_trans (Nat.le_trans HO.out.2.size B5.out.size) (Nat.le_trans B7.out.size (by simp))) (fun j hj => (HO.out.1.lt j hj).1)))); clear hown8))
            all_goals (go_wp2_with fail; go_meet; exact ⟨by rw [HY.out HOR.out]; exact HZ.out.1, HZ.out.2, s0, s1⟩)
        case rest =>
          obtain ⟨hown9, hb9, d0, d1⟩ := hcut
          have H9 := Lib.hid (And.intro hown9 hb9)
          clear hown9 hb9 f0 f1 e0 e1
          have hpb : (p : Int) ≤ 2000 := by have := HL.out.1; omega
          have hqb : (q : Int) ≤ 2000 := by have := HL.out.2; omega
          go_wp2_with fail
          go_quiet (fail)
          go_wp2_with fail
          exact ⟨⟨n + 1, by rw [HI.out.1]; simp, by rw [HI.out.2]; simp, by simp, by omega, H9.out.1.drewN _, below_drewN H9.out.2 _⟩, by simp [intOf]; omega⟩
      · by_cases h2 : J < q
        · obtain rfl : I = p := by omega
          have HOR := Lib.hid (show I < I ∨ J < q from .inr h2)
          go_wp2_with fail
          obtain ⟨w5, hw5⟩ : ∃ w5, wo.alloc (.cells #[.int .i64 (I : Nat), .int .i64 (q : Nat)] 64) = w5 := ⟨_, rfl⟩
          rw [hw5]
          have b5 : Below wo.heap.size wo w5 := by rw [← hw5]; exact (Below.refl _ _).alloc (Nat.le_refl _) _
          have hk5 : Blk w5 wo.heap.size 64 #[.int .i64 (I : Nat), .int .i64 (q : Nat)] := by rw [← hw5]; exact Blk.new wo _ _
          have l5 := hk5.lt
          have f0 : w5.cell? ⟨wo.heap.size, 0, none⟩ = some (.int .i64 (I : Nat)) := hk5.cell 0
          have f1 : w5.cell? ⟨wo.heap.size, 1, none⟩ = some (.int .i64 (q : Nat)) := hk5.cell 1
          have e0 : w5.drew.cell? ⟨wo.heap.size, 0, none⟩ = some (.int .i64 (I : Nat)) := f0
          have e1 : w5.drew.cell? ⟨wo.heap.size, 1, none⟩ = some (.int .i64 (q : Nat)) := f1
          have B5 := Lib.hid b5
          have BW := Lib.hid (show Below w1.heap.size w1 w5 from HB2.out.1.trans (((HE.out.2.1.trans ((HO.out.2.mono HE.out.2.1.size))).trans (b5.mono (Nat.le_trans HE.out.2.1.size HO.out.2.size))).mono HB2.out.1.size))
          clear hw5 b5 hk5 k0 k1
          go_cut [7] (fun s9 wx => OwnC wx wc.heap.size s9 (WM.chgK X Y E (n + 1)) ∧ Below wc.heap.size wc wx ∧ wx.cell? ⟨wo.heap.size, 0, none⟩ = some (.int .i64 (I : Nat)) ∧ wx.cell? ⟨wo.heap.size, 1, none⟩ = some (.int .i64 (q : Nat)))
          case first =>
            have hi1 : (I : Int) ≤ (I : Int) := by omega
            have hi2 : (I : Int) ≤ (c1 : Int) := by have := HC.out.1; omega
            have hj1 : (J : Int) ≤ (q : Int) := by omega
            have hj2 : (q : Int) ≤ (c2 : Int) := by have := HC.out.2; omega
            have HNL := Lib.hid (show (WM.chgK X Y E n).length ≤ 1000000000000 by have := WM.chg_len X Y E n; have := helen.out; have := HL.out.1; omega)
            have hnJ : ¬ c2 = J := by omega
            by_cases hnI : c1 = I
            · subst hnI
              have hX := fun W => Clone_any DX 0 (by rw [HLX.out]; omega) A1 0 W (RdO.none_ _ _ _ (by rw [HLX.out]; omega)) (by omega)
              have hCx := hX w5.drew
              have hY := fun W (hW : Below w5.heap.size w5 W) => Clone_any DY (q - J) HLY.out (Option.map (fun x => x.add J) A2) (c2 - J) W (HRY.out W (BW.out.trans (hW.mono BW.out.size))) (by have := HL.out.2; omega)
              clear hr he hX hn hi1 hi2
              go_region_held3 (fun w' => w'.cell? ⟨wo.heap.size, 0, none⟩ = some (.int .i64 (c1 : Nat)) ∧ w'.cell? ⟨wo.heap.size, 1, none⟩ = some (.int .i64 (q : Nat)))
                (first | (with_reducible exact ⟨f0, f1⟩) | (with_reducible exact ⟨e0, e1⟩) | (with_reducible exact ⟨g0, g1⟩) | (with_reducible exact ⟨h0, h1'⟩) | (with_reducible exact ⟨r0, r1⟩) | (with_reducible exact ⟨s0, s1⟩))
                (first
                  | ((with_reducible refine hCx.mono ?_); rintro e w6 ⟨v6, rfl, ho6, hb6⟩; obtain ⟨A6, d6, rfl, _⟩ := ho6.rd; replace hb6 : Below w5.heap.size w5 w6 := ⟨hb6.os, hb6.tape, hb6.output, hb6.size, hb6.block⟩; have g0 := (hb6.cell (p := ⟨wo.heap.size, 0, none⟩) l5).trans f0; have g1 := (hb6.cell (p := ⟨wo.heap.size, 1, none⟩) l5).trans f1; have l6 := Nat.lt_of_lt_of_le l5 hb6.size; have hCy := hY w6 hb6; have H6 := Lib.hid (And.intro ho6 hb6); clear ho6 hb6)
                  | ((with_reducible refine hCy.mono ?_); rintro e w7 ⟨v7, rfl, ho7, hb7⟩; obtain ⟨A7, d7, rfl, _⟩ := ho7.rd; have h0 := (hb7.cell (p := ⟨wo.heap.size, 0, none⟩) l6).trans g0; have h1' := (hb7.cell (p := ⟨wo.heap.size, 1, none⟩) l6).trans g1; have l7 := Nat.lt_of_lt_of_le l6 hb7.size; have B7 := Lib.hid (H6.out.2.trans (hb7.mono H6.out.2.size)); have hrow : RowsC w7 wc.heap.size u7 ⟨c1, DX, DY⟩ (c1, .slice A6 DX.length d6, .slice A7 DY.length d7) := ⟨rfl, (H6.out.1.below hb7 (Nat.le_refl _)).less (Nat.le_trans HO.out.2.size B5.out.size), ho7.less (Nat.le_trans (Nat.le_trans HO.out.2.size B5.out.size) H6.out.2.size), fun z hz => rows_ne (HO.out.1.lt z hz).2 (Nat.le_trans B5.out.size (Nat.le_refl _)) H6.out.1 ho7 H6.out.2.size⟩; have r0 := (World.cell?_of_block (a := ⟨wo.heap.size, 0, none⟩) (Below.heap_alloc w7 (.cells #[.int .i64 (c1 : Nat), .slice A6 DX.length d6, .slice A7 DY.length d7] 45) wo.heap.size l7)).trans h0; have r1 := (World.cell?_of_block (a := ⟨wo.heap.size, 1, none⟩) (Below.heap_alloc w7 (.cells #[.int .i64 (c1 : Nat), .slice A6 DX.length d6, .slice A7 DY.length d7] 45) wo.heap.size l7)).trans h1'; clear ho7 hb7)
                  | (have hz := l7; clear hz; (refine step_app_chg rfl (.tmp 41) (.tmp 56) rfl wc.heap.size u7 (WM.chgK X Y E n) rfl ((HO.out.1.below (B5.out.trans (B7.out.mono B5.out.size))).alloc _) _ ⟨c1, DX, DY⟩ (.slice A6 DX.length d6) (.slice A7 DY.length d7) (hrow.alloc _) rfl ?_ (lits_chg w7 c1 (.slice A6 DX.length d6) (.slice A7 DY.length d7) _) HNL.out (Nat.le_trans (Nat.le_trans HO.out.2.size B5.out.size) (Nat.le_trans B7.out.size (by simp)))); intro v8 w8 hown8 hg8; have s0 := (World.cell?_of_block (a := ⟨wo.heap.size, 0, none⟩) (hg8.block wo.heap.size (Nat.lt_of_lt_of_le l7 (by simp)) (chg_ne HO.out.1))).trans r0; have s1 := (World.cell?_of_block (a := ⟨wo.heap.size, 1, none⟩) (hg8.block wo.heap.size (Nat.lt_of_lt_of_le l7 (by simp)) (chg_ne HO.out.1))).trans r1; have HZ := Lib.hid (And.intro hown8 ((((HO.out.2.trans ((B5.out.trans (B7.out.mono B5.out.size)).mono HO.out.2.size)).alloc (Nat.le_trans (Nat.le_trans HO.out.2.size B5.out.size) B7.out.size) _).grown hg8 (Nat.le_trans (Nat.le_trans HO.out.2.size B5.out.size) (Nat.le_trans B7.out.size (by simp))) (fun j hj => (HO.out.1.lt j hj).1)))); clear hown8))
              all_goals (go_wp2_with fail; go_meet; exact ⟨by rw [HY.out HOR.out]; exact HZ.out.1, HZ.out.2, s0, s1⟩)
            · have hX := fun W (hW : Below w5.heap.size w5 W) => Clone_any DX 0 (by rw [HLX.out]; omega) (Option.map (fun x => x.add I) A1) (c1 - I) W (RdO.none_ _ _ _ (by rw [HLX.out]; omega)) (by omega)
              have hCx := hX w5.drew ⟨rfl, rfl, rfl, Nat.le_refl _, fun _ _ => rfl⟩
              have hY := fun W (hW : Below w5.heap.size w5 W) => Clone_any DY (q - J) HLY.out (Option.map (fun x => x.add J) A2) (c2 - J) W (HRY.out W (BW.out.trans (hW.mono BW.out.size))) (by have := HL.out.2; omega)
              clear hr he hX hn
              go_region_held3 (fun w' => w'.cell? ⟨wo.heap.size, 0, none⟩ = some (.int .i64 (I : Nat)) ∧ w'.cell? ⟨wo.heap.size, 1, none⟩ = some (.int .i64 (q : Nat)))
                (first | (with_reducible exact ⟨f0, f1⟩) | (with_reducible exact ⟨e0, e1⟩) | (with_reducible exact ⟨g0, g1⟩) | (with_reducible exact ⟨h0, h1'⟩) | (with_reducible exact ⟨r0, r1⟩) | (with_reducible exact ⟨s0, s1⟩))
                (first
                  | ((with_reducible refine hCx.mono ?_); rintro e w6 ⟨v6, rfl, ho6, hb6⟩; obtain ⟨A6, d6, rfl, _⟩ := ho6.rd; replace hb6 : Below w5.heap.size w5 w6 := ⟨hb6.os, hb6.tape, hb6.output, hb6.size, hb6.block⟩; have g0 := (hb6.cell (p := ⟨wo.heap.size, 0, none⟩) l5).trans f0; have g1 := (hb6.cell (p := ⟨wo.heap.size, 1, none⟩) l5).trans f1; have l6 := Nat.lt_of_lt_of_le l5 hb6.size; have hCy := hY w6 hb6; have H6 := Lib.hid (And.intro ho6 hb6); clear ho6 hb6)
                  | ((with_reducible refine hCy.mono ?_); rintro e w7 ⟨v7, rfl, ho7, hb7⟩; obtain ⟨A7, d7, rfl, _⟩ := ho7.rd; have h0 := (hb7.cell (p := ⟨wo.heap.size, 0, none⟩) l6).trans g0; have h1' := (hb7.cell (p := ⟨wo.heap.size, 1, none⟩) l6).trans g1; have l7 := Nat.lt_of_lt_of_le l6 hb7.size; have B7 := Lib.hid (H6.out.2.trans (hb7.mono H6.out.2.size)); have hrow : RowsC w7 wc.heap.size u7 ⟨I, DX, DY⟩ (I, .slice A6 DX.length d6, .slice A7 DY.length d7) := ⟨rfl, (H6.out.1.below hb7 (Nat.le_refl _)).less (Nat.le_trans HO.out.2.size B5.out.size), ho7.less (Nat.le_trans (Nat.le_trans HO.out.2.size B5.out.size) H6.out.2.size), fun z hz => rows_ne (HO.out.1.lt z hz).2 (Nat.le_trans B5.out.size (Nat.le_refl _)) H6.out.1 ho7 H6.out.2.size⟩; have r0 := (World.cell?_of_block (a := ⟨wo.heap.size, 0, none⟩) (Below.heap_alloc w7 (.cells #[.int .i64 (I : Nat), .slice A6 DX.length d6, .slice A7 DY.length d7] 45) wo.heap.size l7)).trans h0; have r1 := (World.cell?_of_block (a := ⟨wo.heap.size, 1, none⟩) (Below.heap_alloc w7 (.cells #[.int .i64 (I : Nat), .slice A6 DX.length d6, .slice A7 DY.length d7] 45) wo.heap.size l7)).trans h1'; clear ho7 hb7)
                  | (have hz := l7; clear hz; (refine step_app_chg rfl (.tmp 41) (.tmp 56) rfl wc.heap.size u7 (WM.chgK X Y E n) rfl ((HO.out.1.below (B5.out.trans (B7.out.mono B5.out.size))).alloc _) _ ⟨I, DX, DY⟩ (.slice A6 DX.length d6) (.slice A7 DY.length d7) (hrow.alloc _) rfl ?_ (lits_chg w7 I (.slice A6 DX.length d6) (.slice A7 DY.length d7) _) HNL.out (Nat.le_trans (Nat.le_trans HO.out.2.size B5.out.size) (Nat.le_trans B7.out.size (by simp)))); intro v8 w8 hown8 hg8; have s0 := (World.cell?_of_block (a := ⟨wo.heap.size, 0, none⟩) (hg8.block wo.heap.size (Nat.lt_of_lt_of_le l7 (by simp)) (chg_ne HO.out.1))).trans r0; have s1 := (World.cell?_of_block (a := ⟨wo.heap.size, 1, none⟩) (hg8.block wo.heap.size (Nat.lt_of_lt_of_le l7 (by simp)) (chg_ne HO.out.1))).trans r1; have HZ := Lib.hid (And.intro hown8 ((((HO.out.2.trans ((B5.out.trans (B7.out.mono B5.out.size)).mono HO.out.2.size)).alloc (Nat.le_trans (Nat.le_trans HO.out.2.size B5.out.size) B7.out.size) _).grown hg8 (Nat.le_trans (Nat.le_trans HO.out.2.size B5.out.size) (Nat.le_trans B7.out.size (by simp))) (fun j hj => (HO.out.1.lt j hj).1)))); clear hown8))
              all_goals (go_wp2_with fail; go_meet; exact ⟨by rw [HY.out HOR.out]; exact HZ.out.1, HZ.out.2, s0, s1⟩)
          case rest =>
            obtain ⟨hown9, hb9, d0, d1⟩ := hcut
            have H9 := Lib.hid (And.intro hown9 hb9)
            clear hown9 hb9 f0 f1 e0 e1
            have hpb : (I : Int) ≤ 2000 := by have := HL.out.1; omega
            have hqb : (q : Int) ≤ 2000 := by have := HL.out.2; omega
            go_wp2_with fail
            go_quiet (fail)
            go_wp2_with fail
            exact ⟨⟨n + 1, by rw [HI.out.1]; simp, by rw [HI.out.2]; simp, by simp, by omega, H9.out.1.drewN _, below_drewN H9.out.2 _⟩, by simp [intOf]; omega⟩
        · obtain rfl : I = p := by omega
          obtain rfl : J = q := by omega
          have HM := Lib.hid (HN.out (by omega))
          go_wp2_with fail
          obtain ⟨w5, hw5⟩ : ∃ w5, wo.alloc (.cells #[.int .i64 (I : Nat), .int .i64 (J : Nat)] 64) = w5 := ⟨_, rfl⟩
          rw [hw5]
          have hk5 : Blk w5 wo.heap.size 64 #[.int .i64 (I : Nat), .int .i64 (J : Nat)] := by rw [← hw5]; exact Blk.new wo _ _
          have d0 : w5.cell? ⟨wo.heap.size, 0, none⟩ = some (.int .i64 (I : Nat)) := hk5.cell 0
          have d1 : w5.cell? ⟨wo.heap.size, 1, none⟩ = some (.int .i64 (J : Nat)) := hk5.cell 1
          have H9 := Lib.hid (show OwnC w5 wc.heap.size u7 (WM.chgK X Y E n) ∧ Below wc.heap.size wc w5 by rw [← hw5]; exact ⟨HO.out.1.alloc _, HO.out.2.alloc HO.out.2.size _⟩)
          clear hw5 hk5 k0 k1
          have hpb : (I : Int) ≤ 2000 := by have := HL.out.1; omega
          have hqb : (J : Int) ≤ 2000 := by have := HL.out.2; omega
          go_wp2_with fail
          go_quiet (fail)
          go_wp2_with fail
          exact ⟨⟨n + 1, by rw [HI.out.1]; simp, by rw [HI.out.2]; simp, by simp, by omega, by rw [HM.out]; exact H9.out.1.drewN _, below_drewN H9.out.2 _⟩, by simp [intOf]; omega⟩
    · obtain rfl : n = E.length := by omega
      have HO := Lib.hid (And.intro hown hbw)
      obtain ⟨A9, c9, rfl, _, _⟩ := hown.form
      clear hown hbw
      go_wp2_with fail
      go_ret
      exact ⟨_, rfl, by rw [HD.out]; exact HO.out.1.less (Nat.le_trans HB.out.size (Nat.le_trans HB2.out.1.size HE.out.2.1.size)), HB.out.trans ((HB2.out.1.trans ((HE.out.2.1.trans (HO.out.2.mono HE.out.2.1.size)).mono HB2.out.1.size)).mono HB.out.size)⟩
end Go.Proofs.YtndeifdpiimbeaaGreatDoor
