/- Contract of the reference's WidenOf. -/
import Derived.Test.YtdmgfkgfcofmhaaDoorCovOf
import Derived.Test.YtdmgfkgfcofmhaaDoorStretchW
import Derived.Test.YtdmgfkgfcofmhaaDoorWordsOf
import Derived.Deep.DeepCutAuto
namespace PT
theorem wd_at {l : List UInt8} {i : Nat} (h0 : 0 < i) (h : i < l.length) : wd l i = (WM.wordB (l.getD (i - 1) 0) && WM.wordB (l.getD i 0)) := by
  unfold wd
  rw [decide_eq_true h0, decide_eq_true h, Bool.true_and, Bool.true_and]
end PT
namespace Go.Proofs.YtdmgfkgfcofmhaaDoor
open Go.RowKit

def PaIn2 (w : World) (C : Int → Prop) (n a b bx : Nat) (i : Value) (wr : World) : Prop := ∃ z : Nat, i = .int .i64 z ∧ a ≤ z ∧ (z ≤ b ∨ z = a) ∧ Hid (PaSt w wr n (fun j => C j ∨ (a ≤ j ∧ j < z))) ∧ Hid (Blk wr bx 41 #[.int .i64 a, .int .i64 b])
theorem PaSt.far {w wr : World} {n : Nat} {C : Int → Prop} (h : PaSt w wr n C) {bx : Nat} (hb : w.heap.size < bx) (i : Nat) (v : Value) : PaSt w (wr.setCell ⟨bx, i, none⟩ v) n C := by
  obtain ⟨h1, h2, p, h3, h4⟩ := h
  exact ⟨below_setI h1 (p := ⟨bx, i, none⟩) (by show w.heap.size ≤ bx; omega) _, by simpa [World.setCell] using h2, p, h3.other (a := ⟨bx, i, none⟩) (by show w.heap.size ≠ bx; omega) v, h4⟩
def WiA (w : World) (l : List UInt8) (C : Int → Prop) (n bx P Q : Nat) (wr : World) : Prop := ∃ x : Nat, x ≤ P ∧ PT.dn (PT.wl l) x = PT.dn (PT.wl l) P ∧ Hid (Blk wr bx 41 #[.int .i64 x, .int .i64 Q]) ∧ Hid (PaSt w wr n C)
def WiB (w : World) (l : List UInt8) (C : Int → Prop) (n bx X Q : Nat) (wr : World) : Prop := ∃ y : Nat, Q ≤ y ∧ y ≤ n ∧ PT.up (PT.wl l) y = PT.up (PT.wl l) Q ∧ Hid (Blk wr bx 41 #[.int .i64 X, .int .i64 y]) ∧ Hid (PaSt w wr n C)
set_option maxHeartbeats 16000000 in
set_option maxRecDepth 100000 in
theorem WidenOf_ok {w : World} {b0 : Nat} {v : Value} {L : List (Int × Int)} (h : OwnI w b0 v L) (s : ByteArray) (hs : s.size ≤ 20000) (hv : Go.Lib.validD s.data.toList = true) (hL : ∀ x, x ∈ L → 0 ≤ x.1 ∧ x.1 < x.2 ∧ x.2 ≤ s.size) :
    Calls Tryd.prog 14 #[.string s, v] w fun e w' => ∃ M, WM.sep M ∧ (∀ i, WM.cov M i ↔ WM.cov (L.map (PT.st (PT.wl s.data.toList))) i) ∧ RowOwnI M w e w' := by
  have hlen : s.data.toList.length = s.size := by simp
  have hwl : (PT.wl s.data.toList).length = s.size := by rw [PT.wl_len, hlen]
  have hmk := run_make_row' (P := Tryd.prog) 65 4 (.bool false) 1 Tryd.underlying65 info_bool rfl .i64 .i64 s.size (by omega) (by omega)
  have hin := PT.st_in (l := PT.wl s.data.toList) (L := L) (by rw [hwl]; exact hL)
  rw [hwl] at hin
  obtain ⟨A, cap, rfl, hl, hf⟩ := h.form
  have HL := Lib.hid hL
  have HIN := Lib.hid hin
  have HVD := Lib.hid hv
  obtain ⟨N, hN⟩ : ∃ N, L.map (PT.st (PT.wl s.data.toList)) = N := ⟨_, rfl⟩
  have hNl : N.length = L.length := by rw [← hN, List.length_map]
  have HN := Lib.hid hN
  rw [hN]
  have HS : Hid (PaSt w (w.alloc (.cells (madeCells #[.bool false] s.size) 4)) s.size (WM.cov (N.take 0))) := Lib.hid ⟨(Below.refl _ _).alloc (Nat.le_refl _) _, by simp, fun _ => false, World.rowIs_made w _ s.size _, fun j hj => by simp [WM.cov_nil]⟩
  clear h hL hv hin hN
  go_enter Tryd.func14, Tryd.ntmps14
  go_wp2_with fail
  go_loopw [14] (fun i wr => PaRel w N s.size i wr) (fun i _ => L.length - (intOf i).toNat)
  case atStart => exact ⟨0, rfl, Nat.zero_le _, HS.out⟩
  case round =>
    obtain ⟨k, rfl, hk, hP⟩ := hrel
    clear HS hmk
    have hbw := hP.1
    have hsz := hbw.size
    by_cases hlt : k < L.length
    · obtain ⟨g, rfl, hg1, hg2, hfz, hcs⟩ := hf (by omega)
      have hx := List.getElem?_eq_getElem hlt
      have hm := HL.out _ (List.getElem_mem hlt)
      have hnx : N[k]? = some (PT.st (PT.wl s.data.toList) L[k]) := by rw [← HN.out, List.getElem?_map, hx]; rfl
      have hmn := HIN.out (PT.st (PT.wl s.data.toList) L[k]) (List.mem_map_of_mem (List.getElem_mem hlt))
      generalize L[k] = x at hx hm hnx hmn
      obtain ⟨p, q⟩ := x
      dsimp only at hm
      obtain ⟨P, rfl⟩ := Int.eq_ofNat_of_zero_le hm.1
      obtain ⟨Q, rfl⟩ := Int.eq_ofNat_of_zero_le (show 0 ≤ q by omega)
      have hPQ : P < Q ∧ Q ≤ s.size := by omega
      obtain ⟨hc1, hc2⟩ := hcs k _ hx
      have hd1 := (hbw.cell (p := ⟨g, k * 2, none⟩) hg2).trans hc1
      have hd2 := (hbw.cell (p := ⟨g, k * 2 + 1, none⟩) hg2).trans hc2
      simp only [PT.st, Int.toNat_natCast] at hd1 hd2 hnx hmn
      have HX := Lib.hid hnx
      have HP := Lib.hid (hP.alloc (.cells #[.int .i64 P, .int .i64 Q] 41))
      have HB := Lib.hid (Blk.new wr 41 #[.int .i64 P, .int .i64 Q])
      have hgw : w.heap.size < wr.heap.size := hP.2.1
      obtain ⟨C, hCe⟩ : ∃ C, WM.cov (N.take k) = C := ⟨_, rfl⟩
      rw [hCe] at HP
      have HCE := Lib.hid hCe
      clear hx hc1 hc2 hbw hcs hf hfz hP hm hnx hCe
      obtain ⟨bx, hbx⟩ : ∃ bx, wr.heap.size = bx := ⟨_, rfl⟩
      rw [hbx] at HB hgw
      go_wp2_with fail
      go_loopw [] (fun wr2 => WiA w s.data.toList C s.size bx P Q wr2) (fun wr2 => cellN wr2 bx 0)
      case atStart => exact ⟨P, Nat.le_refl _, rfl, HB, HP⟩
      case round =>
        obtain ⟨x, hxp, hdn, HK, HQ⟩ := hrel
        have hxl : x < s.data.toList.length := by omega
        obtain ⟨wo, hwo⟩ : ∃ wo : World, wo = wr := ⟨_, rfl⟩
        subst hwo
        go_upto_region 5 with fail
        go_cut [42] (fun s0 wx => s0 = .bool (PT.wd s.data.toList x) ∧ wx = wo)
        case first =>
          have e0 := HK.out.cell 0
          cases x with
          | zero =>
            simp at e0
            have i0 : decide ((0 : Int) < 0) = false := by decide
            have HWD := Lib.hid (show PT.wd s.data.toList 0 = false from rfl)
            go_wp2_with fail
            go_meet
            exact ⟨congrArg Value.bool HWD.out.symm, rfl⟩
          | succ y =>
            simp only [List.getElem?_toArray, List.getElem?_cons_zero] at e0
            have hy : y < s.size := by omega
            have hy1 : y + 1 < s.size := by omega
            have i0 : (0 : Int) < ((y + 1 : Nat) : Int) := by omega
            have i1 : (y : Int) < (s.size : Int) := by omega
            have i2 : ((y + 1 : Nat) : Int) < (s.size : Int) := by omega
            have hW : IntKind.i64.wrap (((y + 1 : Nat) : Int) - 1) = (y : Nat) := by rw [show ((y + 1 : Nat) : Int) - 1 = (y : Nat) by omega]; exact IntWalk.i64_in _ ⟨by omega, by omega⟩
            have hwd := PT.wd_at (l := s.data.toList) (i := y + 1) (by omega) hxl
            rw [show y + 1 - 1 = y by omega, ← PT.get_D hy, ← PT.get_D hy1] at hwd
            have HST := fun (h : PT.wd s.data.toList (y + 1) = false) => starts_any (s := s) (y + 1) (by omega) true (by rw [WM.cont_wd HVD.out h]; rfl)
            cases h1 : WM.wordB (s[y]'hy)
            · have hR := wordByte_any _ _ h1
              rw [h1, Bool.false_and] at hwd
              have hS := HST hwd
              have HWF := Lib.hid hwd
              clear hwd HST h1
              go_wp2_with fail
              refine (hR _).mono ?_
              rintro e w' ⟨rfl, rfl⟩
              go_wp2_with fail
              refine (hS _).mono ?_
              rintro e w' ⟨rfl, rfl⟩
              go_wp2_with fail
              go_meet
              exact ⟨congrArg Value.bool HWF.out.symm, rfl⟩
            · have hR := wordByte_any _ _ h1
              rw [h1, Bool.true_and] at hwd
              cases h2 : WM.wordB (s[y + 1]'hy1)
              · have hR2 := wordByte_any _ _ h2
                rw [h2] at hwd
                have hS := HST hwd
                have HWF := Lib.hid hwd
                clear hwd HST h1 h2
                go_wp2_with fail
                refine (hR _).mono ?_
                rintro e w' ⟨rfl, rfl⟩
                go_wp2_with fail
                refine (hR2 _).mono ?_
                rintro e w' ⟨rfl, rfl⟩
                go_wp2_with fail
                refine (hS _).mono ?_
                rintro e w' ⟨rfl, rfl⟩
                go_wp2_with fail
                go_meet
                exact ⟨congrArg Value.bool HWF.out.symm, rfl⟩
              · have hR2 := wordByte_any _ _ h2
                rw [h2] at hwd
                have HWF := Lib.hid hwd
                clear hwd HST h1 h2
                go_wp2_with fail
                refine (hR _).mono ?_
                rintro e w' ⟨rfl, rfl⟩
                go_wp2_with fail
                refine (hR2 _).mono ?_
                rintro e w' ⟨rfl, rfl⟩
                go_wp2_with fail
                go_meet
                exact ⟨congrArg Value.bool HWF.out.symm, rfl⟩
        case rest =>
          obtain ⟨hs0, hwc⟩ := hcut
          obtain rfl : wo = wc := hwc.symm
          subst hs0
          obtain ⟨bb, hbb⟩ : ∃ bb, PT.wd s.data.toList x = bb := ⟨_, rfl⟩
          rw [hbb]
          cases bb
          · obtain rfl : x = PT.dn (PT.wl s.data.toList) P := by rw [← hdn]; exact (PT.dn_stop (by rw [PT.cont_wl]; exact hbb)).symm
            generalize PT.dn (PT.wl s.data.toList) P = X at *
            have hXP := hxp
            clear hbb hdn
            go_wp2_with fail
            go_loopw [] (fun wr2 => WiB w s.data.toList C s.size bx X Q wr2) (fun wr2 => s.size - cellN wr2 bx 1)
            case atStart => exact ⟨Q, Nat.le_refl _, hPQ.2, rfl, HK, HQ⟩
            case round =>
              obtain ⟨y, hyq, hyn, hup, HK2, HQ2⟩ := hrel
              obtain ⟨wp, hwp⟩ : ∃ wp : World, wp = wr := ⟨_, rfl⟩
              subst hwp
              go_upto_region 7 with fail
              go_cut [73] (fun s0 wx => s0 = .bool (PT.wd s.data.toList y) ∧ wx = wp)
              case first =>
                have e1 := HK2.out.cell 1
                simp only [List.getElem?_toArray, List.getElem?_cons_succ, List.getElem?_cons_zero] at e1
                by_cases hyl : y < s.size
                · obtain ⟨z, rfl⟩ : ∃ z, y = z + 1 := ⟨y - 1, by omega⟩
                  have hz : z < s.size := by omega
                  have i0 : ((z + 1 : Nat) : Int) < (s.size : Int) := by omega
                  have i1 : (z : Int) < (s.size : Int) := by omega
                  have hW : IntKind.i64.wrap (((z + 1 : Nat) : Int) - 1) = (z : Nat) := by rw [show ((z + 1 : Nat) : Int) - 1 = (z : Nat) by omega]; exact IntWalk.i64_in _ ⟨by omega, by omega⟩
                  have hwd := PT.wd_at (l := s.data.toList) (i := z + 1) (by omega) (by omega)
                  rw [show z + 1 - 1 = z by omega, ← PT.get_D hz, ← PT.get_D hyl] at hwd
                  have HST := fun (h : PT.wd s.data.toList (z + 1) = false) => starts_any (s := s) (z + 1) (by omega) true (by rw [WM.cont_wd HVD.out h]; rfl)
                  cases h1 : WM.wordB (s[z + 1]'hyl)
                  · have hR := wordByte_any _ _ h1
                    rw [h1, Bool.and_false] at hwd
                    have hS := HST hwd
                    have HWF := Lib.hid hwd
                    clear hwd HST h1
                    go_wp2_with fail
                    refine (hR _).mono ?_
                    rintro e w' ⟨rfl, rfl⟩
                    go_wp2_with fail
                    refine (hS _).mono ?_
                    rintro e w' ⟨rfl, rfl⟩
                    go_wp2_with fail
                    go_meet
                    exact ⟨congrArg Value.bool HWF.out.symm, rfl⟩
                  · have hR := wordByte_any _ _ h1
                    rw [h1, Bool.and_true] at hwd
                    cases h2 : WM.wordB (s[z]'hz)
                    · have hR2 := wordByte_any _ _ h2
                      rw [h2] at hwd
                      have hS := HST hwd
                      have HWF := Lib.hid hwd
                      clear hwd HST h1 h2
                      go_wp2_with fail
                      refine (hR _).mono ?_
                      rintro e w' ⟨rfl, rfl⟩
                      go_wp2_with fail
                      refine (hR2 _).mono ?_
                      rintro e w' ⟨rfl, rfl⟩
                      go_wp2_with fail
                      refine (hS _).mono ?_
                      rintro e w' ⟨rfl, rfl⟩
                      go_wp2_with fail
                      go_meet
                      exact ⟨congrArg Value.bool HWF.out.symm, rfl⟩
                    · have hR2 := wordByte_any _ _ h2
                      rw [h2] at hwd
                      have HWF := Lib.hid hwd
                      clear hwd HST h1 h2
                      go_wp2_with fail
                      refine (hR _).mono ?_
                      rintro e w' ⟨rfl, rfl⟩
                      go_wp2_with fail
                      refine (hR2 _).mono ?_
                      rintro e w' ⟨rfl, rfl⟩
                      go_wp2_with fail
                      go_meet
                      exact ⟨congrArg Value.bool HWF.out.symm, rfl⟩
                · obtain rfl : y = s.size := by omega
                  have i0 : decide ((s.size : Int) < (s.size : Int)) = false := decide_eq_false (by omega)
                  have HWD := Lib.hid (show PT.wd s.data.toList s.size = false by unfold PT.wd; rw [decide_eq_false (p := s.size < s.data.toList.length) (by omega)]; simp)
                  go_wp2_with fail
                  go_meet
                  exact ⟨congrArg Value.bool HWD.out.symm, rfl⟩
              case rest =>
                obtain ⟨hs0, hwc⟩ := hcut
                obtain rfl : wp = wc := hwc.symm
                subst hs0
                obtain ⟨bb, hbb⟩ : ∃ bb, PT.wd s.data.toList y = bb := ⟨_, rfl⟩
                rw [hbb]
                cases bb
                · obtain rfl : y = PT.up (PT.wl s.data.toList) Q := by rw [← hup]; exact (PT.up_fix (by rw [PT.cont_wl]; exact hbb)).symm
                  generalize PT.up (PT.wl s.data.toList) Q = Y at *
                  have e0 := HK2.out.cell 0
                  simp only [List.getElem?_toArray, List.getElem?_cons_zero] at e0
                  have hXY : X < Y ∧ Y ≤ s.size := by omega
                  clear hbb hup hwc hmn
                  go_wp2_with fail
                  go_loopw [8] (fun i wr2 => PaIn2 w C s.size X Y bx i wr2) (fun i _ => Y - (intOf i).toNat)
                  case atStart => exact ⟨X, rfl, Nat.le_refl _, .inr rfl, Lib.hid (HQ2.out.congr fun i => ⟨.inl, fun h => h.resolve_right (by omega)⟩), HK2⟩
                  case round =>
                    obtain ⟨z, rfl, hz, hzb, HQ3, HK3⟩ := hrel
                    have e1 := HK3.out.cell 1
                    simp at e1
                    by_cases hzl : z < Y
                    · obtain ⟨⟨t, ht⟩, hft⟩ := HQ3.out.at_ (show z < s.size by omega)
                      have HQ4 := Lib.hid ((HQ3.out.set z).congr (D := fun j => C j ∨ (X ≤ j ∧ j < (z + 1 : Nat))) fun i => by
                        constructor
                        · rintro ((h | h) | h)
                          · exact .inl h
                          · exact .inr ⟨h.1, by omega⟩
                          · exact .inr ⟨by omega, by omega⟩
                        · rintro (h | h)
                          · exact .inl (.inl h)
                          · by_cases e : i = z
                            · exact .inr e
                            · exact .inl (.inr ⟨h.1, by omega⟩))
                      have HK4 := Lib.hid (HK3.out.far (p := ⟨w.heap.size, z, none⟩) (by show _ ≠ w.heap.size; omega) (.bool true))
                      go_wp2_with fail
                      exact ⟨⟨z + 1, by simp, by omega, .inl (by omega), HQ4, HK4⟩, by simp [intOf]; omega⟩
                    · have HD := Lib.hid (pa_done (L := N) (k := k) (by rw [HCE.out]; exact HQ3.out) HX.out hzb hzl)
                      go_wp2_with fail
                      exact ⟨⟨k + 1, by simp, by omega, HD.out⟩, by simp [intOf]; omega⟩
                · have hyl : y < s.size := by
                    unfold PT.wd at hbb
                    simp only [Bool.and_eq_true, decide_eq_true_eq] at hbb
                    omega
                  have e1 := HK2.out.cell 1
                  have z1 := HK2.out.frozen 1
                  have e1c := e1
                  simp only [List.getElem?_toArray, List.getElem?_cons_succ, List.getElem?_cons_zero] at e1
                  have HUP := Lib.hid ((PT.up_next (by rw [PT.cont_wl]; exact hbb)).symm.trans hup)
                  have hW : IntKind.i64.wrap ((y : Int) + 1) = ((y + 1 : Nat) : Int) := by rw [show (y : Int) + 1 = ((y + 1 : Nat) : Int) by omega]; exact IntWalk.i64_in _ ⟨by omega, by omega⟩
                  have hn := cellN_of e1
                  have HS1 := Lib.hid (show Blk (wp.setCell ⟨bx, 1, none⟩ (.int .i64 ((y + 1 : Nat) : Int))) bx 41 #[.int .i64 X, .int .i64 ((y + 1 : Nat) : Int)] from HK2.out.set_ 1 _)
                  have HS2 := Lib.hid (HQ2.out.far hgw 1 (.int .i64 ((y + 1 : Nat) : Int)))
                  have hn2 := cellN_of (x := y + 1) (by have := HS1.out.cell 1; simpa only [List.getElem?_toArray, List.getElem?_cons_succ, List.getElem?_cons_zero] using this)
                  have HN2 := Lib.hid (And.intro hn hn2)
                  clear hbb hup hwc hn hn2 e1c
                  go_wp2_with fail
                  exact ⟨⟨y + 1, by omega, by omega, HUP.out, HS1, HS2⟩, by rw [HN2.out.1, show ((y : Int) + 1) = ((y + 1 : Nat) : Int) by omega, HN2.out.2]; omega⟩
          · obtain ⟨y, rfl⟩ : ∃ y, x = y + 1 := by
              cases x with
              | zero => cases hbb
              | succ y => exact ⟨y, rfl⟩
            have e0 := HK.out.cell 0
            have z0 := HK.out.frozen 0
            simp only [List.getElem?_toArray, List.getElem?_cons_zero] at e0
            have HDN := Lib.hid ((PT.dn_step (by rw [PT.cont_wl]; exact hbb)).symm.trans hdn)
            have hW : IntKind.i64.wrap (((y + 1 : Nat) : Int) - 1) = (y : Nat) := by rw [show ((y + 1 : Nat) : Int) - 1 = (y : Nat) by omega]; exact IntWalk.i64_in _ ⟨by omega, by omega⟩
            have hn := cellN_of e0
            have HS1 := Lib.hid (show Blk (wo.setCell ⟨bx, 0, none⟩ (.int .i64 (y : Nat))) bx 41 #[.int .i64 (y : Nat), .int .i64 Q] from HK.out.set_ 0 _)
            have HS2 := Lib.hid (HQ.out.far hgw 0 (.int .i64 (y : Nat)))
            have hn2 := cellN_of (x := y) (by have := HS1.out.cell 0; simpa only [List.getElem?_toArray, List.getElem?_cons_zero] using this)
            have HN2 := Lib.hid (And.intro hn hn2)
            clear hbb hdn hwc hn hn2
            go_wp2_with fail
            exact ⟨⟨y, by omega, HDN.out, HS1, HS2⟩, by rw [HN2.out.1, HN2.out.2]; omega⟩
    · have HD := Lib.hid hP
      obtain rfl : k = L.length := by omega
      obtain ⟨h1, h2, p, hp1, hp2⟩ := HD.out
      have hS := spansFrom_any hp1 (by omega)
      have HB := Lib.hid h1
      have HP2 := Lib.hid hp2
      rw [← hNl, List.take_length] at hp2
      have HPC := Lib.hid hp2
      clear hP hbw h1 h2 hp1 hp2
      go_wp2_with fail
      refine hS.mono ?_
      rintro e w3 ⟨M, hM, v3, rfl, ho3, hb3⟩
      have HO := Lib.hid (And.intro (ho3.less HB.out.size) (HB.out.trans (hb3.mono HB.out.size)))
      have HM := Lib.hid hM
      obtain ⟨A3, c3, rfl, -, -⟩ := ho3.form
      clear hS ho3 hb3 hM
      go_wp2_with fail
      go_ret
      refine ⟨M, HM.out.sep, fun i => ?_, _, rfl, HO.out.1, HO.out.2⟩
      rw [HM.out.cov]
      constructor
      · rintro ⟨j, rfl, hj, h⟩
        exact (HPC.out j hj).1 h
      · intro h
        obtain ⟨t, ht, h1, h2⟩ := id h
        rw [← HN.out] at ht
        have := HIN.out t ht
        obtain ⟨j, rfl⟩ := Int.eq_ofNat_of_zero_le (show 0 ≤ i by omega)
        exact ⟨j, rfl, by omega, (HPC.out j (by omega)).2 h⟩
end Go.Proofs.YtdmgfkgfcofmhaaDoor
