/- Contracts of wordsWhole's closure and of stretched at it: spans made longer to whole words. -/
import Derived.Test.YtdmgfkgfcofmhaaDoorStretch
import Derived.Test.YtdmgfkgfcofmhaaDoorWordB
namespace PT
/-- byte i and the one before it are bytes of one word -/
def wd (l : List UInt8) (i : Nat) : Bool := decide (0 < i) && decide (i < l.length) && WM.wordB (l.getD (i - 1) 0) && WM.wordB (l.getD i 0)
/-- a list whose bytes go on where a word goes on -/
def wl (l : List UInt8) : List UInt8 := (List.range l.length).map fun i => if wd l i then 128 else 0
theorem wl_len (l : List UInt8) : (wl l).length = l.length := by simp [wl]
theorem cont_wl (l : List UInt8) (i : Nat) : cont ((wl l).getD i 0) = wd l i := by
  by_cases h : i < l.length
  · rw [List.getD_eq_getElem?_getD, wl, List.getElem?_map, List.getElem?_range h]
    simp only [Option.map_some, Option.getD_some]
    cases wd l i <;> decide
  · rw [cont_out (by rw [wl_len]; omega)]
    unfold wd
    rw [decide_eq_false h]
    simp
theorem wl_zero (l : List UInt8) : cont ((wl l).getD 0 0) = false := by rw [cont_wl]; rfl
end PT
namespace Go.Proofs.YtdmgfkgfcofmhaaDoor
open Go.RowKit

set_option maxHeartbeats 2000000 in
theorem dividesW_any {s : ByteArray} (at_ : Nat) (hat : at_ ≤ s.size) (hs : s.size ≤ 1000000) (b : Bool) (hb : PT.cont ((PT.wl s.data.toList).getD at_ 0) = b) (w : World) (bx : Nat) (h : w.cell? ⟨bx, 0, none⟩ = some (.string s)) : Calls Tryd.prog 54 #[.int .i64 at_, .pointer (some ⟨bx, 0, none⟩)] w fun e w' => e = .returned (.bool b) ∧ ∃ n, w' = w.drewN n := by
  rw [PT.cont_wl] at hb
  have hlen : s.data.toList.length = s.size := by simp
  by_cases h0 : 0 < at_
  · obtain ⟨y, rfl⟩ : ∃ y, at_ = y + 1 := ⟨at_ - 1, by omega⟩
    by_cases hlt : y + 1 < s.size
    · have hy : y < s.size := by omega
      have g1 : s[y]'hy = s.data.toList.getD y 0 := by
        rw [List.getD_eq_getElem?_getD, List.getElem?_eq_getElem (by simpa using hy)]
        simp [ByteArray.getElem_eq_getElem_data]
      have g2 : s[y + 1]'hlt = s.data.toList.getD (y + 1) 0 := by
        rw [List.getD_eq_getElem?_getD, List.getElem?_eq_getElem (by simpa using hlt)]
        simp [ByteArray.getElem_eq_getElem_data]
      have hb2 : (WM.wordB (s[y]'hy) && WM.wordB (s[y + 1]'hlt)) = b := by
        rw [← hb, g1, g2]
        unfold PT.wd
        rw [decide_eq_true (by omega), decide_eq_true (by omega)]
        simp
      have hW : IntKind.i64.wrap (((y + 1 : Nat) : Int) - 1) = (y : Nat) := by rw [show ((y + 1 : Nat) : Int) - 1 = (y : Nat) by omega]; exact IntWalk.i64_in _ ⟨by omega, by omega⟩
      have i0 : (0 : Int) < ((y + 1 : Nat) : Int) := by omega
      have i1 : ((y + 1 : Nat) : Int) < (s.size : Int) := by omega
      have i2 : (y : Int) < (s.size : Int) := by omega
      clear hb g1 g2 h0
      cases hc1 : WM.wordB (s[y]'hy)
      · obtain rfl : b = false := by rw [← hb2, hc1]; rfl
        have hR := fun W => WordByte_any (s[y]'hy) false hc1 W
        clear hb2 hc1
        go_enter Tryd.func54, Tryd.ntmps54
        go_wp2_with fail
        refine (hR _).mono ?_
        rintro e w' ⟨rfl, n, rfl⟩
        clear hR
        go_wp2_with fail
        go_ret
        exact ⟨rfl, n, rfl⟩
      · have hR := fun W => WordByte_any (s[y]'hy) true hc1 W
        have hR2 := fun W => WordByte_any (s[y + 1]'hlt) b (by rw [← hb2, hc1]; simp) W
        clear hb2 hc1
        cases b
        all_goals
          go_enter Tryd.func54, Tryd.ntmps54
          go_wp2_with fail
          refine (hR _).mono ?_
          rintro e w' ⟨rfl, n, rfl⟩
          clear hR
          go_wp2_with fail
          refine (hR2 _).mono ?_
          rintro e w' ⟨rfl, m, rfl⟩
          clear hR2
          go_wp2_with fail
          go_ret
          exact ⟨rfl, n + m, rfl⟩
    · obtain rfl : b = false := by rw [← hb]; unfold PT.wd; rw [decide_eq_false (p := y + 1 < s.data.toList.length) (by omega)]; simp
      have hd : decide (((y + 1 : Nat) : Int) < (s.size : Int)) = false := decide_eq_false (by omega)
      have i0 : decide ((0 : Int) < ((y + 1 : Nat) : Int)) = true := decide_eq_true (by omega)
      clear hb
      go_enter Tryd.func54, Tryd.ntmps54
      go_wp2_with fail
      go_ret
      exact ⟨rfl, 0, rfl⟩
  · obtain rfl : at_ = 0 := by omega
    obtain rfl : b = false := by rw [← hb]; rfl
    clear hb
    go_enter Tryd.func54, Tryd.ntmps54
    go_wp2_with fail
    go_ret
    exact ⟨rfl, 0, rfl⟩
set_option maxHeartbeats 16000000 in
set_option maxRecDepth 100000 in
theorem stretchedW_any {w : World} {b bx : Nat} {v : Value} {s : ByteArray} {L : List (Int × Int)} (h : OwnI w b v L) (hl : L.length ≤ 1000000) (hs : s.size ≤ 1000000) (hL : ∀ x, x ∈ L → 0 ≤ x.1 ∧ x.1 < x.2 ∧ x.2 ≤ s.size) (h0 : PT.cont ((PT.wl s.data.toList).getD 0 0) = false) (hbx : bx < w.heap.size) (hc : w.cell? ⟨bx, 0, none⟩ = some (.string s)) :
    Calls Tryd.prog 53 #[v, .func (.func 54) #[] #[.pointer (some ⟨bx, 0, none⟩)]] w (RowOwnI (L.map (PT.st (PT.wl s.data.toList))) w) := by
  have hC := CloneI_all h hl
  have eg := enters_of Tryd.func54 (by kernel_rfl) rfl
  have hlen : (PT.wl s.data.toList).length = s.size := by rw [PT.wl_len]; simp
  have HLL := Lib.hid hL
  have HC := Lib.hid hc
  have H0 := Lib.hid h0
  clear h hL hc h0
  go_enter Tryd.func53, Tryd.ntmps53
  go_wp2_with fail
  refine hC.mono ?_
  rintro e w1 ⟨v1, rfl, ho1, hb1⟩
  have HO1 := Lib.hid (And.intro ho1 hb1)
  obtain ⟨A1, c1, rfl, hl1, hf1⟩ := ho1.form
  have hAg : 0 < L.length → ∃ g, A1 = some ⟨g, 0, none⟩ := fun h => by obtain ⟨g, e, _⟩ := hf1 h; exact ⟨g, e⟩
  clear hC ho1 hb1 hf1
  go_wp2_with fail
  go_loopw [10] (fun i wr => StRel w (PT.wl s.data.toList) (.slice A1 L.length c1) L i wr) (fun i _ => L.length - (intOf i).toNat)
  case atStart => exact ⟨0, rfl, Nat.zero_le _, Lib.hid (by simpa using HO1.out.1), HO1.out.2⟩
  case round =>
    obtain ⟨k, rfl, hk, HK, hbw⟩ := hrel
    clear HO1
    by_cases hlt : k < L.length
    · obtain ⟨g, rfl⟩ := hAg (by omega)
      have hx := List.getElem?_eq_getElem hlt
      have hm := HLL.out _ (List.getElem_mem hlt)
      generalize L[k] = x at hx hm
      obtain ⟨p, q⟩ := x
      dsimp only at hm
      obtain ⟨P, rfl⟩ := Int.eq_ofNat_of_zero_le hm.1
      obtain ⟨Q, rfl⟩ := Int.eq_ofNat_of_zero_le (show 0 ≤ q by omega)
      obtain ⟨HH, hHH⟩ : ∃ HH, (L.take k).map (PT.st (PT.wl s.data.toList)) = HH := ⟨_, rfl⟩
      have hHl : HH.length = k := by rw [← hHH]; simp; omega
      have hOw := HK.out
      rw [List.drop_eq_getElem_cons hlt, hHH] at hOw
      have hxe : L[k] = ((P : Int), (Q : Int)) := by rw [List.getElem?_eq_getElem hlt] at hx; exact Option.some.inj hx
      rw [hxe] at hOw
      have HOw := Lib.hid hOw
      have HX := Lib.hid (And.intro hxe hHH)
      have hPQ : P < Q ∧ Q ≤ s.size := by omega
      have HB := Lib.hid hbw
      have HLS : Hid (HH ++ (((PT.dn (PT.wl s.data.toList) P : Nat) : Int), ((PT.up (PT.wl s.data.toList) Q : Nat) : Int)) :: L.drop (k + 1) = (L.take (k + 1)).map (PT.st (PT.wl s.data.toList)) ++ L.drop (k + 1)) := Lib.hid (by
        rw [List.take_succ_eq_append_getElem hlt, List.map_append, hHH, hxe]
        simp [PT.st])
      clear hx hm hOw hxe hHH HK hbw
      obtain ⟨wo, hwo⟩ : ∃ wo : World, wo = wr := ⟨_, rfl⟩
      subst hwo
      go_wp2_with fail
      go_loopw [] (fun wr2 => StA w (PT.wl s.data.toList) (.slice (some ⟨g, 0, none⟩) L.length c1) HH (L.drop (k + 1)) P Q wr2) (fun wr2 => cellN wr2 g (k * 2))
      case atStart => exact ⟨P, Nat.le_refl _, rfl, HOw, HB.out⟩
      case round =>
        obtain ⟨x, hxp, hdn, HO, hbw⟩ := hrel
        obtain ⟨m1, m2, m3, m4, m5, m6⟩ := HO.out.midAt
        rw [hHl] at m3 m4 m5 m6
        have hcb := (hbw.cell (p := ⟨bx, 0, none⟩) hbx).trans HC.out
        by_cases hcx : PT.cont ((PT.wl s.data.toList).getD x 0) = true
        · obtain ⟨y, rfl⟩ : ∃ y, x = y + 1 := by
            cases x with
            | zero => rw [H0.out] at hcx; cases hcx
            | succ y => exact ⟨y, rfl⟩
          have hD := dividesW_any (y + 1) (by omega) hs true hcx wr bx hcb
          have HDN := Lib.hid ((PT.dn_step hcx).symm.trans hdn)
          have HBW := Lib.hid hbw
          have hn := cellN_of (x := y + 1) m3
          have hW : IntKind.i64.wrap (((y + 1 : Nat) : Int) - 1) = (y : Nat) := by rw [show ((y + 1 : Nat) : Int) - 1 = (y : Nat) by omega]; exact IntWalk.i64_in _ ⟨by omega, by omega⟩
          have HS := Lib.hid (And.intro m1 m3)
          clear hcx hdn hbw m1 m4 m6
          go_wp2_with fail
          refine hD.mono ?_
          rintro e w' ⟨rfl, nn, rfl⟩
          clear hD
          go_wp2_with fail
          exact ⟨⟨y, by omega, HDN.out, Lib.hid (by have := OwnI.mid1 (HO.out.drewN nn) (y : Int); rw [hHl] at this; exact this), below_setI (below_drewN HBW.out nn) (p := ⟨g, k * 2, none⟩) HS.out.1 _⟩, by
            rw [hn, cellN_of (x := y) (by first | exact World.cell?_setCell_same (wr.drewN nn) _ _ HS.out.2 | (rw [World.cell?_setCell_same (wr.drewN nn) _ _ HS.out.2]))]; omega⟩
        · have hcf : PT.cont ((PT.wl s.data.toList).getD x 0) = false := by simpa using hcx
          obtain rfl : x = PT.dn (PT.wl s.data.toList) P := by rw [← hdn]; exact (PT.dn_stop hcf).symm
          have hD := dividesW_any (PT.dn (PT.wl s.data.toList) P) (by omega) hs false hcf wr bx hcb
          have HO5 := Lib.hid (And.intro HO.out hbw)
          generalize hdp : PT.dn (PT.wl s.data.toList) P = x at *
          clear hcx hcf hdn hbw m1 m2 m4 m5 m6 HO HOw
          obtain ⟨wq, hwq⟩ : ∃ wq : World, wq = wr := ⟨_, rfl⟩
          subst hwq
          go_wp2_with fail
          refine hD.mono ?_
          rintro e w' ⟨rfl, nn, rfl⟩
          clear hD
          go_wp2_with fail
          go_loopw [] (fun wr2 => StB w (PT.wl s.data.toList) (.slice (some ⟨g, 0, none⟩) L.length c1) HH (L.drop (k + 1)) x Q wr2) (fun wr2 => s.size - cellN wr2 g (k * 2 + 1))
          case atStart => exact ⟨Q, by omega, rfl, Lib.hid (HO5.out.1.drewN nn), below_drewN HO5.out.2 nn⟩
          case round =>
            obtain ⟨y, hy, hup, HO, hbw⟩ := hrel
            obtain ⟨m1, m2, m3, m4, m5, m6⟩ := HO.out.midAt
            rw [hHl] at m3 m4 m5 m6
            clear hcb m3
            have hcb := (hbw.cell (p := ⟨bx, 0, none⟩) hbx).trans HC.out
            have hn := cellN_of m4
            by_cases hcx : PT.cont ((PT.wl s.data.toList).getD y 0) = true
            · have hlt2 := PT.cont_lt hcx
              have hD := dividesW_any y (by omega) hs true hcx wr bx hcb
              have HDN := Lib.hid ((PT.up_next hcx).symm.trans hup)
              have HBW := Lib.hid hbw
              have hW : IntKind.i64.wrap ((y : Int) + 1) = ((y + 1 : Nat) : Int) := by rw [show (y : Int) + 1 = ((y + 1 : Nat) : Int) by omega]; exact IntWalk.i64_in _ ⟨by omega, by omega⟩
              have HS := Lib.hid (And.intro m1 m4)
              clear hcx hup hbw m1 m5
              go_wp2_with fail
              refine hD.mono ?_
              rintro e w' ⟨rfl, nn, rfl⟩
              clear hD
              go_wp2_with fail
              exact ⟨⟨y + 1, by omega, HDN.out, Lib.hid (by have := OwnI.mid2 (HO.out.drewN nn) ((y + 1 : Nat) : Int); rw [hHl] at this; exact this), below_setI (below_drewN HBW.out nn) (p := ⟨g, k * 2 + 1, none⟩) HS.out.1 _⟩, by
                rw [hn, cellN_of (x := y + 1) (by first | exact World.cell?_setCell_same (wr.drewN nn) _ _ HS.out.2 | (rw [World.cell?_setCell_same (wr.drewN nn) _ _ HS.out.2]))]; omega⟩
            · have hcf : PT.cont ((PT.wl s.data.toList).getD y 0) = false := by simpa using hcx
              obtain rfl : y = PT.up (PT.wl s.data.toList) Q := by rw [← hup]; exact (PT.up_fix hcf).symm
              have hD := dividesW_any (PT.up (PT.wl s.data.toList) Q) (by omega) hs false hcf wr bx hcb
              have HN := Lib.hid (And.intro HO.out hbw)
              rw [HLS.out] at HN
              generalize PT.up (PT.wl s.data.toList) Q = y at *
              clear hcx hcf hup hbw m1 m2 m5 m6 HO
              go_wp2_with fail
              refine hD.mono ?_
              rintro e w' ⟨rfl, nn, rfl⟩
              clear hD
              go_wp2_with fail
              exact ⟨⟨k + 1, by simp, by omega, Lib.hid (HN.out.1.drewN nn), below_drewN HN.out.2 nn⟩, by simp [intOf]; omega⟩
    · obtain rfl : k = L.length := by omega
      have HF := HK.out
      rw [List.take_length, List.drop_length, List.append_nil] at HF
      have HO := Lib.hid (And.intro HF hbw)
      clear HF hbw
      go_wp2_with fail
      go_ret
      exact ⟨_, rfl, HO.out.1, HO.out.2⟩
end Go.Proofs.YtdmgfkgfcofmhaaDoor
