/- Contract of the reference's patched at any changes. -/
import Derived.Test.YtndeifdpiimbeaaGreatDoorPatchZ
import Derived.Test.YtndeifdpiimbeaaGreatDoorPlain
import Derived.Test.YtndeifdpiimbeaaGreatDoorOwnF
import Derived.Test.YtndeifdpiimbeaaGreatDoorTokensOf
import Derived.Test.YtndeifdpiimbeaaGreatDoorConcat
import Derived.Test.YtndeifdpiimbeaaGreatDoorJoinOf
import Derived.Deep.DeepCutAuto
import Derived.Deep.QuietTactic
import Derived.Deep.RegionHeld3
namespace Go.Proofs.YtndeifdpiimbeaaGreatDoor
open Go.RowKit

set_option maxHeartbeats 2000000 in
theorem TokensFault1 (a : ByteArray) (ha : Few a) (g : Nat) (w : World) (h0 : w.cell? ⟨g, 0, none⟩ = some (.string a)) (hg : g < w.heap.size) (hm : Mx w) :
    Calls Tryz.prog 43 #[.slice (some ⟨g, 0, none⟩) 1 1] w fun e w' => e = .returned (.int .i64 0) ∧ Below w.heap.size w w' := by
  have HM := Lib.hid hm
  have HA := Lib.hid ha
  clear hm ha
  go_enter Tryz.func43, Tryz.ntmps43
  go_wp2_with fail
  go_loopw [7] (fun i wr => ∃ k : Nat, k ≤ 1 ∧ i = .int .i64 k ∧ Below w.heap.size w wr) (fun i _ => 1 - (intOf i).toNat)
  case atStart => exact ⟨0, by omega, rfl, Below.refl _ _⟩
  case round =>
    obtain ⟨k, hk, rfl, hbw⟩ := hrel
    have hmw := HM.out.below hbw HM.out.2
    have d0 := (hbw.cell (p := ⟨g, 0, none⟩) hg).trans h0
    rcases (show k = 0 ∨ k = 1 by omega) with rfl | rfl
    · have hT := TokensOf_any a (by have := HA.out.1; omega) wr hmw hmw.2
      have s1 := HA.out.1
      have s2 := HA.out.2
      have HW := Lib.hid hbw
      generalize WM.toks a = X at *
      clear hmw hbw
      go_wp2_with fail
      refine hT.mono ?_
      rintro e w1 ⟨v1, rfl, ho1, hb1⟩
      obtain ⟨A1, c1, rfl, _⟩ := ho1.rd
      have H1 := Lib.hid (HW.out.trans (hb1.mono HW.out.size))
      clear hT ho1 hb1 d0
      go_wp2_with fail
      exact ⟨⟨1, by omega, rfl, H1.out⟩, by simp [intOf]⟩
    · have HW := Lib.hid hbw
      clear hmw hbw d0
      go_wp2_with fail
      go_ret
      exact ⟨rfl, HW.out⟩
theorem back_lenZ (D : List WM.Chg) : ∀ n, (WM.backL D n).length ≤ n
  | 0 => Nat.le_refl _
  | n + 1 => by
    have ih := back_lenZ D n
    simp only [WM.backL, List.length_append]
    cases D[n]? <;> simp <;> omega
/-- what patched answers -/
def PdSays (X : List ByteArray) (D : List WM.ZC) (w : World) (e : Ending) (w' : World) : Prop := ∃ v, e = .returned (.tuple #[.string (resP X D), v, .int .i64 (codeP X D)]) ∧ OwnC w' w.heap.size v (backP X D) ∧ Below w.heap.size w w'
theorem pd_bad {X : List ByteArray} {D : List WM.ZC} {w w' : World} {k : Int} (h : WM.fault X D = k) (hk : k ≠ 0) (hb : Below w.heap.size w w') : PdSays X D w (.returned (.tuple #[.string ⟨#[]⟩, .slice none 0 0, .int .i64 k])) w' := by
  have h1 := codeP_bad (X := X) (D := D) (by rw [h]; exact hk)
  have h2 : codeP X D ≠ 0 := by rw [h1, h]; exact hk
  exact ⟨_, by rw [resP_bad h2, h1, h], by rw [backP_bad h2]; exact OwnC.nil _ _, hb⟩
def PdRel (w1 : World) (X : List ByteArray) (D : List WM.ZC) (o b a i : Value) (wr : World) : Prop := ∃ n : Nat, a = .int .i64 (WM.aft (D.map WM.ZC.nat) n : Nat) ∧ i = .int .i64 n ∧ n ≤ D.length ∧ WM.flt X D n = 0 ∧ OwnS wr w1.heap.size o (WM.repK WM.added X (D.map WM.ZC.nat) n) ∧ OwnCF wr w1.heap.size b (WM.backL (D.map WM.ZC.nat) n) o ∧ Below w1.heap.size w1 wr
set_option maxHeartbeats 32000000 in
set_option maxRecDepth 100000 in
theorem patched_gen (s : ByteArray) (hs : Few s) (D : List WM.ZC) (AD : Option Addr) (cD : Nat) (base : Nat) (w : World) (hm : Mx w) (hD : RdZ w base AD D) (hk : OkZ D) :
    Calls Tryz.prog 25 #[.string s, .slice AD D.length cD] w (PdSays (WM.toks s) D w) := by
  have hF := TokensFault1 s hs w.heap.size (w.alloc (.cells #[.string s] 9)) ((Blk.new w _ _).cell 0) (by simp) (hm.below ((Below.refl _ _).alloc (Nat.le_refl _) _) hm.2)
  have hT := fun W (hW : Mx W) => TokensOf_any s (by have := hs.1; omega) W hW hW.2
  have hTX := fun (x : ByteArray) (hx : x.size ≤ 1000000000) W (hW : Mx W) => TokensOf_any x hx W hW hW.2
  obtain ⟨ls, la⟩ := hs
  have hJN := hk.join ls
  generalize WM.toks s = X at *
  have HD := Lib.hid (And.intro hD (And.intro hk (And.intro la (And.intro hJN hm))))
  have hDl := hk.len
  clear hD hk la hm hJN ls
  go_enter Tryz.func25, Tryz.ntmps25
  go_wp2_with fail
  refine hF.mono ?_
  rintro e w0 ⟨rfl, hb0⟩
  have B0 : Below w.heap.size w w0 := ((Below.refl _ _).alloc (Nat.le_refl _) _).trans (hb0.mono (by simp))
  have hT0 := hT w0 (HD.out.2.2.2.2.below B0 HD.out.2.2.2.2.2)
  have H0 := Lib.hid B0
  clear hF hb0 hT B0
  go_wp2_with fail
  refine hT0.mono ?_
  rintro e w1 ⟨v1, rfl, ho1, hb1⟩
  obtain ⟨A, cX, rfl, hrd⟩ := ho1.rd
  have hcX := ho1.cap_le
  have H1 := Lib.hid (And.intro ho1 (And.intro (H0.out.trans (hb1.mono H0.out.size)) hrd))
  have HF := Lib.hid (HD.out.1.below H1.out.2.1)
  have HM := Lib.hid (HD.out.2.2.2.2.below H1.out.2.1 HD.out.2.2.2.2.2)
  have HTX := Lib.hid hTX
  have hX2 := HD.out.2.2.1
  clear hT0 ho1 hb1 hrd hTX
  go_wp2_with fail
  go_loopw [9, 10, 11, 27] (fun o b a i wr => PdRel w1 X D o b a i wr) (fun _ _ _ i _ => D.length - (intOf i).toNat)
  case atStart => exact ⟨0, rfl, rfl, Nat.zero_le _, rfl, OwnS.nil _ _, OwnCF.nil _ _ _, Below.refl _ _⟩
  case round =>
    obtain ⟨n, rfl, rfl, hn, hz0, hown, hback, hbw⟩ := hrel
    obtain ⟨wo, rfl⟩ : ∃ wo : World, wo = wr := ⟨_, rfl⟩
    have hal := (WM.aft_flt hz0 hn).2
    by_cases hlt : n < D.length
    · obtain ⟨g, rfl, hg, hgc⟩ := HF.out (by omega)
      have hx := List.getElem?_eq_getElem hlt
      generalize D[n] = c at hx
      have hmc := List.mem_of_getElem? hx
      have HFA := Lib.hid (fun k => WM.fault_of (k := k) hx hz0)
      have HST := Lib.hid (WM.flt_step hx hz0)
      have HTT := Lib.hid (HD.out.2.1.odd c hmc)
      have hdl := HD.out.2.1.dropz c hmc
      have HAL := Lib.hid (HD.out.2.1.addl c.nat (List.mem_map.2 ⟨c, hmc, rfl⟩))
      have HAT := Lib.hid (fun h => (WM.at_flt (X := X) (D := D) (n := n) h hx).1)
      have HBK := Lib.hid (fun h => WM.back_flt (X := X) (D := D) (n := n) h hx)
      have HRS := Lib.hid (WM.rep_step WM.added X (WM.nat_get hx))
      have HAS := Lib.hid (WM.aft_step (WM.nat_get hx))
      have HAZ := Lib.hid (WM.aft_flt hz0 hn).1
      have HNL := Lib.hid (HD.out.2.1.rows hX2 n (by rw [List.length_map]; omega))
      have HNX := Lib.hid (HD.out.2.1.rows hX2 (n + 1) (by rw [List.length_map]; omega))
      obtain ⟨A1, c1, A2, c2, k0', k1', k2', o1, o2⟩ := hgc w1 (Below.refl _ _) n c hx
      obtain ⟨z, dr, ad⟩ := c
      simp only [WM.ZC.nat] at HTT hdl HAL HAT HBK HRS HAS k0' k1' k2' o1 o2
      have k0 := (hbw.cell (p := ⟨g, n * 3, none⟩) hg).trans k0'
      have k1 := (hbw.cell (p := ⟨g, n * 3 + 1, none⟩) hg).trans k1'
      have k2 := (hbw.cell (p := ⟨g, n * 3 + 2, none⟩) hg).trans k2'
      have HO := Lib.hid (And.intro hown (And.intro hback (And.intro hbw (And.intro o1 o2))))
      have hal2 := o2.len_le
      have HRT := Lib.hid (fun W (hW : Below w1.heap.size w1 W) => Rd.drop (Rd.below H1.out.2.2 hW) (WM.aft (D.map WM.ZC.nat) n))
      generalize WM.aft (D.map WM.ZC.nat) n = a at *
      clear hx hown hback hbw hgc o1 o2 k0' k1' k2' hmc hz0
      go_upto_region 11 with fail
      obtain ⟨w5, hw5⟩ : ∃ w5, wo.alloc (.cells #[.int .i64 z, .slice A1 dr.length c1, .slice A2 ad.length c2] 45) = w5 := ⟨_, rfl⟩
      rw [hw5]
      have b5 : Below wo.heap.size wo w5 := by rw [← hw5]; exact (Below.refl _ _).alloc (Nat.le_refl _) _
      have q5 : Blk w5 wo.heap.size 45 #[.int .i64 z, .slice A1 dr.length c1, .slice A2 ad.length c2] := by rw [← hw5]; exact Blk.new wo _ _
      have l5 := q5.lt
      have f0 : w5.cell? ⟨wo.heap.size, 0, none⟩ = some (.int .i64 z) := q5.cell 0
      have f1 : w5.cell? ⟨wo.heap.size, 1, none⟩ = some (.slice A1 dr.length c1) := q5.cell 1
      have f2 : w5.cell? ⟨wo.heap.size, 2, none⟩ = some (.slice A2 ad.length c2) := q5.cell 2
      have B5 := Lib.hid (And.intro b5 (And.intro (HO.out.2.2.1.trans (b5.mono HO.out.2.2.1.size)) (H1.out.2.1.trans ((HO.out.2.2.1.trans (b5.mono HO.out.2.2.1.size)).mono H1.out.2.1.size))))
      clear hw5 b5 q5 k0 k1 k2
      by_cases h1 : z < 0
      · have HL := Lib.hid h1
        go_wp2_with fail
        exact bodyPost_ret (v := .tuple #[.string ⟨#[]⟩, .slice none 0 0, .int .i64 1]) (by simp [results, Tryz.results25, go_sem]) rfl (pd_bad (HFA.out 1 (WM.one_1 (.inl HL.out))  (by omega)) (by omega) B5.out.2.2)
      replace h1 : 0 ≤ z := Int.not_lt.1 h1
      by_cases h2 : (X.length : Int) < z
      · have HL := Lib.hid h2
        go_wp2_with fail
        exact bodyPost_ret (v := .tuple #[.string ⟨#[]⟩, .slice none 0 0, .int .i64 1]) (by simp [results, Tryz.results25, go_sem]) rfl (pd_bad (HFA.out 1 (WM.one_1 (.inr HL.out))  (by omega)) (by omega) B5.out.2.2)
      obtain ⟨p, rfl⟩ := Int.eq_ofNat_of_zero_le h1
      have hp : p ≤ X.length := by omega
      have HIN := Lib.hid (show ¬ ((p : Int) < 0 ∨ (X.length : Int) < (p : Int)) by omega)
      clear h1 h2
      have hb1 : decide ((p : Int) < 0) = false := decide_eq_false (by omega)
      have hb2 : decide (X.length < p) = false := decide_eq_false (by omega)
      go_upto_region 13 with fail
      clear hb1 hb2
      go_cut [43] (fun s wx => s = .bool (decide (0 < n ∧ p ≤ a)) ∧ wx = w5)
      case first =>
        by_cases hz : n = 0
        · have HZ := Lib.hid hz
          have hz' : decide (0 < n) = false := decide_eq_false (by omega)
          clear hz
          go_wp2_with fail
          go_meet
          exact ⟨congrArg Value.bool (decide_eq_false (by have := HZ.out; omega)).symm, rfl⟩
        · have hz' : 0 < n := by omega
          clear hz
          by_cases ho : p ≤ a
          · have HL := Lib.hid (And.intro hz' ho)
            go_wp2_with fail
            go_meet
            exact ⟨congrArg Value.bool (decide_eq_true (HL.out)).symm, rfl⟩
          · have ho' : a < p := by omega
            clear ho
            go_wp2_with fail
            go_meet
            exact ⟨congrArg Value.bool (by rw [decide_eq_false (by omega), decide_eq_false (by omega)]), rfl⟩
      case rest =>
        obtain ⟨hs43, hwc⟩ := hcut
        obtain rfl : w5 = wc := hwc.symm
        subst hs43
        obtain ⟨b43, hb43⟩ : ∃ b43, b43 = decide (0 < n ∧ p ≤ a) := ⟨_, rfl⟩
        rw [← hb43]
        rcases (show (b43 = true ∧ (0 < n ∧ p ≤ a)) ∨ (b43 = false ∧ ¬ (0 < n ∧ p ≤ a)) by
          by_cases h : 0 < n ∧ p ≤ a
          · exact .inl ⟨hb43.trans (decide_eq_true h), h⟩
          · exact .inr ⟨hb43.trans (decide_eq_false h), h⟩) with ⟨rfl, hord⟩ | ⟨rfl, hord⟩
        · have HL := Lib.hid hord
          clear hord hb43
          go_wp2_with fail
          exact bodyPost_ret (v := .tuple #[.string ⟨#[]⟩, .slice none 0 0, .int .i64 7]) (by simp [results, Tryz.results25, go_sem]) rfl (pd_bad (HFA.out 7 (WM.one_7 HIN.out ⟨HL.out.1, by show (p : Int) ≤ WM.aftZ D n; rw [HAZ.out]; have := HL.out.2; omega⟩) (by omega)) (by omega) B5.out.2.2)
        have HORD := Lib.hid (show ¬ (0 < n ∧ (p : Int) ≤ WM.aftZ D n) by rw [HAZ.out]; omega)
        clear hord hb43
        go_upto_region 15 with fail
        go_cut [52] (fun s wx => s = .bool (decide (dr.length = 0 ∧ ad.length = 0)) ∧ wx = w5)
        case first =>
          by_cases hd0 : dr.length = 0
          · have HD0 := Lib.hid hd0
            have hd1 : ((dr.length : Int) == 0) = true := beq_iff_eq.2 (by omega)
            clear hd0
            by_cases ha0 : ad.length = 0
            · have HA0 := Lib.hid ha0
              have ha1 : ((ad.length : Int) == 0) = true := beq_iff_eq.2 (by omega)
              clear ha0
              go_wp2_with fail
              go_meet
              exact ⟨congrArg Value.bool (decide_eq_true ⟨HD0.out, HA0.out⟩).symm, rfl⟩
            · have HA0 := Lib.hid ha0
              have ha1 : ((ad.length : Int) == 0) = false := beq_eq_false_iff_ne.2 (by omega)
              clear ha0
              go_wp2_with fail
              go_meet
              exact ⟨congrArg Value.bool (decide_eq_false (by have := HA0.out; omega)).symm, rfl⟩
          · have HD0 := Lib.hid hd0
            have hd1 : ((dr.length : Int) == 0) = false := beq_eq_false_iff_ne.2 (by omega)
            clear hd0
            go_wp2_with fail
            go_meet
            exact ⟨congrArg Value.bool (decide_eq_false (by have := HD0.out; omega)).symm, rfl⟩
        case rest =>
          obtain ⟨hs52, hwc⟩ := hcut
          obtain rfl : w5 = wc := hwc.symm
          subst hs52
          obtain ⟨b52, hb52⟩ : ∃ b52, b52 = decide (dr.length = 0 ∧ ad.length = 0) := ⟨_, rfl⟩
          rw [← hb52]
          rcases (show (b52 = true ∧ (dr.length = 0 ∧ ad.length = 0)) ∨ (b52 = false ∧ ¬ (dr.length = 0 ∧ ad.length = 0)) by
            by_cases h : dr.length = 0 ∧ ad.length = 0
            · exact .inl ⟨hb52.trans (decide_eq_true h), h⟩
            · exact .inr ⟨hb52.trans (decide_eq_false h), h⟩) with ⟨rfl, h3⟩ | ⟨rfl, h3⟩
          · have HL := Lib.hid h3
            clear h3 hb52
            go_wp2_with fail
            exact bodyPost_ret (v := .tuple #[.string ⟨#[]⟩, .slice none 0 0, .int .i64 3]) (by simp [results, Tryz.results25, go_sem]) rfl (pd_bad (HFA.out 3 (WM.one_3 HIN.out HORD.out HL.out) (by omega)) (by omega) B5.out.2.2)
          have H3 := Lib.hid h3
          clear h3 hb52
          have hCC := Concat_any (w5.alloc (.cells #[.slice A1 dr.length c1, .slice A2 ad.length c2] 43)) ((HO.out.2.2.2.1.below B5.out.2.1 (Nat.le_refl _)).alloc _) ((HO.out.2.2.2.2.below B5.out.2.1 (Nat.le_refl _)).alloc _) ((Blk.new w5 _ _).cell 0) ((Blk.new w5 _ _).cell 1) (by simp) (by have := HAL.out; omega)
          go_wp2_with fail
          refine hCC.mono ?_
          rintro e w7 ⟨v7, rfl, ho7, hb7⟩
          have b57 : Below w5.heap.size w5 w7 := ((Below.refl _ _).alloc (Nat.le_refl _) _).trans (hb7.mono (by simp))
          obtain ⟨A7, c7, rfl, hr7⟩ := ho7.rd
          have hl7 := ho7.len_le
          have g0 := (b57.cell (p := ⟨wo.heap.size, 0, none⟩) l5).trans f0
          have g1 := (b57.cell (p := ⟨wo.heap.size, 1, none⟩) l5).trans f1
          have g2 := (b57.cell (p := ⟨wo.heap.size, 2, none⟩) l5).trans f2
          have l7 := Nat.lt_of_lt_of_le l5 b57.size
          have H7 := Lib.hid (And.intro b57 (And.intro (B5.out.2.1.trans (b57.mono B5.out.2.1.size)) (B5.out.2.2.trans (b57.mono B5.out.2.2.size))))
          have HR7 := Lib.hid hr7
          have HOD := Lib.hid (show ∀ x, x ∈ dr ++ ad → Odd x ∧ x.size ≤ 1000000000 from fun x hx => (List.mem_append.1 hx).elim (HTT.out.1 x) (HTT.out.2 x))
          have HTB := Lib.hid (WM.tokB_app dr ad)
          generalize dr ++ ad = L at *
          clear hCC ho7 hb7 b57 hr7 f0 f1 f2
          go_wp2_with fail
          go_loopw [70] (fun i wr => ∃ k : Nat, k ≤ L.length ∧ i = .int .i64 k ∧ (∀ x, x ∈ L.take k → WM.IsTok x) ∧ Below w7.heap.size w7 wr) (fun i _ => L.length - (intOf i).toNat)
          case atStart => exact ⟨0, Nat.zero_le _, rfl, fun x hx => by simp at hx, Below.refl _ _⟩
          case round =>
            obtain ⟨k, hk, rfl, hall, hbk⟩ := hrel
            obtain ⟨wk, rfl⟩ : ∃ wk : World, wk = wr := ⟨_, rfl⟩
            by_cases hkl : k < L.length
            · obtain ⟨g7, rfl, hg7, hc7⟩ := HR7.out (by omega)
              have hxk := List.getElem?_eq_getElem hkl
              generalize L[k] = x at hxk
              have d1 := (hbk.cell (p := ⟨g7, k, none⟩) hg7).trans (hc7 k x hxk)
              obtain ⟨ho, hs⟩ := HOD.out x (List.mem_of_getElem? hxk)
              have hMk : Mx wk := HM.out.below (H7.out.2.1.trans (hbk.mono H7.out.2.1.size)) HM.out.2
              have hTk := HTX.out x hs wk hMk
              have HK := Lib.hid hbk
              have HXK := Lib.hid hxk
              have HALL := Lib.hid hall
              clear hc7 hxk hbk hall hMk ho
              go_wp2_with fail
              refine hTk.mono ?_
              rintro e w8 ⟨v8, rfl, ho8, hb8⟩
              have hmk : OwnS (w8.alloc (.cells #[.string x] 9)) w8.heap.size (.slice (some ⟨w8.heap.size, 0, none⟩) 1 1) [x] := OwnS.made w8 [x] (by simp [maxLen])
              by_cases ht : WM.IsTok x
              · have hEq := EqualS_any (ho8.alloc _) hmk true (decide_eq_true (WM.toks_self ht))
                have H8 := Lib.hid (((HK.out.trans (hb8.mono HK.out.size))).alloc (Nat.le_trans HK.out.size hb8.size) (.cells #[.string x] 9))
                have HA := Lib.hid (show ∀ y, y ∈ L.take (k + 1) → WM.IsTok y from fun y hy => by
                  rw [List.take_add_one, List.mem_append] at hy
                  rcases hy with hy | hy
                  · exact HALL.out y hy
                  · rw [HXK.out] at hy; simp at hy; subst hy; exact ht)
                clear hTk ho8 hb8 hmk d1 ht
                go_wp2_with fail
                refine hEq.mono ?_
                rintro e w9 ⟨rfl, n9, rfl⟩
                clear hEq
                go_wp2_with fail
                exact ⟨⟨k + 1, by omega, by simp, HA.out, below_drewN H8.out _⟩, by simp [intOf]; omega⟩
              · have hEq := EqualS_any (ho8.alloc _) hmk false (decide_eq_false (fun e => ht ((WM.toks_iff x).1 e)))
                have H8 := Lib.hid (((HK.out.trans (hb8.mono HK.out.size))).alloc (Nat.le_trans HK.out.size hb8.size) (.cells #[.string x] 9))
                have HTF := Lib.hid (show WM.tokB dr = false ∨ WM.tokB ad = false by
                  have h := HTB.out
                  rw [WM.tokB_false HXK.out ht] at h
                  cases h1 : WM.tokB dr
                  · exact .inl rfl
                  · rw [h1] at h; exact .inr (by simpa using h.symm))
                clear hTk ho8 hb8 hmk d1 ht
                go_wp2_with fail
                refine hEq.mono ?_
                rintro e w9 ⟨rfl, n9, rfl⟩
                clear hEq
                go_wp2_with fail
                exact bodyPost_ret (v := .tuple #[.string ⟨#[]⟩, .slice none 0 0, .int .i64 3]) (by simp [results, Tryz.results25, go_sem]) rfl (pd_bad (HFA.out 3 (WM.one_3t HIN.out HORD.out HTF.out) (by omega)) (by omega) (below_drewN (H7.out.2.2.trans (H8.out.mono H7.out.2.2.size)) _))
            · have HTK := Lib.hid (show ¬ (WM.tokB dr = false ∨ WM.tokB ad = false) by
                have h := HTB.out
                rw [(WM.tokB_iff L).2 (by rwa [List.take_of_length_le (by omega)] at hall)] at h
                have h' := h.symm
                rw [Bool.and_eq_true] at h'
                rw [h'.1, h'.2]; simp)
              have h0 := (hbk.cell (p := ⟨wo.heap.size, 0, none⟩) l7).trans g0
              have h1 := (hbk.cell (p := ⟨wo.heap.size, 1, none⟩) l7).trans g1
              have h2 := (hbk.cell (p := ⟨wo.heap.size, 2, none⟩) l7).trans g2
              have lk := Nat.lt_of_lt_of_le l7 hbk.size
              have HK := Lib.hid (And.intro (H7.out.1.trans (hbk.mono H7.out.1.size)) (And.intro (H7.out.2.1.trans (hbk.mono H7.out.2.1.size)) (H7.out.2.2.trans (hbk.mono H7.out.2.2.size))))
              clear hall hbk g0 g1 g2
              have HPN := Lib.hid (show ((p : Int)).toNat = p from rfl)
              have HRP := Lib.hid (fun W (hW : Below w1.heap.size w1 W) => Rd.drop (Rd.below H1.out.2.2 hW) p)
              go_upto_region 23 with fail
              go_cut [105] (fun s wx => s = .bool (!(WM.fitB (X.drop p) dr)) ∧ ∃ m, wx = wk.drewN m)
              case first =>
                by_cases hfl : X.length < p + dr.length
                · have HFB := Lib.hid (show WM.fitB (X.drop p) dr = false by
                    cases hq : WM.fitB (X.drop p) dr
                    · rfl
                    · have := WM.fit_len ((WM.fitB_iff _ _).1 hq)
                      omega)
                  have hq1 : decide ((X.length : Int) < (p : Int) + (dr.length : Int)) = true := decide_eq_true (by omega)
                  have hsum : IntKind.i64.wrap ((p : Int) + (dr.length : Int)) = (p : Int) + (dr.length : Int) := IntWalk.i64_in _ (by omega)
                  clear hfl
                  go_quiet (fail)
                  go_wp2_with fail
                  go_meet
                  exact ⟨by rw [HFB.out]; rfl, _, rfl⟩
                · have hq1 : decide ((X.length : Int) < (p : Int) + (dr.length : Int)) = false := decide_eq_false (by omega)
                  have HSUM := Lib.hid (show IntKind.i64.wrap ((p : Int) + (dr.length : Int)) = (p : Int) + (dr.length : Int) from IntWalk.i64_in _ (by omega))
                  have hi1 : (0 : Int) ≤ (p : Int) := by omega
                  have hi2 : (p : Int) ≤ (p : Int) + (dr.length : Int) := by omega
                  have hi3 : (p : Int) + (dr.length : Int) ≤ (cX : Int) := by omega
                  by_cases hcp : cX = p
                  · have hnil : dr = [] := List.eq_nil_of_length_eq_zero (by omega)
                    have HFB := Lib.hid (show WM.fitB (X.drop p) dr = true from (WM.fitB_iff _ _).2 (by rw [hnil]; rfl))
                    have HNIL := Lib.hid hnil
                    have hd0 : dr.length = 0 := by rw [hnil]; rfl
                    have HD0 := Lib.hid hd0
                    clear hnil
                    have hEq := fun W => EqualR_gen dr dr 0 hd0 hd0 true (by simp) A A1 0 c1 W (RdO.none_ _ _ _ hd0) (RdO.none_ _ _ _ hd0) (by omega)
                    have hEq' := Lib.hid hEq
                    rw [hd0] at h1
                    clear hd0 hEq
                    obtain rfl : p = cX := hcp.symm
                    have hxp : X.length = p := by omega
                    have HXP := Lib.hid hxp
                    have hw0 : IntKind.i64.wrap ((p : Int)) = (p : Int) := IntWalk.i64_in _ (by omega)
                    have hq3 : decide ((X.length : Int) < (p : Int)) = false := decide_eq_false (by omega)
                    have hq4 : decide (X.length < p) = false := decide_eq_false (by omega)
                    have hi4 : (p : Int) ≤ (p : Int) := Int.le_refl _
                    clear hxp hq1 hi2 hi3 hfl
                    go_quiet ((refine Calls.quiet_of (hEq'.out _)))
                    go_wp2_with fail
                    go_meet
                    exact ⟨by rw [HFB.out]; rfl, _, rfl⟩
                  · obtain ⟨fb, hfb⟩ : ∃ fb, fb = WM.fitB (X.drop p) dr := ⟨_, rfl⟩
                    have HFB := Lib.hid hfb
                    have HQ := Lib.hid (fun W (hW : Below w1.heap.size w1 W) => EqualR_gen ((X.drop p).take dr.length) dr dr.length (by rw [List.length_take, List.length_drop]; omega) rfl fb (by rw [hfb]; exact WM.fitB_iff _ _) (Option.map (fun x => x.add p) A) A1 (cX - p) c1 W ((HRP.out W hW).take _) ((HO.out.2.2.2.1.below hW (Nat.le_refl _)).rdo) (by omega))
                    clear hfb hfl
                    have hsum := HSUM.out
                    go_quiet ((refine Calls.quiet_of (HQ.out _ (below_drewN HK.out.2.1 _))))
                    go_wp2_with fail
                    go_meet
                    exact ⟨by rw [← HFB.out], _, rfl⟩
              case rest =>
                obtain ⟨hs105, m, hwm⟩ := hcut
                obtain ⟨nb, hnb⟩ : ∃ nb, nb = !(WM.fitB (X.drop p) dr) := ⟨_, rfl⟩
                rw [← hnb] at hs105
                subst hs105
                have q0 : wc.cell? ⟨wo.heap.size, 0, none⟩ = some (.int .i64 (p : Int)) := by rw [hwm]; exact h0
                have q1 : wc.cell? ⟨wo.heap.size, 1, none⟩ = some (.slice A1 dr.length c1) := by rw [hwm]; exact h1
                have q2 : wc.cell? ⟨wo.heap.size, 2, none⟩ = some (.slice A2 ad.length c2) := by rw [hwm]; exact h2
                have lq : wo.heap.size < wc.heap.size := by rw [hwm]; exact lk
                have Q9 := Lib.hid (show Below w5.heap.size w5 wc ∧ Below w1.heap.size w1 wc ∧ Below w.heap.size w wc by rw [hwm]; exact ⟨below_drewN HK.out.1 m, below_drewN HK.out.2.1 m, below_drewN HK.out.2.2 m⟩)
                clear hwm h0 h1 h2 lk
                cases nb
                case true =>
                  have HFB := Lib.hid (show WM.fitB (X.drop ((p : Int)).toNat) dr = false by
                    show WM.fitB (X.drop p) dr = false
                    cases hq : WM.fitB (X.drop p) dr
                    · rfl
                    · rw [hq] at hnb; cases hnb)
                  clear hnb
                  go_wp2_with fail
                  exact bodyPost_ret (v := .tuple #[.string ⟨#[]⟩, .slice none 0 0, .int .i64 13]) (by simp [results, Tryz.results25, go_sem]) rfl (pd_bad (HFA.out 13 (WM.one_13 HIN.out HORD.out H3.out HTK.out HFB.out) (by omega)) (by omega) Q9.out.2.2)
                case false =>
                  have hfb : WM.fitB (X.drop ((p : Int)).toNat) dr = true := by
                    show WM.fitB (X.drop p) dr = true
                    cases hq : WM.fitB (X.drop p) dr
                    · rw [hq] at hnb; cases hnb
                    · rfl
                  have hfl := WM.fit_len ((WM.fitB_iff _ _).1 hfb)
                  have hf1 := HST.out.trans (WM.one_0 HIN.out HORD.out H3.out HTK.out hfb)
                  have hap : a ≤ p := HAT.out hf1
                  have HB2 := Lib.hid (HBK.out hf1)
                  have HF1 := Lib.hid hf1
                  have hpl : p + dr.length ≤ X.length := by
                    have e : ((p : Int)).toNat = p := rfl
                    rw [e] at hfl
                    omega
                  have HRT2 := Lib.hid (fun W (hW : Below w1.heap.size w1 W) => (HRT.out W hW).take (p - a))
                  have HLT := Lib.hid (show ((X.drop a).take (p - a)).length = p - a by rw [List.length_take, List.length_drop]; omega)
                  have HRS2 := Lib.hid (show WM.repK WM.added X (D.map WM.ZC.nat) (n + 1) = WM.repK WM.added X (D.map WM.ZC.nat) n ++ (X.drop a).take (p - a) ++ ad from HRS.out)
                  have HB3 := Lib.hid (show WM.backL (D.map WM.ZC.nat) (n + 1) = WM.backL (D.map WM.ZC.nat) n ++ [⟨(WM.repK WM.added X (D.map WM.ZC.nat) n ++ (X.drop a).take (p - a)).length, ad, dr⟩] from HB2.out)
                  generalize (X.drop a).take (p - a) = Z at *
                  clear hnb hfb hfl hf1 HFA HST HAT HBK HB2 HRS
                  have hz9 := Q9.out.2.1.size
                  have B09 := Lib.hid (show Below wo.heap.size wo wc from B5.out.1.trans (Q9.out.1.mono B5.out.1.size))
                  have HOW := Lib.hid (show OwnS wc w1.heap.size u9 (WM.repK WM.added X (D.map WM.ZC.nat) n) from HO.out.1.below B09.out (Nat.le_refl _))
                  have HOB := Lib.hid (show OwnCF wc w1.heap.size u10 (WM.backL (D.map WM.ZC.nat) n) u9 from HO.out.2.1.below B09.out)
                  have HNE := Lib.hid (own_ne HO.out.1)
                  obtain ⟨w9, hw9⟩ : ∃ w9 : World, w9 = wc := ⟨_, rfl⟩
                  subst hw9
                  go_upto_region 25 with fail
                  go_cut [9] (fun s wx => OwnS wx w1.heap.size s (WM.repK WM.added X (D.map WM.ZC.nat) n ++ Z) ∧ OwnCF wx w1.heap.size u10 (WM.backL (D.map WM.ZC.nat) n) s ∧ Below w1.heap.size w1 wx ∧ wx.cell? ⟨wo.heap.size, 0, none⟩ = some (.int .i64 (p : Int)) ∧ wx.cell? ⟨wo.heap.size, 1, none⟩ = some (.slice A1 dr.length c1) ∧ wx.cell? ⟨wo.heap.size, 2, none⟩ = some (.slice A2 ad.length c2) ∧ wo.heap.size < wx.heap.size ∧ some wo.heap.size ≠ s.ownBlock)
                  case first =>
                    by_cases hcj : cX = a
                    · obtain rfl : a = p := by omega
                      have HLX := Lib.hid hcj
                      subst hcj
                      go_wp2_with (at_builtin; refine app_rd _ rfl (.tmp 106) (.tmp 111) rfl w1.heap.size u9 (WM.repK WM.added X (D.map WM.ZC.nat) n) rfl HOW.out A 0 0 Z rfl (by rw [HLT.out]; omega) (RdO.none_ _ _ _ (by rw [HLT.out]; omega)) (fun h => ⟨rfl, rfl⟩) ?_ ?e1 hz9; intro v6 w6 hown6 hg6 hat6)
                      case e1 => have := HNL.out; omega
                      have r0 := (World.cell?_of_block (a := ⟨wo.heap.size, 0, none⟩) (hg6.block wo.heap.size lq HNE.out)).trans q0
                      have r1 := (World.cell?_of_block (a := ⟨wo.heap.size, 1, none⟩) (hg6.block wo.heap.size lq HNE.out)).trans q1
                      have r2 := (World.cell?_of_block (a := ⟨wo.heap.size, 2, none⟩) (hg6.block wo.heap.size lq HNE.out)).trans q2
                      have H6 := Lib.hid (And.intro hown6 (And.intro (HOB.out.side hg6 hat6) (And.intro (Q9.out.2.1.grown hg6 hz9 (fun j hj => HO.out.1.base_le j hj)) (And.intro (Nat.lt_of_lt_of_le lq hg6.size) (app_ne hat6 HNE.out lq)))))
                      clear hown6 hg6 hat6 q0 q1 q2
                      go_wp2_with fail
                      go_meet
                      exact ⟨H6.out.1, H6.out.2.1, H6.out.2.2.1, r0, r1, r2, H6.out.2.2.2.1, H6.out.2.2.2.2⟩
                    · go_wp2_with (at_builtin; refine app_rd _ rfl (.tmp 106) (.tmp 111) rfl w1.heap.size u9 (WM.repK WM.added X (D.map WM.ZC.nat) n) rfl HOW.out (Option.map (fun x => x.add a) A) (p - a) (cX - a) Z rfl HLT.out (HRT2.out _ Q9.out.2.1) (fun h => by have := H1.out.1.cap0 (Option.map_eq_none_iff.1 h); omega) ?_ ?e1 hz9; intro v6 w6 hown6 hg6 hat6)
                      case e1 => have := HNL.out; omega
                      have r0 := (World.cell?_of_block (a := ⟨wo.heap.size, 0, none⟩) (hg6.block wo.heap.size lq HNE.out)).trans q0
                      have r1 := (World.cell?_of_block (a := ⟨wo.heap.size, 1, none⟩) (hg6.block wo.heap.size lq HNE.out)).trans q1
                      have r2 := (World.cell?_of_block (a := ⟨wo.heap.size, 2, none⟩) (hg6.block wo.heap.size lq HNE.out)).trans q2
                      have H6 := Lib.hid (And.intro hown6 (And.intro (HOB.out.side hg6 hat6) (And.intro (Q9.out.2.1.grown hg6 hz9 (fun j hj => HO.out.1.base_le j hj)) (And.intro (Nat.lt_of_lt_of_le lq hg6.size) (app_ne hat6 HNE.out lq)))))
                      clear hown6 hg6 hat6 q0 q1 q2
                      go_wp2_with fail
                      go_meet
                      exact ⟨H6.out.1, H6.out.2.1, H6.out.2.2.1, r0, r1, r2, H6.out.2.2.2.1, H6.out.2.2.2.2⟩
                  case rest =>
                    obtain ⟨ha1, ha2, ha3, p0, p1, p2, lw, hne⟩ := hcut
                    obtain ⟨w10, hw10⟩ : ∃ w10 : World, w10 = wc := ⟨_, rfl⟩
                    subst hw10
                    generalize hR : WM.repK WM.added X (D.map WM.ZC.nat) n ++ Z = R at *
                    have HRL := Lib.hid (show R.length ≤ 400000000 by rw [← hR, List.length_append, HLT.out]; have := HNL.out; omega)
                    obtain ⟨A9, c9, rfl, _⟩ := ha1.rd
                    have hl9 := ha1.len_le
                    have HA := Lib.hid (And.intro ha1 (And.intro ha2 (And.intro ha3 hne)))
                    have HBN := Lib.hid (show (WM.backL (D.map WM.ZC.nat) n).length ≤ 1000000000000 by have := back_lenZ (D.map WM.ZC.nat) n; omega)
                    have e0 : w10.drew.cell? ⟨wo.heap.size, 0, none⟩ = some (.int .i64 (p : Int)) := p0
                    have e1 : w10.drew.cell? ⟨wo.heap.size, 1, none⟩ = some (.slice A1 dr.length c1) := p1
                    have e2 : w10.drew.cell? ⟨wo.heap.size, 2, none⟩ = some (.slice A2 ad.length c2) := p2
                    have hCl := fun (A : Option Addr) (l : List ByteArray) (k : Nat) (h : OwnS w1 base (.slice A l.length k) l) (hl : l.length ≤ 1000000) W (hW : Below w10.heap.size w10 W) => Clone_any l l.length rfl A k W ((h.below (HA.out.2.2.1.trans (hW.mono HA.out.2.2.1.size)) (Nat.le_refl _)).rdo) (by omega)
                    clear ha1 ha2 ha3 hne hR q0 q1 q2
                    go_upto_region 26 with fail
                    go_cut [10] (fun s10 wx => OwnCF wx w1.heap.size s10 (WM.backL (D.map WM.ZC.nat) (n + 1)) (.slice A9 R.length c9) ∧ OwnS wx w1.heap.size (.slice A9 R.length c9) R ∧ Below w1.heap.size w1 wx ∧ wx.cell? ⟨wo.heap.size, 0, none⟩ = some (.int .i64 (p : Int)) ∧ wx.cell? ⟨wo.heap.size, 1, none⟩ = some (.slice A1 dr.length c1) ∧ wx.cell? ⟨wo.heap.size, 2, none⟩ = some (.slice A2 ad.length c2) ∧ wo.heap.size < wx.heap.size)
                    case first =>
                      have hCx := hCl A2 ad c2 HO.out.2.2.2.2 (by have := HAL.out; omega) w10.drew ⟨rfl, rfl, rfl, Nat.le_refl _, fun _ _ => rfl⟩
                      have hCd := hCl A1 dr c1 HO.out.2.2.2.1 hdl
                      clear hCl
                      go_region_held3 (fun w' => w'.cell? ⟨wo.heap.size, 0, none⟩ = some (.int .i64 (p : Int)) ∧ w'.cell? ⟨wo.heap.size, 1, none⟩ = some (.slice A1 dr.length c1) ∧ w'.cell? ⟨wo.heap.size, 2, none⟩ = some (.slice A2 ad.length c2))
                        (first | (with_reducible exact ⟨p0, p1, p2⟩) | (with_reducible exact ⟨e0, e1, e2⟩) | (with_reducible exact ⟨g0, g1, g2⟩) | (with_reducible exact ⟨h0, h1', h2⟩) | (with_reducible exact HRW.out) | (with_reducible exact ⟨s0, s1, s2⟩) | fail)
                        (first
                          | ((with_reducible refine hCx.mono ?_); rintro e w6 ⟨v6, rfl, ho6, hb6⟩; obtain ⟨A6, d6, rfl, _⟩ := ho6.rd; replace hb6 : Below w10.heap.size w10 w6 := ⟨hb6.os, hb6.tape, hb6.output, hb6.size, hb6.block⟩; have g0 := (hb6.cell (p := ⟨wo.heap.size, 0, none⟩) lw).trans p0; have g1 := (hb6.cell (p := ⟨wo.heap.size, 1, none⟩) lw).trans p1; have g2 := (hb6.cell (p := ⟨wo.heap.size, 2, none⟩) lw).trans p2; have l6 := Nat.lt_of_lt_of_le lw hb6.size; have hCy := hCd w6 hb6; have H6 := Lib.hid (And.intro ho6 hb6); clear ho6 hb6)
                          | ((with_reducible refine hCy.mono ?_); rintro e w7' ⟨v7, rfl, ho7, hb7⟩; obtain ⟨A7, d7, rfl, _⟩ := ho7.rd; have h0 := (hb7.cell (p := ⟨wo.heap.size, 0, none⟩) l6).trans g0; have h1' := (hb7.cell (p := ⟨wo.heap.size, 1, none⟩) l6).trans g1; have h2 := (hb7.cell (p := ⟨wo.heap.size, 2, none⟩) l6).trans g2; have l7' := Nat.lt_of_lt_of_le l6 hb7.size; have B7 := Lib.hid (H6.out.2.trans (hb7.mono H6.out.2.size)); have hrow : RowsC w7' w1.heap.size u10 ⟨R.length, ad, dr⟩ (R.length, .slice A6 ad.length d6, .slice A7 dr.length d7) := ⟨rfl, (H6.out.1.below hb7 (Nat.le_refl _)).less HA.out.2.2.1.size, ho7.less (Nat.le_trans HA.out.2.2.1.size H6.out.2.size), fun z hz => rows_ne (HA.out.2.1.own.lt z hz).2 (Nat.le_refl _) H6.out.1 ho7 H6.out.2.size⟩; have hru : ∀ q, (Value.slice A9 R.length c9).ownBlock = some q → (Value.slice A6 ad.length d6).ownBlock ≠ some q ∧ (Value.slice A7 dr.length d7).ownBlock ≠ some q := fun q hq => rows_ne (HA.out.1.lt q hq) (Nat.le_refl _) H6.out.1 ho7 H6.out.2.size; have HRU := Lib.hid (And.intro hrow hru); have r0 := (World.cell?_of_block (a := ⟨wo.heap.size, 0, none⟩) (Below.heap_alloc w7' (.cells #[.int .i64 (R.length : Nat), .slice A6 ad.length d6, .slice A7 dr.length d7] 45) wo.heap.size l7')).trans h0; have r1 := (World.cell?_of_block (a := ⟨wo.heap.size, 1, none⟩) (Below.heap_alloc w7' (.cells #[.int .i64 (R.length : Nat), .slice A6 ad.length d6, .slice A7 dr.length d7] 45) wo.heap.size l7')).trans h1'; have r2 := (World.cell?_of_block (a := ⟨wo.heap.size, 2, none⟩) (Below.heap_alloc w7' (.cells #[.int .i64 (R.length : Nat), .slice A6 ad.length d6, .slice A7 dr.length d7] 45) wo.heap.size l7')).trans h2; have HRW := Lib.hid (And.intro r0 (And.intro r1 r2)); clear ho7 hb7 hrow hru r0 r1 r2)
                          | (have hz := l7'; clear hz; (refine step_app_chgF rfl (.tmp 113) (.tmp 123) rfl w1.heap.size u10 (.slice A9 R.length c9) (WM.backL (D.map WM.ZC.nat) n) rfl ((HA.out.2.1.below B7.out).alloc _) _ ⟨R.length, ad, dr⟩ (.slice A6 ad.length d6) (.slice A7 dr.length d7) (HRU.out.1.alloc _) HRU.out.2 (fun q hq => Nat.lt_of_lt_of_le (HA.out.1.lt q hq) (Nat.le_trans B7.out.size (by simp))) rfl ?_ (lits_chg w7' R.length (.slice A6 ad.length d6) (.slice A7 dr.length d7) _) HBN.out (Nat.le_trans HA.out.2.2.1.size (Nat.le_trans B7.out.size (by simp)))); intro v8 w8 hown8 hg8; have s0 := (World.cell?_of_block (a := ⟨wo.heap.size, 0, none⟩) (hg8.block wo.heap.size (Nat.lt_of_lt_of_le l7' (by simp)) (chg_ne HO.out.2.1.own))).trans HRW.out.1; have s1 := (World.cell?_of_block (a := ⟨wo.heap.size, 1, none⟩) (hg8.block wo.heap.size (Nat.lt_of_lt_of_le l7' (by simp)) (chg_ne HO.out.2.1.own))).trans HRW.out.2.1; have s2 := (World.cell?_of_block (a := ⟨wo.heap.size, 2, none⟩) (hg8.block wo.heap.size (Nat.lt_of_lt_of_le l7' (by simp)) (chg_ne HO.out.2.1.own))).trans HRW.out.2.2; have HZ := Lib.hid (And.intro hown8 (And.intro (((HA.out.1.below B7.out (Nat.le_refl _)).alloc _).grown hg8 (fun k hk => HA.out.2.1.far k hk)) (And.intro (((HA.out.2.2.1.trans (B7.out.mono HA.out.2.2.1.size)).alloc (Nat.le_trans HA.out.2.2.1.size B7.out.size) _).grown hg8 (Nat.le_trans HA.out.2.2.1.size (Nat.le_trans B7.out.size (by simp))) (fun j hj => (HA.out.2.1.own.lt j hj).1)) (Nat.lt_of_lt_of_le l7' (Nat.le_trans (by simp) hg8.size))))); clear hown8)
                          | fail)
                      all_goals (go_wp2_with fail; go_meet; exact ⟨by rw [HB3.out]; exact HZ.out.1, HZ.out.2.1, HZ.out.2.2.1, s0, s1, s2, HZ.out.2.2.2⟩)
                    case rest =>
                      obtain ⟨hc1, hc2, hc3, p0, p1, p2, lw⟩ := hcut
                      obtain ⟨w11, hw11⟩ : ∃ w11 : World, w11 = wc := ⟨_, rfl⟩
                      subst hw11
                      have HC := Lib.hid (And.intro hc1 (And.intro hc2 hc3))
                      have hz11 := hc3.size
                      have HO2 := Lib.hid (show OwnS w11 base (.slice A2 ad.length c2) ad from HO.out.2.2.2.2.below hc3 (Nat.le_refl _))
                      clear hc1 hc2 hc3 e0 e1 e2 hCl
                      go_wp2_with (at_builtin; refine app_rd _ rfl (.tmp 125) (.tmp 127) rfl w1.heap.size (.slice A9 R.length c9) R rfl HC.out.2.1 A2 ad.length c2 ad rfl rfl HO2.out.rdo HO2.out.cap0 ?_ ?e1 hz11; intro v12 w12 hown12 hg12 hat12; have s0 := (World.cell?_of_block (a := ⟨wo.heap.size, 0, none⟩) (hg12.block wo.heap.size lw HA.out.2.2.2)).trans p0; have s1 := (World.cell?_of_block (a := ⟨wo.heap.size, 1, none⟩) (hg12.block wo.heap.size lw HA.out.2.2.2)).trans p1; have H12 := Lib.hid (And.intro hown12 (And.intro (HC.out.1.side hg12 hat12) (HC.out.2.2.grown hg12 hz11 (fun j hj => HC.out.2.1.base_le j hj)))); clear hown12 hg12 hat12 p0 p1 p2)
                      case e1 => have := HRL.out; have := HAL.out; omega
                      go_wp2_with fail
                      exact ⟨⟨n + 1, by rw [HAS.out]; simp, by simp, by omega, HF1.out, by rw [HRS2.out]; exact H12.out.1, H12.out.2.1, H12.out.2.2⟩, by simp [intOf]; omega⟩
    · obtain rfl : n = D.length := by omega
      have hf0 : WM.fault X D = 0 := hz0
      have HRT := Lib.hid (fun W (hW : Below w1.heap.size w1 W) => Rd.drop (Rd.below H1.out.2.2 hW) (WM.aft (D.map WM.ZC.nat) D.length))
      have HLT := Lib.hid (show (X.drop (WM.aft (D.map WM.ZC.nat) D.length)).length = X.length - WM.aft (D.map WM.ZC.nat) D.length by simp)
      have HREP := Lib.hid (show WM.rep WM.added X (D.map WM.ZC.nat) = WM.repK WM.added X (D.map WM.ZC.nat) D.length ++ X.drop (WM.aft (D.map WM.ZC.nat) D.length) by unfold WM.rep; rw [List.length_map])
      have HBL := Lib.hid (show WM.backL (D.map WM.ZC.nat) (D.map WM.ZC.nat).length = WM.backL (D.map WM.ZC.nat) D.length by rw [List.length_map])
      have HNL := Lib.hid (show (WM.repK WM.added X (D.map WM.ZC.nat) D.length).length ≤ 306000000 from HD.out.2.1.rows hX2 D.length (by rw [List.length_map]; exact Nat.le_refl _))
      have HF0 := Lib.hid hf0
      have HO := Lib.hid (And.intro hown (And.intro hback hbw))
      have hz := hbw.size
      generalize WM.aft (D.map WM.ZC.nat) D.length = a at *
      generalize X.drop a = Z at *
      have HJ := Lib.hid (fun (v : Value) W (h : OwnS W w1.heap.size v (WM.rep WM.added X (D.map WM.ZC.nat))) => JoinOf_any _ _ v W h (Nat.le_trans HD.out.2.2.2.1 (by omega)))
      clear hown hback hbw hf0 hz0
      by_cases hcj : cX = a
      · obtain rfl : a = X.length := by omega
        subst hcj
        clear hcX hal
        go_wp2_with (at_builtin; refine app_rd _ rfl (.tmp 136) (.tmp 139) rfl w1.heap.size u9 (WM.repK WM.added X (D.map WM.ZC.nat) D.length) rfl HO.out.1 A 0 0 Z rfl (by rw [HLT.out]; omega) (RdO.none_ _ _ _ (by rw [HLT.out]; omega)) (fun h => ⟨rfl, rfl⟩) ?_ ?e1 hz; intro v9 w9 hown9 hg9 hat9)
        case e1 => have := HNL.out; omega
        have H9 := Lib.hid (And.intro hown9 (And.intro ((HO.out.2.1.side hg9 hat9).own) (HO.out.2.2.grown hg9 hz (fun j hj => HO.out.1.base_le j hj))))
        have hJ9 := HJ.out v9 w9 (by rw [HREP.out]; exact hown9)
        unfold SaysL at hJ9
        obtain ⟨S, hS⟩ : ∃ S : ByteArray, (⟨(WM.joinT (WM.rep WM.added X (D.map WM.ZC.nat))).toArray⟩ : ByteArray) = S := ⟨_, rfl⟩
        have hsz : S.size = (WM.joinT (WM.rep WM.added X (D.map WM.ZC.nat))).length := by rw [← hS]; exact List.size_toArray
        rw [hS] at hJ9
        have HS := Lib.hid (And.intro hS hsz)
        clear hown9 hg9 hat9 hS hsz
        go_wp2_with fail
        refine hJ9.mono ?_
        rintro e w10 ⟨rfl, hb10⟩
        have H10 := Lib.hid (And.intro (H9.out.2.1.below hb10) (H1.out.2.1.trans ((H9.out.2.2.trans (hb10.mono H9.out.2.2.size)).mono H1.out.2.1.size)))
        clear hJ9 hb10
        by_cases hlg : 20000 < S.size
        · have HC := Lib.hid (codeP_long HF0.out (by rw [← HS.out.2]; exact hlg))
          go_wp2_with fail
          exact bodyPost_ret (v := .tuple #[.string ⟨#[]⟩, .slice none 0 0, .int .i64 2]) (by simp [results, Tryz.results25, go_sem]) rfl ⟨_, by rw [HC.out, resP_bad (by rw [HC.out]; omega)], by rw [backP_bad (by rw [HC.out]; omega)]; exact OwnC.nil _ _, H10.out.2⟩
        · have HC := Lib.hid (codeP_ok HF0.out (by rw [← HS.out.2]; exact hlg))
          go_wp2_with fail
          exact bodyPost_ret (v := .tuple #[.string S, u10, .int .i64 0]) (by simp [results, Tryz.results25, go_sem]) rfl ⟨_, by rw [HC.out, resP_ok HC.out, HS.out.1], by rw [backP_ok HC.out, HBL.out]; exact H10.out.1.less H1.out.2.1.size, H10.out.2⟩
      · go_wp2_with (at_builtin; refine app_rd _ rfl (.tmp 136) (.tmp 139) rfl w1.heap.size u9 (WM.repK WM.added X (D.map WM.ZC.nat) D.length) rfl HO.out.1 (Option.map (fun x => x.add a) A) (X.length - a) (cX - a) Z rfl HLT.out (HRT.out _ HO.out.2.2) (fun h => by have := H1.out.1.cap0 (Option.map_eq_none_iff.1 h); omega) ?_ ?e1 hz; intro v9 w9 hown9 hg9 hat9)
        case e1 => have := HNL.out; omega
        have H9 := Lib.hid (And.intro hown9 (And.intro ((HO.out.2.1.side hg9 hat9).own) (HO.out.2.2.grown hg9 hz (fun j hj => HO.out.1.base_le j hj))))
        have hJ9 := HJ.out v9 w9 (by rw [HREP.out]; exact hown9)
        unfold SaysL at hJ9
        obtain ⟨S, hS⟩ : ∃ S : ByteArray, (⟨(WM.joinT (WM.rep WM.added X (D.map WM.ZC.nat))).toArray⟩ : ByteArray) = S := ⟨_, rfl⟩
        have hsz : S.size = (WM.joinT (WM.rep WM.added X (D.map WM.ZC.nat))).length := by rw [← hS]; exact List.size_toArray
        rw [hS] at hJ9
        have HS := Lib.hid (And.intro hS hsz)
        clear hown9 hg9 hat9 hS hsz
        go_wp2_with fail
        refine hJ9.mono ?_
        rintro e w10 ⟨rfl, hb10⟩
        have H10 := Lib.hid (And.intro (H9.out.2.1.below hb10) (H1.out.2.1.trans ((H9.out.2.2.trans (hb10.mono H9.out.2.2.size)).mono H1.out.2.1.size)))
        clear hJ9 hb10
        by_cases hlg : 20000 < S.size
        · have HC := Lib.hid (codeP_long HF0.out (by rw [← HS.out.2]; exact hlg))
          go_wp2_with fail
          exact bodyPost_ret (v := .tuple #[.string ⟨#[]⟩, .slice none 0 0, .int .i64 2]) (by simp [results, Tryz.results25, go_sem]) rfl ⟨_, by rw [HC.out, resP_bad (by rw [HC.out]; omega)], by rw [backP_bad (by rw [HC.out]; omega)]; exact OwnC.nil _ _, H10.out.2⟩
        · have HC := Lib.hid (codeP_ok HF0.out (by rw [← HS.out.2]; exact hlg))
          go_wp2_with fail
          exact bodyPost_ret (v := .tuple #[.string S, u10, .int .i64 0]) (by simp [results, Tryz.results25, go_sem]) rfl ⟨_, by rw [HC.out, resP_ok HC.out, HS.out.1], by rw [backP_ok HC.out, HBL.out]; exact H10.out.1.less H1.out.2.1.size, H10.out.2⟩
end Go.Proofs.YtndeifdpiimbeaaGreatDoor
