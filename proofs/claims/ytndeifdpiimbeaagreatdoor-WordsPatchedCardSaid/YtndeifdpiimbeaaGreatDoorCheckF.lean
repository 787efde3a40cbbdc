/- Contract of checkChanges at any changes: what is wrong with them. -/
import Derived.Test.YtndeifdpiimbeaaGreatDoorIsTokF
import Derived.Test.YtndeifdpiimbeaaGreatDoorRdC
import Derived.Deep.QuietTactic
namespace Go.Proofs.YtndeifdpiimbeaaGreatDoor
open Go.RowKit

/-- the changes D can be read, whatever is made behind -/
def RdZ (w : World) (base : Nat) (AD : Option Addr) (D : List WM.ZC) : Prop := 0 < D.length → ∃ g, AD = some ⟨g, 0, none⟩ ∧ g < w.heap.size ∧ ∀ W, Below w.heap.size w W → ∀ (n : Nat) (c : WM.ZC), D[n]? = some c → ∃ A1 c1 A2 c2, W.cell? ⟨g, n * 3, none⟩ = some (.int .i64 c.at_) ∧ W.cell? ⟨g, n * 3 + 1, none⟩ = some (.slice A1 c.drop.length c1) ∧ W.cell? ⟨g, n * 3 + 2, none⟩ = some (.slice A2 c.add.length c2) ∧ OwnS W base (.slice A1 c.drop.length c1) c.drop ∧ OwnS W base (.slice A2 c.add.length c2) c.add
theorem RdZ.below {w w' : World} {base : Nat} {AD : Option Addr} {D : List WM.ZC} (h : RdZ w base AD D) (hb : Below w.heap.size w w') : RdZ w' base AD D := fun h0 => by
  obtain ⟨g, rfl, hg, hf⟩ := h h0
  exact ⟨g, rfl, Nat.lt_of_lt_of_le hg hb.size, fun W hW => hf W (hb.trans (hW.mono hb.size))⟩
def CzRel (w : World) (X : List ByteArray) (D : List WM.ZC) (a i : Value) (wr : World) : Prop := ∃ n : Nat, a = .int .i64 (WM.aftZ D n) ∧ i = .int .i64 n ∧ n ≤ D.length ∧ WM.flt X D n = 0 ∧ Below w.heap.size w wr
def OddD (D : List WM.ZC) : Prop := ∀ c, c ∈ D → (∀ x, x ∈ c.drop → Odd x ∧ x.size ≤ 1000000000) ∧ (∀ x, x ∈ c.add → Odd x ∧ x.size ≤ 1000000000)
set_option maxHeartbeats 32000000 in
set_option maxRecDepth 100000 in
theorem checkChanges_gen (X : List ByteArray) (A : Option Addr) (cX : Nat) (D : List WM.ZC) (AD : Option Addr) (cD : Nat) (base : Nat) (w : World) (hX : Rd w A X) (hXc : X.length ≤ cX) (hX2 : X.length ≤ 2000) (hf : RdZ w base AD D) (hDl : D.length ≤ 3000) (hT : OddD D) (hL : ∀ c, c ∈ D → c.drop.length ≤ 1000000) :
    Calls Tryz.prog 21 #[.slice A X.length cX, .slice AD D.length cD] w fun e w' => e = .returned (.int .i64 (WM.fault X D)) ∧ Below w.heap.size w w' := by
  have HF := Lib.hid (And.intro hT (And.intro hf hL))
  have HX := Lib.hid (And.intro hX hXc)
  clear hT hf hX hXc hL
  go_enter Tryz.func21, Tryz.ntmps21
  go_wp2_with fail
  go_loopw [5, 10] (fun a i wr => CzRel w X D a i wr) (fun _ i _ => D.length - (intOf i).toNat)
  case atStart => exact ⟨0, rfl, rfl, Nat.zero_le _, rfl, Below.refl _ _⟩
  case round =>
    obtain ⟨n, rfl, rfl, hn, hz0, hbw⟩ := hrel
    obtain ⟨wo, rfl⟩ : ∃ wo : World, wo = wr := ⟨_, rfl⟩
    by_cases hlt : n < D.length
    · obtain ⟨g, rfl, hg, hgc⟩ := HF.out.2.1 (by omega)
      have hx := List.getElem?_eq_getElem hlt
      generalize D[n] = c at hx
      have hm := List.mem_of_getElem? hx
      have HFA := Lib.hid (fun k => WM.fault_of (k := k) hx hz0)
      have HST := Lib.hid (And.intro (WM.flt_step hx hz0) (WM.aftZ_step hx))
      have hTT := HF.out.1 c hm
      have hdl := HF.out.2.2 c hm
      obtain ⟨A1, c1, A2, c2, k0', k1', k2', o1, o2⟩ := hgc w (Below.refl _ _) n c hx
      obtain ⟨z, dr, ad⟩ := c
      simp only at hTT hdl k0' k1' k2' o1 o2
      have k0 := (hbw.cell (p := ⟨g, n * 3, none⟩) hg).trans k0'
      have k1 := (hbw.cell (p := ⟨g, n * 3 + 1, none⟩) hg).trans k1'
      have k2 := (hbw.cell (p := ⟨g, n * 3 + 2, none⟩) hg).trans k2'
      have hal2 := o2.len_le
      have hTd := fun W (hW : Below w.heap.size w W) => areTokens_gen dr hTT.1 base _ W (o1.below hW (Nat.le_refl _))
      have hTa := fun W (hW : Below w.heap.size w W) => areTokens_gen ad hTT.2 base _ W (o2.below hW (Nat.le_refl _))
      have HO := Lib.hid (And.intro hbw (And.intro o1 o2))
      have hcX := HX.out.2
      generalize WM.aftZ D n = a at *
      clear hx hbw hgc o1 o2 k0' k1' k2' hm hTT
      by_cases h1 : z < 0
      · have HL := Lib.hid h1
        go_upto_region 5 with fail
        obtain ⟨w5, hw5⟩ : ∃ w5, wo.alloc (.cells #[.int .i64 z, .slice A1 dr.length c1, .slice A2 ad.length c2] 45) = w5 := ⟨_, rfl⟩
        rw [hw5]
        have b5 : Below wo.heap.size wo w5 := by rw [← hw5]; exact (Below.refl _ _).alloc (Nat.le_refl _) _
        have q5 : Blk w5 wo.heap.size 45 #[.int .i64 z, .slice A1 dr.length c1, .slice A2 ad.length c2] := by rw [← hw5]; exact Blk.new wo _ _
        have l5 := q5.lt
        have f0 : w5.cell? ⟨wo.heap.size, 0, none⟩ = some (.int .i64 z) := q5.cell 0
        have f1' : w5.cell? ⟨wo.heap.size, 1, none⟩ = some (.slice A1 dr.length c1) := q5.cell 1
        have f2 : w5.cell? ⟨wo.heap.size, 2, none⟩ = some (.slice A2 ad.length c2) := q5.cell 2
        have B5 := Lib.hid (And.intro b5 (HO.out.1.trans (b5.mono HO.out.1.size)))
        clear hw5 b5 q5 k0 k1 k2
        go_wp2_with fail
        go_ret
        exact ⟨by rw [HFA.out 1 (WM.one_1 (.inl HL.out)) (by omega)]; rfl, B5.out.2⟩
      replace h1 : 0 ≤ z := Int.not_lt.1 h1
      by_cases h2 : (X.length : Int) < z
      · have HL := Lib.hid h2
        go_upto_region 5 with fail
        obtain ⟨w5, hw5⟩ : ∃ w5, wo.alloc (.cells #[.int .i64 z, .slice A1 dr.length c1, .slice A2 ad.length c2] 45) = w5 := ⟨_, rfl⟩
        rw [hw5]
        have b5 : Below wo.heap.size wo w5 := by rw [← hw5]; exact (Below.refl _ _).alloc (Nat.le_refl _) _
        have q5 : Blk w5 wo.heap.size 45 #[.int .i64 z, .slice A1 dr.length c1, .slice A2 ad.length c2] := by rw [← hw5]; exact Blk.new wo _ _
        have l5 := q5.lt
        have f0 : w5.cell? ⟨wo.heap.size, 0, none⟩ = some (.int .i64 z) := q5.cell 0
        have f1' : w5.cell? ⟨wo.heap.size, 1, none⟩ = some (.slice A1 dr.length c1) := q5.cell 1
        have f2 : w5.cell? ⟨wo.heap.size, 2, none⟩ = some (.slice A2 ad.length c2) := q5.cell 2
        have B5 := Lib.hid (And.intro b5 (HO.out.1.trans (b5.mono HO.out.1.size)))
        clear hw5 b5 q5 k0 k1 k2
        go_wp2_with fail
        go_ret
        exact ⟨by rw [HFA.out 1 (WM.one_1 (.inr HL.out)) (by omega)]; rfl, B5.out.2⟩
      obtain ⟨p, rfl⟩ := Int.eq_ofNat_of_zero_le h1
      have hp : p ≤ X.length := by omega
      have HIN := Lib.hid (show ¬ ((p : Int) < 0 ∨ (X.length : Int) < (p : Int)) by omega)
      have hpn : ((p : Int)).toNat = p := rfl
      have hZl : (X.drop p).length = X.length - p := by simp
      have HRD := Lib.hid (fun W (hW : Below w.heap.size w W) => Rd.drop (Rd.below HX.out.1 hW) p)
      have HZ := Lib.hid hZl
      have HFIT := Lib.hid (show WM.fitB (X.drop ((p : Int)).toNat) dr = WM.fitB (X.drop p) dr by rw [hpn])
      clear hZl hpn
      by_cases hz : n = 0
      · have HORD := Lib.hid (show ¬ (0 < n ∧ (p : Int) ≤ a) by omega)
        by_cases h3 : dr.length = 0 ∧ ad.length = 0
        · have HZN := Lib.hid hz
          clear hz
          have HL := Lib.hid h3
          clear h3
          go_upto_region 5 with fail
          obtain ⟨w5, hw5⟩ : ∃ w5, wo.alloc (.cells #[.int .i64 (p : Int), .slice A1 dr.length c1, .slice A2 ad.length c2] 45) = w5 := ⟨_, rfl⟩
          rw [hw5]
          have b5 : Below wo.heap.size wo w5 := by rw [← hw5]; exact (Below.refl _ _).alloc (Nat.le_refl _) _
          have q5 : Blk w5 wo.heap.size 45 #[.int .i64 (p : Int), .slice A1 dr.length c1, .slice A2 ad.length c2] := by rw [← hw5]; exact Blk.new wo _ _
          have l5 := q5.lt
          have f0 : w5.cell? ⟨wo.heap.size, 0, none⟩ = some (.int .i64 (p : Int)) := q5.cell 0
          have f1' : w5.cell? ⟨wo.heap.size, 1, none⟩ = some (.slice A1 dr.length c1) := q5.cell 1
          have f2 : w5.cell? ⟨wo.heap.size, 2, none⟩ = some (.slice A2 ad.length c2) := q5.cell 2
          have B5 := Lib.hid (And.intro b5 (HO.out.1.trans (b5.mono HO.out.1.size)))
          clear hw5 b5 q5 k0 k1 k2
          obtain rfl : n = 0 := HZN.out
          have hd1 : ((dr.length : Int) == 0) = true := beq_iff_eq.2 (by have := HL.out; omega)
          have ha1 : ((ad.length : Int) == 0) = true := beq_iff_eq.2 (by have := HL.out; omega)
          go_wp2_with fail
          go_ret
          exact ⟨by rw [HFA.out 3 (WM.one_3 HIN.out HORD.out HL.out) (by omega)]; rfl, B5.out.2⟩
        · by_cases hdd : dr.length = 0
          · have HDD := Lib.hid hdd
            have H3 := Lib.hid h3
            clear hdd h3
            have HZN := Lib.hid hz
            clear hz
            cases htd : WM.tokB dr
            · have HTD := Lib.hid htd
              clear htd
              go_upto_region 5 with fail
              obtain ⟨w5, hw5⟩ : ∃ w5, wo.alloc (.cells #[.int .i64 (p : Int), .slice A1 dr.length c1, .slice A2 ad.length c2] 45) = w5 := ⟨_, rfl⟩
              rw [hw5]
              have b5 : Below wo.heap.size wo w5 := by rw [← hw5]; exact (Below.refl _ _).alloc (Nat.le_refl _) _
              have q5 : Blk w5 wo.heap.size 45 #[.int .i64 (p : Int), .slice A1 dr.length c1, .slice A2 ad.length c2] := by rw [← hw5]; exact Blk.new wo _ _
              have l5 := q5.lt
              have f0 : w5.cell? ⟨wo.heap.size, 0, none⟩ = some (.int .i64 (p : Int)) := q5.cell 0
              have f1' : w5.cell? ⟨wo.heap.size, 1, none⟩ = some (.slice A1 dr.length c1) := q5.cell 1
              have f2 : w5.cell? ⟨wo.heap.size, 2, none⟩ = some (.slice A2 ad.length c2) := q5.cell 2
              have B5 := Lib.hid (And.intro b5 (HO.out.1.trans (b5.mono HO.out.1.size)))
              clear hw5 b5 q5 k0 k1 k2
              obtain rfl : n = 0 := HZN.out
              have hd1 : ((dr.length : Int) == 0) = true := beq_iff_eq.2 (by have := HDD.out; omega)
              have ha1 : ((ad.length : Int) == 0) = false := beq_eq_false_iff_ne.2 (by have := HDD.out; have := H3.out; omega)
              have hTd5 := hTd w5 B5.out.2
              rw [HTD.out] at hTd5
              clear hTd
              go_wp2_with fail
              refine hTd5.mono ?_
              rintro e w6 ⟨rfl, hb6⟩
              have g0 := (hb6.cell (p := ⟨wo.heap.size, 0, none⟩) l5).trans f0
              have g1 := (hb6.cell (p := ⟨wo.heap.size, 1, none⟩) l5).trans f1'
              have g2 := (hb6.cell (p := ⟨wo.heap.size, 2, none⟩) l5).trans f2
              have l6 := Nat.lt_of_lt_of_le l5 hb6.size
              have H6 := Lib.hid (B5.out.2.trans (hb6.mono B5.out.2.size))
              clear hb6 f0 f1' f2 hTa hTd5
              go_wp2_with fail
              go_ret
              exact ⟨by rw [HFA.out 3 (WM.one_3t HIN.out HORD.out (.inl HTD.out)) (by omega)]; rfl, H6.out⟩
            · cases hta : WM.tokB ad
              · have HTD := Lib.hid (And.intro htd hta)
                clear htd hta h1
                go_upto_region 5 with fail
                obtain ⟨w5, hw5⟩ : ∃ w5, wo.alloc (.cells #[.int .i64 (p : Int), .slice A1 dr.length c1, .slice A2 ad.length c2] 45) = w5 := ⟨_, rfl⟩
                rw [hw5]
                have b5 : Below wo.heap.size wo w5 := by rw [← hw5]; exact (Below.refl _ _).alloc (Nat.le_refl _) _
                have q5 : Blk w5 wo.heap.size 45 #[.int .i64 (p : Int), .slice A1 dr.length c1, .slice A2 ad.length c2] := by rw [← hw5]; exact Blk.new wo _ _
                have l5 := q5.lt
                have f0 : w5.cell? ⟨wo.heap.size, 0, none⟩ = some (.int .i64 (p : Int)) := q5.cell 0
                have f1' : w5.cell? ⟨wo.heap.size, 1, none⟩ = some (.slice A1 dr.length c1) := q5.cell 1
                have f2 : w5.cell? ⟨wo.heap.size, 2, none⟩ = some (.slice A2 ad.length c2) := q5.cell 2
                have B5 := Lib.hid (And.intro b5 (HO.out.1.trans (b5.mono HO.out.1.size)))
                clear hw5 b5 q5 k0 k1 k2
                obtain rfl : n = 0 := HZN.out
                have hd1 : ((dr.length : Int) == 0) = true := beq_iff_eq.2 (by have := HDD.out; omega)
                have ha1 : ((ad.length : Int) == 0) = false := beq_eq_false_iff_ne.2 (by have := HDD.out; have := H3.out; omega)
                have hTd5 := hTd w5 B5.out.2
                rw [HTD.out.1] at hTd5
                clear hTd
                go_wp2_with fail
                refine hTd5.mono ?_
                rintro e w6 ⟨rfl, hb6⟩
                have g0 := (hb6.cell (p := ⟨wo.heap.size, 0, none⟩) l5).trans f0
                have g1 := (hb6.cell (p := ⟨wo.heap.size, 1, none⟩) l5).trans f1'
                have g2 := (hb6.cell (p := ⟨wo.heap.size, 2, none⟩) l5).trans f2
                have l6 := Nat.lt_of_lt_of_le l5 hb6.size
                have H6 := Lib.hid (B5.out.2.trans (hb6.mono B5.out.2.size))
                have hTa6 := hTa w6 H6.out
                rw [HTD.out.2] at hTa6
                clear hb6 f0 f1' f2 hTa hTd5
                go_wp2_with fail
                refine hTa6.mono ?_
                rintro e w7 ⟨rfl, hb7⟩
                have h0 := (hb7.cell (p := ⟨wo.heap.size, 0, none⟩) l6).trans g0
                have h1 := (hb7.cell (p := ⟨wo.heap.size, 1, none⟩) l6).trans g1
                have H7 := Lib.hid (H6.out.trans (hb7.mono H6.out.size))
                clear hb7 g0 g1 g2 hTa6
                go_wp2_with fail
                go_ret
                exact ⟨by rw [HFA.out 3 (WM.one_3t HIN.out HORD.out (.inr HTD.out.2)) (by omega)]; rfl, H7.out⟩
              · have HTK := Lib.hid (show ¬ (WM.tokB dr = false ∨ WM.tokB ad = false) by rw [htd, hta]; simp)
                have HTD := Lib.hid (And.intro htd hta)
                clear htd hta h1
                by_cases hcj : cX = p
                · have HQ := Lib.hid (fun W (HW : Below w.heap.size w W) => beginsWith_gen (X.drop p) dr 0 (by rw [HZ.out]; omega) (by omega) A A1 0 c1 (by omega) W (RdO.none_ _ _ _ (by rw [HZ.out]; omega)) ((HO.out.2.1.below HW (Nat.le_refl _)).rdo) (by omega))
                  obtain ⟨fb, hfb⟩ : ∃ fb, fb = WM.fitB (X.drop p) dr := ⟨_, rfl⟩
                  rw [← hfb] at HQ HFIT
                  clear hfb
                  subst hcj
                  cases fb
                  · go_upto_region 5 with fail
                    obtain ⟨w5, hw5⟩ : ∃ w5, wo.alloc (.cells #[.int .i64 (cX : Int), .slice A1 dr.length c1, .slice A2 ad.length c2] 45) = w5 := ⟨_, rfl⟩
                    rw [hw5]
                    have b5 : Below wo.heap.size wo w5 := by rw [← hw5]; exact (Below.refl _ _).alloc (Nat.le_refl _) _
                    have q5 : Blk w5 wo.heap.size 45 #[.int .i64 (cX : Int), .slice A1 dr.length c1, .slice A2 ad.length c2] := by rw [← hw5]; exact Blk.new wo _ _
                    have l5 := q5.lt
                    have f0 : w5.cell? ⟨wo.heap.size, 0, none⟩ = some (.int .i64 (cX : Int)) := q5.cell 0
                    have f1' : w5.cell? ⟨wo.heap.size, 1, none⟩ = some (.slice A1 dr.length c1) := q5.cell 1
                    have f2 : w5.cell? ⟨wo.heap.size, 2, none⟩ = some (.slice A2 ad.length c2) := q5.cell 2
                    have B5 := Lib.hid (And.intro b5 (HO.out.1.trans (b5.mono HO.out.1.size)))
                    clear hw5 b5 q5 k0 k1 k2
                    obtain rfl : n = 0 := HZN.out
                    have hd1 : ((dr.length : Int) == 0) = true := beq_iff_eq.2 (by have := HDD.out; omega)
                    have ha1 : ((ad.length : Int) == 0) = false := beq_eq_false_iff_ne.2 (by have := HDD.out; have := H3.out; omega)
                    have hTd5 := hTd w5 B5.out.2
                    rw [HTD.out.1] at hTd5
                    clear hTd
                    go_wp2_with fail
                    refine hTd5.mono ?_
                    rintro e w6 ⟨rfl, hb6⟩
                    have g0 := (hb6.cell (p := ⟨wo.heap.size, 0, none⟩) l5).trans f0
                    have g1 := (hb6.cell (p := ⟨wo.heap.size, 1, none⟩) l5).trans f1'
                    have g2 := (hb6.cell (p := ⟨wo.heap.size, 2, none⟩) l5).trans f2
                    have l6 := Nat.lt_of_lt_of_le l5 hb6.size
                    have H6 := Lib.hid (B5.out.2.trans (hb6.mono B5.out.2.size))
                    have hTa6 := hTa w6 H6.out
                    rw [HTD.out.2] at hTa6
                    clear hb6 f0 f1' f2 hTa hTd5
                    go_wp2_with fail
                    refine hTa6.mono ?_
                    rintro e w7 ⟨rfl, hb7⟩
                    have h0 := (hb7.cell (p := ⟨wo.heap.size, 0, none⟩) l6).trans g0
                    have h1 := (hb7.cell (p := ⟨wo.heap.size, 1, none⟩) l6).trans g1
                    have H7 := Lib.hid (H6.out.trans (hb7.mono H6.out.size))
                    clear hb7 g0 g1 g2 hTa6
                    go_wp2_with fail
                    go_quiet ((refine Calls.quiet_of (HQ.out _ (below_drewN H7.out _))))
                    go_wp2_with fail
                    go_ret
                    exact ⟨by rw [HFA.out 13 (WM.one_13 HIN.out HORD.out H3.out HTK.out HFIT.out) (by omega)]; rfl, below_drewN H7.out _⟩
                  · go_upto_region 5 with fail
                    obtain ⟨w5, hw5⟩ : ∃ w5, wo.alloc (.cells #[.int .i64 (cX : Int), .slice A1 dr.length c1, .slice A2 ad.length c2] 45) = w5 := ⟨_, rfl⟩
                    rw [hw5]
                    have b5 : Below wo.heap.size wo w5 := by rw [← hw5]; exact (Below.refl _ _).alloc (Nat.le_refl _) _
                    have q5 : Blk w5 wo.heap.size 45 #[.int .i64 (cX : Int), .slice A1 dr.length c1, .slice A2 ad.length c2] := by rw [← hw5]; exact Blk.new wo _ _
                    have l5 := q5.lt
                    have f0 : w5.cell? ⟨wo.heap.size, 0, none⟩ = some (.int .i64 (cX : Int)) := q5.cell 0
                    have f1' : w5.cell? ⟨wo.heap.size, 1, none⟩ = some (.slice A1 dr.length c1) := q5.cell 1
                    have f2 : w5.cell? ⟨wo.heap.size, 2, none⟩ = some (.slice A2 ad.length c2) := q5.cell 2
                    have B5 := Lib.hid (And.intro b5 (HO.out.1.trans (b5.mono HO.out.1.size)))
                    clear hw5 b5 q5 k0 k1 k2
                    obtain rfl : n = 0 := HZN.out
                    have hd1 : ((dr.length : Int) == 0) = true := beq_iff_eq.2 (by have := HDD.out; omega)
                    have ha1 : ((ad.length : Int) == 0) = false := beq_eq_false_iff_ne.2 (by have := HDD.out; have := H3.out; omega)
                    have hTd5 := hTd w5 B5.out.2
                    rw [HTD.out.1] at hTd5
                    clear hTd
                    go_wp2_with fail
                    refine hTd5.mono ?_
                    rintro e w6 ⟨rfl, hb6⟩
                    have g0 := (hb6.cell (p := ⟨wo.heap.size, 0, none⟩) l5).trans f0
                    have g1 := (hb6.cell (p := ⟨wo.heap.size, 1, none⟩) l5).trans f1'
                    have g2 := (hb6.cell (p := ⟨wo.heap.size, 2, none⟩) l5).trans f2
                    have l6 := Nat.lt_of_lt_of_le l5 hb6.size
                    have H6 := Lib.hid (B5.out.2.trans (hb6.mono B5.out.2.size))
                    have hTa6 := hTa w6 H6.out
                    rw [HTD.out.2] at hTa6
                    clear hb6 f0 f1' f2 hTa hTd5
                    go_wp2_with fail
                    refine hTa6.mono ?_
                    rintro e w7 ⟨rfl, hb7⟩
                    have h0 := (hb7.cell (p := ⟨wo.heap.size, 0, none⟩) l6).trans g0
                    have h1 := (hb7.cell (p := ⟨wo.heap.size, 1, none⟩) l6).trans g1
                    have H7 := Lib.hid (H6.out.trans (hb7.mono H6.out.size))
                    clear hb7 g0 g1 g2 hTa6
                    go_wp2_with fail
                    go_quiet ((refine Calls.quiet_of (HQ.out _ (below_drewN H7.out _))))
                    go_wp2_with fail
                    exact ⟨⟨0 + 1, by rw [HST.out.2], by simp, by omega, by rw [HST.out.1, WM.one_0 HIN.out HORD.out H3.out HTK.out HFIT.out], below_drewN H7.out _⟩, by simp [intOf]; omega⟩
                · have HQ := Lib.hid (fun W (HW : Below w.heap.size w W) => beginsWith_gen (X.drop p) dr (X.length - p) HZ.out (by omega) (Option.map (fun x => x.add p) A) A1 (cX - p) c1 (by omega) W (HRD.out _ HW) ((HO.out.2.1.below HW (Nat.le_refl _)).rdo) (by omega))
                  obtain ⟨fb, hfb⟩ : ∃ fb, fb = WM.fitB (X.drop p) dr := ⟨_, rfl⟩
                  rw [← hfb] at HQ HFIT
                  clear hfb
                  cases fb
                  · go_upto_region 5 with fail
                    obtain ⟨w5, hw5⟩ : ∃ w5, wo.alloc (.cells #[.int .i64 (p : Int), .slice A1 dr.length c1, .slice A2 ad.length c2] 45) = w5 := ⟨_, rfl⟩
                    rw [hw5]
                    have b5 : Below wo.heap.size wo w5 := by rw [← hw5]; exact (Below.refl _ _).alloc (Nat.le_refl _) _
                    have q5 : Blk w5 wo.heap.size 45 #[.int .i64 (p : Int), .slice A1 dr.length c1, .slice A2 ad.length c2] := by rw [← hw5]; exact Blk.new wo _ _
                    have l5 := q5.lt
                    have f0 : w5.cell? ⟨wo.heap.size, 0, none⟩ = some (.int .i64 (p : Int)) := q5.cell 0
                    have f1' : w5.cell? ⟨wo.heap.size, 1, none⟩ = some (.slice A1 dr.length c1) := q5.cell 1
                    have f2 : w5.cell? ⟨wo.heap.size, 2, none⟩ = some (.slice A2 ad.length c2) := q5.cell 2
                    have B5 := Lib.hid (And.intro b5 (HO.out.1.trans (b5.mono HO.out.1.size)))
                    clear hw5 b5 q5 k0 k1 k2
                    obtain rfl : n = 0 := HZN.out
                    have hd1 : ((dr.length : Int) == 0) = true := beq_iff_eq.2 (by have := HDD.out; omega)
                    have ha1 : ((ad.length : Int) == 0) = false := beq_eq_false_iff_ne.2 (by have := HDD.out; have := H3.out; omega)
                    have hTd5 := hTd w5 B5.out.2
                    rw [HTD.out.1] at hTd5
                    clear hTd
                    go_wp2_with fail
                    refine hTd5.mono ?_
                    rintro e w6 ⟨rfl, hb6⟩
                    have g0 := (hb6.cell (p := ⟨wo.heap.size, 0, none⟩) l5).trans f0
                    have g1 := (hb6.cell (p := ⟨wo.heap.size, 1, none⟩) l5).trans f1'
                    have g2 := (hb6.cell (p := ⟨wo.heap.size, 2, none⟩) l5).trans f2
                    have l6 := Nat.lt_of_lt_of_le l5 hb6.size
                    have H6 := Lib.hid (B5.out.2.trans (hb6.mono B5.out.2.size))
                    have hTa6 := hTa w6 H6.out
                    rw [HTD.out.2] at hTa6
                    clear hb6 f0 f1' f2 hTa hTd5
                    go_wp2_with fail
                    refine hTa6.mono ?_
                    rintro e w7 ⟨rfl, hb7⟩
                    have h0 := (hb7.cell (p := ⟨wo.heap.size, 0, none⟩) l6).trans g0
                    have h1 := (hb7.cell (p := ⟨wo.heap.size, 1, none⟩) l6).trans g1
                    have H7 := Lib.hid (H6.out.trans (hb7.mono H6.out.size))
                    clear hb7 g0 g1 g2 hTa6
                    go_wp2_with fail
                    go_quiet ((refine Calls.quiet_of (HQ.out _ (below_drewN H7.out _))))
                    go_wp2_with fail
                    go_ret
                    exact ⟨by rw [HFA.out 13 (WM.one_13 HIN.out HORD.out H3.out HTK.out HFIT.out) (by omega)]; rfl, below_drewN H7.out _⟩
                  · go_upto_region 5 with fail
                    obtain ⟨w5, hw5⟩ : ∃ w5, wo.alloc (.cells #[.int .i64 (p : Int), .slice A1 dr.length c1, .slice A2 ad.length c2] 45) = w5 := ⟨_, rfl⟩
                    rw [hw5]
                    have b5 : Below wo.heap.size wo w5 := by rw [← hw5]; exact (Below.refl _ _).alloc (Nat.le_refl _) _
                    have q5 : Blk w5 wo.heap.size 45 #[.int .i64 (p : Int), .slice A1 dr.length c1, .slice A2 ad.length c2] := by rw [← hw5]; exact Blk.new wo _ _
                    have l5 := q5.lt
                    have f0 : w5.cell? ⟨wo.heap.size, 0, none⟩ = some (.int .i64 (p : Int)) := q5.cell 0
                    have f1' : w5.cell? ⟨wo.heap.size, 1, none⟩ = some (.slice A1 dr.length c1) := q5.cell 1
                    have f2 : w5.cell? ⟨wo.heap.size, 2, none⟩ = some (.slice A2 ad.length c2) := q5.cell 2
                    have B5 := Lib.hid (And.intro b5 (HO.out.1.trans (b5.mono HO.out.1.size)))
                    clear hw5 b5 q5 k0 k1 k2
                    obtain rfl : n = 0 := HZN.out
                    have hd1 : ((dr.length : Int) == 0) = true := beq_iff_eq.2 (by have := HDD.out; omega)
                    have ha1 : ((ad.length : Int) == 0) = false := beq_eq_false_iff_ne.2 (by have := HDD.out; have := H3.out; omega)
                    have hTd5 := hTd w5 B5.out.2
                    rw [HTD.out.1] at hTd5
                    clear hTd
                    go_wp2_with fail
                    refine hTd5.mono ?_
                    rintro e w6 ⟨rfl, hb6⟩
                    have g0 := (hb6.cell (p := ⟨wo.heap.size, 0, none⟩) l5).trans f0
                    have g1 := (hb6.cell (p := ⟨wo.heap.size, 1, none⟩) l5).trans f1'
                    have g2 := (hb6.cell (p := ⟨wo.heap.size, 2, none⟩) l5).trans f2
                    have l6 := Nat.lt_of_lt_of_le l5 hb6.size
                    have H6 := Lib.hid (B5.out.2.trans (hb6.mono B5.out.2.size))
                    have hTa6 := hTa w6 H6.out
                    rw [HTD.out.2] at hTa6
                    clear hb6 f0 f1' f2 hTa hTd5
                    go_wp2_with fail
                    refine hTa6.mono ?_
                    rintro e w7 ⟨rfl, hb7⟩
                    have h0 := (hb7.cell (p := ⟨wo.heap.size, 0, none⟩) l6).trans g0
                    have h1 := (hb7.cell (p := ⟨wo.heap.size, 1, none⟩) l6).trans g1
                    have H7 := Lib.hid (H6.out.trans (hb7.mono H6.out.size))
                    clear hb7 g0 g1 g2 hTa6
                    go_wp2_with fail
                    go_quiet ((refine Calls.quiet_of (HQ.out _ (below_drewN H7.out _))))
                    go_wp2_with fail
                    exact ⟨⟨0 + 1, by rw [HST.out.2], by simp, by omega, by rw [HST.out.1, WM.one_0 HIN.out HORD.out H3.out HTK.out HFIT.out], below_drewN H7.out _⟩, by simp [intOf]; omega⟩
          · have HDD := Lib.hid hdd
            have H3 := Lib.hid h3
            clear hdd h3
            have HZN := Lib.hid hz
            clear hz
            cases htd : WM.tokB dr
            · have HTD := Lib.hid htd
              clear htd
              go_upto_region 5 with fail
              obtain ⟨w5, hw5⟩ : ∃ w5, wo.alloc (.cells #[.int .i64 (p : Int), .slice A1 dr.length c1, .slice A2 ad.length c2] 45) = w5 := ⟨_, rfl⟩
              rw [hw5]
              have b5 : Below wo.heap.size wo w5 := by rw [← hw5]; exact (Below.refl _ _).alloc (Nat.le_refl _) _
              have q5 : Blk w5 wo.heap.size 45 #[.int .i64 (p : Int), .slice A1 dr.length c1, .slice A2 ad.length c2] := by rw [← hw5]; exact Blk.new wo _ _
              have l5 := q5.lt
              have f0 : w5.cell? ⟨wo.heap.size, 0, none⟩ = some (.int .i64 (p : Int)) := q5.cell 0
              have f1' : w5.cell? ⟨wo.heap.size, 1, none⟩ = some (.slice A1 dr.length c1) := q5.cell 1
              have f2 : w5.cell? ⟨wo.heap.size, 2, none⟩ = some (.slice A2 ad.length c2) := q5.cell 2
              have B5 := Lib.hid (And.intro b5 (HO.out.1.trans (b5.mono HO.out.1.size)))
              clear hw5 b5 q5 k0 k1 k2
              obtain rfl : n = 0 := HZN.out
              have hd1 : ((dr.length : Int) == 0) = false := beq_eq_false_iff_ne.2 (by have := HDD.out; omega)
              have hTd5 := hTd w5 B5.out.2
              rw [HTD.out] at hTd5
              clear hTd
              go_wp2_with fail
              refine hTd5.mono ?_
              rintro e w6 ⟨rfl, hb6⟩
              have g0 := (hb6.cell (p := ⟨wo.heap.size, 0, none⟩) l5).trans f0
              have g1 := (hb6.cell (p := ⟨wo.heap.size, 1, none⟩) l5).trans f1'
              have g2 := (hb6.cell (p := ⟨wo.heap.size, 2, none⟩) l5).trans f2
              have l6 := Nat.lt_of_lt_of_le l5 hb6.size
              have H6 := Lib.hid (B5.out.2.trans (hb6.mono B5.out.2.size))
              clear hb6 f0 f1' f2 hTa hTd5
              go_wp2_with fail
              go_ret
              exact ⟨by rw [HFA.out 3 (WM.one_3t HIN.out HORD.out (.inl HTD.out)) (by omega)]; rfl, H6.out⟩
            · cases hta : WM.tokB ad
              · have HTD := Lib.hid (And.intro htd hta)
                clear htd hta h1
                go_upto_region 5 with fail
                obtain ⟨w5, hw5⟩ : ∃ w5, wo.alloc (.cells #[.int .i64 (p : Int), .slice A1 dr.length c1, .slice A2 ad.length c2] 45) = w5 := ⟨_, rfl⟩
                rw [hw5]
                have b5 : Below wo.heap.size wo w5 := by rw [← hw5]; exact (Below.refl _ _).alloc (Nat.le_refl _) _
                have q5 : Blk w5 wo.heap.size 45 #[.int .i64 (p : Int), .slice A1 dr.length c1, .slice A2 ad.length c2] := by rw [← hw5]; exact Blk.new wo _ _
                have l5 := q5.lt
                have f0 : w5.cell? ⟨wo.heap.size, 0, none⟩ = some (.int .i64 (p : Int)) := q5.cell 0
                have f1' : w5.cell? ⟨wo.heap.size, 1, none⟩ = some (.slice A1 dr.length c1) := q5.cell 1
                have f2 : w5.cell? ⟨wo.heap.size, 2, none⟩ = some (.slice A2 ad.length c2) := q5.cell 2
                have B5 := Lib.hid (And.intro b5 (HO.out.1.trans (b5.mono HO.out.1.size)))
                clear hw5 b5 q5 k0 k1 k2
                obtain rfl : n = 0 := HZN.out
                have hd1 : ((dr.length : Int) == 0) = false := beq_eq_false_iff_ne.2 (by have := HDD.out; omega)
                have hTd5 := hTd w5 B5.out.2
                rw [HTD.out.1] at hTd5
                clear hTd
                go_wp2_with fail
                refine hTd5.mono ?_
                rintro e w6 ⟨rfl, hb6⟩
                have g0 := (hb6.cell (p := ⟨wo.heap.size, 0, none⟩) l5).trans f0
                have g1 := (hb6.cell (p := ⟨wo.heap.size, 1, none⟩) l5).trans f1'
                have g2 := (hb6.cell (p := ⟨wo.heap.size, 2, none⟩) l5).trans f2
                have l6 := Nat.lt_of_lt_of_le l5 hb6.size
                have H6 := Lib.hid (B5.out.2.trans (hb6.mono B5.out.2.size))
                have hTa6 := hTa w6 H6.out
                rw [HTD.out.2] at hTa6
                clear hb6 f0 f1' f2 hTa hTd5
                go_wp2_with fail
                refine hTa6.mono ?_
                rintro e w7 ⟨rfl, hb7⟩
                have h0 := (hb7.cell (p := ⟨wo.heap.size, 0, none⟩) l6).trans g0
                have h1 := (hb7.cell (p := ⟨wo.heap.size, 1, none⟩) l6).trans g1
                have H7 := Lib.hid (H6.out.trans (hb7.mono H6.out.size))
                clear hb7 g0 g1 g2 hTa6
                go_wp2_with fail
                go_ret
                exact ⟨by rw [HFA.out 3 (WM.one_3t HIN.out HORD.out (.inr HTD.out.2)) (by omega)]; rfl, H7.out⟩
              · have HTK := Lib.hid (show ¬ (WM.tokB dr = false ∨ WM.tokB ad = false) by rw [htd, hta]; simp)
                have HTD := Lib.hid (And.intro htd hta)
                clear htd hta h1
                by_cases hcj : cX = p
                · have HQ := Lib.hid (fun W (HW : Below w.heap.size w W) => beginsWith_gen (X.drop p) dr 0 (by rw [HZ.out]; omega) (by omega) A A1 0 c1 (by omega) W (RdO.none_ _ _ _ (by rw [HZ.out]; omega)) ((HO.out.2.1.below HW (Nat.le_refl _)).rdo) (by omega))
                  obtain ⟨fb, hfb⟩ : ∃ fb, fb = WM.fitB (X.drop p) dr := ⟨_, rfl⟩
                  rw [← hfb] at HQ HFIT
                  clear hfb
                  subst hcj
                  cases fb
                  · go_upto_region 5 with fail
                    obtain ⟨w5, hw5⟩ : ∃ w5, wo.alloc (.cells #[.int .i64 (cX : Int), .slice A1 dr.length c1, .slice A2 ad.length c2] 45) = w5 := ⟨_, rfl⟩
                    rw [hw5]
                    have b5 : Below wo.heap.size wo w5 := by rw [← hw5]; exact (Below.refl _ _).alloc (Nat.le_refl _) _
                    have q5 : Blk w5 wo.heap.size 45 #[.int .i64 (cX : Int), .slice A1 dr.length c1, .slice A2 ad.length c2] := by rw [← hw5]; exact Blk.new wo _ _
                    have l5 := q5.lt
                    have f0 : w5.cell? ⟨wo.heap.size, 0, none⟩ = some (.int .i64 (cX : Int)) := q5.cell 0
                    have f1' : w5.cell? ⟨wo.heap.size, 1, none⟩ = some (.slice A1 dr.length c1) := q5.cell 1
                    have f2 : w5.cell? ⟨wo.heap.size, 2, none⟩ = some (.slice A2 ad.length c2) := q5.cell 2
                    have B5 := Lib.hid (And.intro b5 (HO.out.1.trans (b5.mono HO.out.1.size)))
                    clear hw5 b5 q5 k0 k1 k2
                    obtain rfl : n = 0 := HZN.out
                    have hd1 : ((dr.length : Int) == 0) = false := beq_eq_false_iff_ne.2 (by have := HDD.out; omega)
                    have hTd5 := hTd w5 B5.out.2
                    rw [HTD.out.1] at hTd5
                    clear hTd
                    go_wp2_with fail
                    refine hTd5.mono ?_
                    rintro e w6 ⟨rfl, hb6⟩
                    have g0 := (hb6.cell (p := ⟨wo.heap.size, 0, none⟩) l5).trans f0
                    have g1 := (hb6.cell (p := ⟨wo.heap.size, 1, none⟩) l5).trans f1'
                    have g2 := (hb6.cell (p := ⟨wo.heap.size, 2, none⟩) l5).trans f2
                    have l6 := Nat.lt_of_lt_of_le l5 hb6.size
                    have H6 := Lib.hid (B5.out.2.trans (hb6.mono B5.out.2.size))
                    have hTa6 := hTa w6 H6.out
                    rw [HTD.out.2] at hTa6
                    clear hb6 f0 f1' f2 hTa hTd5
                    go_wp2_with fail
                    refine hTa6.mono ?_
                    rintro e w7 ⟨rfl, hb7⟩
                    have h0 := (hb7.cell (p := ⟨wo.heap.size, 0, none⟩) l6).trans g0
                    have h1 := (hb7.cell (p := ⟨wo.heap.size, 1, none⟩) l6).trans g1
                    have H7 := Lib.hid (H6.out.trans (hb7.mono H6.out.size))
                    clear hb7 g0 g1 g2 hTa6
                    go_wp2_with fail
                    go_quiet ((refine Calls.quiet_of (HQ.out _ (below_drewN H7.out _))))
                    go_wp2_with fail
                    go_ret
                    exact ⟨by rw [HFA.out 13 (WM.one_13 HIN.out HORD.out H3.out HTK.out HFIT.out) (by omega)]; rfl, below_drewN H7.out _⟩
                  · go_upto_region 5 with fail
                    obtain ⟨w5, hw5⟩ : ∃ w5, wo.alloc (.cells #[.int .i64 (cX : Int), .slice A1 dr.length c1, .slice A2 ad.length c2] 45) = w5 := ⟨_, rfl⟩
                    rw [hw5]
                    have b5 : Below wo.heap.size wo w5 := by rw [← hw5]; exact (Below.refl _ _).alloc (Nat.le_refl _) _
                    have q5 : Blk w5 wo.heap.size 45 #[.int .i64 (cX : Int), .slice A1 dr.length c1, .slice A2 ad.length c2] := by rw [← hw5]; exact Blk.new wo _ _
                    have l5 := q5.lt
                    have f0 : w5.cell? ⟨wo.heap.size, 0, none⟩ = some (.int .i64 (cX : Int)) := q5.cell 0
                    have f1' : w5.cell? ⟨wo.heap.size, 1, none⟩ = some (.slice A1 dr.length c1) := q5.cell 1
                    have f2 : w5.cell? ⟨wo.heap.size, 2, none⟩ = some (.slice A2 ad.length c2) := q5.cell 2
                    have B5 := Lib.hid (And.intro b5 (HO.out.1.trans (b5.mono HO.out.1.size)))
                    clear hw5 b5 q5 k0 k1 k2
                    obtain rfl : n = 0 := HZN.out
                    have hd1 : ((dr.length : Int) == 0) = false := beq_eq_false_iff_ne.2 (by have := HDD.out; omega)
                    have hTd5 := hTd w5 B5.out.2
                    rw [HTD.out.1] at hTd5
                    clear hTd
                    go_wp2_with fail
                    refine hTd5.mono ?_
                    rintro e w6 ⟨rfl, hb6⟩
                    have g0 := (hb6.cell (p := ⟨wo.heap.size, 0, none⟩) l5).trans f0
                    have g1 := (hb6.cell (p := ⟨wo.heap.size, 1, none⟩) l5).trans f1'
                    have g2 := (hb6.cell (p := ⟨wo.heap.size, 2, none⟩) l5).trans f2
                    have l6 := Nat.lt_of_lt_of_le l5 hb6.size
                    have H6 := Lib.hid (B5.out.2.trans (hb6.mono B5.out.2.size))
                    have hTa6 := hTa w6 H6.out
                    rw [HTD.out.2] at hTa6
                    clear hb6 f0 f1' f2 hTa hTd5
                    go_wp2_with fail
                    refine hTa6.mono ?_
                    rintro e w7 ⟨rfl, hb7⟩
                    have h0 := (hb7.cell (p := ⟨wo.heap.size, 0, none⟩) l6).trans g0
                    have h1 := (hb7.cell (p := ⟨wo.heap.size, 1, none⟩) l6).trans g1
                    have H7 := Lib.hid (H6.out.trans (hb7.mono H6.out.size))
                    clear hb7 g0 g1 g2 hTa6
                    go_wp2_with fail
                    go_quiet ((refine Calls.quiet_of (HQ.out _ (below_drewN H7.out _))))
                    go_wp2_with fail
                    exact ⟨⟨0 + 1, by rw [HST.out.2], by simp, by omega, by rw [HST.out.1, WM.one_0 HIN.out HORD.out H3.out HTK.out HFIT.out], below_drewN H7.out _⟩, by simp [intOf]; omega⟩
                · have HQ := Lib.hid (fun W (HW : Below w.heap.size w W) => beginsWith_gen (X.drop p) dr (X.length - p) HZ.out (by omega) (Option.map (fun x => x.add p) A) A1 (cX - p) c1 (by omega) W (HRD.out _ HW) ((HO.out.2.1.below HW (Nat.le_refl _)).rdo) (by omega))
                  obtain ⟨fb, hfb⟩ : ∃ fb, fb = WM.fitB (X.drop p) dr := ⟨_, rfl⟩
                  rw [← hfb] at HQ HFIT
                  clear hfb
                  cases fb
                  · go_upto_region 5 with fail
                    obtain ⟨w5, hw5⟩ : ∃ w5, wo.alloc (.cells #[.int .i64 (p : Int), .slice A1 dr.length c1, .slice A2 ad.length c2] 45) = w5 := ⟨_, rfl⟩
                    rw [hw5]
                    have b5 : Below wo.heap.size wo w5 := by rw [← hw5]; exact (Below.refl _ _).alloc (Nat.le_refl _) _
                    have q5 : Blk w5 wo.heap.size 45 #[.int .i64 (p : Int), .slice A1 dr.length c1, .slice A2 ad.length c2] := by rw [← hw5]; exact Blk.new wo _ _
                    have l5 := q5.lt
                    have f0 : w5.cell? ⟨wo.heap.size, 0, none⟩ = some (.int .i64 (p : Int)) := q5.cell 0
                    have f1' : w5.cell? ⟨wo.heap.size, 1, none⟩ = some (.slice A1 dr.length c1) := q5.cell 1
                    have f2 : w5.cell? ⟨wo.heap.size, 2, none⟩ = some (.slice A2 ad.length c2) := q5.cell 2
                    have B5 := Lib.hid (And.intro b5 (HO.out.1.trans (b5.mono HO.out.1.size)))
                    clear hw5 b5 q5 k0 k1 k2
                    obtain rfl : n = 0 := HZN.out
                    have hd1 : ((dr.length : Int) == 0) = false := beq_eq_false_iff_ne.2 (by have := HDD.out; omega)
                    have hTd5 := hTd w5 B5.out.2
                    rw [HTD.out.1] at hTd5
                    clear hTd
                    go_wp2_with fail
                    refine hTd5.mono ?_
                    rintro e w6 ⟨rfl, hb6⟩
                    have g0 := (hb6.cell (p := ⟨wo.heap.size, 0, none⟩) l5).trans f0
                    have g1 := (hb6.cell (p := ⟨wo.heap.size, 1, none⟩) l5).trans f1'
                    have g2 := (hb6.cell (p := ⟨wo.heap.size, 2, none⟩) l5).trans f2
                    have l6 := Nat.lt_of_lt_of_le l5 hb6.size
                    have H6 := Lib.hid (B5.out.2.trans (hb6.mono B5.out.2.size))
                    have hTa6 := hTa w6 H6.out
                    rw [HTD.out.2] at hTa6
                    clear hb6 f0 f1' f2 hTa hTd5
                    go_wp2_with fail
                    refine hTa6.mono ?_
                    rintro e w7 ⟨rfl, hb7⟩
                    have h0 := (hb7.cell (p := ⟨wo.heap.size, 0, none⟩) l6).trans g0
                    have h1 := (hb7.cell (p := ⟨wo.heap.size, 1, none⟩) l6).trans g1
                    have H7 := Lib.hid (H6.out.trans (hb7.mono H6.out.size))
                    clear hb7 g0 g1 g2 hTa6
                    go_wp2_with fail
                    go_quiet ((refine Calls.quiet_of (HQ.out _ (below_drewN H7.out _))))
                    go_wp2_with fail
                    go_ret
                    exact ⟨by rw [HFA.out 13 (WM.one_13 HIN.out HORD.out H3.out HTK.out HFIT.out) (by omega)]; rfl, below_drewN H7.out _⟩
                  · go_upto_region 5 with fail
                    obtain ⟨w5, hw5⟩ : ∃ w5, wo.alloc (.cells #[.int .i64 (p : Int), .slice A1 dr.length c1, .slice A2 ad.length c2] 45) = w5 := ⟨_, rfl⟩
                    rw [hw5]
                    have b5 : Below wo.heap.size wo w5 := by rw [← hw5]; exact (Below.refl _ _).alloc (Nat.le_refl _) _
                    have q5 : Blk w5 wo.heap.size 45 #[.int .i64 (p : Int), .slice A1 dr.length c1, .slice A2 ad.length c2] := by rw [← hw5]; exact Blk.new wo _ _
                    have l5 := q5.lt
                    have f0 : w5.cell? ⟨wo.heap.size, 0, none⟩ = some (.int .i64 (p : Int)) := q5.cell 0
                    have f1' : w5.cell? ⟨wo.heap.size, 1, none⟩ = some (.slice A1 dr.length c1) := q5.cell 1
                    have f2 : w5.cell? ⟨wo.heap.size, 2, none⟩ = some (.slice A2 ad.length c2) := q5.cell 2
                    have B5 := Lib.hid (And.intro b5 (HO.out.1.trans (b5.mono HO.out.1.size)))
                    clear hw5 b5 q5 k0 k1 k2
                    obtain rfl : n = 0 := HZN.out
                    have hd1 : ((dr.length : Int) == 0) = false := beq_eq_false_iff_ne.2 (by have := HDD.out; omega)
                    have hTd5 := hTd w5 B5.out.2
                    rw [HTD.out.1] at hTd5
                    clear hTd
                    go_wp2_with fail
                    refine hTd5.mono ?_
                    rintro e w6 ⟨rfl, hb6⟩
                    have g0 := (hb6.cell (p := ⟨wo.heap.size, 0, none⟩) l5).trans f0
                    have g1 := (hb6.cell (p := ⟨wo.heap.size, 1, none⟩) l5).trans f1'
                    have g2 := (hb6.cell (p := ⟨wo.heap.size, 2, none⟩) l5).trans f2
                    have l6 := Nat.lt_of_lt_of_le l5 hb6.size
                    have H6 := Lib.hid (B5.out.2.trans (hb6.mono B5.out.2.size))
                    have hTa6 := hTa w6 H6.out
                    rw [HTD.out.2] at hTa6
                    clear hb6 f0 f1' f2 hTa hTd5
                    go_wp2_with fail
                    refine hTa6.mono ?_
                    rintro e w7 ⟨rfl, hb7⟩
                    have h0 := (hb7.cell (p := ⟨wo.heap.size, 0, none⟩) l6).trans g0
                    have h1 := (hb7.cell (p := ⟨wo.heap.size, 1, none⟩) l6).trans g1
                    have H7 := Lib.hid (H6.out.trans (hb7.mono H6.out.size))
                    clear hb7 g0 g1 g2 hTa6
                    go_wp2_with fail
                    go_quiet ((refine Calls.quiet_of (HQ.out _ (below_drewN H7.out _))))
                    go_wp2_with fail
                    exact ⟨⟨0 + 1, by rw [HST.out.2], by simp, by omega, by rw [HST.out.1, WM.one_0 HIN.out HORD.out H3.out HTK.out HFIT.out], below_drewN H7.out _⟩, by simp [intOf]; omega⟩
      · by_cases ho : (p : Int) ≤ a
        · have HL := Lib.hid (And.intro (show 0 < n by omega) ho)
          have hz0' : (0 : Int) < (n : Int) := by omega
          go_upto_region 5 with fail
          obtain ⟨w5, hw5⟩ : ∃ w5, wo.alloc (.cells #[.int .i64 (p : Int), .slice A1 dr.length c1, .slice A2 ad.length c2] 45) = w5 := ⟨_, rfl⟩
          rw [hw5]
          have b5 : Below wo.heap.size wo w5 := by rw [← hw5]; exact (Below.refl _ _).alloc (Nat.le_refl _) _
          have q5 : Blk w5 wo.heap.size 45 #[.int .i64 (p : Int), .slice A1 dr.length c1, .slice A2 ad.length c2] := by rw [← hw5]; exact Blk.new wo _ _
          have l5 := q5.lt
          have f0 : w5.cell? ⟨wo.heap.size, 0, none⟩ = some (.int .i64 (p : Int)) := q5.cell 0
          have f1' : w5.cell? ⟨wo.heap.size, 1, none⟩ = some (.slice A1 dr.length c1) := q5.cell 1
          have f2 : w5.cell? ⟨wo.heap.size, 2, none⟩ = some (.slice A2 ad.length c2) := q5.cell 2
          have B5 := Lib.hid (And.intro b5 (HO.out.1.trans (b5.mono HO.out.1.size)))
          clear hw5 b5 q5 k0 k1 k2
          go_wp2_with fail
          go_ret
          exact ⟨by rw [HFA.out 7 (WM.one_7 HIN.out HL.out) (by omega)]; rfl, B5.out.2⟩
        · have HORD := Lib.hid (show ¬ (0 < n ∧ (p : Int) ≤ a) by omega)
          by_cases h3 : dr.length = 0 ∧ ad.length = 0
          · have HZN := Lib.hid (And.intro hz ho)
            clear hz ho
            have HL := Lib.hid h3
            clear h3
            go_upto_region 5 with fail
            obtain ⟨w5, hw5⟩ : ∃ w5, wo.alloc (.cells #[.int .i64 (p : Int), .slice A1 dr.length c1, .slice A2 ad.length c2] 45) = w5 := ⟨_, rfl⟩
            rw [hw5]
            have b5 : Below wo.heap.size wo w5 := by rw [← hw5]; exact (Below.refl _ _).alloc (Nat.le_refl _) _
            have q5 : Blk w5 wo.heap.size 45 #[.int .i64 (p : Int), .slice A1 dr.length c1, .slice A2 ad.length c2] := by rw [← hw5]; exact Blk.new wo _ _
            have l5 := q5.lt
            have f0 : w5.cell? ⟨wo.heap.size, 0, none⟩ = some (.int .i64 (p : Int)) := q5.cell 0
            have f1' : w5.cell? ⟨wo.heap.size, 1, none⟩ = some (.slice A1 dr.length c1) := q5.cell 1
            have f2 : w5.cell? ⟨wo.heap.size, 2, none⟩ = some (.slice A2 ad.length c2) := q5.cell 2
            have B5 := Lib.hid (And.intro b5 (HO.out.1.trans (b5.mono HO.out.1.size)))
            clear hw5 b5 q5 k0 k1 k2
            have hz1 : (0 : Int) < (n : Int) := by have := HZN.out.1; omega
            have hsp : ¬ (p : Int) ≤ (a : Int) := HZN.out.2
            have hd1 : ((dr.length : Int) == 0) = true := beq_iff_eq.2 (by have := HL.out; omega)
            have ha1 : ((ad.length : Int) == 0) = true := beq_iff_eq.2 (by have := HL.out; omega)
            go_wp2_with fail
            go_ret
            exact ⟨by rw [HFA.out 3 (WM.one_3 HIN.out HORD.out HL.out) (by omega)]; rfl, B5.out.2⟩
          · by_cases hdd : dr.length = 0
            · have HDD := Lib.hid hdd
              have H3 := Lib.hid h3
              clear hdd h3
              have HZN := Lib.hid (And.intro hz ho)
              clear hz ho
              cases htd : WM.tokB dr
              · have HTD := Lib.hid htd
                clear htd
                go_upto_region 5 with fail
                obtain ⟨w5, hw5⟩ : ∃ w5, wo.alloc (.cells #[.int .i64 (p : Int), .slice A1 dr.length c1, .slice A2 ad.length c2] 45) = w5 := ⟨_, rfl⟩
                rw [hw5]
                have b5 : Below wo.heap.size wo w5 := by rw [← hw5]; exact (Below.refl _ _).alloc (Nat.le_refl _) _
                have q5 : Blk w5 wo.heap.size 45 #[.int .i64 (p : Int), .slice A1 dr.length c1, .slice A2 ad.length c2] := by rw [← hw5]; exact Blk.new wo _ _
                have l5 := q5.lt
                have f0 : w5.cell? ⟨wo.heap.size, 0, none⟩ = some (.int .i64 (p : Int)) := q5.cell 0
                have f1' : w5.cell? ⟨wo.heap.size, 1, none⟩ = some (.slice A1 dr.length c1) := q5.cell 1
                have f2 : w5.cell? ⟨wo.heap.size, 2, none⟩ = some (.slice A2 ad.length c2) := q5.cell 2
                have B5 := Lib.hid (And.intro b5 (HO.out.1.trans (b5.mono HO.out.1.size)))
                clear hw5 b5 q5 k0 k1 k2
                have hz1 : (0 : Int) < (n : Int) := by have := HZN.out.1; omega
                have hsp : ¬ (p : Int) ≤ (a : Int) := HZN.out.2
                have hd1 : ((dr.length : Int) == 0) = true := beq_iff_eq.2 (by have := HDD.out; omega)
                have ha1 : ((ad.length : Int) == 0) = false := beq_eq_false_iff_ne.2 (by have := HDD.out; have := H3.out; omega)
                have hTd5 := hTd w5 B5.out.2
                rw [HTD.out] at hTd5
                clear hTd
                go_wp2_with fail
                refine hTd5.mono ?_
                rintro e w6 ⟨rfl, hb6⟩
                have g0 := (hb6.cell (p := ⟨wo.heap.size, 0, none⟩) l5).trans f0
                have g1 := (hb6.cell (p := ⟨wo.heap.size, 1, none⟩) l5).trans f1'
                have g2 := (hb6.cell (p := ⟨wo.heap.size, 2, none⟩) l5).trans f2
                have l6 := Nat.lt_of_lt_of_le l5 hb6.size
                have H6 := Lib.hid (B5.out.2.trans (hb6.mono B5.out.2.size))
                clear hb6 f0 f1' f2 hTa hTd5
                go_wp2_with fail
                go_ret
                exact ⟨by rw [HFA.out 3 (WM.one_3t HIN.out HORD.out (.inl HTD.out)) (by omega)]; rfl, H6.out⟩
              · cases hta : WM.tokB ad
                · have HTD := Lib.hid (And.intro htd hta)
                  clear htd hta h1
                  go_upto_region 5 with fail
                  obtain ⟨w5, hw5⟩ : ∃ w5, wo.alloc (.cells #[.int .i64 (p : Int), .slice A1 dr.length c1, .slice A2 ad.length c2] 45) = w5 := ⟨_, rfl⟩
                  rw [hw5]
                  have b5 : Below wo.heap.size wo w5 := by rw [← hw5]; exact (Below.refl _ _).alloc (Nat.le_refl _) _
                  have q5 : Blk w5 wo.heap.size 45 #[.int .i64 (p : Int), .slice A1 dr.length c1, .slice A2 ad.length c2] := by rw [← hw5]; exact Blk.new wo _ _
                  have l5 := q5.lt
                  have f0 : w5.cell? ⟨wo.heap.size, 0, none⟩ = some (.int .i64 (p : Int)) := q5.cell 0
                  have f1' : w5.cell? ⟨wo.heap.size, 1, none⟩ = some (.slice A1 dr.length c1) := q5.cell 1
                  have f2 : w5.cell? ⟨wo.heap.size, 2, none⟩ = some (.slice A2 ad.length c2) := q5.cell 2
                  have B5 := Lib.hid (And.intro b5 (HO.out.1.trans (b5.mono HO.out.1.size)))
                  clear hw5 b5 q5 k0 k1 k2
                  have hz1 : (0 : Int) < (n : Int) := by have := HZN.out.1; omega
                  have hsp : ¬ (p : Int) ≤ (a : Int) := HZN.out.2
                  have hd1 : ((dr.length : Int) == 0) = true := beq_iff_eq.2 (by have := HDD.out; omega)
                  have ha1 : ((ad.length : Int) == 0) = false := beq_eq_false_iff_ne.2 (by have := HDD.out; have := H3.out; omega)
                  have hTd5 := hTd w5 B5.out.2
                  rw [HTD.out.1] at hTd5
                  clear hTd
                  go_wp2_with fail
                  refine hTd5.mono ?_
                  rintro e w6 ⟨rfl, hb6⟩
                  have g0 := (hb6.cell (p := ⟨wo.heap.size, 0, none⟩) l5).trans f0
                  have g1 := (hb6.cell (p := ⟨wo.heap.size, 1, none⟩) l5).trans f1'
                  have g2 := (hb6.cell (p := ⟨wo.heap.size, 2, none⟩) l5).trans f2
                  have l6 := Nat.lt_of_lt_of_le l5 hb6.size
                  have H6 := Lib.hid (B5.out.2.trans (hb6.mono B5.out.2.size))
                  have hTa6 := hTa w6 H6.out
                  rw [HTD.out.2] at hTa6
                  clear hb6 f0 f1' f2 hTa hTd5
                  go_wp2_with fail
                  refine hTa6.mono ?_
                  rintro e w7 ⟨rfl, hb7⟩
                  have h0 := (hb7.cell (p := ⟨wo.heap.size, 0, none⟩) l6).trans g0
                  have h1 := (hb7.cell (p := ⟨wo.heap.size, 1, none⟩) l6).trans g1
                  have H7 := Lib.hid (H6.out.trans (hb7.mono H6.out.size))
                  clear hb7 g0 g1 g2 hTa6
                  go_wp2_with fail
                  go_ret
                  exact ⟨by rw [HFA.out 3 (WM.one_3t HIN.out HORD.out (.inr HTD.out.2)) (by omega)]; rfl, H7.out⟩
                · have HTK := Lib.hid (show ¬ (WM.tokB dr = false ∨ WM.tokB ad = false) by rw [htd, hta]; simp)
                  have HTD := Lib.hid (And.intro htd hta)
                  clear htd hta h1
                  by_cases hcj : cX = p
                  · have HQ := Lib.hid (fun W (HW : Below w.heap.size w W) => beginsWith_gen (X.drop p) dr 0 (by rw [HZ.out]; omega) (by omega) A A1 0 c1 (by omega) W (RdO.none_ _ _ _ (by rw [HZ.out]; omega)) ((HO.out.2.1.below HW (Nat.le_refl _)).rdo) (by omega))
                    obtain ⟨fb, hfb⟩ : ∃ fb, fb = WM.fitB (X.drop p) dr := ⟨_, rfl⟩
                    rw [← hfb] at HQ HFIT
                    clear hfb
                    subst hcj
                    cases fb
                    · go_upto_region 5 with fail
                      obtain ⟨w5, hw5⟩ : ∃ w5, wo.alloc (.cells #[.int .i64 (cX : Int), .slice A1 dr.length c1, .slice A2 ad.length c2] 45) = w5 := ⟨_, rfl⟩
                      rw [hw5]
                      have b5 : Below wo.heap.size wo w5 := by rw [← hw5]; exact (Below.refl _ _).alloc (Nat.le_refl _) _
                      have q5 : Blk w5 wo.heap.size 45 #[.int .i64 (cX : Int), .slice A1 dr.length c1, .slice A2 ad.length c2] := by rw [← hw5]; exact Blk.new wo _ _
                      have l5 := q5.lt
                      have f0 : w5.cell? ⟨wo.heap.size, 0, none⟩ = some (.int .i64 (cX : Int)) := q5.cell 0
                      have f1' : w5.cell? ⟨wo.heap.size, 1, none⟩ = some (.slice A1 dr.length c1) := q5.cell 1
                      have f2 : w5.cell? ⟨wo.heap.size, 2, none⟩ = some (.slice A2 ad.length c2) := q5.cell 2
                      have B5 := Lib.hid (And.intro b5 (HO.out.1.trans (b5.mono HO.out.1.size)))
                      clear hw5 b5 q5 k0 k1 k2
                      have hz1 : (0 : Int) < (n : Int) := by have := HZN.out.1; omega
                      have hsp : ¬ (cX : Int) ≤ (a : Int) := HZN.out.2
                      have hd1 : ((dr.length : Int) == 0) = true := beq_iff_eq.2 (by have := HDD.out; omega)
                      have ha1 : ((ad.length : Int) == 0) = false := beq_eq_false_iff_ne.2 (by have := HDD.out; have := H3.out; omega)
                      have hTd5 := hTd w5 B5.out.2
                      rw [HTD.out.1] at hTd5
                      clear hTd
                      go_wp2_with fail
                      refine hTd5.mono ?_
                      rintro e w6 ⟨rfl, hb6⟩
                      have g0 := (hb6.cell (p := ⟨wo.heap.size, 0, none⟩) l5).trans f0
                      have g1 := (hb6.cell (p := ⟨wo.heap.size, 1, none⟩) l5).trans f1'
                      have g2 := (hb6.cell (p := ⟨wo.heap.size, 2, none⟩) l5).trans f2
                      have l6 := Nat.lt_of_lt_of_le l5 hb6.size
                      have H6 := Lib.hid (B5.out.2.trans (hb6.mono B5.out.2.size))
                      have hTa6 := hTa w6 H6.out
                      rw [HTD.out.2] at hTa6
                      clear hb6 f0 f1' f2 hTa hTd5
                      go_wp2_with fail
                      refine hTa6.mono ?_
                      rintro e w7 ⟨rfl, hb7⟩
                      have h0 := (hb7.cell (p := ⟨wo.heap.size, 0, none⟩) l6).trans g0
                      have h1 := (hb7.cell (p := ⟨wo.heap.size, 1, none⟩) l6).trans g1
                      have H7 := Lib.hid (H6.out.trans (hb7.mono H6.out.size))
                      clear hb7 g0 g1 g2 hTa6
                      go_wp2_with fail
                      go_quiet ((refine Calls.quiet_of (HQ.out _ (below_drewN H7.out _))))
                      go_wp2_with fail
                      go_ret
                      exact ⟨by rw [HFA.out 13 (WM.one_13 HIN.out HORD.out H3.out HTK.out HFIT.out) (by omega)]; rfl, below_drewN H7.out _⟩
                    · go_upto_region 5 with fail
                      obtain ⟨w5, hw5⟩ : ∃ w5, wo.alloc (.cells #[.int .i64 (cX : Int), .slice A1 dr.length c1, .slice A2 ad.length c2] 45) = w5 := ⟨_, rfl⟩
                      rw [hw5]
                      have b5 : Below wo.heap.size wo w5 := by rw [← hw5]; exact (Below.refl _ _).alloc (Nat.le_refl _) _
                      have q5 : Blk w5 wo.heap.size 45 #[.int .i64 (cX : Int), .slice A1 dr.length c1, .slice A2 ad.length c2] := by rw [← hw5]; exact Blk.new wo _ _
                      have l5 := q5.lt
                      have f0 : w5.cell? ⟨wo.heap.size, 0, none⟩ = some (.int .i64 (cX : Int)) := q5.cell 0
                      have f1' : w5.cell? ⟨wo.heap.size, 1, none⟩ = some (.slice A1 dr.length c1) := q5.cell 1
                      have f2 : w5.cell? ⟨wo.heap.size, 2, none⟩ = some (.slice A2 ad.length c2) := q5.cell 2
                      have B5 := Lib.hid (And.intro b5 (HO.out.1.trans (b5.mono HO.out.1.size)))
                      clear hw5 b5 q5 k0 k1 k2
                      have hz1 : (0 : Int) < (n : Int) := by have := HZN.out.1; omega
                      have hsp : ¬ (cX : Int) ≤ (a : Int) := HZN.out.2
                      have hd1 : ((dr.length : Int) == 0) = true := beq_iff_eq.2 (by have := HDD.out; omega)
                      have ha1 : ((ad.length : Int) == 0) = false := beq_eq_false_iff_ne.2 (by have := HDD.out; have := H3.out; omega)
                      have hTd5 := hTd w5 B5.out.2
                      rw [HTD.out.1] at hTd5
                      clear hTd
                      go_wp2_with fail
                      refine hTd5.mono ?_
                      rintro e w6 ⟨rfl, hb6⟩
                      have g0 := (hb6.cell (p := ⟨wo.heap.size, 0, none⟩) l5).trans f0
                      have g1 := (hb6.cell (p := ⟨wo.heap.size, 1, none⟩) l5).trans f1'
                      have g2 := (hb6.cell (p := ⟨wo.heap.size, 2, none⟩) l5).trans f2
                      have l6 := Nat.lt_of_lt_of_le l5 hb6.size
                      have H6 := Lib.hid (B5.out.2.trans (hb6.mono B5.out.2.size))
                      have hTa6 := hTa w6 H6.out
                      rw [HTD.out.2] at hTa6
                      clear hb6 f0 f1' f2 hTa hTd5
                      go_wp2_with fail
                      refine hTa6.mono ?_
                      rintro e w7 ⟨rfl, hb7⟩
                      have h0 := (hb7.cell (p := ⟨wo.heap.size, 0, none⟩) l6).trans g0
                      have h1 := (hb7.cell (p := ⟨wo.heap.size, 1, none⟩) l6).trans g1
                      have H7 := Lib.hid (H6.out.trans (hb7.mono H6.out.size))
                      clear hb7 g0 g1 g2 hTa6
                      go_wp2_with fail
                      go_quiet ((refine Calls.quiet_of (HQ.out _ (below_drewN H7.out _))))
                      go_wp2_with fail
                      exact ⟨⟨n + 1, by rw [HST.out.2], by simp, by omega, by rw [HST.out.1, WM.one_0 HIN.out HORD.out H3.out HTK.out HFIT.out], below_drewN H7.out _⟩, by simp [intOf]; omega⟩
                  · have HQ := Lib.hid (fun W (HW : Below w.heap.size w W) => beginsWith_gen (X.drop p) dr (X.length - p) HZ.out (by omega) (Option.map (fun x => x.add p) A) A1 (cX - p) c1 (by omega) W (HRD.out _ HW) ((HO.out.2.1.below HW (Nat.le_refl _)).rdo) (by omega))
                    obtain ⟨fb, hfb⟩ : ∃ fb, fb = WM.fitB (X.drop p) dr := ⟨_, rfl⟩
                    rw [← hfb] at HQ HFIT
                    clear hfb
                    cases fb
                    · go_upto_region 5 with fail
                      obtain ⟨w5, hw5⟩ : ∃ w5, wo.alloc (.cells #[.int .i64 (p : Int), .slice A1 dr.length c1, .slice A2 ad.length c2] 45) = w5 := ⟨_, rfl⟩
                      rw [hw5]
                      have b5 : Below wo.heap.size wo w5 := by rw [← hw5]; exact (Below.refl _ _).alloc (Nat.le_refl _) _
                      have q5 : Blk w5 wo.heap.size 45 #[.int .i64 (p : Int), .slice A1 dr.length c1, .slice A2 ad.length c2] := by rw [← hw5]; exact Blk.new wo _ _
                      have l5 := q5.lt
                      have f0 : w5.cell? ⟨wo.heap.size, 0, none⟩ = some (.int .i64 (p : Int)) := q5.cell 0
                      have f1' : w5.cell? ⟨wo.heap.size, 1, none⟩ = some (.slice A1 dr.length c1) := q5.cell 1
                      have f2 : w5.cell? ⟨wo.heap.size, 2, none⟩ = some (.slice A2 ad.length c2) := q5.cell 2
                      have B5 := Lib.hid (And.intro b5 (HO.out.1.trans (b5.mono HO.out.1.size)))
                      clear hw5 b5 q5 k0 k1 k2
                      have hz1 : (0 : Int) < (n : Int) := by have := HZN.out.1; omega
                      have hsp : ¬ (p : Int) ≤ (a : Int) := HZN.out.2
                      have hd1 : ((dr.length : Int) == 0) = true := beq_iff_eq.2 (by have := HDD.out; omega)
                      have ha1 : ((ad.length : Int) == 0) = false := beq_eq_false_iff_ne.2 (by have := HDD.out; have := H3.out; omega)
                      have hTd5 := hTd w5 B5.out.2
                      rw [HTD.out.1] at hTd5
                      clear hTd
                      go_wp2_with fail
                      refine hTd5.mono ?_
                      rintro e w6 ⟨rfl, hb6⟩
                      have g0 := (hb6.cell (p := ⟨wo.heap.size, 0, none⟩) l5).trans f0
                      have g1 := (hb6.cell (p := ⟨wo.heap.size, 1, none⟩) l5).trans f1'
                      have g2 := (hb6.cell (p := ⟨wo.heap.size, 2, none⟩) l5).trans f2
                      have l6 := Nat.lt_of_lt_of_le l5 hb6.size
                      have H6 := Lib.hid (B5.out.2.trans (hb6.mono B5.out.2.size))
                      have hTa6 := hTa w6 H6.out
                      rw [HTD.out.2] at hTa6
                      clear hb6 f0 f1' f2 hTa hTd5
                      go_wp2_with fail
                      refine hTa6.mono ?_
                      rintro e w7 ⟨rfl, hb7⟩
                      have h0 := (hb7.cell (p := ⟨wo.heap.size, 0, none⟩) l6).trans g0
                      have h1 := (hb7.cell (p := ⟨wo.heap.size, 1, none⟩) l6).trans g1
                      have H7 := Lib.hid (H6.out.trans (hb7.mono H6.out.size))
                      clear hb7 g0 g1 g2 hTa6
                      go_wp2_with fail
                      go_quiet ((refine Calls.quiet_of (HQ.out _ (below_drewN H7.out _))))
                      go_wp2_with fail
                      go_ret
                      exact ⟨by rw [HFA.out 13 (WM.one_13 HIN.out HORD.out H3.out HTK.out HFIT.out) (by omega)]; rfl, below_drewN H7.out _⟩
                    · go_upto_region 5 with fail
                      obtain ⟨w5, hw5⟩ : ∃ w5, wo.alloc (.cells #[.int .i64 (p : Int), .slice A1 dr.length c1, .slice A2 ad.length c2] 45) = w5 := ⟨_, rfl⟩
                      rw [hw5]
                      have b5 : Below wo.heap.size wo w5 := by rw [← hw5]; exact (Below.refl _ _).alloc (Nat.le_refl _) _
                      have q5 : Blk w5 wo.heap.size 45 #[.int .i64 (p : Int), .slice A1 dr.length c1, .slice A2 ad.length c2] := by rw [← hw5]; exact Blk.new wo _ _
                      have l5 := q5.lt
                      have f0 : w5.cell? ⟨wo.heap.size, 0, none⟩ = some (.int .i64 (p : Int)) := q5.cell 0
                      have f1' : w5.cell? ⟨wo.heap.size, 1, none⟩ = some (.slice A1 dr.length c1) := q5.cell 1
                      have f2 : w5.cell? ⟨wo.heap.size, 2, none⟩ = some (.slice A2 ad.length c2) := q5.cell 2
                      have B5 := Lib.hid (And.intro b5 (HO.out.1.trans (b5.mono HO.out.1.size)))
                      clear hw5 b5 q5 k0 k1 k2
                      have hz1 : (0 : Int) < (n : Int) := by have := HZN.out.1; omega
                      have hsp : ¬ (p : Int) ≤ (a : Int) := HZN.out.2
                      have hd1 : ((dr.length : Int) == 0) = true := beq_iff_eq.2 (by have := HDD.out; omega)
                      have ha1 : ((ad.length : Int) == 0) = false := beq_eq_false_iff_ne.2 (by have := HDD.out; have := H3.out; omega)
                      have hTd5 := hTd w5 B5.out.2
                      rw [HTD.out.1] at hTd5
                      clear hTd
                      go_wp2_with fail
                      refine hTd5.mono ?_
                      rintro e w6 ⟨rfl, hb6⟩
                      have g0 := (hb6.cell (p := ⟨wo.heap.size, 0, none⟩) l5).trans f0
                      have g1 := (hb6.cell (p := ⟨wo.heap.size, 1, none⟩) l5).trans f1'
                      have g2 := (hb6.cell (p := ⟨wo.heap.size, 2, none⟩) l5).trans f2
                      have l6 := Nat.lt_of_lt_of_le l5 hb6.size
                      have H6 := Lib.hid (B5.out.2.trans (hb6.mono B5.out.2.size))
                      have hTa6 := hTa w6 H6.out
                      rw [HTD.out.2] at hTa6
                      clear hb6 f0 f1' f2 hTa hTd5
                      go_wp2_with fail
                      refine hTa6.mono ?_
                      rintro e w7 ⟨rfl, hb7⟩
                      have h0 := (hb7.cell (p := ⟨wo.heap.size, 0, none⟩) l6).trans g0
                      have h1 := (hb7.cell (p := ⟨wo.heap.size, 1, none⟩) l6).trans g1
                      have H7 := Lib.hid (H6.out.trans (hb7.mono H6.out.size))
                      clear hb7 g0 g1 g2 hTa6
                      go_wp2_with fail
                      go_quiet ((refine Calls.quiet_of (HQ.out _ (below_drewN H7.out _))))
                      go_wp2_with fail
                      exact ⟨⟨n + 1, by rw [HST.out.2], by simp, by omega, by rw [HST.out.1, WM.one_0 HIN.out HORD.out H3.out HTK.out HFIT.out], below_drewN H7.out _⟩, by simp [intOf]; omega⟩
            · have HDD := Lib.hid hdd
              have H3 := Lib.hid h3
              clear hdd h3
              have HZN := Lib.hid (And.intro hz ho)
              clear hz ho
              cases htd : WM.tokB dr
              · have HTD := Lib.hid htd
                clear htd
                go_upto_region 5 with fail
                obtain ⟨w5, hw5⟩ : ∃ w5, wo.alloc (.cells #[.int .i64 (p : Int), .slice A1 dr.length c1, .slice A2 ad.length c2] 45) = w5 := ⟨_, rfl⟩
                rw [hw5]
                have b5 : Below wo.heap.size wo w5 := by rw [← hw5]; exact (Below.refl _ _).alloc (Nat.le_refl _) _
                have q5 : Blk w5 wo.heap.size 45 #[.int .i64 (p : Int), .slice A1 dr.length c1, .slice A2 ad.length c2] := by rw [← hw5]; exact Blk.new wo _ _
                have l5 := q5.lt
                have f0 : w5.cell? ⟨wo.heap.size, 0, none⟩ = some (.int .i64 (p : Int)) := q5.cell 0
                have f1' : w5.cell? ⟨wo.heap.size, 1, none⟩ = some (.slice A1 dr.length c1) := q5.cell 1
                have f2 : w5.cell? ⟨wo.heap.size, 2, none⟩ = some (.slice A2 ad.length c2) := q5.cell 2
                have B5 := Lib.hid (And.intro b5 (HO.out.1.trans (b5.mono HO.out.1.size)))
                clear hw5 b5 q5 k0 k1 k2
                have hz1 : (0 : Int) < (n : Int) := by have := HZN.out.1; omega
                have hsp : ¬ (p : Int) ≤ (a : Int) := HZN.out.2
                have hd1 : ((dr.length : Int) == 0) = false := beq_eq_false_iff_ne.2 (by have := HDD.out; omega)
                have hTd5 := hTd w5 B5.out.2
                rw [HTD.out] at hTd5
                clear hTd
                go_wp2_with fail
                refine hTd5.mono ?_
                rintro e w6 ⟨rfl, hb6⟩
                have g0 := (hb6.cell (p := ⟨wo.heap.size, 0, none⟩) l5).trans f0
                have g1 := (hb6.cell (p := ⟨wo.heap.size, 1, none⟩) l5).trans f1'
                have g2 := (hb6.cell (p := ⟨wo.heap.size, 2, none⟩) l5).trans f2
                have l6 := Nat.lt_of_lt_of_le l5 hb6.size
                have H6 := Lib.hid (B5.out.2.trans (hb6.mono B5.out.2.size))
                clear hb6 f0 f1' f2 hTa hTd5
                go_wp2_with fail
                go_ret
                exact ⟨by rw [HFA.out 3 (WM.one_3t HIN.out HORD.out (.inl HTD.out)) (by omega)]; rfl, H6.out⟩
              · cases hta : WM.tokB ad
                · have HTD := Lib.hid (And.intro htd hta)
                  clear htd hta h1
                  go_upto_region 5 with fail
                  obtain ⟨w5, hw5⟩ : ∃ w5, wo.alloc (.cells #[.int .i64 (p : Int), .slice A1 dr.length c1, .slice A2 ad.length c2] 45) = w5 := ⟨_, rfl⟩
                  rw [hw5]
                  have b5 : Below wo.heap.size wo w5 := by rw [← hw5]; exact (Below.refl _ _).alloc (Nat.le_refl _) _
                  have q5 : Blk w5 wo.heap.size 45 #[.int .i64 (p : Int), .slice A1 dr.length c1, .slice A2 ad.length c2] := by rw [← hw5]; exact Blk.new wo _ _
                  have l5 := q5.lt
                  have f0 : w5.cell? ⟨wo.heap.size, 0, none⟩ = some (.int .i64 (p : Int)) := q5.cell 0
                  have f1' : w5.cell? ⟨wo.heap.size, 1, none⟩ = some (.slice A1 dr.length c1) := q5.cell 1
                  have f2 : w5.cell? ⟨wo.heap.size, 2, none⟩ = some (.slice A2 ad.length c2) := q5.cell 2
                  have B5 := Lib.hid (And.intro b5 (HO.out.1.trans (b5.mono HO.out.1.size)))
                  clear hw5 b5 q5 k0 k1 k2
                  have hz1 : (0 : Int) < (n : Int) := by have := HZN.out.1; omega
                  have hsp : ¬ (p : Int) ≤ (a : Int) := HZN.out.2
                  have hd1 : ((dr.length : Int) == 0) = false := beq_eq_false_iff_ne.2 (by have := HDD.out; omega)
                  have hTd5 := hTd w5 B5.out.2
                  rw [HTD.out.1] at hTd5
                  clear hTd
                  go_wp2_with fail
                  refine hTd5.mono ?_
                  rintro e w6 ⟨rfl, hb6⟩
                  have g0 := (hb6.cell (p := ⟨wo.heap.size, 0, none⟩) l5).trans f0
                  have g1 := (hb6.cell (p := ⟨wo.heap.size, 1, none⟩) l5).trans f1'
                  have g2 := (hb6.cell (p := ⟨wo.heap.size, 2, none⟩) l5).trans f2
                  have l6 := Nat.lt_of_lt_of_le l5 hb6.size
                  have H6 := Lib.hid (B5.out.2.trans (hb6.mono B5.out.2.size))
                  have hTa6 := hTa w6 H6.out
                  rw [HTD.out.2] at hTa6
                  clear hb6 f0 f1' f2 hTa hTd5
                  go_wp2_with fail
                  refine hTa6.mono ?_
                  rintro e w7 ⟨rfl, hb7⟩
                  have h0 := (hb7.cell (p := ⟨wo.heap.size, 0, none⟩) l6).trans g0
                  have h1 := (hb7.cell (p := ⟨wo.heap.size, 1, none⟩) l6).trans g1
                  have H7 := Lib.hid (H6.out.trans (hb7.mono H6.out.size))
                  clear hb7 g0 g1 g2 hTa6
                  go_wp2_with fail
                  go_ret
                  exact ⟨by rw [HFA.out 3 (WM.one_3t HIN.out HORD.out (.inr HTD.out.2)) (by omega)]; rfl, H7.out⟩
                · have HTK := Lib.hid (show ¬ (WM.tokB dr = false ∨ WM.tokB ad = false) by rw [htd, hta]; simp)
                  have HTD := Lib.hid (And.intro htd hta)
                  clear htd hta h1
                  by_cases hcj : cX = p
                  · have HQ := Lib.hid (fun W (HW : Below w.heap.size w W) => beginsWith_gen (X.drop p) dr 0 (by rw [HZ.out]; omega) (by omega) A A1 0 c1 (by omega) W (RdO.none_ _ _ _ (by rw [HZ.out]; omega)) ((HO.out.2.1.below HW (Nat.le_refl _)).rdo) (by omega))
                    obtain ⟨fb, hfb⟩ : ∃ fb, fb = WM.fitB (X.drop p) dr := ⟨_, rfl⟩
                    rw [← hfb] at HQ HFIT
                    clear hfb
                    subst hcj
                    cases fb
                    · go_upto_region 5 with fail
                      obtain ⟨w5, hw5⟩ : ∃ w5, wo.alloc (.cells #[.int .i64 (cX : Int), .slice A1 dr.length c1, .slice A2 ad.length c2] 45) = w5 := ⟨_, rfl⟩
                      rw [hw5]
                      have b5 : Below wo.heap.size wo w5 := by rw [← hw5]; exact (Below.refl _ _).alloc (Nat.le_refl _) _
                      have q5 : Blk w5 wo.heap.size 45 #[.int .i64 (cX : Int), .slice A1 dr.length c1, .slice A2 ad.length c2] := by rw [← hw5]; exact Blk.new wo _ _
                      have l5 := q5.lt
                      have f0 : w5.cell? ⟨wo.heap.size, 0, none⟩ = some (.int .i64 (cX : Int)) := q5.cell 0
                      have f1' : w5.cell? ⟨wo.heap.size, 1, none⟩ = some (.slice A1 dr.length c1) := q5.cell 1
                      have f2 : w5.cell? ⟨wo.heap.size, 2, none⟩ = some (.slice A2 ad.length c2) := q5.cell 2
                      have B5 := Lib.hid (And.intro b5 (HO.out.1.trans (b5.mono HO.out.1.size)))
                      clear hw5 b5 q5 k0 k1 k2
                      have hz1 : (0 : Int) < (n : Int) := by have := HZN.out.1; omega
                      have hsp : ¬ (cX : Int) ≤ (a : Int) := HZN.out.2
                      have hd1 : ((dr.length : Int) == 0) = false := beq_eq_false_iff_ne.2 (by have := HDD.out; omega)
                      have hTd5 := hTd w5 B5.out.2
                      rw [HTD.out.1] at hTd5
                      clear hTd
                      go_wp2_with fail
                      refine hTd5.mono ?_
                      rintro e w6 ⟨rfl, hb6⟩
                      have g0 := (hb6.cell (p := ⟨wo.heap.size, 0, none⟩) l5).trans f0
                      have g1 := (hb6.cell (p := ⟨wo.heap.size, 1, none⟩) l5).trans f1'
                      have g2 := (hb6.cell (p := ⟨wo.heap.size, 2, none⟩) l5).trans f2
                      have l6 := Nat.lt_of_lt_of_le l5 hb6.size
                      have H6 := Lib.hid (B5.out.2.trans (hb6.mono B5.out.2.size))
                      have hTa6 := hTa w6 H6.out
                      rw [HTD.out.2] at hTa6
                      clear hb6 f0 f1' f2 hTa hTd5
                      go_wp2_with fail
                      refine hTa6.mono ?_
                      rintro e w7 ⟨rfl, hb7⟩
                      have h0 := (hb7.cell (p := ⟨wo.heap.size, 0, none⟩) l6).trans g0
                      have h1 := (hb7.cell (p := ⟨wo.heap.size, 1, none⟩) l6).trans g1
                      have H7 := Lib.hid (H6.out.trans (hb7.mono H6.out.size))
                      clear hb7 g0 g1 g2 hTa6
                      go_wp2_with fail
                      go_quiet ((refine Calls.quiet_of (HQ.out _ (below_drewN H7.out _))))
                      go_wp2_with fail
                      go_ret
                      exact ⟨by rw [HFA.out 13 (WM.one_13 HIN.out HORD.out H3.out HTK.out HFIT.out) (by omega)]; rfl, below_drewN H7.out _⟩
                    · go_upto_region 5 with fail
                      obtain ⟨w5, hw5⟩ : ∃ w5, wo.alloc (.cells #[.int .i64 (cX : Int), .slice A1 dr.length c1, .slice A2 ad.length c2] 45) = w5 := ⟨_, rfl⟩
                      rw [hw5]
                      have b5 : Below wo.heap.size wo w5 := by rw [← hw5]; exact (Below.refl _ _).alloc (Nat.le_refl _) _
                      have q5 : Blk w5 wo.heap.size 45 #[.int .i64 (cX : Int), .slice A1 dr.length c1, .slice A2 ad.length c2] := by rw [← hw5]; exact Blk.new wo _ _
                      have l5 := q5.lt
                      have f0 : w5.cell? ⟨wo.heap.size, 0, none⟩ = some (.int .i64 (cX : Int)) := q5.cell 0
                      have f1' : w5.cell? ⟨wo.heap.size, 1, none⟩ = some (.slice A1 dr.length c1) := q5.cell 1
                      have f2 : w5.cell? ⟨wo.heap.size, 2, none⟩ = some (.slice A2 ad.length c2) := q5.cell 2
                      have B5 := Lib.hid (And.intro b5 (HO.out.1.trans (b5.mono HO.out.1.size)))
                      clear hw5 b5 q5 k0 k1 k2
                      have hz1 : (0 : Int) < (n : Int) := by have := HZN.out.1; omega
                      have hsp : ¬ (cX : Int) ≤ (a : Int) := HZN.out.2
                      have hd1 : ((dr.length : Int) == 0) = false := beq_eq_false_iff_ne.2 (by have := HDD.out; omega)
                      have hTd5 := hTd w5 B5.out.2
                      rw [HTD.out.1] at hTd5
                      clear hTd
                      go_wp2_with fail
                      refine hTd5.mono ?_
                      rintro e w6 ⟨rfl, hb6⟩
                      have g0 := (hb6.cell (p := ⟨wo.heap.size, 0, none⟩) l5).trans f0
                      have g1 := (hb6.cell (p := ⟨wo.heap.size, 1, none⟩) l5).trans f1'
                      have g2 := (hb6.cell (p := ⟨wo.heap.size, 2, none⟩) l5).trans f2
                      have l6 := Nat.lt_of_lt_of_le l5 hb6.size
                      have H6 := Lib.hid (B5.out.2.trans (hb6.mono B5.out.2.size))
                      have hTa6 := hTa w6 H6.out
                      rw [HTD.out.2] at hTa6
                      clear hb6 f0 f1' f2 hTa hTd5
                      go_wp2_with fail
                      refine hTa6.mono ?_
                      rintro e w7 ⟨rfl, hb7⟩
                      have h0 := (hb7.cell (p := ⟨wo.heap.size, 0, none⟩) l6).trans g0
                      have h1 := (hb7.cell (p := ⟨wo.heap.size, 1, none⟩) l6).trans g1
                      have H7 := Lib.hid (H6.out.trans (hb7.mono H6.out.size))
                      clear hb7 g0 g1 g2 hTa6
                      go_wp2_with fail
                      go_quiet ((refine Calls.quiet_of (HQ.out _ (below_drewN H7.out _))))
                      go_wp2_with fail
                      exact ⟨⟨n + 1, by rw [HST.out.2], by simp, by omega, by rw [HST.out.1, WM.one_0 HIN.out HORD.out H3.out HTK.out HFIT.out], below_drewN H7.out _⟩, by simp [intOf]; omega⟩
                  · have HQ := Lib.hid (fun W (HW : Below w.heap.size w W) => beginsWith_gen (X.drop p) dr (X.length - p) HZ.out (by omega) (Option.map (fun x => x.add p) A) A1 (cX - p) c1 (by omega) W (HRD.out _ HW) ((HO.out.2.1.below HW (Nat.le_refl _)).rdo) (by omega))
                    obtain ⟨fb, hfb⟩ : ∃ fb, fb = WM.fitB (X.drop p) dr := ⟨_, rfl⟩
                    rw [← hfb] at HQ HFIT
                    clear hfb
                    cases fb
                    · go_upto_region 5 with fail
                      obtain ⟨w5, hw5⟩ : ∃ w5, wo.alloc (.cells #[.int .i64 (p : Int), .slice A1 dr.length c1, .slice A2 ad.length c2] 45) = w5 := ⟨_, rfl⟩
                      rw [hw5]
                      have b5 : Below wo.heap.size wo w5 := by rw [← hw5]; exact (Below.refl _ _).alloc (Nat.le_refl _) _
                      have q5 : Blk w5 wo.heap.size 45 #[.int .i64 (p : Int), .slice A1 dr.length c1, .slice A2 ad.length c2] := by rw [← hw5]; exact Blk.new wo _ _
                      have l5 := q5.lt
                      have f0 : w5.cell? ⟨wo.heap.size, 0, none⟩ = some (.int .i64 (p : Int)) := q5.cell 0
                      have f1' : w5.cell? ⟨wo.heap.size, 1, none⟩ = some (.slice A1 dr.length c1) := q5.cell 1
                      have f2 : w5.cell? ⟨wo.heap.size, 2, none⟩ = some (.slice A2 ad.length c2) := q5.cell 2
                      have B5 := Lib.hid (And.intro b5 (HO.out.1.trans (b5.mono HO.out.1.size)))
                      clear hw5 b5 q5 k0 k1 k2
                      have hz1 : (0 : Int) < (n : Int) := by have := HZN.out.1; omega
                      have hsp : ¬ (p : Int) ≤ (a : Int) := HZN.out.2
                      have hd1 : ((dr.length : Int) == 0) = false := beq_eq_false_iff_ne.2 (by have := HDD.out; omega)
                      have hTd5 := hTd w5 B5.out.2
                      rw [HTD.out.1] at hTd5
                      clear hTd
                      go_wp2_with fail
                      refine hTd5.mono ?_
                      rintro e w6 ⟨rfl, hb6⟩
                      have g0 := (hb6.cell (p := ⟨wo.heap.size, 0, none⟩) l5).trans f0
                      have g1 := (hb6.cell (p := ⟨wo.heap.size, 1, none⟩) l5).trans f1'
                      have g2 := (hb6.cell (p := ⟨wo.heap.size, 2, none⟩) l5).trans f2
                      have l6 := Nat.lt_of_lt_of_le l5 hb6.size
                      have H6 := Lib.hid (B5.out.2.trans (hb6.mono B5.out.2.size))
                      have hTa6 := hTa w6 H6.out
                      rw [HTD.out.2] at hTa6
                      clear hb6 f0 f1' f2 hTa hTd5
                      go_wp2_with fail
                      refine hTa6.mono ?_
                      rintro e w7 ⟨rfl, hb7⟩
                      have h0 := (hb7.cell (p := ⟨wo.heap.size, 0, none⟩) l6).trans g0
                      have h1 := (hb7.cell (p := ⟨wo.heap.size, 1, none⟩) l6).trans g1
                      have H7 := Lib.hid (H6.out.trans (hb7.mono H6.out.size))
                      clear hb7 g0 g1 g2 hTa6
                      go_wp2_with fail
                      go_quiet ((refine Calls.quiet_of (HQ.out _ (below_drewN H7.out _))))
                      go_wp2_with fail
                      go_ret
                      exact ⟨by rw [HFA.out 13 (WM.one_13 HIN.out HORD.out H3.out HTK.out HFIT.out) (by omega)]; rfl, below_drewN H7.out _⟩
                    · go_upto_region 5 with fail
                      obtain ⟨w5, hw5⟩ : ∃ w5, wo.alloc (.cells #[.int .i64 (p : Int), .slice A1 dr.length c1, .slice A2 ad.length c2] 45) = w5 := ⟨_, rfl⟩
                      rw [hw5]
                      have b5 : Below wo.heap.size wo w5 := by rw [← hw5]; exact (Below.refl _ _).alloc (Nat.le_refl _) _
                      have q5 : Blk w5 wo.heap.size 45 #[.int .i64 (p : Int), .slice A1 dr.length c1, .slice A2 ad.length c2] := by rw [← hw5]; exact Blk.new wo _ _
                      have l5 := q5.lt
                      have f0 : w5.cell? ⟨wo.heap.size, 0, none⟩ = some (.int .i64 (p : Int)) := q5.cell 0
                      have f1' : w5.cell? ⟨wo.heap.size, 1, none⟩ = some (.slice A1 dr.length c1) := q5.cell 1
                      have f2 : w5.cell? ⟨wo.heap.size, 2, none⟩ = some (.slice A2 ad.length c2) := q5.cell 2
                      have B5 := Lib.hid (And.intro b5 (HO.out.1.trans (b5.mono HO.out.1.size)))
                      clear hw5 b5 q5 k0 k1 k2
                      have hz1 : (0 : Int) < (n : Int) := by have := HZN.out.1; omega
                      have hsp : ¬ (p : Int) ≤ (a : Int) := HZN.out.2
                      have hd1 : ((dr.length : Int) == 0) = false := beq_eq_false_iff_ne.2 (by have := HDD.out; omega)
                      have hTd5 := hTd w5 B5.out.2
                      rw [HTD.out.1] at hTd5
                      clear hTd
                      go_wp2_with fail
                      refine hTd5.mono ?_
                      rintro e w6 ⟨rfl, hb6⟩
                      have g0 := (hb6.cell (p := ⟨wo.heap.size, 0, none⟩) l5).trans f0
                      have g1 := (hb6.cell (p := ⟨wo.heap.size, 1, none⟩) l5).trans f1'
                      have g2 := (hb6.cell (p := ⟨wo.heap.size, 2, none⟩) l5).trans f2
                      have l6 := Nat.lt_of_lt_of_le l5 hb6.size
                      have H6 := Lib.hid (B5.out.2.trans (hb6.mono B5.out.2.size))
                      have hTa6 := hTa w6 H6.out
                      rw [HTD.out.2] at hTa6
                      clear hb6 f0 f1' f2 hTa hTd5
                      go_wp2_with fail
                      refine hTa6.mono ?_
                      rintro e w7 ⟨rfl, hb7⟩
                      have h0 := (hb7.cell (p := ⟨wo.heap.size, 0, none⟩) l6).trans g0
                      have h1 := (hb7.cell (p := ⟨wo.heap.size, 1, none⟩) l6).trans g1
                      have H7 := Lib.hid (H6.out.trans (hb7.mono H6.out.size))
                      clear hb7 g0 g1 g2 hTa6
                      go_wp2_with fail
                      go_quiet ((refine Calls.quiet_of (HQ.out _ (below_drewN H7.out _))))
                      go_wp2_with fail
                      exact ⟨⟨n + 1, by rw [HST.out.2], by simp, by omega, by rw [HST.out.1, WM.one_0 HIN.out HORD.out H3.out HTK.out HFIT.out], below_drewN H7.out _⟩, by simp [intOf]; omega⟩
    · obtain rfl : n = D.length := by omega
      have HW := Lib.hid (And.intro hz0 hbw)
      clear hbw
      go_wp2_with fail
      go_ret
      exact ⟨by unfold WM.fault; rw [HW.out.1]; rfl, HW.out.2⟩
end Go.Proofs.YtndeifdpiimbeaaGreatDoor
