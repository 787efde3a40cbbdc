/- Contracts of beginsWith and checkChanges, at changes that fit. -/
import Derived.Test.YtmkbfnghkcjogaaDoorIsTok
import Derived.Test.YtmkbfnghkcjogaaDoorRdC
import Derived.Test.YtmkbfnghkcjogaaDoorLead
import Derived.Deep.QuietTactic
namespace Go.Proofs.YtmkbfnghkcjogaaDoor
open Go.RowKit

theorem EqualR_true (l : List ByteArray) (n : Nat) (hn : l.length = n) (A1 A2 : Option Addr) (c1 c2 : Nat) (w : World) (h1 : RdO w A1 l) (h2 : RdO w A2 l) (hl : n ≤ 1000000000) : Calls Tryd.prog 23 #[.slice A1 n c1, .slice A2 n c2] w (SaysBo true w) := by
  subst hn
  rcases Nat.eq_zero_or_pos l.length with e | p
  · have h := Any.slices_Equal_string_empty Tryd.lays193 A1 A2 c1 l.length c2 w (by omega)
    rw [e] at h ⊢
    refine h.mono ?_
    rintro e w' ⟨rfl, rfl⟩
    exact saysb_of0 rfl
  · obtain ⟨g1, o1, rfl, _, hc1⟩ := h1 p
    obtain ⟨g2, o2, rfl, _, hc2⟩ := h2 p
    have hget : ∀ j, j < l.length → l[j]? = some (l.getD j ByteArray.empty) := fun j hj => by
      rw [List.getD_eq_getElem?_getD, List.getElem?_eq_getElem hj]; rfl
    refine (Any.slices_Equal_string Tryd.lays193 g1 o1 l.length c1 g2 o2 l.length c2 l l w (Nat.le_refl _) (Nat.le_refl _) (by omega) (by omega) (fun j hj => hc1 j _ (hget j hj)) (fun j hj => hc2 j _ (hget j hj))).mono ?_
    rintro e w' ⟨rfl, q, rfl⟩
    exact saysb_of (by simp)
theorem beginsWith_any (Z l : List ByteArray) (n : Nat) (hn : Z.length = n) (hnl : n ≤ 1000000000) (A1 A2 : Option Addr) (c1 c2 : Nat) (hc1 : n ≤ c1) (w : World) (h1 : RdO w A1 Z) (h2 : RdO w A2 l) (hl : l.length ≤ n) (hz : Z.take l.length = l) : Calls Tryd.prog 34 #[.slice A1 n c1, .slice A2 l.length c2] w (SaysBo true w) := by
  have h3 : RdO w A1 l := by rw [← hz]; exact h1.take _
  have hE := EqualR_true l l.length rfl A1 A2 c1 c2 w h3 h2 (by omega)
  clear h1 h2 h3 hz hn
  go_enter Tryd.func34, Tryd.ntmps34
  go_wp2_with fail
  refine hE.mono ?_
  rintro e w1 ⟨rfl, n1, rfl⟩
  go_wp2_with fail
  go_ret
  exact saysb_of rfl
def CkRel (w : World) (D : List WM.Chg) (a i : Value) (wr : World) : Prop := ∃ n : Nat, a = .int .i64 (WM.aft D n : Nat) ∧ i = .int .i64 n ∧ n ≤ D.length ∧ Below w.heap.size w wr
set_option maxHeartbeats 16000000 in
set_option maxRecDepth 100000 in
theorem checkChanges_any (X : List ByteArray) (A : Option Addr) (cX : Nat) (D : List WM.Chg) (v : Value) (base : Nat) (w : World) (hX : Rd w A X) (hXc : X.length ≤ cX) (hX2 : X.length ≤ 2000) (hD : OwnC w base v D) (hF : WM.Fol D X.length) (hS : WM.Sep D) (hfit : ∀ c, c ∈ D → WM.Fits X c) (hDl : D.length ≤ 3000)
    (hT : ∀ c, c ∈ D → (∀ x, x ∈ c.drop → WM.IsTok x ∧ x.size ≤ 1000000000) ∧ (∀ x, x ∈ c.add → WM.IsTok x ∧ x.size ≤ 1000000000)) :
    Calls Tryd.prog 19 #[.slice A X.length cX, v] w fun e w' => e = .returned (.int .i64 0) ∧ Below w.heap.size w w' := by
  obtain ⟨AD, cD, rfl, hf⟩ := hD.rd
  have HF := Lib.hid (And.intro hF (And.intro hS (And.intro hfit (And.intro hT hf))))
  have HX := Lib.hid (And.intro hX hXc)
  clear hF hS hfit hT hf hX hXc hD
  go_enter Tryd.func19, Tryd.ntmps19
  go_wp2_with fail
  go_loopw [5, 10] (fun a i wr => CkRel w D a i wr) (fun _ i _ => D.length - (intOf i).toNat)
  case atStart => exact ⟨0, rfl, rfl, Nat.zero_le _, Below.refl _ _⟩
  case round =>
    obtain ⟨n, rfl, rfl, hn, hbw⟩ := hrel
    obtain ⟨wo, rfl⟩ : ∃ wo : World, wo = wr := ⟨_, rfl⟩
    by_cases hlt : n < D.length
    · obtain ⟨g, rfl, hg, hgc⟩ := HF.out.2.2.2.2 (by omega)
      have hx := List.getElem?_eq_getElem hlt
      generalize D[n] = c at hx
      obtain ⟨A1, c1, A2, c2, k0', k1', k2', o1, o2⟩ := hgc w (Below.refl _ _) n c hx
      have k0 := (hbw.cell (p := ⟨g, n * 3, none⟩) hg).trans k0'
      have k1 := (hbw.cell (p := ⟨g, n * 3 + 1, none⟩) hg).trans k1'
      have k2 := (hbw.cell (p := ⟨g, n * 3 + 2, none⟩) hg).trans k2'
      have hm := List.mem_of_getElem? hx
      obtain ⟨f1, f2, f3⟩ := HF.out.2.2.1 c hm
      have hsep : 0 < n → WM.aft D n < c.at_ := fun h => by
        obtain ⟨m, rfl⟩ : ∃ m, n = m + 1 := ⟨n - 1, by omega⟩
        exact HF.out.2.1 m c hx
      have hal := (WM.fol_at HF.out.1 hx).1
      have HAF := Lib.hid (WM.aft_step hx)
      have hdl := o1.len_le
      have hal2 := o2.len_le
      have hZl : (X.drop c.at_).length = X.length - c.at_ := by simp
      have HRD := Lib.hid (fun W (hW : Below w.heap.size w W) => Rd.drop (Rd.below HX.out.1 hW) c.at_)
      have HZ := Lib.hid (And.intro hZl f2)
      have hTd := fun W (hW : Below w.heap.size w W) => areTokens_any c.drop (HF.out.2.2.2.1 c hm).1 base _ W (o1.below hW (Nat.le_refl _))
      have hTa := fun W (hW : Below w.heap.size w W) => areTokens_any c.add (HF.out.2.2.2.1 c hm).2 base _ W (o2.below hW (Nat.le_refl _))
      have HO := Lib.hid (And.intro hbw (And.intro o1 o2))
      have HSEP := Lib.hid hsep
      have HF3 := Lib.hid f3
      have hcX := HX.out.2
      generalize WM.aft D n = a at *
      generalize X.drop c.at_ = Z at *
      clear hx hbw hgc o1 o2 k0' k1' k2' hm f2 f3 hsep hZl
      by_cases hcj : cX = c.at_
      · have hd0 : c.drop.length = 0 := by omega
        by_cases hz : n = 0
        · have HQ := Lib.hid (fun W (HW : Below w.heap.size w W) => beginsWith_any Z c.drop 0 (by rw [HZ.out.1]; omega) (by omega) A A1 0 c1 (by omega) W (RdO.none_ _ _ _ (by rw [HZ.out.1]; omega)) ((HO.out.2.1.below HW (Nat.le_refl _)).rdo) (by omega) HZ.out.2)
          subst hcj
          have HZD := Lib.hid (And.intro hz hd0)
          clear hz hd0
          go_upto_region 5 with fail
          obtain ⟨w5, hw5⟩ : ∃ w5, wo.alloc (.cells #[.int .i64 (c.at_ : Nat), .slice A1 c.drop.length c1, .slice A2 c.add.length c2] 40) = w5 := ⟨_, rfl⟩
          rw [hw5]
          have b5 : Below wo.heap.size wo w5 := by rw [← hw5]; exact (Below.refl _ _).alloc (Nat.le_refl _) _
          have q5 : Blk w5 wo.heap.size 40 #[.int .i64 (c.at_ : Nat), .slice A1 c.drop.length c1, .slice A2 c.add.length c2] := by rw [← hw5]; exact Blk.new wo _ _
          have l5 := q5.lt
          have f0 : w5.cell? ⟨wo.heap.size, 0, none⟩ = some (.int .i64 (c.at_ : Nat)) := q5.cell 0
          have f1' : w5.cell? ⟨wo.heap.size, 1, none⟩ = some (.slice A1 c.drop.length c1) := q5.cell 1
          have f2 : w5.cell? ⟨wo.heap.size, 2, none⟩ = some (.slice A2 c.add.length c2) := q5.cell 2
          have B5 := Lib.hid (And.intro b5 (HO.out.1.trans (b5.mono HO.out.1.size)))
          clear hw5 b5 q5 k0 k1 k2
          obtain rfl : n = 0 := HZD.out.1
          have hd1 : ((c.drop.length : Int) == 0) = true := beq_iff_eq.2 (by have := HZD.out.2; omega)
          have ha1 : ((c.add.length : Int) == 0) = false := beq_eq_false_iff_ne.2 (by have := HF3.out; have := HZD.out.2; omega)
          have hTd5 := hTd w5 B5.out.2
          clear hTd
          go_wp2_with fail
          refine hTd5.mono ?_
          rintro e w6 ⟨rfl, hb6⟩
          have g0 := (hb6.cell (p := ⟨wo.heap.size, 0, none⟩) l5).trans f0
          have g1 := (hb6.cell (p := ⟨wo.heap.size, 1, none⟩) l5).trans f1'
          have g2 := (hb6.cell (p := ⟨wo.heap.size, 2, none⟩) l5).trans f2
          have l6 := Nat.lt_of_lt_of_le l5 hb6.size
          have H6 := Lib.hid (B5.out.2.trans (hb6.mono B5.out.2.size))
          have hTa6 := hTa w6 H6.out
          clear hb6 f0 f1' f2 hTa hTd5
          go_wp2_with fail
          refine hTa6.mono ?_
          rintro e w7 ⟨rfl, hb7⟩
          have h0 := (hb7.cell (p := ⟨wo.heap.size, 0, none⟩) l6).trans g0
          have h1 := (hb7.cell (p := ⟨wo.heap.size, 1, none⟩) l6).trans g1
          have H7 := Lib.hid (H6.out.trans (hb7.mono H6.out.size))
          clear hb7 g0 g1 g2 hTa6
          go_wp2_with fail
          go_quiet ((refine Calls.quiet_of (HQ.out _ (below_drewN H7.out _))))
          go_wp2_with fail
          exact ⟨⟨0 + 1, by rw [HAF.out]; simp, by simp, by omega, below_drewN H7.out _⟩, by simp [intOf]; omega⟩
        · have HQ := Lib.hid (fun W (HW : Below w.heap.size w W) => beginsWith_any Z c.drop 0 (by rw [HZ.out.1]; omega) (by omega) A A1 0 c1 (by omega) W (RdO.none_ _ _ _ (by rw [HZ.out.1]; omega)) ((HO.out.2.1.below HW (Nat.le_refl _)).rdo) (by omega) HZ.out.2)
          subst hcj
          have HZD := Lib.hid (And.intro hz hd0)
          clear hz hd0
          go_upto_region 5 with fail
          obtain ⟨w5, hw5⟩ : ∃ w5, wo.alloc (.cells #[.int .i64 (c.at_ : Nat), .slice A1 c.drop.length c1, .slice A2 c.add.length c2] 40) = w5 := ⟨_, rfl⟩
          rw [hw5]
          have b5 : Below wo.heap.size wo w5 := by rw [← hw5]; exact (Below.refl _ _).alloc (Nat.le_refl _) _
          have q5 : Blk w5 wo.heap.size 40 #[.int .i64 (c.at_ : Nat), .slice A1 c.drop.length c1, .slice A2 c.add.length c2] := by rw [← hw5]; exact Blk.new wo _ _
          have l5 := q5.lt
          have f0 : w5.cell? ⟨wo.heap.size, 0, none⟩ = some (.int .i64 (c.at_ : Nat)) := q5.cell 0
          have f1' : w5.cell? ⟨wo.heap.size, 1, none⟩ = some (.slice A1 c.drop.length c1) := q5.cell 1
          have f2 : w5.cell? ⟨wo.heap.size, 2, none⟩ = some (.slice A2 c.add.length c2) := q5.cell 2
          have B5 := Lib.hid (And.intro b5 (HO.out.1.trans (b5.mono HO.out.1.size)))
          clear hw5 b5 q5 k0 k1 k2
          have hz0 : (0 : Int) < (n : Int) := by have := HZD.out.1; omega
          have hsp : ¬ (c.at_ : Int) ≤ (a : Int) := by have := HSEP.out (by have := HZD.out.1; omega); omega
          have hd1 : ((c.drop.length : Int) == 0) = true := beq_iff_eq.2 (by have := HZD.out.2; omega)
          have ha1 : ((c.add.length : Int) == 0) = false := beq_eq_false_iff_ne.2 (by have := HF3.out; have := HZD.out.2; omega)
          have hTd5 := hTd w5 B5.out.2
          clear hTd
          go_wp2_with fail
          refine hTd5.mono ?_
          rintro e w6 ⟨rfl, hb6⟩
          have g0 := (hb6.cell (p := ⟨wo.heap.size, 0, none⟩) l5).trans f0
          have g1 := (hb6.cell (p := ⟨wo.heap.size, 1, none⟩) l5).trans f1'
          have g2 := (hb6.cell (p := ⟨wo.heap.size, 2, none⟩) l5).trans f2
          have l6 := Nat.lt_of_lt_of_le l5 hb6.size
          have H6 := Lib.hid (B5.out.2.trans (hb6.mono B5.out.2.size))
          have hTa6 := hTa w6 H6.out
          clear hb6 f0 f1' f2 hTa hTd5
          go_wp2_with fail
          refine hTa6.mono ?_
          rintro e w7 ⟨rfl, hb7⟩
          have h0 := (hb7.cell (p := ⟨wo.heap.size, 0, none⟩) l6).trans g0
          have h1 := (hb7.cell (p := ⟨wo.heap.size, 1, none⟩) l6).trans g1
          have H7 := Lib.hid (H6.out.trans (hb7.mono H6.out.size))
          clear hb7 g0 g1 g2 hTa6
          go_wp2_with fail
          go_quiet ((refine Calls.quiet_of (HQ.out _ (below_drewN H7.out _))))
          go_wp2_with fail
          exact ⟨⟨n + 1, by rw [HAF.out]; simp, by simp, by omega, below_drewN H7.out _⟩, by simp [intOf]; omega⟩
      · by_cases hd0 : c.drop.length = 0
        · by_cases hz : n = 0
          · have HQ := Lib.hid (fun W (HW : Below w.heap.size w W) => beginsWith_any Z c.drop (X.length - c.at_) HZ.out.1 (by omega) (Option.map (fun x => x.add c.at_) A) A1 (cX - c.at_) c1 (by omega) W (HRD.out _ HW) ((HO.out.2.1.below HW (Nat.le_refl _)).rdo) (by omega) HZ.out.2)
            have HZD := Lib.hid (And.intro hz hd0)
            clear hz hd0
            go_upto_region 5 with fail
            obtain ⟨w5, hw5⟩ : ∃ w5, wo.alloc (.cells #[.int .i64 (c.at_ : Nat), .slice A1 c.drop.length c1, .slice A2 c.add.length c2] 40) = w5 := ⟨_, rfl⟩
            rw [hw5]
            have b5 : Below wo.heap.size wo w5 := by rw [← hw5]; exact (Below.refl _ _).alloc (Nat.le_refl _) _
            have q5 : Blk w5 wo.heap.size 40 #[.int .i64 (c.at_ : Nat), .slice A1 c.drop.length c1, .slice A2 c.add.length c2] := by rw [← hw5]; exact Blk.new wo _ _
            have l5 := q5.lt
            have f0 : w5.cell? ⟨wo.heap.size, 0, none⟩ = some (.int .i64 (c.at_ : Nat)) := q5.cell 0
            have f1' : w5.cell? ⟨wo.heap.size, 1, none⟩ = some (.slice A1 c.drop.length c1) := q5.cell 1
            have f2 : w5.cell? ⟨wo.heap.size, 2, none⟩ = some (.slice A2 c.add.length c2) := q5.cell 2
            have B5 := Lib.hid (And.intro b5 (HO.out.1.trans (b5.mono HO.out.1.size)))
            clear hw5 b5 q5 k0 k1 k2
            obtain rfl : n = 0 := HZD.out.1
            have hd1 : ((c.drop.length : Int) == 0) = true := beq_iff_eq.2 (by have := HZD.out.2; omega)
            have ha1 : ((c.add.length : Int) == 0) = false := beq_eq_false_iff_ne.2 (by have := HF3.out; have := HZD.out.2; omega)
            have hTd5 := hTd w5 B5.out.2
            clear hTd
            go_wp2_with fail
            refine hTd5.mono ?_
            rintro e w6 ⟨rfl, hb6⟩
            have g0 := (hb6.cell (p := ⟨wo.heap.size, 0, none⟩) l5).trans f0
            have g1 := (hb6.cell (p := ⟨wo.heap.size, 1, none⟩) l5).trans f1'
            have g2 := (hb6.cell (p := ⟨wo.heap.size, 2, none⟩) l5).trans f2
            have l6 := Nat.lt_of_lt_of_le l5 hb6.size
            have H6 := Lib.hid (B5.out.2.trans (hb6.mono B5.out.2.size))
            have hTa6 := hTa w6 H6.out
            clear hb6 f0 f1' f2 hTa hTd5
            go_wp2_with fail
            refine hTa6.mono ?_
            rintro e w7 ⟨rfl, hb7⟩
            have h0 := (hb7.cell (p := ⟨wo.heap.size, 0, none⟩) l6).trans g0
            have h1 := (hb7.cell (p := ⟨wo.heap.size, 1, none⟩) l6).trans g1
            have H7 := Lib.hid (H6.out.trans (hb7.mono H6.out.size))
            clear hb7 g0 g1 g2 hTa6
            go_wp2_with fail
            go_quiet ((refine Calls.quiet_of (HQ.out _ (below_drewN H7.out _))))
            go_wp2_with fail
            exact ⟨⟨0 + 1, by rw [HAF.out]; simp, by simp, by omega, below_drewN H7.out _⟩, by simp [intOf]; omega⟩
          · have HQ := Lib.hid (fun W (HW : Below w.heap.size w W) => beginsWith_any Z c.drop (X.length - c.at_) HZ.out.1 (by omega) (Option.map (fun x => x.add c.at_) A) A1 (cX - c.at_) c1 (by omega) W (HRD.out _ HW) ((HO.out.2.1.below HW (Nat.le_refl _)).rdo) (by omega) HZ.out.2)
            have HZD := Lib.hid (And.intro hz hd0)
            clear hz hd0
            go_upto_region 5 with fail
            obtain ⟨w5, hw5⟩ : ∃ w5, wo.alloc (.cells #[.int .i64 (c.at_ : Nat), .slice A1 c.drop.length c1, .slice A2 c.add.length c2] 40) = w5 := ⟨_, rfl⟩
            rw [hw5]
            have b5 : Below wo.heap.size wo w5 := by rw [← hw5]; exact (Below.refl _ _).alloc (Nat.le_refl _) _
            have q5 : Blk w5 wo.heap.size 40 #[.int .i64 (c.at_ : Nat), .slice A1 c.drop.length c1, .slice A2 c.add.length c2] := by rw [← hw5]; exact Blk.new wo _ _
            have l5 := q5.lt
            have f0 : w5.cell? ⟨wo.heap.size, 0, none⟩ = some (.int .i64 (c.at_ : Nat)) := q5.cell 0
            have f1' : w5.cell? ⟨wo.heap.size, 1, none⟩ = some (.slice A1 c.drop.length c1) := q5.cell 1
            have f2 : w5.cell? ⟨wo.heap.size, 2, none⟩ = some (.slice A2 c.add.length c2) := q5.cell 2
            have B5 := Lib.hid (And.intro b5 (HO.out.1.trans (b5.mono HO.out.1.size)))
            clear hw5 b5 q5 k0 k1 k2
            have hz0 : (0 : Int) < (n : Int) := by have := HZD.out.1; omega
            have hsp : ¬ (c.at_ : Int) ≤ (a : Int) := by have := HSEP.out (by have := HZD.out.1; omega); omega
            have hd1 : ((c.drop.length : Int) == 0) = true := beq_iff_eq.2 (by have := HZD.out.2; omega)
            have ha1 : ((c.add.length : Int) == 0) = false := beq_eq_false_iff_ne.2 (by have := HF3.out; have := HZD.out.2; omega)
            have hTd5 := hTd w5 B5.out.2
            clear hTd
            go_wp2_with fail
            refine hTd5.mono ?_
            rintro e w6 ⟨rfl, hb6⟩
            have g0 := (hb6.cell (p := ⟨wo.heap.size, 0, none⟩) l5).trans f0
            have g1 := (hb6.cell (p := ⟨wo.heap.size, 1, none⟩) l5).trans f1'
            have g2 := (hb6.cell (p := ⟨wo.heap.size, 2, none⟩) l5).trans f2
            have l6 := Nat.lt_of_lt_of_le l5 hb6.size
            have H6 := Lib.hid (B5.out.2.trans (hb6.mono B5.out.2.size))
            have hTa6 := hTa w6 H6.out
            clear hb6 f0 f1' f2 hTa hTd5
            go_wp2_with fail
            refine hTa6.mono ?_
            rintro e w7 ⟨rfl, hb7⟩
            have h0 := (hb7.cell (p := ⟨wo.heap.size, 0, none⟩) l6).trans g0
            have h1 := (hb7.cell (p := ⟨wo.heap.size, 1, none⟩) l6).trans g1
            have H7 := Lib.hid (H6.out.trans (hb7.mono H6.out.size))
            clear hb7 g0 g1 g2 hTa6
            go_wp2_with fail
            go_quiet ((refine Calls.quiet_of (HQ.out _ (below_drewN H7.out _))))
            go_wp2_with fail
            exact ⟨⟨n + 1, by rw [HAF.out]; simp, by simp, by omega, below_drewN H7.out _⟩, by simp [intOf]; omega⟩
        · by_cases hz : n = 0
          · have HQ := Lib.hid (fun W (HW : Below w.heap.size w W) => beginsWith_any Z c.drop (X.length - c.at_) HZ.out.1 (by omega) (Option.map (fun x => x.add c.at_) A) A1 (cX - c.at_) c1 (by omega) W (HRD.out _ HW) ((HO.out.2.1.below HW (Nat.le_refl _)).rdo) (by omega) HZ.out.2)
            have HZD := Lib.hid (And.intro hz hd0)
            clear hz hd0
            go_upto_region 5 with fail
            obtain ⟨w5, hw5⟩ : ∃ w5, wo.alloc (.cells #[.int .i64 (c.at_ : Nat), .slice A1 c.drop.length c1, .slice A2 c.add.length c2] 40) = w5 := ⟨_, rfl⟩
            rw [hw5]
            have b5 : Below wo.heap.size wo w5 := by rw [← hw5]; exact (Below.refl _ _).alloc (Nat.le_refl _) _
            have q5 : Blk w5 wo.heap.size 40 #[.int .i64 (c.at_ : Nat), .slice A1 c.drop.length c1, .slice A2 c.add.length c2] := by rw [← hw5]; exact Blk.new wo _ _
            have l5 := q5.lt
            have f0 : w5.cell? ⟨wo.heap.size, 0, none⟩ = some (.int .i64 (c.at_ : Nat)) := q5.cell 0
            have f1' : w5.cell? ⟨wo.heap.size, 1, none⟩ = some (.slice A1 c.drop.length c1) := q5.cell 1
            have f2 : w5.cell? ⟨wo.heap.size, 2, none⟩ = some (.slice A2 c.add.length c2) := q5.cell 2
            have B5 := Lib.hid (And.intro b5 (HO.out.1.trans (b5.mono HO.out.1.size)))
            clear hw5 b5 q5 k0 k1 k2
            obtain rfl : n = 0 := HZD.out.1
            have hd1 : ((c.drop.length : Int) == 0) = false := beq_eq_false_iff_ne.2 (by have := HZD.out.2; omega)
            have hTd5 := hTd w5 B5.out.2
            clear hTd
            go_wp2_with fail
            refine hTd5.mono ?_
            rintro e w6 ⟨rfl, hb6⟩
            have g0 := (hb6.cell (p := ⟨wo.heap.size, 0, none⟩) l5).trans f0
            have g1 := (hb6.cell (p := ⟨wo.heap.size, 1, none⟩) l5).trans f1'
            have g2 := (hb6.cell (p := ⟨wo.heap.size, 2, none⟩) l5).trans f2
            have l6 := Nat.lt_of_lt_of_le l5 hb6.size
            have H6 := Lib.hid (B5.out.2.trans (hb6.mono B5.out.2.size))
            have hTa6 := hTa w6 H6.out
            clear hb6 f0 f1' f2 hTa hTd5
            go_wp2_with fail
            refine hTa6.mono ?_
            rintro e w7 ⟨rfl, hb7⟩
            have h0 := (hb7.cell (p := ⟨wo.heap.size, 0, none⟩) l6).trans g0
            have h1 := (hb7.cell (p := ⟨wo.heap.size, 1, none⟩) l6).trans g1
            have H7 := Lib.hid (H6.out.trans (hb7.mono H6.out.size))
            clear hb7 g0 g1 g2 hTa6
            go_wp2_with fail
            go_quiet ((refine Calls.quiet_of (HQ.out _ (below_drewN H7.out _))))
            go_wp2_with fail
            exact ⟨⟨0 + 1, by rw [HAF.out]; simp, by simp, by omega, below_drewN H7.out _⟩, by simp [intOf]; omega⟩
          · have HQ := Lib.hid (fun W (HW : Below w.heap.size w W) => beginsWith_any Z c.drop (X.length - c.at_) HZ.out.1 (by omega) (Option.map (fun x => x.add c.at_) A) A1 (cX - c.at_) c1 (by omega) W (HRD.out _ HW) ((HO.out.2.1.below HW (Nat.le_refl _)).rdo) (by omega) HZ.out.2)
            have HZD := Lib.hid (And.intro hz hd0)
            clear hz hd0
            go_upto_region 5 with fail
            obtain ⟨w5, hw5⟩ : ∃ w5, wo.alloc (.cells #[.int .i64 (c.at_ : Nat), .slice A1 c.drop.length c1, .slice A2 c.add.length c2] 40) = w5 := ⟨_, rfl⟩
            rw [hw5]
            have b5 : Below wo.heap.size wo w5 := by rw [← hw5]; exact (Below.refl _ _).alloc (Nat.le_refl _) _
            have q5 : Blk w5 wo.heap.size 40 #[.int .i64 (c.at_ : Nat), .slice A1 c.drop.length c1, .slice A2 c.add.length c2] := by rw [← hw5]; exact Blk.new wo _ _
            have l5 := q5.lt
            have f0 : w5.cell? ⟨wo.heap.size, 0, none⟩ = some (.int .i64 (c.at_ : Nat)) := q5.cell 0
            have f1' : w5.cell? ⟨wo.heap.size, 1, none⟩ = some (.slice A1 c.drop.length c1) := q5.cell 1
            have f2 : w5.cell? ⟨wo.heap.size, 2, none⟩ = some (.slice A2 c.add.length c2) := q5.cell 2
            have B5 := Lib.hid (And.intro b5 (HO.out.1.trans (b5.mono HO.out.1.size)))
            clear hw5 b5 q5 k0 k1 k2
            have hz0 : (0 : Int) < (n : Int) := by have := HZD.out.1; omega
            have hsp : ¬ (c.at_ : Int) ≤ (a : Int) := by have := HSEP.out (by have := HZD.out.1; omega); omega
            have hd1 : ((c.drop.length : Int) == 0) = false := beq_eq_false_iff_ne.2 (by have := HZD.out.2; omega)
            have hTd5 := hTd w5 B5.out.2
            clear hTd
            go_wp2_with fail
            refine hTd5.mono ?_
            rintro e w6 ⟨rfl, hb6⟩
            have g0 := (hb6.cell (p := ⟨wo.heap.size, 0, none⟩) l5).trans f0
            have g1 := (hb6.cell (p := ⟨wo.heap.size, 1, none⟩) l5).trans f1'
            have g2 := (hb6.cell (p := ⟨wo.heap.size, 2, none⟩) l5).trans f2
            have l6 := Nat.lt_of_lt_of_le l5 hb6.size
            have H6 := Lib.hid (B5.out.2.trans (hb6.mono B5.out.2.size))
            have hTa6 := hTa w6 H6.out
            clear hb6 f0 f1' f2 hTa hTd5
            go_wp2_with fail
            refine hTa6.mono ?_
            rintro e w7 ⟨rfl, hb7⟩
            have h0 := (hb7.cell (p := ⟨wo.heap.size, 0, none⟩) l6).trans g0
            have h1 := (hb7.cell (p := ⟨wo.heap.size, 1, none⟩) l6).trans g1
            have H7 := Lib.hid (H6.out.trans (hb7.mono H6.out.size))
            clear hb7 g0 g1 g2 hTa6
            go_wp2_with fail
            go_quiet ((refine Calls.quiet_of (HQ.out _ (below_drewN H7.out _))))
            go_wp2_with fail
            exact ⟨⟨n + 1, by rw [HAF.out]; simp, by simp, by omega, below_drewN H7.out _⟩, by simp [intOf]; omega⟩
    · have HW := Lib.hid hbw
      clear hbw
      go_wp2_with fail
      go_ret
      exact ⟨rfl, HW.out⟩
end Go.Proofs.YtmkbfnghkcjogaaDoor
