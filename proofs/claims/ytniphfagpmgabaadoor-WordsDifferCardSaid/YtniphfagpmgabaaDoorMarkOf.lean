/- Contract of the reference's MarkedOf. -/
import Derived.Test.YtniphfagpmgabaaDoorMarked
namespace Go.Proofs.YtniphfagpmgabaaDoor
open Go.RowKit

set_option maxHeartbeats 16000000 in
set_option maxRecDepth 100000 in
theorem MarkedOf_any (a b : ByteArray) (ha : Few a) (hb : Few b) (w : World) (hm : Mx w) : Calls Tryd.prog 15 #[.string a, .string b] w fun e w' => e = .returned (.string ⟨(WM.joinT (marks (WM.toks a) (WM.toks b))).toArray⟩) ∧ Below w.heap.size w w' := by
  have h1 := TokensOf_any a (by have := ha.1; omega) w hm hm.2
  have h2 := fun W (hW : Mx W) => DifferOf_any a b ha hb W hW
  have wa := few_wt ha
  have wb := few_wt hb
  have hfol := WM.differ_fol (WM.toks a) (WM.toks b)
  have HM := Lib.hid hm
  have la := ha.2
  generalize WM.toks a = T at *
  generalize WM.toks b = Y at *
  have HK := Lib.hid (And.intro (marks_row wa wb la) (And.intro (marks_join wa wb la) (And.intro (differ_join wa wb) (And.intro hfol (And.intro la (differ_len T Y la))))))
  clear hm wa wb hfol la ha hb
  go_enter Tryd.func15, Tryd.ntmps15
  go_wp2_with fail
  refine h1.mono ?_
  rintro e w1 ⟨v1, rfl, ho1, hb1⟩
  obtain ⟨A, cT, rfl, hrd⟩ := ho1.rd
  have hDf := h2 w1 (HM.out.below hb1 HM.out.2)
  have HT0 := Lib.hid (And.intro hrd (And.intro ho1.cap_le ho1.cap0))
  have HB1 := Lib.hid hb1
  clear h1 h2 ho1 hb1 hrd
  go_wp2_with fail
  refine hDf.mono ?_
  rintro e w2 ⟨v2, rfl, ho2, hb2⟩
  have HMK := Lib.hid (show marks T Y = WM.rep bra T (WM.differ T Y) from rfl)
  have HM2 := Lib.hid HK.out.2.1
  have hDl := HK.out.2.2.2.2.2
  have hT2 := HK.out.2.2.2.2.1
  have hF := HK.out.2.2.2.1
  have hJ := HK.out.2.2.1
  have hN := HK.out.1
  generalize hME : marks T Y = MK at *
  have HME := Lib.hid hME
  clear hME
  generalize WM.differ T Y = D at *
  obtain ⟨base, hbase⟩ : ∃ base, w1.heap.size = base := ⟨_, rfl⟩
  rw [hbase] at ho2
  obtain ⟨AD, cD, rfl, hf⟩ := ho2.rd
  have HF := Lib.hid (And.intro hF (And.intro hJ (And.intro hN hf)))
  have HT := Lib.hid (And.intro (Rd.below HT0.out.1 hb2) HT0.out.2)
  have HB2 := Lib.hid (HB1.out.trans (hb2.mono HB1.out.size))
  clear hF hJ hN hf hDf ho2 hb2 hbase HK
  go_wp2_with fail
  go_loopw [6, 7, 16] (fun l a i wr => ReRel w2 bra T D l a i wr) (fun _ _ i _ => D.length - (intOf i).toNat)
  case atStart => exact ⟨0, rfl, rfl, Nat.zero_le _, OwnS.nil _ _, Below.refl _ _⟩
  case round =>
    obtain ⟨n, rfl, rfl, hn, hown, hbw⟩ := hrel
    obtain ⟨wo, rfl⟩ : ∃ wo : World, wo = wr := ⟨_, rfl⟩
    have hal := aft_le HF.out.1 hn
    have HO := Lib.hid (And.intro hown hbw)
    have HNL := Lib.hid (HF.out.2.2.1 n hn)
    by_cases hlt : n < D.length
    · obtain ⟨g, rfl, hg, hgc⟩ := HF.out.2.2.2 (by omega)
      have hx := List.getElem?_eq_getElem hlt
      generalize D[n] = c at hx
      obtain ⟨A1, c1, A2, c2, k0', k1', k2', o1, o2⟩ := hgc w2 (Below.refl _ _) n c hx
      have k0 := (hbw.cell (p := ⟨g, n * 3, none⟩) hg).trans k0'
      have k1 := (hbw.cell (p := ⟨g, n * 3 + 1, none⟩) hg).trans k1'
      have k2 := (hbw.cell (p := ⟨g, n * 3 + 2, none⟩) hg).trans k2'
      obtain ⟨hat, hend⟩ := WM.fol_at HF.out.1 hx
      have HX := Lib.hid (WM.rep_step bra T hx)
      have HAF := Lib.hid (WM.aft_step hx)
      have HJ := Lib.hid (HF.out.2.1 c (List.mem_of_getElem? hx))
      have HOC := Lib.hid (And.intro o1 o2)
      have hdl := o1.len_le
      have hal2 := o2.len_le
      have HNX := Lib.hid (HF.out.2.2.1 (n + 1) hlt)
      generalize WM.aft D n = a at *
      have HRT := Lib.hid (fun W (hW : Below w2.heap.size w2 W) => (Rd.drop (Rd.below HT.out.1 hW) a).take (c.at_ - a))
      have HLT := Lib.hid (show ((T.drop a).take (c.at_ - a)).length = c.at_ - a by simp; omega)
      generalize (T.drop a).take (c.at_ - a) = Z at *
      have hct := HT.out.2.1
      obtain ⟨S1, hs1⟩ : ∃ S1 : ByteArray, (⟨(WM.joinT c.drop).toArray⟩ : ByteArray) = S1 := ⟨_, rfl⟩
      obtain ⟨S2, hs2⟩ : ∃ S2 : ByteArray, (⟨(WM.joinT c.add).toArray⟩ : ByteArray) = S2 := ⟨_, rfl⟩
      have hz1 : S1.size ≤ 1000000 := by rw [← hs1]; show (WM.joinT c.drop).toArray.size ≤ _; rw [List.size_toArray]; exact HJ.out.1
      have hz2 : S2.size ≤ 1000000 := by rw [← hs2]; show (WM.joinT c.add).toArray.size ≤ _; rw [List.size_toArray]; exact HJ.out.2
      have hJ1 : ∀ W, Below w2.heap.size w2 W → Calls Tryd.prog 31 #[.slice A1 c.drop.length c1] W fun e w' => e = .returned (.string S1) ∧ Below W.heap.size W w' := fun W hW => by
        have h := JoinOf_any c.drop base _ W (HOC.out.1.below hW (Nat.le_refl _)) (by have := HJ.out.1; omega)
        unfold SaysL at h
        rw [hs1] at h
        exact h
      have hJ2 : ∀ W, Below w2.heap.size w2 W → Calls Tryd.prog 31 #[.slice A2 c.add.length c2] W fun e w' => e = .returned (.string S2) ∧ Below W.heap.size W w' := fun W hW => by
        have h := JoinOf_any c.add base _ W (HOC.out.2.below hW (Nat.le_refl _)) (by have := HJ.out.2; omega)
        unfold SaysL at h
        rw [hs2] at h
        exact h
      have HBR := Lib.hid (show bra c = (if 0 < c.drop.length then [((⟨#[91, 45]⟩ ++ S1 : ByteArray) ++ ⟨#[45, 93]⟩)] else []) ++ (if 0 < c.add.length then [((⟨#[123, 43]⟩ ++ S2 : ByteArray) ++ ⟨#[43, 125]⟩)] else []) by unfold bra brD brA; rw [hs1, hs2])
      have hlz : (WM.repK bra T D n ++ Z).length ≤ 2000000000 := by have h9 := HNX.out; rw [HX.out] at h9; simp only [List.length_append] at h9 ⊢; omega
      have HLZ := Lib.hid hlz
      clear hx hown hbw hgc o1 o2 k0' k1' k2' hs1 hs2 hlz
      by_cases hcj : cT = a
      · obtain rfl : a = c.at_ := by omega
        subst hcj
        by_cases hd : 0 < c.drop.length
        · by_cases hA : 0 < c.add.length
          · exact absurd hd (by have := HT.out.2.1; omega)
          · exact absurd hd (by have := HT.out.2.1; omega)
        · by_cases hA : 0 < c.add.length
          · have HBL := Lib.hid (show WM.repK bra T D (n + 1) = WM.repK bra T D n ++ Z ++ [((⟨#[123, 43]⟩ ++ S2 : ByteArray) ++ ⟨#[43, 125]⟩)] by rw [HX.out, HBR.out, if_neg hd, if_pos hA]; simp)
            have HD := Lib.hid (And.intro hd hA)
            clear hd hA
            go_upto_region 7 with fail
            obtain ⟨w5, hw5⟩ : ∃ w5, wo.alloc (.cells #[.int .i64 (c.at_ : Nat), .slice A1 c.drop.length c1, .slice A2 c.add.length c2] 54) = w5 := ⟨_, rfl⟩
            rw [hw5]
            have b5 : Below wo.heap.size wo w5 := by rw [← hw5]; exact (Below.refl _ _).alloc (Nat.le_refl _) _
            have q5 : Blk w5 wo.heap.size 54 #[.int .i64 (c.at_ : Nat), .slice A1 c.drop.length c1, .slice A2 c.add.length c2] := by rw [← hw5]; exact Blk.new wo _ _
            have l5 := q5.lt
            have f0 : w5.cell? ⟨wo.heap.size, 0, none⟩ = some (.int .i64 (c.at_ : Nat)) := q5.cell 0
            have f1 : w5.cell? ⟨wo.heap.size, 1, none⟩ = some (.slice A1 c.drop.length c1) := q5.cell 1
            have f2 : w5.cell? ⟨wo.heap.size, 2, none⟩ = some (.slice A2 c.add.length c2) := q5.cell 2
            have B5 := Lib.hid (And.intro b5 (And.intro (HO.out.1.below b5 (Nat.le_refl _)) (HO.out.2.trans (b5.mono HO.out.2.size))))
            clear hw5 b5 q5 k0 k1 k2
            have h3 : c.drop.length = 0 := by have := HD.out.1; omega
            have h4 : (0 : Int) < (c.add.length : Int) := by have := HD.out.2; omega
            go_wp2_with (at_builtin; refine app_rd _ rfl (.tmp 20) (.tmp 25) rfl w2.heap.size u6 (WM.repK bra T D n) rfl B5.out.2.1 A 0 0 Z rfl (by rw [HLT.out]; omega) (RdO.none_ _ _ _ (by rw [HLT.out]; omega)) (fun h => ⟨rfl, rfl⟩) ?_ ?e1 B5.out.2.2.size; intro v6 w6 hown6 hg6 hat6; have g0 := (World.cell?_of_block (a := ⟨wo.heap.size, 0, none⟩) (hg6.block wo.heap.size l5 (own_ne HO.out.1))).trans f0; have g1 := (World.cell?_of_block (a := ⟨wo.heap.size, 1, none⟩) (hg6.block wo.heap.size l5 (own_ne HO.out.1))).trans f1; have g2 := (World.cell?_of_block (a := ⟨wo.heap.size, 2, none⟩) (hg6.block wo.heap.size l5 (own_ne HO.out.1))).trans f2; have N6 := Lib.hid (app_ne hat6 (own_ne HO.out.1) l5); have H6 := Lib.hid (And.intro hown6 (And.intro (B5.out.2.2.grown hg6 B5.out.2.2.size (fun j hj => HO.out.1.base_le j hj)) (Nat.lt_of_lt_of_le l5 hg6.size))); clear hown6 hg6 hat6 f0 f1 f2)
            case e1 => have := HNL.out; omega
            refine (hJ2 _ H6.out.2.1).mono ?_
            rintro e wA20 ⟨rfl, hbA20⟩
            have g21_0 := (hbA20.cell (p := ⟨wo.heap.size, 0, none⟩) H6.out.2.2).trans g0
            have g21_1 := (hbA20.cell (p := ⟨wo.heap.size, 1, none⟩) H6.out.2.2).trans g1
            have g21_2 := (hbA20.cell (p := ⟨wo.heap.size, 2, none⟩) H6.out.2.2).trans g2
            have HA20 := Lib.hid (And.intro (H6.out.1.below hbA20 (Nat.le_refl _)) (And.intro (H6.out.2.1.trans (hbA20.mono H6.out.2.1.size)) (Nat.lt_of_lt_of_le H6.out.2.2 hbA20.size)))
            clear hbA20 g0 g1 g2 hJ2
            go_wp2_with (at_builtin; refine app_str_at _ rfl (.tmp 43) (.tmp 49) rfl w2.heap.size v6 (WM.repK bra T D n ++ Z) rfl (HA20.out.1.alloc _) _ ((⟨#[123, 43]⟩ ++ S2 : ByteArray) ++ ⟨#[43, 125]⟩) rfl ?_ (lits_cells _ [((⟨#[123, 43]⟩ ++ S2 : ByteArray) ++ ⟨#[43, 125]⟩)] _) ?e1 ?e2; intro vB20 wB20 hownB20 hgB20 hatB20; have g22_0 := ((World.cell?_of_block (a := ⟨wo.heap.size, 0, none⟩) (hgB20.block wo.heap.size (Nat.lt_of_lt_of_le HA20.out.2.2 (by simp)) N6.out)).trans (World.cell?_of_block (a := ⟨wo.heap.size, 0, none⟩) (Below.heap_alloc wA20 _ wo.heap.size HA20.out.2.2))).trans g21_0; have g22_1 := ((World.cell?_of_block (a := ⟨wo.heap.size, 1, none⟩) (hgB20.block wo.heap.size (Nat.lt_of_lt_of_le HA20.out.2.2 (by simp)) N6.out)).trans (World.cell?_of_block (a := ⟨wo.heap.size, 1, none⟩) (Below.heap_alloc wA20 _ wo.heap.size HA20.out.2.2))).trans g21_1; have g22_2 := ((World.cell?_of_block (a := ⟨wo.heap.size, 2, none⟩) (hgB20.block wo.heap.size (Nat.lt_of_lt_of_le HA20.out.2.2 (by simp)) N6.out)).trans (World.cell?_of_block (a := ⟨wo.heap.size, 2, none⟩) (Below.heap_alloc wA20 _ wo.heap.size HA20.out.2.2))).trans g21_2; have NB20 := Lib.hid (app_ne hatB20 N6.out (Nat.lt_of_lt_of_le HA20.out.2.2 (by simp))); have HB20 := Lib.hid (And.intro hownB20 (And.intro ((HA20.out.2.1.alloc HA20.out.2.1.size _).grown hgB20 (Nat.le_trans HA20.out.2.1.size (by simp)) (fun j hj => HA20.out.1.base_le j hj)) (Nat.lt_of_lt_of_le HA20.out.2.2 (Nat.le_trans (by simp) hgB20.size)))); clear hownB20 hgB20 hatB20 g21_0 g21_1 g21_2)
            case e1 => have := HLZ.out; simp only [List.length_append] at this ⊢; simp; omega
            case e2 => exact Nat.le_trans HA20.out.2.1.size (by simp)
            go_wp2_with fail
            exact ⟨⟨n + 1, (by rw [HAF.out]; simp; try omega), by simp, by omega, by rw [HBL.out]; exact HB20.out.1, HB20.out.2.1⟩, by simp [intOf]; omega⟩
          · have HBL := Lib.hid (show WM.repK bra T D (n + 1) = WM.repK bra T D n ++ Z by rw [HX.out, HBR.out, if_neg hd, if_neg hA]; simp)
            have HD := Lib.hid (And.intro hd hA)
            clear hd hA
            go_upto_region 7 with fail
            obtain ⟨w5, hw5⟩ : ∃ w5, wo.alloc (.cells #[.int .i64 (c.at_ : Nat), .slice A1 c.drop.length c1, .slice A2 c.add.length c2] 54) = w5 := ⟨_, rfl⟩
            rw [hw5]
            have b5 : Below wo.heap.size wo w5 := by rw [← hw5]; exact (Below.refl _ _).alloc (Nat.le_refl _) _
            have q5 : Blk w5 wo.heap.size 54 #[.int .i64 (c.at_ : Nat), .slice A1 c.drop.length c1, .slice A2 c.add.length c2] := by rw [← hw5]; exact Blk.new wo _ _
            have l5 := q5.lt
            have f0 : w5.cell? ⟨wo.heap.size, 0, none⟩ = some (.int .i64 (c.at_ : Nat)) := q5.cell 0
            have f1 : w5.cell? ⟨wo.heap.size, 1, none⟩ = some (.slice A1 c.drop.length c1) := q5.cell 1
            have f2 : w5.cell? ⟨wo.heap.size, 2, none⟩ = some (.slice A2 c.add.length c2) := q5.cell 2
            have B5 := Lib.hid (And.intro b5 (And.intro (HO.out.1.below b5 (Nat.le_refl _)) (HO.out.2.trans (b5.mono HO.out.2.size))))
            clear hw5 b5 q5 k0 k1 k2
            have h3 : c.drop.length = 0 := by have := HD.out.1; omega
            have h4 : c.add.length = 0 := by have := HD.out.2; omega
            go_wp2_with (at_builtin; refine app_rd _ rfl (.tmp 20) (.tmp 25) rfl w2.heap.size u6 (WM.repK bra T D n) rfl B5.out.2.1 A 0 0 Z rfl (by rw [HLT.out]; omega) (RdO.none_ _ _ _ (by rw [HLT.out]; omega)) (fun h => ⟨rfl, rfl⟩) ?_ ?e1 B5.out.2.2.size; intro v6 w6 hown6 hg6 hat6; have g0 := (World.cell?_of_block (a := ⟨wo.heap.size, 0, none⟩) (hg6.block wo.heap.size l5 (own_ne HO.out.1))).trans f0; have g1 := (World.cell?_of_block (a := ⟨wo.heap.size, 1, none⟩) (hg6.block wo.heap.size l5 (own_ne HO.out.1))).trans f1; have g2 := (World.cell?_of_block (a := ⟨wo.heap.size, 2, none⟩) (hg6.block wo.heap.size l5 (own_ne HO.out.1))).trans f2; have N6 := Lib.hid (app_ne hat6 (own_ne HO.out.1) l5); have H6 := Lib.hid (And.intro hown6 (And.intro (B5.out.2.2.grown hg6 B5.out.2.2.size (fun j hj => HO.out.1.base_le j hj)) (Nat.lt_of_lt_of_le l5 hg6.size))); clear hown6 hg6 hat6 f0 f1 f2)
            case e1 => have := HNL.out; omega
            go_wp2_with fail
            exact ⟨⟨n + 1, (by rw [HAF.out]; simp; try omega), by simp, by omega, by rw [HBL.out]; exact H6.out.1, H6.out.2.1⟩, by simp [intOf]; omega⟩
      · by_cases hd : 0 < c.drop.length
        · by_cases hA : 0 < c.add.length
          · have HBL := Lib.hid (show WM.repK bra T D (n + 1) = WM.repK bra T D n ++ Z ++ [((⟨#[91, 45]⟩ ++ S1 : ByteArray) ++ ⟨#[45, 93]⟩)] ++ [((⟨#[123, 43]⟩ ++ S2 : ByteArray) ++ ⟨#[43, 125]⟩)] by rw [HX.out, HBR.out, if_pos hd, if_pos hA]; simp)
            have HD := Lib.hid (And.intro hd hA)
            clear hd hA
            go_upto_region 7 with fail
            obtain ⟨w5, hw5⟩ : ∃ w5, wo.alloc (.cells #[.int .i64 (c.at_ : Nat), .slice A1 c.drop.length c1, .slice A2 c.add.length c2] 54) = w5 := ⟨_, rfl⟩
            rw [hw5]
            have b5 : Below wo.heap.size wo w5 := by rw [← hw5]; exact (Below.refl _ _).alloc (Nat.le_refl _) _
            have q5 : Blk w5 wo.heap.size 54 #[.int .i64 (c.at_ : Nat), .slice A1 c.drop.length c1, .slice A2 c.add.length c2] := by rw [← hw5]; exact Blk.new wo _ _
            have l5 := q5.lt
            have f0 : w5.cell? ⟨wo.heap.size, 0, none⟩ = some (.int .i64 (c.at_ : Nat)) := q5.cell 0
            have f1 : w5.cell? ⟨wo.heap.size, 1, none⟩ = some (.slice A1 c.drop.length c1) := q5.cell 1
            have f2 : w5.cell? ⟨wo.heap.size, 2, none⟩ = some (.slice A2 c.add.length c2) := q5.cell 2
            have B5 := Lib.hid (And.intro b5 (And.intro (HO.out.1.below b5 (Nat.le_refl _)) (HO.out.2.trans (b5.mono HO.out.2.size))))
            clear hw5 b5 q5 k0 k1 k2
            have h3 : (0 : Int) < (c.drop.length : Int) := by have := HD.out.1; omega
            have h4 : (0 : Int) < (c.add.length : Int) := by have := HD.out.2; omega
            go_wp2_with (at_builtin; refine app_rd _ rfl (.tmp 20) (.tmp 25) rfl w2.heap.size u6 (WM.repK bra T D n) rfl B5.out.2.1 (Option.map (fun x => x.add a) A) (c.at_ - a) (cT - a) Z rfl HLT.out (HRT.out _ B5.out.2.2) (fun h => by have := HT.out.2.2 (Option.map_eq_none_iff.1 h); omega) ?_ ?e1 B5.out.2.2.size; intro v6 w6 hown6 hg6 hat6; have g0 := (World.cell?_of_block (a := ⟨wo.heap.size, 0, none⟩) (hg6.block wo.heap.size l5 (own_ne HO.out.1))).trans f0; have g1 := (World.cell?_of_block (a := ⟨wo.heap.size, 1, none⟩) (hg6.block wo.heap.size l5 (own_ne HO.out.1))).trans f1; have g2 := (World.cell?_of_block (a := ⟨wo.heap.size, 2, none⟩) (hg6.block wo.heap.size l5 (own_ne HO.out.1))).trans f2; have N6 := Lib.hid (app_ne hat6 (own_ne HO.out.1) l5); have H6 := Lib.hid (And.intro hown6 (And.intro (B5.out.2.2.grown hg6 B5.out.2.2.size (fun j hj => HO.out.1.base_le j hj)) (Nat.lt_of_lt_of_le l5 hg6.size))); clear hown6 hg6 hat6 f0 f1 f2)
            case e1 => have := HNL.out; omega
            refine (hJ1 _ H6.out.2.1).mono ?_
            rintro e wA10 ⟨rfl, hbA10⟩
            have g11_0 := (hbA10.cell (p := ⟨wo.heap.size, 0, none⟩) H6.out.2.2).trans g0
            have g11_1 := (hbA10.cell (p := ⟨wo.heap.size, 1, none⟩) H6.out.2.2).trans g1
            have g11_2 := (hbA10.cell (p := ⟨wo.heap.size, 2, none⟩) H6.out.2.2).trans g2
            have HA10 := Lib.hid (And.intro (H6.out.1.below hbA10 (Nat.le_refl _)) (And.intro (H6.out.2.1.trans (hbA10.mono H6.out.2.1.size)) (Nat.lt_of_lt_of_le H6.out.2.2 hbA10.size)))
            clear hbA10 g0 g1 g2 hJ1
            go_wp2_with (at_builtin; refine app_str_at _ rfl (.tmp 31) (.tmp 37) rfl w2.heap.size v6 (WM.repK bra T D n ++ Z) rfl (HA10.out.1.alloc _) _ ((⟨#[91, 45]⟩ ++ S1 : ByteArray) ++ ⟨#[45, 93]⟩) rfl ?_ (lits_cells _ [((⟨#[91, 45]⟩ ++ S1 : ByteArray) ++ ⟨#[45, 93]⟩)] _) ?e1 ?e2; intro vB10 wB10 hownB10 hgB10 hatB10; have g12_0 := ((World.cell?_of_block (a := ⟨wo.heap.size, 0, none⟩) (hgB10.block wo.heap.size (Nat.lt_of_lt_of_le HA10.out.2.2 (by simp)) N6.out)).trans (World.cell?_of_block (a := ⟨wo.heap.size, 0, none⟩) (Below.heap_alloc wA10 _ wo.heap.size HA10.out.2.2))).trans g11_0; have g12_1 := ((World.cell?_of_block (a := ⟨wo.heap.size, 1, none⟩) (hgB10.block wo.heap.size (Nat.lt_of_lt_of_le HA10.out.2.2 (by simp)) N6.out)).trans (World.cell?_of_block (a := ⟨wo.heap.size, 1, none⟩) (Below.heap_alloc wA10 _ wo.heap.size HA10.out.2.2))).trans g11_1; have g12_2 := ((World.cell?_of_block (a := ⟨wo.heap.size, 2, none⟩) (hgB10.block wo.heap.size (Nat.lt_of_lt_of_le HA10.out.2.2 (by simp)) N6.out)).trans (World.cell?_of_block (a := ⟨wo.heap.size, 2, none⟩) (Below.heap_alloc wA10 _ wo.heap.size HA10.out.2.2))).trans g11_2; have NB10 := Lib.hid (app_ne hatB10 N6.out (Nat.lt_of_lt_of_le HA10.out.2.2 (by simp))); have HB10 := Lib.hid (And.intro hownB10 (And.intro ((HA10.out.2.1.alloc HA10.out.2.1.size _).grown hgB10 (Nat.le_trans HA10.out.2.1.size (by simp)) (fun j hj => HA10.out.1.base_le j hj)) (Nat.lt_of_lt_of_le HA10.out.2.2 (Nat.le_trans (by simp) hgB10.size)))); clear hownB10 hgB10 hatB10 g11_0 g11_1 g11_2)
            case e1 => have := HLZ.out; simp only [List.length_append] at this ⊢; simp; omega
            case e2 => exact Nat.le_trans HA10.out.2.1.size (by simp)
            refine (hJ2 _ HB10.out.2.1).mono ?_
            rintro e wA20 ⟨rfl, hbA20⟩
            have g21_0 := (hbA20.cell (p := ⟨wo.heap.size, 0, none⟩) HB10.out.2.2).trans g12_0
            have g21_1 := (hbA20.cell (p := ⟨wo.heap.size, 1, none⟩) HB10.out.2.2).trans g12_1
            have g21_2 := (hbA20.cell (p := ⟨wo.heap.size, 2, none⟩) HB10.out.2.2).trans g12_2
            have HA20 := Lib.hid (And.intro (HB10.out.1.below hbA20 (Nat.le_refl _)) (And.intro (HB10.out.2.1.trans (hbA20.mono HB10.out.2.1.size)) (Nat.lt_of_lt_of_le HB10.out.2.2 hbA20.size)))
            clear hbA20 g12_0 g12_1 g12_2 hJ2
            go_wp2_with (at_builtin; refine app_str_at _ rfl (.tmp 43) (.tmp 49) rfl w2.heap.size vB10 (WM.repK bra T D n ++ Z ++ [((⟨#[91, 45]⟩ ++ S1 : ByteArray) ++ ⟨#[45, 93]⟩)]) rfl (HA20.out.1.alloc _) _ ((⟨#[123, 43]⟩ ++ S2 : ByteArray) ++ ⟨#[43, 125]⟩) rfl ?_ (lits_cells _ [((⟨#[123, 43]⟩ ++ S2 : ByteArray) ++ ⟨#[43, 125]⟩)] _) ?e1 ?e2; intro vB20 wB20 hownB20 hgB20 hatB20; have g22_0 := ((World.cell?_of_block (a := ⟨wo.heap.size, 0, none⟩) (hgB20.block wo.heap.size (Nat.lt_of_lt_of_le HA20.out.2.2 (by simp)) NB10.out)).trans (World.cell?_of_block (a := ⟨wo.heap.size, 0, none⟩) (Below.heap_alloc wA20 _ wo.heap.size HA20.out.2.2))).trans g21_0; have g22_1 := ((World.cell?_of_block (a := ⟨wo.heap.size, 1, none⟩) (hgB20.block wo.heap.size (Nat.lt_of_lt_of_le HA20.out.2.2 (by simp)) NB10.out)).trans (World.cell?_of_block (a := ⟨wo.heap.size, 1, none⟩) (Below.heap_alloc wA20 _ wo.heap.size HA20.out.2.2))).trans g21_1; have g22_2 := ((World.cell?_of_block (a := ⟨wo.heap.size, 2, none⟩) (hgB20.block wo.heap.size (Nat.lt_of_lt_of_le HA20.out.2.2 (by simp)) NB10.out)).trans (World.cell?_of_block (a := ⟨wo.heap.size, 2, none⟩) (Below.heap_alloc wA20 _ wo.heap.size HA20.out.2.2))).trans g21_2; have NB20 := Lib.hid (app_ne hatB20 NB10.out (Nat.lt_of_lt_of_le HA20.out.2.2 (by simp))); have HB20 := Lib.hid (And.intro hownB20 (And.intro ((HA20.out.2.1.alloc HA20.out.2.1.size _).grown hgB20 (Nat.le_trans HA20.out.2.1.size (by simp)) (fun j hj => HA20.out.1.base_le j hj)) (Nat.lt_of_lt_of_le HA20.out.2.2 (Nat.le_trans (by simp) hgB20.size)))); clear hownB20 hgB20 hatB20 g21_0 g21_1 g21_2)
            case e1 => have := HLZ.out; simp only [List.length_append] at this ⊢; simp; omega
            case e2 => exact Nat.le_trans HA20.out.2.1.size (by simp)
            go_wp2_with fail
            exact ⟨⟨n + 1, (by rw [HAF.out]; simp; try omega), by simp, by omega, by rw [HBL.out]; exact HB20.out.1, HB20.out.2.1⟩, by simp [intOf]; omega⟩
          · have HBL := Lib.hid (show WM.repK bra T D (n + 1) = WM.repK bra T D n ++ Z ++ [((⟨#[91, 45]⟩ ++ S1 : ByteArray) ++ ⟨#[45, 93]⟩)] by rw [HX.out, HBR.out, if_pos hd, if_neg hA]; simp)
            have HD := Lib.hid (And.intro hd hA)
            clear hd hA
            go_upto_region 7 with fail
            obtain ⟨w5, hw5⟩ : ∃ w5, wo.alloc (.cells #[.int .i64 (c.at_ : Nat), .slice A1 c.drop.length c1, .slice A2 c.add.length c2] 54) = w5 := ⟨_, rfl⟩
            rw [hw5]
            have b5 : Below wo.heap.size wo w5 := by rw [← hw5]; exact (Below.refl _ _).alloc (Nat.le_refl _) _
            have q5 : Blk w5 wo.heap.size 54 #[.int .i64 (c.at_ : Nat), .slice A1 c.drop.length c1, .slice A2 c.add.length c2] := by rw [← hw5]; exact Blk.new wo _ _
            have l5 := q5.lt
            have f0 : w5.cell? ⟨wo.heap.size, 0, none⟩ = some (.int .i64 (c.at_ : Nat)) := q5.cell 0
            have f1 : w5.cell? ⟨wo.heap.size, 1, none⟩ = some (.slice A1 c.drop.length c1) := q5.cell 1
            have f2 : w5.cell? ⟨wo.heap.size, 2, none⟩ = some (.slice A2 c.add.length c2) := q5.cell 2
            have B5 := Lib.hid (And.intro b5 (And.intro (HO.out.1.below b5 (Nat.le_refl _)) (HO.out.2.trans (b5.mono HO.out.2.size))))
            clear hw5 b5 q5 k0 k1 k2
            have h3 : (0 : Int) < (c.drop.length : Int) := by have := HD.out.1; omega
            have h4 : c.add.length = 0 := by have := HD.out.2; omega
            go_wp2_with (at_builtin; refine app_rd _ rfl (.tmp 20) (.tmp 25) rfl w2.heap.size u6 (WM.repK bra T D n) rfl B5.out.2.1 (Option.map (fun x => x.add a) A) (c.at_ - a) (cT - a) Z rfl HLT.out (HRT.out _ B5.out.2.2) (fun h => by have := HT.out.2.2 (Option.map_eq_none_iff.1 h); omega) ?_ ?e1 B5.out.2.2.size; intro v6 w6 hown6 hg6 hat6; have g0 := (World.cell?_of_block (a := ⟨wo.heap.size, 0, none⟩) (hg6.block wo.heap.size l5 (own_ne HO.out.1))).trans f0; have g1 := (World.cell?_of_block (a := ⟨wo.heap.size, 1, none⟩) (hg6.block wo.heap.size l5 (own_ne HO.out.1))).trans f1; have g2 := (World.cell?_of_block (a := ⟨wo.heap.size, 2, none⟩) (hg6.block wo.heap.size l5 (own_ne HO.out.1))).trans f2; have N6 := Lib.hid (app_ne hat6 (own_ne HO.out.1) l5); have H6 := Lib.hid (And.intro hown6 (And.intro (B5.out.2.2.grown hg6 B5.out.2.2.size (fun j hj => HO.out.1.base_le j hj)) (Nat.lt_of_lt_of_le l5 hg6.size))); clear hown6 hg6 hat6 f0 f1 f2)
            case e1 => have := HNL.out; omega
            refine (hJ1 _ H6.out.2.1).mono ?_
            rintro e wA10 ⟨rfl, hbA10⟩
            have g11_0 := (hbA10.cell (p := ⟨wo.heap.size, 0, none⟩) H6.out.2.2).trans g0
            have g11_1 := (hbA10.cell (p := ⟨wo.heap.size, 1, none⟩) H6.out.2.2).trans g1
            have g11_2 := (hbA10.cell (p := ⟨wo.heap.size, 2, none⟩) H6.out.2.2).trans g2
            have HA10 := Lib.hid (And.intro (H6.out.1.below hbA10 (Nat.le_refl _)) (And.intro (H6.out.2.1.trans (hbA10.mono H6.out.2.1.size)) (Nat.lt_of_lt_of_le H6.out.2.2 hbA10.size)))
            clear hbA10 g0 g1 g2 hJ1
            go_wp2_with (at_builtin; refine app_str_at _ rfl (.tmp 31) (.tmp 37) rfl w2.heap.size v6 (WM.repK bra T D n ++ Z) rfl (HA10.out.1.alloc _) _ ((⟨#[91, 45]⟩ ++ S1 : ByteArray) ++ ⟨#[45, 93]⟩) rfl ?_ (lits_cells _ [((⟨#[91, 45]⟩ ++ S1 : ByteArray) ++ ⟨#[45, 93]⟩)] _) ?e1 ?e2; intro vB10 wB10 hownB10 hgB10 hatB10; have g12_0 := ((World.cell?_of_block (a := ⟨wo.heap.size, 0, none⟩) (hgB10.block wo.heap.size (Nat.lt_of_lt_of_le HA10.out.2.2 (by simp)) N6.out)).trans (World.cell?_of_block (a := ⟨wo.heap.size, 0, none⟩) (Below.heap_alloc wA10 _ wo.heap.size HA10.out.2.2))).trans g11_0; have g12_1 := ((World.cell?_of_block (a := ⟨wo.heap.size, 1, none⟩) (hgB10.block wo.heap.size (Nat.lt_of_lt_of_le HA10.out.2.2 (by simp)) N6.out)).trans (World.cell?_of_block (a := ⟨wo.heap.size, 1, none⟩) (Below.heap_alloc wA10 _ wo.heap.size HA10.out.2.2))).trans g11_1; have g12_2 := ((World.cell?_of_block (a := ⟨wo.heap.size, 2, none⟩) (hgB10.block wo.heap.size (Nat.lt_of_lt_of_le HA10.out.2.2 (by simp)) N6.out)).trans (World.cell?_of_block (a := ⟨wo.heap.size, 2, none⟩) (Below.heap_alloc wA10 _ wo.heap.size HA10.out.2.2))).trans g11_2; have NB10 := Lib.hid (app_ne hatB10 N6.out (Nat.lt_of_lt_of_le HA10.out.2.2 (by simp))); have HB10 := Lib.hid (And.intro hownB10 (And.intro ((HA10.out.2.1.alloc HA10.out.2.1.size _).grown hgB10 (Nat.le_trans HA10.out.2.1.size (by simp)) (fun j hj => HA10.out.1.base_le j hj)) (Nat.lt_of_lt_of_le HA10.out.2.2 (Nat.le_trans (by simp) hgB10.size)))); clear hownB10 hgB10 hatB10 g11_0 g11_1 g11_2)
            case e1 => have := HLZ.out; simp only [List.length_append] at this ⊢; simp; omega
            case e2 => exact Nat.le_trans HA10.out.2.1.size (by simp)
            go_wp2_with fail
            exact ⟨⟨n + 1, (by rw [HAF.out]; simp; try omega), by simp, by omega, by rw [HBL.out]; exact HB10.out.1, HB10.out.2.1⟩, by simp [intOf]; omega⟩
        · by_cases hA : 0 < c.add.length
          · have HBL := Lib.hid (show WM.repK bra T D (n + 1) = WM.repK bra T D n ++ Z ++ [((⟨#[123, 43]⟩ ++ S2 : ByteArray) ++ ⟨#[43, 125]⟩)] by rw [HX.out, HBR.out, if_neg hd, if_pos hA]; simp)
            have HD := Lib.hid (And.intro hd hA)
            clear hd hA
            go_upto_region 7 with fail
            obtain ⟨w5, hw5⟩ : ∃ w5, wo.alloc (.cells #[.int .i64 (c.at_ : Nat), .slice A1 c.drop.length c1, .slice A2 c.add.length c2] 54) = w5 := ⟨_, rfl⟩
            rw [hw5]
            have b5 : Below wo.heap.size wo w5 := by rw [← hw5]; exact (Below.refl _ _).alloc (Nat.le_refl _) _
            have q5 : Blk w5 wo.heap.size 54 #[.int .i64 (c.at_ : Nat), .slice A1 c.drop.length c1, .slice A2 c.add.length c2] := by rw [← hw5]; exact Blk.new wo _ _
            have l5 := q5.lt
            have f0 : w5.cell? ⟨wo.heap.size, 0, none⟩ = some (.int .i64 (c.at_ : Nat)) := q5.cell 0
            have f1 : w5.cell? ⟨wo.heap.size, 1, none⟩ = some (.slice A1 c.drop.length c1) := q5.cell 1
            have f2 : w5.cell? ⟨wo.heap.size, 2, none⟩ = some (.slice A2 c.add.length c2) := q5.cell 2
            have B5 := Lib.hid (And.intro b5 (And.intro (HO.out.1.below b5 (Nat.le_refl _)) (HO.out.2.trans (b5.mono HO.out.2.size))))
            clear hw5 b5 q5 k0 k1 k2
            have h3 : c.drop.length = 0 := by have := HD.out.1; omega
            have h4 : (0 : Int) < (c.add.length : Int) := by have := HD.out.2; omega
            go_wp2_with (at_builtin; refine app_rd _ rfl (.tmp 20) (.tmp 25) rfl w2.heap.size u6 (WM.repK bra T D n) rfl B5.out.2.1 (Option.map (fun x => x.add a) A) (c.at_ - a) (cT - a) Z rfl HLT.out (HRT.out _ B5.out.2.2) (fun h => by have := HT.out.2.2 (Option.map_eq_none_iff.1 h); omega) ?_ ?e1 B5.out.2.2.size; intro v6 w6 hown6 hg6 hat6; have g0 := (World.cell?_of_block (a := ⟨wo.heap.size, 0, none⟩) (hg6.block wo.heap.size l5 (own_ne HO.out.1))).trans f0; have g1 := (World.cell?_of_block (a := ⟨wo.heap.size, 1, none⟩) (hg6.block wo.heap.size l5 (own_ne HO.out.1))).trans f1; have g2 := (World.cell?_of_block (a := ⟨wo.heap.size, 2, none⟩) (hg6.block wo.heap.size l5 (own_ne HO.out.1))).trans f2; have N6 := Lib.hid (app_ne hat6 (own_ne HO.out.1) l5); have H6 := Lib.hid (And.intro hown6 (And.intro (B5.out.2.2.grown hg6 B5.out.2.2.size (fun j hj => HO.out.1.base_le j hj)) (Nat.lt_of_lt_of_le l5 hg6.size))); clear hown6 hg6 hat6 f0 f1 f2)
            case e1 => have := HNL.out; omega
            refine (hJ2 _ H6.out.2.1).mono ?_
            rintro e wA20 ⟨rfl, hbA20⟩
            have g21_0 := (hbA20.cell (p := ⟨wo.heap.size, 0, none⟩) H6.out.2.2).trans g0
            have g21_1 := (hbA20.cell (p := ⟨wo.heap.size, 1, none⟩) H6.out.2.2).trans g1
            have g21_2 := (hbA20.cell (p := ⟨wo.heap.size, 2, none⟩) H6.out.2.2).trans g2
            have HA20 := Lib.hid (And.intro (H6.out.1.below hbA20 (Nat.le_refl _)) (And.intro (H6.out.2.1.trans (hbA20.mono H6.out.2.1.size)) (Nat.lt_of_lt_of_le H6.out.2.2 hbA20.size)))
            clear hbA20 g0 g1 g2 hJ2
            go_wp2_with (at_builtin; refine app_str_at _ rfl (.tmp 43) (.tmp 49) rfl w2.heap.size v6 (WM.repK bra T D n ++ Z) rfl (HA20.out.1.alloc _) _ ((⟨#[123, 43]⟩ ++ S2 : ByteArray) ++ ⟨#[43, 125]⟩) rfl ?_ (lits_cells _ [((⟨#[123, 43]⟩ ++ S2 : ByteArray) ++ ⟨#[43, 125]⟩)] _) ?e1 ?e2; intro vB20 wB20 hownB20 hgB20 hatB20; have g22_0 := ((World.cell?_of_block (a := ⟨wo.heap.size, 0, none⟩) (hgB20.block wo.heap.size (Nat.lt_of_lt_of_le HA20.out.2.2 (by simp)) N6.out)).trans (World.cell?_of_block (a := ⟨wo.heap.size, 0, none⟩) (Below.heap_alloc wA20 _ wo.heap.size HA20.out.2.2))).trans g21_0; have g22_1 := ((World.cell?_of_block (a := ⟨wo.heap.size, 1, none⟩) (hgB20.block wo.heap.size (Nat.lt_of_lt_of_le HA20.out.2.2 (by simp)) N6.out)).trans (World.cell?_of_block (a := ⟨wo.heap.size, 1, none⟩) (Below.heap_alloc wA20 _ wo.heap.size HA20.out.2.2))).trans g21_1; have g22_2 := ((World.cell?_of_block (a := ⟨wo.heap.size, 2, none⟩) (hgB20.block wo.heap.size (Nat.lt_of_lt_of_le HA20.out.2.2 (by simp)) N6.out)).trans (World.cell?_of_block (a := ⟨wo.heap.size, 2, none⟩) (Below.heap_alloc wA20 _ wo.heap.size HA20.out.2.2))).trans g21_2; have NB20 := Lib.hid (app_ne hatB20 N6.out (Nat.lt_of_lt_of_le HA20.out.2.2 (by simp))); have HB20 := Lib.hid (And.intro hownB20 (And.intro ((HA20.out.2.1.alloc HA20.out.2.1.size _).grown hgB20 (Nat.le_trans HA20.out.2.1.size (by simp)) (fun j hj => HA20.out.1.base_le j hj)) (Nat.lt_of_lt_of_le HA20.out.2.2 (Nat.le_trans (by simp) hgB20.size)))); clear hownB20 hgB20 hatB20 g21_0 g21_1 g21_2)
            case e1 => have := HLZ.out; simp only [List.length_append] at this ⊢; simp; omega
            case e2 => exact Nat.le_trans HA20.out.2.1.size (by simp)
            go_wp2_with fail
            exact ⟨⟨n + 1, (by rw [HAF.out]; simp; try omega), by simp, by omega, by rw [HBL.out]; exact HB20.out.1, HB20.out.2.1⟩, by simp [intOf]; omega⟩
          · have HBL := Lib.hid (show WM.repK bra T D (n + 1) = WM.repK bra T D n ++ Z by rw [HX.out, HBR.out, if_neg hd, if_neg hA]; simp)
            have HD := Lib.hid (And.intro hd hA)
            clear hd hA
            go_upto_region 7 with fail
            obtain ⟨w5, hw5⟩ : ∃ w5, wo.alloc (.cells #[.int .i64 (c.at_ : Nat), .slice A1 c.drop.length c1, .slice A2 c.add.length c2] 54) = w5 := ⟨_, rfl⟩
            rw [hw5]
            have b5 : Below wo.heap.size wo w5 := by rw [← hw5]; exact (Below.refl _ _).alloc (Nat.le_refl _) _
            have q5 : Blk w5 wo.heap.size 54 #[.int .i64 (c.at_ : Nat), .slice A1 c.drop.length c1, .slice A2 c.add.length c2] := by rw [← hw5]; exact Blk.new wo _ _
            have l5 := q5.lt
            have f0 : w5.cell? ⟨wo.heap.size, 0, none⟩ = some (.int .i64 (c.at_ : Nat)) := q5.cell 0
            have f1 : w5.cell? ⟨wo.heap.size, 1, none⟩ = some (.slice A1 c.drop.length c1) := q5.cell 1
            have f2 : w5.cell? ⟨wo.heap.size, 2, none⟩ = some (.slice A2 c.add.length c2) := q5.cell 2
            have B5 := Lib.hid (And.intro b5 (And.intro (HO.out.1.below b5 (Nat.le_refl _)) (HO.out.2.trans (b5.mono HO.out.2.size))))
            clear hw5 b5 q5 k0 k1 k2
            have h3 : c.drop.length = 0 := by have := HD.out.1; omega
            have h4 : c.add.length = 0 := by have := HD.out.2; omega
            go_wp2_with (at_builtin; refine app_rd _ rfl (.tmp 20) (.tmp 25) rfl w2.heap.size u6 (WM.repK bra T D n) rfl B5.out.2.1 (Option.map (fun x => x.add a) A) (c.at_ - a) (cT - a) Z rfl HLT.out (HRT.out _ B5.out.2.2) (fun h => by have := HT.out.2.2 (Option.map_eq_none_iff.1 h); omega) ?_ ?e1 B5.out.2.2.size; intro v6 w6 hown6 hg6 hat6; have g0 := (World.cell?_of_block (a := ⟨wo.heap.size, 0, none⟩) (hg6.block wo.heap.size l5 (own_ne HO.out.1))).trans f0; have g1 := (World.cell?_of_block (a := ⟨wo.heap.size, 1, none⟩) (hg6.block wo.heap.size l5 (own_ne HO.out.1))).trans f1; have g2 := (World.cell?_of_block (a := ⟨wo.heap.size, 2, none⟩) (hg6.block wo.heap.size l5 (own_ne HO.out.1))).trans f2; have N6 := Lib.hid (app_ne hat6 (own_ne HO.out.1) l5); have H6 := Lib.hid (And.intro hown6 (And.intro (B5.out.2.2.grown hg6 B5.out.2.2.size (fun j hj => HO.out.1.base_le j hj)) (Nat.lt_of_lt_of_le l5 hg6.size))); clear hown6 hg6 hat6 f0 f1 f2)
            case e1 => have := HNL.out; omega
            go_wp2_with fail
            exact ⟨⟨n + 1, (by rw [HAF.out]; simp; try omega), by simp, by omega, by rw [HBL.out]; exact H6.out.1, H6.out.2.1⟩, by simp [intOf]; omega⟩
    · obtain rfl : n = D.length := by omega
      have HRT := Lib.hid (fun W (hW : Below w2.heap.size w2 W) => Rd.drop (Rd.below HT.out.1 hW) (WM.aft D D.length))
      have HLT := Lib.hid (show (T.drop (WM.aft D D.length)).length = T.length - WM.aft D D.length by simp)
      have HREP := Lib.hid (HMK.out.trans (show WM.rep bra T D = WM.repK bra T D D.length ++ T.drop (WM.aft D D.length) from rfl))
      have hz := hbw.size
      have hct := HT.out.2.1
      generalize WM.aft D D.length = a at *
      generalize T.drop a = Z at *
      clear hown hbw
      by_cases hcj : cT = a
      · obtain rfl : a = T.length := by omega
        subst hcj
        clear hct hal
        go_wp2_with (at_builtin; refine app_rd _ rfl (.tmp 58) (.tmp 61) rfl w2.heap.size u6 (WM.repK bra T D D.length) rfl HO.out.1 A 0 0 Z rfl (by rw [HLT.out]; omega) (RdO.none_ _ _ _ (by rw [HLT.out]; omega)) (fun h => ⟨rfl, rfl⟩) ?_ ?e1 hz; intro v9 w9 hown9 hg9 _)
        case e1 => have := HNL.out; omega
        refine (JoinOf_any MK _ _ _ (by rw [HREP.out]; exact hown9) HM2.out).mono ?_
        rintro e w10 ⟨rfl, hb10⟩
        have H10 := Lib.hid (show Below w.heap.size w w10 from (HB2.out.trans ((HO.out.2.grown hg9 hz (fun j hj => HO.out.1.base_le j hj)).mono HB2.out.size)).trans (hb10.mono (Nat.le_trans HB2.out.size (Nat.le_trans hz hg9.size))))
        clear hb10 hg9 hown9
        go_wp2_with fail
        go_ret
        exact ⟨by rw [HME.out]; rfl, H10.out⟩
      · go_wp2_with (at_builtin; refine app_rd _ rfl (.tmp 58) (.tmp 61) rfl w2.heap.size u6 (WM.repK bra T D D.length) rfl HO.out.1 (Option.map (fun x => x.add a) A) (T.length - a) (cT - a) Z rfl HLT.out (HRT.out _ HO.out.2) (fun h => by have := HT.out.2.2 (Option.map_eq_none_iff.1 h); omega) ?_ ?e1 hz; intro v9 w9 hown9 hg9 _)
        case e1 => have := HNL.out; omega
        refine (JoinOf_any MK _ _ _ (by rw [HREP.out]; exact hown9) HM2.out).mono ?_
        rintro e w10 ⟨rfl, hb10⟩
        have H10 := Lib.hid (show Below w.heap.size w w10 from (HB2.out.trans ((HO.out.2.grown hg9 hz (fun j hj => HO.out.1.base_le j hj)).mono HB2.out.size)).trans (hb10.mono (Nat.le_trans HB2.out.size (Nat.le_trans hz hg9.size))))
        clear hb10 hg9 hown9
        go_wp2_with fail
        go_ret
        exact ⟨by rw [HME.out]; rfl, H10.out⟩
end Go.Proofs.YtniphfagpmgabaaDoor
