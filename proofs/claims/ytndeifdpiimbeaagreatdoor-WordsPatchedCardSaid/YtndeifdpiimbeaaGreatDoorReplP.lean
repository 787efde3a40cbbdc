/- Contract of replace with what a change adds. -/
import Derived.Test.YtndeifdpiimbeaaGreatDoorRdC
import Derived.Test.YtndeifdpiimbeaaGreatDoorPlain
import Derived.Deep.QuietTactic
namespace Go.Proofs.YtndeifdpiimbeaaGreatDoor
open Go.RowKit

set_option maxHeartbeats 1000000 in
theorem patch1_any (c : WM.Chg) (A1 A2 : Option Addr) (c1 c2 : Nat) (base : Nat) (w : World) (ha : OwnS w base (.slice A2 c.add.length c2) c.add) :
    Calls Tryz.prog 24 #[.agg #[.int .i64 c.at_, .slice A1 c.drop.length c1, .slice A2 c.add.length c2]] w fun e w' => e = .returned (.slice A2 c.add.length c2) ∧ OwnS w' base (.slice A2 c.add.length c2) c.add ∧ Below w.heap.size w w' := by
  have HA := Lib.hid ha
  clear ha
  go_enter Tryz.func24, Tryz.ntmps24
  go_wp2_with fail
  go_ret
  exact ⟨rfl, HA.out.alloc _, (Below.refl _ _).alloc (Nat.le_refl _) _⟩
def ReRel (w : World) (f : WM.Chg → List ByteArray) (T : List ByteArray) (D : List WM.Chg) (l a i : Value) (wr : World) : Prop := ∃ n : Nat, a = .int .i64 (WM.aft D n : Nat) ∧ i = .int .i64 n ∧ n ≤ D.length ∧ OwnS wr w.heap.size l (WM.repK f T D n) ∧ Below w.heap.size w wr
theorem aft_le {D : List WM.Chg} {e n : Nat} (h : WM.Fol D e) (hn : n ≤ D.length) : WM.aft D n ≤ e := WM.fol_le h (D.length - n) n (by omega)
/-- the changes D can be read, whatever is made behind -/
def RdN (w : World) (base : Nat) (AD : Option Addr) (D : List WM.Chg) : Prop := 0 < D.length → ∃ g, AD = some ⟨g, 0, none⟩ ∧ g < w.heap.size ∧ ∀ W, Below w.heap.size w W → ∀ (n : Nat) (c : WM.Chg), D[n]? = some c → ∃ A1 c1 A2 c2, W.cell? ⟨g, n * 3, none⟩ = some (.int .i64 c.at_) ∧ W.cell? ⟨g, n * 3 + 1, none⟩ = some (.slice A1 c.drop.length c1) ∧ W.cell? ⟨g, n * 3 + 2, none⟩ = some (.slice A2 c.add.length c2) ∧ OwnS W base (.slice A1 c.drop.length c1) c.drop ∧ OwnS W base (.slice A2 c.add.length c2) c.add
set_option maxHeartbeats 8000000 in
set_option maxRecDepth 100000 in
theorem replace_rd (T : List ByteArray) (A : Option Addr) (cT : Nat) (D : List WM.Chg) (AD : Option Addr) (cD : Nat) (base : Nat) (w : World) (hT : Rd w A T) (hTc : T.length ≤ cT) (hA : A = none → T.length = 0 ∧ cT = 0) (hT2 : T.length ≤ 2000) (hf : RdN w base AD D) (hF : WM.Fol D T.length) (hDl : D.length ≤ 3000)
    (hJ : ∀ c, c ∈ D → c.add.length ≤ 1000000) (hN : ∀ n, n ≤ D.length → (WM.repK WM.added T D n).length ≤ 1000000000) :
    Calls Tryz.prog 23 #[.slice A T.length cT, .slice AD D.length cD, .func (.func 24) #[] #[]] w (RowOwn (WM.rep WM.added T D) w) := by
  unfold RdN at hf
  have HF := Lib.hid (And.intro hF (And.intro hJ (And.intro hN hf)))
  have HT := Lib.hid (And.intro hT (And.intro hTc hA))
  have eg := enters_of Tryz.func24 (by kernel_rfl) rfl
  clear hF hJ hN hf hT hTc hA
  go_enter Tryz.func23, Tryz.ntmps23
  go_wp2_with fail
  go_loopw [7, 8, 13] (fun l a i wr => ReRel w WM.added T D l a i wr) (fun _ _ i _ => D.length - (intOf i).toNat)
  case atStart => exact ⟨0, rfl, rfl, Nat.zero_le _, OwnS.nil _ _, Below.refl _ _⟩
  case round =>
    obtain ⟨n, rfl, rfl, hn, hown, hbw⟩ := hrel
    obtain ⟨wo, rfl⟩ : ∃ wo : World, wo = wr := ⟨_, rfl⟩
    have hal := aft_le HF.out.1 hn
    have HO := Lib.hid (And.intro hown hbw)
    have HNL := Lib.hid (HF.out.2.2.1 n hn)
    by_cases hlt : n < D.length
    · obtain ⟨g, rfl, hg, hgc⟩ := HF.out.2.2.2 (by omega)
      have hx := List.getElem?_eq_getElem hlt
      generalize D[n] = c at hx
      obtain ⟨A1, c1, A2, c2, k0', k1', k2', o1, o2⟩ := hgc w (Below.refl _ _) n c hx
      have k0 := (hbw.cell (p := ⟨g, n * 3, none⟩) hg).trans k0'
      have k1 := (hbw.cell (p := ⟨g, n * 3 + 1, none⟩) hg).trans k1'
      have k2 := (hbw.cell (p := ⟨g, n * 3 + 2, none⟩) hg).trans k2'
      obtain ⟨hat, hend⟩ := WM.fol_at HF.out.1 hx
      have HX := Lib.hid (WM.rep_step WM.added T hx)
      have HAF := Lib.hid (WM.aft_step hx)
      have HAD := Lib.hid (HF.out.2.1 c (List.mem_of_getElem? hx))
      have HOC := Lib.hid (And.intro o1 o2)
      have hdl := o1.len_le
      have hal2 := o2.len_le
      have HNX := Lib.hid (HF.out.2.2.1 (n + 1) hlt)
      generalize WM.aft D n = a at *
      have HRT := Lib.hid (fun W (hW : Below w.heap.size w W) => (Rd.drop (Rd.below HT.out.1 hW) a).take (c.at_ - a))
      have HLT := Lib.hid (show ((T.drop a).take (c.at_ - a)).length = c.at_ - a by simp; omega)
      generalize (T.drop a).take (c.at_ - a) = Z at *
      have hct := HT.out.2.1
      clear hx hown hbw hgc o1 o2 k0' k1' k2'
      by_cases hcj : cT = a
      · obtain rfl : a = c.at_ := by omega
        subst hcj
        go_upto_region 6 with fail
        obtain ⟨w5, hw5⟩ : ∃ w5, wo.alloc (.cells #[.int .i64 (c.at_ : Nat), .slice A1 c.drop.length c1, .slice A2 c.add.length c2] 45) = w5 := ⟨_, rfl⟩
        rw [hw5]
        have b5 : Below wo.heap.size wo w5 := by rw [← hw5]; exact (Below.refl _ _).alloc (Nat.le_refl _) _
        have q5 : Blk w5 wo.heap.size 45 #[.int .i64 (c.at_ : Nat), .slice A1 c.drop.length c1, .slice A2 c.add.length c2] := by rw [← hw5]; exact Blk.new wo _ _
        have l5 := q5.lt
        have f0 : w5.cell? ⟨wo.heap.size, 0, none⟩ = some (.int .i64 (c.at_ : Nat)) := q5.cell 0
        have f1 : w5.cell? ⟨wo.heap.size, 1, none⟩ = some (.slice A1 c.drop.length c1) := q5.cell 1
        have f2 : w5.cell? ⟨wo.heap.size, 2, none⟩ = some (.slice A2 c.add.length c2) := q5.cell 2
        have B5 := Lib.hid (And.intro b5 (And.intro (HO.out.1.below b5 (Nat.le_refl _)) (HO.out.2.trans (b5.mono HO.out.2.size))))
        have hBr := fun W (hW : Below w.heap.size w W) => patch1_any c A1 A2 c1 c2 base W (HOC.out.2.below hW (Nat.le_refl _))
        clear hw5 b5 q5 k0 k1 k2
        go_wp2_with (at_builtin; refine app_rd _ rfl (.tmp 17) (.tmp 22) rfl w.heap.size u7 (WM.repK WM.added T D n) rfl B5.out.2.1 A 0 0 Z rfl (by rw [HLT.out]; omega) (RdO.none_ _ _ _ (by rw [HLT.out]; omega)) (fun h => ⟨rfl, rfl⟩) ?_ ?e1 B5.out.2.2.size; intro v6 w6 hown6 hg6 hat6; have g0 := (World.cell?_of_block (a := ⟨wo.heap.size, 0, none⟩) (hg6.block wo.heap.size l5 (own_ne HO.out.1))).trans f0; have g1 := (World.cell?_of_block (a := ⟨wo.heap.size, 1, none⟩) (hg6.block wo.heap.size l5 (own_ne HO.out.1))).trans f1; have g2 := (World.cell?_of_block (a := ⟨wo.heap.size, 2, none⟩) (hg6.block wo.heap.size l5 (own_ne HO.out.1))).trans f2; have N6 := Lib.hid (app_ne hat6 (own_ne HO.out.1) l5); have H6 := Lib.hid (And.intro hown6 (And.intro (B5.out.2.2.grown hg6 B5.out.2.2.size (fun j hj => HO.out.1.base_le j hj)) (Nat.lt_of_lt_of_le l5 hg6.size))); clear hown6 hg6 hat6 f0 f1 f2)
        case e1 => have := HNL.out; omega
        refine (hBr _ H6.out.2.1).mono ?_
        rintro e w7 ⟨rfl, ho7, hb7⟩
        have h0 := (hb7.cell (p := ⟨wo.heap.size, 0, none⟩) H6.out.2.2).trans g0
        have h1 := (hb7.cell (p := ⟨wo.heap.size, 1, none⟩) H6.out.2.2).trans g1
        have H7 := Lib.hid (And.intro ho7 (And.intro (H6.out.1.below hb7 (Nat.le_refl _)) (And.intro (H6.out.2.1.trans (hb7.mono H6.out.2.1.size)) (Nat.lt_of_lt_of_le H6.out.2.2 hb7.size))))
        have hbl := HAD.out
        clear ho7 hb7 g0 g1 g2 hBr
        go_wp2_with (at_builtin; refine app_rd _ rfl (.tmp 24) (.tmp 27) rfl w.heap.size v6 (WM.repK WM.added T D n ++ Z) rfl H7.out.2.1 A2 c.add.length c2 c.add rfl rfl H7.out.1.rdo H7.out.1.cap0 ?_ ?e2 H7.out.2.2.1.size; intro v8 w8 hown8 hg8 _; have r0 := (World.cell?_of_block (a := ⟨wo.heap.size, 0, none⟩) (hg8.block wo.heap.size H7.out.2.2.2 N6.out)).trans h0; have r1 := (World.cell?_of_block (a := ⟨wo.heap.size, 1, none⟩) (hg8.block wo.heap.size H7.out.2.2.2 N6.out)).trans h1; have H8 := Lib.hid (And.intro hown8 (H7.out.2.2.1.grown hg8 H7.out.2.2.1.size (fun j hj => H6.out.1.base_le j hj))); clear hown8 hg8 h0 h1)
        case e2 => have h9 := HNX.out; rw [HX.out] at h9; simp only [List.length_append] at h9 ⊢; omega
        go_wp2_with fail
        exact ⟨⟨n + 1, by rw [HAF.out]; simp, by simp, by omega, by rw [HX.out]; exact H8.out.1, H8.out.2⟩, by simp [intOf]; omega⟩
      · go_upto_region 6 with fail
        obtain ⟨w5, hw5⟩ : ∃ w5, wo.alloc (.cells #[.int .i64 (c.at_ : Nat), .slice A1 c.drop.length c1, .slice A2 c.add.length c2] 45) = w5 := ⟨_, rfl⟩
        rw [hw5]
        have b5 : Below wo.heap.size wo w5 := by rw [← hw5]; exact (Below.refl _ _).alloc (Nat.le_refl _) _
        have q5 : Blk w5 wo.heap.size 45 #[.int .i64 (c.at_ : Nat), .slice A1 c.drop.length c1, .slice A2 c.add.length c2] := by rw [← hw5]; exact Blk.new wo _ _
        have l5 := q5.lt
        have f0 : w5.cell? ⟨wo.heap.size, 0, none⟩ = some (.int .i64 (c.at_ : Nat)) := q5.cell 0
        have f1 : w5.cell? ⟨wo.heap.size, 1, none⟩ = some (.slice A1 c.drop.length c1) := q5.cell 1
        have f2 : w5.cell? ⟨wo.heap.size, 2, none⟩ = some (.slice A2 c.add.length c2) := q5.cell 2
        have B5 := Lib.hid (And.intro b5 (And.intro (HO.out.1.below b5 (Nat.le_refl _)) (HO.out.2.trans (b5.mono HO.out.2.size))))
        have hBr := fun W (hW : Below w.heap.size w W) => patch1_any c A1 A2 c1 c2 base W (HOC.out.2.below hW (Nat.le_refl _))
        clear hw5 b5 q5 k0 k1 k2
        go_wp2_with (at_builtin; refine app_rd _ rfl (.tmp 17) (.tmp 22) rfl w.heap.size u7 (WM.repK WM.added T D n) rfl B5.out.2.1 (Option.map (fun x => x.add a) A) (c.at_ - a) (cT - a) Z rfl HLT.out (HRT.out _ B5.out.2.2) (fun h => by have := HT.out.2.2 (Option.map_eq_none_iff.1 h); omega) ?_ ?e1 B5.out.2.2.size; intro v6 w6 hown6 hg6 hat6; have g0 := (World.cell?_of_block (a := ⟨wo.heap.size, 0, none⟩) (hg6.block wo.heap.size l5 (own_ne HO.out.1))).trans f0; have g1 := (World.cell?_of_block (a := ⟨wo.heap.size, 1, none⟩) (hg6.block wo.heap.size l5 (own_ne HO.out.1))).trans f1; have g2 := (World.cell?_of_block (a := ⟨wo.heap.size, 2, none⟩) (hg6.block wo.heap.size l5 (own_ne HO.out.1))).trans f2; have N6 := Lib.hid (app_ne hat6 (own_ne HO.out.1) l5); have H6 := Lib.hid (And.intro hown6 (And.intro (B5.out.2.2.grown hg6 B5.out.2.2.size (fun j hj => HO.out.1.base_le j hj)) (Nat.lt_of_lt_of_le l5 hg6.size))); clear hown6 hg6 hat6 f0 f1 f2)
        case e1 => have := HNL.out; omega
        refine (hBr _ H6.out.2.1).mono ?_
        rintro e w7 ⟨rfl, ho7, hb7⟩
        have h0 := (hb7.cell (p := ⟨wo.heap.size, 0, none⟩) H6.out.2.2).trans g0
        have h1 := (hb7.cell (p := ⟨wo.heap.size, 1, none⟩) H6.out.2.2).trans g1
        have H7 := Lib.hid (And.intro ho7 (And.intro (H6.out.1.below hb7 (Nat.le_refl _)) (And.intro (H6.out.2.1.trans (hb7.mono H6.out.2.1.size)) (Nat.lt_of_lt_of_le H6.out.2.2 hb7.size))))
        have hbl := HAD.out
        clear ho7 hb7 g0 g1 g2 hBr
        go_wp2_with (at_builtin; refine app_rd _ rfl (.tmp 24) (.tmp 27) rfl w.heap.size v6 (WM.repK WM.added T D n ++ Z) rfl H7.out.2.1 A2 c.add.length c2 c.add rfl rfl H7.out.1.rdo H7.out.1.cap0 ?_ ?e2 H7.out.2.2.1.size; intro v8 w8 hown8 hg8 _; have r0 := (World.cell?_of_block (a := ⟨wo.heap.size, 0, none⟩) (hg8.block wo.heap.size H7.out.2.2.2 N6.out)).trans h0; have r1 := (World.cell?_of_block (a := ⟨wo.heap.size, 1, none⟩) (hg8.block wo.heap.size H7.out.2.2.2 N6.out)).trans h1; have H8 := Lib.hid (And.intro hown8 (H7.out.2.2.1.grown hg8 H7.out.2.2.1.size (fun j hj => H6.out.1.base_le j hj))); clear hown8 hg8 h0 h1)
        case e2 => have h9 := HNX.out; rw [HX.out] at h9; simp only [List.length_append] at h9 ⊢; omega
        go_wp2_with fail
        exact ⟨⟨n + 1, by rw [HAF.out]; simp, by simp, by omega, by rw [HX.out]; exact H8.out.1, H8.out.2⟩, by simp [intOf]; omega⟩
    · obtain rfl : n = D.length := by omega
      have HRT := Lib.hid (fun W (hW : Below w.heap.size w W) => Rd.drop (Rd.below HT.out.1 hW) (WM.aft D D.length))
      have HLT := Lib.hid (show (T.drop (WM.aft D D.length)).length = T.length - WM.aft D D.length by simp)
      have HREP := Lib.hid (show WM.rep WM.added T D = WM.repK WM.added T D D.length ++ T.drop (WM.aft D D.length) from rfl)
      have hz := hbw.size
      have hct := HT.out.2.1
      generalize WM.aft D D.length = a at *
      generalize T.drop a = Z at *
      clear hown hbw
      by_cases hcj : cT = a
      · obtain rfl : a = T.length := by omega
        subst hcj
        clear hct hal
        go_wp2_with (at_builtin; refine app_rd _ rfl (.tmp 36) (.tmp 39) rfl w.heap.size u7 (WM.repK WM.added T D D.length) rfl HO.out.1 A 0 0 Z rfl (by rw [HLT.out]; omega) (RdO.none_ _ _ _ (by rw [HLT.out]; omega)) (fun h => ⟨rfl, rfl⟩) ?_ ?e1 hz; intro v9 w9 hown9 hg9 _)
        case e1 => have := HNL.out; omega
        go_wp2_with fail
        go_ret
        exact ⟨_, rfl, by rw [HREP.out]; exact hown9, HO.out.2.grown hg9 hz (fun j hj => HO.out.1.base_le j hj)⟩
      · go_wp2_with (at_builtin; refine app_rd _ rfl (.tmp 36) (.tmp 39) rfl w.heap.size u7 (WM.repK WM.added T D D.length) rfl HO.out.1 (Option.map (fun x => x.add a) A) (T.length - a) (cT - a) Z rfl HLT.out (HRT.out _ HO.out.2) (fun h => by have := HT.out.2.2 (Option.map_eq_none_iff.1 h); omega) ?_ ?e1 hz; intro v9 w9 hown9 hg9 _)
        case e1 => have := HNL.out; omega
        go_wp2_with fail
        go_ret
        exact ⟨_, rfl, by rw [HREP.out]; exact hown9, HO.out.2.grown hg9 hz (fun j hj => HO.out.1.base_le j hj)⟩
theorem replace_any (T : List ByteArray) (A : Option Addr) (cT : Nat) (D : List WM.Chg) (v : Value) (base : Nat) (w : World) (hT : Rd w A T) (hTc : T.length ≤ cT) (hA : A = none → T.length = 0 ∧ cT = 0) (hT2 : T.length ≤ 2000) (hD : OwnC w base v D) (hF : WM.Fol D T.length) (hDl : D.length ≤ 3000)
    (hJ : ∀ c, c ∈ D → c.add.length ≤ 1000000) (hN : ∀ n, n ≤ D.length → (WM.repK WM.added T D n).length ≤ 1000000000) :
    Calls Tryz.prog 23 #[.slice A T.length cT, v, .func (.func 24) #[] #[]] w (RowOwn (WM.rep WM.added T D) w) := by
  obtain ⟨AD, cD, rfl, hf⟩ := hD.rd
  exact replace_rd T A cT D AD cD base w hT hTc hA hT2 hf hF hDl hJ hN
end Go.Proofs.YtndeifdpiimbeaaGreatDoor
