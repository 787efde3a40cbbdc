/- Contracts of replace with brackets, of Marked. -/
import Derived.Test.YtniphfagpmgabaaDoorMark
namespace Go.Proofs.YtniphfagpmgabaaDoor
open Go.RowKit

theorem OwnS.cap0 {w : World} {base : Nat} {A : Option Addr} {n c : Nat} {l : List ByteArray} (h : OwnS w base (.slice A n c) l) : A = none → n = 0 ∧ c = 0 := by
  rintro rfl
  rcases h.2 with ⟨e, h2⟩ | ⟨g, cap, cur, e, hg, hh, hn, hc, hsz, ht⟩
  · injection e with _ e2 e3; exact ⟨e2, e3⟩
  · injection e with e1; cases e1
theorem OwnS.rdo {w : World} {base : Nat} {A : Option Addr} {n c : Nat} {l : List ByteArray} (h : OwnS w base (.slice A n c) l) : RdO w A l := fun h0 => by
  rcases h.2 with ⟨e, h2⟩ | ⟨g, cap, cur, e, hg, hh, hn, hc, hsz, ht⟩
  · omega
  · injection e with e1 e2 e3
    subst e1
    subst e2
    refine ⟨g, 0, rfl, h.lt g (by simp [Value.ownBlock]), fun j s hs => ?_⟩
    have hj := (List.getElem?_eq_some_iff.1 hs).1
    rw [Nat.zero_add]
    refine (World.ownsRow.cellAt h j (by omega)).trans ?_
    simp [svs, hs]
theorem OwnC.rd {w : World} {base : Nat} {v : Value} {D : List WM.Chg} (h : OwnC w base v D) : ∃ (AD : Option Addr) (cap : Nat), v = .slice AD D.length cap ∧ (0 < D.length → ∃ g, AD = some ⟨g, 0, none⟩ ∧ g < w.heap.size ∧ ∀ W, Below w.heap.size w W → ∀ (n : Nat) (c : WM.Chg), D[n]? = some c → ∃ A1 c1 A2 c2, W.cell? ⟨g, n * 3, none⟩ = some (.int .i64 c.at_) ∧ W.cell? ⟨g, n * 3 + 1, none⟩ = some (.slice A1 c.drop.length c1) ∧ W.cell? ⟨g, n * 3 + 2, none⟩ = some (.slice A2 c.add.length c2) ∧ OwnS W base (.slice A1 c.drop.length c1) c.drop ∧ OwnS W base (.slice A2 c.add.length c2) c.add) := by
  obtain ⟨A, cap, rfl, _, hf⟩ := h.form
  refine ⟨A, cap, rfl, fun h0 => ?_⟩
  obtain ⟨g, rfl, _, hg, _⟩ := hf h0
  refine ⟨g, rfl, hg, fun W hW n c hc => ?_⟩
  obtain ⟨A', cap', e, _, hf'⟩ := (h.below hW).form
  obtain ⟨g', e', _, _, hc'⟩ := hf' h0
  obtain ⟨vd, va, k0, k1, k2, o1, o2⟩ := hc' n c hc
  have hgg : g = g' := by
    injection e with e1
    rw [e'] at e1
    injection e1 with e1
    injection e1
  subst hgg
  obtain ⟨A1, c1, rfl, _⟩ := o1.rd
  obtain ⟨A2, c2, rfl, _⟩ := o2.rd
  exact ⟨A1, c1, A2, c2, k0, k1, k2, o1, o2⟩
theorem app_ne {v v' : Value} {k m : Nat} (h : v'.ownBlock = v.ownBlock ∨ v'.ownBlock = some m) (hn : some k ≠ v.ownBlock) (hk : k < m) : some k ≠ v'.ownBlock := fun e => by
  rcases h with h | h
  · exact hn (e.trans h)
  · rw [h] at e; injection e with e; omega
theorem own_ne {w : World} {b : Nat} {v : Value} {l : List ByteArray} (h : OwnS w b v l) : some w.heap.size ≠ v.ownBlock := fun e => by
  have := h.lt _ e.symm
  omega
def ReRel (w : World) (f : WM.Chg → List ByteArray) (T : List ByteArray) (D : List WM.Chg) (l a i : Value) (wr : World) : Prop := ∃ n : Nat, a = .int .i64 (WM.aft D n : Nat) ∧ i = .int .i64 n ∧ n ≤ D.length ∧ OwnS wr w.heap.size l (WM.repK f T D n) ∧ Below w.heap.size w wr
theorem aft_le {D : List WM.Chg} {e n : Nat} (h : WM.Fol D e) (hn : n ≤ D.length) : WM.aft D n ≤ e := WM.fol_le h (D.length - n) n (by omega)
set_option maxHeartbeats 8000000 in
set_option maxRecDepth 100000 in
theorem replace_any (T : List ByteArray) (A : Option Addr) (cT : Nat) (D : List WM.Chg) (v : Value) (base : Nat) (w : World) (hT : Rd w A T) (hTc : T.length ≤ cT) (hA : A = none → T.length = 0 ∧ cT = 0) (hT2 : T.length ≤ 2000) (hD : OwnC w base v D) (hF : WM.Fol D T.length) (hDl : D.length ≤ 3000)
    (hJ : ∀ c, c ∈ D → (WM.joinT c.drop).length ≤ 1000000 ∧ (WM.joinT c.add).length ≤ 1000000) (hN : ∀ n, n ≤ D.length → (WM.repK bra T D n).length ≤ 1000000000) :
    Calls Tryd.prog 22 #[.slice A T.length cT, v, .func (.func 24) #[] #[]] w (RowOwn (WM.rep bra T D) w) := by
  obtain ⟨AD, cD, rfl, hf⟩ := hD.rd
  have HF := Lib.hid (And.intro hF (And.intro hJ (And.intro hN hf)))
  have HT := Lib.hid (And.intro hT (And.intro hTc hA))
  have eg := enters_of Tryd.func24 (by kernel_rfl) rfl
  clear hF hJ hN hf hT hTc hA hD
  go_enter Tryd.func22, Tryd.ntmps22
  go_wp2_with fail
  go_loopw [7, 8, 13] (fun l a i wr => ReRel w bra T D l a i wr) (fun _ _ i _ => D.length - (intOf i).toNat)
  case atStart => exact ⟨0, rfl, rfl, Nat.zero_le _, OwnS.nil _ _, Below.refl _ _⟩
  case round =>
    obtain ⟨n, rfl, rfl, hn, hown, hbw⟩ := hrel
    obtain ⟨wo, rfl⟩ : ∃ wo : World, wo = wr := ⟨_, rfl⟩
    have hal := aft_le HF.out.1 hn
    have HO := Lib.hid (And.intro hown hbw)
    have HNL := Lib.hid (HF.out.2.2.1 n hn)
    by_cases hlt : n < D.length
    · obtain ⟨g, rfl, hg, hgc⟩ := HF.out.2.2.2 (by omega)
      have hx := List.getElem?_eq_getElem hlt
      generalize D[n] = c at hx
      obtain ⟨A1, c1, A2, c2, k0', k1', k2', o1, o2⟩ := hgc w (Below.refl _ _) n c hx
      have k0 := (hbw.cell (p := ⟨g, n * 3, none⟩) hg).trans k0'
      have k1 := (hbw.cell (p := ⟨g, n * 3 + 1, none⟩) hg).trans k1'
      have k2 := (hbw.cell (p := ⟨g, n * 3 + 2, none⟩) hg).trans k2'
      obtain ⟨hat, hend⟩ := WM.fol_at HF.out.1 hx
      have HX := Lib.hid (WM.rep_step bra T hx)
      have HAF := Lib.hid (WM.aft_step hx)
      have HJ := Lib.hid (HF.out.2.1 c (List.mem_of_getElem? hx))
      have HOC := Lib.hid (And.intro o1 o2)
      have hdl := o1.len_le
      have hal2 := o2.len_le
      have HNX := Lib.hid (HF.out.2.2.1 (n + 1) hlt)
      generalize WM.aft D n = a at *
      have HRT := Lib.hid (fun W (hW : Below w.heap.size w W) => (Rd.drop (Rd.below HT.out.1 hW) a).take (c.at_ - a))
      have HLT := Lib.hid (show ((T.drop a).take (c.at_ - a)).length = c.at_ - a by simp; omega)
      generalize (T.drop a).take (c.at_ - a) = Z at *
      have hct := HT.out.2.1
      clear hx hown hbw hgc o1 o2 k0' k1' k2'
      by_cases hcj : cT = a
      · obtain rfl : a = c.at_ := by omega
        subst hcj
        go_upto_region 6 with fail
        obtain ⟨w5, hw5⟩ : ∃ w5, wo.alloc (.cells #[.int .i64 (c.at_ : Nat), .slice A1 c.drop.length c1, .slice A2 c.add.length c2] 54) = w5 := ⟨_, rfl⟩
        rw [hw5]
        have b5 : Below wo.heap.size wo w5 := by rw [← hw5]; exact (Below.refl _ _).alloc (Nat.le_refl _) _
        have q5 : Blk w5 wo.heap.size 54 #[.int .i64 (c.at_ : Nat), .slice A1 c.drop.length c1, .slice A2 c.add.length c2] := by rw [← hw5]; exact Blk.new wo _ _
        have l5 := q5.lt
        have f0 : w5.cell? ⟨wo.heap.size, 0, none⟩ = some (.int .i64 (c.at_ : Nat)) := q5.cell 0
        have f1 : w5.cell? ⟨wo.heap.size, 1, none⟩ = some (.slice A1 c.drop.length c1) := q5.cell 1
        have f2 : w5.cell? ⟨wo.heap.size, 2, none⟩ = some (.slice A2 c.add.length c2) := q5.cell 2
        have B5 := Lib.hid (And.intro b5 (And.intro (HO.out.1.below b5 (Nat.le_refl _)) (HO.out.2.trans (b5.mono HO.out.2.size))))
        have hBr := fun W (hW : Below w.heap.size w W) => brackets_any c _ _ base W (HOC.out.1.below hW (Nat.le_refl _)) (HOC.out.2.below hW (Nat.le_refl _)) HJ.out.1 HJ.out.2
        clear hw5 b5 q5 k0 k1 k2
        go_wp2_with (at_builtin; refine app_rd _ rfl (.tmp 17) (.tmp 22) rfl w.heap.size u7 (WM.repK bra T D n) rfl B5.out.2.1 A 0 0 Z rfl (by rw [HLT.out]; omega) (RdO.none_ _ _ _ (by rw [HLT.out]; omega)) (fun h => ⟨rfl, rfl⟩) ?_ ?e1 B5.out.2.2.size; intro v6 w6 hown6 hg6 hat6; have g0 := (World.cell?_of_block (a := ⟨wo.heap.size, 0, none⟩) (hg6.block wo.heap.size l5 (own_ne HO.out.1))).trans f0; have g1 := (World.cell?_of_block (a := ⟨wo.heap.size, 1, none⟩) (hg6.block wo.heap.size l5 (own_ne HO.out.1))).trans f1; have g2 := (World.cell?_of_block (a := ⟨wo.heap.size, 2, none⟩) (hg6.block wo.heap.size l5 (own_ne HO.out.1))).trans f2; have N6 := Lib.hid (app_ne hat6 (own_ne HO.out.1) l5); have H6 := Lib.hid (And.intro hown6 (And.intro (B5.out.2.2.grown hg6 B5.out.2.2.size (fun j hj => HO.out.1.base_le j hj)) (Nat.lt_of_lt_of_le l5 hg6.size))); clear hown6 hg6 hat6 f0 f1 f2)
        case e1 => have := HNL.out; omega
        refine (hBr _ H6.out.2.1).mono ?_
        rintro e w7 ⟨v7, rfl, ho7, hb7⟩
        have h0 := (hb7.cell (p := ⟨wo.heap.size, 0, none⟩) H6.out.2.2).trans g0
        have h1 := (hb7.cell (p := ⟨wo.heap.size, 1, none⟩) H6.out.2.2).trans g1
        obtain ⟨A7, c7, rfl, _⟩ := ho7.rd
        have H7 := Lib.hid (And.intro ho7 (And.intro (H6.out.1.below hb7 (Nat.le_refl _)) (And.intro (H6.out.2.1.trans (hb7.mono H6.out.2.1.size)) (Nat.lt_of_lt_of_le H6.out.2.2 hb7.size))))
        have hbl := bra_len c
        clear ho7 hb7 g0 g1 g2 hBr
        go_wp2_with (at_builtin; refine app_rd _ rfl (.tmp 24) (.tmp 27) rfl w.heap.size v6 (WM.repK bra T D n ++ Z) rfl H7.out.2.1 A7 (bra c).length c7 (bra c) rfl rfl H7.out.1.rdo H7.out.1.cap0 ?_ ?e2 H7.out.2.2.1.size; intro v8 w8 hown8 hg8 _; have r0 := (World.cell?_of_block (a := ⟨wo.heap.size, 0, none⟩) (hg8.block wo.heap.size H7.out.2.2.2 N6.out)).trans h0; have r1 := (World.cell?_of_block (a := ⟨wo.heap.size, 1, none⟩) (hg8.block wo.heap.size H7.out.2.2.2 N6.out)).trans h1; have H8 := Lib.hid (And.intro hown8 (H7.out.2.2.1.grown hg8 H7.out.2.2.1.size (fun j hj => H6.out.1.base_le j hj))); clear hown8 hg8 h0 h1)
        case e2 => have h9 := HNX.out; rw [HX.out] at h9; simp only [List.length_append] at h9 ⊢; omega
        go_wp2_with fail
        exact ⟨⟨n + 1, by rw [HAF.out]; simp, by simp, by omega, by rw [HX.out]; exact H8.out.1, H8.out.2⟩, by simp [intOf]; omega⟩
      · go_upto_region 6 with fail
        obtain ⟨w5, hw5⟩ : ∃ w5, wo.alloc (.cells #[.int .i64 (c.at_ : Nat), .slice A1 c.drop.length c1, .slice A2 c.add.length c2] 54) = w5 := ⟨_, rfl⟩
        rw [hw5]
        have b5 : Below wo.heap.size wo w5 := by rw [← hw5]; exact (Below.refl _ _).alloc (Nat.le_refl _) _
        have q5 : Blk w5 wo.heap.size 54 #[.int .i64 (c.at_ : Nat), .slice A1 c.drop.length c1, .slice A2 c.add.length c2] := by rw [← hw5]; exact Blk.new wo _ _
        have l5 := q5.lt
        have f0 : w5.cell? ⟨wo.heap.size, 0, none⟩ = some (.int .i64 (c.at_ : Nat)) := q5.cell 0
        have f1 : w5.cell? ⟨wo.heap.size, 1, none⟩ = some (.slice A1 c.drop.length c1) := q5.cell 1
        have f2 : w5.cell? ⟨wo.heap.size, 2, none⟩ = some (.slice A2 c.add.length c2) := q5.cell 2
        have B5 := Lib.hid (And.intro b5 (And.intro (HO.out.1.below b5 (Nat.le_refl _)) (HO.out.2.trans (b5.mono HO.out.2.size))))
        have hBr := fun W (hW : Below w.heap.size w W) => brackets_any c _ _ base W (HOC.out.1.below hW (Nat.le_refl _)) (HOC.out.2.below hW (Nat.le_refl _)) HJ.out.1 HJ.out.2
        clear hw5 b5 q5 k0 k1 k2
        go_wp2_with (at_builtin; refine app_rd _ rfl (.tmp 17) (.tmp 22) rfl w.heap.size u7 (WM.repK bra T D n) rfl B5.out.2.1 (Option.map (fun x => x.add a) A) (c.at_ - a) (cT - a) Z rfl HLT.out (HRT.out _ B5.out.2.2) (fun h => by have := HT.out.2.2 (Option.map_eq_none_iff.1 h); omega) ?_ ?e1 B5.out.2.2.size; intro v6 w6 hown6 hg6 hat6; have g0 := (World.cell?_of_block (a := ⟨wo.heap.size, 0, none⟩) (hg6.block wo.heap.size l5 (own_ne HO.out.1))).trans f0; have g1 := (World.cell?_of_block (a := ⟨wo.heap.size, 1, none⟩) (hg6.block wo.heap.size l5 (own_ne HO.out.1))).trans f1; have g2 := (World.cell?_of_block (a := ⟨wo.heap.size, 2, none⟩) (hg6.block wo.heap.size l5 (own_ne HO.out.1))).trans f2; have N6 := Lib.hid (app_ne hat6 (own_ne HO.out.1) l5); have H6 := Lib.hid (And.intro hown6 (And.intro (B5.out.2.2.grown hg6 B5.out.2.2.size (fun j hj => HO.out.1.base_le j hj)) (Nat.lt_of_lt_of_le l5 hg6.size))); clear hown6 hg6 hat6 f0 f1 f2)
        case e1 => have := HNL.out; omega
        refine (hBr _ H6.out.2.1).mono ?_
        rintro e w7 ⟨v7, rfl, ho7, hb7⟩
        have h0 := (hb7.cell (p := ⟨wo.heap.size, 0, none⟩) H6.out.2.2).trans g0
        have h1 := (hb7.cell (p := ⟨wo.heap.size, 1, none⟩) H6.out.2.2).trans g1
        obtain ⟨A7, c7, rfl, _⟩ := ho7.rd
        have H7 := Lib.hid (And.intro ho7 (And.intro (H6.out.1.below hb7 (Nat.le_refl _)) (And.intro (H6.out.2.1.trans (hb7.mono H6.out.2.1.size)) (Nat.lt_of_lt_of_le H6.out.2.2 hb7.size))))
        have hbl := bra_len c
        clear ho7 hb7 g0 g1 g2 hBr
        go_wp2_with (at_builtin; refine app_rd _ rfl (.tmp 24) (.tmp 27) rfl w.heap.size v6 (WM.repK bra T D n ++ Z) rfl H7.out.2.1 A7 (bra c).length c7 (bra c) rfl rfl H7.out.1.rdo H7.out.1.cap0 ?_ ?e2 H7.out.2.2.1.size; intro v8 w8 hown8 hg8 _; have r0 := (World.cell?_of_block (a := ⟨wo.heap.size, 0, none⟩) (hg8.block wo.heap.size H7.out.2.2.2 N6.out)).trans h0; have r1 := (World.cell?_of_block (a := ⟨wo.heap.size, 1, none⟩) (hg8.block wo.heap.size H7.out.2.2.2 N6.out)).trans h1; have H8 := Lib.hid (And.intro hown8 (H7.out.2.2.1.grown hg8 H7.out.2.2.1.size (fun j hj => H6.out.1.base_le j hj))); clear hown8 hg8 h0 h1)
        case e2 => have h9 := HNX.out; rw [HX.out] at h9; simp only [List.length_append] at h9 ⊢; omega
        go_wp2_with fail
        exact ⟨⟨n + 1, by rw [HAF.out]; simp, by simp, by omega, by rw [HX.out]; exact H8.out.1, H8.out.2⟩, by simp [intOf]; omega⟩
    · obtain rfl : n = D.length := by omega
      have HRT := Lib.hid (fun W (hW : Below w.heap.size w W) => Rd.drop (Rd.below HT.out.1 hW) (WM.aft D D.length))
      have HLT := Lib.hid (show (T.drop (WM.aft D D.length)).length = T.length - WM.aft D D.length by simp)
      have HREP := Lib.hid (show WM.rep bra T D = WM.repK bra T D D.length ++ T.drop (WM.aft D D.length) from rfl)
      have hz := hbw.size
      have hct := HT.out.2.1
      generalize WM.aft D D.length = a at *
      generalize T.drop a = Z at *
      clear hown hbw
      by_cases hcj : cT = a
      · obtain rfl : a = T.length := by omega
        subst hcj
        clear hct hal
        go_wp2_with (at_builtin; refine app_rd _ rfl (.tmp 36) (.tmp 39) rfl w.heap.size u7 (WM.repK bra T D D.length) rfl HO.out.1 A 0 0 Z rfl (by rw [HLT.out]; omega) (RdO.none_ _ _ _ (by rw [HLT.out]; omega)) (fun h => ⟨rfl, rfl⟩) ?_ ?e1 hz; intro v9 w9 hown9 hg9 _)
        case e1 => have := HNL.out; omega
        go_wp2_with fail
        go_ret
        exact ⟨_, rfl, by rw [HREP.out]; exact hown9, HO.out.2.grown hg9 hz (fun j hj => HO.out.1.base_le j hj)⟩
      · go_wp2_with (at_builtin; refine app_rd _ rfl (.tmp 36) (.tmp 39) rfl w.heap.size u7 (WM.repK bra T D D.length) rfl HO.out.1 (Option.map (fun x => x.add a) A) (T.length - a) (cT - a) Z rfl HLT.out (HRT.out _ HO.out.2) (fun h => by have := HT.out.2.2 (Option.map_eq_none_iff.1 h); omega) ?_ ?e1 hz; intro v9 w9 hown9 hg9 _)
        case e1 => have := HNL.out; omega
        go_wp2_with fail
        go_ret
        exact ⟨_, rfl, by rw [HREP.out]; exact hown9, HO.out.2.grown hg9 hz (fun j hj => HO.out.1.base_le j hj)⟩
end Go.Proofs.YtniphfagpmgabaaDoor
