/- Contract of the reference's EstimateOf. -/
import Derived.Test.YtplocijdbadcjaaGreatDoorEst
import Derived.Test.YtplocijdbadcjaaGreatDoorRefPart
namespace Go.Proofs.YtplocijdbadcjaaGreatDoor
open Go.RowKit

set_option maxHeartbeats 8000000 in
theorem EstimateOf_any {w : World} {b1 b2 : Nat} {v1 v2 : Value} {X Y : List Int} (h1 : OwnZ w b1 v1 X) (h2 : OwnZ w b2 v2 Y) (hx : X.length ≤ 1000) (hy : Y.length ≤ 1000) (z : Int) :
    Calls Tryz.prog 12 #[v1, v2, .int .i64 z] w (EstSays (WM.est z X Y) w) := by
  obtain ⟨A1, c1, rfl, -⟩ := h1.formC
  obtain ⟨A2, c2, rfl, -⟩ := h2.formC
  obtain ⟨P, hP⟩ : ∃ P, WM.est z X Y = P := ⟨_, rfl⟩
  rw [hP]
  unfold WM.est at hP
  have HP := Lib.hid hP
  clear hP
  have hz0 : z < 1 ∨ (¬ z < 1 ∧ 200 < z) ∨ (1 ≤ z ∧ z ≤ 200) := by omega
  rcases hz0 with hz | ⟨hz, hz2⟩ | hz'
  · have hp : P = ((0, 0), 1) := by rw [← HP.out, if_pos (by omega)]
    subst hp
    clear h1 h2 hx hy HP
    go_enter Tryz.func12, Tryz.ntmps12
    go_wp2_with fail
    refine bodyPost_ret (v := .tuple #[.agg #[.int .i64 0, .int .i64 0], .int .i64 1]) (by simp [results, Tryz.results12, go_sem]) rfl ⟨rfl, ?_⟩
    exact (Below.refl _ _).alloc (Nat.le_refl _) _
  · have hp : P = ((0, 0), 1) := by rw [← HP.out, if_pos (by omega)]
    subst hp
    clear h1 h2 hx hy HP
    go_enter Tryz.func12, Tryz.ntmps12
    go_wp2_with fail
    refine bodyPost_ret (v := .tuple #[.agg #[.int .i64 0, .int .i64 0], .int .i64 1]) (by simp [results, Tryz.results12, go_sem]) rfl ⟨rfl, ?_⟩
    exact (Below.refl _ _).alloc (Nat.le_refl _) _
  · skip
    have HP2 : Hid ((if WM.skF z X ≠ 0 then ((0, 0), WM.skF z X) else if WM.skF z Y ≠ 0 then ((0, 0), WM.skF z Y) else (WM.frac (WM.cnt2 (WM.least (X ++ Y) z.toNat) X Y) (WM.least (X ++ Y) z.toNat).length, 0)) = P) := by
      have := HP.out
      rw [if_neg (by simpa using hz')] at this
      exact this
    clear HP
    obtain ⟨n, rfl⟩ := Int.eq_ofNat_of_zero_le (show 0 ≤ z by omega)
    have hn : n ≤ 200 := by omega
    rw [Int.toNat_natCast] at HP2
    have hn1 : ¬ ((n : Int) < 1) := by omega
    have hn2 : ¬ (200 < (n : Int)) := by omega
    clear hz'
    obtain ⟨W, hW⟩ : ∃ W, (w.alloc (.cells #[.int .i64 0, .int .i64 0] 35)).alloc (.cells #[.slice A1 X.length c1, .slice A2 Y.length c2] 22) = W := ⟨_, rfl⟩
    have hX : OwnZ W b1 (.slice A1 X.length c1) X := by rw [← hW]; exact (h1.alloc _).alloc _
    have hY : OwnZ W b2 (.slice A2 Y.length c2) Y := by rw [← hW]; exact (h2.alloc _).alloc _
    have hblk : Blk W w.heap.size 35 #[.int .i64 0, .int .i64 0] := by rw [← hW]; exact (Blk.new w _ _).alloc _
    have hbk2 : Blk W (w.heap.size + 1) 22 #[.slice A1 X.length c1, .slice A2 Y.length c2] := by
      rw [← hW]
      have := Blk.new (w.alloc (.cells #[.int .i64 0, .int .i64 0] 35)) 22 #[.slice A1 X.length c1, .slice A2 Y.length c2]
      simpa using this
    have hB : Below w.heap.size w W := by rw [← hW]; exact ((Below.refl _ _).alloc (Nat.le_refl _) _).alloc (by simp) _
    have d0 := hblk.cell 0
    have d1 := hblk.cell 1
    have f0 := hblk.frozen 0
    have f1 := hblk.frozen 1
    have g0 := hbk2.cell 0
    have g1 := hbk2.cell 1
    simp at d0 d1 g0 g1
    have HO := Lib.hid (And.intro hX (And.intro hY (And.intro hB hblk)))
    have HM := Lib.hid (And.intro hx hy)
    obtain ⟨_, _, hv1, -, -, hf1⟩ := hX.formC
    obtain ⟨_, _, hv2, -, -, hf2⟩ := hY.formC
    cases hv1
    cases hv2
    have HL1 := Lib.hid hf1
    have HL2 := Lib.hid hf2
    clear h1 h2 hx hy hX hY hblk hbk2 hB hf1 hf2
    go_enter Tryz.func12, Tryz.ntmps12
    go_wp2_with fail
    clear hW
    go_loop [27] (fun i => E1Rel (n : Nat) X Y i) (fun i => 2 - (intOf i).toNat)
    case atStart => exact ⟨0, by omega, rfl, by omega, by omega⟩
    case round =>
      obtain ⟨k, hk, rfl, e1, e2⟩ := hrel
      rcases (show k = 0 ∨ k = 1 ∨ k = 2 by omega) with rfl | rfl | rfl
      · have HPk : Hid (∀ c, c ≠ 0 → WM.skF (n : Nat) X = c → P = ((0, 0), c)) := fun c h0 hc => by
          rw [← HP2.out]
          skip
          rw [if_pos (by rw [hc]; exact h0), hc]
        have hLe : X.length ≤ 1000 := HM.out.1
        by_cases hbig : (n : Int) < X.length
        · have hp := HPk.out 2 (by omega) (by unfold WM.skF; rw [if_pos hbig])
          clear HPk HP2
          subst hp
          go_wp2_with fail
          refine bodyPost_ret (v := .tuple #[.agg #[.int .i64 0, .int .i64 0], .int .i64 2]) (by simp [results, Tryz.results12, go_sem, d0, d1]) rfl ⟨rfl, ?_⟩
          exact (HO.out.2.2.1.setCell (p := ⟨w.heap.size, 0, none⟩) (Nat.le_refl _) _).setCell (p := ⟨w.heap.size, 1, none⟩) (Nat.le_refl _) _
        · have hsk : WM.skF (n : Nat) X = WM.skf none X := by unfold WM.skF; rw [if_neg hbig]
          rw [hsk] at HPk
          have HSK := Lib.hid hsk
          clear hsk
          go_wp2_with fail
          go_loop [38] (fun i => CkRel X i) (fun i => X.length - (intOf i).toNat)
          case atStart => exact ⟨0, rfl, by omega, by show _ = _; simp [prevZ]⟩
          case round =>
            obtain ⟨j, rfl, hj, HS⟩ := hrel
            by_cases hlt : j < X.length
            · obtain ⟨g, rfl, _, _, hc⟩ := HL1.out (by omega)
              have hx := List.getElem?_eq_getElem hlt
              have hd := List.drop_eq_getElem_cons hlt
              generalize X[j] = x at hx hd
              have cx : W.cell? ⟨g, j, none⟩ = some (.int .i64 x) := hc j x hx
              have HE : Hid (WM.skf (prevZ X j) (x :: X.drop (j + 1)) = WM.skf none X) := by show _ = _; rw [← hd]; exact HS.out
              have HPV : Hid (prevZ X (j + 1) = some x) := by show _ = _; unfold prevZ; rw [if_neg (by omega)]; exact hx
              clear HS hd hx
              by_cases hneg : x < 0
              · have hp := HPk.out 1 (by omega) (by rw [← HE.out]; exact WM.skf_neg hneg)
                clear hc HPk HP2 HE HPV HSK
                subst hp
                go_wp2_with fail
                refine bodyPost_ret (v := .tuple #[.agg #[.int .i64 0, .int .i64 0], .int .i64 1]) (by simp [results, Tryz.results12, go_sem, d0, d1]) rfl ⟨rfl, ?_⟩
                exact (HO.out.2.2.1.setCell (p := ⟨w.heap.size, 0, none⟩) (Nat.le_refl _) _).setCell (p := ⟨w.heap.size, 1, none⟩) (Nat.le_refl _) _
              · by_cases h0 : j = 0
                · subst h0
                  have HV : Hid (WM.skf (some x) (X.drop (0 + 1)) = WM.skf none X) := by
                    have := HE.out
                    rw [show prevZ X 0 = none from rfl, WM.skf_first hneg] at this
                    exact this
                  clear hc
                  go_wp2_with fail
                  exact ⟨⟨1, rfl, by omega, by show _ = _; rw [show prevZ X 1 = some x from HPV.out]; exact HV.out⟩, by simp [intOf]; omega⟩
                · have hq := List.getElem?_eq_getElem (show j - 1 < X.length by omega)
                  generalize X[j - 1] = q at hq
                  have cq : W.cell? ⟨g, j - 1, none⟩ = some (.int .i64 q) := hc _ q hq
                  have hp0 : prevZ X j = some q := by unfold prevZ; rw [if_neg h0]; exact hq
                  rw [hp0] at HE
                  have e3 : ((j : Int) - 1).toNat = j - 1 := by omega
                  clear hc hp0 hq
                  by_cases hle : x ≤ q
                  · have hp := HPk.out 7 (by omega) (by rw [← HE.out]; exact WM.skf_ord hneg hle)
                    clear HPk HP2 HE HPV HSK
                    subst hp
                    go_wp2_with fail
                    refine bodyPost_ret (v := .tuple #[.agg #[.int .i64 0, .int .i64 0], .int .i64 7]) (by simp [results, Tryz.results12, go_sem, d0, d1]) rfl ⟨rfl, ?_⟩
                    exact (HO.out.2.2.1.setCell (p := ⟨w.heap.size, 0, none⟩) (Nat.le_refl _) _).setCell (p := ⟨w.heap.size, 1, none⟩) (Nat.le_refl _) _
                  · have HV := Lib.hid (WM.skf_on (l := X.drop (j + 1)) hneg hle)
                    go_wp2_with fail
                    exact ⟨⟨j + 1, rfl, by omega, by show _ = _; rw [HPV.out, ← HV.out]; exact HE.out⟩, by simp [intOf]; omega⟩
            · obtain rfl : j = X.length := by omega
              have HV : Hid (WM.skF (n : Nat) X = 0) := by have := HS.out; show _ = _; rw [HSK.out, ← this]; simp [WM.skf]
              clear HS HPk
              go_wp2_with fail
              exact ⟨⟨1, by omega, rfl, fun _ => HV.out, by omega⟩, by simp [intOf]⟩
      · have HPk : Hid (∀ c, c ≠ 0 → WM.skF (n : Nat) Y = c → P = ((0, 0), c)) := fun c h0 hc => by
          rw [← HP2.out]
          rw [if_neg (by simpa using e1 (by omega))]
          rw [if_pos (by rw [hc]; exact h0), hc]
        have hLe : Y.length ≤ 1000 := HM.out.2
        by_cases hbig : (n : Int) < Y.length
        · have hp := HPk.out 2 (by omega) (by unfold WM.skF; rw [if_pos hbig])
          clear HPk HP2
          subst hp
          go_wp2_with fail
          refine bodyPost_ret (v := .tuple #[.agg #[.int .i64 0, .int .i64 0], .int .i64 2]) (by simp [results, Tryz.results12, go_sem, d0, d1]) rfl ⟨rfl, ?_⟩
          exact (HO.out.2.2.1.setCell (p := ⟨w.heap.size, 0, none⟩) (Nat.le_refl _) _).setCell (p := ⟨w.heap.size, 1, none⟩) (Nat.le_refl _) _
        · have hsk : WM.skF (n : Nat) Y = WM.skf none Y := by unfold WM.skF; rw [if_neg hbig]
          rw [hsk] at HPk
          have HSK := Lib.hid hsk
          clear hsk
          go_wp2_with fail
          go_loop [38] (fun i => CkRel Y i) (fun i => Y.length - (intOf i).toNat)
          case atStart => exact ⟨0, rfl, by omega, by show _ = _; simp [prevZ]⟩
          case round =>
            obtain ⟨j, rfl, hj, HS⟩ := hrel
            by_cases hlt : j < Y.length
            · obtain ⟨g, rfl, _, _, hc⟩ := HL2.out (by omega)
              have hx := List.getElem?_eq_getElem hlt
              have hd := List.drop_eq_getElem_cons hlt
              generalize Y[j] = x at hx hd
              have cx : W.cell? ⟨g, j, none⟩ = some (.int .i64 x) := hc j x hx
              have HE : Hid (WM.skf (prevZ Y j) (x :: Y.drop (j + 1)) = WM.skf none Y) := by show _ = _; rw [← hd]; exact HS.out
              have HPV : Hid (prevZ Y (j + 1) = some x) := by show _ = _; unfold prevZ; rw [if_neg (by omega)]; exact hx
              clear HS hd hx
              by_cases hneg : x < 0
              · have hp := HPk.out 1 (by omega) (by rw [← HE.out]; exact WM.skf_neg hneg)
                clear hc HPk HP2 HE HPV HSK
                subst hp
                go_wp2_with fail
                refine bodyPost_ret (v := .tuple #[.agg #[.int .i64 0, .int .i64 0], .int .i64 1]) (by simp [results, Tryz.results12, go_sem, d0, d1]) rfl ⟨rfl, ?_⟩
                exact (HO.out.2.2.1.setCell (p := ⟨w.heap.size, 0, none⟩) (Nat.le_refl _) _).setCell (p := ⟨w.heap.size, 1, none⟩) (Nat.le_refl _) _
              · by_cases h0 : j = 0
                · subst h0
                  have HV : Hid (WM.skf (some x) (Y.drop (0 + 1)) = WM.skf none Y) := by
                    have := HE.out
                    rw [show prevZ Y 0 = none from rfl, WM.skf_first hneg] at this
                    exact this
                  clear hc
                  go_wp2_with fail
                  exact ⟨⟨1, rfl, by omega, by show _ = _; rw [show prevZ Y 1 = some x from HPV.out]; exact HV.out⟩, by simp [intOf]; omega⟩
                · have hq := List.getElem?_eq_getElem (show j - 1 < Y.length by omega)
                  generalize Y[j - 1] = q at hq
                  have cq : W.cell? ⟨g, j - 1, none⟩ = some (.int .i64 q) := hc _ q hq
                  have hp0 : prevZ Y j = some q := by unfold prevZ; rw [if_neg h0]; exact hq
                  rw [hp0] at HE
                  have e3 : ((j : Int) - 1).toNat = j - 1 := by omega
                  clear hc hp0 hq
                  by_cases hle : x ≤ q
                  · have hp := HPk.out 7 (by omega) (by rw [← HE.out]; exact WM.skf_ord hneg hle)
                    clear HPk HP2 HE HPV HSK
                    subst hp
                    go_wp2_with fail
                    refine bodyPost_ret (v := .tuple #[.agg #[.int .i64 0, .int .i64 0], .int .i64 7]) (by simp [results, Tryz.results12, go_sem, d0, d1]) rfl ⟨rfl, ?_⟩
                    exact (HO.out.2.2.1.setCell (p := ⟨w.heap.size, 0, none⟩) (Nat.le_refl _) _).setCell (p := ⟨w.heap.size, 1, none⟩) (Nat.le_refl _) _
                  · have HV := Lib.hid (WM.skf_on (l := Y.drop (j + 1)) hneg hle)
                    go_wp2_with fail
                    exact ⟨⟨j + 1, rfl, by omega, by show _ = _; rw [HPV.out, ← HV.out]; exact HE.out⟩, by simp [intOf]; omega⟩
            · obtain rfl : j = Y.length := by omega
              have HV : Hid (WM.skF (n : Nat) Y = 0) := by have := HS.out; show _ = _; rw [HSK.out, ← this]; simp [WM.skf]
              clear HS HPk
              go_wp2_with fail
              exact ⟨⟨2, by omega, rfl, fun _ => e1 (by omega), fun _ => HV.out⟩, by simp [intOf]⟩
      · have hs := e1 (by omega)
        have ht := e2 (by omega)
        have HP3 : Hid (P = (WM.frac (WM.cnt2 (WM.least (X ++ Y) n) X Y) (WM.least (X ++ Y) n).length, 0)) := by show _ = _; rw [← HP2.out, if_neg (by simpa using hs), if_neg (by simpa using ht)]
        clear HP2
        have HA := Lib.hid (And.intro (WM.skF_asc hs) (WM.skF_asc ht))
        clear HL1 HL2 hs ht e1 e2 d0 d1 f0 f1 g0 g1
        have hCC := ConcatZ_any (X := X) (Y := Y) (b := W.heap.size) (W.alloc (.cells #[.slice A1 X.length c1, .slice A2 Y.length c2] 22)) (HO.out.1.alloc _) (HO.out.2.1.alloc _)
          ((cell_of_row _ _ 0 _ _ _ (heap_alloc_new W _)).trans rfl) ((cell_of_row _ _ 1 _ _ _ (heap_alloc_new W _)).trans rfl) (by simp) (by have := HM.out; omega)
        go_wp2_with fail
        refine hCC.mono ?_
        rintro e w4 ⟨v4, rfl, ho4, hb4⟩
        clear hCC
        have hs4 := hb4.size
        simp at hs4
        have hc4 : Below w.heap.size w w4 := (HO.out.2.2.1.alloc HO.out.2.2.1.size _).trans (hb4.mono (by have := HO.out.2.2.1.size; simp; omega))
        have hblk4 : Blk w4 w.heap.size 35 #[.int .i64 0, .int .i64 0] := (HO.out.2.2.2.alloc _).below hb4 (by have := HO.out.2.2.2.lt; simp; omega)
        have hX4 : OwnZ w4 b1 (.slice A1 X.length c1) X := (HO.out.1.alloc _).below hb4 (Nat.le_refl _)
        have hY4 : OwnZ w4 b2 (.slice A2 Y.length c2) Y := (HO.out.2.1.alloc _).below hb4 (Nat.le_refl _)
        have hX4l := hX4.lt
        have hY4l := hY4.lt
        have HZL : Hid ((X ++ Y).length = X.length + Y.length) := List.length_append
        generalize X ++ Y = Z at *
        have hSo := SortZ_any ho4 (by have := HM.out; have := HZL.out; omega)
        obtain ⟨A4, c4, rfl, -⟩ := ho4.formC
        have hb4b := ho4.base_le
        have H4 := Lib.hid (And.intro (And.intro hc4 hblk4) (And.intro hX4 hY4))
        have HLt := Lib.hid (And.intro (HO.out.1.lt) (And.intro HO.out.2.1.lt HO.out.2.2.2.lt))
        simp only [World.size_alloc] at hb4b
        have HN := Lib.hid hn
        clear ho4 hb4 hc4 hblk4 hX4 hY4 hX4l hY4l hs4 hk hn1 hn2 hn
        go_wp2_with fail
        refine hSo.mono ?_
        rintro e w4s ⟨rfl, ho4s, hg4s⟩
        have hCo := CompZ_any ho4s
        clear hSo ho4s
        go_wp2_with fail
        refine hCo.mono ?_
        rintro e w5 ⟨v5, rfl, ho5, hg5', _⟩
        have hg5 := grownBy_comp hg4s hg5'
        have hl5 := WM.least_len Z n
        rw [HZL.out] at hl5
        have HT : Hid ((WM.compZ (WM.sortZ Z)).take n = WM.least Z n) := rfl
        generalize WM.least Z n = L at *
        obtain ⟨A5, c5, rfl, hlc, hcm, -⟩ := ho5.formC
        have hcl5 := WM.compZ_len (WM.sortZ Z)
        rw [WM.sortZ_len] at hcl5
        generalize WM.compZ (WM.sortZ Z) = C at *
        have hmin : min (n : Int) (C.length : Int) = ((min n C.length : Nat) : Int) := by omega
        have hLm : C.take (min n C.length) = L := by
          rw [← HT.out, Nat.min_comm, ← List.take_take]
          exact List.take_of_length_le (by rw [List.length_take]; omega)
        have hmL : min n C.length = L.length := by rw [← HT.out, List.length_take]
        have hR := ho5.head (min n C.length) (by omega)
        rw [hLm] at hR
        have hm2 : min n C.length ≤ C.length := by omega
        rw [hmL] at hR hmin hm2
        have hX5 := H4.out.2.1.grown hg5 (fun q hq h => by have := hb4b _ h; have := HLt.out.1 q hq; omega)
        have hY5 := H4.out.2.2.grown hg5 (fun q hq h => by have := hb4b _ h; have := HLt.out.2.1 q hq; omega)
        have hk5 := H4.out.1.2.grown hg5 (fun h => by have := hb4b _ h.symm; have := HLt.out.2.2; omega)
        have hc5 := H4.out.1.1.grown hg5 H4.out.1.1.size (fun q hq => by have := hb4b q hq; have := HO.out.2.2.1.size; omega)
        obtain ⟨_, _, hv5, -, -, hf5⟩ := hR.formC
        cases hv5
        have HBX := Lib.hid (fun q x b (hb : decide (x ∈ X) = b) => ContainsZ_any (hX5.drewN q) x b hb)
        have HBY := Lib.hid (fun q x b (hb : decide (x ∈ Y) = b) => ContainsZ_any (hY5.drewN q) x b hb)
        have H5 := Lib.hid (And.intro hc5 hk5)
        have HF := Lib.hid hf5
        have hl5' : L.length ≤ 2000 := by have := HM.out; omega
        clear hCo ho5 hR hLm hmL hg5 hg5' hg4s hX5 hY5 hk5 hc5 hf5 hb4b hl5 hcl5
        go_wp2_with fail
        go_loopw [13, 76] (fun c i wr => E2Rel w5 L X Y c i wr) (fun _ i _ => L.length - (intOf i).toNat)
        case atStart => exact ⟨0, rfl, by omega, rfl, 0, rfl⟩
        case round =>
          obtain ⟨j, rfl, hj, rfl, q, rfl⟩ := hrel
          by_cases hlt : j < L.length
          · obtain ⟨g, rfl, _, _, hc⟩ := HF.out (by omega)
            have hx := List.getElem?_eq_getElem hlt
            generalize L[j] = x at hx
            have cx : (w5.drewN q).cell? ⟨g, j, none⟩ = some (.int .i64 x) := hc j x hx
            have HS := Lib.hid (WM.cnt2_snoc (X := X) (Y := Y) hx)
            have hcl := WM.cnt2_le (L.take j) X Y
            have hcl2 : (L.take j).length ≤ 2000 := by rw [List.length_take]; omega
            generalize WM.cnt2 (L.take j) X Y = c at *
            have hc3 : c ≤ 2000 := by omega
            clear hx hc hcl hcl2
            have hB1 := HBX.out q x _ rfl
            have hB2 := fun q => HBY.out q x _ rfl
            generalize decide (x ∈ X) = p1 at *
            generalize decide (x ∈ Y) = p2 at *
            cases p1
            · clear hB2
              go_wp2_with fail
              refine hB1.mono ?_
              rintro e w7 ⟨rfl, q1, rfl⟩
              have ew : (w5.drewN q).drewN q1 = w5.drewN (q + q1) := by simp [World.drewN, Nat.add_assoc]
              rw [ew]
              go_wp2_with fail
              exact ⟨⟨j + 1, by simp, by omega, by rw [HS.out]; simp, _, rfl⟩, by simp [intOf]; omega⟩
            · go_wp2_with fail
              refine hB1.mono ?_
              rintro e w7 ⟨rfl, q1, rfl⟩
              have hB3 := hB2 (q + q1)
              have ew : (w5.drewN q).drewN q1 = w5.drewN (q + q1) := by simp [World.drewN, Nat.add_assoc]
              rw [ew]
              clear hB1 hB2 ew
              go_wp2_with fail
              refine hB3.mono ?_
              rintro e w8 ⟨rfl, q2, rfl⟩
              have ew : (w5.drewN (q + q1)).drewN q2 = w5.drewN (q + q1 + q2) := by simp [World.drewN, Nat.add_assoc]
              rw [ew]
              clear hB3 ew
              cases p2
              all_goals
                go_wp2_with fail
                exact ⟨⟨j + 1, by simp, by omega, by rw [HS.out]; simp, _, rfl⟩, by simp [intOf]; omega⟩
          · obtain rfl : j = L.length := by omega
            rw [List.take_of_length_le (Nat.le_refl _)]
            have hcl := WM.cnt2_le L X Y
            have hP := partR_any (WM.cnt2 L X Y) L.length (by omega) (by omega)
            generalize WM.cnt2 L X Y = c at *
            generalize WM.frac c L.length = p at *
            have HB5 := Lib.hid (And.intro (below_drewN H5.out.1 q) (H5.out.2.drewN q))
            clear hcl
            go_wp2_with fail
            refine (hP _).mono ?_
            rintro e w9 ⟨rfl, hb9⟩
            have hk9 := HB5.out.2.below hb9 HB5.out.2.lt
            have d0 := hk9.cell 0
            have d1 := hk9.cell 1
            have f0 := hk9.frozen 0
            have f1 := hk9.frozen 1
            simp at d0 d1
            have H9 := Lib.hid (HB5.out.1.trans (hb9.mono HB5.out.1.size))
            clear hP hb9 hk9
            unfold fracV
            go_wp2_with fail
            refine bodyPost_ret (v := .tuple #[.agg #[.int .i64 p.1, .int .i64 p.2], .int .i64 0]) (by simp [results, Tryz.results12, go_sem, d0, d1]) rfl ⟨by rw [HP3.out], ?_⟩
            exact (H9.out.setCell (p := ⟨w.heap.size, 0, none⟩) (Nat.le_refl _) _).setCell (p := ⟨w.heap.size, 1, none⟩) (Nat.le_refl _) _
end Go.Proofs.YtplocijdbadcjaaGreatDoor
