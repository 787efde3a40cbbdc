/- Contracts of near.checkSketch and near.Estimate. -/
import Derived.Test.YtplocijdbadcjaaGreatDoorSketch0
import Derived.Test.YtplocijdbadcjaaGreatDoorConcatZ
import Derived.Test.YtplocijdbadcjaaGreatDoorFrac0
namespace WM
def skf : Option Int → List Int → Int
  | _, [] => 0
  | p, n :: l => if n < 0 then 1 else if (p.elim false fun q => decide (n ≤ q)) then 7 else skf (some n) l
def skF (z : Int) (l : List Int) : Int := if z < l.length then 2 else skf none l
theorem skf_neg {p : Option Int} {n : Int} {l : List Int} (h : n < 0) : skf p (n :: l) = 1 := by simp [skf, h]
theorem skf_first {n : Int} {l : List Int} (h : ¬ n < 0) : skf none (n :: l) = skf (some n) l := by simp [skf, h]
theorem skf_ord {q n : Int} {l : List Int} (h : ¬ n < 0) (h2 : n ≤ q) : skf (some q) (n :: l) = 7 := by simp [skf, h, h2]
theorem skf_on {q n : Int} {l : List Int} (h : ¬ n < 0) (h2 : ¬ n ≤ q) : skf (some q) (n :: l) = skf (some n) l := by simp [skf, h, h2]
theorem skf_asc : ∀ (l : List Int) (p : Option Int), skf p l = 0 → l.Pairwise (· ≤ ·) ∧ ∀ q, p = some q → ∀ x ∈ l, q ≤ x
  | [], p, _ => ⟨List.Pairwise.nil, by simp⟩
  | n :: l, p, h => by
    by_cases h1 : n < 0
    · rw [skf_neg h1] at h; cases h
    · cases p with
      | none =>
        rw [skf_first h1] at h
        obtain ⟨h2, h3⟩ := skf_asc l _ h
        exact ⟨List.pairwise_cons.2 ⟨fun x hx => h3 n rfl x hx, h2⟩, by simp⟩
      | some q =>
        by_cases h4 : n ≤ q
        · rw [skf_ord h1 h4] at h; cases h
        · rw [skf_on h1 h4] at h
          obtain ⟨h2, h3⟩ := skf_asc l _ h
          refine ⟨List.pairwise_cons.2 ⟨fun x hx => h3 n rfl x hx, h2⟩, fun q' hq x hx => ?_⟩
          injection hq with hq
          subst hq
          rcases List.mem_cons.1 hx with rfl | hx
          · omega
          · have := h3 n rfl x hx; omega
theorem skF_asc {z : Int} {l : List Int} (h : skF z l = 0) : l.Pairwise (· ≤ ·) := by
  unfold skF at h
  split at h
  · cases h
  · exact (skf_asc l none h).1
def cnt2 (L X Y : List Int) : Nat := (L.filter fun x => decide (x ∈ X) && decide (x ∈ Y)).length
theorem cnt2_le (L X Y : List Int) : cnt2 L X Y ≤ L.length := List.length_filter_le _ _
theorem cnt2_snoc {L X Y : List Int} {j : Nat} {x : Int} (h : L[j]? = some x) : cnt2 (L.take (j + 1)) X Y = cnt2 (L.take j) X Y + if decide (x ∈ X) && decide (x ∈ Y) then 1 else 0 := by
  obtain ⟨hj, rfl⟩ := List.getElem?_eq_some_iff.1 h
  unfold cnt2
  rw [List.take_succ_eq_append_getElem hj, List.filter_append, List.length_append]
  cases hq : (decide (L[j] ∈ X) && decide (L[j] ∈ Y)) <;> simp [hq]
def est (z : Int) (X Y : List Int) : (Nat × Nat) × Int :=
  if ¬ (1 ≤ z ∧ z ≤ 200) then ((0, 0), 1) else if skF z X ≠ 0 then ((0, 0), skF z X) else if skF z Y ≠ 0 then ((0, 0), skF z Y)
  else (frac (cnt2 (least (X ++ Y) z.toNat) X Y) (least (X ++ Y) z.toNat).length, 0)
end WM
namespace Go.Proofs.YtplocijdbadcjaaGreatDoor
open Go.RowKit

def prevZ (l : List Int) (j : Nat) : Option Int := if j = 0 then none else l[j - 1]?
def CkRel (l : List Int) (i : Value) : Prop := ∃ j : Nat, i = .int .i64 j ∧ j ≤ l.length ∧ Hid (WM.skf (prevZ l j) (l.drop j) = WM.skf none l)
set_option maxHeartbeats 2000000 in
theorem checkSketch_any {w : World} {base : Nat} {v : Value} {l : List Int} (h : OwnZ w base v l) (z : Int) :
    Calls Tryz.prog 26 #[v, .int .i64 z] w fun e w' => e = .returned (.int .i64 (WM.skF z l)) ∧ w = w' := by
  have hll := h.len_le
  obtain ⟨A, cap, rfl, -, -, hf⟩ := h.formC
  clear h
  unfold WM.skF
  by_cases hz : z < l.length
  · rw [if_pos hz]
    go_enter Tryz.func26, Tryz.ntmps26
    go_wp2_with fail
    go_ret
    exact ⟨rfl, rfl⟩
  · rw [if_neg hz]
    have HF := Lib.hid hf
    clear hf
    go_enter Tryz.func26, Tryz.ntmps26
    go_wp2_with fail
    go_loop [13] (fun i => CkRel l i) (fun i => l.length - (intOf i).toNat)
    case atStart => exact ⟨0, rfl, by omega, by show _ = _; simp [prevZ]⟩
    case round =>
      obtain ⟨j, rfl, hj, HS⟩ := hrel
      by_cases hlt : j < l.length
      · obtain ⟨g, rfl, _, _, hc⟩ := HF.out (by omega)
        have hx := List.getElem?_eq_getElem hlt
        have hd := List.drop_eq_getElem_cons hlt
        generalize l[j] = x at hx hd
        have cx : w.cell? ⟨g, j, none⟩ = some (.int .i64 x) := hc j x hx
        have HE : Hid (WM.skf (prevZ l j) (x :: l.drop (j + 1)) = WM.skf none l) := by show _ = _; rw [← hd]; exact HS.out
        have HP : Hid (prevZ l (j + 1) = some x) := by show _ = _; unfold prevZ; rw [if_neg (by omega)]; exact hx
        clear HS hd hx
        by_cases hneg : x < 0
        · have HV := Lib.hid (WM.skf_neg (p := prevZ l j) (l := l.drop (j + 1)) hneg)
          clear hc
          go_wp2_with fail
          go_ret
          exact ⟨by rw [← HE.out, HV.out]; rfl, rfl⟩
        · by_cases h0 : j = 0
          · subst h0
            have HV : Hid (WM.skf (some x) (l.drop (0 + 1)) = WM.skf none l) := by
              have := HE.out
              rw [show prevZ l 0 = none from rfl, WM.skf_first hneg] at this
              exact this
            clear hc
            go_wp2_with fail
            exact ⟨⟨1, rfl, by omega, by show _ = _; rw [show prevZ l 1 = some x from HP.out]; exact HV.out⟩, by simp [intOf]; omega⟩
          · have hq := List.getElem?_eq_getElem (show j - 1 < l.length by omega)
            generalize l[j - 1] = q at hq
            have cq : w.cell? ⟨g, j - 1, none⟩ = some (.int .i64 q) := hc _ q hq
            have hp0 : prevZ l j = some q := by unfold prevZ; rw [if_neg h0]; exact hq
            rw [hp0] at HE
            have e1 : ((j : Int) - 1).toNat = j - 1 := by omega
            clear hc hp0 hq
            by_cases hle : x ≤ q
            · have HV := Lib.hid (WM.skf_ord (l := l.drop (j + 1)) hneg hle)
              go_wp2_with fail
              go_ret
              exact ⟨by rw [← HE.out, HV.out]; rfl, rfl⟩
            · have HV := Lib.hid (WM.skf_on (l := l.drop (j + 1)) hneg hle)
              go_wp2_with fail
              exact ⟨⟨j + 1, rfl, by omega, by show _ = _; rw [HP.out, ← HV.out]; exact HE.out⟩, by simp [intOf]; omega⟩
      · obtain rfl : j = l.length := by omega
        have HV : Hid (WM.skf none l = 0) := by have := HS.out; show _ = _; rw [← this]; simp [WM.skf]
        go_wp2_with fail
        go_ret
        exact ⟨by rw [HV.out]; rfl, rfl⟩

/-- a fraction and a code are answered -/
def EstSays (p : (Nat × Nat) × Int) (w : World) (e : Ending) (w' : World) : Prop := e = .returned (.tuple #[.agg #[.int .i64 p.1.1, .int .i64 p.1.2], .int .i64 p.2]) ∧ Below w.heap.size w w'
def E1Rel (z : Int) (X Y : List Int) (i : Value) : Prop := ∃ k : Nat, k ≤ 2 ∧ i = .int .i64 k ∧ (1 ≤ k → WM.skF z X = 0) ∧ (2 ≤ k → WM.skF z Y = 0)
def E2Rel (W5 : World) (L X Y : List Int) (c i : Value) (wr : World) : Prop := ∃ j : Nat, i = .int .i64 j ∧ j ≤ L.length ∧ c = .int .i64 (WM.cnt2 (L.take j) X Y : Nat) ∧ ∃ q, wr = W5.drewN q
set_option maxHeartbeats 8000000 in
theorem Estimate_any {w : World} {b1 b2 : Nat} {v1 v2 : Value} {X Y : List Int} (h1 : OwnZ w b1 v1 X) (h2 : OwnZ w b2 v2 Y) (hx : X.length ≤ 1000) (hy : Y.length ≤ 1000) (z : Int) :
    Calls Tryz.prog 11 #[v1, v2, .int .i64 z] w (EstSays (WM.est z X Y) w) := by
  obtain ⟨A1, c1, rfl, -⟩ := h1.formC
  obtain ⟨A2, c2, rfl, -⟩ := h2.formC
  obtain ⟨P, hP⟩ : ∃ P, WM.est z X Y = P := ⟨_, rfl⟩
  rw [hP]
  unfold WM.est at hP
  have HP := Lib.hid hP
  clear hP
  cases hz : (decide (1 ≤ z) && decide (z ≤ 200))
  · have hp : P = ((0, 0), 1) := by rw [← HP.out, if_pos (by simpa using hz)]
    subst hp
    have hI := fun W => isSketch_any z false hz W
    clear h1 h2 hx hy hz
    go_enter Tryz.func11, Tryz.ntmps11
    go_wp2_with fail
    refine (hI _).mono ?_
    rintro e w1 ⟨rfl, rfl⟩
    go_wp2_with fail
    refine bodyPost_ret (v := .tuple #[.agg #[.int .i64 0, .int .i64 0], .int .i64 1]) (by simp [results, Tryz.results11, go_sem]) rfl ⟨rfl, ?_⟩
    exact (Below.refl _ _).alloc (Nat.le_refl _) _
  · have hz' : 1 ≤ z ∧ z ≤ 200 := by simpa using hz
    have HP2 : Hid ((if WM.skF z X ≠ 0 then ((0, 0), WM.skF z X) else if WM.skF z Y ≠ 0 then ((0, 0), WM.skF z Y) else (WM.frac (WM.cnt2 (WM.least (X ++ Y) z.toNat) X Y) (WM.least (X ++ Y) z.toNat).length, 0)) = P) := by
      have := HP.out
      rw [if_neg (by simpa using hz')] at this
      exact this
    clear HP
    have hI := fun W => isSketch_any z true hz W
    obtain ⟨n, rfl⟩ := Int.eq_ofNat_of_zero_le (show 0 ≤ z by omega)
    have hn : n ≤ 200 := by omega
    rw [Int.toNat_natCast] at HP2
    clear hz hz'
    obtain ⟨W, hW⟩ : ∃ W, (w.alloc (.cells #[.int .i64 0, .int .i64 0] 35)).alloc (.cells #[.slice A1 X.length c1, .slice A2 Y.length c2] 22) = W := ⟨_, rfl⟩
    have hX : OwnZ W b1 (.slice A1 X.length c1) X := by rw [← hW]; exact (h1.alloc _).alloc _
    have hY : OwnZ W b2 (.slice A2 Y.length c2) Y := by rw [← hW]; exact (h2.alloc _).alloc _
    have hblk : Blk W w.heap.size 35 #[.int .i64 0, .int .i64 0] := by rw [← hW]; exact (Blk.new w _ _).alloc _
    have hbk2 : Blk W (w.heap.size + 1) 22 #[.slice A1 X.length c1, .slice A2 Y.length c2] := by
      rw [← hW]
      have := Blk.new (w.alloc (.cells #[.int .i64 0, .int .i64 0] 35)) 22 #[.slice A1 X.length c1, .slice A2 Y.length c2]
      simpa using this
    have hB : Below w.heap.size w W := by rw [← hW]; exact ((Below.refl _ _).alloc (Nat.le_refl _) _).alloc (by simp) _
    have d0 := hblk.cell 0
    have d1 := hblk.cell 1
    have f0 := hblk.frozen 0
    have f1 := hblk.frozen 1
    have g0 := hbk2.cell 0
    have g1 := hbk2.cell 1
    simp at d0 d1 g0 g1
    have HO := Lib.hid (And.intro hX (And.intro hY (And.intro hB hblk)))
    have hK1 := checkSketch_any hX (n : Nat)
    have hK2 := checkSketch_any hY (n : Nat)
    have HM := Lib.hid (And.intro hx hy)
    clear h1 h2 hx hy hX hY hblk hbk2 hB
    go_enter Tryz.func11, Tryz.ntmps11
    go_wp2_with fail
    refine (hI _).mono ?_
    rintro e w1 ⟨rfl, rfl⟩
    clear hI
    go_wp2_with fail
    clear hW
    go_loop [27] (fun i => E1Rel (n : Nat) X Y i) (fun i => 2 - (intOf i).toNat)
    case atStart => exact ⟨0, by omega, rfl, by omega, by omega⟩
    case round =>
      obtain ⟨k, hk, rfl, e1, e2⟩ := hrel
      rcases (show k = 0 ∨ k = 1 ∨ k = 2 by omega) with rfl | rfl | rfl
      · by_cases hs : WM.skF (n : Nat) X = 0
        · rw [hs] at hK1
          clear hK2
          go_wp2_with fail
          refine hK1.mono ?_
          rintro e w3 ⟨rfl, rfl⟩
          go_wp2_with fail
          exact ⟨⟨1, by omega, rfl, fun _ => hs, by omega⟩, by simp [intOf]⟩
        · have hp : P = ((0, 0), WM.skF (n : Nat) X) := by rw [← HP2.out, if_pos hs]
          have hs1 : (WM.skF (n : Nat) X == 0) = false := beq_eq_false_iff_ne.2 hs
          clear hK2 HP2
          generalize WM.skF (n : Nat) X = c at *
          subst hp
          go_wp2_with fail
          refine hK1.mono ?_
          rintro e w3 ⟨rfl, rfl⟩
          go_wp2_with fail
          refine bodyPost_ret (v := .tuple #[.agg #[.int .i64 0, .int .i64 0], .int .i64 c]) (by simp [results, Tryz.results11, go_sem, d0, d1]) rfl ⟨rfl, ?_⟩
          exact (HO.out.2.2.1.setCell (p := ⟨w.heap.size, 0, none⟩) (Nat.le_refl _) _).setCell (p := ⟨w.heap.size, 1, none⟩) (Nat.le_refl _) _
      · have hs := e1 (by omega)
        by_cases ht : WM.skF (n : Nat) Y = 0
        · rw [ht] at hK2
          clear hK1
          go_wp2_with fail
          refine hK2.mono ?_
          rintro e w3 ⟨rfl, rfl⟩
          go_wp2_with fail
          exact ⟨⟨2, by omega, rfl, fun _ => hs, fun _ => ht⟩, by simp [intOf]⟩
        · have hp : P = ((0, 0), WM.skF (n : Nat) Y) := by rw [← HP2.out, if_neg (by simpa using hs), if_pos ht]
          have hs1 : (WM.skF (n : Nat) Y == 0) = false := beq_eq_false_iff_ne.2 ht
          clear hK1 hs e1 e2 HP2
          generalize WM.skF (n : Nat) Y = c at *
          subst hp
          go_wp2_with fail
          refine hK2.mono ?_
          rintro e w3 ⟨rfl, rfl⟩
          go_wp2_with fail
          refine bodyPost_ret (v := .tuple #[.agg #[.int .i64 0, .int .i64 0], .int .i64 c]) (by simp [results, Tryz.results11, go_sem, d0, d1]) rfl ⟨rfl, ?_⟩
          exact (HO.out.2.2.1.setCell (p := ⟨w.heap.size, 0, none⟩) (Nat.le_refl _) _).setCell (p := ⟨w.heap.size, 1, none⟩) (Nat.le_refl _) _
      · have hs := e1 (by omega)
        have ht := e2 (by omega)
        have HP3 : Hid (P = (WM.frac (WM.cnt2 (WM.least (X ++ Y) n) X Y) (WM.least (X ++ Y) n).length, 0)) := by show _ = _; rw [← HP2.out, if_neg (by simpa using hs), if_neg (by simpa using ht)]
        clear HP2
        have HA := Lib.hid (And.intro (WM.skF_asc hs) (WM.skF_asc ht))
        clear hK1 hK2 hs ht e1 e2 d0 d1 f0 f1 g0 g1
        have hCC := ConcatZ_any (X := X) (Y := Y) (b := W.heap.size) (W.alloc (.cells #[.slice A1 X.length c1, .slice A2 Y.length c2] 22)) (HO.out.1.alloc _) (HO.out.2.1.alloc _)
          ((cell_of_row _ _ 0 _ _ _ (heap_alloc_new W _)).trans rfl) ((cell_of_row _ _ 1 _ _ _ (heap_alloc_new W _)).trans rfl) (by simp) (by have := HM.out; omega)
        go_wp2_with fail
        refine hCC.mono ?_
        rintro e w4 ⟨v4, rfl, ho4, hb4⟩
        clear hCC
        have hs4 := hb4.size
        simp at hs4
        have hc4 : Below w.heap.size w w4 := (HO.out.2.2.1.alloc HO.out.2.2.1.size _).trans (hb4.mono (by have := HO.out.2.2.1.size; simp; omega))
        have hblk4 : Blk w4 w.heap.size 35 #[.int .i64 0, .int .i64 0] := (HO.out.2.2.2.alloc _).below hb4 (by have := HO.out.2.2.2.lt; simp; omega)
        have hX4 : OwnZ w4 b1 (.slice A1 X.length c1) X := (HO.out.1.alloc _).below hb4 (Nat.le_refl _)
        have hY4 : OwnZ w4 b2 (.slice A2 Y.length c2) Y := (HO.out.2.1.alloc _).below hb4 (Nat.le_refl _)
        have hX4l := hX4.lt
        have hY4l := hY4.lt
        have hLe := leastOf_any ho4 (by have := HM.out; simp; omega) n (by omega)
        have hb4b := ho4.base_le
        have H4 := Lib.hid (And.intro (And.intro hc4 hblk4) (And.intro hX4 hY4))
        have HLt := Lib.hid (And.intro (HO.out.1.lt) (And.intro HO.out.2.1.lt HO.out.2.2.2.lt))
        simp only [World.size_alloc] at hb4b
        clear ho4 hb4 hc4 hblk4 hX4 hY4 hX4l hY4l
        go_wp2_with fail
        refine hLe.mono ?_
        rintro e w5 ⟨v5, rfl, ho5, hg5, _⟩
        have hl5 := WM.least_len (X ++ Y) n
        rw [List.length_append] at hl5
        generalize WM.least (X ++ Y) n = L at *
        have hX5 := H4.out.2.1.grown hg5 (fun q hq h => by have := hb4b _ h; have := HLt.out.1 q hq; omega)
        have hY5 := H4.out.2.2.grown hg5 (fun q hq h => by have := hb4b _ h; have := HLt.out.2.1 q hq; omega)
        have hk5 := H4.out.1.2.grown hg5 (fun h => by have := hb4b _ h.symm; have := HLt.out.2.2; omega)
        have hc5 := H4.out.1.1.grown hg5 H4.out.1.1.size (fun q hq => by have := hb4b q hq; have := HO.out.2.2.1.size; omega)
        obtain ⟨A5, c5, rfl, -, -, hf5⟩ := ho5.formC
        have HBX := Lib.hid (fun q x b (hb : decide (x ∈ X) = b) => BinZ_any (hX5.drewN q) HA.out.1 (by have := HM.out; omega) x b hb)
        have HBY := Lib.hid (fun q x b (hb : decide (x ∈ Y) = b) => BinZ_any (hY5.drewN q) HA.out.2 (by have := HM.out; omega) x b hb)
        have H5 := Lib.hid (And.intro hc5 hk5)
        have HF := Lib.hid hf5
        have hl5' : L.length ≤ 2000 := by have := HM.out; omega
        clear hLe ho5 hg5 hX5 hY5 hk5 hc5 hf5 hb4b hl5
        go_wp2_with fail
        go_loopw [12, 47] (fun c i wr => E2Rel w5 L X Y c i wr) (fun _ i _ => L.length - (intOf i).toNat)
        case atStart => exact ⟨0, rfl, by omega, rfl, 0, rfl⟩
        case round =>
          obtain ⟨j, rfl, hj, rfl, q, rfl⟩ := hrel
          by_cases hlt : j < L.length
          · obtain ⟨g, rfl, _, _, hc⟩ := HF.out (by omega)
            have hx := List.getElem?_eq_getElem hlt
            generalize L[j] = x at hx
            have cx : (w5.drewN q).cell? ⟨g, j, none⟩ = some (.int .i64 x) := hc j x hx
            have HS := Lib.hid (WM.cnt2_snoc (X := X) (Y := Y) hx)
            have hcl := WM.cnt2_le (L.take j) X Y
            have hcl2 : (L.take j).length ≤ 2000 := by rw [List.length_take]; omega
            generalize WM.cnt2 (L.take j) X Y = c at *
            have hc3 : c ≤ 2000 := by omega
            clear hx hc hcl hcl2
            have hB1 := HBX.out q x _ rfl
            have hB2 := fun q => HBY.out q x _ rfl
            generalize decide (x ∈ X) = p1 at *
            generalize decide (x ∈ Y) = p2 at *
            go_wp2_with fail
            refine hB1.mono ?_
            rintro e w7 ⟨m1, rfl, q1, rfl⟩
            have hB3 := hB2 (q + q1)
            have ew : (w5.drewN q).drewN q1 = w5.drewN (q + q1) := by simp [World.drewN, Nat.add_assoc]
            rw [ew]
            clear hB1 hB2 ew
            go_wp2_with fail
            refine hB3.mono ?_
            rintro e w8 ⟨m2, rfl, q2, rfl⟩
            have ew : (w5.drewN (q + q1)).drewN q2 = w5.drewN (q + q1 + q2) := by simp [World.drewN, Nat.add_assoc]
            rw [ew]
            clear hB3 ew
            cases p1 <;> cases p2
            all_goals
              go_wp2_with fail
              exact ⟨⟨j + 1, by simp, by omega, by rw [HS.out]; simp, _, rfl⟩, by simp [intOf]; omega⟩
          · obtain rfl : j = L.length := by omega
            rw [List.take_of_length_le (Nat.le_refl _)]
            have hcl := WM.cnt2_le L X Y
            have hP := part_any (WM.cnt2 L X Y) L.length (by omega) (by omega)
            generalize WM.cnt2 L X Y = c at *
            generalize WM.frac c L.length = p at *
            have HB5 := Lib.hid (And.intro (below_drewN H5.out.1 q) (H5.out.2.drewN q))
            clear hcl
            go_wp2_with fail
            refine (hP _).mono ?_
            rintro e w9 ⟨rfl, hb9⟩
            have hk9 := HB5.out.2.below hb9 HB5.out.2.lt
            have d0 := hk9.cell 0
            have d1 := hk9.cell 1
            have f0 := hk9.frozen 0
            have f1 := hk9.frozen 1
            simp at d0 d1
            have H9 := Lib.hid (HB5.out.1.trans (hb9.mono HB5.out.1.size))
            clear hP hb9 hk9
            unfold fracV
            go_wp2_with fail
            refine bodyPost_ret (v := .tuple #[.agg #[.int .i64 p.1, .int .i64 p.2], .int .i64 0]) (by simp [results, Tryz.results11, go_sem, d0, d1]) rfl ⟨by rw [HP3.out], ?_⟩
            exact (H9.out.setCell (p := ⟨w.heap.size, 0, none⟩) (Nat.le_refl _) _).setCell (p := ⟨w.heap.size, 1, none⟩) (Nat.le_refl _) _
end Go.Proofs.YtplocijdbadcjaaGreatDoor
