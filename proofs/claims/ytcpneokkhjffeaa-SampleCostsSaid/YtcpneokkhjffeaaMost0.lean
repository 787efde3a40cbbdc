/- Contracts of sample.most and Most at one sample. -/
import Derived.Test.YtcpneokkhjffeaaChoices
import Derived.Deep.DeepCutAuto
namespace Go.Proofs.Ytcpneokkhjffeaa
open Go.RowKit

def SIntN (n : Int) (w : World) (e : Ending) (w' : World) : Prop := e = .returned (.int .i64 n) ∧ Below w.heap.size w w'
theorem Search_0 (f : Value) (w : World) : Calls Try.prog 17 #[.int .i64 0, f] w (SIntN 0 w) := by
  go_enter Try.func17, Try.ntmps17
  go_wp2_with fail
  go_loopw [5, 6] (fun i j wr => i = .int .i64 0 ∧ j = .int .i64 0 ∧ wr = w) (fun _ _ _ => 0)
  case atStart => exact ⟨rfl, rfl, rfl⟩
  case round =>
    obtain ⟨rfl, rfl, rfl⟩ := hrel
    go_wp2_with fail
    go_ret
    exact ⟨rfl, Below.refl _ _⟩
theorem gS_any (n : Nat) (w : World) : Calls Try.prog 41 #[.int .i64 n] w (fun e w' => e = .returned (.int .i64 (min n 60 : Nat)) ∧ w' = w) := by
  have h1 : min (n : Int) 60 = ((min n 60 : Nat) : Int) := by omega
  have h2 : (if (n : Int) < 60 then (n : Int) else 60) = ((min n 60 : Nat) : Int) := by split <;> omega
  have h3 : (if (60 : Int) < n then (60 : Int) else n) = ((min n 60 : Nat) : Int) := by split <;> omega
  go_enter Try.func41, Try.ntmps41
  go_wp2_with fail
  all_goals go_ret
  all_goals exact ⟨by first | rfl | (congr 2; omega) | (simp; omega), rfl⟩
theorem isP_4 (w : World) : Calls Try.prog 42 #[.int .i64 4] w (fun e w' => e = .returned (.bool true) ∧ w' = w) := by
  go_enter Try.func42, Try.ntmps42
  go_wp2_with fail
  go_ret
  exact ⟨rfl, rfl⟩
set_option maxHeartbeats 4000000 in
theorem CheckLevel_12 (w : World) : Calls Try.prog 32 #[.agg #[.int .i64 1, .int .i64 2]] w (SIntN 0 w) := by
  go_enter Try.func32, Try.ntmps32
  go_wp2_with fail
  go_ret
  exact ⟨rfl, (Below.refl _ _).alloc (Nat.le_refl _) _⟩
set_option maxHeartbeats 4000000 in
theorem CheckDrawn_443 (w : World) : Calls Try.prog 31 #[.agg #[.int .i64 4, .int .i64 4, .int .i64 3]] w (SIntN 0 w) := by
  have hg : ∀ W, Calls Try.prog 41 #[.int .i64 4] W (fun e w' => e = .returned (.int .i64 4) ∧ w' = W) := fun W => gS_any 4 W
  have hp := fun W => isP_4 W
  have hB := Blk.new w 48 #[.int .i64 4, .int .i64 4, .int .i64 3]
  have HW := Lib.hid ((Below.refl w.heap.size w).alloc (Nat.le_refl _) (.cells #[.int .i64 4, .int .i64 4, .int .i64 3] 48))
  go_enter Try.func31, Try.ntmps31
  go_upto_region 1 with fail
  generalize w.alloc (.cells #[.int .i64 4, .int .i64 4, .int .i64 3] 48) = W1 at *
  have c0 : W1.cell? ⟨w.heap.size, 0, none⟩ = some (.int .i64 4) := hB.cell 0
  have c1 : W1.cell? ⟨w.heap.size, 1, none⟩ = some (.int .i64 4) := hB.cell 1
  have c2 : W1.cell? ⟨w.heap.size, 2, none⟩ = some (.int .i64 3) := hB.cell 2
  have d0 : W1.drew.cell? ⟨w.heap.size, 0, none⟩ = some (.int .i64 4) := c0
  have d1 : W1.drew.cell? ⟨w.heap.size, 1, none⟩ = some (.int .i64 4) := c1
  have d2 : W1.drew.cell? ⟨w.heap.size, 2, none⟩ = some (.int .i64 3) := c2
  clear hB
  go_region_held3 (fun w' => w'.cell? ⟨w.heap.size, 0, none⟩ = some (.int .i64 4) ∧ w'.cell? ⟨w.heap.size, 1, none⟩ = some (.int .i64 4) ∧ w'.cell? ⟨w.heap.size, 2, none⟩ = some (.int .i64 3))
    (first | (with_reducible exact ⟨c0, c1, c2⟩) | (with_reducible exact ⟨d0, d1, d2⟩) | fail)
    (first | ((with_reducible refine (hg _).mono ?_); rintro e w2 ⟨rfl, rfl⟩) | fail)
  all_goals go_wp2_with fail
  all_goals (refine (hp _).mono ?_; rintro e w3 ⟨rfl, rfl⟩; go_wp2_with fail; go_ret; exact ⟨rfl, HW.out.drew⟩)
set_option maxHeartbeats 4000000 in
theorem checkBound_0 (w : World) : Calls Try.prog 26 #[.agg #[.int .i64 4, .int .i64 4, .int .i64 3], .agg #[.int .i64 1, .int .i64 2]] w (SIntN 0 w) := by
  have h1 := fun W => CheckDrawn_443 W
  have h2 := fun W => CheckLevel_12 W
  have hF := Blk.new (w.alloc (.cells #[.int .i64 4, .int .i64 4, .int .i64 3] 48)) 50 #[.int .i64 1, .int .i64 2]
  rw [show (w.alloc (.cells #[.int .i64 4, .int .i64 4, .int .i64 3] 48)).heap.size = w.heap.size + 1 by simp] at hF
  have HF := Lib.hid hF
  have HW := Lib.hid (((Below.refl w.heap.size w).alloc (Nat.le_refl _) (.cells #[.int .i64 4, .int .i64 4, .int .i64 3] 48)).alloc (by simp) (.cells #[.int .i64 1, .int .i64 2] 50))
  clear hF
  go_enter Try.func26, Try.ntmps26
  go_wp2_with fail
  refine (h1 _).mono ?_
  rintro e w2 ⟨rfl, hb2⟩
  have hF2 := HF.out.below hb2 HF.out.lt
  have c0 : w2.cell? ⟨w.heap.size + 1, 0, none⟩ = some (.int .i64 1) := hF2.cell 0
  have c1 : w2.cell? ⟨w.heap.size + 1, 1, none⟩ = some (.int .i64 2) := hF2.cell 1
  have H2 := Lib.hid (HW.out.trans (hb2.mono HW.out.size))
  clear hF2 hb2 HF HW
  go_wp2_with fail
  refine (h2 _).mono ?_
  rintro e w3 ⟨rfl, hb3⟩
  go_wp2_with fail
  go_ret
  exact ⟨rfl, H2.out.trans (hb3.mono H2.out.size)⟩
theorem below_undrew {W w' : World} (h : Below W.drew.heap.size W.drew w') : Below W.heap.size W w' := ⟨h.os, h.tape, h.output, h.size, h.block⟩
set_option maxHeartbeats 8000000 in
theorem most_0 (w : World) : Calls Try.prog 27 #[.agg #[.int .i64 4, .int .i64 4, .int .i64 3], .agg #[.int .i64 1, .int .i64 2]] w (SIntN 3 w) := by
  have hC : ∀ W, Calls Try.prog 33 #[.int .i64 4, .int .i64 4] W (ChSays 4 W) := fun W => choices_any 4 4 (by omega) (by omega) W
  have hS := fun n W => small_numb n W
  have hZ := fun f W => Search_0 f W
  have hF := Blk.new (w.alloc (.cells #[.int .i64 4, .int .i64 4, .int .i64 3] 48)) 50 #[.int .i64 1, .int .i64 2]
  rw [show (w.alloc (.cells #[.int .i64 4, .int .i64 4, .int .i64 3] 48)).heap.size = w.heap.size + 1 by simp] at hF
  have hD := (Blk.new w 48 #[.int .i64 4, .int .i64 4, .int .i64 3]).alloc (.cells #[.int .i64 1, .int .i64 2] 50)
  have hW := ((Below.refl w.heap.size w).alloc (Nat.le_refl _) (.cells #[.int .i64 4, .int .i64 4, .int .i64 3] 48)).alloc (by simp) (.cells #[.int .i64 1, .int .i64 2] 50)
  go_enter Try.func27, Try.ntmps27
  go_upto_region 1 with fail
  generalize ((w.alloc (.cells #[.int .i64 4, .int .i64 4, .int .i64 3] 48)).alloc (.cells #[.int .i64 1, .int .i64 2] 50)) = W1 at *
  have HB := Lib.hid (And.intro hD (And.intro hF hW))
  have c0 : W1.cell? ⟨w.heap.size, 0, none⟩ = some (.int .i64 4) := hD.cell 0
  have c1 : W1.cell? ⟨w.heap.size, 1, none⟩ = some (.int .i64 4) := hD.cell 1
  have l0 : w.heap.size < W1.heap.size := hD.lt
  have d0 : W1.drew.cell? ⟨w.heap.size, 0, none⟩ = some (.int .i64 4) := c0
  have d1 : W1.drew.cell? ⟨w.heap.size, 1, none⟩ = some (.int .i64 4) := c1
  have a0 : (W1.alloc (.cells #[.slice none 0 0] 67)).drew.cell? ⟨w.heap.size, 0, none⟩ = some (.int .i64 4) := (World.cell?_of_block (a := ⟨w.heap.size, 0, none⟩) (Below.heap_alloc W1 _ w.heap.size l0)).trans c0
  have a1 : (W1.alloc (.cells #[.slice none 0 0] 67)).drew.cell? ⟨w.heap.size, 1, none⟩ = some (.int .i64 4) := (World.cell?_of_block (a := ⟨w.heap.size, 1, none⟩) (Below.heap_alloc W1 _ w.heap.size l0)).trans c1
  have lA : w.heap.size < (W1.alloc (.cells #[.slice none 0 0] 67)).drew.heap.size := by show w.heap.size < (W1.alloc _).heap.size; rw [World.size_alloc]; exact Nat.lt_succ_of_lt l0
  have lN : W1.heap.size < (W1.alloc (.cells #[.slice none 0 0] 67)).drew.heap.size := by show W1.heap.size < (W1.alloc _).heap.size; rw [World.size_alloc]; exact Nat.lt_succ_self _
  have bN : Blk (W1.alloc (.cells #[.slice none 0 0] 67)).drew W1.heap.size 67 #[.slice none 0 0] := (Blk.new W1 _ _).drew
  have nW := World.new_ne W1 _ c0
  have HN := Lib.hid (And.intro lA (And.intro lN bN))
  clear hD hF hW lA lN bN
  go_cut [5] (fun v wx => ∃ b u, v = .pointer (some ⟨b, 0, none⟩) ∧ wx.cell? ⟨b, 0, none⟩ = some u ∧ Num wx u 5 ∧ Below W1.heap.size W1 wx)
  case first =>
    go_region_with (go_at_call 33; refine (hC _).mono ?_; rintro e w2 ⟨v2, L2, rfl, ho2, hL2, hN2, hb2⟩; have e0 := (hb2.cell (p := ⟨w.heap.size, 0, none⟩) (by first | exact l0 | exact HN.out.1)).trans (by first | (with_reducible exact d0) | (with_reducible exact a0)); have e1 := (hb2.cell (p := ⟨w.heap.size, 1, none⟩) (by first | exact l0 | exact HN.out.1)).trans (by first | (with_reducible exact d1) | (with_reducible exact a1)); (first | (have bN2 := HN.out.2.2.below hb2 HN.out.2.1; have x0 : w2.cell? ⟨W1.heap.size, 0, none⟩ = some (.slice none 0 0) := bN2.cell 0; have x1 := bN2.frozen 0; clear bN2) | skip); have f1 : (w2.alloc (.cells #[.slice none 0 0] 67)).cell? ⟨w.heap.size, 1, none⟩ = some (.int .i64 4) := (World.cell?_of_block (a := ⟨w.heap.size, 1, none⟩) (Below.heap_alloc w2 _ w.heap.size (World.block_lt_of_cell? w2 _ e1))).trans e1; have n0 := World.new_ne w2 _ e0; obtain ⟨A2, cp2, rfl, hf2⟩ := ho2.form; obtain ⟨g2, rfl, hg2, hc2⟩ := hf2 (by omega); obtain ⟨u, hu⟩ : ∃ u, L2[4]? = some u := ⟨_, List.getElem?_eq_getElem (by omega)⟩; have hcu := hc2 4 u hu; have hnu := hN2 u (List.mem_of_getElem? hu); obtain ⟨gu, nu, su, rfl⟩ := hnu.form; have n2 := World.new_ne w2 _ hcu; have hgl := ho2.lt g2 rfl; have hcua : (w2.alloc (.cells #[.slice none 0 0] 67)).cell? ⟨g2, 4, none⟩ = some (.slice (some ⟨gu, 0, none⟩) nu su) := (World.cell?_of_block (a := ⟨g2, 4, none⟩) (Below.heap_alloc w2 _ g2 hgl)).trans hcu; have HX := Lib.hid (And.intro hnu (And.intro hb2 (And.intro hgl hg2))); have hL5 : L2.length = 5 := hL2; clear hf2 hc2 hN2 ho2 hL2 hnu hb2 hu hgl hg2)
    all_goals clear hC hS hZ
    all_goals go_wp2_with fail
    all_goals go_meet
    all_goals first
      | exact ⟨w2.heap.size, .slice (some ⟨gu, 0, none⟩) nu su, rfl, (Blk.new w2 67 #[.slice (some ⟨gu, 0, none⟩) nu su]).cell 0, HX.out.1.alloc _, (below_undrew HX.out.2.1).alloc (below_undrew HX.out.2.1).size _⟩
      | exact ⟨w2.heap.size, .slice (some ⟨gu, 0, none⟩) nu su, rfl, ((Blk.new w2 67 #[.slice none 0 0]).set_ 0 _).cell 0, (HX.out.1.alloc _).set_ (Blk.new w2 67 #[.slice none 0 0]) (by decide) 0 _, ((below_undrew HX.out.2.1).alloc (below_undrew HX.out.2.1).size _).setCell (p := ⟨w2.heap.size, 0, none⟩) (below_undrew HX.out.2.1).size _⟩
      | exact ⟨W1.heap.size, .slice (some ⟨gu, 0, none⟩) nu su, rfl, ((HN.out.2.2.below HX.out.2.1 HN.out.2.1).set_ 0 _).cell 0, HX.out.1.set_ (HN.out.2.2.below HX.out.2.1 HN.out.2.1) (by decide) 0 _, (((Below.refl W1.heap.size W1).alloc (Nat.le_refl _) (.cells #[.slice none 0 0] 67)).drew.trans (HX.out.2.1.mono (Nat.le_of_lt HN.out.2.1))).setCell (p := ⟨W1.heap.size, 0, none⟩) (Nat.le_refl _) _⟩
  case rest =>
    obtain ⟨b, u, rfl, hcu, hnu, hbx⟩ := hcut
    obtain ⟨gu, nu, su, rfl⟩ := hnu.form
    have hF := HB.out.2.1.below hbx HB.out.2.1.lt
    have hD := HB.out.1.below hbx HB.out.1.lt
    have c0 : wc.cell? ⟨b, 0, none⟩ = some (.slice (some ⟨gu, 0, none⟩) nu su) := hcu
    have c1 : wc.cell? ⟨w.heap.size + 1, 0, none⟩ = some (.int .i64 1) := hF.cell 0
    have c2 : wc.cell? ⟨w.heap.size + 1, 1, none⟩ = some (.int .i64 2) := hF.cell 1
    have l0 : b < wc.heap.size := World.block_lt_of_cell? wc _ hcu
    have l1 : w.heap.size + 1 < wc.heap.size := hF.lt
    have d0 : wc.drew.cell? ⟨b, 0, none⟩ = some (.slice (some ⟨gu, 0, none⟩) nu su) := c0
    have d1 : wc.drew.cell? ⟨w.heap.size + 1, 0, none⟩ = some (.int .i64 1) := c1
    have d2 : wc.drew.cell? ⟨w.heap.size + 1, 1, none⟩ = some (.int .i64 2) := c2
    have a0 : (wc.alloc (.cells #[.slice none 0 0] 67)).drew.cell? ⟨b, 0, none⟩ = some (.slice (some ⟨gu, 0, none⟩) nu su) := (World.cell?_of_block (a := ⟨b, 0, none⟩) (Below.heap_alloc wc _ b l0)).trans c0
    have a1 : (wc.alloc (.cells #[.slice none 0 0] 67)).drew.cell? ⟨w.heap.size + 1, 0, none⟩ = some (.int .i64 1) := (World.cell?_of_block (a := ⟨w.heap.size + 1, 0, none⟩) (Below.heap_alloc wc _ _ l1)).trans c1
    have a2 : (wc.alloc (.cells #[.slice none 0 0] 67)).drew.cell? ⟨w.heap.size + 1, 1, none⟩ = some (.int .i64 2) := (World.cell?_of_block (a := ⟨w.heap.size + 1, 1, none⟩) (Below.heap_alloc wc _ _ l1)).trans c2
    have lN : wc.heap.size < (wc.alloc (.cells #[.slice none 0 0] 67)).drew.heap.size := by show wc.heap.size < (wc.alloc _).heap.size; rw [World.size_alloc]; exact Nat.lt_succ_self _
    have hbA : Below wc.heap.size wc (wc.alloc (.cells #[.slice none 0 0] 67)).drew := ((Below.refl wc.heap.size wc).alloc (Nat.le_refl _) (.cells #[.slice none 0 0] 67)).drew
    have HN := Lib.hid (And.intro lN (And.intro hbA (show Blk (wc.alloc (.cells #[.slice none 0 0] 67)).drew wc.heap.size 67 #[.slice none 0 0] from (Blk.new wc _ _).drew)))
    have HV := Lib.hid (And.intro (And.intro HB.out.2.2 hbx) (And.intro hD (And.intro l0 l1)))
    have HU := Lib.hid hnu
    have nW0 := World.new_ne wc _ c0
    have nW1 := World.new_ne wc _ c1
    clear hF hD hcu hnu hbx HB hC lN hbA l0 l1
    go_upto_region 2 with fail
    go_cut [6] (fun v wx => (∃ b6, v = .pointer (some ⟨b6, 0, none⟩)) ∧ Below wc.heap.size wc wx)
    case first =>
      clear hZ
      go_region_held3 (fun w' => w'.cell? ⟨b, 0, none⟩ = some (.slice (some ⟨gu, 0, none⟩) nu su) ∧ w'.cell? ⟨w.heap.size + 1, 0, none⟩ = some (.int .i64 1) ∧ w'.cell? ⟨w.heap.size + 1, 1, none⟩ = some (.int .i64 2))
        (first | (with_reducible exact ⟨c0, c1, c2⟩) | (with_reducible exact ⟨d0, d1, d2⟩) | (with_reducible exact ⟨a0, a1, a2⟩) | (with_reducible exact ⟨e0, e1, e2⟩) | (with_reducible exact ⟨f0, f1, f2⟩) | (with_reducible exact ⟨g0, g1, g2⟩) | go_keep | fail)
        (first
          | ((with_reducible refine (hS _ _).mono ?_); rintro e w2 ⟨v2, rfl, hn2, hb2⟩; have hbw : Below wc.heap.size wc w2 := (by first | exact below_undrew hb2 | exact HN.out.2.1.trans (hb2.mono (Nat.le_of_lt HN.out.1))); obtain ⟨g2, n2, s2, rfl⟩ := hn2.form; have e0 := (hbw.cell (p := ⟨b, 0, none⟩) HV.out.2.2.1).trans c0; have e1 := (hbw.cell (p := ⟨w.heap.size + 1, 0, none⟩) HV.out.2.2.2).trans c1; have e2 := (hbw.cell (p := ⟨w.heap.size + 1, 1, none⟩) HV.out.2.2.2).trans c2; have f0 : (w2.alloc (.cells #[.slice none 0 0] 67)).cell? ⟨b, 0, none⟩ = some (.slice (some ⟨gu, 0, none⟩) nu su) := (World.cell?_of_block (a := ⟨b, 0, none⟩) (Below.heap_alloc w2 _ b (Nat.lt_of_lt_of_le HV.out.2.2.1 hbw.size))).trans e0; have f1 : (w2.alloc (.cells #[.slice none 0 0] 67)).cell? ⟨w.heap.size + 1, 0, none⟩ = some (.int .i64 1) := (World.cell?_of_block (a := ⟨w.heap.size + 1, 0, none⟩) (Below.heap_alloc w2 _ _ (Nat.lt_of_lt_of_le HV.out.2.2.2 hbw.size))).trans e1; have f2 : (w2.alloc (.cells #[.slice none 0 0] 67)).cell? ⟨w.heap.size + 1, 1, none⟩ = some (.int .i64 2) := (World.cell?_of_block (a := ⟨w.heap.size + 1, 1, none⟩) (Below.heap_alloc w2 _ _ (Nat.lt_of_lt_of_le HV.out.2.2.2 hbw.size))).trans e2; have hT := Times_any (N := 6) (HU.out.below hbw (Nat.le_refl _)) hn2 (by omega) (by omega) (by omega); have hTa := Times_any (N := 6) ((HU.out.below hbw (Nat.le_refl _)).alloc (.cells #[.slice none 0 0] 67)) (hn2.alloc (.cells #[.slice none 0 0] 67)) (by omega) (by omega) (by omega); (first | (have bN2 := HN.out.2.2.below hb2 HN.out.1; have HQ := Lib.hid bN2; clear bN2) | skip); have m0 := World.new_ne w2 _ e0; have m1 := World.new_ne w2 _ e1; have HB2 := Lib.hid hbw; clear hn2 hb2 hbw)
          | ((with_reducible refine hT.mono ?_); rintro e w3 ⟨v3, rfl, hn3, hb3⟩; obtain ⟨g3, n3, s3, rfl⟩ := hn3.form; have g0 := (hb3.cell (p := ⟨b, 0, none⟩) (Nat.lt_of_lt_of_le HV.out.2.2.1 HB2.out.size)).trans e0; have g1 := (hb3.cell (p := ⟨w.heap.size + 1, 0, none⟩) (Nat.lt_of_lt_of_le HV.out.2.2.2 HB2.out.size)).trans e1; have g2 := (hb3.cell (p := ⟨w.heap.size + 1, 1, none⟩) (Nat.lt_of_lt_of_le HV.out.2.2.2 HB2.out.size)).trans e2; (first | (have bN3 := HQ.out.below hb3 HQ.out.lt; have x0 : w3.cell? ⟨wc.heap.size, 0, none⟩ = some (.slice none 0 0) := bN3.cell 0; have x1 := bN3.frozen 0; clear bN3) | skip); have k0 := World.new_ne w3 _ g0; have k1 := World.new_ne w3 _ g1; have HB3 := Lib.hid (HB2.out.trans (hb3.mono HB2.out.size)); clear hn3 hb3)
          | ((with_reducible refine hTa.mono ?_); rintro e w3 ⟨v3, rfl, hn3, hb3⟩; obtain ⟨g3, n3, s3, rfl⟩ := hn3.form; have hl2 : w2.heap.size < (w2.alloc (.cells #[.slice none 0 0] 67)).heap.size := (by rw [World.size_alloc]; exact Nat.lt_succ_self _); have g0 := (hb3.cell (p := ⟨b, 0, none⟩) (Nat.lt_trans (Nat.lt_of_lt_of_le HV.out.2.2.1 HB2.out.size) hl2)).trans f0; have g1 := (hb3.cell (p := ⟨w.heap.size + 1, 0, none⟩) (Nat.lt_trans (Nat.lt_of_lt_of_le HV.out.2.2.2 HB2.out.size) hl2)).trans f1; have g2 := (hb3.cell (p := ⟨w.heap.size + 1, 1, none⟩) (Nat.lt_trans (Nat.lt_of_lt_of_le HV.out.2.2.2 HB2.out.size) hl2)).trans f2; have bN3 := (Blk.new w2 67 #[.slice none 0 0]).below hb3 hl2; have x0 : w3.cell? ⟨w2.heap.size, 0, none⟩ = some (.slice none 0 0) := bN3.cell 0; have x1 := bN3.frozen 0; have HB3 := Lib.hid ((HB2.out.alloc HB2.out.size (.cells #[.slice none 0 0] 67)).trans (hb3.mono (Nat.le_trans HB2.out.size (Nat.le_of_lt hl2)))); clear hn3 hb3 bN3 hl2)
          | fail)
      all_goals go_wp2_with fail
      all_goals go_meet
      all_goals first
        | exact ⟨⟨_, rfl⟩, HB3.out.alloc HB3.out.size _⟩
        | exact ⟨⟨_, rfl⟩, (HB3.out.alloc HB3.out.size _).setCell (p := ⟨w3.heap.size, 0, none⟩) HB3.out.size _⟩
        | exact ⟨⟨_, rfl⟩, HB3.out.setCell (p := ⟨wc.heap.size, 0, none⟩) (Nat.le_refl _) _⟩
        | exact ⟨⟨_, rfl⟩, HB3.out.setCell (p := ⟨w2.heap.size, 0, none⟩) HB2.out.size _⟩
    case rest =>
      obtain ⟨⟨b6, rfl⟩, hb6⟩ := hcut
      have hD := HV.out.2.1.below hb6 HV.out.2.1.lt
      have c4 : wc.cell? ⟨w.heap.size, 0, none⟩ = some (.int .i64 4) := hD.cell 0
      have c5 : wc.cell? ⟨w.heap.size, 1, none⟩ = some (.int .i64 4) := hD.cell 1
      have HD := Lib.hid hD
      have HW := Lib.hid ((HV.out.1.1.trans (HV.out.1.2.mono HV.out.1.1.size)).trans (hb6.mono (Nat.le_trans HV.out.1.1.size HV.out.1.2.size)))
      clear hD hb6 c0 c1 c2 d0 d1 d2 a0 a1 a2 HN HU nW0 nW1 hS
      go_wp2_with fail
      refine (hZ _ _).mono ?_
      rintro e w8 ⟨rfl, hb8⟩
      have hD8 := HD.out.below hb8 HD.out.lt
      have c6 : w8.cell? ⟨w.heap.size, 2, none⟩ = some (.int .i64 3) := hD8.cell 2
      clear hD8
      go_wp2_with fail
      go_ret
      exact ⟨rfl, HW.out.trans (hb8.mono HW.out.size)⟩
set_option maxHeartbeats 4000000 in
theorem Most_0 (w : World) : Calls Try.prog 21 #[.agg #[.int .i64 4, .int .i64 4, .int .i64 3], .agg #[.int .i64 1, .int .i64 2]] w (fun e w' => e = .returned (.tuple #[.int .i64 3, .int .i64 0]) ∧ Below w.heap.size w w') := by
  have h1 := fun W => checkBound_0 W
  have h2 := fun W => most_0 W
  have hF := Blk.new (w.alloc (.cells #[.int .i64 4, .int .i64 4, .int .i64 3] 48)) 50 #[.int .i64 1, .int .i64 2]
  rw [show (w.alloc (.cells #[.int .i64 4, .int .i64 4, .int .i64 3] 48)).heap.size = w.heap.size + 1 by simp] at hF
  have HF := Lib.hid (And.intro hF ((Blk.new w 48 #[.int .i64 4, .int .i64 4, .int .i64 3]).alloc (.cells #[.int .i64 1, .int .i64 2] 50)))
  have HW := Lib.hid (((Below.refl w.heap.size w).alloc (Nat.le_refl _) (.cells #[.int .i64 4, .int .i64 4, .int .i64 3] 48)).alloc (by simp) (.cells #[.int .i64 1, .int .i64 2] 50))
  clear hF
  go_enter Try.func21, Try.ntmps21
  go_wp2_with fail
  refine (h1 _).mono ?_
  rintro e w2 ⟨rfl, hb2⟩
  have hF2 := HF.out.1.below hb2 HF.out.1.lt
  have hD2 := HF.out.2.below hb2 HF.out.2.lt
  have c0 : w2.cell? ⟨w.heap.size + 1, 0, none⟩ = some (.int .i64 1) := hF2.cell 0
  have c1 : w2.cell? ⟨w.heap.size + 1, 1, none⟩ = some (.int .i64 2) := hF2.cell 1
  have c2 : w2.cell? ⟨w.heap.size, 0, none⟩ = some (.int .i64 4) := hD2.cell 0
  have c3 : w2.cell? ⟨w.heap.size, 1, none⟩ = some (.int .i64 4) := hD2.cell 1
  have c4 : w2.cell? ⟨w.heap.size, 2, none⟩ = some (.int .i64 3) := hD2.cell 2
  have H2 := Lib.hid (HW.out.trans (hb2.mono HW.out.size))
  clear hF2 hD2 hb2 HF HW h1
  go_wp2_with fail
  refine (h2 _).mono ?_
  rintro e w3 ⟨rfl, hb3⟩
  go_wp2_with fail
  go_ret2
  exact ⟨rfl, H2.out.trans (hb3.mono H2.out.size)⟩
end Go.Proofs.Ytcpneokkhjffeaa
