/- Contracts of near.Sketch, and of the reference's SketchOf. -/
import Derived.Test.YtplocijdbadcjaaGreatDoorSketch0
import Derived.Test.YtplocijdbadcjaaGreatDoorHash
import Derived.Test.YtplocijdbadcjaaGreatDoorRefShin
namespace Go.Proofs.YtplocijdbadcjaaGreatDoor
open Go.RowKit

theorem shs_size (s : ByteArray) (hs : s.size ≤ 20000) (k : Nat) : ∀ x ∈ shs s k, x.size ≤ 1000000000 := by
  intro x hx
  have hw := words_wt s hs
  unfold shs at hx
  generalize WM.words s = W at *
  unfold WM.shing at hx
  split at hx
  · cases hx
  · have h1 : x.data.toList ∈ WM.bl (WM.compS (WM.sortS (WM.wins W (min k W.length)))) := List.mem_map.2 ⟨x, hx, rfl⟩
    unfold WM.compS WM.sortS at h1
    rw [WM.bl_toB, WM.bl_toB] at h1
    have h2 : x.data.toList ∈ WM.bl (WM.wins W (min k W.length)) := (WM.ups_mem _ _).1 h1
    obtain ⟨y, hy, he⟩ := List.mem_map.1 h2
    unfold WM.wins at hy
    obtain ⟨j, _, rfl⟩ := List.mem_map.1 hy
    have h3 : x.size = x.data.toList.length := by simp
    rw [h3, ← he]
    have h4 := WM.join_len ((W.drop j).take (min k W.length))
    have h5 := WM.wt_mid W (min k W.length) j
    have h6 : (WM.win W (min k W.length) j).data.toList.length = (Go.Lib.join (WM.bl ((W.drop j).take (min k W.length))) [32]).length := by simp [WM.win, WM.joinB]
    omega
/-- a row of numbers and a code are answered -/
def SkSays (l : List Int) (c : Int) (w : World) (e : Ending) (w' : World) : Prop := ∃ v, e = .returned (.tuple #[v, .int .i64 c]) ∧ OwnZ w' w.heap.size v l ∧ Below w.heap.size w w'
def hvs (X : List ByteArray) : List Int := X.map hv
theorem hvs_snoc {X : List ByteArray} {j : Nat} {x : ByteArray} (h : X[j]? = some x) : hvs (X.take (j + 1)) = hvs (X.take j) ++ [hv x] := by
  obtain ⟨hj, rfl⟩ := List.getElem?_eq_some_iff.1 h
  rw [List.take_succ_eq_append_getElem hj]
  simp only [hvs, List.map_append, List.map_cons, List.map_nil]
def HvRel (w1 : World) (X : List ByteArray) (l i : Value) (wr : World) : Prop := ∃ j : Nat, i = .int .i64 j ∧ j ≤ X.length ∧ OwnZ wr w1.heap.size l (hvs (X.take j)) ∧ Below w1.heap.size w1 wr
set_option maxHeartbeats 2000000 in
theorem Sketch_ok (s : ByteArray) (hs : s.size ≤ 20000) (k : Nat) (hk1 : 1 ≤ k) (hk2 : k ≤ 10) (z : Nat) (hz1 : 1 ≤ z) (hz2 : z ≤ 200) (w : World) (hl : LaidT w) (hx : ∀ x ∈ shs s k, x.size ≤ 1000000000) :
    Calls Tryz.prog 7 #[.string s, .int .i64 k, .int .i64 z] w (SkSays (WM.least (hvs (shs s k)) z) 0 w) := by
  have hS : Calls Tryz.prog 16 #[.string s, .int .i64 k] w (ShSays (shs s k) 0 w) := Shingles_ok s hs k hk1 hk2 (words_wt s hs) w
  have hI := fun W => isSketch_any z true (by simp; omega) W
  have hlen := shs_len s k hs
  generalize shs s k = X at *
  have hT := fun (w' : World) (hb : Below w.heap.size w w') => hl.below hb hl.lt
  have HX := Lib.hid hx
  clear hl hs hk1 hk2 hx
  go_enter Tryz.func7, Tryz.ntmps7
  go_wp2_with fail
  refine hS.mono ?_
  rintro e w1 ⟨v, rfl, hown, hb1⟩
  obtain ⟨A, cap, rfl, hf⟩ := hown.form
  clear hS
  go_wp2_with fail
  refine (hI _).mono ?_
  rintro e w2 ⟨rfl, rfl⟩
  clear hI
  have HT := Lib.hid hT
  have HB := Lib.hid hb1
  have HF := Lib.hid hf
  clear hT hb1 hf hown
  go_wp2_with fail
  go_loopw [10, 27] (fun l i wr => HvRel w1 X l i wr) (fun _ i _ => (X.length - (intOf i).toNat))
  case atStart => exact ⟨0, rfl, by omega, OwnZ.nil _ _, Below.refl _ _⟩
  case round =>
    obtain ⟨j, rfl, hj, ho, hbw⟩ := hrel
    have hsz := hbw.size
    by_cases hlt : j < X.length
    · obtain ⟨g, rfl, _, hg2, hc⟩ := HF.out (by omega)
      have hxj := List.getElem?_eq_getElem hlt
      have hxs := HX.out X[j] (List.getElem_mem hlt)
      generalize X[j] = x at *
      have hcx : wr.cell? ⟨g, j, none⟩ = some (.string x) := (hbw.cell (p := ⟨g, j, none⟩) hg2).trans (hc j x hxj)
      have hH := hash_any x hxs wr (HT.out wr (HB.out.trans (hbw.mono HB.out.size)))
      have HS := Lib.hid (hvs_snoc hxj)
      have HO := Lib.hid (And.intro ho hbw)
      have HL := Lib.hid (show (hvs (X.take j)).length + 1 ≤ 1000000000000 by simp [hvs]; omega)
      clear ho hbw hc hxj hxs
      go_wp2_with fail
      refine hH.mono ?_
      rintro e w2 ⟨rfl, hb2⟩
      have hb2s := hb2.size
      have HO2 := Lib.hid (And.intro (HO.out.1.below hb2 (Nat.le_refl _)) (HO.out.2.trans (hb2.mono hsz)))
      clear HO hb2 hH
      go_wp2_with (at_builtin; refine app_int _ rfl (.tmp 31) (.tmp 34) rfl w1.heap.size _ _ rfl (HO2.out.1.alloc _) _ 1 [hv x] rfl ?_ rfl (litz_cells _ [hv x] _) ?d1 ?d2; intro v3 w3 hown3 hg3)
      case d1 => exact HL.out
      case d2 => simp; omega
      go_wp2_with fail
      exact ⟨⟨j + 1, by simp, by omega, by rw [HS.out]; exact hown3, (HO2.out.2.alloc (by omega) _).grown hg3 (by simp; omega) (fun q hq => HO2.out.1.base_le q hq)⟩, by simp [intOf]; omega⟩
    · obtain rfl : j = X.length := by omega
      rw [List.take_of_length_le (Nat.le_refl _)] at ho
      have hLe := leastOf_any ho (by simp [hvs]; omega) z (by omega)
      have HO := Lib.hid (And.intro ho hbw)
      clear ho hbw
      go_wp2_with fail
      refine hLe.mono ?_
      rintro e w2 ⟨v2, rfl, ho2, hg2, _⟩
      clear hLe
      go_wp2_with fail
      go_ret2
      have hb := HO.out.2.grown hg2 HO.out.2.size (fun q hq => HO.out.1.base_le q hq)
      exact ⟨v2, rfl, ho2.less HB.out.size, HB.out.trans (hb.mono HB.out.size)⟩
set_option maxHeartbeats 1000000 in
theorem Sketch_size (s : ByteArray) (hs : s.size ≤ 20000) (k : Nat) (hk1 : 1 ≤ k) (hk2 : k ≤ 10) (z : Int) (hz : (decide (1 ≤ z) && decide (z ≤ 200)) = false) (w : World) :
    Calls Tryz.prog 7 #[.string s, .int .i64 k, .int .i64 z] w (SkSays [] 1 w) := by
  have hS : Calls Tryz.prog 16 #[.string s, .int .i64 k] w (ShSays (shs s k) 0 w) := Shingles_ok s hs k hk1 hk2 (words_wt s hs) w
  have hI := fun W => isSketch_any z false hz W
  clear hs hk1 hk2 hz
  go_enter Tryz.func7, Tryz.ntmps7
  go_wp2_with fail
  refine hS.mono ?_
  rintro e w1 ⟨v, rfl, hown, hb1⟩
  clear hS hown
  go_wp2_with fail
  refine (hI _).mono ?_
  rintro e w2 ⟨rfl, rfl⟩
  go_wp2_with fail
  go_ret2
  exact ⟨_, rfl, OwnZ.nil _ _, hb1⟩
set_option maxHeartbeats 1000000 in
theorem Sketch_bad (s : ByteArray) (hs : s.size ≤ 20000) (k : Int) (hk : (decide (1 ≤ k) && decide (k ≤ 10)) = false) (z : Int) (w : World) :
    Calls Tryz.prog 7 #[.string s, .int .i64 k, .int .i64 z] w (SkSays [] 1 w) := by
  have hS := Shingles_bad s hs k hk w
  clear hs hk
  go_enter Tryz.func7, Tryz.ntmps7
  go_wp2_with fail
  refine hS.mono ?_
  rintro e w1 ⟨v, rfl, hown, hb1⟩
  clear hS hown
  go_wp2_with fail
  go_ret2
  exact ⟨_, rfl, OwnZ.nil _ _, hb1⟩
set_option maxHeartbeats 2000000 in
theorem SketchOf_ok (s : ByteArray) (hs : s.size ≤ 20000) (k : Nat) (hk1 : 1 ≤ k) (hk2 : k ≤ 10) (z : Nat) (hz1 : 1 ≤ z) (hz2 : z ≤ 200) (w : World) :
    Calls Tryz.prog 8 #[.string s, .int .i64 k, .int .i64 z] w (SkSays (WM.least (hvs (shs s k)) z) 0 w) := by
  have hF : ∀ W, Calls Tryz.prog 20 #[.string s, .int .i64 (k : Nat)] W fun e w' => e = .returned (.int .i64 0) ∧ W = w' := fun W => ShinglesFault_any s hs k true (by simp; omega) W
  have hS : ∀ W, Calls Tryz.prog 21 #[.string s, .int .i64 k] W (RowNew (shs s k) W) := fun W => ShinglesOf_any s (by omega) k hk1 (by omega) (words_wt s hs) W
  have hlen := shs_len s k hs
  have hx := shs_size s hs k
  generalize shs s k = X at *
  have HX := Lib.hid hx
  have HZ := Lib.hid hz1
  clear hs hk1 hk2 hx hz1
  have hz3 : ((z : Int) < 1) = False := by simp; have := HZ.out; omega
  have hz4 : (200 < (z : Int)) = False := by simp; omega
  have HQ : Hid (WM.least (hvs X) z = (WM.compZ (WM.sortZ (hvs X))).take z) := rfl
  go_enter Tryz.func8, Tryz.ntmps8
  go_wp2_with fail
  refine (hF _).mono ?_
  rintro e w0 ⟨rfl, rfl⟩
  clear hF
  go_wp2_with fail
  refine (hS _).mono ?_
  rintro e w1 ⟨v, rfl, hown, hb1⟩
  obtain ⟨A, cap, rfl, hf⟩ := hown.form
  have HB := Lib.hid hb1
  have HF := Lib.hid hf
  clear hS hb1 hf hown
  go_wp2_with fail
  go_loopw [9, 28] (fun l i wr => HvRel w1 X l i wr) (fun _ i _ => (X.length - (intOf i).toNat))
  case atStart => exact ⟨0, rfl, by omega, OwnZ.nil _ _, Below.refl _ _⟩
  case round =>
    obtain ⟨j, rfl, hj, ho, hbw⟩ := hrel
    have hsz := hbw.size
    by_cases hlt : j < X.length
    · obtain ⟨g, rfl, _, hg2, hc⟩ := HF.out (by omega)
      have hxj := List.getElem?_eq_getElem hlt
      have hxs := HX.out X[j] (List.getElem_mem hlt)
      generalize X[j] = x at *
      have hcx : wr.cell? ⟨g, j, none⟩ = some (.string x) := (hbw.cell (p := ⟨g, j, none⟩) hg2).trans (hc j x hxj)
      have hH := hash64_any x hxs wr
      have HS := Lib.hid (hvs_snoc hxj)
      have HO := Lib.hid (And.intro ho hbw)
      have HL := Lib.hid (show (hvs (X.take j)).length + 1 ≤ 1000000000000 by simp [hvs]; omega)
      have hlt2 := QM.fnv_lt x.data.toList
      have HV : Hid (((QM.fnv x.data.toList : Nat) : Int) / 2 = hv x) := by show _ = _; unfold hv; omega
      generalize QM.fnv x.data.toList = h at *
      clear ho hbw hc hxj hxs
      go_wp2_with fail
      refine hH.mono ?_
      rintro e w2 ⟨rfl, q2, rfl⟩
      have HO2 := Lib.hid (And.intro (HO.out.1.drewN q2) (below_drewN HO.out.2 q2))
      clear HO hH
      have hv2 : (h : Int) / 2 = hv x := HV.out
      go_wp2_with (at_builtin; refine app_int _ rfl (.tmp 32) (.tmp 37) rfl w1.heap.size _ _ rfl (HO2.out.1.alloc _) _ 1 [hv x] rfl ?_ rfl (litz_cells _ [hv x] _) ?d1 ?d2; intro v3 w3 hown3 hg3)
      case d1 => exact HL.out
      case d2 => simp; omega
      go_wp2_with fail
      exact ⟨⟨j + 1, by simp, by omega, by rw [HS.out]; exact hown3, (HO2.out.2.alloc hsz _).grown hg3 (by have h := hsz; simp only [World.size_alloc]; show w1.heap.size ≤ wr.heap.size + 1; omega) (fun q hq => HO2.out.1.base_le q hq)⟩, by simp [intOf]; omega⟩
    · obtain rfl : j = X.length := by omega
      rw [List.take_of_length_le (Nat.le_refl _)] at ho
      have hS := SortZ_any ho (by simp [hvs]; omega)
      obtain ⟨A3, cap3, rfl, -⟩ := ho.formC
      have HO := Lib.hid (And.intro ho hbw)
      clear ho hbw
      generalize hvs X = Z at *
      go_wp2_with fail
      refine hS.mono ?_
      rintro e w2 ⟨rfl, ho2, hg2⟩
      have hC := CompZ_any ho2
      clear hS ho2
      go_wp2_with fail
      refine hC.mono ?_
      rintro e w3 ⟨v3, rfl, ho3, hg3, hob⟩
      have hb3 := HO.out.2.grown (grownBy_comp hg2 hg3) HO.out.2.size (fun q hq => HO.out.1.base_le q hq)
      generalize WM.compZ (WM.sortZ Z) = C at *
      obtain ⟨A4, cap4, rfl, hlc, hcm, -⟩ := ho3.formC
      have hmin : min (z : Int) (C.length : Int) = ((min z C.length : Nat) : Int) := by omega
      have HR := Lib.hid (ho3.head (min z C.length) (by omega))
      have HT : Hid (C.take (min z C.length) = C.take z) := by
        show _ = _
        rw [Nat.min_comm, ← List.take_take]
        exact List.take_of_length_le (by rw [List.length_take]; omega)
      have hm2 : min z C.length ≤ C.length := by omega
      have HB3 := Lib.hid hb3
      clear hC ho3 hg2 hg3 hob hb3
      generalize min z C.length = m at *
      go_wp2_with fail
      go_ret2
      exact ⟨.slice A4 m cap4, rfl, by rw [HQ.out, ← HT.out]; exact HR.out.less HB.out.size, HB.out.trans (HB3.out.mono HB.out.size)⟩
set_option maxHeartbeats 1000000 in
theorem SketchOf_size (s : ByteArray) (hs : s.size ≤ 20000) (k : Nat) (hk1 : 1 ≤ k) (hk2 : k ≤ 10) (z : Int) (hz : (decide (1 ≤ z) && decide (z ≤ 200)) = false) (w : World) :
    Calls Tryz.prog 8 #[.string s, .int .i64 k, .int .i64 z] w (SkSays [] 1 w) := by
  have hF : ∀ W, Calls Tryz.prog 20 #[.string s, .int .i64 (k : Nat)] W fun e w' => e = .returned (.int .i64 0) ∧ W = w' := fun W => ShinglesFault_any s hs k true (by simp; omega) W
  have hz' : z < 1 ∨ (¬ z < 1 ∧ 200 < z) := by simp at hz; omega
  clear hs hk1 hk2 hz
  rcases hz' with h | ⟨h1, h2⟩
  all_goals
    go_enter Tryz.func8, Tryz.ntmps8
    go_wp2_with fail
    refine (hF _).mono ?_
    rintro e w0 ⟨rfl, rfl⟩
    go_wp2_with fail
    go_ret2
    exact ⟨_, rfl, OwnZ.nil _ _, Below.refl _ _⟩
set_option maxHeartbeats 1000000 in
theorem SketchOf_bad (s : ByteArray) (hs : s.size ≤ 20000) (k : Int) (hk : (decide (1 ≤ k) && decide (k ≤ 10)) = false) (z : Int) (w : World) :
    Calls Tryz.prog 8 #[.string s, .int .i64 k, .int .i64 z] w (SkSays [] 1 w) := by
  have hF : ∀ W, Calls Tryz.prog 20 #[.string s, .int .i64 k] W fun e w' => e = .returned (.int .i64 1) ∧ W = w' := fun W => ShinglesFault_any s hs k false hk W
  clear hs hk
  go_enter Tryz.func8, Tryz.ntmps8
  go_wp2_with fail
  refine (hF _).mono ?_
  rintro e w0 ⟨rfl, rfl⟩
  go_wp2_with fail
  go_ret2
  exact ⟨_, rfl, OwnZ.nil _ _, Below.refl _ _⟩
end Go.Proofs.YtplocijdbadcjaaGreatDoor
