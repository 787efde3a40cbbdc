/- The law SketchesEstimate. -/
import Derived.Test.YtplocijdbadcjaaGreatDoorSketch
import Derived.Test.YtplocijdbadcjaaGreatDoorRefEst
import Derived.Test.YtplocijdbadcjaaGreatDoorNumbers
import Derived.Test.YtplocijdbadcjaaGreatDoorSize
import Derived.Test.YtplocijdbadcjaaGreatDoorFrEq
import Derived.Test.YtplocijdbadcjaaGreatDoorProse
import Derived.Test.YtplocijdbadcjaaGreatDoorInts
namespace Go.Proofs.YtplocijdbadcjaaGreatDoor
open Go.RowKit

theorem below_only {B : Nat} {a w w' : World} {g : Nat} (h : Below B a w) (hg : w.grownBy w' (some g)) (hB : B ≤ w.heap.size) (hgB : B ≤ g) : Below B a w' := h.grown hg hB (fun k hk => by injection hk with hk; omega)
/-- both make the same sketch -/
theorem sk_both (s : ByteArray) (hs : s.size ≤ 20000) (k z : Int) : ∃ l c, (∀ W, LaidT W → Calls Tryz.prog 7 #[.string s, .int .i64 k, .int .i64 z] W (SkSays l c W)) ∧ (∀ W, Calls Tryz.prog 8 #[.string s, .int .i64 k, .int .i64 z] W (SkSays l c W)) := by
  cases hk : (decide (1 ≤ k) && decide (k ≤ 10))
  · exact ⟨[], 1, fun W _ => Sketch_bad s hs k hk z W, fun W => SketchOf_bad s hs k hk z W⟩
  · have hk' : 1 ≤ k ∧ k ≤ 10 := by simpa using hk
    obtain ⟨n, rfl⟩ := Int.eq_ofNat_of_zero_le (show 0 ≤ k by omega)
    cases hz : (decide (1 ≤ z) && decide (z ≤ 200))
    · exact ⟨[], 1, fun W _ => Sketch_size s hs n (by omega) (by omega) z hz W, fun W => SketchOf_size s hs n (by omega) (by omega) z hz W⟩
    · have hz' : 1 ≤ z ∧ z ≤ 200 := by simpa using hz
      obtain ⟨m, rfl⟩ := Int.eq_ofNat_of_zero_le (show 0 ≤ z by omega)
      exact ⟨_, 0, fun W hT => Sketch_ok s hs n (by omega) (by omega) m (by omega) (by omega) W hT (shs_size s hs n), fun W => SketchOf_ok s hs n (by omega) (by omega) m (by omega) (by omega) W⟩
theorem TookZ.below {m B g k : Nat} {w : World} {e : Ending} {w' : World} (h : TookZ m B g k w e w') : ∃ v l, e = .returned v ∧ l.length ≤ m ∧ OwnZ w' w.heap.size v l ∧ (∃ k', k' ≤ k ∧ Strm w' B g k') ∧ w.grownBy w' (some g) := h
set_option maxHeartbeats 8000000 in
theorem SketchesEstimate_any (A : Option Addr) (n cap : Nat) (w : World) (hl : Ints w w.heap.size A n) (hT : LaidT w) :
    Calls Tryz.prog 3 #[.slice A n cap] w (SaysT w) := by
  have hst := hl.strm (cap := cap)
  have HT := Lib.hid (fun (w' : World) (hb : Below w.heap.size w w') => hT.below hb hT.lt)
  clear hl hT
  go_enter Tryz.func3, Tryz.ntmps3
  go_wp2_with fail
  refine (Prose_any 12 (by omega) (by omega) w.heap.size w.heap.size 0 (by omega) _ hst).mono ?_
  rintro e w1 ⟨a, hsa, rfl, ⟨k1, hk1, hs1⟩, hg1⟩
  have hb1 : Below w.heap.size w w1 := below_only ((Below.refl _ _).alloc (Nat.le_refl _) _) hg1 (by simp) (Nat.le_refl _)
  clear hst hg1
  go_wp2_with fail
  refine (Size_any w.heap.size w.heap.size k1 (by omega) _ hs1).mono ?_
  rintro e w2 ⟨z, hz1, hz2, rfl, ⟨k2, hk2, hs2⟩, hg2⟩
  have hb2 : Below w.heap.size w w2 := below_only hb1 hg2 hb1.size (Nat.le_refl _)
  clear hs1 hb1 hg2
  have hP := pick_new 7 [.int .i64 1, .int .i64 2, .int .i64 5, .int .i64 20, .int .i64 200, .int .i64 0, .int .i64 201] 0 201 3 w.heap.size w.heap.size k2 w2 hs2 rfl (by omega) (by omega) (by decide) (by omega)
  clear hs2
  go_wp2_with fail
  refine hP.mono ?_
  rintro e w3 ⟨y, hy1, hy2, rfl, ⟨k3, hk3, hs3⟩, hg3⟩
  have hb3 : Below w.heap.size w w3 := below_only hb2 hg3 hb2.size (Nat.le_refl _)
  clear hP hb2 hg3
  have hyy := Lib.hid (show -1000000 ≤ y ∧ y ≤ 1000000 by omega)
  have hkk := Lib.hid (show k3 ≤ 1000 by simp at hk1; omega)
  obtain ⟨l, c, hA1, hA2⟩ := sk_both a (by simp at hsa; omega) z y
  have hA1' := hA1 w3 (HT.out w3 hb3)
  have H3 := Lib.hid (And.intro hs3 hb3)
  clear hsa hz1 hz2 hy1 hy2 hk1 hk2 hk3 hs3 hb3 hA1
  go_wp2_with fail
  refine hA1'.mono ?_
  rintro e w4 ⟨v4, rfl, ho4, hb4⟩
  obtain ⟨A4, c4, rfl, -⟩ := ho4.formC
  have HO4 := Lib.hid (And.intro ho4 hb4)
  clear hA1' ho4 hb4
  go_wp2_with fail
  refine (hA2 _).mono ?_
  rintro e w5 ⟨v5, rfl, ho5, hb5⟩
  have ho4' := HO4.out.1.below hb5 (Nat.le_refl _)
  have hb5' := HO4.out.2.trans (hb5.mono HO4.out.2.size)
  have hE := EqualZ_any ho4' ho5 true (by simp)
  obtain ⟨A5, c5, rfl, -⟩ := ho5.formC
  have hs5 := H3.out.1.below hb5' H3.out.1.lt
  have hc5 := H3.out.2.trans (hb5'.mono H3.out.2.size)
  have H5 := Lib.hid (And.intro hs5 hc5)
  have hcc : (c != c) = false := by simp
  clear hA2 ho4' ho5 hb5 hb5' hs5 hc5 HO4 H3
  go_wp2_with fail
  refine hE.mono ?_
  rintro e w6 ⟨rfl, q, rfl⟩
  clear hE
  have hs6 := H5.out.1.drewN q
  have hb6 := below_drewN H5.out.2 q
  have hyz := hyy.out
  have hk9 := hkk.out
  go_wp2_with fail
  refine (Numbers_any y hyz.1 hyz.2 w.heap.size w.heap.size k3 (by omega) _ hs6).mono ?_
  rintro e w7 ⟨v7, X, rfl, hX, ho7, ⟨k7, hk7, hs7⟩, hg7⟩
  have hb7 := below_only hb6 hg7 hb6.size (Nat.le_refl _)
  obtain ⟨A7, c7, rfl, -⟩ := ho7.formC
  have HB6 := Lib.hid hb6
  have hsz6 : w.heap.size < w5.heap.size := H5.out.1.lt
  clear hs6 hb6 hg7
  go_wp2_with fail
  refine (Numbers_any y hyz.1 hyz.2 w.heap.size w.heap.size k7 (by omega) _ hs7).mono ?_
  rintro e w8 ⟨v8, Y, rfl, hY, ho8, _, hg8⟩
  have hb8 := below_only hb7 hg8 hb7.size (Nat.le_refl _)
  have ho7' : OwnZ w8 w5.heap.size (.slice A7 X.length c7) X := ho7.grown hg8 (fun b hb h => by injection h with h; have : w5.heap.size ≤ b := ho7.base_le b hb; omega)
  obtain ⟨A8, c8, rfl, -⟩ := ho8.formC
  have hEs := Estimate_any ho7' ho8 (by omega) (by omega) y
  have HX := Lib.hid (And.intro hX hY)
  have H8 := Lib.hid (And.intro ho7' (And.intro ho8 hb8))
  clear hs7 hb7 ho7 ho8 ho7' hb8 hg8 hX hY hk7 hsz6 hyz hk9 HB6
  go_wp2_with fail
  refine hEs.mono ?_
  rintro e w9 ⟨rfl, hb9⟩
  clear hEs
  have ho7 := H8.out.1.below hb9 (Nat.le_refl _)
  have ho8 := H8.out.2.1.below hb9 (Nat.le_refl _)
  have hc9 := H8.out.2.2.trans (hb9.mono H8.out.2.2.size)
  generalize hp : WM.est y X Y = p at *
  have hEr := EstimateOf_any (ho7.alloc (.cells #[.int .i64 p.1.1, .int .i64 p.1.2] 35)) (ho8.alloc (.cells #[.int .i64 p.1.1, .int .i64 p.1.2] 35)) (by have := HX.out; omega) (by have := HX.out; omega) y
  rw [hp] at hEr
  have H9 := Lib.hid hc9
  clear ho7 ho8 hb9 hc9 hp
  obtain ⟨⟨p1, p2⟩, p3⟩ := p
  dsimp only at *
  go_wp2_with fail
  refine hEr.mono ?_
  rintro e w10 ⟨rfl, hb10⟩
  clear hEr
  have hk10 : Blk w10 w9.heap.size 35 #[.int .i64 p1, .int .i64 p2] := (Blk.new w9 _ _).below hb10 (by simp)
  have hk12 : Blk (w10.alloc (.cells #[.int .i64 p1, .int .i64 p2] 35)) w10.heap.size 35 #[.int .i64 p1, .int .i64 p2] := Blk.new w10 _ _
  have hk11 := hk10.alloc (.cells #[.int .i64 p1, .int .i64 p2] 35)
  have hc10 : Below w.heap.size w (w10.alloc (.cells #[.int .i64 p1, .int .i64 p2] 35)) := ((H9.out.alloc H9.out.size _).trans (hb10.mono (by have := H9.out.size; simp; omega))).alloc (by have := H9.out.size; have := hb10.size; simp at this; omega) _
  have H10 := Lib.hid (And.intro hk11 (And.intro hk12 hc10))
  have hq := fr_eql p1 p2 p1 p2
  have hpp : (p3 == p3) = true := by simp
  have hNe := nears_any
  clear hk10 hk11 hk12 hc10 hb10
  go_wp2_with fail
  refine (hNe _).mono ?_
  rintro e w11 ⟨rfl, hb11⟩
  clear hNe
  have hx1 := H10.out.1.below hb11 H10.out.1.lt
  have hx2 := H10.out.2.1.below hb11 H10.out.2.1.lt
  have d0 := hx1.cell 0
  have d1 := hx1.cell 1
  have e0 := hx2.cell 0
  have e1 := hx2.cell 1
  simp at d0 d1 e0 e1
  have H11 := Lib.hid (H10.out.2.2.trans (hb11.mono H10.out.2.2.size))
  clear hx1 hx2 hb11
  go_wp2_with fail
  go_ret
  exact ⟨by simp, H11.out⟩
end Go.Proofs.YtplocijdbadcjaaGreatDoor
