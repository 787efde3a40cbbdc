/- The law ShinglesLike. -/
import Derived.Test.YthgembgincaapaaRefLike
import Derived.Test.YthgembgincaapaaFracR
import Derived.Test.YthgembgincaapaaProse
import Derived.Test.YthgembgincaapaaChanged
import Derived.Test.YthgembgincaapaaStream
import Derived.Test.YthgembgincaapaaInts
namespace Go.Proofs.Ythgembgincaapaa
open Go.RowKit

theorem Changed_any (t d : ByteArray) (m : Nat) (ht : t.size ≤ m) (hd : d.size ≤ 1000) (hm : m ≤ 1000000000) (h2 : (d.toList.isEmpty) = false) (hp2 : 0 < d.size) (B g k : Nat) (hk : k < 100000000000) (w : World) (hs : Strm w B g k) :
    Calls Try.prog 6 #[.pointer (some ⟨g, 0, none⟩), .string t, .string d] w (TookS (m + 1000) B g (k + 3) w) := by
  by_cases h : t.toList = []
  · exact Changed_nil t d m hd B g k w hs h
  · have h1 : t.toList.isEmpty = false := by simpa using h
    have hp : 0 < t.size := by
      rcases Nat.eq_zero_or_pos t.size with e | e
      · exact absurd (by rw [ByteArray.toList_eq]; exact List.eq_nil_of_length_eq_zero (by simpa using e)) h
      · exact e
    exact Changed_some t d m ht hd hm B g k hk w hs h1 h2 hp hp2
theorem below_only {B : Nat} {a w w' : World} {g : Nat} (h : Below B a w) (hg : w.grownBy w' (some g)) (hB : B ≤ w.heap.size) (hgB : B ≤ g) : Below B a w' := h.grown hg hB (fun k hk => by injection hk with hk; omega)
theorem abx_ne : (({ data := #[97, 98, 32, 120] } : ByteArray).toList.isEmpty) = false := by decide +kernel
/-- a measure at a code -/
theorem res_ok (a b : ByteArray) (ha : a.size ≤ 20000) (hb : b.size ≤ 20000) (k : Nat) (hk1 : 1 ≤ k) (hk2 : k ≤ 10) (W : World) : Calls Try.prog 8 #[.string a, .string b, .int .i64 (k : Nat)] W fun e w' => e = .returned (.tuple #[.agg #[.int .i64 (WM.like (shs a k) (shs b k)).1, .int .i64 (WM.like (shs a k) (shs b k)).2], .int .i64 0]) ∧ Below W.heap.size W w' :=
  Resemblance_any a b _ _ 0 W (fun W => measureL_ok a b ha hb k hk1 hk2 W)
theorem res_bad (a b : ByteArray) (ha : a.size ≤ 20000) (k : Int) (hk : (decide (1 ≤ k) && decide (k ≤ 10)) = false) (W : World) : Calls Try.prog 8 #[.string a, .string b, .int .i64 k] W fun e w' => e = .returned (.tuple #[.agg #[.int .i64 0, .int .i64 0], .int .i64 1]) ∧ Below W.heap.size W w' :=
  Resemblance_any a b _ (0, 0) 1 W (fun W => measureL_bad a b ha k hk W)
theorem con_ok (a b : ByteArray) (ha : a.size ≤ 20000) (hb : b.size ≤ 20000) (k : Nat) (hk1 : 1 ≤ k) (hk2 : k ≤ 10) (W : World) : Calls Try.prog 9 #[.string a, .string b, .int .i64 (k : Nat)] W fun e w' => e = .returned (.tuple #[.agg #[.int .i64 (WM.cont (shs a k) (shs b k)).1, .int .i64 (WM.cont (shs a k) (shs b k)).2], .int .i64 0]) ∧ Below W.heap.size W w' :=
  Containment_any a b _ _ 0 W (fun W => measureC_ok a b ha hb k hk1 hk2 W)
theorem con_bad (a b : ByteArray) (ha : a.size ≤ 20000) (k : Int) (hk : (decide (1 ≤ k) && decide (k ≤ 10)) = false) (W : World) : Calls Try.prog 9 #[.string a, .string b, .int .i64 k] W fun e w' => e = .returned (.tuple #[.agg #[.int .i64 0, .int .i64 0], .int .i64 1]) ∧ Below W.heap.size W w' :=
  Containment_any a b _ (0, 0) 1 W (fun W => measureC_bad a b ha k hk W)
set_option maxHeartbeats 8000000 in
theorem ShinglesLike_any (A : Option Addr) (n cap : Nat) (w : World) (hl : Ints w w.heap.size A n) :
    Calls Try.prog 3 #[.slice A n cap] w (SaysT w) := by
  have hst := hl.strm (cap := cap)
  clear hl
  go_enter Try.func3, Try.ntmps3
  go_wp2_with fail
  refine (Prose_any 12 (by omega) (by omega) w.heap.size w.heap.size 0 (by omega) _ hst).mono ?_
  rintro e w1 ⟨a, hsa, rfl, ⟨k1, hk1, hs1⟩, hg1⟩
  have hb1 : Below w.heap.size w w1 := below_only ((Below.refl _ _).alloc (Nat.le_refl _) _) hg1 (by simp) (Nat.le_refl _)
  clear hst hg1
  go_wp2_with fail
  refine (Size_any w.heap.size w.heap.size k1 (by omega) _ hs1).mono ?_
  rintro e w2 ⟨z, hz1, hz2, rfl, ⟨k2, hk2, hs2⟩, hg2⟩
  have hb2 : Below w.heap.size w w2 := below_only hb1 hg2 hb1.size (Nat.le_refl _)
  clear hs1 hb1 hg2
  go_wp2_with fail
  refine (Changed_any a ⟨#[97, 98, 32, 120]⟩ (6 * (12 : Int).toNat) hsa (by decide) (by decide) abx_ne (by decide) w.heap.size w.heap.size k2 (by omega) _ hs2).mono ?_
  rintro e w3 ⟨b, hsb, rfl, ⟨k3, hk3, hs3⟩, hg3⟩
  have hb3 : Below w.heap.size w w3 := below_only hb2 hg3 hb2.size (Nat.le_refl _)
  clear hs2 hb2 hg3
  have HA := Lib.hid (show a.size ≤ 20000 by simp at hsa; omega)
  have HB := Lib.hid (show b.size ≤ 20000 by simp at hsb; omega)
  have HK := Lib.hid (show k3 ≤ 1000 by simp at hk1; omega)
  have H3 := Lib.hid (And.intro hs3 hb3)
  clear hsa hsb hs3 hb3 hk1 hk2 hk3
  cases hr : (decide (1 ≤ z) && decide (z ≤ 10))
  · have hS := fun W => Shingles_bad a HA.out z hr W
    have hR := fun W => res_bad a b HA.out z hr W
    have hC := fun W => con_bad a b HA.out z hr W
    have hF : ∀ W, Calls Try.prog 10 #[.string a, .int .i64 z] W fun e w' => e = .returned (.int .i64 1) ∧ W = w' := fun W => ShinglesFault_any a HA.out z false hr W
    clear hr hz1 hz2
    go_wp2_with fail
    refine (hS _).mono ?_
    rintro e w4 ⟨v4, rfl, ho4, hb4⟩
    have H4 := Lib.hid (H3.out.2.trans (hb4.mono H3.out.2.size))
    clear hS ho4 hb4
    go_wp2_with fail
    refine (hR _).mono ?_
    rintro e w5 ⟨rfl, hb5⟩
    have H5 := Lib.hid (H4.out.trans (hb5.mono H4.out.size))
    clear hR hb5
    go_wp2_with fail
    refine (hC _).mono ?_
    rintro e w6 ⟨rfl, hb6⟩
    have H6 := Lib.hid ((H5.out.alloc H5.out.size _).trans (hb6.mono (by have := H5.out.size; simp; omega)))
    clear hC hb6
    go_wp2_with fail
    refine (hF _).mono ?_
    rintro e w7 ⟨rfl, rfl⟩
    clear hF
    go_wp2_with fail
    refine (nears_any _).mono ?_
    rintro e w8 ⟨rfl, hb8⟩
    go_wp2_with fail
    go_ret
    exact ⟨rfl, (H6.out.alloc H6.out.size _).trans (hb8.mono (by have := H6.out.size; simp; omega))⟩
  · obtain ⟨k, rfl⟩ := Int.eq_ofNat_of_zero_le hz1
    have hk1 : 1 ≤ k := by simp at hr; omega
    have hk2 : k ≤ 10 := by simp at hr; omega
    have hS : ∀ W, Calls Try.prog 7 #[.string a, .int .i64 (k : Nat)] W (ShSays (shs a k) 0 W) := fun W => Shingles_ok a HA.out k hk1 hk2 (words_wt a HA.out) W
    have hR := fun W => res_ok a b HA.out HB.out k hk1 hk2 W
    have hC := fun W => con_ok a b HA.out HB.out k hk1 hk2 W
    have hF : ∀ W, Calls Try.prog 10 #[.string a, .int .i64 (k : Nat)] W fun e w' => e = .returned (.int .i64 0) ∧ W = w' := fun W => ShinglesFault_any a HA.out k true hr W
    have hSO : ∀ W, Calls Try.prog 13 #[.string a, .int .i64 (k : Nat)] W (RowNew (shs a k) W) := fun W => ShinglesOf_any a (by have := HA.out; omega) k hk1 (by omega) (words_wt a HA.out) W
    have hLO : ∀ W, Calls Try.prog 14 #[.string a, .string b, .int .i64 (k : Nat)] W fun e w' => e = .returned (.agg #[.int .i64 (WM.like (shs a k) (shs b k)).1, .int .i64 (WM.like (shs a k) (shs b k)).2]) ∧ Below W.heap.size W w' := fun W => LikeOf_any a b HA.out HB.out k hk1 hk2 W
    have hCO : ∀ W, Calls Try.prog 15 #[.string a, .string b, .int .i64 (k : Nat)] W fun e w' => e = .returned (.agg #[.int .i64 (WM.cont (shs a k) (shs b k)).1, .int .i64 (WM.cont (shs a k) (shs b k)).2]) ∧ Below W.heap.size W w' := fun W => ContainmentOf_any a b HA.out HB.out k hk1 hk2 W
    generalize (WM.like (shs a k) (shs b k)).1 = p1 at *
    generalize (WM.like (shs a k) (shs b k)).2 = p2 at *
    generalize (WM.cont (shs a k) (shs b k)).1 = c1 at *
    generalize (WM.cont (shs a k) (shs b k)).2 = c2 at *
    generalize shs a k = X at *
    have hq1 := fun W => fr_same p1 p2 W
    have hq2 := fun W => fr_same c1 c2 W
    clear hr hz1 hz2 hk1 hk2
    go_wp2_with fail
    refine (hS _).mono ?_
    rintro e w4 ⟨v4, rfl, ho4, hb4⟩
    obtain ⟨A4, cp4, rfl, _⟩ := ho4.form
    have H4 := Lib.hid (And.intro ho4 hb4)
    clear hS ho4 hb4
    go_wp2_with fail
    refine (hR _).mono ?_
    rintro e w5 ⟨rfl, hb5⟩
    have H5 := Lib.hid (And.intro (H4.out.1.below hb5 (Nat.le_refl _)) (H4.out.2.trans (hb5.mono H4.out.2.size)))
    clear hR hb5 H4
    go_wp2_with fail
    refine (hC _).mono ?_
    rintro e w6 ⟨rfl, hb6⟩
    have hs6 := hb6.size
    simp at hs6
    have H6 := Lib.hid (And.intro ((H5.out.1.alloc _).below hb6 (Nat.le_refl _)) (And.intro ((H5.out.2.alloc H5.out.2.size _).trans (hb6.mono (by have := H5.out.2.size; simp; omega))) ((Blk.new w5 34 #[.int .i64 p1, .int .i64 p2]).below hb6 (by simp))))
    clear hC hb6
    go_wp2_with fail
    refine (hF _).mono ?_
    rintro e w7 ⟨rfl, rfl⟩
    clear hF
    go_wp2_with fail
    obtain ⟨w7, hw7⟩ : ∃ w7, w6.alloc (.cells #[.int .i64 c1, .int .i64 c2] 34) = w7 := ⟨_, rfl⟩
    rw [hw7]
    have hk9 : Blk w7 w5.heap.size 34 #[.int .i64 p1, .int .i64 p2] := by rw [← hw7]; exact H6.out.2.2.alloc _
    have hk11 : Blk w7 w6.heap.size 34 #[.int .i64 c1, .int .i64 c2] := by rw [← hw7]; exact Blk.new w6 _ _
    have ho7 : OwnS w7 w3.heap.size (.slice A4 X.length cp4) X := by rw [← hw7]; exact H6.out.1.alloc _
    have hb7 : Below w3.heap.size w3 w7 := by rw [← hw7]; exact H6.out.2.1.alloc H6.out.2.1.size _
    have l9 := hk9.lt
    have l11 := hk11.lt
    have f0 : w7.cell? ⟨w5.heap.size, 0, none⟩ = some (.int .i64 p1) := hk9.cell 0
    have f1 : w7.cell? ⟨w5.heap.size, 1, none⟩ = some (.int .i64 p2) := hk9.cell 1
    have f2 : w7.cell? ⟨w6.heap.size, 0, none⟩ = some (.int .i64 c1) := hk11.cell 0
    have f3 : w7.cell? ⟨w6.heap.size, 1, none⟩ = some (.int .i64 c2) := hk11.cell 1
    have e0 : w7.drew.cell? ⟨w5.heap.size, 0, none⟩ = some (.int .i64 p1) := f0
    have e1 : w7.drew.cell? ⟨w5.heap.size, 1, none⟩ = some (.int .i64 p2) := f1
    have e2 : w7.drew.cell? ⟨w6.heap.size, 0, none⟩ = some (.int .i64 c1) := f2
    have e3 : w7.drew.cell? ⟨w6.heap.size, 1, none⟩ = some (.int .i64 c2) := f3
    have HO7 := Lib.hid ho7
    have HB7 := Lib.hid hb7
    have hSd := hSO w7.drew
    clear hw7 hk9 hk11 ho7 hb7 hSO H5 H6 hs6
    go_region_held3 (fun w' => w'.cell? ⟨w5.heap.size, 0, none⟩ = some (.int .i64 p1) ∧ w'.cell? ⟨w5.heap.size, 1, none⟩ = some (.int .i64 p2) ∧ w'.cell? ⟨w6.heap.size, 0, none⟩ = some (.int .i64 c1) ∧ w'.cell? ⟨w6.heap.size, 1, none⟩ = some (.int .i64 c2))
      (first | (with_reducible exact ⟨f0, f1, f2, f3⟩) | (with_reducible exact ⟨e0, e1, e2, e3⟩) | (with_reducible exact ⟨g0, g1, g2, g3⟩) | (with_reducible exact ⟨h0, h1, h2, h3⟩) | (with_reducible exact ⟨i0, i1, i2, i3⟩) | (with_reducible exact ⟨j0, j1, j2, j3⟩))
      (first
        | ((with_reducible refine hSd.mono ?_); rintro e w8 ⟨v8, rfl, ho8, hb8⟩; replace hb8 : Below w7.heap.size w7 w8 := ⟨hb8.os, hb8.tape, hb8.output, hb8.size, hb8.block⟩; have g0 := (hb8.cell (p := ⟨w5.heap.size, 0, none⟩) l9).trans f0; have g1 := (hb8.cell (p := ⟨w5.heap.size, 1, none⟩) l9).trans f1; have g2 := (hb8.cell (p := ⟨w6.heap.size, 0, none⟩) l11).trans f2; have g3 := (hb8.cell (p := ⟨w6.heap.size, 1, none⟩) l11).trans f3; have hE := EqualS_any (HO7.out.below hb8 (Nat.le_refl _)) ho8 true (by simp); have m9 := Nat.lt_of_lt_of_le l9 hb8.size; have m11 := Nat.lt_of_lt_of_le l11 hb8.size; have HB8 := Lib.hid (HB7.out.trans (hb8.mono HB7.out.size)); clear ho8 hb8)
        | ((with_reducible refine hE.mono ?_); rintro e w9 ⟨rfl, n9, rfl⟩; have h0 : (w8.drewN n9).cell? ⟨w5.heap.size, 0, none⟩ = some (.int .i64 p1) := g0; have h1 : (w8.drewN n9).cell? ⟨w5.heap.size, 1, none⟩ = some (.int .i64 p2) := g1; have h2 : (w8.drewN n9).cell? ⟨w6.heap.size, 0, none⟩ = some (.int .i64 c1) := g2; have h3 : (w8.drewN n9).cell? ⟨w6.heap.size, 1, none⟩ = some (.int .i64 c2) := g3; have hLd := hLO (w8.drewN n9); have HB9 := Lib.hid (below_drewN HB8.out n9))
        | ((with_reducible refine hLd.mono ?_); rintro e w10 ⟨rfl, hb10⟩; have i0 := (hb10.cell (p := ⟨w5.heap.size, 0, none⟩) m9).trans h0; have i1 := (hb10.cell (p := ⟨w5.heap.size, 1, none⟩) m9).trans h1; have i2 := (hb10.cell (p := ⟨w6.heap.size, 0, none⟩) m11).trans h2; have i3 := (hb10.cell (p := ⟨w6.heap.size, 1, none⟩) m11).trans h3; have hCd := hCO w10; have o9 := Nat.lt_of_lt_of_le m9 hb10.size; have o11 := Nat.lt_of_lt_of_le m11 hb10.size; have HB10 := Lib.hid (HB9.out.trans (hb10.mono HB9.out.size)); clear hb10)
        | ((with_reducible refine hCd.mono ?_); rintro e w11 ⟨rfl, hb11⟩; have j0 := (hb11.cell (p := ⟨w5.heap.size, 0, none⟩) o9).trans i0; have j1 := (hb11.cell (p := ⟨w5.heap.size, 1, none⟩) o9).trans i1; have j2 := (hb11.cell (p := ⟨w6.heap.size, 0, none⟩) o11).trans i2; have j3 := (hb11.cell (p := ⟨w6.heap.size, 1, none⟩) o11).trans i3; have HB11 := Lib.hid (HB10.out.trans (hb11.mono HB10.out.size)); clear hb11))
    have hs11 : Strm w11 w.heap.size w.heap.size k3 := H3.out.1.below HB11.out H3.out.1.lt
    have hb11 : Below w.heap.size w w11 := H3.out.2.trans (HB11.out.mono H3.out.2.size)
    clear hSd hE hLd hCd hLO hCO hq1 hq2 f0 f1 f2 f3 e0 e1 e2 e3 g0 g1 g2 g3 h0 h1 h2 h3 i0 i1 i2 i3 j0 j1 j2 j3 l9 l11 m9 m11 o9 o11
    have hk3 := HK.out
    go_wp2_with fail
    refine (Next_any _ (by omega) (by omega) w.heap.size w.heap.size k3 (by omega) _ hs11).mono ?_
    rintro e w12 ⟨x, hx1, hx2, rfl, hs12, hg12⟩
    have hb12 := below_only hb11 hg12 hb11.size (Nat.le_refl _)
    clear hs11 hb11 hg12
    go_wp2_with fail
    refine (Range_any _ _ (by omega) (by omega) (by omega) w.heap.size w.heap.size (k3 + 1) (by omega) _ hs12).mono ?_
    rintro e w13 ⟨y, hy1, hy2, rfl, hs13, hg13⟩
    have hb13 := below_only hb12 hg13 hb12.size (Nat.le_refl _)
    have HXY := Lib.hid (And.intro (show -10000000 ≤ x ∧ x ≤ 10000000 by omega) (show -10000000 ≤ y ∧ y ≤ 10000000 by omega))
    clear hs12 hb12 hg13 hx1 hx2 hy1 hy2
    have hP1 := pick_new 5 [.int .i64 0, .int .i64 1, .int .i64 1000000, .int .i64 1000001, .int .i64 (-1)] (-1) 1000001 3 w.heap.size w.heap.size (k3 + 1 + 1) w13 hs13 rfl (by omega) (by omega) (by decide) (by omega)
    clear hs13
    go_wp2_with fail
    refine hP1.mono ?_
    rintro e w14 ⟨u, hu1, hu2, rfl, ⟨k14, hk14, hs14⟩, hg14⟩
    have hb14 := below_only hb13 hg14 hb13.size (Nat.le_refl _)
    have HU := Lib.hid (show -10000000 ≤ u ∧ u ≤ 10000000 by omega)
    have hP2 := pick_new 5 [.int .i64 1, .int .i64 7, .int .i64 999999, .int .i64 1000000, .int .i64 1000001] 1 1000001 3 w.heap.size w.heap.size k14 w14 hs14 rfl (by omega) (by omega) (by decide) (by omega)
    clear hP1 hb13 hg14 hs14 hu1 hu2
    go_wp2_with fail
    refine hP2.mono ?_
    rintro e w15 ⟨v, hv1, hv2, rfl, _, hg15⟩
    have hb15 := below_only hb14 hg15 hb14.size (Nat.le_refl _)
    have HV := Lib.hid (show -10000000 ≤ v ∧ v ≤ 10000000 by omega)
    have HB15 := Lib.hid hb15
    clear hP2 hb14 hg15 hv1 hv2 hb15 hk14 hk3
    have HBA := Lib.hid (show ∀ W, Below ((w15.alloc (.cells #[.int .i64 x, .int .i64 y] 34)).alloc (.cells #[.int .i64 u, .int .i64 v] 34)).heap.size ((w15.alloc (.cells #[.int .i64 x, .int .i64 y] 34)).alloc (.cells #[.int .i64 u, .int .i64 v] 34)) W → Below w.heap.size w W ∧ Blk W w15.heap.size 34 #[.int .i64 x, .int .i64 y] ∧ Blk W (w15.heap.size + 1) 34 #[.int .i64 u, .int .i64 v] ∧ w15.heap.size + 1 < W.heap.size from fun W hW => by
      have hz := HB15.out.size
      rw [show ((w15.alloc (.cells #[.int .i64 x, .int .i64 y] 34)).alloc (.cells #[.int .i64 u, .int .i64 v] 34)).heap.size = w15.heap.size + 1 + 1 by simp] at hW
      have h2 := Blk.new (w15.alloc (.cells #[.int .i64 x, .int .i64 y] 34)) 34 #[.int .i64 u, .int .i64 v]
      rw [show (w15.alloc (.cells #[.int .i64 x, .int .i64 y] 34)).heap.size = w15.heap.size + 1 by simp] at h2
      have hzz := hW.size
      simp at hzz
      exact ⟨(((HB15.out.alloc hz _).alloc (by simp; omega) _)).trans (hW.mono (by omega)), (((Blk.new w15 34 #[.int .i64 x, .int .i64 y]).alloc _).below hW (by omega)), h2.below hW (by omega), by omega⟩)
    cases hr1 : WM.right x y
    · have hCm := fun W => Compare_bad1 x y (.agg #[.int .i64 u, .int .i64 v]) u v rfl HXY.out.1 HXY.out.2 hr1 W
      have hFr := fun W => FractionRight_any x y HXY.out.1 HXY.out.2 false hr1 W
      clear hr1
      go_wp2_with fail
      refine (hCm _).mono ?_
      rintro e w16 ⟨rfl, hb16⟩
      obtain ⟨hb, hkx, hky, hlt⟩ := HBA.out w16 hb16
      have d0 := hkx.cell 0
      have d1 := hkx.cell 1
      simp at d0 d1
      have HB16 := Lib.hid hb
      clear hCm hb16 hb hkx hky
      go_wp2_with fail
      refine (hFr _).mono ?_
      rintro e w17 ⟨rfl, hb17⟩
      have HB17 := Lib.hid (HB16.out.trans (hb17.mono HB16.out.size))
      clear hFr hb17 d0 d1
      go_wp2_with fail
      refine (nears_any _).mono ?_
      rintro e w18 ⟨rfl, hb18⟩
      go_wp2_with fail
      go_ret
      exact ⟨rfl, HB17.out.trans (hb18.mono HB17.out.size)⟩
    · have hFr := fun W => FractionRight_any x y HXY.out.1 HXY.out.2 true hr1 W
      cases hr2 : WM.right u v
      · have hCm := fun W => Compare_bad2 x y u v HXY.out.1 HXY.out.2 HU.out HV.out hr1 hr2 W
        have hFr2 := fun W => FractionRight_any u v HU.out HV.out false hr2 W
        clear hr1 hr2
        go_wp2_with fail
        refine (hCm _).mono ?_
        rintro e w16 ⟨rfl, hb16⟩
        obtain ⟨hb, hkx, hky, hlt⟩ := HBA.out w16 hb16
        have d0 := hkx.cell 0
        have d1 := hkx.cell 1
        simp at d0 d1
        have HB16 := Lib.hid (And.intro hb (And.intro hkx hky))
        clear hCm hb16 hb hkx hky
        go_wp2_with fail
        refine (hFr _).mono ?_
        rintro e w17 ⟨rfl, hb17⟩
        have hb17' := HB16.out.1.trans (hb17.mono HB16.out.1.size)
        have hkx := HB16.out.2.1.below hb17 HB16.out.2.1.lt
        have hky := HB16.out.2.2.below hb17 HB16.out.2.2.lt
        have d2 := hky.cell 0
        have d3 := hky.cell 1
        simp at d2 d3
        have HB17 := Lib.hid (And.intro hb17' (And.intro hkx hky))
        clear hFr hb17 hb17' hkx hky d0 d1
        go_wp2_with fail
        refine (hFr2 _).mono ?_
        rintro e w18 ⟨rfl, hb18⟩
        have hb18' := HB17.out.1.trans (hb18.mono HB17.out.1.size)
        have hkx := HB17.out.2.1.below hb18 HB17.out.2.1.lt
        have hky := HB17.out.2.2.below hb18 HB17.out.2.2.lt
        have HB18 := Lib.hid (And.intro hb18' (And.intro hkx hky))
        clear hFr2 hb18 hb18' hkx hky d2 d3
        go_wp2_with fail
        refine (nears_any _).mono ?_
        rintro e w19 ⟨rfl, hb19⟩
        go_wp2_with fail
        go_ret
        exact ⟨rfl, HB18.out.1.trans (hb19.mono HB18.out.1.size)⟩
      · have hCm := fun W => Compare_ok x y u v HXY.out.1 HXY.out.2 HU.out HV.out hr1 hr2 W
        have hFr2 := fun W => FractionRight_any u v HU.out HV.out true hr2 W
        have hCO2 := fun W => CompareOf_any x y u v (right_bounds hr1).1 (right_bounds hr1).2 (right_bounds hr2).1 (right_bounds hr2).2 W
        generalize WM.cmpI (x * v) (u * y) = z at *
        clear hr1 hr2
        go_wp2_with fail
        refine (hCm _).mono ?_
        rintro e w16 ⟨rfl, hb16⟩
        obtain ⟨hb, hkx, hky, hlt⟩ := HBA.out w16 hb16
        have d0 := hkx.cell 0
        have d1 := hkx.cell 1
        simp at d0 d1
        have HB16 := Lib.hid (And.intro hb (And.intro hkx hky))
        clear hCm hb16 hb hkx hky
        go_wp2_with fail
        refine (hFr _).mono ?_
        rintro e w17 ⟨rfl, hb17⟩
        have hb17' := HB16.out.1.trans (hb17.mono HB16.out.1.size)
        have hkx := HB16.out.2.1.below hb17 HB16.out.2.1.lt
        have hky := HB16.out.2.2.below hb17 HB16.out.2.2.lt
        have d2 := hky.cell 0
        have d3 := hky.cell 1
        simp at d2 d3
        have HB17 := Lib.hid (And.intro hb17' (And.intro hkx hky))
        clear hFr hb17 hb17' hkx hky d0 d1
        go_wp2_with fail
        refine (hFr2 _).mono ?_
        rintro e w18 ⟨rfl, hb18⟩
        have hb18' := HB17.out.1.trans (hb18.mono HB17.out.1.size)
        have hkx := HB17.out.2.1.below hb18 HB17.out.2.1.lt
        have hky := HB17.out.2.2.below hb18 HB17.out.2.2.lt
        have HB18 := Lib.hid (And.intro hb18' (And.intro hkx hky))
        clear hFr2 hb18 hb18' hkx hky d2 d3
        go_wp2_with fail
        refine (nears_any _).mono ?_
        rintro e w19 ⟨rfl, hb19⟩
        have hkx := HB18.out.2.1.below hb19 HB18.out.2.1.lt
        have hky := HB18.out.2.2.below hb19 HB18.out.2.2.lt
        have d4 := hkx.cell 0
        have d5 := hkx.cell 1
        have d6 := hky.cell 0
        have d7 := hky.cell 1
        simp at d4 d5 d6 d7
        have HB19 := Lib.hid (HB18.out.1.trans (hb19.mono HB18.out.1.size))
        clear hb19 hkx hky
        go_wp2_with fail
        refine (hCO2 _).mono ?_
        rintro e w20 ⟨rfl, hb20⟩
        go_wp2_with fail
        go_ret
        exact ⟨rfl, HB19.out.trans (hb20.mono HB19.out.size)⟩
end Go.Proofs.Ythgembgincaapaa
