/- Contract of the maker Changes. -/
import Derived.Test.YtndeifdpiimbeaaGreatDoorChgsM
import Derived.Test.YtndeifdpiimbeaaGreatDoorMakers
import Derived.Deep.DeepCutAuto
import Derived.Deep.QuietTactic
import Derived.Deep.RegionHeld3
namespace Go.Proofs.YtndeifdpiimbeaaGreatDoor
open Go.RowKit

theorem below_only {B : Nat} {a w w' : World} {g : Nat} (h : Below B a w) (hg : w.grownBy w' (some g)) (hB : B ≤ w.heap.size) (hgB : B ≤ g) : Below B a w' := h.grown hg hB (fun k hk => by injection hk with hk; omega)
theorem lit1_ne : (({ data := #[97, 98, 32, 120, 10] } : ByteArray).toList.isEmpty) = false := by decide +kernel
theorem lit2_ne : (({ data := #[99, 100, 32] } : ByteArray).toList.isEmpty) = false := by decide +kernel
theorem frozen_of {w : World} {q j : Nat} {cs : Array Value} {t : TypeId} (h : w.heap[q]? = some (.cells cs t (0, 0))) : w.frozen? ⟨q, j, none⟩ = false := by simp [World.frozen?, h]
/-- changes of small size are answered -/
def ChzNew (B : Nat) (w : World) (e : Ending) (w' : World) : Prop := ∃ (base : Nat) (AD : Option Addr) (D : List WM.ZC) (cD : Nat), e = .returned (.slice AD D.length cD) ∧ RdZ w' base AD D ∧ OkZ D ∧ Below B w w'
set_option maxHeartbeats 8000000 in
set_option maxRecDepth 100000 in
theorem Changes_any (a : ByteArray) (ha : a.size ≤ 500) (B g k : Nat) (hk : k < 10000000000) (w : World) (hs : Strm w B g k) (hm : Mx w) (hmB : 0 < B) (hBw : B ≤ w.heap.size) :
    Calls Tryz.prog 5 #[.pointer (some ⟨g, 0, none⟩), .string a] w (ChzNew B w) := by
  have hBg := hs.le
  have HA := Lib.hid ha
  have HM := Lib.hid (And.intro hm hmB)
  clear hm hmB
  go_enter Tryz.func5, Tryz.ntmps5
  go_wp2_with fail
  refine (ChangedD_any a ⟨#[97, 98, 32, 120, 10]⟩ 500 5 ha (by decide) (by decide) (by decide) lit1_ne (by decide) B g k (by omega) _ hs).mono ?_
  rintro e w2 ⟨t, hst2, rfl, ⟨k2, hk2, hs2⟩, hg2⟩
  have hb2 : Below B w w2 := below_only (Below.refl _ _) hg2 hBw hBg
  clear hs hg2
  go_wp2_with fail
  refine (ChangedD_any t ⟨#[99, 100, 32]⟩ 505 5 (by omega) (by decide) (by decide) (by decide) lit2_ne (by decide) B g k2 (by omega) _ hs2).mono ?_
  rintro e w3 ⟨b, hsb, rfl, ⟨k3, hk3, hs3⟩, hg3⟩
  have hB2 := Nat.le_trans hBw hb2.size
  have hb3 : Below B w w3 := below_only hb2 hg3 hB2 hBg
  have hB3 := Nat.le_trans hBw hb3.size
  clear hs2 hg3 hb2 hB2
  have HB := Lib.hid (show b.size ≤ 600 by omega)
  have hDf := DifferOf_any a b (few_of (by omega)) (few_of (by omega)) w3 (HM.out.1.below hb3 HM.out.2)
  have HDA := Lib.hid (differ_at (a := a) (b := b) (by omega))
  have HDC := Lib.hid (differ_okc (a := a) (b := b) (by omega) (by omega))
  have HDL := Lib.hid (show (WM.differ (WM.toks a) (WM.toks b)).length ≤ 2001 by have h1 := differ_len (WM.toks a) (WM.toks b); have h2 := (few_of (s := a) (by omega)).2; omega)
  generalize WM.differ (WM.toks a) (WM.toks b) = D at *
  clear hsb hst2 ha
  go_wp2_with fail
  refine hDf.mono ?_
  rintro e w4 ⟨v4, rfl, ho4, hb4⟩
  have hs4 := hs3.below hb4 hs3.lt
  have hb4' : Below B w w4 := hb3.trans (hb4.mono hB3)
  have hB4 := Nat.le_trans hB3 hb4.size
  have hgW := hs3.lt
  have HO4 := Lib.hid ho4
  obtain ⟨AD, cD, rfl, hz4⟩ := ho4.zat
  have hsz4 := hb4.size
  have HZ4 := Lib.hid hz4
  have H4 := Lib.hid (And.intro hb4' hs4)
  have hdl := HDL.out
  generalize w3.heap.size = W3 at *
  clear hDf ho4 hb4 hb3 hs3 hb4' hz4
  go_wp2_with fail
  refine (Flip_any 3 (by omega) (by omega) B g k3 (by omega) _ hs4).mono ?_
  rintro e w5 ⟨fl, rfl, hs5, hg5⟩
  have hb5 : Below B w w5 := below_only H4.out.1 hg5 hB4 hBg
  have HB5 := Lib.hid (And.intro hb5 (Nat.le_trans hBw hb5.size))
  have HS5 := Lib.hid (show W3 ≤ w5.heap.size from Nat.le_trans hsz4 hg5.size)
  have HO5 := Lib.hid (HO4.out.grownG hg5 hgW)
  have HZ5 := Lib.hid (fun h0 => by
    obtain ⟨q, e, hq0, hq, ⟨cs, tt, hh⟩, hz⟩ := HZ4.out h0
    exact (⟨q, e, hq0, Nat.lt_of_lt_of_le hq hg5.size, ⟨cs, tt, (hg5.block q hq (fun e => by injection e with e; omega)).trans hh⟩, fun n c hc => (hz n c hc).grown hg5 hq (by omega) hgW⟩ : ∃ q, AD = some ⟨q, 0, none⟩ ∧ W3 ≤ q ∧ q < w5.heap.size ∧ (∃ cs t, w5.heap[q]? = some (.cells cs t (0, 0))) ∧ ∀ (n : Nat) (c : WM.Chg), D[n]? = some c → ZAt w5 W3 q n c.z))
  clear hs4 hg5 hb5 HZ4 H4 HO4
  cases fl
  case false =>
    go_wp2_with fail
    go_ret
    refine ⟨W3, AD, D.map WM.Chg.z, cD, by rw [List.length_map]; rfl, ?_, okz_map HDC.out (by omega), HB5.out.1⟩
    by_cases h0 : 0 < D.length
    · obtain ⟨q, rfl, _, hq, _, hz⟩ := HZ5.out h0
      exact rdz_of hq (zat_map hz)
    · exact rdz_nil h0
  case true =>
    by_cases h0 : 0 < D.length
    · obtain ⟨q, rfl, hqb, hq, ⟨cs, tt, hh⟩, hz⟩ := HZ5.out h0
      have HH := Lib.hid (And.intro hh hz)
      clear hh hz
      go_wp2_with fail
      refine (Next_any D.length (by omega) (by omega) B g (k3 + 1) (by omega) _ hs5).mono ?_
      rintro e w6 ⟨r, hr1, hr2, rfl, hs6, hg6⟩
      obtain ⟨i, rfl⟩ := Int.eq_ofNat_of_zero_le hr1
      have hi : i < D.length := by omega
      have hqg : q ≠ g := by omega
      have hq6 := Nat.lt_of_lt_of_le hq hg6.size
      have HZ6 := Lib.hid (And.intro ((hg6.block q hq (fun e => hqg (Option.some.inj e))).trans HH.out.1) (And.intro (fun n c hc => (HH.out.2 n c hc).grown hg6 hq hqg hgW) (And.intro (below_only HB5.out.1 hg6 HB5.out.2 hBg) (And.intro (Nat.le_trans HB5.out.2 hg6.size) (And.intro (HO5.out.grownG hg6 hgW) (Nat.le_trans HS5.out hg6.size))))))
      clear hr1 hr2 hs5 hg6
      go_wp2_with fail
      refine (Next_any 5 (by omega) (by omega) B g (k3 + 1 + 1) (by omega) _ hs6).mono ?_
      rintro e w7 ⟨r, hr1, hr2, rfl, hs7, hg7⟩
      have hq7 := Nat.lt_of_lt_of_le hq6 hg7.size
      have HZ7 := Lib.hid (And.intro ((hg7.block q hq6 (fun e => hqg (Option.some.inj e))).trans HZ6.out.1) (And.intro (fun n c hc => (HZ6.out.2.1 n c hc).grown hg7 hq6 hqg hgW) (And.intro (below_only HZ6.out.2.2.1 hg7 HZ6.out.2.2.2.1 hBg) (And.intro (Nat.le_trans HZ6.out.2.2.2.1 hg7.size) (And.intro (HZ6.out.2.2.2.2.1.grownG hg7 hgW) (Nat.le_trans HZ6.out.2.2.2.2.2 hg7.size))))))
      have hx := List.getElem?_eq_getElem hi
      generalize D[i] = c0 at hx
      have HC0 := Lib.hid (HDC.out c0 (List.mem_of_getElem? hx))
      have HX := Lib.hid hx
      have HZI := Lib.hid (HZ7.out.2.1 i c0 hx)
      obtain ⟨A1, c1, A2, c2, p0, p1, p2, o1, o2, n1, n2⟩ := HZ7.out.2.1 i c0 hx
      simp only [WM.Chg.z] at p0 p1 p2 o1 o2 n1 n2
      have HO := Lib.hid (And.intro o1 (And.intro o2 (And.intro n1 n2)))
      have f0 : w7.frozen? ⟨q, i * 3, none⟩ = false := by simp [World.frozen?, HZ7.out.1]
      have f1 : w7.frozen? ⟨q, i * 3 + 1, none⟩ = false := by simp [World.frozen?, HZ7.out.1]
      have f2 : w7.frozen? ⟨q, i * 3 + 2, none⟩ = false := by simp [World.frozen?, HZ7.out.1]
      have hal := HDA.out c0 (List.mem_of_getElem? hx)
      clear hx o1 o2 n1 n2 hg7 hs6 HZ5 HZ6 HH
      rcases (show r = 0 ∨ r = 1 ∨ r = 2 ∨ r = 3 ∨ r = 4 by omega) with rfl | rfl | rfl | rfl | rfl
      · clear hr1 hr2
        go_upto_region 7 with fail
        go_region_with (go_at_call 17; refine (Range_any (-2) 2 (by omega) (by omega) (by omega) B g (k3 + 1 + 1 + 1) (by omega) _ (by first | exact hs7 | exact hs7.drew | exact hs7.drewN _)).mono ?_; rintro e w8 ⟨r, hr1, hr2, rfl, hs8, hg8⟩; have p0' := (World.cell?_of_block (a := ⟨q, i * 3, none⟩) (hg8.block q hq7 (fun e => hqg (Option.some.inj e)))).trans p0; have hh8 := (hg8.block q hq7 (fun e => hqg (Option.some.inj e))).trans HZ7.out.1; have f0' : w8.frozen? ⟨q, i * 3, none⟩ = false := frozen_of hh8; have hg8' : w7.grownBy w8 (some g) := ⟨hg8.os, hg8.tape, hg8.output, hg8.size, hg8.block⟩; have H8 := Lib.hid (And.intro hs8 hg8'); clear hh8 hs8 hg8 hg8')
        all_goals go_wp2_with fail
        all_goals go_ret
        all_goals exact ⟨W3, some ⟨q, 0, none⟩, (D.map WM.Chg.z).set i ⟨IntKind.i64.wrap ((c0.at_ : Int) + r), c0.drop, c0.add⟩, cD, by rw [List.length_set, List.length_map]; rfl, rdz_of (by simpa using Nat.lt_of_lt_of_le hq7 H8.out.2.size) (zat_upd (zat_map (fun n c hc => (HZ7.out.2.1 n c hc).grown H8.out.2 hq7 hqg hgW)) (zat_at _ (HZI.out.grown H8.out.2 hq7 hqg hgW)) ⟨Nat.le_refl _, by omega⟩), okz_set (okc_map HDC.out) (by rw [List.length_map]; omega) (HC0.out.1.moved _), below_only (below_only HZ7.out.2.2.1 H8.out.2 HZ7.out.2.2.2.1 hBg) (grown_set _ q _ _) (Nat.le_trans HZ7.out.2.2.2.1 H8.out.2.size) (by omega)⟩
      · clear hr1 hr2
        go_upto_region 9 with fail
        have hCl := Clone_any c0.drop c0.drop.length rfl A1 c1 w7 (HO.out.1.rdo) (by have h1 := WM.wt_len c0.drop; have h2 := HC0.out.2.1; omega)
        go_wp2_with fail
        refine hCl.mono ?_
        rintro e w8 ⟨v8, rfl, ho8, hb8⟩
        have hs8 := hs7.below hb8 hs7.lt
        have H8 := Lib.hid (And.intro ho8 hb8)
        clear hCl ho8 hb8
        go_wp2_with fail
        refine (one_memN 4 lit4 3 9 B g (k3 + 1 + 1 + 1) w8 hs8 rfl (by omega) (by omega) lit4_str (by omega)).mono ?_
        rintro e w9 ⟨j, u, hu, rfl, hs9, hg9⟩
        have hux := lit4_ok hu
        have hq8 := Nat.lt_of_lt_of_le hq7 H8.out.2.size
        have ho9 : OwnS w9 w7.heap.size v8 c0.drop := H8.out.1.grown hg9 (fun k hk e => by have h1 := H8.out.1.base_le k hk; have h2 := hs7.lt; injection e with e; omega)
        have hK9 : ∀ k, k < w7.heap.size → k ≠ g → w9.heap[k]? = w7.heap[k]? := fun k h1 h2 => (hg9.block k (Nat.lt_of_lt_of_le h1 H8.out.2.size) (fun e => h2 (Option.some.inj e))).trans (H8.out.2.block k h1)
        have hB8 := Nat.le_trans HZ7.out.2.2.2.1 H8.out.2.size
        have hb9 : Below B w w9 := below_only (HZ7.out.2.2.1.trans (H8.out.2.mono HZ7.out.2.2.2.1)) hg9 hB8 hBg
        have H9 := Lib.hid (And.intro ho9 (And.intro hK9 (And.intro hb9 (And.intro (Nat.le_trans H8.out.2.size hg9.size) hux))))
        have HB7 := Lib.hid (And.intro HZ7.out.2.2.2.1 HZ7.out.2.2.2.2.2)
        clear hu hs9 hg9 hux ho9 hK9 hb9 hs8 hs7
        go_wp2_with (at_builtin; refine app_strs _ rfl (.tmp 53) (.tmp 57) rfl w7.heap.size v8 c0.drop rfl (H9.out.1.alloc _) ⟨w9.heap.size, 0, none⟩ 1 [u] rfl ?_ rfl (lits_cells w9 [u] _) ?e1 (Nat.le_trans H9.out.2.2.2.1 (by simp)); intro v10 w10 hown10 hg10; obtain ⟨A10, c10, hv10, _⟩ := hown10.rd; cases hv10; have hK : ∀ k, k < w7.heap.size → k ≠ g → w10.heap[k]? = w7.heap[k]? := fun k h1 h2 => (hg10.block k (Nat.lt_of_lt_of_le h1 (Nat.le_trans H9.out.2.2.2.1 (by simp))) (fun e => by have := H8.out.1.base_le k e.symm; omega)).trans ((Below.heap_alloc w9 _ k (Nat.lt_of_lt_of_le h1 H9.out.2.2.2.1)).trans (H9.out.2.1 k h1 h2)); have hh10 := (hK q hq7 hqg).trans HZ7.out.1; have r1 := (World.cell?_of_block (a := ⟨q, i * 3 + 1, none⟩) (hK q hq7 hqg)).trans p1; have f1' : w10.frozen? ⟨q, i * 3 + 1, none⟩ = false := frozen_of hh10; have H10 := Lib.hid (And.intro hown10 (And.intro hK (And.intro ((H9.out.2.2.1.alloc (Nat.le_trans HB7.out.1 H9.out.2.2.2.1) _).grown hg10 (Nat.le_trans HB7.out.1 (Nat.le_trans H9.out.2.2.2.1 (by simp))) (fun k hk => Nat.le_trans HB7.out.1 (H8.out.1.base_le k hk))) (Nat.lt_of_lt_of_le hq7 (Nat.le_trans H9.out.2.2.2.1 (Nat.le_trans (by simp) hg10.size)))))); clear hown10 hg10 hK hh10 p0 p1 p2)
        case e1 => have h1 := WM.wt_len c0.drop; have h2 := HC0.out.2.1; omega
        go_ret
        have hne : (Value.slice A10 (c0.drop ++ [u]).length c10).ownBlock ≠ some q := fun e => by have := H10.out.1.base_le q e; omega
        exact ⟨W3, some ⟨q, 0, none⟩, (D.map WM.Chg.z).set i ⟨c0.at_, c0.drop ++ [u], c0.add⟩, cD, by rw [List.length_set, List.length_map]; rfl, rdz_of (by simpa using H10.out.2.2.2) (zat_upd (zat_map (fun n c hc => (HZ7.out.2.1 n c hc).keep H10.out.2.1 hq7 hqg hgW)) (by have h := zat_drop (HZI.out.keep H10.out.2.1 hq7 hqg hgW) (H10.out.1.less HB7.out.2) hne; rw [List.length_append] at h; exact h) ⟨Nat.le_add_right _ _, by omega⟩), okz_set (okc_map HDC.out) (by rw [List.length_map]; omega) (okc_drop HC0.out H9.out.2.2.2.2), below_only H10.out.2.2.1 (grown_set _ q _ _) (Nat.le_trans hBw H10.out.2.2.1.size) (by omega)⟩
      · clear hr1 hr2
        go_upto_region 11 with fail
        have hCl := Clone_any c0.add c0.add.length rfl A2 c2 w7 (HO.out.2.1.rdo) (by have h1 := WM.wt_len c0.add; have h2 := HC0.out.2.2; omega)
        go_wp2_with fail
        refine hCl.mono ?_
        rintro e w8 ⟨v8, rfl, ho8, hb8⟩
        have hs8 := hs7.below hb8 hs7.lt
        have hRp := Repeat_x w8
        obtain ⟨A8, c8, rfl, _⟩ := ho8.rd
        have H80 := Lib.hid (And.intro ho8 (And.intro hb8 hs8))
        clear hCl ho8 hb8 hs8
        go_wp2_with fail
        refine hRp.mono ?_
        rintro e w8' ⟨rfl, hb8'⟩
        have hs8 := H80.out.2.2.below hb8' H80.out.2.2.lt
        obtain ⟨v8, hv8⟩ : ∃ v8, v8 = Value.slice A8 c0.add.length c8 := ⟨_, rfl⟩
        have H8 := Lib.hid (show OwnS w8' w7.heap.size (Value.slice A8 c0.add.length c8) c0.add ∧ Below w7.heap.size w7 w8' from ⟨H80.out.1.below hb8' (Nat.le_refl _), H80.out.2.1.trans (hb8'.mono H80.out.2.1.size)⟩)
        clear hRp hb8' hv8 v8
        obtain ⟨mx, hmx⟩ : ∃ mx, mx = manyX := ⟨_, rfl⟩
        have HMX := Lib.hid hmx
        rw [← hmx]
        clear hmx
        go_wp2_with fail
        have hOne := one_memN 5 lit5 20000 9 B g (k3 + 1 + 1 + 1) w8' hs8 rfl (by omega) (by omega) lit5_str (by omega)
        unfold lit5 at hOne
        rw [← HMX.out] at hOne
        refine hOne.mono ?_
        rintro e w9 ⟨j, u, hu0, rfl, hs9, hg9⟩
        have hu : lit5[j]? = some (.string u) := by unfold lit5; rw [← HMX.out]; exact hu0
        clear hOne hu0
        have hux := lit5_ok hu
        have hq8 := Nat.lt_of_lt_of_le hq7 H8.out.2.size
        have ho9 : OwnS w9 w7.heap.size (Value.slice A8 c0.add.length c8) c0.add := H8.out.1.grown hg9 (fun k hk e => by have h1 := H8.out.1.base_le k hk; have h2 := hs7.lt; injection e with e; omega)
        have hK9 : ∀ k, k < w7.heap.size → k ≠ g → w9.heap[k]? = w7.heap[k]? := fun k h1 h2 => (hg9.block k (Nat.lt_of_lt_of_le h1 H8.out.2.size) (fun e => h2 (Option.some.inj e))).trans (H8.out.2.block k h1)
        have hB8 := Nat.le_trans HZ7.out.2.2.2.1 H8.out.2.size
        have hb9 : Below B w w9 := below_only (HZ7.out.2.2.1.trans (H8.out.2.mono HZ7.out.2.2.2.1)) hg9 hB8 hBg
        have H9 := Lib.hid (And.intro ho9 (And.intro hK9 (And.intro hb9 (And.intro (Nat.le_trans H8.out.2.size hg9.size) hux))))
        have HB7 := Lib.hid (And.intro HZ7.out.2.2.2.1 HZ7.out.2.2.2.2.2)
        clear hu hs9 hg9 hux ho9 hK9 hb9 hs8 hs7
        go_wp2_with (at_builtin; refine app_strs _ rfl (.tmp 68) (.tmp 73) rfl w7.heap.size (Value.slice A8 c0.add.length c8) c0.add rfl (H9.out.1.alloc _) ⟨w9.heap.size, 0, none⟩ 1 [u] rfl ?_ rfl (lits_cells w9 [u] _) ?e1 (Nat.le_trans H9.out.2.2.2.1 (by simp)); intro v10 w10 hown10 hg10; obtain ⟨A10, c10, hv10, _⟩ := hown10.rd; cases hv10; have hK : ∀ k, k < w7.heap.size → k ≠ g → w10.heap[k]? = w7.heap[k]? := fun k h1 h2 => (hg10.block k (Nat.lt_of_lt_of_le h1 (Nat.le_trans H9.out.2.2.2.1 (by simp))) (fun e => by have := H8.out.1.base_le k e.symm; omega)).trans ((Below.heap_alloc w9 _ k (Nat.lt_of_lt_of_le h1 H9.out.2.2.2.1)).trans (H9.out.2.1 k h1 h2)); have hh10 := (hK q hq7 hqg).trans HZ7.out.1; have r1 := (World.cell?_of_block (a := ⟨q, i * 3 + 2, none⟩) (hK q hq7 hqg)).trans p2; have f2' : w10.frozen? ⟨q, i * 3 + 2, none⟩ = false := frozen_of hh10; have H10 := Lib.hid (And.intro hown10 (And.intro hK (And.intro ((H9.out.2.2.1.alloc (Nat.le_trans HB7.out.1 H9.out.2.2.2.1) _).grown hg10 (Nat.le_trans HB7.out.1 (Nat.le_trans H9.out.2.2.2.1 (by simp))) (fun k hk => Nat.le_trans HB7.out.1 (H8.out.1.base_le k hk))) (Nat.lt_of_lt_of_le hq7 (Nat.le_trans H9.out.2.2.2.1 (Nat.le_trans (by simp) hg10.size)))))); clear hown10 hg10 hK hh10 p0 p1 p2)
        case e1 => have h1 := WM.wt_len c0.add; have h2 := HC0.out.2.2; omega
        go_ret
        have hne : (Value.slice A10 (c0.add ++ [u]).length c10).ownBlock ≠ some q := fun e => by have := H10.out.1.base_le q e; omega
        exact ⟨W3, some ⟨q, 0, none⟩, (D.map WM.Chg.z).set i ⟨c0.at_, c0.drop, c0.add ++ [u]⟩, cD, by rw [List.length_set, List.length_map]; rfl, rdz_of (by simpa using H10.out.2.2.2) (zat_upd (zat_map (fun n c hc => (HZ7.out.2.1 n c hc).keep H10.out.2.1 hq7 hqg hgW)) (by have h := zat_add (HZI.out.keep H10.out.2.1 hq7 hqg hgW) (H10.out.1.less HB7.out.2) hne; rw [List.length_append] at h; exact h) ⟨Nat.le_add_right _ _, by omega⟩), okz_set (okc_map HDC.out) (by rw [List.length_map]; omega) (okc_add HC0.out H9.out.2.2.2.2), below_only H10.out.2.2.1 (grown_set _ q _ _) (Nat.le_trans hBw H10.out.2.2.1.size) (by omega)⟩
      · clear hr1 hr2
        go_wp2_with fail
        have h1 := zat_upd (zat_map HZ7.out.2.1) (zat_drop (A := none) (k := 0) (l := []) HZI.out (OwnS.nil _ _) (by simp [Value.ownBlock])) ⟨Nat.le_add_right _ _, by omega⟩
        have h2 := zat_upd h1 (zat_add (A := none) (k := 0) (l := []) (h1 i _ (List.getElem?_set_self (by rw [List.length_map]; exact hi))) (OwnS.nil _ _) (by simp [Value.ownBlock])) ⟨Nat.le_add_right _ _, by omega⟩
        rw [List.set_set] at h2
        go_ret
        exact ⟨W3, some ⟨q, 0, none⟩, (D.map WM.Chg.z).set i ⟨c0.at_, [], []⟩, cD, by rw [List.length_set, List.length_map]; rfl, rdz_of (by simpa using hq7) h2, okz_set (okc_map HDC.out) (by rw [List.length_map]; omega) (okc_none c0.z), below_only (below_only HZ7.out.2.2.1 (grown_set _ q _ _) HZ7.out.2.2.2.1 (by omega)) (grown_set _ q _ _) (by simpa using HZ7.out.2.2.2.1) (by omega)⟩
      · clear hr1 hr2
        obtain ⟨L, hL1, hL2, hL3⟩ := HZ7.out.2.2.2.2.1
        obtain ⟨d0, hd0⟩ : ∃ d0, D[0]? = some d0 := ⟨_, List.getElem?_eq_getElem h0⟩
        obtain ⟨⟨x1, vd, va⟩, hx0⟩ : ∃ x, L[0]? = some x := ⟨_, List.getElem?_eq_getElem (show 0 < L.length by omega)⟩
        have hR := hL3 0 d0 _ hd0 hx0
        have e1 : x1 = d0.at_ := hR.1
        subst e1
        obtain ⟨m0, m1, m2⟩ := ccells_at L 0 _ hx0
        have q0 : w7.cell? ⟨q, 0, none⟩ = some (.int .i64 (d0.at_ : Nat)) := (World.ownsRow.cellAt hL1 0 (by omega)).trans m0
        have q1 : w7.cell? ⟨q, 1, none⟩ = some vd := (World.ownsRow.cellAt hL1 1 (by omega)).trans m1
        have q2 : w7.cell? ⟨q, 2, none⟩ = some va := (World.ownsRow.cellAt hL1 2 (by omega)).trans m2
        have HR := Lib.hid hR
        have HD0 := Lib.hid (HDC.out d0 (List.mem_of_getElem? hd0))
        have hoc := HZ7.out.2.2.2.2.1
        have HW7 := Lib.hid HZ7.out.2.2.2.2.2
        clear hL1 hL2 hL3 hd0 hx0 hR m0 m1 m2 p0 p1 p2 f0 f1 f2
        go_wp2_with (at_builtin; refine app_chg _ rfl (.tmp 29) (.tmp 33) rfl W3 (.slice (some ⟨q, 0, none⟩) D.length cD) D rfl (hoc.alloc _) _ d0 vd va (HR.out.alloc _) rfl ?_ (lits_chg w7 d0.at_ vd va _) (by omega) (Nat.le_trans HW7.out (by simp)); intro v8 w8 hown8 hg8; obtain ⟨A8, c8, hv8, hz8⟩ := hown8.zat; cases hv8)
        go_ret
        refine ⟨W3, A8, (D ++ [d0]).map WM.Chg.z, c8, by rw [List.length_map, List.length_append]; rfl, ?_, okz_map (fun c hc => ?_) (by rw [List.length_append]; simp; omega), ((HZ7.out.2.2.1).alloc HZ7.out.2.2.2.1 _).grown hg8 (Nat.le_trans HZ7.out.2.2.2.1 (by simp)) (fun j hj => by simp [Value.ownBlock] at hj; omega)⟩
        · obtain ⟨q8, rfl, _, hq8, _, hz⟩ := hz8 (by simp)
          exact rdz_of hq8 (zat_map hz)
        · rcases List.mem_append.1 hc with hc | hc
          · exact HDC.out c hc
          · simp at hc; subst hc; exact HD0.out
    · go_wp2_with fail
      go_ret
      exact ⟨W3, AD, D.map WM.Chg.z, cD, by rw [List.length_map]; rfl, rdz_nil h0, okz_map HDC.out (by omega), HB5.out.1⟩
end Go.Proofs.YtndeifdpiimbeaaGreatDoor
