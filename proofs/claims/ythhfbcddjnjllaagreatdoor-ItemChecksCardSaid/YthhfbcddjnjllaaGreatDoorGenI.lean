/- Contract of the maker of an item. -/
import Derived.Test.YthhfbcddjnjllaaGreatDoorItem
import Derived.Test.YthhfbcddjnjllaaGreatDoorGenB
import Derived.Test.YthhfbcddjnjllaaGreatDoorBlk
namespace Go.Proofs.YthhfbcddjnjllaaGreatDoor
open Go.RowKit

def It.sane (x : It) : Prop := x.small ∧ (-2000000000000 ≤ x.kind ∧ x.kind ≤ 2000000000000) ∧ (-2000000000000 ≤ x.at' ∧ x.at' ≤ 2000000000000)
/-- an item; of what was there only the stream has turned -/
def TookI (B g k : Nat) (w : World) (e : Ending) (w' : World) : Prop := ∃ x : It, x.sane ∧ e = .returned (.agg x.cells) ∧ (∃ k', k' ≤ k ∧ Strm w' B g k') ∧ w.grownBy w' (some g)
theorem tookI_of {x : It} {B g k k' : Nat} {w w' : World} (h : x.sane) (hs : Strm w' B g k') (hk : k' ≤ k) (hg : w.grownBy w' (some g)) : TookI B g k w (.returned (.agg x.cells)) w' := ⟨x, h, rfl, ⟨k', hk, hs⟩, hg⟩
theorem Boxed.grown {x : It} {b g : Nat} {w w' : World} (h : Boxed x b w) (hb : w.grownBy w' (some g)) (hl : b < w.heap.size) (hne : b ≠ g) : Boxed x b w' := by
  have hc : ∀ i, w'.cell? ⟨b, i, none⟩ = w.cell? ⟨b, i, none⟩ := fun i => World.cell?_of_block (hb.block b hl (by simpa using hne))
  exact ⟨(hc _).trans h.c0, (hc _).trans h.c1, (hc _).trans h.c2, (hc _).trans h.c3, (hc _).trans h.c4, (hc _).trans h.c5, (hc _).trans h.c6⟩

def It.zero : It := ⟨⟨#[]⟩, ⟨#[]⟩, 0, ⟨#[]⟩, 0, ⟨#[]⟩, ⟨#[]⟩⟩
/-- inside the maker: block bx has the item, the result's own block is still zero -/
structure InGen (x : It) (bx : Nat) (w W : World) (B g : Nat) : Prop where
  grown : w.grownBy W (some g)
  res : Blk W w.heap.size 30 It.zero.cells
  box : Blk W bx 30 x.cells
  lt : w.heap.size < bx
  gl : g < w.heap.size
theorem InGen.call {x : It} {bx : Nat} {w W W' : World} {B g : Nat} (h : InGen x bx w W B g) (hg : W.grownBy W' (some g)) : InGen x bx w W' B g :=
  ⟨h.grown.trans hg, h.res.grown hg (by have := h.gl; simp; omega), h.box.grown hg (by have := h.gl; have := h.lt; simp; omega), h.lt, h.gl⟩
theorem InGen.store {x x' : It} {bx f : Nat} {u : Value} {w W : World} {B g : Nat} (h : InGen x bx w W B g) (he : x.cells.setIfInBounds f u = x'.cells) : InGen x' bx w (W.setCell ⟨bx, f, none⟩ u) B g :=
  ⟨only_setCell' h.grown (by have := h.lt; omega) u, h.res.far (by show _ ≠ bx; have := h.lt; omega) u, he ▸ h.box.set_ f u, h.lt, h.gl⟩
theorem InGen.boxed {x : It} {bx : Nat} {w W : World} {B g : Nat} (h : InGen x bx w W B g) : Boxed x bx W :=
  ⟨h.box.cell 0, h.box.cell 1, h.box.cell 2, h.box.cell 3, h.box.cell 4, h.box.cell 5, h.box.cell 6⟩
structure Zeroed (b : Nat) (w : World) : Prop where
  c0 : w.cell? ⟨b, 0, none⟩ = some (.string ⟨#[]⟩)
  c1 : w.cell? ⟨b, 1, none⟩ = some (.string ⟨#[]⟩)
  c2 : w.cell? ⟨b, 2, none⟩ = some (.int .i64 0)
  c3 : w.cell? ⟨b, 3, none⟩ = some (.string ⟨#[]⟩)
  c4 : w.cell? ⟨b, 4, none⟩ = some (.int .i64 0)
  c5 : w.cell? ⟨b, 5, none⟩ = some (.string ⟨#[]⟩)
  c6 : w.cell? ⟨b, 6, none⟩ = some (.string ⟨#[]⟩)
  f : ∀ i, w.frozen? ⟨b, i, none⟩ = false
theorem InGen.zeroed {x : It} {bx : Nat} {w W : World} {B g : Nat} (h : InGen x bx w W B g) : Zeroed w.heap.size W :=
  ⟨h.res.cell 0, h.res.cell 1, h.res.cell 2, h.res.cell 3, h.res.cell 4, h.res.cell 5, h.res.cell 6, h.res.frozen⟩
theorem InGen.fin {x : It} {bx : Nat} {w W : World} {B g k k' : Nat} (h : InGen x bx w W B g) (hs : Strm W B g k') (hk : k' ≤ k) (hx : x.sane) (v0 v1 v2 v3 v4 v5 v6 : Value) :
    TookI B g k w (.returned (.agg x.cells)) (((((((W.setCell ⟨w.heap.size, 0, none⟩ v0).setCell ⟨w.heap.size, 1, none⟩ v1).setCell ⟨w.heap.size, 2, none⟩ v2).setCell ⟨w.heap.size, 3, none⟩ v3).setCell ⟨w.heap.size, 4, none⟩ v4).setCell ⟨w.heap.size, 5, none⟩ v5).setCell ⟨w.heap.size, 6, none⟩ v6) := by
  have hB := hs.le
  have hg := h.gl
  refine tookI_of hx ?_ hk ?_
  · refine Strm.setCell ?_ (by show B ≤ w.heap.size; omega) (by show g ≠ w.heap.size; omega) _
    refine Strm.setCell ?_ (by show B ≤ w.heap.size; omega) (by show g ≠ w.heap.size; omega) _
    refine Strm.setCell ?_ (by show B ≤ w.heap.size; omega) (by show g ≠ w.heap.size; omega) _
    refine Strm.setCell ?_ (by show B ≤ w.heap.size; omega) (by show g ≠ w.heap.size; omega) _
    refine Strm.setCell ?_ (by show B ≤ w.heap.size; omega) (by show g ≠ w.heap.size; omega) _
    refine Strm.setCell ?_ (by show B ≤ w.heap.size; omega) (by show g ≠ w.heap.size; omega) _
    exact Strm.setCell hs (by show B ≤ w.heap.size; omega) (by show g ≠ w.heap.size; omega) _
  · exact only_setCell' (only_setCell' (only_setCell' (only_setCell' (only_setCell' (only_setCell' (only_setCell' h.grown (Nat.le_refl _) _) (Nat.le_refl _) _) (Nat.le_refl _) _) (Nat.le_refl _) _) (Nat.le_refl _) _) (Nat.le_refl _) _) (Nat.le_refl _) _
theorem InGen.strm {x : It} {bx f : Nat} {w W : World} {B g k : Nat} (h : InGen x bx w W B g) (hs : Strm W B g k) (u : Value) : Strm (W.setCell ⟨bx, f, none⟩ u) B g k :=
  hs.setCell (by show B ≤ bx; have := h.lt; have := h.gl; have := hs.le; omega) (by show g ≠ bx; have := h.lt; have := h.gl; omega) u
theorem sane_of {id u1 u3 u5 u7 : ByteArray} {z1 z4 : Int} (h0 : id.size ≤ 1000000) (h1 : u1.size ≤ 1000000) (h3 : u3.size ≤ 1000000) (h5 : u5.size ≤ 1000000) (h7 : u7.size ≤ 1000000) (a1 : -2000000000000 ≤ z1) (a2 : z1 ≤ 2000000000000) (b1 : -2000000000000 ≤ z4) (b2 : z4 ≤ 2000000000000) : It.sane ⟨id, u1, z1, u3, z4, u5, u7⟩ :=
  ⟨⟨h0, h1, h3, h5, h7⟩, ⟨a1, a2⟩, ⟨b1, b2⟩⟩
theorem e0_size : (⟨#[]⟩ : ByteArray).size ≤ 1000000 := by decide
theorem strs0 {u : ByteArray} (hu : u.size ≤ 1000000) : List.all [Value.string ⟨#[]⟩, .string ⟨#[65]⟩, .string u] (strV 1000000) = true := by
  simp only [List.all_cons, List.all_nil, strV, Bool.and_true, Bool.and_eq_true, decide_eq_true_eq]
  exact ⟨by decide, by decide, hu⟩
theorem strs4 {u : ByteArray} (hu : u.size ≤ 1000000) : List.all [Value.string ⟨#[65]⟩, .string u, .string ⟨#[57]⟩] (strV 1000000) = true := by
  simp only [List.all_cons, List.all_nil, strV, Bool.and_true, Bool.and_eq_true, decide_eq_true_eq]
  exact ⟨by decide, hu, by decide⟩
theorem strs2 {u : ByteArray} (hu : u.size ≤ 200) : List.all [Value.string ⟨#[32, 97]⟩, .string ⟨#[97, 32, 32, 98]⟩, .string ⟨#[97, 10]⟩, .string ⟨#[255]⟩, .string u] (strV 200) = true := by
  simp only [List.all_cons, List.all_nil, strV, Bool.and_true, Bool.and_eq_true, decide_eq_true_eq]
  exact ⟨by decide, by decide, by decide, by decide, hu⟩
theorem strs6 {u : ByteArray} (hu : u.size ≤ 20000) : List.all [Value.string ⟨#[110, 111, 32, 101, 110, 100]⟩, .string ⟨#[1, 10]⟩, .string ⟨#[127, 10]⟩, .string ⟨#[255, 10]⟩, .string (u ++ ⟨#[10]⟩)] (strV 20001) = true := by
  simp only [List.all_cons, List.all_nil, strV, Bool.and_true, Bool.and_eq_true, decide_eq_true_eq]
  refine ⟨by decide, by decide, by decide, by decide, ?_⟩
  have e0 : (⟨#[10]⟩ : ByteArray).size = 1 := rfl
  rw [ByteArray.size_append]; omega
theorem strs5 {u v : ByteArray} (hu : u.size ≤ 700) (hv : v.size ≤ 700) : List.all [Value.string ⟨#[]⟩, .string ⟨#[111, 110, 101, 10]⟩, .string ⟨#[111, 110, 101, 10, 116, 119, 111, 10]⟩, .string u, .string v] (strV 700) = true := by
  simp only [List.all_cons, List.all_nil, strV, Bool.and_true, Bool.and_eq_true, decide_eq_true_eq]
  exact ⟨by decide, by decide, by decide, hu, hv⟩
set_option maxRecDepth 100000 in
set_option maxHeartbeats 8000000 in
theorem Item_any (id : ByteArray) (hid : id.size ≤ 1000000) (B g k : Nat) (hk : k < 10000000000) (w : World) (hs : Strm w B g k) :
    Calls Tryz.prog 14 #[.pointer (some ⟨g, 0, none⟩), .string id] w (TookI B g (k + 300) w) := by
  go_enter Tryz.func14, Tryz.ntmps14
  go_upto_region 1 with (fail)
  have hgl := hs.lt
  have hs0 := hs.alloc (.cells It.zero.cells 30)
  have hg0 := World.grownBy_alloc w (.cells It.zero.cells 30) (some g)
  have hb0 := Blk.new w 30 It.zero.cells
  revert hs0 hg0 hb0
  show (Strm (w.alloc (.cells #[.string ⟨#[]⟩, .string ⟨#[]⟩, .int .i64 0, .string ⟨#[]⟩, .int .i64 0, .string ⟨#[]⟩, .string ⟨#[]⟩] 30)) B g k → w.grownBy (w.alloc (.cells #[.string ⟨#[]⟩, .string ⟨#[]⟩, .int .i64 0, .string ⟨#[]⟩, .int .i64 0, .string ⟨#[]⟩, .string ⟨#[]⟩] 30)) (some g) → Blk (w.alloc (.cells #[.string ⟨#[]⟩, .string ⟨#[]⟩, .int .i64 0, .string ⟨#[]⟩, .int .i64 0, .string ⟨#[]⟩, .string ⟨#[]⟩] 30)) w.heap.size 30 It.zero.cells → _)
  generalize (w.alloc (.cells #[.string ⟨#[]⟩, .string ⟨#[]⟩, .int .i64 0, .string ⟨#[]⟩, .int .i64 0, .string ⟨#[]⟩, .string ⟨#[]⟩] 30)) = w0
  intro hs0 hg0 hb0
  have hne : some w.heap.size ≠ some g := by simp; omega
  go_wp2_with fail
  refine (some10_new 3 [.string ⟨#[97, 110, 110]⟩, .string ⟨#[98, 111, 98]⟩, .string ⟨#[99, 105, 100]⟩] 3 _ B g k w0 hs0 rfl (by omega) (by omega) (by decide) (by omega)).mono ?_
  rintro e w1 ⟨u1, hu1, rfl, ⟨k1, hk1, hs1⟩, hg1⟩
  replace hb0 := hb0.grown hg1 hne
  replace hg1 := hg0.trans hg1
  clear hg0 hs0
  go_wp2_with fail
  refine (pick_new 7 [.int .i64 1, .int .i64 1, .int .i64 1, .int .i64 2, .int .i64 3, .int .i64 3, .int .i64 4] 0 100 _ B g k1 w1 hs1 rfl (by omega) (by omega) (by decide) (by omega)).mono ?_
  rintro e w2 ⟨z1, hz1, hz1', rfl, ⟨k2, hk2, hs2⟩, hg2⟩
  replace hb0 := hb0.grown hg2 hne
  replace hg2 := hg1.trans hg2
  clear hg1 hs1
  go_wp2_with fail
  refine (some10_new 4 [.string ⟨#[]⟩, .string ⟨#[109, 101, 109, 111]⟩, .string ⟨#[84, 104, 101, 32, 100, 101, 97, 108]⟩, .string ⟨#[120, 45, 49, 46, 116, 120, 116]⟩] 10 _ B g k2 w2 hs2 rfl (by omega) (by omega) (by decide) (by omega)).mono ?_
  rintro e w3 ⟨u3, hu3, rfl, ⟨k3, hk3, hs3⟩, hg3⟩
  replace hb0 := hb0.grown hg3 hne
  replace hg3 := hg2.trans hg3
  clear hg2 hs2
  go_wp2_with fail
  refine (pick_new 7 [.int .i64 0, .int .i64 10, .int .i64 100, .int .i64 1439, .int .i64 1440, .int .i64 5000, .int .i64 20000] 0 20000 _ B g k3 w3 hs3 rfl (by omega) (by omega) (by decide) (by omega)).mono ?_
  rintro e w4 ⟨z4, hz4, hz4', rfl, ⟨k4, hk4, hs4⟩, hg4⟩
  replace hb0 := hb0.grown hg4 hne
  replace hg4 := hg3.trans hg4
  clear hg3 hs3
  go_wp2_with fail
  refine (ItemText_any B g k4 (by omega) w4 hs4).mono ?_
  rintro e w5 ⟨u5, hu5, rfl, ⟨k5, hk5, hs5⟩, hg5⟩
  replace hb0 := hb0.grown hg5 hne
  replace hg5 := hg4.trans hg5
  clear hg4 hs4
  go_wp2_with fail
  refine (ItemText_any B g k5 (by omega) w5 hs5).mono ?_
  rintro e w6 ⟨u6, hu6, rfl, ⟨k6, hk6, hs6⟩, hg6⟩
  replace hb0 := hb0.grown hg6 hne
  replace hg6 := hg5.trans hg6
  clear hg5 hs5
  go_wp2_with fail
  refine (some10_new 5 [.string ⟨#[]⟩, .string ⟨#[111, 110, 101, 10]⟩, .string ⟨#[111, 110, 101, 10, 116, 119, 111, 10]⟩, .string u5, .string u6] 700 _ B g k6 w6 hs6 rfl (by omega) (by omega) (strs5 hu5 hu6) (by omega)).mono ?_
  rintro e w7 ⟨u7, hu7, rfl, ⟨k7, hk7, hs7⟩, hg7⟩
  replace hb0 := hb0.grown hg7 hne
  replace hg7 := hg6.trans hg7
  clear hg6 hs6
  go_upto_region 2 with (fail)
  have hI : InGen ⟨id, u1, z1, u3, z4, ⟨#[]⟩, u7⟩ w7.heap.size w (w7.alloc (.cells (It.cells ⟨id, u1, z1, u3, z4, ⟨#[]⟩, u7⟩) 30)) B g :=
    ⟨hg7.trans (World.grownBy_alloc _ _ _), hb0.alloc _, Blk.new _ _ _, hb0.lt, hgl⟩
  have hs8 := hs7.alloc (.cells (It.cells ⟨id, u1, z1, u3, z4, ⟨#[]⟩, u7⟩) 30)
  revert hI hs8
  show (InGen ⟨id, u1, z1, u3, z4, ⟨#[]⟩, u7⟩ w7.heap.size w (w7.alloc (.cells #[.string id, .string u1, .int .i64 z1, .string u3, .int .i64 z4, .string ⟨#[]⟩, .string u7] 30)) B g → Strm (w7.alloc (.cells #[.string id, .string u1, .int .i64 z1, .string u3, .int .i64 z4, .string ⟨#[]⟩, .string u7] 30)) B g k7 → _)
  generalize (w7.alloc (.cells #[.string id, .string u1, .int .i64 z1, .string u3, .int .i64 z4, .string ⟨#[]⟩, .string u7] 30)) = w8
  generalize w7.heap.size = bx
  intro hI hs8
  go_wp2_with fail
  refine (Flip_any _ (by omega) (by omega) B g k7 (by omega) _ hs8).mono ?_
  rintro e w9 ⟨b, rfl, hs9, hg9⟩
  replace hI := hI.call hg9
  clear hg9 hs8
  cases b
  · skip
    obtain ⟨c0, c1, c2, c3, c4, c5, c6⟩ := hI.boxed
    obtain ⟨r0, r1, r2, r3, r4, r5, r6, rf⟩ := hI.zeroed
    have f0 := rf 0
    have f1 := rf 1
    have f2 := rf 2
    have f3 := rf 3
    have f4 := rf 4
    have f5 := rf 5
    have f6 := rf 6
    clear rf
    have hbx : bx ≠ w.heap.size := by have := hI.lt; omega
    go_wp2_with fail
    refine bodyPost_ret (v := .agg #[.string id, .string u1, .int .i64 z1, .string u3, .int .i64 z4, .string ⟨#[]⟩, .string u7]) (by simp [results, Tryz.results14, go_sem, r0, r1, r2, r3, r4, r5, r6]) rfl ?_
    exact hI.fin hs9 (by omega) (sane_of (by omega) (by omega) (by omega) (e0_size) (by omega) (by omega) (by omega) (by omega) (by omega)) _ _ _ _ _ _ _
  · go_wp2_with fail
    refine (Next_any _ (by omega) (by omega) B g (k7 + 1) (by omega) _ hs9).mono ?_
    rintro e w10 ⟨r, hr1, hr2, rfl, hs10, hg10⟩
    replace hI := hI.call hg10
    clear hg10 hs9
    obtain ⟨n, rfl⟩ := Int.eq_ofNat_of_zero_le hr1
    have hn : n = 0 ∨ n = 1 ∨ n = 2 ∨ n = 3 ∨ n = 4 ∨ n = 5 := by omega
    clear hr1 hr2
    rcases hn with rfl | rfl | rfl | rfl | rfl | rfl
    · go_wp2_with fail
      refine (some10_new 3 [.string ⟨#[]⟩, .string ⟨#[65]⟩, .string id] 1000000 _ B g (k7 + 1 + 1) w10 hs10 rfl (by omega) (by omega) (strs0 hid) (by omega)).mono ?_
      rintro e w11 ⟨v0, hv0, rfl, ⟨k11, hk11, hs11⟩, hg11⟩
      replace hI := hI.call hg11
      clear hg11 hs10
      go_wp2_with fail
      refine (some10_new 3 [.string ⟨#[]⟩, .string ⟨#[65, 110, 110]⟩, .string ⟨#[97, 110, 110]⟩] 3 _ B g k11 w11 hs11 rfl (by omega) (by omega) (by decide) (by omega)).mono ?_
      rintro e w12 ⟨v1, hv1, rfl, ⟨k12, hk12, hs12⟩, hg12⟩
      replace hI := hI.call hg12
      clear hg12 hs11
      obtain ⟨c0, c1, c2, c3, c4, c5, c6⟩ := hI.boxed
      obtain ⟨r0, r1, r2, r3, r4, r5, r6, rf⟩ := hI.zeroed
      have f0 := rf 0
      have f1 := rf 1
      have f2 := rf 2
      have f3 := rf 3
      have f4 := rf 4
      have f5 := rf 5
      have f6 := rf 6
      have bf0 := hI.box.frozen 0
      have bf1 := hI.box.frozen 1
      clear rf
      have hbx : bx ≠ w.heap.size := by have := hI.lt; omega
      go_wp2_with fail
      refine bodyPost_ret (v := .agg #[.string v0, .string v1, .int .i64 z1, .string u3, .int .i64 z4, .string ⟨#[]⟩, .string u7]) (by simp [results, Tryz.results14, go_sem, r0, r1, r2, r3, r4, r5, r6]) rfl ?_
      exact ((hI.store (x' := ⟨v0, u1, z1, u3, z4, ⟨#[]⟩, u7⟩) (f := 0) (u := .string v0) rfl).store (x' := ⟨v0, v1, z1, u3, z4, ⟨#[]⟩, u7⟩) (f := 1) (u := .string v1) rfl).fin ((hI.store (x' := ⟨v0, u1, z1, u3, z4, ⟨#[]⟩, u7⟩) (f := 0) (u := .string v0) rfl).strm (hI.strm hs12 _) _) (by omega) (sane_of (by omega) (by omega) (by omega) (e0_size) (by omega) (by omega) (by omega) (by omega) (by omega)) _ _ _ _ _ _ _
    · go_wp2_with fail
      refine (odd10_any 1 4 (by omega) (by omega) (by omega) B g (k7 + 1 + 1) (by omega) _ hs10).mono ?_
      rintro e w11 ⟨v2, hlv2, hhv2, rfl, ⟨k11, hk11, hs11⟩, hg11⟩
      replace hI := hI.call hg11
      clear hg11 hs10
      obtain ⟨c0, c1, c2, c3, c4, c5, c6⟩ := hI.boxed
      obtain ⟨r0, r1, r2, r3, r4, r5, r6, rf⟩ := hI.zeroed
      have f0 := rf 0
      have f1 := rf 1
      have f2 := rf 2
      have f3 := rf 3
      have f4 := rf 4
      have f5 := rf 5
      have f6 := rf 6
      have bf2 := hI.box.frozen 2
      clear rf
      have hbx : bx ≠ w.heap.size := by have := hI.lt; omega
      go_wp2_with fail
      refine bodyPost_ret (v := .agg #[.string id, .string u1, .int .i64 v2, .string u3, .int .i64 z4, .string ⟨#[]⟩, .string u7]) (by simp [results, Tryz.results14, go_sem, r0, r1, r2, r3, r4, r5, r6]) rfl ?_
      exact (hI.store (x' := ⟨id, u1, v2, u3, z4, ⟨#[]⟩, u7⟩) (f := 2) (u := .int .i64 v2) rfl).fin (hI.strm hs11 _) (by omega) (sane_of (by omega) (by omega) (by omega) (e0_size) (by omega) (by omega) (by omega) (by omega) (by omega)) _ _ _ _ _ _ _
    · go_wp2_with fail
      refine (pick_new 2 [.int .i64 120, .int .i64 121] 0 200 _ B g (k7 + 1 + 1) w10 hs10 rfl (by omega) (by omega) (by decide) (by omega)).mono ?_
      rintro e w11 ⟨y, hly, hhy, rfl, ⟨k11, hk11, hs11⟩, hg11⟩
      replace hI := hI.call hg11
      clear hg11 hs10
      obtain ⟨y, rfl⟩ := Int.eq_ofNat_of_zero_le hly
      go_wp2_with fail
      refine (Tryz.strings_Repeat ⟨#[97]⟩ y _ (by omega) (by show 1 * y ≤ _; omega)).mono ?_
      rintro en w12 ⟨rfl, hb12⟩
      have hyl : (Lib.repeatL ({ data := #[97] } : ByteArray).data.toList y).length ≤ 200 := by rw [Lib.repeatL_length]; show y * 1 ≤ 200; omega
      have hys : ({ data := (Lib.repeatL ({ data := #[97] } : ByteArray).data.toList y).toArray } : ByteArray).size ≤ 200 := by simpa [ByteArray.size] using hyl
      clear hyl
      revert hys
      generalize ({ data := (Lib.repeatL ({ data := #[97] } : ByteArray).data.toList y).toArray } : ByteArray) = ys
      intro hys
      replace hI := hI.call (only_of_below hb12 (some g))
      have hs12 := hs11.below hb12 hs11.lt
      clear hs11 hb12
      go_wp2_with fail
      refine (some10_new 5 [.string ⟨#[32, 97]⟩, .string ⟨#[97, 32, 32, 98]⟩, .string ⟨#[97, 10]⟩, .string ⟨#[255]⟩, .string ys] 200 _ B g k11 w12 hs12 rfl (by omega) (by omega) (strs2 hys) (by omega)).mono ?_
      rintro e w13 ⟨v3, hv3, rfl, ⟨k13, hk13, hs13⟩, hg13⟩
      replace hI := hI.call hg13
      clear hg13 hs12
      obtain ⟨c0, c1, c2, c3, c4, c5, c6⟩ := hI.boxed
      obtain ⟨r0, r1, r2, r3, r4, r5, r6, rf⟩ := hI.zeroed
      have f0 := rf 0
      have f1 := rf 1
      have f2 := rf 2
      have f3 := rf 3
      have f4 := rf 4
      have f5 := rf 5
      have f6 := rf 6
      have bf3 := hI.box.frozen 3
      clear rf
      have hbx : bx ≠ w.heap.size := by have := hI.lt; omega
      go_wp2_with fail
      refine bodyPost_ret (v := .agg #[.string id, .string u1, .int .i64 z1, .string v3, .int .i64 z4, .string ⟨#[]⟩, .string u7]) (by simp [results, Tryz.results14, go_sem, r0, r1, r2, r3, r4, r5, r6]) rfl ?_
      exact (hI.store (x' := ⟨id, u1, z1, v3, z4, ⟨#[]⟩, u7⟩) (f := 3) (u := .string v3) rfl).fin (hI.strm hs13 _) (by omega) (sane_of (by omega) (by omega) (by omega) (e0_size) (by omega) (by omega) (by omega) (by omega) (by omega)) _ _ _ _ _ _ _
    · go_wp2_with fail
      refine (odd10_any 0 5761439 (by omega) (by omega) (by omega) B g (k7 + 1 + 1) (by omega) _ hs10).mono ?_
      rintro e w11 ⟨v4, hlv4, hhv4, rfl, ⟨k11, hk11, hs11⟩, hg11⟩
      replace hI := hI.call hg11
      clear hg11 hs10
      obtain ⟨c0, c1, c2, c3, c4, c5, c6⟩ := hI.boxed
      obtain ⟨r0, r1, r2, r3, r4, r5, r6, rf⟩ := hI.zeroed
      have f0 := rf 0
      have f1 := rf 1
      have f2 := rf 2
      have f3 := rf 3
      have f4 := rf 4
      have f5 := rf 5
      have f6 := rf 6
      have bf4 := hI.box.frozen 4
      clear rf
      have hbx : bx ≠ w.heap.size := by have := hI.lt; omega
      go_wp2_with fail
      refine bodyPost_ret (v := .agg #[.string id, .string u1, .int .i64 z1, .string u3, .int .i64 v4, .string ⟨#[]⟩, .string u7]) (by simp [results, Tryz.results14, go_sem, r0, r1, r2, r3, r4, r5, r6]) rfl ?_
      exact (hI.store (x' := ⟨id, u1, z1, u3, v4, ⟨#[]⟩, u7⟩) (f := 4) (u := .int .i64 v4) rfl).fin (hI.strm hs11 _) (by omega) (sane_of (by omega) (by omega) (by omega) (e0_size) (by omega) (by omega) (by omega) (by omega) (by omega)) _ _ _ _ _ _ _
    · go_wp2_with fail
      refine (some10_new 3 [.string ⟨#[65]⟩, .string id, .string ⟨#[57]⟩] 1000000 _ B g (k7 + 1 + 1) w10 hs10 rfl (by omega) (by omega) (strs4 hid) (by omega)).mono ?_
      rintro e w11 ⟨v5, hv5, rfl, ⟨k11, hk11, hs11⟩, hg11⟩
      replace hI := hI.call hg11
      clear hg11 hs10
      obtain ⟨c0, c1, c2, c3, c4, c5, c6⟩ := hI.boxed
      obtain ⟨r0, r1, r2, r3, r4, r5, r6, rf⟩ := hI.zeroed
      have f0 := rf 0
      have f1 := rf 1
      have f2 := rf 2
      have f3 := rf 3
      have f4 := rf 4
      have f5 := rf 5
      have f6 := rf 6
      have bf5 := hI.box.frozen 5
      clear rf
      have hbx : bx ≠ w.heap.size := by have := hI.lt; omega
      go_wp2_with fail
      refine bodyPost_ret (v := .agg #[.string id, .string u1, .int .i64 z1, .string u3, .int .i64 z4, .string v5, .string u7]) (by simp [results, Tryz.results14, go_sem, r0, r1, r2, r3, r4, r5, r6]) rfl ?_
      exact (hI.store (x' := ⟨id, u1, z1, u3, z4, v5, u7⟩) (f := 5) (u := .string v5) rfl).fin (hI.strm hs11 _) (by omega) (sane_of (by omega) (by omega) (by omega) (by omega) (by omega) (by omega) (by omega) (by omega) (by omega)) _ _ _ _ _ _ _
    · go_wp2_with fail
      refine (pick_new 2 [.int .i64 19999, .int .i64 20000] 0 20000 _ B g (k7 + 1 + 1) w10 hs10 rfl (by omega) (by omega) (by decide) (by omega)).mono ?_
      rintro e w11 ⟨y, hly, hhy, rfl, ⟨k11, hk11, hs11⟩, hg11⟩
      replace hI := hI.call hg11
      clear hg11 hs10
      obtain ⟨y, rfl⟩ := Int.eq_ofNat_of_zero_le hly
      go_wp2_with fail
      refine (Tryz.strings_Repeat ⟨#[97]⟩ y _ (by omega) (by show 1 * y ≤ _; omega)).mono ?_
      rintro en w12 ⟨rfl, hb12⟩
      have hyl : (Lib.repeatL ({ data := #[97] } : ByteArray).data.toList y).length ≤ 20000 := by rw [Lib.repeatL_length]; show y * 1 ≤ 20000; omega
      have hys : ({ data := (Lib.repeatL ({ data := #[97] } : ByteArray).data.toList y).toArray } : ByteArray).size ≤ 20000 := by simpa [ByteArray.size] using hyl
      clear hyl
      revert hys
      generalize ({ data := (Lib.repeatL ({ data := #[97] } : ByteArray).data.toList y).toArray } : ByteArray) = ys
      intro hys
      replace hI := hI.call (only_of_below hb12 (some g))
      have hs12 := hs11.below hb12 hs11.lt
      clear hs11 hb12
      go_wp2_with fail
      refine (some10_new 5 [.string ⟨#[110, 111, 32, 101, 110, 100]⟩, .string ⟨#[1, 10]⟩, .string ⟨#[127, 10]⟩, .string ⟨#[255, 10]⟩, .string (ys ++ ⟨#[10]⟩)] 20001 _ B g k11 w12 hs12 rfl (by omega) (by omega) (strs6 hys) (by omega)).mono ?_
      rintro e w13 ⟨v6, hv6, rfl, ⟨k13, hk13, hs13⟩, hg13⟩
      replace hI := hI.call hg13
      clear hg13 hs12
      obtain ⟨c0, c1, c2, c3, c4, c5, c6⟩ := hI.boxed
      obtain ⟨r0, r1, r2, r3, r4, r5, r6, rf⟩ := hI.zeroed
      have f0 := rf 0
      have f1 := rf 1
      have f2 := rf 2
      have f3 := rf 3
      have f4 := rf 4
      have f5 := rf 5
      have f6 := rf 6
      have bf6 := hI.box.frozen 6
      clear rf
      have hbx : bx ≠ w.heap.size := by have := hI.lt; omega
      go_wp2_with fail
      refine bodyPost_ret (v := .agg #[.string id, .string u1, .int .i64 z1, .string u3, .int .i64 z4, .string ⟨#[]⟩, .string v6]) (by simp [results, Tryz.results14, go_sem, r0, r1, r2, r3, r4, r5, r6]) rfl ?_
      exact (hI.store (x' := ⟨id, u1, z1, u3, z4, ⟨#[]⟩, v6⟩) (f := 6) (u := .string v6) rfl).fin (hI.strm hs13 _) (by omega) (sane_of (by omega) (by omega) (by omega) (e0_size) (by omega) (by omega) (by omega) (by omega) (by omega)) _ _ _ _ _ _ _
end Go.Proofs.YthhfbcddjnjllaaGreatDoor
