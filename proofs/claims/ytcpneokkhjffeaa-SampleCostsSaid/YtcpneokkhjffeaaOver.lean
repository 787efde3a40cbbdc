/- Contract of natural.Number.Over. -/
import Derived.Test.YtcpneokkhjffeaaBack
import Derived.Test.YtcpneokkhjffeaaTimes
import Derived.Shelf.RegionOpen
namespace Go.Proofs.Ytcpneokkhjffeaa
open Go.RowKit Go.Shelf

attribute [local go_sem] Oper.semAt_some

theorem Blk.own {W W' : World} {row : Option Nat} {g : Nat} {t : TypeId} {cs : Array Value} (h : Blk W g t cs) (hg : W.grownBy W' row) (hr : ∀ r, row = some r → ∃ o : Obj, W.heap[r]? = some o ∧ o.isCells = false) : Blk W' g t cs := by
  refine h.grown hg ?_
  rintro rfl
  obtain ⟨o, ho, hc⟩ := hr g rfl
  unfold Blk at h
  rw [h] at ho
  injection ho with ho
  subst ho
  cases hc
theorem Digs.own {W W' : World} {row : Option Nat} {g n : Nat} (h : Digs W g n) (hg : W.grownBy W' row) (hr : ∀ r, row = some r → ∃ o : Obj, W.heap[r]? = some o ∧ o.isCells = false) : Digs W' g n := by
  obtain ⟨f, c, hb, hn, hc⟩ := h
  have hB : Blk W g 62 c := hb
  exact ⟨f, c, hB.own hg hr, hn, hc⟩
/-- what lies while the digits of a quotient are made -/
def OS (w : World) (d : Int) (M : Nat) (W : World) : Prop :=
  Digs W (w.heap.size + 1 + 1 + 1) M ∧ Blk W (w.heap.size + 1) 62 #[.int .u32 d] ∧ Blk W (w.heap.size + 1 + 1) 67 #[.slice none 0 0] ∧
  Blk W (w.heap.size + 1 + 1 + 1 + 1) 65 #[.slice (some ⟨w.heap.size + 1 + 1 + 1, 0, none⟩) M M] ∧ ∃ z : Int, Blk W (w.heap.size + 1 + 1 + 1 + 1 + 1) 57 #[.int .u64 z]
theorem OS.own {w W W' : World} {d : Int} {M : Nat} {row : Option Nat} (h : OS w d M W) (hg : W.grownBy W' row) (hr : ∀ r, row = some r → ∃ o : Obj, W.heap[r]? = some o ∧ o.isCells = false) : OS w d M W' := by
  obtain ⟨h1, h2, h3, h4, z, h5⟩ := h
  exact ⟨h1.own hg hr, h2.own hg hr, h3.own hg hr, h4.own hg hr, z, h5.own hg hr⟩
theorem OS.digit {w W : World} {d : Int} {M : Nat} (h : OS w d M W) (j : Nat) (q : Int) : OS w d M (W.setCell ⟨w.heap.size + 1 + 1 + 1, j, none⟩ (.int .u32 q)) := by
  obtain ⟨h1, h2, h3, h4, z, h5⟩ := h
  exact ⟨h1.set j q, h2.far (by show w.heap.size + 1 ≠ w.heap.size + 1 + 1 + 1; omega) _, h3.far (by show w.heap.size + 1 + 1 ≠ w.heap.size + 1 + 1 + 1; omega) _, h4.far (by show w.heap.size + 1 + 1 + 1 + 1 ≠ w.heap.size + 1 + 1 + 1; omega) _, z, h5.far (by show w.heap.size + 1 + 1 + 1 + 1 + 1 ≠ w.heap.size + 1 + 1 + 1; omega) _⟩
theorem OS.rest {w W : World} {d : Int} {M : Nat} (h : OS w d M W) (q : Int) : OS w d M (W.setCell ⟨w.heap.size + 1 + 1 + 1 + 1 + 1, 0, none⟩ (.int .u64 q)) ∧ (W.setCell ⟨w.heap.size + 1 + 1 + 1 + 1 + 1, 0, none⟩ (.int .u64 q)).cell? ⟨w.heap.size + 1 + 1 + 1 + 1 + 1, 0, none⟩ = some (.int .u64 q) := by
  obtain ⟨h1, h2, h3, h4, z, h5⟩ := h
  have h5' : Blk (W.setCell ⟨w.heap.size + 1 + 1 + 1 + 1 + 1, 0, none⟩ (.int .u64 q)) (w.heap.size + 1 + 1 + 1 + 1 + 1) 57 #[.int .u64 q] := h5.set_ 0 (.int .u64 q)
  exact ⟨⟨h1.setOther (by show w.heap.size + 1 + 1 + 1 ≠ w.heap.size + 1 + 1 + 1 + 1 + 1; omega) _, h2.far (by show w.heap.size + 1 ≠ w.heap.size + 1 + 1 + 1 + 1 + 1; omega) _, h3.far (by show w.heap.size + 1 + 1 ≠ w.heap.size + 1 + 1 + 1 + 1 + 1; omega) _, h4.far (by show w.heap.size + 1 + 1 + 1 + 1 ≠ w.heap.size + 1 + 1 + 1 + 1 + 1; omega) _, q, h5'⟩, h5'.cell 0⟩
theorem OS.drew {w W : World} {d : Int} {M : Nat} (h : OS w d M W) : OS w d M W.drew := h
/-- what a walk reads off it -/
theorem OS.at_ {w W : World} {d : Int} {M : Nat} (h : OS w d M W) : W.cell? ⟨w.heap.size + 1, 0, none⟩ = some (.int .u32 d) ∧ W.cell? ⟨w.heap.size + 1 + 1 + 1 + 1, 0, none⟩ = some (.slice (some ⟨w.heap.size + 1 + 1 + 1, 0, none⟩) M M) ∧ (∃ z : Int, W.cell? ⟨w.heap.size + 1 + 1 + 1 + 1 + 1, 0, none⟩ = some (.int .u64 z)) ∧ W.frozen? ⟨w.heap.size + 1 + 1 + 1 + 1 + 1, 0, none⟩ = false ∧ (∀ j, W.frozen? ⟨w.heap.size + 1 + 1 + 1, j, none⟩ = false) ∧ (∀ j, j < M → ∃ q : Int, W.cell? ⟨w.heap.size + 1 + 1 + 1, j, none⟩ = some (.int .u32 q)) := by
  obtain ⟨h1, h2, h3, h4, z, h5⟩ := h
  exact ⟨h2.cell 0, h4.cell 0, ⟨z, h5.cell 0⟩, h5.frozen 0, h1.frozen, fun j hj => h1.cell hj⟩
theorem ko_drew (W : World) : KeepsOthers W W.drew := ⟨Nat.le_refl _, fun _ _ h _ => h⟩
theorem Num.own {W W' : World} {row : Option Nat} {v : Value} {N : Nat} (h : Num W v N) (hg : W.grownBy W' row) (hr : ∀ r, row = some r → ∃ o : Obj, W.heap[r]? = some o ∧ o.isCells = false) : Num W' v N := by
  obtain ⟨g, n, s, e, h1, h2, h3⟩ := h
  exact ⟨g, n, s, e, h1, h2, h3.own hg hr⟩
theorem kpB_b {Bs n₀ : Nat} {w : World} (hn : n₀ ≤ w.heap.size) (W : World) (l : Nat) (o o' : Obj) (hl : w.heap.size ≤ l) (h : W.heap[l]? = some o) (hc : o.isCells = false) (hw : o.isWalk = false) : KpB Bs n₀ W (W.putObj l o') := by
  refine ⟨belowK_b hn W l o o' hl h hc hw, fun v hv => ?_⟩
  exact cell_kept hv (grownBy_putObj' W l o') (fun r e => by cases e; exact ⟨o, h, hc⟩)
set_option maxHeartbeats 16000000 in
set_option maxRecDepth 100000 in
theorem Over_in (F : Fence) (n : Nat) (h3 : F.fn 43) (h5 : F.fn 50) (h7 : F.fn 53) (h9 : F.fn 44) (hro : F.round = none) (hn : 3 ≤ n) {w : World} {g M s N : Nat} {d : Int}
    (hT : ∀ W, Digs W (w.heap.size + 1 + 1 + 1) M → CallsIn F (n - 1) Try.prog 44 #[.slice (some ⟨w.heap.size + 1 + 1 + 1, 0, none⟩) M M] W (NumSays N W))
    (hD : Digs w g s) (hM : M ≤ s) (hs : s ≤ 1000) (hd : 1 ≤ d ∧ d ≤ 1000) :
    CallsIn F n Try.prog 43 #[.agg #[.slice (some ⟨g, 0, none⟩) M s], .int .u32 d] w (NumSays N w) := by
  have h1 : 1 ≤ n := by omega
  have hmix : Try.prog.follows .mixedOrders = true := by kernel_rfl
  have hmk := run_make_row' (P := Try.prog) 65 62 (.int .u32 0) 4 Try.underlying65 info_u32 rfl .i64 .i64 M (by omega) (by omega)
  refine callsIn_of_wp_marks Try.func43 rfl h3 ?_ hro
  simp only [Try.ntmps43, List.size_toArray, List.length_cons, List.length_nil, Nat.reduceAdd, Nat.reduceSub, Array.replicate_succ, Array.replicate_zero, List.push_toArray, List.append_toArray, List.nil_append, List.cons_append]
  gi_wp2_with (gi_at_call 50; refine (back_in F (n - 1) h5 hro _ _ _ _).mono ?_; rintro e w' ⟨rfl, rfl⟩)
  have bX := Blk.new w 67 #[.slice (some ⟨g, 0, none⟩) M s]
  obtain ⟨w1, hw1⟩ : ∃ w1, w.alloc (.cells #[.slice (some ⟨g, 0, none⟩) M s] 67) = w1 := ⟨_, rfl⟩
  have z1 : w1.heap.size = w.heap.size + 1 := by rw [← hw1]; simp
  have l1 : Below w.heap.size w w1 := by rw [← hw1]; exact (Below.refl _ _).alloc (Nat.le_refl _) _
  rw [hw1] at bX ⊢
  have b1 := Blk.new w1 62 #[.int .u32 d]
  obtain ⟨w2, hw2⟩ : ∃ w2, w1.alloc (.cells #[.int .u32 d] 62) = w2 := ⟨_, rfl⟩
  have z2 : w2.heap.size = w.heap.size + 1 + 1 := by rw [← hw2]; simp [z1]
  have l2 : Below w.heap.size w w2 := by rw [← hw2]; exact l1.alloc l1.size _
  rw [hw2] at b1 ⊢
  rw [z1] at b1
  have b2 := Blk.new w2 67 #[.slice none 0 0]
  obtain ⟨w3, hw3⟩ : ∃ w3, w2.alloc (.cells #[.slice none 0 0] 67) = w3 := ⟨_, rfl⟩
  have z3 : w3.heap.size = w.heap.size + 1 + 1 + 1 := by rw [← hw3]; simp [z2]
  have l3 : Below w.heap.size w w3 := by rw [← hw3]; exact l2.alloc l2.size _
  have b1 : Blk w3 (w.heap.size + 1) 62 #[.int .u32 d] := by rw [← hw3]; exact b1.alloc _
  rw [hw3] at b2 ⊢
  rw [z2] at b2
  have b3 := Digs.made w3 M
  obtain ⟨w4, hw4⟩ : ∃ w4, w3.alloc (.cells (madeCells #[.int .u32 0] M) 62) = w4 := ⟨_, rfl⟩
  have z4 : w4.heap.size = w.heap.size + 1 + 1 + 1 + 1 := by rw [← hw4]; simp [z3]
  have l4 : Below w.heap.size w w4 := by rw [← hw4]; exact l3.alloc l3.size _
  have b1 : Blk w4 (w.heap.size + 1) 62 #[.int .u32 d] := by rw [← hw4]; exact b1.alloc _
  have b2 : Blk w4 (w.heap.size + 1 + 1) 67 #[.slice none 0 0] := by rw [← hw4]; exact b2.alloc _
  rw [hw4] at b3 ⊢
  rw [z3] at b3
  have b4 := Blk.new w4 65 #[.slice (some ⟨w.heap.size + 1 + 1 + 1, 0, none⟩) M M]
  obtain ⟨w5, hw5⟩ : ∃ w5, w4.alloc (.cells #[.slice (some ⟨w.heap.size + 1 + 1 + 1, 0, none⟩) M M] 65) = w5 := ⟨_, rfl⟩
  have z5 : w5.heap.size = w.heap.size + 1 + 1 + 1 + 1 + 1 := by rw [← hw5]; simp [z4]
  have l5 : Below w.heap.size w w5 := by rw [← hw5]; exact l4.alloc l4.size _
  have b1 : Blk w5 (w.heap.size + 1) 62 #[.int .u32 d] := by rw [← hw5]; exact b1.alloc _
  have b2 : Blk w5 (w.heap.size + 1 + 1) 67 #[.slice none 0 0] := by rw [← hw5]; exact b2.alloc _
  have b3 : Digs w5 (w.heap.size + 1 + 1 + 1) M := by rw [← hw5]; exact b3.alloc _
  rw [hw5] at b4 ⊢
  rw [z4] at b4
  have b5 := Blk.new w5 57 #[.int .u64 0]
  obtain ⟨w6, hw6⟩ : ∃ w6, w5.alloc (.cells #[.int .u64 0] 57) = w6 := ⟨_, rfl⟩
  have z6 : w6.heap.size = w.heap.size + 1 + 1 + 1 + 1 + 1 + 1 := by rw [← hw6]; simp [z5]
  have l6 : Below w.heap.size w w6 := by rw [← hw6]; exact l5.alloc l5.size _
  rw [hw6] at b5 ⊢
  rw [z5] at b5
  have hOS6 : OS w d M w6 := ⟨by rw [← hw6]; exact b3.alloc _, by rw [← hw6]; exact b1.alloc _, by rw [← hw6]; exact b2.alloc _, by rw [← hw6]; exact b4.alloc _, 0, b5⟩
  have b6 := Blk.new w6 65 #[.slice (some ⟨g, 0, none⟩) M s]
  obtain ⟨w7, hw7⟩ : ∃ w7, w6.alloc (.cells #[.slice (some ⟨g, 0, none⟩) M s] 65) = w7 := ⟨_, rfl⟩
  have z7 : w7.heap.size = w.heap.size + 1 + 1 + 1 + 1 + 1 + 1 + 1 := by rw [← hw7]; simp [z6]
  have l7 : Below w.heap.size w w7 := by rw [← hw7]; exact l6.alloc l6.size _
  have hOS7 : OS w d M w7 := by
    rw [← hw7]
    exact hOS6.own (World.grownBy_alloc w6 _ none) (fun r e => by cases e)
  rw [hw7] at b6 ⊢
  rw [z6] at b6
  have hD7 : Digs w7 g s := hD.below l7 hD.lt
  have hgl := hD.lt
  have HW := Lib.hid l7
  clear hmk
  refine wpIn_rangeFunc_ownG hro h1 (gf := 53) (lb := #[.pointer (some ⟨w.heap.size + 1 + 1 + 1 + 1 + 1 + 1, 0, none⟩)]) rfl h7 (enters_of Try.func53 (by kernel_rfl) rfl)
    (back_stops F (n - 1) h7 hro (by omega) (w.heap.size + 1 + 1 + 1 + 1 + 1 + 1) w.heap.size g M s s hM (by omega) w7 hgl (by omega) (b6.cell 0) hD7) KpB.trans (kpB_b (by omega)) (Below.refl _ _) (fun _ => rfl)
    (fun pre W => OS w d M W ∧ Below w.heap.size w W)
    (fun _ _ _ => False)
    (OwnFrom.and (Own.from (fun s A B row hs hg hr => hs.own hg hr) _) (ownFrom_below (Nat.le_refl _) (by omega)))
    (fun _ _ _ _ _ hs _ _ => hs)
    ⟨hOS7, l7⟩
    (fun x => { tmps := #[.agg #[.slice (some ⟨g, 0, none⟩) M s], .int .u32 d, .pointer (some ⟨w.heap.size, 0, none⟩), .pointer (some ⟨w.heap.size + 1, 0, none⟩), .pointer (some ⟨w.heap.size + 1 + 1, 0, none⟩), .pointer (some ⟨w.heap.size + 1 + 1 + 1 + 1, 0, none⟩), .pointer (some ⟨w.heap.size + 1 + 1 + 1 + 1 + 1, 0, none⟩), .int .i64 (x.1.1 : Int), .int .u32 x.1.2, .pointer (some ⟨w.heap.size, 0, none⟩), .slice (some ⟨g, 0, none⟩) M s, .int .i64 (M : Int), .slice (some ⟨w.heap.size + 1 + 1 + 1, 0, none⟩) M M, .pointer (some ⟨w.heap.size, 0, none⟩), .slice (some ⟨g, 0, none⟩) M s, .func (.func 53) #[] #[.pointer (some ⟨w.heap.size + 1 + 1 + 1 + 1 + 1 + 1, 0, none⟩)], .int .i64 (x.1.1 : Int), .int .u32 x.1.2, undef, undef, undef, undef, undef, undef, undef, undef, undef, undef, undef, undef, undef, undef, undef, undef, undef, undef, undef], defers := [] }) ?assign ?body ?done ?stop
  case assign =>
    intro l x W K hK
    gi_wp2
    exact hK
  case body =>
    rintro l pre ⟨⟨j, dj⟩, hj⟩ W ⟨hOS, hB⟩ _
    have hj : j < M := hj
    obtain ⟨c1, c4, ⟨z, c5⟩, f5, fd, hcd⟩ := hOS.at_
    have hdw : IntKind.u64.wrap d = d := by rw [IntKind.wrap_u64]; omega
    have hd0 : (d == 0) = false := beq_eq_false_iff_ne.2 (by omega)
    have hd1 : ¬ d = 0 := by omega
    have hjM : (j : Int) < (M : Int) := by omega
    clear fd hcd
    gi_wp2
    generalize IntKind.u64.wrap (IntKind.u64.wrap (z * 4294967296) + IntKind.u64.wrap dj) = z1
    obtain ⟨hO1, c51⟩ := hOS.rest z1
    have k1 : Below w.heap.size W (W.setCell ⟨w.heap.size + 1 + 1 + 1 + 1 + 1, 0, none⟩ (.int .u64 z1)) := (Below.refl w.heap.size W).setCell (p := ⟨w.heap.size + 1 + 1 + 1 + 1 + 1, 0, none⟩) (by show w.heap.size ≤ w.heap.size + 1 + 1 + 1 + 1 + 1; omega) _
    have o1 : KeepsOthers W (W.setCell ⟨w.heap.size + 1 + 1 + 1 + 1 + 1, 0, none⟩ (.int .u64 z1)) := KeepsOthers.setCell _ _ _
    have x1 : ∀ v, W.cell? ⟨w.heap.size + 1 + 1 + 1 + 1 + 1 + 1, 0, none⟩ = some v → (W.setCell ⟨w.heap.size + 1 + 1 + 1 + 1 + 1, 0, none⟩ (.int .u64 z1)).cell? ⟨w.heap.size + 1 + 1 + 1 + 1 + 1 + 1, 0, none⟩ = some v := fun v hv => (World.cell?_setCell_other _ _ _ _ (by simp)).trans hv
    clear c1 c4 c5 f5 hOS
    generalize W.setCell ⟨w.heap.size + 1 + 1 + 1 + 1 + 1, 0, none⟩ (.int .u64 z1) = W1 at *
    obtain ⟨c1, c4, -, f5, fd, hcd⟩ := hO1.at_
    have d1 : W1.drew.cell? ⟨w.heap.size + 1, 0, none⟩ = some (.int .u32 d) := c1
    have d4 : W1.drew.cell? ⟨w.heap.size + 1 + 1 + 1 + 1, 0, none⟩ = some (.slice (some ⟨w.heap.size + 1 + 1 + 1, 0, none⟩) M M) := c4
    have d5 : W1.drew.cell? ⟨w.heap.size + 1 + 1 + 1 + 1 + 1, 0, none⟩ = some (.int .u64 z1) := c51
    have dd : W1.drew.frozen? ⟨w.heap.size + 1 + 1 + 1, j, none⟩ = false := fd j
    obtain ⟨q0, hq0⟩ := hcd j hj
    have dq : W1.drew.cell? ⟨w.heap.size + 1 + 1 + 1, j, none⟩ = some (.int .u32 q0) := hq0
    clear fd hcd hq0 c1 c4 c51 f5
    refine wpIn_mono (Q := fun e a' w' => e = .normal ∧ a' = { tmps := #[.agg #[.slice (some ⟨g, 0, none⟩) M s], .int .u32 d, .pointer (some ⟨w.heap.size, 0, none⟩), .pointer (some ⟨w.heap.size + 1, 0, none⟩), .pointer (some ⟨w.heap.size + 1 + 1, 0, none⟩), .pointer (some ⟨w.heap.size + 1 + 1 + 1 + 1, 0, none⟩), .pointer (some ⟨w.heap.size + 1 + 1 + 1 + 1 + 1, 0, none⟩), .int .i64 (j : Int), .int .u32 dj, .pointer (some ⟨w.heap.size, 0, none⟩), .slice (some ⟨g, 0, none⟩) M s, .int .i64 (M : Int), .slice (some ⟨w.heap.size + 1 + 1 + 1, 0, none⟩) M M, .pointer (some ⟨w.heap.size, 0, none⟩), .slice (some ⟨g, 0, none⟩) M s, .func (.func 53) #[] #[.pointer (some ⟨w.heap.size + 1 + 1 + 1 + 1 + 1 + 1, 0, none⟩)], .int .i64 (j : Int), .int .u32 dj, .int .u64 z, .int .u64 (IntKind.u64.wrap (z * 4294967296)), .int .u32 dj, .int .u64 (IntKind.u64.wrap dj), .int .u64 z1, .slice (some ⟨w.heap.size + 1 + 1 + 1, 0, none⟩) M M, .int .i64 (j : Int), .int .u64 z1, .int .u32 d, .int .u64 d, .int .u64 (IntKind.u64.wrap (z1.tdiv d)), .int .u32 (IntKind.u32.wrap (IntKind.u64.wrap (z1.tdiv d))), .pointer (some ⟨w.heap.size + 1 + 1 + 1, j, none⟩), undef, undef, undef, undef, undef, undef], defers := [] } ∧ w' = (W1.setCell ⟨w.heap.size + 1 + 1 + 1, j, none⟩ (.int .u32 (IntKind.u32.wrap (IntKind.u64.wrap (z1.tdiv d))))).drew) ?first ?rest
    case first =>
      gi_region_with_o (fail)
      all_goals exact ⟨rfl, rfl, rfl⟩
    case rest =>
      rintro e a' w' ⟨rfl, rfl, rfl⟩
      generalize IntKind.u32.wrap (IntKind.u64.wrap (z1.tdiv d)) = q2
      have hO2 := (hO1.digit j q2).drew
      have k2 : Below w.heap.size W (W1.setCell ⟨w.heap.size + 1 + 1 + 1, j, none⟩ (.int .u32 q2)).drew := (k1.setCell (p := ⟨w.heap.size + 1 + 1 + 1, j, none⟩) (by show w.heap.size ≤ w.heap.size + 1 + 1 + 1; omega) _).drew
      have o2 : KeepsOthers W (W1.setCell ⟨w.heap.size + 1 + 1 + 1, j, none⟩ (.int .u32 q2)).drew := o1.trans ((KeepsOthers.setCell _ _ _).trans (ko_drew _))
      have x2 : ∀ v, W.cell? ⟨w.heap.size + 1 + 1 + 1 + 1 + 1 + 1, 0, none⟩ = some v → (W1.setCell ⟨w.heap.size + 1 + 1 + 1, j, none⟩ (.int .u32 q2)).drew.cell? ⟨w.heap.size + 1 + 1 + 1 + 1 + 1 + 1, 0, none⟩ = some v := fun v hv => (World.cell?_setCell_other W1 ⟨w.heap.size + 1 + 1 + 1, j, none⟩ ⟨w.heap.size + 1 + 1 + 1 + 1 + 1 + 1, 0, none⟩ _ (by simp)).trans (x1 v hv)
      generalize (W1.setCell ⟨w.heap.size + 1 + 1 + 1, j, none⟩ (.int .u32 q2)).drew = W2 at *
      obtain ⟨c1, -, ⟨z2, c5⟩, f5, -, -⟩ := hO2.at_
      clear hO1 k1 o1 x1 d1 d4 d5 dd dq
      gi_wp2
      exact ⟨(o2.trans (KeepsOthers.setCell _ _ _)).from _, ⟨k2.setCell (p := ⟨w.heap.size + 1 + 1 + 1 + 1 + 1, 0, none⟩) (by show w.heap.size ≤ w.heap.size + 1 + 1 + 1 + 1 + 1; omega) _, fun v hv => (World.cell?_setCell_other W2 ⟨w.heap.size + 1 + 1 + 1 + 1 + 1, 0, none⟩ ⟨w.heap.size + 1 + 1 + 1 + 1 + 1 + 1, 0, none⟩ _ (by simp)).trans (x2 v hv)⟩, (hO2.rest _).1, (hB.trans k2).setCell (p := ⟨w.heap.size + 1 + 1 + 1 + 1 + 1, 0, none⟩) (by show w.heap.size ≤ w.heap.size + 1 + 1 + 1 + 1 + 1; omega) _⟩
  case done =>
    rintro D ys W hD2 _ ⟨hOS, hB⟩ hK
    obtain ⟨c1, c4, -, -, -, -⟩ := hOS.at_
    have hTW := hT W hOS.1
    have hDl := (Array.getElem?_eq_some_iff.1 hK).1
    gi_wp2_with (gi_at_call 44; refine hTW.mono ?_; rintro e w8 ⟨v, rfl, hv, hb8⟩; obtain ⟨g8, n8, s8, rfl⟩ := hv.form; have hB8 := hOS.2.2.1.below hb8 hOS.2.2.1.lt; have f0 := hB8.frozen 0; have c0 : w8.cell? ⟨w.heap.size + 1 + 1, 0, none⟩ = some (.slice none 0 0) := hB8.cell 0)
    have hB8 := hOS.2.2.1.below hb8 hOS.2.2.1.lt
    have hB2 := hB8.set_ 0 (.slice (some ⟨g8, 0, none⟩) n8 s8)
    have r0 : (w8.setCell ⟨w.heap.size + 1 + 1, 0, none⟩ (.slice (some ⟨g8, 0, none⟩) n8 s8)).cell? ⟨w.heap.size + 1 + 1, 0, none⟩ = some (.slice (some ⟨g8, 0, none⟩) n8 s8) := hB2.cell 0
    have hN2 := hv.set_ hB8 (by decide) 0 (.slice (some ⟨g8, 0, none⟩) n8 s8)
    have hW2 : Below w.heap.size w (w8.setCell ⟨w.heap.size + 1 + 1, 0, none⟩ (.slice (some ⟨g8, 0, none⟩) n8 s8)) := (hB.trans (hb8.mono hB.size)).setCell (p := ⟨w.heap.size + 1 + 1, 0, none⟩) (by show w.heap.size ≤ w.heap.size + 1 + 1; omega) _
    have hK8 : w8.heap[D]? = some (.deferred (some [])) := (hb8.block D hDl).trans hK
    have hK9 := (KeepsOthers.setCell w8 ⟨w.heap.size + 1 + 1, 0, none⟩ (.slice (some ⟨g8, 0, none⟩) n8 s8)).same D _ hK8 rfl
    generalize w8.setCell ⟨w.heap.size + 1 + 1, 0, none⟩ (.slice (some ⟨g8, 0, none⟩) n8 s8) = W9 at *
    refine ⟨by simp, .inl ⟨_, _, rfl, run_takeDeferred hK9, ?_⟩⟩
    have hc5 := cell_kept r0 (grownBy_putObj' _ D (.deferred none)) (fun r e => by cases e; exact ⟨_, hK9, rfl⟩)
    refine ⟨.agg #[.slice (some ⟨g8, 0, none⟩) n8 s8], ?_, _, rfl, hN2.own (grownBy_putObj' _ D (.deferred none)) (fun r e => by cases e; exact ⟨_, hK9, rfl⟩), hW2.trans (belowK_b (w := w) (Nat.le_refl _) W9 D _ _ (by omega) hK9 rfl rfl)⟩
    simp [results, Try.results43, go_sem, hc5]
  case stop =>
    rintro D c pre W _ _ h _
    exact h.elim
theorem Over_any {w : World} {v : Value} {N : Nat} {d : Int} (h : Num w v N) (hN : N ≤ 1000) (hd : 1 ≤ d ∧ d ≤ 1000) :
    Calls Try.prog 43 #[.agg #[v], .int .u32 d] w (NumSays N w) := by
  obtain ⟨g, n, s, rfl, h1, h2, h3⟩ := h
  exact (callsIn_wide (n := 5)).1 (Over_in Fence.wide 5 trivial trivial trivial trivial rfl (by omega) (fun W hW => callsIn_wide.2 (trimmed_any hW (Nat.le_refl _) (by omega) (by omega))) h3 h1 (by omega) hd)
end Go.Proofs.Ytcpneokkhjffeaa
