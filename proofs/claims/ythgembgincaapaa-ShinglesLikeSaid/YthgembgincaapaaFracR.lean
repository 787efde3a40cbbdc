/- Contracts of near.isFraction and the reference's FractionRight. -/
import Derived.Test.YthgembgincaapaaCompare
import Derived.Test.YthgembgincaapaaBlk
import Derived.Test.YthgembgincaapaaPick
namespace Go.Proofs.Ythgembgincaapaa
open Go.RowKit

set_option maxHeartbeats 2000000 in
theorem isFraction_any (n d : Int) (hn : -10000000 ≤ n ∧ n ≤ 10000000) (hd : -10000000 ≤ d ∧ d ≤ 10000000) (b : Bool) (hb : WM.right n d = b) (w : World) :
    Calls Try.prog 37 #[.agg #[.int .i64 n, .int .i64 d]] w (SaysBn b w) := by
  by_cases h1 : 1 ≤ d
  rotate_left
  · have q1 : decide (1 ≤ d) = false := decide_eq_false h1
    have hbf : b = false := by rw [← hb]; unfold WM.right; rw [q1]; rfl
    subst hbf
    clear hb h1 hn hd
    go_enter Try.func37, Try.ntmps37
    go_wp2_with fail
    go_ret
    exact ⟨rfl, (Below.refl _ _).alloc (Nat.le_refl _) _⟩
  have q1 : decide (1 ≤ d) = true := decide_eq_true h1
  by_cases h2 : d ≤ 1000000
  rotate_left
  · have q2 : decide (d ≤ 1000000) = false := decide_eq_false h2
    have hbf : b = false := by rw [← hb]; unfold WM.right; rw [q1, q2]; rfl
    subst hbf
    clear hb h1 h2 hn hd
    go_enter Try.func37, Try.ntmps37
    go_wp2_with fail
    go_ret
    exact ⟨rfl, (Below.refl _ _).alloc (Nat.le_refl _) _⟩
  have q2 : decide (d ≤ 1000000) = true := decide_eq_true h2
  by_cases h3 : 0 ≤ n
  rotate_left
  · have q3 : decide (0 ≤ n) = false := decide_eq_false h3
    have hbf : b = false := by rw [← hb]; unfold WM.right; rw [q1, q2, q3]; rfl
    subst hbf
    clear hb h1 h2 h3 hn hd
    go_enter Try.func37, Try.ntmps37
    go_wp2_with fail
    go_ret
    exact ⟨rfl, (Below.refl _ _).alloc (Nat.le_refl _) _⟩
  have q3 : decide (0 ≤ n) = true := decide_eq_true h3
  by_cases h4 : n ≤ 1000000
  rotate_left
  · have q4 : decide (n ≤ 1000000) = false := decide_eq_false h4
    have hbf : b = false := by rw [← hb]; unfold WM.right; rw [q1, q2, q3, q4]; rfl
    subst hbf
    clear hb h1 h2 h3 h4 hn hd
    go_enter Try.func37, Try.ntmps37
    go_wp2_with fail
    go_ret
    exact ⟨rfl, (Below.refl _ _).alloc (Nat.le_refl _) _⟩
  have q4 : decide (n ≤ 1000000) = true := decide_eq_true h4
  obtain ⟨N, rfl⟩ := Int.eq_ofNat_of_zero_le h3
  obtain ⟨D, rfl⟩ := Int.eq_ofNat_of_zero_le (show 0 ≤ d by omega)
  have hg : decide (Nat.gcd N D = 1) = b := by rw [← hb]; unfold WM.right; rw [q1, q2, q3, q4]; rfl
  have hD := fun W => divisor_any N D (by omega) (by omega) W
  clear hb h1 h2 h3 h4 hn hd
  by_cases h5 : Nat.gcd N D = 1
  · rw [h5] at hD
    have hbt : b = true := by rw [← hg]; exact decide_eq_true h5
    subst hbt
    clear hg h5
    go_enter Try.func37, Try.ntmps37
    go_wp2_with fail
    refine (hD _).mono ?_
    rintro e w' ⟨rfl, rfl⟩
    go_wp2_with fail
    go_ret
    exact ⟨rfl, (Below.refl _ _).alloc (Nat.le_refl _) _⟩
  · have hbt : b = false := by rw [← hg]; exact decide_eq_false h5
    have q5 : (((Nat.gcd N D : Nat) : Int) == 1) = false := beq_eq_false_iff_ne.2 (by omega)
    subst hbt
    clear hg h5
    generalize Nat.gcd N D = g at *
    go_enter Try.func37, Try.ntmps37
    go_wp2_with fail
    refine (hD _).mono ?_
    rintro e w' ⟨rfl, rfl⟩
    go_wp2_with fail
    go_ret
    exact ⟨rfl, (Below.refl _ _).alloc (Nat.le_refl _) _⟩
set_option maxHeartbeats 4000000 in
theorem FractionRight_any (n d : Int) (hn : -10000000 ≤ n ∧ n ≤ 10000000) (hd : -10000000 ≤ d ∧ d ≤ 10000000) (b : Bool) (hb : WM.right n d = b) (w : World) :
    Calls Try.prog 20 #[.agg #[.int .i64 n, .int .i64 d]] w (SaysBn b w) := by
  by_cases h1 : 1 ≤ d
  rotate_left
  · have q1 : decide (1 ≤ d) = false := decide_eq_false h1
    have hbf : b = false := by rw [← hb]; unfold WM.right; rw [q1]; rfl
    subst hbf
    clear hb h1 hn hd
    go_enter Try.func20, Try.ntmps20
    go_wp2_with fail
    go_quiet (fail)
    go_wp2_with fail
    go_ret
    exact ⟨rfl, below_drewN ((Below.refl _ _).alloc (Nat.le_refl _) _) _⟩
  have q1 : decide (1 ≤ d) = true := decide_eq_true h1
  by_cases h2 : d ≤ 1000000
  rotate_left
  · have q2 : decide (d ≤ 1000000) = false := decide_eq_false h2
    have hbf : b = false := by rw [← hb]; unfold WM.right; rw [q1, q2]; rfl
    subst hbf
    clear hb h1 h2 hn hd
    go_enter Try.func20, Try.ntmps20
    go_wp2_with fail
    go_quiet (fail)
    go_wp2_with fail
    go_ret
    exact ⟨rfl, below_drewN ((Below.refl _ _).alloc (Nat.le_refl _) _) _⟩
  have q2 : decide (d ≤ 1000000) = true := decide_eq_true h2
  by_cases h3 : 0 ≤ n
  rotate_left
  · have q3 : decide (0 ≤ n) = false := decide_eq_false h3
    have hbf : b = false := by rw [← hb]; unfold WM.right; rw [q1, q2, q3]; rfl
    subst hbf
    clear hb h1 h2 h3 hn hd
    go_enter Try.func20, Try.ntmps20
    go_wp2_with fail
    go_quiet (fail)
    go_wp2_with fail
    go_ret
    exact ⟨rfl, below_drewN ((Below.refl _ _).alloc (Nat.le_refl _) _) _⟩
  have q3 : decide (0 ≤ n) = true := decide_eq_true h3
  by_cases h4 : n ≤ 1000000
  rotate_left
  · have q4 : decide (n ≤ 1000000) = false := decide_eq_false h4
    have hbf : b = false := by rw [← hb]; unfold WM.right; rw [q1, q2, q3, q4]; rfl
    subst hbf
    clear hb h1 h2 h3 h4 hn hd
    go_enter Try.func20, Try.ntmps20
    go_wp2_with fail
    go_quiet (fail)
    go_wp2_with fail
    go_ret
    exact ⟨rfl, below_drewN ((Below.refl _ _).alloc (Nat.le_refl _) _) _⟩
  have q4 : decide (n ≤ 1000000) = true := decide_eq_true h4
  obtain ⟨N, rfl⟩ := Int.eq_ofNat_of_zero_le h3
  obtain ⟨D, rfl⟩ := Int.eq_ofNat_of_zero_le (show 0 ≤ d by omega)
  have hg : decide (Nat.gcd N D = 1) = b := by rw [← hb]; unfold WM.right; rw [q1, q2, q3, q4]; rfl
  have hP : ∀ W, Calls Try.prog 33 #[.int .i64 (N : Int), .int .i64 (D : Int)] W fun e w' => e = .returned (.agg #[.int .i64 ((WM.frac N D).1 : Nat), .int .i64 ((WM.frac N D).2 : Nat)]) ∧ Below W.heap.size W w' := fun W => partR_any N D (by omega) (by omega) W
  have hE : (((WM.frac N D).1 : Int) == (N : Int) && ((WM.frac N D).2 : Int) == (D : Int)) = b := by
    rw [← hg]
    unfold WM.frac
    rw [if_neg (by omega)]
    have hgp : 0 < Nat.gcd N D := Nat.gcd_pos_of_pos_right N (by omega)
    rw [Bool.eq_iff_iff, Bool.and_eq_true, beq_iff_eq, beq_iff_eq, decide_eq_true_iff]
    constructor
    · rintro ⟨_, h⟩
      have h : D / Nat.gcd N D = D := by exact_mod_cast h
      have hdv := Nat.gcd_dvd_right N D
      have h6 := Nat.div_mul_cancel hdv
      rw [h] at h6
      have : D * Nat.gcd N D = D * 1 := by rw [h6, Nat.mul_one]
      exact Nat.eq_of_mul_eq_mul_left (by omega) this
    · intro h
      rw [h]
      simp
  clear hg hb h1 h2 h3 h4 hn hd
  generalize (WM.frac N D).1 = x at *
  generalize (WM.frac N D).2 = y at *
  have hq := fun W => fr_eql x y N D W
  rw [hE] at hq
  clear hE
  go_enter Try.func20, Try.ntmps20
  go_wp2_with fail
  obtain ⟨w1, hw1⟩ : ∃ w1, w.alloc (.cells #[.int .i64 (N : Int), .int .i64 (D : Int)] 34) = w1 := ⟨_, rfl⟩
  rw [hw1]
  have hblk : Blk w1 w.heap.size 34 #[.int .i64 (N : Int), .int .i64 (D : Int)] := by rw [← hw1]; exact Blk.new w _ _
  have hb1 : Below w.heap.size w w1 := by rw [← hw1]; exact (Below.refl _ _).alloc (Nat.le_refl _) _
  have f0 : w1.cell? ⟨w.heap.size, 0, none⟩ = some (.int .i64 (N : Int)) := hblk.cell 0
  have f1 : w1.cell? ⟨w.heap.size, 1, none⟩ = some (.int .i64 (D : Int)) := hblk.cell 1
  have e0 : w1.drew.cell? ⟨w.heap.size, 0, none⟩ = some (.int .i64 (N : Int)) := f0
  have e1 : w1.drew.cell? ⟨w.heap.size, 1, none⟩ = some (.int .i64 (D : Int)) := f1
  have hlt := hblk.lt
  have HB := Lib.hid hb1
  have hPd := hP w1.drew
  clear hw1 hblk hb1 hP
  go_region_held3 (fun w' => w'.cell? ⟨w.heap.size, 0, none⟩ = some (.int .i64 (N : Int)) ∧ w'.cell? ⟨w.heap.size, 1, none⟩ = some (.int .i64 (D : Int)))
    (first | (with_reducible exact ⟨f0, f1⟩) | (with_reducible exact ⟨e0, e1⟩) | (with_reducible exact ⟨g0, g1⟩))
    (first | ((with_reducible refine hPd.mono ?_); rintro e w6 ⟨rfl, hw6⟩; replace hw6 : Below w1.heap.size w1 w6 := ⟨hw6.os, hw6.tape, hw6.output, hw6.size, hw6.block⟩; have g0 := (hw6.cell (p := ⟨w.heap.size, 0, none⟩) hlt).trans f0; have g1 := (hw6.cell (p := ⟨w.heap.size, 1, none⟩) hlt).trans f1))
  go_wp2_with fail
  go_ret
  exact ⟨rfl, HB.out.trans (hw6.mono HB.out.size)⟩
def CmpSays (z c : Int) (w : World) (e : Ending) (w' : World) : Prop := e = .returned (.tuple #[.int .i64 z, .int .i64 c]) ∧ Below w.heap.size w w'
theorem right_bounds {n d : Int} (h : WM.right n d = true) : (0 ≤ n ∧ n ≤ 1000000) ∧ (1 ≤ d ∧ d ≤ 1000000) := by
  unfold WM.right at h
  simp at h
  omega
set_option maxHeartbeats 2000000 in
theorem Compare_bad1 (n d : Int) (v : Value) (x y : Int) (hv : v = .agg #[.int .i64 x, .int .i64 y]) (hn : -10000000 ≤ n ∧ n ≤ 10000000) (hd : -10000000 ≤ d ∧ d ≤ 10000000) (hb : WM.right n d = false) (w : World) :
    Calls Try.prog 19 #[.agg #[.int .i64 n, .int .i64 d], v] w (CmpSays 0 3 w) := by
  have hF := fun W => isFraction_any n d hn hd false hb W
  subst hv
  clear hn hd hb
  go_enter Try.func19, Try.ntmps19
  go_wp2_with fail
  refine (hF _).mono ?_
  rintro e w1 ⟨rfl, hb1⟩
  have H1 := Lib.hid ((((Below.refl _ _).alloc (Nat.le_refl _) _).alloc (by simp) _).trans (hb1.mono (by simp; omega)) : Below w.heap.size w w1)
  clear hF hb1
  go_wp2_with fail
  go_ret2
  exact ⟨rfl, H1.out⟩
set_option maxHeartbeats 2000000 in
theorem Compare_bad2 (n d x y : Int) (hn : -10000000 ≤ n ∧ n ≤ 10000000) (hd : -10000000 ≤ d ∧ d ≤ 10000000) (hx : -10000000 ≤ x ∧ x ≤ 10000000) (hy : -10000000 ≤ y ∧ y ≤ 10000000) (hb : WM.right n d = true) (hb2 : WM.right x y = false) (w : World) :
    Calls Try.prog 19 #[.agg #[.int .i64 n, .int .i64 d], .agg #[.int .i64 x, .int .i64 y]] w (CmpSays 0 3 w) := by
  have hF := fun W => isFraction_any n d hn hd true hb W
  have hG := fun W => isFraction_any x y hx hy false hb2 W
  clear hn hd hb hx hy hb2
  go_enter Try.func19, Try.ntmps19
  go_wp2_with fail
  refine (hF _).mono ?_
  rintro e w1 ⟨rfl, hb1⟩
  have hs1 := hb1.size
  simp at hs1
  have H1 := Lib.hid ((((Below.refl _ _).alloc (Nat.le_refl _) _).alloc (by simp) _).trans (hb1.mono (by simp; omega)) : Below w.heap.size w w1)
  have hblk : Blk w1 (w.heap.size + 1) 34 #[.int .i64 x, .int .i64 y] := by
    have h := Blk.new (w.alloc (.cells #[.int .i64 n, .int .i64 d] 34)) 34 #[.int .i64 x, .int .i64 y]
    rw [show (w.alloc (.cells #[.int .i64 n, .int .i64 d] 34)).heap.size = w.heap.size + 1 by simp] at h
    exact h.below hb1 (by simp)
  have hd0 := hblk.cell 0
  have hd1 := hblk.cell 1
  simp at hd0 hd1
  clear hF hb1 hblk
  go_wp2_with fail
  refine (hG _).mono ?_
  rintro e w2 ⟨rfl, hb2⟩
  have H2 := Lib.hid (H1.out.trans (hb2.mono H1.out.size))
  clear hG hb2
  go_wp2_with fail
  go_ret2
  exact ⟨rfl, H2.out⟩
set_option maxHeartbeats 2000000 in
theorem Compare_ok (n d x y : Int) (hn : -10000000 ≤ n ∧ n ≤ 10000000) (hd : -10000000 ≤ d ∧ d ≤ 10000000) (hx : -10000000 ≤ x ∧ x ≤ 10000000) (hy : -10000000 ≤ y ∧ y ≤ 10000000) (hb : WM.right n d = true) (hb2 : WM.right x y = true) (w : World) :
    Calls Try.prog 19 #[.agg #[.int .i64 n, .int .i64 d], .agg #[.int .i64 x, .int .i64 y]] w (CmpSays (WM.cmpI (n * y) (x * d)) 0 w) := by
  have hF := fun W => isFraction_any n d hn hd true hb W
  have hG := fun W => isFraction_any x y hx hy true hb2 W
  have hC := fun W => compare_any n d x y (right_bounds hb).1 (right_bounds hb).2 (right_bounds hb2).1 (right_bounds hb2).2 W
  clear hn hd hb hx hy hb2
  go_enter Try.func19, Try.ntmps19
  go_wp2_with fail
  refine (hF _).mono ?_
  rintro e w1 ⟨rfl, hb1⟩
  have hs1 := hb1.size
  simp at hs1
  have H1 := Lib.hid ((((Below.refl _ _).alloc (Nat.le_refl _) _).alloc (by simp) _).trans (hb1.mono (by simp; omega)) : Below w.heap.size w w1)
  have hblk : Blk w1 (w.heap.size + 1) 34 #[.int .i64 x, .int .i64 y] := by
    have h := Blk.new (w.alloc (.cells #[.int .i64 n, .int .i64 d] 34)) 34 #[.int .i64 x, .int .i64 y]
    rw [show (w.alloc (.cells #[.int .i64 n, .int .i64 d] 34)).heap.size = w.heap.size + 1 by simp] at h
    exact h.below hb1 (by simp)
  have hblk0 : Blk w1 w.heap.size 34 #[.int .i64 n, .int .i64 d] := ((Blk.new w 34 #[.int .i64 n, .int .i64 d]).alloc _).below hb1 (by simp; omega)
  have hd0 := hblk.cell 0
  have hd1 := hblk.cell 1
  simp at hd0 hd1
  have HK := Lib.hid (And.intro hblk0 hblk)
  clear hF hb1 hblk hblk0
  go_wp2_with fail
  refine (hG _).mono ?_
  rintro e w2 ⟨rfl, hb2⟩
  have H2 := Lib.hid (H1.out.trans (hb2.mono H1.out.size))
  have hk0 := HK.out.1.below hb2 HK.out.1.lt
  have hk1 := HK.out.2.below hb2 HK.out.2.lt
  have e0 := hk0.cell 0
  have e1 := hk0.cell 1
  have e2 := hk1.cell 0
  have e3 := hk1.cell 1
  simp at e0 e1 e2 e3
  clear hG hb2 hk0 hk1 hd0 hd1
  go_wp2_with fail
  refine (hC _).mono ?_
  rintro e w3 ⟨rfl, hb3⟩
  go_wp2_with fail
  go_ret2
  exact ⟨rfl, H2.out.trans (hb3.mono H2.out.size)⟩

theorem small_all : ∀ r : Int, [Value.int .i64 1, .int .i64 2, .int .i64 2, .int .i64 3, .int .i64 5, .int .i64 10, .int .i64 r].length = 7 := fun _ => rfl
set_option maxHeartbeats 1000000 in
theorem Size_any (B g k : Nat) (hk : k < 100000000000) (w : World) (hs : Strm w B g k) :
    Calls Try.prog 5 #[.pointer (some ⟨g, 0, none⟩)] w (TookN 0 11 B g (k + 2) w) := by
  have hg := hs.lt
  have hP := pick_new 3 [.int .i64 2, .int .i64 0, .int .i64 11] 0 11 3 B g k w hs rfl (by omega) (by omega) (by decide) (by omega)
  go_enter Try.func5, Try.ntmps5
  go_wp2_with fail
  refine hP.mono ?_
  rintro e w1 ⟨r, hr1, hr2, rfl, ⟨k1, hk1, hs1⟩, hg1⟩
  have hQ := pick_new 7 [.int .i64 1, .int .i64 2, .int .i64 2, .int .i64 3, .int .i64 5, .int .i64 10, .int .i64 r] 0 11 3 B g k1 w1 hs1 rfl (by omega) (by omega) (by simp [intV, hr1, hr2]) (by omega)
  go_wp2_with fail
  refine hQ.mono ?_
  rintro e w2 ⟨z, hz1, hz2, rfl, ⟨k2, hk2, hs2⟩, hg2⟩
  go_wp2_with fail
  go_ret
  exact tookN_of hz1 hz2 hs2 (by omega) (hg1.trans hg2)
end Go.Proofs.Ythgembgincaapaa
