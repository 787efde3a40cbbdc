/- Contract of sample.Afford. -/
import Derived.Test.YtcpneokkhjffeaaCostP
import Derived.Deep.RegionHeld3
import Derived.Deep.DeepCutAuto
namespace Go.Proofs.Ytcpneokkhjffeaa
open Go.RowKit

def TwoSaysZ (n c : Int) (w : World) (e : Ending) (w' : World) : Prop := e = .returned (.tuple #[.int .i64 n, .int .i64 c]) ∧ Below w.heap.size w w'
/-- the rules lie boxed, the cents, too -/
def Bxd (b1 b2 : Nat) (o r s e : Nat) (c : Int) (W : World) : Prop := Blk W b1 29 #[.int .i64 o, .int .i64 r, .int .i64 s, .int .i64 e] ∧ Blk W b2 3 #[.int .i64 c]
theorem Bxd.below {b1 b2 o r s e : Nat} {c : Int} {W W' : World} (h : Bxd b1 b2 o r s e c W) (hb : Below W.heap.size W W') : Bxd b1 b2 o r s e c W' := ⟨h.1.below hb h.1.lt, h.2.below hb h.2.lt⟩
set_option maxHeartbeats 4000000 in
theorem Aff1_any (o r s e i : Nat) (c : Int) (b1 b2 : Nat) (ho : o ≤ 1000000000) (hr : r ≤ 1000000000) (hs : s ≤ 1000000000) (he : e ≤ 1000000) (hi : i < 1000000) (W : World) (hB : Bxd b1 b2 o r s e c W) :
    Calls Try.prog 18 #[.int .i64 i, .pointer (some ⟨b1, 0, none⟩), .pointer (some ⟨b2, 0, none⟩)] W (SBN (decide (c < (SC.cost o r s e (i + 1) : Nat))) W) := by
  have hC : ∀ W, Calls Try.prog 16 #[.agg #[.int .i64 o, .int .i64 r, .int .i64 s, .int .i64 e], .int .i64 ((i : Int) + 1)] W (SaysZ (SC.cost o r s e (i + 1) : Nat) W) := by
    intro W
    have := costP_any o r s e (i + 1) ho hr hs he (by omega) W
    rwa [show ((i + 1 : Nat) : Int) = (i : Int) + 1 by omega] at this
  generalize SC.cost o r s e (i + 1) = C at *
  have k0 : W.cell? ⟨b1, 0, none⟩ = some (.int .i64 o) := hB.1.cell 0
  have k1 : W.cell? ⟨b1, 1, none⟩ = some (.int .i64 r) := hB.1.cell 1
  have k2 : W.cell? ⟨b1, 2, none⟩ = some (.int .i64 s) := hB.1.cell 2
  have k3 : W.cell? ⟨b1, 3, none⟩ = some (.int .i64 e) := hB.1.cell 3
  have k4 : W.cell? ⟨b2, 0, none⟩ = some (.int .i64 c) := hB.2.cell 0
  have d0 : W.drew.cell? ⟨b1, 0, none⟩ = some (.int .i64 o) := k0
  have d1 : W.drew.cell? ⟨b1, 1, none⟩ = some (.int .i64 r) := k1
  have d2 : W.drew.cell? ⟨b1, 2, none⟩ = some (.int .i64 s) := k2
  have d3 : W.drew.cell? ⟨b1, 3, none⟩ = some (.int .i64 e) := k3
  have d4 : W.drew.cell? ⟨b2, 0, none⟩ = some (.int .i64 c) := k4
  have hCd := hC W.drew
  have hcw : IntKind.i64.wrap ((i : Int) + 1) = (i : Int) + 1 := IntWalk.i64_in _ ⟨by omega, by omega⟩
  have hcw2 : wrap64 ((i : Int) + 1) = (i : Int) + 1 := IntWalk.wrap64_in _ ⟨by omega, by omega⟩
  have HB := Lib.hid (And.intro hB.1.lt hB.2.lt)
  clear hB hC
  go_enter Try.func18, Try.ntmps18
  go_upto_region 1 with fail
  go_region_held3 (fun w' => w'.cell? ⟨b1, 0, none⟩ = some (.int .i64 o) ∧ w'.cell? ⟨b1, 1, none⟩ = some (.int .i64 r) ∧ w'.cell? ⟨b1, 2, none⟩ = some (.int .i64 s) ∧ w'.cell? ⟨b1, 3, none⟩ = some (.int .i64 e) ∧ w'.cell? ⟨b2, 0, none⟩ = some (.int .i64 c))
    (first | (with_reducible exact ⟨k0, k1, k2, k3, k4⟩) | (with_reducible exact ⟨d0, d1, d2, d3, d4⟩) | (with_reducible exact ⟨e0, e1, e2, e3, e4⟩) | fail)
    (first | ((with_reducible refine hCd.mono ?_); rintro e2 w2 ⟨rfl, hb2⟩; replace hb2 : Below W.heap.size W w2 := ⟨hb2.os, hb2.tape, hb2.output, hb2.size, hb2.block⟩; have e0 := (hb2.cell (p := ⟨b1, 0, none⟩) HB.out.1).trans k0; have e1 := (hb2.cell (p := ⟨b1, 1, none⟩) HB.out.1).trans k1; have e2 := (hb2.cell (p := ⟨b1, 2, none⟩) HB.out.1).trans k2; have e3 := (hb2.cell (p := ⟨b1, 3, none⟩) HB.out.1).trans k3; have e4 := (hb2.cell (p := ⟨b2, 0, none⟩) HB.out.2).trans k4; have HW := Lib.hid hb2; clear hb2) | fail)
  all_goals go_wp2_with fail
  all_goals go_ret
  all_goals exact ⟨rfl, HW.out⟩
theorem u64_in (n : Int) (h : 0 ≤ n ∧ n ≤ 9223372036854775807) : IntKind.u64.wrap n = n := by rw [IntKind.wrap_u64]; omega
def SeaRel (p : Nat → Bool) (n : Nat) (w : World) (b1 b2 o r s e : Nat) (c : Int) (i j : Value) (wr : World) : Prop := ∃ (a z : Nat), i = .int .i64 a ∧ j = .int .i64 z ∧ a ≤ z ∧ z ≤ n ∧ Hid ((∀ x, x < a → p x = false) ∧ (∀ x, z ≤ x → x < n → p x = true)) ∧ Hid (Below w.heap.size w wr ∧ Bxd b1 b2 o r s e c wr)
def SeaSays (p : Nat → Bool) (n : Nat) (w : World) (en : Ending) (w' : World) : Prop := ∃ L : Nat, L ≤ n ∧ (∀ x, x < L → p x = false) ∧ (∀ x, L ≤ x → x < n → p x = true) ∧ en = .returned (.int .i64 L) ∧ Below w.heap.size w w'
set_option maxHeartbeats 4000000 in
theorem SearchA_any (p : Nat → Bool) (hp : ∀ a b, a ≤ b → p a = true → p b = true) (n : Nat) (hn : n ≤ 1000000000) (b1 b2 o r s e : Nat) (c : Int) (w : World) (hB : Bxd b1 b2 o r s e c w)
    (hf : ∀ i, i < n → ∀ W, Bxd b1 b2 o r s e c W → Calls Try.prog 18 #[.int .i64 i, .pointer (some ⟨b1, 0, none⟩), .pointer (some ⟨b2, 0, none⟩)] W (SBN (p i) W)) :
    Calls Try.prog 17 #[.int .i64 n, .func (.func 18) #[] #[.pointer (some ⟨b1, 0, none⟩), .pointer (some ⟨b2, 0, none⟩)]] w (SeaSays p n w) := by
  have HP := Lib.hid hp
  have HF := Lib.hid hf
  have H0 := Lib.hid (And.intro (Below.refl w.heap.size w) hB)
  clear hp hf hB
  go_enter Try.func17, Try.ntmps17
  go_wp2_with fail
  go_loopw [5, 6] (fun i j wr => SeaRel p n w b1 b2 o r s e c i j wr) (fun i j _ => (intOf j).toNat - (intOf i).toNat)
  case atStart => exact ⟨0, n, rfl, rfl, Nat.zero_le _, Nat.le_refl _, Lib.hid ⟨fun x h => absurd h (by omega), fun x h1 h2 => absurd h1 (by omega)⟩, H0⟩
  case round =>
    obtain ⟨a, z, rfl, rfl, haz, hzn, HK, HW⟩ := hrel
    clear H0
    by_cases hlt : a < z
    · obtain ⟨m, hm1, hm2, hm⟩ : ∃ m : Nat, a ≤ m ∧ m < z ∧ ((a : Int) + (z : Int)) / 2 = (m : Int) := ⟨(a + z) / 2, by omega, by omega, by omega⟩
      have e1 : wrap64 ((a : Int) + (z : Int)) = (a : Int) + (z : Int) := IntWalk.wrap64_in _ ⟨by omega, by omega⟩
      have e2 : IntKind.u64.wrap ((a : Int) + (z : Int)) = (a : Int) + (z : Int) := u64_in _ ⟨by omega, by omega⟩
      have e3 : wrap64 (m : Int) = (m : Int) := IntWalk.wrap64_in _ ⟨by omega, by omega⟩
      have hcall := HF.out m (by omega) wr HW.out.2
      cases hpm : p m
      · have HK2 := Lib.hid (show (∀ x, x < m + 1 → p x = false) ∧ (∀ x, z ≤ x → x < n → p x = true) from ⟨fun x hx => (by
          cases hpx : p x
          · rfl
          · have := HP.out x m (by omega) hpx
            (rw [hpm] at this; cases this)), HK.out.2⟩)
        rw [hpm] at hcall
        clear hpm
        go_wp2_with fail
        refine hcall.mono ?_
        rintro en w1 ⟨rfl, hb1⟩
        have HW2 := Lib.hid (And.intro (HW.out.1.trans (hb1.mono HW.out.1.size)) (HW.out.2.below hb1))
        clear hb1 hcall
        go_wp2_with fail
        exact ⟨⟨m + 1, z, by simp, rfl, by omega, hzn, HK2, HW2⟩, by simp [intOf]; omega⟩
      · have HK2 := Lib.hid (show (∀ x, x < a → p x = false) ∧ (∀ x, m ≤ x → x < n → p x = true) from ⟨HK.out.1, fun x hx _ => HP.out m x hx hpm⟩)
        rw [hpm] at hcall
        clear hpm
        go_wp2_with fail
        refine hcall.mono ?_
        rintro en w1 ⟨rfl, hb1⟩
        have HW2 := Lib.hid (And.intro (HW.out.1.trans (hb1.mono HW.out.1.size)) (HW.out.2.below hb1))
        clear hb1 hcall
        go_wp2_with fail
        exact ⟨⟨a, m, rfl, rfl, by omega, by omega, HK2, HW2⟩, by simp [intOf]; omega⟩
    · have hlt2 : ¬ ((a : Int) < (z : Int)) := by omega
      have HE := Lib.hid (show a ≤ n ∧ (∀ x, x < a → p x = false) ∧ (∀ x, a ≤ x → x < n → p x = true) from ⟨by omega, HK.out.1, fun x hx => HK.out.2 x (by omega)⟩)
      clear HK hlt
      go_wp2_with fail
      go_ret
      exact ⟨a, HE.out.1, HE.out.2.1, HE.out.2.2, rfl, HW.out.1⟩
theorem aff_of {o r s e L : Nat} {c : Int} (ho : (o : Int) ≤ c) (hL : L ≤ 1000000) (h1 : ∀ x, x < L → decide (c < (SC.cost o r s e (x + 1) : Nat)) = false) (h2 : ∀ x, L ≤ x → x < 1000000 → decide (c < (SC.cost o r s e (x + 1) : Nat)) = true) : Aff o r s e c L := by
  refine ⟨by omega, by omega, fun n hn => ?_, fun n hn hn2 => ?_⟩
  · cases n with
    | zero =>
      have : SC.cost o r s e 0 = o := by unfold SC.cost; simp
      rw [this]; exact ho
    | succ x =>
      have := of_decide_eq_false (h1 x (by omega))
      omega
  · cases n with
    | zero => omega
    | succ x => exact of_decide_eq_true (h2 x (by omega) (by omega))
theorem aff_none {o r s e : Nat} {c : Int} (ho : c < (o : Int)) : Aff o r s e c (-1) := by
  refine ⟨by omega, by omega, fun n hn => by omega, fun n _ _ => ?_⟩
  have : o ≤ SC.cost o r s e n := by unfold SC.cost; omega
  omega
def AfSays (o r s e : Nat) (c : Int) (w : World) (en : Ending) (w' : World) : Prop := ∃ L : Int, Aff o r s e c L ∧ en = .returned (.tuple #[.int .i64 (max 0 L), .int .i64 (if 0 ≤ L then 0 else 16)]) ∧ Below w.heap.size w w'
set_option maxHeartbeats 4000000 in
theorem AffordP_ok (o r s e : Nat) (c : Int) (ho : o ≤ 1000000000) (hr : r ≤ 1000000000) (hs : s ≤ 1000000000) (he : e ≤ 1000000) (hc : 0 ≤ c ∧ c ≤ 10000000000000000) (w : World) :
    Calls Try.prog 8 #[.agg #[.int .i64 o, .int .i64 r, .int .i64 s, .int .i64 e], .int .i64 c] w (AfSays o r s e c w) := by
  have hz : (w.alloc (.cells #[.int .i64 o, .int .i64 r, .int .i64 s, .int .i64 e] 29)).heap.size = w.heap.size + 1 := by simp
  have hB0 : Bxd w.heap.size (w.heap.size + 1) o r s e c ((w.alloc (.cells #[.int .i64 o, .int .i64 r, .int .i64 s, .int .i64 e] 29)).alloc (.cells #[.int .i64 c] 3)) :=
    ⟨(Blk.new w _ _).alloc _, by have := Blk.new (w.alloc (.cells #[.int .i64 o, .int .i64 r, .int .i64 s, .int .i64 e] 29)) 3 #[.int .i64 c]; rwa [hz] at this⟩
  have HB := Lib.hid (And.intro hB0 (((Below.refl w.heap.size w).alloc (Nat.le_refl _) (.cells #[.int .i64 o, .int .i64 r, .int .i64 s, .int .i64 e] 29)).alloc (by omega) (.cells #[.int .i64 c] 3)))
  have hA := fun W => areCostRules_any o r s e true (iff_of_true (fault_all.2 ⟨fun j hj => by
    unfold SC.one f3
    simp only [Bool.and_eq_true, decide_eq_true_eq]
    split
    · omega
    · split <;> omega, by unfold SC.every; simp only [Bool.and_eq_true, decide_eq_true_eq]; omega⟩) rfl) W
  have q1 : decide (c < 0) = false := decide_eq_false (by omega)
  have q2 : decide (10000000000000000 < c) = false := decide_eq_false (by omega)
  have HH := Lib.hid (And.intro ho (And.intro hr (And.intro hs he)))
  clear hz hB0 hc
  by_cases hoc : (o : Int) ≤ c
  · have q3 : decide (c < (o : Int)) = false := decide_eq_false (by omega)
    have hoc2 := Lib.hid hoc
    have hS : ∀ W, Bxd w.heap.size (w.heap.size + 1) o r s e c W → Calls Try.prog 17 #[.int .i64 1000000, .func (.func 18) #[] #[.pointer (some ⟨w.heap.size, 0, none⟩), .pointer (some ⟨w.heap.size + 1, 0, none⟩)]] W (SeaSays (fun i => decide (c < (SC.cost o r s e (i + 1) : Nat))) 1000000 W) := fun W hW =>
      SearchA_any (fun i => decide (c < (SC.cost o r s e (i + 1) : Nat))) (fun a b hab h => decide_eq_true (by have h := of_decide_eq_true h; have := SC.cost_mono o r s e (show a + 1 ≤ b + 1 by omega); omega)) 1000000 (by omega) _ _ o r s e c W hW (fun i hi W2 hW2 => Aff1_any o r s e i c _ _ HH.out.1 HH.out.2.1 HH.out.2.2.1 HH.out.2.2.2 hi W2 hW2)
    clear ho hr hs he hoc
    go_enter Try.func8, Try.ntmps8
    go_wp2_with fail
    refine (hA _).mono ?_
    rintro e1 w1 ⟨rfl, hb1⟩
    have hB1 := HB.out.1.below hb1
    have k0 : w1.cell? ⟨w.heap.size, 0, none⟩ = some (.int .i64 o) := hB1.1.cell 0
    have k4 : w1.cell? ⟨w.heap.size + 1, 0, none⟩ = some (.int .i64 c) := hB1.2.cell 0
    have hS1 := hS w1 hB1
    have HW := Lib.hid (HB.out.2.trans (hb1.mono HB.out.2.size))
    clear hA hb1 hB1 HB hS
    go_wp2_with fail
    refine hS1.mono ?_
    rintro e2 w2 ⟨L, hL1, hL2, hL3, rfl, hb2⟩
    have HL := Lib.hid (And.intro (aff_of hoc2.out hL1 hL2 hL3) (HW.out.trans (hb2.mono HW.out.size)))
    clear hL1 hL2 hL3 hb2 hS1
    go_wp2_with fail
    go_ret2
    exact ⟨(L : Int), HL.out.1, by rw [if_pos (show (0 : Int) ≤ (L : Int) by omega), show max (0 : Int) (L : Int) = (L : Int) by omega]; rfl, HL.out.2⟩
  · have q3 : decide (c < (o : Int)) = true := decide_eq_true (by omega)
    have hoc2 := Lib.hid (show c < (o : Int) by omega)
    clear ho hr hs he hoc
    go_enter Try.func8, Try.ntmps8
    go_wp2_with fail
    refine (hA _).mono ?_
    rintro e1 w1 ⟨rfl, hb1⟩
    have hB1 := HB.out.1.below hb1
    have k0 : w1.cell? ⟨w.heap.size, 0, none⟩ = some (.int .i64 o) := hB1.1.cell 0
    have k4 : w1.cell? ⟨w.heap.size + 1, 0, none⟩ = some (.int .i64 c) := hB1.2.cell 0
    have HW := Lib.hid (HB.out.2.trans (hb1.mono HB.out.2.size))
    clear hA hb1 hB1 HB
    go_wp2_with fail
    go_ret2
    exact ⟨-1, aff_none hoc2.out, rfl, HW.out⟩
set_option maxHeartbeats 4000000 in
theorem AffordP_bad (o r s e c : Int) (h : SC.fault o r s e ≠ 0 ∨ c < 0 ∨ 10000000000000000 < c) (w : World) :
    Calls Try.prog 8 #[.agg #[.int .i64 o, .int .i64 r, .int .i64 s, .int .i64 e], .int .i64 c] w (TwoSaysZ 0 1 w) := by
  have hz : (w.alloc (.cells #[.int .i64 o, .int .i64 r, .int .i64 s, .int .i64 e] 29)).heap.size = w.heap.size + 1 := by simp
  have hB0 : Blk ((w.alloc (.cells #[.int .i64 o, .int .i64 r, .int .i64 s, .int .i64 e] 29)).alloc (.cells #[.int .i64 c] 3)) (w.heap.size + 1) 3 #[.int .i64 c] := by have := Blk.new (w.alloc (.cells #[.int .i64 o, .int .i64 r, .int .i64 s, .int .i64 e] 29)) 3 #[.int .i64 c]; rwa [hz] at this
  have HB := Lib.hid (And.intro hB0 (((Below.refl w.heap.size w).alloc (Nat.le_refl _) (.cells #[.int .i64 o, .int .i64 r, .int .i64 s, .int .i64 e] 29)).alloc (by omega) (.cells #[.int .i64 c] 3)))
  clear hz hB0
  by_cases hf : SC.fault o r s e = 0
  · have hA := fun W => areCostRules_any o r s e true (iff_of_true hf rfl) W
    have hcc : c < 0 ∨ 10000000000000000 < c := by rcases h with h | h; exact absurd hf h; exact h
    clear h hf
    rcases hcc with hc | hc
    · have q1 : decide (c < 0) = true := decide_eq_true hc
      clear hc
      go_enter Try.func8, Try.ntmps8
      go_wp2_with fail
      refine (hA _).mono ?_
      rintro e1 w1 ⟨rfl, hb1⟩
      have k4 : w1.cell? ⟨w.heap.size + 1, 0, none⟩ = some (.int .i64 c) := (HB.out.1.below hb1 HB.out.1.lt).cell 0
      have HW := Lib.hid (HB.out.2.trans (hb1.mono HB.out.2.size))
      clear hA hb1 HB
      go_wp2_with fail
      go_ret2
      exact ⟨rfl, HW.out⟩
    · have q1 : decide (c < 0) = false := decide_eq_false (by omega)
      have q2 : decide (10000000000000000 < c) = true := decide_eq_true hc
      clear hc
      go_enter Try.func8, Try.ntmps8
      go_wp2_with fail
      refine (hA _).mono ?_
      rintro e1 w1 ⟨rfl, hb1⟩
      have k4 : w1.cell? ⟨w.heap.size + 1, 0, none⟩ = some (.int .i64 c) := (HB.out.1.below hb1 HB.out.1.lt).cell 0
      have HW := Lib.hid (HB.out.2.trans (hb1.mono HB.out.2.size))
      clear hA hb1 HB
      go_wp2_with fail
      go_ret2
      exact ⟨rfl, HW.out⟩
  · have hA := fun W => areCostRules_any o r s e false (iff_of_false hf (by simp)) W
    clear h hf
    go_enter Try.func8, Try.ntmps8
    go_wp2_with fail
    refine (hA _).mono ?_
    rintro e1 w1 ⟨rfl, hb1⟩
    have HW := Lib.hid (HB.out.2.trans (hb1.mono HB.out.2.size))
    clear hA hb1 HB
    go_wp2_with fail
    go_ret2
    exact ⟨rfl, HW.out⟩
theorem CostP_bad (o r s e i : Int) (h : ¬ (SC.fault o r s e = 0 ∧ 0 ≤ i ∧ i ≤ 1000000)) (w : World) :
    Calls Try.prog 7 #[.agg #[.int .i64 o, .int .i64 r, .int .i64 s, .int .i64 e], .int .i64 i] w (TwoSaysZ 0 1 w) := by
  have := CostP_any o r s e i w
  rw [if_neg h, if_neg h] at this
  exact this
theorem CostP_ok (o r s e i : Nat) (ho : o ≤ 1000000000) (hr : r ≤ 1000000000) (hs : s ≤ 1000000000) (he : e ≤ 1000000) (hi : i ≤ 1000000) (w : World) :
    Calls Try.prog 7 #[.agg #[.int .i64 o, .int .i64 r, .int .i64 s, .int .i64 e], .int .i64 i] w (TwoSaysZ (SC.cost o r s e i : Nat) 0 w) := by
  have hf : SC.fault (o : Int) r s e = 0 := fault_all.2 ⟨fun j hj => by
    unfold SC.one f3
    simp only [Bool.and_eq_true, decide_eq_true_eq]
    split
    · omega
    · split <;> omega, by unfold SC.every; simp only [Bool.and_eq_true, decide_eq_true_eq]; omega⟩
  have := CostP_any (o : Int) r s e i w
  rw [if_pos ⟨hf, by omega, by omega⟩, if_pos ⟨hf, by omega, by omega⟩] at this
  simp only [Int.toNat_natCast] at this
  exact this
end Go.Proofs.Ytcpneokkhjffeaa
