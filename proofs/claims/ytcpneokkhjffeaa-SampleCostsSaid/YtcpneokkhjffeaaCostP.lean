/- Contracts of sample.areCostRules, cost, Cost. -/
import Derived.Test.YtcpneokkhjffeaaCounts
import Derived.Test.YtcpneokkhjffeaaCostR
namespace Go.Proofs.Ytcpneokkhjffeaa
open Go.RowKit

def CpRel (f : Nat → Int) (w : World) (i : Value) (wr : World) : Prop := ∃ k : Nat, i = .int .i64 k ∧ k ≤ 3 ∧ Hid (∀ j, j < k → SC.one (f j) = true) ∧ ∃ q, wr = w.drewN q
def f3 (o r s : Int) (j : Nat) : Int := if j = 0 then o else if j = 1 then r else s
theorem fault_all {o r s e : Int} : SC.fault o r s e = 0 ↔ (∀ j, j < 3 → SC.one (f3 o r s j) = true) ∧ SC.every e = true := by
  unfold SC.fault
  constructor
  · intro h
    by_cases h2 : (SC.one o && (SC.one r && (SC.one s && SC.every e))) = true
    · simp only [Bool.and_eq_true] at h2
      refine ⟨fun j hj => ?_, h2.2.2.2⟩
      rcases (by omega : j = 0 ∨ j = 1 ∨ j = 2) with rfl | rfl | rfl
      · exact h2.1
      · exact h2.2.1
      · exact h2.2.2.1
    · rw [if_neg h2] at h; cases h
  · rintro ⟨h, h2⟩
    rw [if_pos]
    simp only [Bool.and_eq_true]
    exact ⟨h 0 (by omega), h 1 (by omega), h 2 (by omega), h2⟩
theorem fault_two (o r s e : Int) : SC.fault o r s e = 0 ∨ SC.fault o r s e = 1 := by unfold SC.fault; split <;> simp
def SBN (b : Bool) (w : World) (e : Ending) (w' : World) : Prop := e = .returned (.bool b) ∧ Below w.heap.size w w'
set_option maxHeartbeats 4000000 in
theorem areCostRules_any (o r s e : Int) (b : Bool) (hb : SC.fault o r s e = 0 ↔ b = true) (w : World) :
    Calls Try.prog 14 #[.agg #[.int .i64 o, .int .i64 r, .int .i64 s, .int .i64 e]] w (SBN b w) := by
  have hz : (w.alloc (.cells #[.int .i64 o, .int .i64 r, .int .i64 s, .int .i64 e] 29)).heap.size = w.heap.size + 1 := by simp
  have hrow := lit_ints (w.alloc (.cells #[.int .i64 o, .int .i64 r, .int .i64 s, .int .i64 e] 29)) [o, r, s] 3 (f3 o r s) (by
    intro j z h
    match j, h with
    | 0, h => simpa [f3] using h
    | 1, h => simpa [f3] using h
    | 2, h => simpa [f3] using h)
  rw [hz] at hrow
  have hB := (Blk.new w 29 #[.int .i64 o, .int .i64 r, .int .i64 s, .int .i64 e]).alloc (.cells #[.int .i64 o, .int .i64 r, .int .i64 s] 3)
  have hW := ((Below.refl w.heap.size w).alloc (Nat.le_refl _) (.cells #[.int .i64 o, .int .i64 r, .int .i64 s, .int .i64 e] 29)).alloc (by simp) (.cells #[.int .i64 o, .int .i64 r, .int .i64 s] 3)
  have HB := Lib.hid (And.intro hB (And.intro hW hrow))
  have HF := Lib.hid hb
  clear hB hW hrow hz hb
  go_enter Try.func14, Try.ntmps14
  go_wp2_with fail
  go_loopw [13] (fun i wr => CpRel (f3 o r s) ((w.alloc (.cells #[.int .i64 o, .int .i64 r, .int .i64 s, .int .i64 e] 29)).alloc (.cells #[.int .i64 o, .int .i64 r, .int .i64 s] 3)) i wr) (fun i _ => 3 - (intOf i).toNat)
  case atStart => exact ⟨0, rfl, by omega, Lib.hid (fun j hj => absurd hj (by omega)), 0, rfl⟩
  case round =>
    obtain ⟨k, rfl, hk, HK, q, hq⟩ := hrel
    have HQ := Lib.hid (show ∃ q, wr = _ from ⟨q, hq⟩)
    have hW := below_of_drewN HB.out.2.1 HQ.out
    by_cases hlt : k < 3
    · have hc : wr.cell? ⟨w.heap.size + 1, k, none⟩ = some (.int .i64 (f3 o r s k)) := by rw [hq]; exact HB.out.2.2 k (by simpa using hlt)
      have HW := Lib.hid hW
      clear hq hW
      cases ho : SC.one (f3 o r s k)
      · have HO := Lib.hid (show b = false by
          cases b
          · rfl
          · have := (fault_all.1 (HF.out.2 rfl)).1 k hlt; rw [ho] at this; cases this)
        have hor : f3 o r s k < 0 ∨ 1000000000 < f3 o r s k := by
          unfold SC.one at ho
          by_cases h1 : 0 ≤ f3 o r s k
          · by_cases h2 : f3 o r s k ≤ 1000000000
            · rw [decide_eq_true h1, decide_eq_true h2] at ho; cases ho
            · omega
          · omega
        clear ho
        generalize f3 o r s k = z at *
        rcases hor with h1 | h1
        · have q1 : decide (z < 0) = true := decide_eq_true h1
          clear h1
          go_wp2_with fail
          go_ret
          exact ⟨by rw [HO.out]; rfl, HW.out⟩
        · have q1 : decide (z < 0) = false := decide_eq_false (by omega)
          have q2 : decide (1000000000 < z) = true := decide_eq_true h1
          clear h1
          go_wp2_with fail
          go_ret
          exact ⟨by rw [HO.out]; rfl, HW.out⟩
      · have HK2 := Lib.hid (show ∀ j, j < k + 1 → SC.one (f3 o r s j) = true from fun j hj => by
          rcases Nat.lt_or_ge j k with h | h
          · exact HK.out j h
          · obtain rfl : j = k := by omega
            exact ho)
        have hin : 0 ≤ f3 o r s k ∧ f3 o r s k ≤ 1000000000 := by
          unfold SC.one at ho
          simp only [Bool.and_eq_true, decide_eq_true_eq] at ho
          exact ho
        have q1 : decide (f3 o r s k < 0) = false := decide_eq_false (by omega)
        have q2 : decide (1000000000 < f3 o r s k) = false := decide_eq_false (by omega)
        clear ho hin
        generalize f3 o r s k = z at *
        go_wp2_with fail
        exact ⟨⟨k + 1, by simp, by omega, HK2, HQ.out⟩, by simp [intOf]; omega⟩
    · have hk3 : k = 3 := by omega
      subst hk3
      have hB := HB.out.1.of_drewN HQ.out
      have hc3 : wr.cell? ⟨w.heap.size, 3, none⟩ = some (.int .i64 e) := hB.cell 3
      have hrow := lit_ints wr [e] 3 (fun _ => e) (by
        intro j z h
        match j, h with
        | 0, h => simpa using h)
      have hA := areCounts_any (c := 1) (fun _ => e) hrow (by simp) b (by
        constructor
        · intro h
          exact HF.out.1 (fault_all.2 ⟨fun j hj => HK.out j hj, by have := h 0 (by simp); unfold SC.every; simp only [Bool.and_eq_true, decide_eq_true_eq]; exact this⟩)
        · intro h j _
          have := (fault_all.1 (HF.out.2 h)).2
          unfold SC.every at this
          simpa only [Bool.and_eq_true, decide_eq_true_eq] using this)
      have HW := Lib.hid (hW.alloc hW.size (.cells #[.int .i64 e] 3))
      clear hq hB hrow hW
      go_wp2_with fail
      refine hA.mono ?_
      rintro e1 w1 ⟨rfl, hq1⟩
      have hW2 := Lib.hid (below_of_drewN HW.out hq1)
      clear hq1
      go_wp2_with fail
      go_ret
      exact ⟨rfl, hW2.out⟩
set_option maxHeartbeats 4000000 in
theorem costP_any (o r s e n : Nat) (ho : o ≤ 1000000000) (hr : r ≤ 1000000000) (hs : s ≤ 1000000000) (he : e ≤ 1000000) (hn : n ≤ 1000000) (w : World) :
    Calls Try.prog 16 #[.agg #[.int .i64 o, .int .i64 r, .int .i64 s, .int .i64 e], .int .i64 n] w (SaysZ (SC.cost o r s e n : Nat) w) := by
  obtain ⟨g1, g2, g3⟩ := SC.cost_le r s e n hr hs hn
  by_cases h0 : 0 < e
  · have hq : decide ((e : Int) > 0) = true := decide_eq_true (by omega)
    have hz : ((e : Int) == 0) = false := beq_eq_false_iff_ne.2 (by omega)
    have hz1 : ¬ (e : Int) = 0 := by omega
    have e1 : wrap64 ((n : Int) * (r : Int)) = ((n * r : Nat) : Int) := by rw [← Int.natCast_mul]; generalize n * r = x at g1 ⊢; exact IntWalk.wrap64_in _ ⟨by omega, by omega⟩
    have e2 : wrap64 ((n : Int) / (e : Int)) = ((n / e : Nat) : Int) := by rw [← Int.natCast_ediv]; generalize n / e = x at g2 ⊢; exact IntWalk.wrap64_in _ ⟨by omega, by omega⟩
    have e3 : wrap64 (((n / e : Nat) : Int) * (s : Int)) = ((n / e * s : Nat) : Int) := by rw [← Int.natCast_mul]; generalize n / e * s = x at g3 ⊢; exact IntWalk.wrap64_in _ ⟨by omega, by omega⟩
    have HF := Lib.hid (show SC.cost o r s e n = o + n * r + n / e * s from rfl)
    generalize SC.cost o r s e n = C at *
    go_enter Try.func16, Try.ntmps16
    go_wp2_with fail
    go_region
    all_goals go_wp2_with fail
    all_goals go_ret
    have E : wrap64 ((o : Int) + (n : Int) * (r : Int) + wrap64 ((n : Int) / (e : Int) * (s : Int))) = (C : Int) := by
      rw [← Int.natCast_ediv, e3, ← Int.natCast_mul, HF.out]
      generalize n * r = x at g1 ⊢
      generalize n / e * s = y at g3 ⊢
      rw [IntWalk.wrap64_in _ ⟨by omega, by omega⟩]
      omega
    exact ⟨by show Ending.returned (.int .i64 (wrap64 ((o : Int) + (n : Int) * (r : Int) + wrap64 ((n : Int) / (e : Int) * (s : Int))))) = _; rw [E], below_drewN ((Below.refl _ _).alloc (Nat.le_refl _) _) _⟩
  · obtain rfl : e = 0 := by omega
    have e1 : wrap64 ((n : Int) * (r : Int)) = ((n * r : Nat) : Int) := by rw [← Int.natCast_mul]; generalize n * r = x at g1 ⊢; exact IntWalk.wrap64_in _ ⟨by omega, by omega⟩
    have HF := Lib.hid (show SC.cost o r s 0 n = o + n * r by unfold SC.cost; rw [Nat.div_zero]; omega)
    generalize SC.cost o r s 0 n = C at *
    go_enter Try.func16, Try.ntmps16
    go_wp2_with fail
    go_ret
    exact ⟨by show Ending.returned (.int .i64 ((o : Int) + (n : Int) * (r : Int))) = _; rw [HF.out, Int.natCast_add, Int.natCast_mul], (Below.refl _ _).alloc (Nat.le_refl _) _⟩
set_option maxHeartbeats 4000000 in
theorem CostP_any (o r s e i : Int) (w : World) :
    Calls Try.prog 7 #[.agg #[.int .i64 o, .int .i64 r, .int .i64 s, .int .i64 e], .int .i64 i] w (fun en w' => en = .returned (.tuple #[.int .i64 (if SC.fault o r s e = 0 ∧ 0 ≤ i ∧ i ≤ 1000000 then (SC.cost o.toNat r.toNat s.toNat e.toNat i.toNat : Nat) else 0), .int .i64 (if SC.fault o r s e = 0 ∧ 0 ≤ i ∧ i ≤ 1000000 then 0 else 1)]) ∧ Below w.heap.size w w') := by
  have hB := Blk.new w 29 #[.int .i64 o, .int .i64 r, .int .i64 s, .int .i64 e]
  have HB := Lib.hid (And.intro hB ((Below.refl w.heap.size w).alloc (Nat.le_refl _) (.cells #[.int .i64 o, .int .i64 r, .int .i64 s, .int .i64 e] 29)))
  clear hB
  by_cases hf : SC.fault o r s e = 0
  · have hA := fun W => areCostRules_any o r s e true (iff_of_true hf rfl) W
    by_cases hi : 0 ≤ i ∧ i ≤ 1000000
    · have hcf : SC.fault o r s e = 0 ∧ 0 ≤ i ∧ i ≤ 1000000 := ⟨hf, hi⟩
      rw [if_pos hcf, if_pos hcf]
      have hone := fault_all.1 hf
      have h0 := hone.1 0 (by omega)
      have h1 := hone.1 1 (by omega)
      have h2 := hone.1 2 (by omega)
      have h3 := hone.2
      unfold SC.one f3 at h0 h1 h2
      unfold SC.every at h3
      simp at h0 h1 h2 h3
      obtain ⟨o', rfl⟩ := Int.eq_ofNat_of_zero_le h0.1
      obtain ⟨r', rfl⟩ := Int.eq_ofNat_of_zero_le h1.1
      obtain ⟨s', rfl⟩ := Int.eq_ofNat_of_zero_le h2.1
      obtain ⟨e', rfl⟩ := Int.eq_ofNat_of_zero_le h3.1
      obtain ⟨i', rfl⟩ := Int.eq_ofNat_of_zero_le hi.1
      have hC := fun W => costP_any o' r' s' e' i' (by omega) (by omega) (by omega) (by omega) (by omega) W
      unfold SaysZ at hC
      simp only [Int.toNat_natCast]
      generalize SC.cost o' r' s' e' i' = C at *
      have hI := hi
      clear hf hi hcf hone h0 h1 h2 h3
      go_enter Try.func7, Try.ntmps7
      go_wp2_with fail
      refine (hA _).mono ?_
      rintro e1 w1 ⟨rfl, hb1⟩
      have hrow := lit_ints w1 [(i' : Int)] 3 (fun _ => (i' : Int)) (by
        intro j z h
        match j, h with
        | 0, h => simpa using h)
      have hN := areCounts_any (c := 1) (fun _ => (i' : Int)) hrow (by simp) true (by
        refine ⟨fun _ => rfl, fun _ j _ => hI⟩)
      have HN := Lib.hid (And.intro (HB.out.1.below hb1 HB.out.1.lt) (HB.out.2.trans (hb1.mono HB.out.2.size)))
      clear hrow hA hb1 HB hI
      go_wp2_with fail
      refine hN.mono ?_
      rintro e2 w2 ⟨rfl, hq⟩
      have hB2 := (HN.out.1.alloc (.cells #[.int .i64 i'] 3)).of_drewN hq
      have HW2 := Lib.hid (below_of_drewN (HN.out.2.alloc HN.out.2.size (.cells #[.int .i64 i'] 3)) hq)
      have k0 : w2.cell? ⟨w.heap.size, 0, none⟩ = some (.int .i64 o') := hB2.cell 0
      have k1 : w2.cell? ⟨w.heap.size, 1, none⟩ = some (.int .i64 r') := hB2.cell 1
      have k2 : w2.cell? ⟨w.heap.size, 2, none⟩ = some (.int .i64 s') := hB2.cell 2
      have k3 : w2.cell? ⟨w.heap.size, 3, none⟩ = some (.int .i64 e') := hB2.cell 3
      clear hq hB2 HN hN
      go_wp2_with fail
      refine (hC _).mono ?_
      rintro e3 w3 ⟨rfl, hb3⟩
      go_wp2_with fail
      go_ret2
      exact ⟨rfl, HW2.out.trans (hb3.mono HW2.out.size)⟩
    · have hcf : ¬ (SC.fault o r s e = 0 ∧ 0 ≤ i ∧ i ≤ 1000000) := fun h => hi h.2
      rw [if_neg hcf, if_neg hcf]
      have hI := Lib.hid hi
      clear hf hi hcf
      go_enter Try.func7, Try.ntmps7
      go_wp2_with fail
      refine (hA _).mono ?_
      rintro e1 w1 ⟨rfl, hb1⟩
      have hrow := lit_ints w1 [i] 3 (fun _ => i) (by
        intro j z h
        match j, h with
        | 0, h => simpa using h)
      have hN := areCounts_any (c := 1) (fun _ => i) hrow (by simp) false (by
        refine ⟨fun h => absurd (h 0 (by simp)) hI.out, fun h => by cases h⟩)
      have HN := Lib.hid (HB.out.2.trans (hb1.mono HB.out.2.size))
      clear hrow hA hb1 HB
      go_wp2_with fail
      refine hN.mono ?_
      rintro e2 w2 ⟨rfl, hq⟩
      have HW2 := Lib.hid (below_of_drewN (HN.out.alloc HN.out.size (.cells #[.int .i64 i] 3)) hq)
      clear hq HN hN
      go_wp2_with fail
      go_ret2
      exact ⟨rfl, HW2.out⟩
  · have hcf : ¬ (SC.fault o r s e = 0 ∧ 0 ≤ i ∧ i ≤ 1000000) := fun h => hf h.1
    rw [if_neg hcf, if_neg hcf]
    have hA := fun W => areCostRules_any o r s e false (iff_of_false hf (by simp)) W
    clear hf hcf
    go_enter Try.func7, Try.ntmps7
    go_wp2_with fail
    refine (hA _).mono ?_
    rintro e1 w1 ⟨rfl, hb1⟩
    have HN := Lib.hid (HB.out.2.trans (hb1.mono HB.out.2.size))
    clear hA hb1 HB
    go_wp2_with fail
    go_ret2
    exact ⟨rfl, HN.out⟩
end Go.Proofs.Ytcpneokkhjffeaa
