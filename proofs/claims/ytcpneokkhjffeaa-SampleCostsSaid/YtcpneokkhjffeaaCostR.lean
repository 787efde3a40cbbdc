/- Contracts of the reference's CostsFault, CostOf, AffordOf. -/
import Derived.Test.YtcpneokkhjffeaaInR
import Derived.RegionTactic
import Derived.IntWalk
namespace SC
def one (n : Int) : Bool := decide (0 ≤ n) && decide (n ≤ 1000000000)
def every (n : Int) : Bool := decide (0 ≤ n) && decide (n ≤ 1000000)
def fault (o r s e : Int) : Int := if (one o && (one r && (one s && every e))) = true then 0 else 1
def cost (o r s e n : Nat) : Nat := o + n * r + n / e * s
theorem cost_mono (o r s e : Nat) {a b : Nat} (h : a ≤ b) : cost o r s e a ≤ cost o r s e b := by
  unfold cost
  have h1 := Nat.mul_le_mul_right r h
  have h2 := Nat.mul_le_mul_right s (Nat.div_le_div_right (c := e) h)
  omega
theorem cost_le (r s e n : Nat) (hr : r ≤ 1000000000) (hs : s ≤ 1000000000) (hn : n ≤ 1000000) : n * r ≤ 1000000000000000 ∧ n / e ≤ 1000000 ∧ n / e * s ≤ 1000000000000000 := by
  have h1 := Nat.mul_le_mul hn hr
  have h2 : n / e ≤ n := Nat.div_le_self _ _
  have h3 := Nat.mul_le_mul (Nat.le_trans h2 hn) hs
  omega
end SC
namespace Go.Proofs.Ytcpneokkhjffeaa
open Go.RowKit

/-- a number is answered; what lay, lies -/
def SaysZ (n : Int) (w : World) (e : Ending) (w' : World) : Prop := e = .returned (.int .i64 n) ∧ Below w.heap.size w w'
def CfRel (w : World) (o r s e : Int) (i : Value) (wr : World) : Prop := ∃ (k q : Nat), i = .int .i64 k ∧ k ≤ 3 ∧ (0 < k → SC.one o = true) ∧ (1 < k → SC.one r = true) ∧ (2 < k → SC.one s = true) ∧
  wr = (((w.alloc (.cells #[.int .i64 o, .int .i64 r, .int .i64 s, .int .i64 e] 29)).alloc (.cells #[.int .i64 o, .int .i64 r, .int .i64 s] 3))).drewN q
set_option maxHeartbeats 4000000 in
theorem CostsFault_any (o r s e : Int) (c : Int) (hc : SC.fault o r s e = c) (w : World) :
    Calls Try.prog 9 #[.agg #[.int .i64 o, .int .i64 r, .int .i64 s, .int .i64 e]] w (SaysZ c w) := by
  have hb1 : Blk (w.alloc (.cells #[.int .i64 o, .int .i64 r, .int .i64 s, .int .i64 e] 29)) w.heap.size 29 #[.int .i64 o, .int .i64 r, .int .i64 s, .int .i64 e] := Blk.new _ _ _
  have hb2 : Blk ((w.alloc (.cells #[.int .i64 o, .int .i64 r, .int .i64 s, .int .i64 e] 29)).alloc (.cells #[.int .i64 o, .int .i64 r, .int .i64 s] 3)) (w.heap.size + 1) 3 #[.int .i64 o, .int .i64 r, .int .i64 s] := by
    have := Blk.new (w.alloc (.cells #[.int .i64 o, .int .i64 r, .int .i64 s, .int .i64 e] 29)) 3 #[.int .i64 o, .int .i64 r, .int .i64 s]
    simpa using this
  have hb3 := hb1.alloc (.cells #[.int .i64 o, .int .i64 r, .int .i64 s] 3)
  have hw : Below w.heap.size w ((w.alloc (.cells #[.int .i64 o, .int .i64 r, .int .i64 s, .int .i64 e] 29)).alloc (.cells #[.int .i64 o, .int .i64 r, .int .i64 s] 3)) := ((Below.refl _ _).alloc (Nat.le_refl _) _).alloc (by simp) _
  have HB := Lib.hid (And.intro hb2 (And.intro hb3 hw))
  have HC := Lib.hid hc
  clear hb1 hb2 hb3 hw hc
  go_enter Try.func9, Try.ntmps9
  go_wp2_with fail
  go_loopw [13] (fun i wr => CfRel w o r s e i wr) (fun i _ => 3 - (intOf i).toNat)
  case atStart => exact ⟨0, 0, rfl, by omega, by omega, by omega, by omega, rfl⟩
  case round =>
    obtain ⟨k, q, rfl, hk, h1, h2, h3, hq⟩ := hrel
    have HK := Lib.hid (And.intro h1 (And.intro h2 h3))
    have hB2 : Blk wr (w.heap.size + 1) 3 #[.int .i64 o, .int .i64 r, .int .i64 s] := by rw [hq]; exact HB.out.1
    have hB3 : Blk wr w.heap.size 29 #[.int .i64 o, .int .i64 r, .int .i64 s, .int .i64 e] := by rw [hq]; exact HB.out.2.1
    have hc0 : wr.cell? ⟨w.heap.size + 1, 0, none⟩ = some (.int .i64 o) := hB2.cell 0
    have hc1 : wr.cell? ⟨w.heap.size + 1, 1, none⟩ = some (.int .i64 r) := hB2.cell 1
    have hc2 : wr.cell? ⟨w.heap.size + 1, 2, none⟩ = some (.int .i64 s) := hB2.cell 2
    have hc3 : wr.cell? ⟨w.heap.size, 3, none⟩ = some (.int .i64 e) := hB3.cell 3
    have HW := Lib.hid (show Below w.heap.size w wr by rw [hq]; exact below_drewN HB.out.2.2 q)
    have HQ := Lib.hid hq
    clear h1 h2 h3 hq hB2 hB3 HB
    have hone : ∀ (z : Int) (W : World), Calls Try.prog 19 #[.int .i64 z, .int .i64 0, .int .i64 1000000000] W (SaysQ (SC.one z) W) := fun z W => in_all z 0 1000000000 _ rfl W
    rcases (by omega : k = 0 ∨ k = 1 ∨ k = 2 ∨ k = 3) with rfl | rfl | rfl | rfl
    · cases ho : SC.one o
      · have HF := Lib.hid (show SC.fault o r s e = 1 by unfold SC.fault; rw [ho]; rfl)
        have hI := hone o
        rw [ho] at hI
        clear ho hone
        go_wp2_with fail
        refine (hI _).mono ?_
        rintro e1 w1 ⟨rfl, n1, rfl⟩
        go_wp2_with fail
        go_ret
        exact ⟨by show Ending.returned (.int .i64 1) = _; rw [← HC.out, HF.out], below_drewN HW.out _⟩
      · have HF := Lib.hid ho
        have hI := hone o
        rw [ho] at hI
        clear ho hone
        go_wp2_with fail
        refine (hI _).mono ?_
        rintro e1 w1 ⟨rfl, n1, rfl⟩
        go_wp2_with fail
        exact ⟨⟨1, q + n1, rfl, by omega, fun _ => HF.out, by omega, by omega, by rw [HQ.out, World.drewN_drewN]⟩, by simp [intOf]⟩
    · cases ho : SC.one r
      · have HF := Lib.hid (show SC.fault o r s e = 1 by unfold SC.fault; rw [ho, Bool.false_and, Bool.and_false]; rfl)
        have hI := hone r
        rw [ho] at hI
        clear ho hone
        go_wp2_with fail
        refine (hI _).mono ?_
        rintro e1 w1 ⟨rfl, n1, rfl⟩
        go_wp2_with fail
        go_ret
        exact ⟨by show Ending.returned (.int .i64 1) = _; rw [← HC.out, HF.out], below_drewN HW.out _⟩
      · have HF := Lib.hid ho
        have hI := hone r
        rw [ho] at hI
        clear ho hone
        go_wp2_with fail
        refine (hI _).mono ?_
        rintro e1 w1 ⟨rfl, n1, rfl⟩
        go_wp2_with fail
        exact ⟨⟨2, q + n1, rfl, by omega, fun _ => HK.out.1 (by omega), fun _ => HF.out, by omega, by rw [HQ.out, World.drewN_drewN]⟩, by simp [intOf]⟩
    · cases ho : SC.one s
      · have HF := Lib.hid (show SC.fault o r s e = 1 by unfold SC.fault; rw [ho, Bool.false_and, Bool.and_false, Bool.and_false]; rfl)
        have hI := hone s
        rw [ho] at hI
        clear ho hone
        go_wp2_with fail
        refine (hI _).mono ?_
        rintro e1 w1 ⟨rfl, n1, rfl⟩
        go_wp2_with fail
        go_ret
        exact ⟨by show Ending.returned (.int .i64 1) = _; rw [← HC.out, HF.out], below_drewN HW.out _⟩
      · have HF := Lib.hid ho
        have hI := hone s
        rw [ho] at hI
        clear ho hone
        go_wp2_with fail
        refine (hI _).mono ?_
        rintro e1 w1 ⟨rfl, n1, rfl⟩
        go_wp2_with fail
        exact ⟨⟨3, q + n1, rfl, by omega, fun _ => HK.out.1 (by omega), fun _ => HK.out.2.1 (by omega), fun _ => HF.out, by rw [HQ.out, World.drewN_drewN]⟩, by simp [intOf]⟩
    · have hF : SC.fault o r s e = if SC.every e = true then 0 else 1 := by
        unfold SC.fault
        rw [HK.out.1 (by omega), HK.out.2.1 (by omega), HK.out.2.2 (by omega)]
        simp
      cases ho : SC.every e
      · have HF := Lib.hid (show SC.fault o r s e = 1 by rw [hF, ho]; rfl)
        have hI := fun W => in_all e 0 1000000 _ ho W
        clear ho hone hF
        go_wp2_with fail
        refine (hI _).mono ?_
        rintro e1 w1 ⟨rfl, n1, rfl⟩
        go_wp2_with fail
        go_ret
        exact ⟨by show Ending.returned (.int .i64 1) = _; rw [← HC.out, HF.out], below_drewN HW.out _⟩
      · have HF := Lib.hid (show SC.fault o r s e = 0 by rw [hF, ho]; rfl)
        have hI := fun W => in_all e 0 1000000 _ ho W
        clear ho hone hF
        go_wp2_with fail
        refine (hI _).mono ?_
        rintro e1 w1 ⟨rfl, n1, rfl⟩
        go_wp2_with fail
        go_ret
        exact ⟨by show Ending.returned (.int .i64 0) = _; rw [← HC.out, HF.out], below_drewN HW.out _⟩
set_option maxHeartbeats 4000000 in
theorem CostOf_any (o r s e n : Nat) (ho : o ≤ 1000000000) (hr : r ≤ 1000000000) (hs : s ≤ 1000000000) (he : e ≤ 1000000) (hn : n ≤ 1000000) (w : World) :
    Calls Try.prog 10 #[.agg #[.int .i64 o, .int .i64 r, .int .i64 s, .int .i64 e], .int .i64 n] w (SaysZ (SC.cost o r s e n : Nat) w) := by
  obtain ⟨g1, g2, g3⟩ := SC.cost_le r s e n hr hs hn
  by_cases h0 : 0 < e
  · have hq : decide ((e : Int) > 0) = true := decide_eq_true (by omega)
    have hz : ((e : Int) == 0) = false := beq_eq_false_iff_ne.2 (by omega)
    have hz1 : ¬ (e : Int) = 0 := by omega
    have e1 : wrap64 ((n : Int) * (r : Int)) = ((n * r : Nat) : Int) := by rw [← Int.natCast_mul]; generalize n * r = x at g1 ⊢; exact IntWalk.wrap64_in _ ⟨by omega, by omega⟩
    have e2 : wrap64 ((n : Int) / (e : Int)) = ((n / e : Nat) : Int) := by rw [← Int.natCast_ediv]; generalize n / e = x at g2 ⊢; exact IntWalk.wrap64_in _ ⟨by omega, by omega⟩
    have e3 : wrap64 (((n / e : Nat) : Int) * (s : Int)) = ((n / e * s : Nat) : Int) := by rw [← Int.natCast_mul]; generalize n / e * s = x at g3 ⊢; exact IntWalk.wrap64_in _ ⟨by omega, by omega⟩
    have HF := Lib.hid (show SC.cost o r s e n = o + n * r + n / e * s from rfl)
    generalize SC.cost o r s e n = C at *
    go_enter Try.func10, Try.ntmps10
    go_wp2_with fail
    go_region
    all_goals go_wp2_with fail
    all_goals go_ret
    have E : wrap64 ((o : Int) + (n : Int) * (r : Int) + wrap64 ((n : Int) / (e : Int) * (s : Int))) = (C : Int) := by
      rw [← Int.natCast_ediv, e3, ← Int.natCast_mul, HF.out]
      generalize n * r = x at g1 ⊢
      generalize n / e * s = y at g3 ⊢
      rw [IntWalk.wrap64_in _ ⟨by omega, by omega⟩]
      omega
    exact ⟨by show Ending.returned (.int .i64 (wrap64 ((o : Int) + (n : Int) * (r : Int) + wrap64 ((n : Int) / (e : Int) * (s : Int))))) = _; rw [E], below_drewN ((Below.refl _ _).alloc (Nat.le_refl _) _) _⟩
  · obtain rfl : e = 0 := by omega
    have e1 : wrap64 ((n : Int) * (r : Int)) = ((n * r : Nat) : Int) := by rw [← Int.natCast_mul]; generalize n * r = x at g1 ⊢; exact IntWalk.wrap64_in _ ⟨by omega, by omega⟩
    have HF := Lib.hid (show SC.cost o r s 0 n = o + n * r by unfold SC.cost; rw [Nat.div_zero]; omega)
    generalize SC.cost o r s 0 n = C at *
    go_enter Try.func10, Try.ntmps10
    go_wp2_with fail
    go_ret
    exact ⟨by show Ending.returned (.int .i64 ((o : Int) + (n : Int) * (r : Int))) = _; rw [HF.out, Int.natCast_add, Int.natCast_mul], (Below.refl _ _).alloc (Nat.le_refl _) _⟩
/-- L is the greatest number of items, from 0 to 1000000, that costs no more than c; -1: there is none -/
def Aff (o r s e : Nat) (c : Int) (L : Int) : Prop := -1 ≤ L ∧ L ≤ 1000000 ∧ (∀ n : Nat, (n : Int) ≤ L → (SC.cost o r s e n : Int) ≤ c) ∧ (∀ n : Nat, L < n → n ≤ 1000000 → c < (SC.cost o r s e n : Int))
theorem Aff.same {o r s e : Nat} {c L M : Int} (h : Aff o r s e c L) (g : Aff o r s e c M) : L = M := by
  obtain ⟨h1, h2, h3, h4⟩ := h
  obtain ⟨g1, g2, g3, g4⟩ := g
  rcases Int.lt_trichotomy L M with h | h | h
  · have a := g3 M.toNat (by omega)
    have b := h4 M.toNat (by omega) (by omega)
    omega
  · exact h
  · have a := h3 L.toNat (by omega)
    have b := g4 L.toNat (by omega) (by omega)
    omega
def AffSays (o r s e : Nat) (c : Int) (w : World) (en : Ending) (w' : World) : Prop := ∃ L : Int, Aff o r s e c L ∧ en = .returned (.tuple #[.int .i64 (max 0 L), .bool (decide (0 ≤ L))]) ∧ Below w.heap.size w w'
def AfRel (o r s e : Nat) (c : Int) (w : World) (a b : Value) (wr : World) : Prop := ∃ lo hi : Int, a = .int .i64 lo ∧ b = .int .i64 hi ∧ -1 ≤ lo ∧ lo < hi ∧ hi ≤ 1000001 ∧ (∀ n : Nat, (n : Int) ≤ lo → (SC.cost o r s e n : Int) ≤ c) ∧ (∀ n : Nat, hi ≤ n → n ≤ 1000000 → c < (SC.cost o r s e n : Int)) ∧
  Below (w.heap.size + 1) (w.alloc (.cells #[.int .i64 o, .int .i64 r, .int .i64 s, .int .i64 e] 29)) wr
set_option maxHeartbeats 4000000 in
theorem AffordOf_any (o r s e : Nat) (c : Int) (ho : o ≤ 1000000000) (hr : r ≤ 1000000000) (hs : s ≤ 1000000000) (he : e ≤ 1000000) (w : World) :
    Calls Try.prog 11 #[.agg #[.int .i64 o, .int .i64 r, .int .i64 s, .int .i64 e], .int .i64 c] w (AffSays o r s e c w) := by
  have HB := Lib.hid (Blk.new w 29 #[.int .i64 o, .int .i64 r, .int .i64 s, .int .i64 e])
  have HH := Lib.hid (And.intro ho (And.intro hr (And.intro hs he)))
  clear ho hr hs he
  go_enter Try.func11, Try.ntmps11
  go_wp2_with fail
  go_loopw [6, 7] (fun a b wr => AfRel o r s e c w a b wr) (fun a b _ => (intOf b - intOf a).toNat)
  case atStart => exact ⟨-1, 1000001, rfl, rfl, by omega, by omega, by omega, fun n hn => absurd hn (by omega), fun n hn hn2 => absurd hn (by omega), (Below.refl _ _)⟩
  case round =>
    obtain ⟨lo, hi, rfl, rfl, h1, h2, h3, h4, h5, hb⟩ := hrel
    have HR := Lib.hid (And.intro h4 (And.intro h5 hb))
    have hB : Blk wr w.heap.size 29 #[.int .i64 o, .int .i64 r, .int .i64 s, .int .i64 e] := HB.out.below hb (by omega)
    have k0 : wr.cell? ⟨w.heap.size, 0, none⟩ = some (.int .i64 o) := hB.cell 0
    have k1 : wr.cell? ⟨w.heap.size, 1, none⟩ = some (.int .i64 r) := hB.cell 1
    have k2 : wr.cell? ⟨w.heap.size, 2, none⟩ = some (.int .i64 s) := hB.cell 2
    have k3 : wr.cell? ⟨w.heap.size, 3, none⟩ = some (.int .i64 e) := hB.cell 3
    clear h4 h5 hb hB
    by_cases hd : hi - lo > 1
    · have hq : decide (hi - lo > 1) = true := decide_eq_true hd
      have hm1 : lo < (lo + hi) / 2 ∧ (lo + hi) / 2 < hi := by omega
      obtain ⟨M, hM⟩ := Int.eq_ofNat_of_zero_le (show 0 ≤ (lo + hi) / 2 by omega)
      have hM' : (lo + hi) / 2 = (M : Int) := hM
      have hC : ∀ W, Calls Try.prog 10 #[.agg #[.int .i64 o, .int .i64 r, .int .i64 s, .int .i64 e], .int .i64 ((lo + hi) / 2)] W (SaysZ (SC.cost o r s e M : Nat) W) := by
        intro W
        rw [hM']
        exact CostOf_any o r s e M HH.out.1 HH.out.2.1 HH.out.2.2.1 HH.out.2.2.2 (by omega) W
      have HM := Lib.hid (And.intro hM' (And.intro hm1.1 hm1.2))
      have HI := Lib.hid (And.intro h1 h3)
      clear hM hM' hm1
      by_cases hc : (SC.cost o r s e M : Int) ≤ c
      · have HL := Lib.hid (show ∀ n : Nat, (n : Int) ≤ (lo + hi) / 2 → (SC.cost o r s e n : Int) ≤ c from fun n hn => Int.le_trans (Int.ofNat_le.2 (SC.cost_mono o r s e (by have := HM.out.1; omega))) hc)
        generalize SC.cost o r s e M = C at *
        go_wp2_with fail
        refine (hC _).mono ?_
        rintro e1 w1 ⟨rfl, hb1⟩
        go_wp2_with fail
        have hz := HM.out
        have hy := HI.out
        exact ⟨⟨_, hi, rfl, rfl, by omega, by omega, by omega, HL.out, HR.out.2.1, HR.out.2.2.trans (hb1.mono (by have := HR.out.2.2.size; simpa using this))⟩, by simp only [intOf]; omega⟩
      · have HL := Lib.hid (show ∀ n : Nat, (lo + hi) / 2 ≤ (n : Int) → n ≤ 1000000 → c < (SC.cost o r s e n : Int) from fun n hn _ => Int.lt_of_lt_of_le (Int.not_le.1 hc) (Int.ofNat_le.2 (SC.cost_mono o r s e (by have := HM.out.1; omega))))
        generalize SC.cost o r s e M = C at *
        go_wp2_with fail
        refine (hC _).mono ?_
        rintro e1 w1 ⟨rfl, hb1⟩
        go_wp2_with fail
        have hz := HM.out
        have hy := HI.out
        exact ⟨⟨lo, _, rfl, rfl, by omega, by omega, by omega, HR.out.1, HL.out, HR.out.2.2.trans (hb1.mono (by have := HR.out.2.2.size; simpa using this))⟩, by simp only [intOf]; omega⟩
    · have hq : decide (hi - lo > 1) = false := decide_eq_false hd
      obtain rfl : hi = lo + 1 := by omega
      have HE := Lib.hid (show Aff o r s e c lo from ⟨h1, by omega, HR.out.1, fun n hn => HR.out.2.1 n (by omega)⟩)
      have HW := Lib.hid (show Below w.heap.size w wr from ((Below.refl _ _).alloc (Nat.le_refl _) _).trans (HR.out.2.2.mono (Nat.le_succ _)))
      clear HR
      by_cases h0 : lo ≤ 0
      · have e0 : max (0 : Int) lo = 0 := by omega
        go_wp2_with fail
        exact bodyPost_ret (v := .tuple #[.int .i64 0, .bool (decide (0 ≤ lo))]) (by simp [results, Try.results11, go_sem]) rfl ⟨lo, HE.out, by rw [e0], HW.out⟩
      · have e0 : max (0 : Int) lo = lo := by omega
        go_wp2_with fail
        exact bodyPost_ret (v := .tuple #[.int .i64 lo, .bool (decide (0 ≤ lo))]) (by simp [results, Try.results11, go_sem]) rfl ⟨lo, HE.out, by rw [e0], HW.out⟩
end Go.Proofs.Ytcpneokkhjffeaa
