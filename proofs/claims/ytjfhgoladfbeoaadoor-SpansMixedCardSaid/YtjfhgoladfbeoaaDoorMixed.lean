/- Contracts of the reference's MixedOf. -/
import Derived.Test.YtjfhgoladfbeoaaDoorUnion
namespace WM
/-- one byte of the union, or of what is left -/
def mix (wo a b : Bool) : Bool := if wo then a && !b else a || b
def mixC (wo : Bool) (X Y : List (Int × Int)) (i : Int) : Prop := if wo then cov X i ∧ ¬ cov Y i else cov X i ∨ cov Y i
theorem mix_iff {wo a b : Bool} {X Y : List (Int × Int)} {i : Int} (h1 : a = true ↔ cov X i) (h2 : b = true ↔ cov Y i) : mix wo a b = true ↔ mixC wo X Y i := by
  unfold mix mixC
  cases wo
  · simp [h1, h2]
  · simp [h1, ← h2]
theorem mix_in {wo : Bool} {X Y : List (Int × Int)} {i : Int} {n : Nat} (hX : ∀ s, s ∈ X → 0 ≤ s.1 ∧ s.2 ≤ n) (hY : ∀ s, s ∈ Y → 0 ≤ s.1 ∧ s.2 ≤ n) (h : mixC wo X Y i) : ∃ k : Nat, i = k ∧ k < n := by
  have key : ∀ L : List (Int × Int), (∀ s, s ∈ L → 0 ≤ s.1 ∧ s.2 ≤ n) → cov L i → ∃ k : Nat, i = k ∧ k < n := fun L hL ⟨s, hs, a, b⟩ => by
    have := hL s hs
    exact ⟨i.toNat, by omega, by omega⟩
  unfold mixC at h
  cases wo
  · rcases h with h | h
    · exact key X hX h
    · exact key Y hY h
  · exact key X hX h.1
end WM
namespace Go.Proofs.YtjfhgoladfbeoaaDoor
open Go.RowKit

def MxRel (w : World) (n g1 g2 : Nat) (p q : Nat → Bool) (wo : Bool) (i : Value) (wr : World) : Prop := ∃ k : Nat, i = .int .i64 k ∧ k ≤ n ∧ Bits wr g1 n (fun j => if j < k then WM.mix wo (p j) (q j) else p j) ∧ Bits wr g2 n q ∧ Below w.heap.size w wr
theorem mx_set {wr : World} {n g1 k : Nat} {p q : Nat → Bool} {wo : Bool} (h : Bits wr g1 n (fun j => if j < k then WM.mix wo (p j) (q j) else p j)) (b : Bool) (hb : b = WM.mix wo (p k) (q k)) : Bits (wr.setCell ⟨g1, k, none⟩ (.bool b)) g1 n (fun j => if j < k + 1 then WM.mix wo (p j) (q j) else p j) := by
  refine World.rowIs.congr (h.set k b) fun j _ => ?_
  by_cases e : j = k
  · subst e; simp [hb]
  · simp only [if_neg e]
    by_cases e2 : j < k
    · rw [if_pos e2, if_pos (by omega)]
    · rw [if_neg e2, if_neg (by omega)]
theorem two_cells {w : World} {a b : Value} {t : TypeId} : (w.alloc (.cells #[a, b] t)).cell? ⟨w.heap.size, 0, none⟩ = some a ∧ (w.alloc (.cells #[a, b] t)).cell? ⟨w.heap.size, 1, none⟩ = some b := ⟨by rw [cell_of_row _ _ 0 _ _ _ (heap_alloc_new w _)]; rfl, by rw [cell_of_row _ _ 1 _ _ _ (heap_alloc_new w _)]; rfl⟩
set_option maxHeartbeats 4000000 in
theorem MixedOf_bad {w : World} {b1 b2 : Nat} {v1 v2 : Value} {X Y : List (Int × Int)} (h1 : OwnI w b1 v1 X) (h2 : OwnI w b2 v2 Y) (z c : Int) (wo : Bool) (hc : WM.orC (WM.spFault z X) (WM.spFault z Y) = c) (h0 : c ≠ 0) : Calls Tryd.prog 10 #[v1, v2, .int .i64 z, .bool wo] w (SpSays [] c w) := by
  have hA := SpansFault_any h1 z
  have H2 := Lib.hid h2
  have e1 : (c != 0) = true := bne_iff_ne.2 h0
  clear h1 h2 h0
  generalize WM.spFault z X = a at *
  generalize hb : WM.spFault z Y = b at *
  have HB := Lib.hid hb
  have HC := Lib.hid hc
  clear hb hc
  go_enter Tryd.func10, Tryd.ntmps10
  go_wp2_with fail
  refine hA.mono ?_
  rintro e w1 ⟨rfl, hb1⟩
  have hB := SpansFault_any (H2.out.below hb1) z
  rw [HB.out] at hB
  have HB1 := Lib.hid hb1
  clear hA hb1
  go_wp2_with fail
  refine hB.mono ?_
  rintro e w2 ⟨rfl, hb2⟩
  have HB2 := Lib.hid (HB1.out.trans (hb2.mono HB1.out.size))
  have hO := Or_any a b (w2.alloc (.cells #[.int .i64 a, .int .i64 b] 29)) two_cells.1 two_cells.2
  rw [HC.out] at hO
  clear hB hb2
  go_wp2_with fail
  refine hO.mono ?_
  rintro e w3 ⟨rfl, rfl⟩
  clear hO
  go_wp2_with fail
  go_ret2
  exact ⟨.slice none 0 0, rfl, OwnI.nil _ _, HB2.out.alloc HB2.out.size _⟩
set_option maxHeartbeats 16000000 in
theorem MixedOf_ok {w : World} {b1 b2 : Nat} {v1 v2 : Value} {X Y : List (Int × Int)} (h1 : OwnI w b1 v1 X) (h2 : OwnI w b2 v2 Y) (z : Int) (wo : Bool) (hX : WM.spFault z X = 0) (hY : WM.spFault z Y = 0) : Calls Tryd.prog 10 #[v1, v2, .int .i64 z, .bool wo] w (MixSays (WM.mixC wo X Y) w) := by
  have hA := SpansFault_any h1 z
  rw [hX] at hA
  obtain ⟨z1, z2, x1, x2, x3⟩ := WM.spFault_ok hX
  obtain ⟨_, _, y1, y2, y3⟩ := WM.spFault_ok hY
  obtain ⟨n, rfl⟩ := Int.eq_ofNat_of_zero_le z1
  have hn : n ≤ 200000 := by omega
  have HX : Hid (∀ s, s ∈ X → 0 ≤ s.1 ∧ s.1 < s.2 ∧ s.2 ≤ n) := Lib.hid fun s hs => ⟨(x3 s hs).1, WM.sep_ne x2 s hs, (x3 s hs).2⟩
  have HY : Hid (∀ s, s ∈ Y → 0 ≤ s.1 ∧ s.1 < s.2 ∧ s.2 ≤ n) := Lib.hid fun s hs => ⟨(y3 s hs).1, WM.sep_ne y2 s hs, (y3 s hs).2⟩
  have HF := Lib.hid hY
  have HH := Lib.hid (And.intro h1 h2)
  clear h1 h2 hX hY z1 z2 x1 x2 x3 y1 y2 y3
  go_enter Tryd.func10, Tryd.ntmps10
  go_wp2_with fail
  refine hA.mono ?_
  rintro e w1 ⟨rfl, hb1⟩
  have hB := SpansFault_any (HH.out.2.below hb1) n
  rw [HF.out] at hB
  have HB1 := Lib.hid hb1
  clear hA hb1
  go_wp2_with fail
  refine hB.mono ?_
  rintro e w2 ⟨rfl, hb2⟩
  have HB2 := Lib.hid (HB1.out.trans (hb2.mono HB1.out.size))
  have hO := Or_any 0 0 (w2.alloc (.cells #[.int .i64 0, .int .i64 0] 29)) two_cells.1 two_cells.2
  have HB3 := Lib.hid (HB2.out.alloc HB2.out.size (.cells #[.int .i64 0, .int .i64 0] 29))
  have e0 : WM.orC 0 0 = 0 := rfl
  rw [e0] at hO
  clear hB hb2
  go_wp2_with fail
  refine hO.mono ?_
  rintro e w3 ⟨rfl, rfl⟩
  generalize (w2.alloc (.cells #[.int .i64 0, .int .i64 0] 29)) = w3 at *
  have hP := painted_any (HH.out.1.below HB3.out) n (by omega) HX.out
  clear hO
  go_wp2_with fail
  refine hP.mono ?_
  rintro e w4 ⟨rfl, hb4, hlt4, p, hp, hpc⟩
  have hQ := painted_any ((HH.out.2.below HB3.out).below hb4) n (by omega) HY.out
  have HP := Lib.hid (And.intro hp (And.intro hpc (And.intro hb4 hlt4)))
  clear hP hp hpc hb4 hlt4
  go_wp2_with fail
  refine hQ.mono ?_
  rintro e w5 ⟨rfl, hb5, hlt5, q, hq, hqc⟩
  have hne : w3.heap.size < w4.heap.size := HP.out.2.2.2
  have HQ := Lib.hid (And.intro hq hqc)
  have HP5 := Lib.hid (HP.out.1.below hb5 hne)
  have HB5 := Lib.hid ((HB3.out.trans (HP.out.2.2.1.mono HB3.out.size)).trans (hb5.mono (by have := HB3.out.size; omega)))
  have hg1 : w.heap.size ≤ w3.heap.size := HB3.out.size
  clear hQ hq hqc hb5 hlt5
  go_wp2_with fail
  go_loopw [33] (fun i wr => MxRel w n w3.heap.size w4.heap.size p q wo i wr) (fun i _ => n - (intOf i).toNat)
  case atStart => exact ⟨0, rfl, Nat.zero_le _, HP5.out.congr fun j _ => by simp, HQ.out.1, HB5.out⟩
  case round =>
    obtain ⟨k, rfl, hk, hx, hy, hbw⟩ := hrel
    by_cases hlt : k < n
    · have d1 := hx.cell hlt
      simp only [Nat.lt_irrefl, if_false] at d1
      have d2 := hy.cell hlt
      have d3 := hx.frozen k
      have HN := Lib.hid (fun b hb => mx_set hx b hb)
      have HM := Lib.hid (fun b : Bool => hy.other (a := ⟨w3.heap.size, k, none⟩) (by show w4.heap.size ≠ w3.heap.size; omega) (.bool b))
      have HW := Lib.hid (fun b : Bool => below_setI hbw (p := ⟨w3.heap.size, k, none⟩) hg1 (.bool b))
      clear hx hy hbw
      cases wo <;> cases hpk : p k <;> cases hqk : q k <;> rw [hpk] at d1 <;> rw [hqk] at d2
      all_goals
        have hv := Lib.hid (And.intro hpk hqk)
        clear hpk hqk
        go_wp2_with fail
        exact ⟨⟨k + 1, by simp, by omega, HN.out _ (by rw [hv.out.1, hv.out.2]; rfl), HM.out _, HW.out _⟩, by simp [intOf]; omega⟩
    · obtain rfl : k = n := by omega
      have hS := spansFrom_any hx (by omega)
      have HW := Lib.hid hbw
      clear hx hy hbw
      go_wp2_with fail
      refine hS.mono ?_
      rintro e w6 ⟨L, hL, v6, rfl, ho6, hb6⟩
      have hBn := boundedR_any ho6
      have HL := Lib.hid hL
      have HB6 := Lib.hid (HW.out.trans (hb6.mono HW.out.size))
      clear hS ho6 hb6 hL
      go_wp2_with fail
      refine hBn.mono ?_
      rintro e w7 ⟨v7, rfl, ho7, rfl⟩
      have HO7 := Lib.hid ho7
      clear hBn ho7
      go_wp2_with fail
      go_ret2
      refine ⟨L, HL.out.sep, fun i => ?_, v7, rfl, HO7.out.less HW.out.size, HB6.out⟩
      rw [HL.out.cov]
      constructor
      · rintro ⟨j, rfl, hj, hpj⟩
        rw [if_pos hj] at hpj
        exact (WM.mix_iff (HP.out.2.1 j hj) (HQ.out.2 j hj)).1 hpj
      · intro hi
        obtain ⟨j, rfl, hj⟩ := WM.mix_in (fun s hs => ⟨(HX.out s hs).1, (HX.out s hs).2.2⟩) (fun s hs => ⟨(HY.out s hs).1, (HY.out s hs).2.2⟩) hi
        refine ⟨j, rfl, hj, ?_⟩
        rw [if_pos hj]
        exact (WM.mix_iff (HP.out.2.1 j hj) (HQ.out.2 j hj)).2 hi
end Go.Proofs.YtjfhgoladfbeoaaDoor
