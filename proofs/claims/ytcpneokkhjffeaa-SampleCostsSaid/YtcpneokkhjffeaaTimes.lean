/- Contract of natural.Number.Times. -/
import Derived.Test.YtcpneokkhjffeaaNat1
namespace Go.Proofs.Ytcpneokkhjffeaa
open Go.RowKit

theorem info_u32 : (Try.prog.info? 62).map (fun i => (i.zero, i.size, i.bytes)) = some (some (.int .u32 0), 1, 4) := by kernel_rfl
/-- two numbers lie boxed, a result's box behind them, then a row of digits -/
def TS (w : World) (V1 V2 : Value) (M : Nat) (wr : World) : Prop :=
  Below w.heap.size w wr ∧ Digs wr (w.heap.size + 1 + 1 + 1) M ∧ Blk wr w.heap.size 67 #[V1] ∧ Blk wr (w.heap.size + 1) 67 #[V2] ∧ Blk wr (w.heap.size + 1 + 1) 67 #[.slice none 0 0]
theorem TS.set {w wr : World} {V1 V2 : Value} {M : Nat} (h : TS w V1 V2 M wr) (i : Nat) (d : Int) : TS w V1 V2 M (wr.setCell ⟨w.heap.size + 1 + 1 + 1, i, none⟩ (.int .u32 d)) :=
  ⟨h.1.setCell (p := ⟨w.heap.size + 1 + 1 + 1, i, none⟩) (by show w.heap.size ≤ w.heap.size + 1 + 1 + 1; omega) _, h.2.1.set i d, h.2.2.1.far (by show w.heap.size ≠ w.heap.size + 1 + 1 + 1; omega) _, h.2.2.2.1.far (by show w.heap.size + 1 ≠ w.heap.size + 1 + 1 + 1; omega) _, h.2.2.2.2.far (by show w.heap.size + 1 + 1 ≠ w.heap.size + 1 + 1 + 1; omega) _⟩
theorem TS.drewN {w wr : World} {V1 V2 : Value} {M : Nat} (h : TS w V1 V2 M wr) (q : Nat) : TS w V1 V2 M (wr.drewN q) :=
  ⟨below_drewN h.1 q, h.2.1.drewN q, h.2.2.1.drewN q, h.2.2.2.1.drewN q, h.2.2.2.2.drewN q⟩
theorem TS.new (w : World) (V1 V2 : Value) (M : Nat) : TS w V1 V2 M ((((w.alloc (.cells #[V1] 67)).alloc (.cells #[V2] 67)).alloc (.cells #[.slice none 0 0] 67)).alloc (.cells (madeCells #[.int .u32 0] M) 62)) := by
  have e1 : (w.alloc (.cells #[V1] 67)).heap.size = w.heap.size + 1 := by simp
  have e2 : ((w.alloc (.cells #[V1] 67)).alloc (.cells #[V2] 67)).heap.size = w.heap.size + 1 + 1 := by simp
  have e3 : (((w.alloc (.cells #[V1] 67)).alloc (.cells #[V2] 67)).alloc (.cells #[.slice none 0 0] 67)).heap.size = w.heap.size + 1 + 1 + 1 := by simp
  have b1 := Blk.new w 67 #[V1]
  have b2 := Blk.new (w.alloc (.cells #[V1] 67)) 67 #[V2]
  have b3 := Blk.new ((w.alloc (.cells #[V1] 67)).alloc (.cells #[V2] 67)) 67 #[.slice none 0 0]
  have d := Digs.made (((w.alloc (.cells #[V1] 67)).alloc (.cells #[V2] 67)).alloc (.cells #[.slice none 0 0] 67)) M
  rw [e1] at b2
  rw [e2] at b3
  rw [e3] at d
  exact ⟨((((Below.refl w.heap.size w).alloc (Nat.le_refl _) _).alloc (by omega) _).alloc (by omega) _).alloc (by omega) _, d, ((b1.alloc _).alloc _).alloc _, (b2.alloc _).alloc _, b3.alloc _⟩
def TmRel (w : World) (V1 V2 : Value) (M n1 : Nat) (i : Value) (wr : World) : Prop := ∃ k : Nat, i = .int .i64 k ∧ k ≤ n1 ∧ Hid (TS w V1 V2 M wr)
def TmIn (w : World) (V1 V2 : Value) (M n2 : Nat) (s j : Value) (wr : World) : Prop := ∃ (k : Nat) (z : Int), s = .int .u64 z ∧ j = .int .i64 k ∧ k ≤ n2 ∧ Hid (TS w V1 V2 M wr)
set_option maxHeartbeats 8000000 in
set_option maxRecDepth 100000 in
theorem Times_any {w : World} {v1 v2 : Value} {N1 N2 N : Nat} (h1 : Num w v1 N1) (h2 : Num w v2 N2) (hN1 : N1 ≤ 1000) (hN2 : N2 ≤ 1000) (hN : N1 + N2 ≤ N) :
    Calls Try.prog 34 #[.agg #[v1], .agg #[v2]] w (NumSays N w) := by
  obtain ⟨g1, n1, s1, rfl, hn1, hs1, hd1⟩ := h1
  obtain ⟨g2, n2, s2, rfl, hn2, hs2, hd2⟩ := h2
  obtain ⟨M, hM⟩ : ∃ M : Nat, M = n1 + n2 := ⟨_, rfl⟩
  have hsum : (n1 : Int) + (n2 : Int) = (M : Int) := by omega
  have hMl : M ≤ 2000 := by omega
  have hw0 : wrap64 ((n1 : Int) + (n2 : Int)) = (M : Int) := by rw [hsum]; exact IntWalk.wrap64_in _ ⟨by omega, by omega⟩
  have hmk := run_make_row' (P := Try.prog) 65 62 (.int .u32 0) 4 Try.underlying65 info_u32 rfl .i64 .i64 M (by omega) (by omega)
  have HS := Lib.hid (TS.new w (.slice (some ⟨g1, 0, none⟩) n1 s1) (.slice (some ⟨g2, 0, none⟩) n2 s2) M)
  have HD := Lib.hid (And.intro hd1 hd2)
  have HM := Lib.hid hM
  clear hM
  have hl1 := hd1.lt
  have hl2 := hd2.lt
  clear hd1 hd2
  go_enter Try.func34, Try.ntmps34
  go_wp2_with fail
  go_loopw [22] (fun i wr => TmRel w (.slice (some ⟨g1, 0, none⟩) n1 s1) (.slice (some ⟨g2, 0, none⟩) n2 s2) M n1 i wr) (fun i _ => n1 - (intOf i).toNat)
  case atStart => exact ⟨0, rfl, Nat.zero_le _, HS⟩
  case round =>
    obtain ⟨k, rfl, hk, HT⟩ := hrel
    clear HS
    have cb2 : wr.cell? ⟨w.heap.size + 1, 0, none⟩ = some (.slice (some ⟨g2, 0, none⟩) n2 s2) := HT.out.2.2.2.1.cell 0
    by_cases hlt : k < n1
    · obtain ⟨d1, hc1⟩ := HD.out.1.cell (j := k) (by omega)
      have hcw1 := (HT.out.1.cell (p := ⟨g1, k, none⟩) hl1).trans hc1
      clear hc1
      obtain ⟨wo, hwo⟩ : ∃ wo : World, wo = wr := ⟨_, rfl⟩
      subst hwo
      go_wp2_with fail
      go_loopw [8, 30] (fun s j wr2 => TmIn w (.slice (some ⟨g1, 0, none⟩) n1 s1) (.slice (some ⟨g2, 0, none⟩) n2 s2) M n2 s j wr2) (fun _ j _ => n2 - (intOf j).toNat)
      case atStart => exact ⟨0, 0, rfl, rfl, Nat.zero_le _, HT⟩
      case round =>
        obtain ⟨k2, z, rfl, rfl, hk2, HT2⟩ := hrel
        clear HT cb2 hcw1
        have cb2 : wr.cell? ⟨w.heap.size + 1, 0, none⟩ = some (.slice (some ⟨g2, 0, none⟩) n2 s2) := HT2.out.2.2.2.1.cell 0
        by_cases hlt2 : k2 < n2
        · obtain ⟨d2, hc2⟩ := HD.out.2.cell (j := k2) (by omega)
          have hcw2 := (HT2.out.1.cell (p := ⟨g2, k2, none⟩) hl2).trans hc2
          obtain ⟨d3, hc3⟩ := HT2.out.2.1.cell (j := k + k2) (by have := HM.out; omega)
          have hf3 := HT2.out.2.1.frozen (k + k2)
          have hki : (k : Int) + (k2 : Int) < (M : Int) := by have := HM.out; omega
          have HS2 := Lib.hid (fun d : Int => HT2.out.set (k + k2) d)
          clear hc2 HT2
          go_wp2_with fail
          exact ⟨⟨k2 + 1, _, rfl, by simp, by omega, Lib.hid (HS2.out _)⟩, by simp [intOf]; omega⟩
        · have hkn2 : ¬ ((k2 : Int) < (n2 : Int)) := by omega
          have hf3 := HT2.out.2.1.frozen (k + n2)
          obtain ⟨d3, hc3⟩ := HT2.out.2.1.cell (j := k + n2) (by have := HM.out; omega)
          have hki : (k : Int) + (n2 : Int) < (M : Int) := by have := HM.out; omega
          have HS2 := Lib.hid (fun d : Int => HT2.out.set (k + n2) d)
          clear HT2
          go_wp2_with fail
          exact ⟨⟨k + 1, by simp, by omega, Lib.hid (HS2.out _)⟩, by simp [intOf]; omega⟩
    · have hkn : ¬ ((k : Int) < (n1 : Int)) := by omega
      have hT := trimmed_any (n := M) (N := N) HT.out.2.1 (Nat.le_refl _) (by have := HM.out; omega) (by omega)
      have HT3 := HT
      clear HT cb2
      go_wp2_with fail
      refine hT.mono ?_
      rintro e w1 ⟨v, rfl, hv, hb1⟩
      obtain ⟨g, n, s, rfl⟩ := hv.form
      have hB := HT3.out.2.2.2.2.below hb1 HT3.out.2.2.2.2.lt
      have f0 := hB.frozen 0
      have c0 : w1.cell? ⟨w.heap.size + 1 + 1, 0, none⟩ = some (.slice none 0 0) := hB.cell 0
      have hB2 := hB.set_ 0 (.slice (some ⟨g, 0, none⟩) n s)
      have r0 : (w1.setCell ⟨w.heap.size + 1 + 1, 0, none⟩ (.slice (some ⟨g, 0, none⟩) n s)).cell? ⟨w.heap.size + 1 + 1, 0, none⟩ = some (.slice (some ⟨g, 0, none⟩) n s) := hB2.cell 0
      have hW2 : Below w.heap.size w w1 := HT3.out.1.trans (hb1.mono HT3.out.1.size)
      have HE := Lib.hid (show Num (w1.setCell ⟨w.heap.size + 1 + 1, 0, none⟩ (.slice (some ⟨g, 0, none⟩) n s)) (.slice (some ⟨g, 0, none⟩) n s) N ∧ Below w.heap.size w (w1.setCell ⟨w.heap.size + 1 + 1, 0, none⟩ (.slice (some ⟨g, 0, none⟩) n s)) from
        ⟨hv.set_ hB (by decide) 0 _, hW2.setCell (p := ⟨w.heap.size + 1 + 1, 0, none⟩) (by show w.heap.size ≤ w.heap.size + 1 + 1; omega) _⟩)
      clear hB hB2 hW2 hT hb1 hv HT3
      go_wp2_with fail
      exact bodyPost_ret (v := .agg #[.slice (some ⟨g, 0, none⟩) n s]) (by simp [results, Try.results34, go_sem, r0]) rfl ⟨_, rfl, HE.out.1, HE.out.2⟩
end Go.Proofs.Ytcpneokkhjffeaa
