/- Contracts of TokensFault and SameChanges. -/
import Derived.Test.YtndeifdpiimbeaaGreatDoorRdC
import Derived.Test.YtndeifdpiimbeaaGreatDoorTokensOf
namespace Go.Proofs.YtndeifdpiimbeaaGreatDoor
open Go.RowKit

/-- two changes with the same content are the same -/
theorem same1_any (c : WM.Chg) (A1 A2 B1 B2 : Option Addr) (a1 a2 b1 b2 base base' : Nat) (w : World) (h1 : OwnS w base (.slice A1 c.drop.length a1) c.drop) (h2 : OwnS w base (.slice A2 c.add.length a2) c.add) (h3 : OwnS w base' (.slice B1 c.drop.length b1) c.drop) (h4 : OwnS w base' (.slice B2 c.add.length b2) c.add) :
    Calls Tryz.prog 29 #[.agg #[.int .i64 (c.at_ : Nat), .slice A1 c.drop.length a1, .slice A2 c.add.length a2], .agg #[.int .i64 (c.at_ : Nat), .slice B1 c.drop.length b1, .slice B2 c.add.length b2]] w fun e w' => e = .returned (.bool true) ∧ Below w.heap.size w w' := by
  have H := Lib.hid (And.intro h1 (And.intro h2 (And.intro h3 h4)))
  clear h1 h2 h3 h4
  go_enter Tryz.func29, Tryz.ntmps29
  go_upto_region 1 with fail
  obtain ⟨w2, hw2⟩ : ∃ w2, (w.alloc (.cells #[.int .i64 (c.at_ : Nat), .slice A1 c.drop.length a1, .slice A2 c.add.length a2] 45)).alloc (.cells #[.int .i64 (c.at_ : Nat), .slice B1 c.drop.length b1, .slice B2 c.add.length b2] 45) = w2 := ⟨_, rfl⟩
  rw [hw2]
  have bw2 : Below w.heap.size w w2 := by rw [← hw2]; exact ((Below.refl _ _).alloc (Nat.le_refl _) _).alloc (by simp) _
  have q1 : Blk w2 w.heap.size 45 #[.int .i64 (c.at_ : Nat), .slice A1 c.drop.length a1, .slice A2 c.add.length a2] := by rw [← hw2]; exact (Blk.new w _ _).alloc _
  have q2 : Blk w2 (w.heap.size + 1) 45 #[.int .i64 (c.at_ : Nat), .slice B1 c.drop.length b1, .slice B2 c.add.length b2] := by
    rw [← hw2]
    have h := Blk.new (w.alloc (.cells #[.int .i64 (c.at_ : Nat), .slice A1 c.drop.length a1, .slice A2 c.add.length a2] 45)) 45 #[.int .i64 (c.at_ : Nat), .slice B1 c.drop.length b1, .slice B2 c.add.length b2]
    rw [show (w.alloc (.cells #[.int .i64 (c.at_ : Nat), .slice A1 c.drop.length a1, .slice A2 c.add.length a2] 45)).heap.size = w.heap.size + 1 by simp] at h
    exact h
  have d0 : w2.cell? ⟨w.heap.size, 0, none⟩ = some (.int .i64 (c.at_ : Nat)) := q1.cell 0
  have d1 : w2.cell? ⟨w.heap.size, 1, none⟩ = some (.slice A1 c.drop.length a1) := q1.cell 1
  have d2 : w2.cell? ⟨w.heap.size, 2, none⟩ = some (.slice A2 c.add.length a2) := q1.cell 2
  have e0 : w2.cell? ⟨w.heap.size + 1, 0, none⟩ = some (.int .i64 (c.at_ : Nat)) := q2.cell 0
  have e1 : w2.cell? ⟨w.heap.size + 1, 1, none⟩ = some (.slice B1 c.drop.length b1) := q2.cell 1
  have e2 : w2.cell? ⟨w.heap.size + 1, 2, none⟩ = some (.slice B2 c.add.length b2) := q2.cell 2
  have hE1 := EqualS_any (H.out.1.below bw2 (Nat.le_refl _)) (H.out.2.2.1.below bw2 (Nat.le_refl _)) true (by simp)
  have hE2 := fun n => EqualS_any ((H.out.2.1.below bw2 (Nat.le_refl _)).drewN n) ((H.out.2.2.2.below bw2 (Nat.le_refl _)).drewN n) true (by simp)
  have HB := Lib.hid bw2
  clear hw2 bw2 q1 q2
  go_wp2_with fail
  refine hE1.mono ?_
  rintro e w3 ⟨rfl, n3, rfl⟩
  go_wp2_with fail
  refine (hE2 n3).mono ?_
  rintro e w4 ⟨rfl, n4, rfl⟩
  go_wp2_with fail
  go_ret
  exact ⟨rfl, by first | exact below_drewN HB.out _ | exact below_drewN (below_drewN HB.out _) _⟩
/-- two rows with the same changes are the same -/
theorem SameChanges_any (D : List WM.Chg) (v1 v2 : Value) (base base' : Nat) (w : World) (h1 : OwnC w base v1 D) (h2 : OwnC w base' v2 D) (hl : D.length ≤ 3000) :
    Calls Tryz.prog 11 #[v1, v2] w fun e w' => e = .returned (.bool true) ∧ Below w.heap.size w w' := by
  have hE : Calls Tryz.prog 28 #[v1, v2, .func (.func 29) #[] #[]] w fun e w' => e = .returned (.bool true) ∧ Below w.heap.size w w' := by
    obtain ⟨A1, c1, rfl, hf1⟩ := h1.rd
    obtain ⟨A2, c2, rfl, hf2⟩ := h2.rd
    have HF := Lib.hid (And.intro hf1 hf2)
    have eg := enters_of Tryz.func29 (by kernel_rfl) rfl
    clear hf1 hf2 h1 h2
    go_enter Tryz.func28, Tryz.ntmps28
    go_wp2_with fail
    go_loopw [17] (fun i wr => ∃ k : Nat, k ≤ D.length ∧ i = .int .i64 k ∧ Below w.heap.size w wr) (fun i _ => D.length - (intOf i).toNat)
    case atStart => exact ⟨0, Nat.zero_le _, rfl, Below.refl _ _⟩
    case round =>
      obtain ⟨k, hk, rfl, hbw⟩ := hrel
      obtain ⟨wo, rfl⟩ : ∃ wo : World, wo = wr := ⟨_, rfl⟩
      by_cases hlt : k < D.length
      · obtain ⟨g1, rfl, hg1, hc1⟩ := HF.out.1 (by omega)
        obtain ⟨g2, rfl, hg2, hc2⟩ := HF.out.2 (by omega)
        have hx := List.getElem?_eq_getElem hlt
        generalize D[k] = c at hx
        obtain ⟨P1, p1, P2, p2, k0, k1, k2, o1, o2⟩ := hc1 wo hbw k c hx
        obtain ⟨Q1, q1, Q2, q2, m0, m1, m2, o3, o4⟩ := hc2 wo hbw k c hx
        have d1 := o1.len_le
        have d2 := o2.len_le
        have HO := Lib.hid (And.intro o1 (And.intro o2 (And.intro o3 (And.intro o4 hbw))))
        have M0 := (Below.heap_alloc wo (.cells #[.int .i64 (c.at_ : Nat), .slice P1 c.drop.length p1, .slice P2 c.add.length p2] 45) g2 (Nat.lt_of_lt_of_le hg2 hbw.size))
        have m0' := (World.cell?_of_block (a := ⟨g2, k * 3, none⟩) M0).trans m0
        have m1' := (World.cell?_of_block (a := ⟨g2, k * 3 + 1, none⟩) M0).trans m1
        have m2' := (World.cell?_of_block (a := ⟨g2, k * 3 + 2, none⟩) M0).trans m2
        have hS := fun W (hW : Below wo.heap.size wo W) => same1_any c P1 P2 Q1 Q2 p1 p2 q1 q2 base base' W (o1.below hW (Nat.le_refl _)) (o2.below hW (Nat.le_refl _)) (o3.below hW (Nat.le_refl _)) (o4.below hW (Nat.le_refl _))
        have hSA := hS ((wo.alloc (.cells #[.int .i64 (c.at_ : Nat), .slice P1 c.drop.length p1, .slice P2 c.add.length p2] 45)).alloc (.cells #[.int .i64 (c.at_ : Nat), .slice Q1 c.drop.length q1, .slice Q2 c.add.length q2] 45)) (((Below.refl _ _).alloc (Nat.le_refl _) _).alloc (by simp) _)
        clear hx hbw hc1 hc2 o1 o2 o3 o4 M0 m0 m1 m2 hS
        go_wp2_with fail
        refine hSA.mono ?_
        rintro e w1 ⟨rfl, hb1⟩
        have H1 := Lib.hid (show Below w.heap.size w w1 from (((HO.out.2.2.2.2).alloc HO.out.2.2.2.2.size _).alloc (Nat.le_trans HO.out.2.2.2.2.size (by simp)) _).trans (hb1.mono (Nat.le_trans HO.out.2.2.2.2.size (by simp; omega))))
        clear hSA hb1 k0 k1 k2 m0' m1' m2'
        go_wp2_with fail
        exact ⟨⟨k + 1, by omega, by simp, H1.out⟩, by simp [intOf]; omega⟩
      · have HW := Lib.hid hbw
        clear hbw
        go_wp2_with fail
        go_ret
        exact ⟨rfl, HW.out⟩
  clear h1 h2 hl
  go_enter Tryz.func11, Tryz.ntmps11
  go_wp2_with fail
  refine hE.mono ?_
  rintro e w1 ⟨rfl, hb1⟩
  go_wp2_with fail
  go_ret
  exact ⟨rfl, hb1⟩
end Go.Proofs.YtndeifdpiimbeaaGreatDoor
