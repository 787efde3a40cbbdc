/- Contract of Turn where Patch answers a string. -/
import Derived.Test.YtndeifdpiimbeaaGreatDoorReplP
import Derived.Test.YtndeifdpiimbeaaGreatDoorDiffer0
namespace Go.Proofs.YtndeifdpiimbeaaGreatDoor
open Go.RowKit

def TuRel (w1 : World) (D : List WM.Chg) (l m i : Value) (wr : World) : Prop := ∃ n : Nat, i = .int .i64 n ∧ m = .int .i64 (WM.more D n) ∧ n ≤ D.length ∧ OwnC wr w1.heap.size l (WM.backL D n) ∧ Below w1.heap.size w1 wr
theorem back_len (D : List WM.Chg) : ∀ n, (WM.backL D n).length ≤ n
  | 0 => Nat.le_refl _
  | n + 1 => by
    have ih := back_len D n
    simp only [WM.backL, List.length_append]
    cases D[n]? <;> simp <;> omega
theorem back_step {D : List WM.Chg} {n : Nat} {c : WM.Chg} (h : D[n]? = some c) : WM.backL D (n + 1) = WM.backL D n ++ [WM.turn1 c (WM.more D n)] := by simp [WM.backL, h]
theorem more_step {D : List WM.Chg} {n : Nat} {c : WM.Chg} (h : D[n]? = some c) : WM.more D (n + 1) = WM.more D n + ((c.add.length : Int) - c.drop.length) := by simp [WM.more, h]
set_option maxHeartbeats 8000000 in
theorem Turn_rd (s S : ByteArray) (D : List WM.Chg) (AD : Option Addr) (cD : Nat) (base : Nat) (w : World) (hP : Calls Tryz.prog 6 #[.string s, .slice AD D.length cD] w fun e w' => e = .returned (.tuple #[.string S, .int .i64 0]) ∧ Below w.heap.size w w') (hf : RdN w base AD D) (hDl : D.length ≤ 3000) (hadd : ∀ c, c ∈ D → c.add.length ≤ 1000000)
    (hat : ∀ (n : Nat) (c : WM.Chg), D[n]? = some c → (0 ≤ (c.at_ : Int) + WM.more D n ∧ (c.at_ : Int) + WM.more D n ≤ 1000000000) ∧ (-1000000000 ≤ WM.more D n ∧ WM.more D n ≤ 1000000000) ∧ c.drop.length ≤ 1000000) :
    Calls Tryz.prog 7 #[.string s, .slice AD D.length cD] w (ChgSays (WM.backL D D.length) w) := by
  unfold RdN at hf
  have HF := Lib.hid (And.intro hat (And.intro hf hadd))
  clear hat hf hadd
  go_enter Tryz.func7, Tryz.ntmps7
  go_wp2_with fail
  refine hP.mono ?_
  rintro e w1 ⟨rfl, hb1⟩
  have HB := Lib.hid hb1
  clear hP hb1
  go_wp2_with fail
  go_loopw [8, 9, 23] (fun l m i wr => TuRel w1 D l m i wr) (fun _ _ i _ => D.length - (intOf i).toNat)
  case atStart => exact ⟨0, rfl, rfl, Nat.zero_le _, OwnC.nil _ _, Below.refl _ _⟩
  case round =>
    obtain ⟨n, rfl, rfl, hn, hown, hbw⟩ := hrel
    obtain ⟨wo, rfl⟩ : ∃ wo : World, wo = wr := ⟨_, rfl⟩
    by_cases hlt : n < D.length
    · obtain ⟨g, rfl, hg, hgc⟩ := HF.out.2.1 (by omega)
      have hx := List.getElem?_eq_getElem hlt
      generalize D[n] = c at hx
      obtain ⟨A1, c1, A2, c2, k0', k1', k2', o1, o2⟩ := hgc w (Below.refl _ _) n c hx
      have hbo : Below w.heap.size w wo := HB.out.trans (hbw.mono HB.out.size)
      have k0 := (hbo.cell (p := ⟨g, n * 3, none⟩) hg).trans k0'
      have k1 := (hbo.cell (p := ⟨g, n * 3 + 1, none⟩) hg).trans k1'
      have k2 := (hbo.cell (p := ⟨g, n * 3 + 2, none⟩) hg).trans k2'
      obtain ⟨⟨q1, q2⟩, ⟨q3, q4⟩, q5⟩ := HF.out.1 n c hx
      have q6 := HF.out.2.2 c (List.mem_of_getElem? hx)
      have HST := Lib.hid (back_step hx)
      have HMO := Lib.hid (more_step hx)
      have HNL := Lib.hid (show (WM.backL D n).length ≤ 1000000000000 by have := back_len D n; omega)
      generalize WM.more D n = m at *
      obtain ⟨p, hp⟩ := Int.eq_ofNat_of_zero_le q1
      have HT1 := Lib.hid (show WM.turn1 c m = ⟨p, c.add, c.drop⟩ by unfold WM.turn1; rw [hp]; rfl)
      have HP := Lib.hid hp
      have HQ := Lib.hid (And.intro q1 (And.intro q2 (And.intro q3 (And.intro q4 (And.intro q5 q6)))))
      have HOC := Lib.hid (And.intro o1 o2)
      have HO := Lib.hid (And.intro hown (And.intro hbw hbo))
      have hdl := o1.len_le
      have hal := o2.len_le
      clear hx hown hbw hbo hgc o1 o2 k0' k1' k2' q1 q2 q3 q4 q5 q6 hp
      go_upto_region 9 with fail
      obtain ⟨w5, hw5⟩ : ∃ w5, wo.alloc (.cells #[.int .i64 (c.at_ : Nat), .slice A1 c.drop.length c1, .slice A2 c.add.length c2] 45) = w5 := ⟨_, rfl⟩
      rw [hw5]
      have b5 : Below wo.heap.size wo w5 := by rw [← hw5]; exact (Below.refl _ _).alloc (Nat.le_refl _) _
      have k5 : Blk w5 wo.heap.size 45 #[.int .i64 (c.at_ : Nat), .slice A1 c.drop.length c1, .slice A2 c.add.length c2] := by rw [← hw5]; exact Blk.new wo _ _
      have l5 := k5.lt
      have f0 : w5.cell? ⟨wo.heap.size, 0, none⟩ = some (.int .i64 (c.at_ : Nat)) := k5.cell 0
      have f1 : w5.cell? ⟨wo.heap.size, 1, none⟩ = some (.slice A1 c.drop.length c1) := k5.cell 1
      have f2 : w5.cell? ⟨wo.heap.size, 2, none⟩ = some (.slice A2 c.add.length c2) := k5.cell 2
      have e0 : w5.drew.cell? ⟨wo.heap.size, 0, none⟩ = some (.int .i64 (c.at_ : Nat)) := f0
      have e1 : w5.drew.cell? ⟨wo.heap.size, 1, none⟩ = some (.slice A1 c.drop.length c1) := f1
      have e2 : w5.drew.cell? ⟨wo.heap.size, 2, none⟩ = some (.slice A2 c.add.length c2) := f2
      have B5 := Lib.hid b5
      have BW := Lib.hid (show Below w.heap.size w w5 from HO.out.2.2.trans (b5.mono HO.out.2.2.size))
      have HW := Lib.hid (show wo.heap.size ≤ w5.heap.size from b5.size)
      have hCl := fun (A : Option Addr) (l : List ByteArray) (k : Nat) (h : OwnS w base (.slice A l.length k) l) (hl : l.length ≤ 1000000) W (hW : Below w5.heap.size w5 W) => Clone_any l l.length rfl A k W ((h.below (BW.out.trans (hW.mono BW.out.size)) (Nat.le_refl _)).rdo) (by omega)
      clear hw5 b5 k5 k0 k1 k2
      go_cut [8] (fun s8 wx => OwnC wx w1.heap.size s8 (WM.backL D (n + 1)) ∧ Below w1.heap.size w1 wx ∧ wx.cell? ⟨wo.heap.size, 1, none⟩ = some (.slice A1 c.drop.length c1) ∧ wx.cell? ⟨wo.heap.size, 2, none⟩ = some (.slice A2 c.add.length c2))
      case first =>
        have hwr : IntKind.i64.wrap ((c.at_ : Int) + m) = (p : Int) := by
          have := HQ.out
          rw [IntWalk.i64_in _ (by omega), HP.out]
        have hCx := hCl A2 c.add c2 HOC.out.2 (HQ.out.2.2.2.2.2) w5.drew ⟨rfl, rfl, rfl, Nat.le_refl _, fun _ _ => rfl⟩
        have hCd := hCl A1 c.drop c1 HOC.out.1 (HQ.out.2.2.2.2.1)
        clear hCl
        go_region_held3 (fun w' => w'.cell? ⟨wo.heap.size, 0, none⟩ = some (.int .i64 (c.at_ : Nat)) ∧ w'.cell? ⟨wo.heap.size, 1, none⟩ = some (.slice A1 c.drop.length c1) ∧ w'.cell? ⟨wo.heap.size, 2, none⟩ = some (.slice A2 c.add.length c2))
          (first | (with_reducible exact ⟨f0, f1, f2⟩) | (with_reducible exact ⟨e0, e1, e2⟩) | (with_reducible exact ⟨g0, g1, g2⟩) | (with_reducible exact ⟨h0, h1', h2⟩) | (with_reducible exact ⟨r0, r1, r2⟩) | (with_reducible exact ⟨s0, s1, s2⟩))
          (first
            | ((with_reducible refine hCx.mono ?_); rintro e w6 ⟨v6, rfl, ho6, hb6⟩; obtain ⟨A6, d6, rfl, _⟩ := ho6.rd; replace hb6 : Below w5.heap.size w5 w6 := ⟨hb6.os, hb6.tape, hb6.output, hb6.size, hb6.block⟩; have g0 := (hb6.cell (p := ⟨wo.heap.size, 0, none⟩) l5).trans f0; have g1 := (hb6.cell (p := ⟨wo.heap.size, 1, none⟩) l5).trans f1; have g2 := (hb6.cell (p := ⟨wo.heap.size, 2, none⟩) l5).trans f2; have l6 := Nat.lt_of_lt_of_le l5 hb6.size; have hCy := hCd w6 hb6; have H6 := Lib.hid (And.intro ho6 hb6); clear ho6 hb6)
            | ((with_reducible refine hCy.mono ?_); rintro e w7 ⟨v7, rfl, ho7, hb7⟩; obtain ⟨A7, d7, rfl, _⟩ := ho7.rd; have h0 := (hb7.cell (p := ⟨wo.heap.size, 0, none⟩) l6).trans g0; have h1' := (hb7.cell (p := ⟨wo.heap.size, 1, none⟩) l6).trans g1; have h2 := (hb7.cell (p := ⟨wo.heap.size, 2, none⟩) l6).trans g2; have l7 := Nat.lt_of_lt_of_le l6 hb7.size; have B7 := Lib.hid (H6.out.2.trans (hb7.mono H6.out.2.size)); have hrow : RowsC w7 w1.heap.size u8 ⟨p, c.add, c.drop⟩ (p, .slice A6 c.add.length d6, .slice A7 c.drop.length d7) := ⟨rfl, (H6.out.1.below hb7 (Nat.le_refl _)).less (Nat.le_trans HO.out.2.1.size B5.out.size), ho7.less (Nat.le_trans (Nat.le_trans HO.out.2.1.size B5.out.size) H6.out.2.size), fun z hz => rows_ne (HO.out.1.lt z hz).2 (Nat.le_trans B5.out.size (Nat.le_refl _)) H6.out.1 ho7 H6.out.2.size⟩; have r0 := (World.cell?_of_block (a := ⟨wo.heap.size, 0, none⟩) (Below.heap_alloc w7 (.cells #[.int .i64 (p : Nat), .slice A6 c.add.length d6, .slice A7 c.drop.length d7] 45) wo.heap.size l7)).trans h0; have r1 := (World.cell?_of_block (a := ⟨wo.heap.size, 1, none⟩) (Below.heap_alloc w7 (.cells #[.int .i64 (p : Nat), .slice A6 c.add.length d6, .slice A7 c.drop.length d7] 45) wo.heap.size l7)).trans h1'; have r2 := (World.cell?_of_block (a := ⟨wo.heap.size, 2, none⟩) (Below.heap_alloc w7 (.cells #[.int .i64 (p : Nat), .slice A6 c.add.length d6, .slice A7 c.drop.length d7] 45) wo.heap.size l7)).trans h2; clear ho7 hb7)
            | (have hz := l7; clear hz; (refine step_app_chg rfl (.tmp 27) (.tmp 39) rfl w1.heap.size u8 (WM.backL D n) rfl ((HO.out.1.below (B5.out.trans (B7.out.mono B5.out.size))).alloc _) _ ⟨p, c.add, c.drop⟩ (.slice A6 c.add.length d6) (.slice A7 c.drop.length d7) (hrow.alloc _) rfl ?_ (lits_chg w7 p (.slice A6 c.add.length d6) (.slice A7 c.drop.length d7) _) HNL.out (Nat.le_trans (Nat.le_trans HO.out.2.1.size B5.out.size) (Nat.le_trans B7.out.size (by simp)))); intro v8 w8 hown8 hg8; have s0 := (World.cell?_of_block (a := ⟨wo.heap.size, 0, none⟩) (hg8.block wo.heap.size (Nat.lt_of_lt_of_le l7 (by simp)) (chg_ne HO.out.1))).trans r0; have s1 := (World.cell?_of_block (a := ⟨wo.heap.size, 1, none⟩) (hg8.block wo.heap.size (Nat.lt_of_lt_of_le l7 (by simp)) (chg_ne HO.out.1))).trans r1; have s2 := (World.cell?_of_block (a := ⟨wo.heap.size, 2, none⟩) (hg8.block wo.heap.size (Nat.lt_of_lt_of_le l7 (by simp)) (chg_ne HO.out.1))).trans r2; have HZ := Lib.hid (And.intro hown8 ((((HO.out.2.1.trans ((B5.out.trans (B7.out.mono B5.out.size)).mono HO.out.2.1.size)).alloc (Nat.le_trans (Nat.le_trans HO.out.2.1.size B5.out.size) B7.out.size) _).grown hg8 (Nat.le_trans (Nat.le_trans HO.out.2.1.size B5.out.size) (Nat.le_trans B7.out.size (by simp))) (fun j hj => (HO.out.1.lt j hj).1)))); clear hown8))
        all_goals (go_wp2_with fail; go_meet; exact ⟨by rw [HST.out, HT1.out]; exact HZ.out.1, HZ.out.2, s1, s2⟩)
      case rest =>
        obtain ⟨hown9, hb9, d1, d2⟩ := hcut
        have H9 := Lib.hid (And.intro hown9 hb9)
        have hmb := HQ.out
        obtain ⟨_, _, m1, m2, m3, m4⟩ := hmb
        clear hown9 hb9 f0 f1 f2 e0 e1 e2 hCl
        go_wp2_with fail
        exact ⟨⟨n + 1, by simp, by rw [HMO.out], by omega, H9.out.1, H9.out.2⟩, by simp [intOf]; omega⟩
    · obtain rfl : n = D.length := by omega
      have HO := Lib.hid (And.intro hown hbw)
      obtain ⟨A9, c9, rfl, _, _⟩ := hown.form
      clear hown hbw
      go_wp2_with fail
      exact bodyPost_ret (v := .tuple #[.slice A9 (WM.backL D D.length).length c9, .int .i64 0]) (by simp [results, Tryz.results7, go_sem]) rfl ⟨_, rfl, HO.out.1.less HB.out.size, HB.out.trans (HO.out.2.mono HB.out.size)⟩
end Go.Proofs.YtndeifdpiimbeaaGreatDoor
