/- The law PatchesLead. -/
import Derived.Test.YtmkbfnghkcjogaaDoorFitD
import Derived.Test.YtmkbfnghkcjogaaDoorNearsK
import Derived.Test.YtmkbfnghkcjogaaDoorProse
import Derived.Test.YtmkbfnghkcjogaaDoorChangedD
import Derived.Test.YtmkbfnghkcjogaaDoorInts
import Derived.Test.YtmkbfnghkcjogaaDoorTokens
namespace Go.Proofs.YtmkbfnghkcjogaaDoor
open Go.RowKit

theorem below_only {B : Nat} {a w w' : World} {g : Nat} (h : Below B a w) (hg : w.grownBy w' (some g)) (hB : B ≤ w.heap.size) (hgB : B ≤ g) : Below B a w' := h.grown hg hB (fun k hk => by injection hk with hk; omega)
theorem lit1_ne : (({ data := #[97, 98, 99, 32, 120, 10] } : ByteArray).toList.isEmpty) = false := by decide +kernel
theorem lit2_ne : (({ data := #[100, 32] } : ByteArray).toList.isEmpty) = false := by decide +kernel
theorem few_of {s : ByteArray} (h : s.size ≤ 600) : Few s := by
  refine ⟨by omega, ?_⟩
  have h1 := WM.wt_len (WM.toks s)
  have h2 := WM.toks_wt s
  omega
def ErRel (wb : World) (i : Value) (wr : World) : Prop := ∃ k : Nat, i = .int .i64 k ∧ k ≤ 6 ∧ Below wb.heap.size wb wr
def MvRel (wb : World) (D : List WM.Chg) (m i : Value) (wr : World) : Prop := ∃ n : Nat, i = .int .i64 n ∧ m = .int .i64 (WM.moved D n : Nat) ∧ n ≤ D.length ∧ Below wb.heap.size wb wr
theorem moved_step {D : List WM.Chg} {n : Nat} {c : WM.Chg} (h : D[n]? = some c) : WM.moved D (n + 1) = WM.moved D n + (c.drop.length + c.add.length) := by simp [WM.moved, h]
theorem moved_leM {D : List WM.Chg} {M : Nat} (h : ∀ c, c ∈ D → c.drop.length + c.add.length ≤ M) : ∀ n, WM.moved D n ≤ n * M
  | 0 => by unfold WM.moved; exact Nat.zero_le _
  | n + 1 => by
    have ih := moved_leM h n
    unfold WM.moved
    rw [Nat.add_mul, Nat.one_mul]
    cases hx : D[n]? with
    | none => exact Nat.add_le_add ih (Nat.zero_le _)
    | some c => exact Nat.add_le_add ih (h c (List.mem_of_getElem? hx))
theorem moved_le {D : List WM.Chg} (h : ∀ c, c ∈ D → c.drop.length ≤ 2000 ∧ c.add.length ≤ 2000) (n : Nat) : WM.moved D n ≤ n * 4000 := moved_leM (fun c hc => by have := h c hc; omega) n
theorem dist_comm (X Y : List ByteArray) : dist Y X = dist X Y := by
  unfold dist
  rw [WM.kept_comm Y X]
  omega
theorem moved_dist (X Y : List ByteArray) : ((WM.moved (WM.differ X Y) (WM.differ X Y).length : Nat) : Int) = dist X Y := by
  have h : WM.moved (WM.differ X Y) (WM.differ X Y).length + 2 * (WM.kept X Y).length = X.length + Y.length := WM.moved_all (WM.kept_good X Y)
  unfold dist
  omega
theorem differ_parts {X Y : List ByteArray} (hX : Tks X) (hY : Tks Y) : ∀ c, c ∈ WM.differ X Y → c.drop.length ≤ 2000 ∧ c.add.length ≤ 2000 := fun c hc => by
  have h := WM.chg_parts X Y (WM.ends X Y) (WM.ends X Y).length c hc
  exact ⟨Nat.le_trans h.1.2 hX.len, Nat.le_trans h.2.2 hY.len⟩
set_option maxHeartbeats 8000000 in
theorem PatchesLead_any (A : Option Addr) (n cap : Nat) (w : World) (hl : Ints w w.heap.size A n) (hm : Mx w) :
    Calls Tryd.prog 3 #[.slice A n cap] w (SaysT w) := by
  have hst := hl.strm (cap := cap)
  have HM := Lib.hid hm
  clear hl hm
  go_enter Tryd.func3, Tryd.ntmps3
  go_wp2_with fail
  refine (Prose_any 14 (by omega) (by omega) w.heap.size w.heap.size 0 (by omega) _ hst).mono ?_
  rintro e w1 ⟨a, hsa, rfl, ⟨k1, hk1, hs1⟩, hg1⟩
  have hb1 : Below w.heap.size w w1 := below_only ((Below.refl _ _).alloc (Nat.le_refl _) _) hg1 (by simp) (Nat.le_refl _)
  clear hst hg1
  have hsa2 : a.size ≤ 84 := by simp at hsa; omega
  have HA := Lib.hid (show a.size ≤ 600 by omega)
  clear hsa
  go_wp2_with fail
  refine (ChangedD_any a ⟨#[97, 98, 99, 32, 120, 10]⟩ 84 6 hsa2 (by decide) (by decide) (by decide) lit1_ne (by decide) w.heap.size w.heap.size k1 (by simp at hk1; omega) _ hs1).mono ?_
  rintro e w2 ⟨t, hst2, rfl, ⟨k2, hk2, hs2⟩, hg2⟩
  have hb2 : Below w.heap.size w w2 := below_only hb1 hg2 hb1.size (Nat.le_refl _)
  clear hs1 hb1 hg2
  go_wp2_with fail
  refine (ChangedD_any t ⟨#[100, 32]⟩ 90 6 (by omega) (by decide) (by decide) (by decide) lit2_ne (by decide) w.heap.size w.heap.size k2 (by simp at hk1; omega) _ hs2).mono ?_
  rintro e w3 ⟨b, hsb, rfl, _, hg3⟩
  have hb3 : Below w.heap.size w w3 := below_only hb2 hg3 hb2.size (Nat.le_refl _)
  clear hs2 hb2 hg3
  have HB := Lib.hid (show b.size ≤ 600 by omega)
  have HB0 := Lib.hid hb3
  clear hk1 hk2 hsb hst2 hsa2 hb3
  obtain ⟨T, hT⟩ : ∃ T : ByteArray, (⟨(WM.joinT (WM.toks b)).toArray⟩ : ByteArray) = T := ⟨_, rfl⟩
  obtain ⟨U, hU⟩ : ∃ U : ByteArray, (⟨(WM.joinT (WM.toks a)).toArray⟩ : ByteArray) = U := ⟨_, rfl⟩
  have tA := tks_of a HA.out
  have tB := tks_of b HB.out
  have fA := few_of HA.out
  have fB := few_of HB.out
  have hTt : WM.toks T = WM.toks b := by rw [← hT]; exact WM.toks_join (fun x hx => WM.toks_ok b x hx)
  have fT : Few T := ⟨by rw [← hT]; show (WM.joinT (WM.toks b)).toArray.size ≤ 20000; rw [List.size_toArray]; exact tB.join, by rw [hTt]; exact tB.len⟩
  have hDf := fun W (hW : Below w.heap.size w W) => Differ_any a b fA fB W (HM.out.below hW HM.out.2)
  have hPt := fun W (hW : Below w.heap.size w W) base v (h : OwnC W base v (WM.differ (WM.toks a) (WM.toks b))) => Patch_any a fA _ v base W (HM.out.below hW HM.out.2) h (differ_ok tA tB)
  have hTu := fun W (hW : Below w.heap.size w W) base v (h : OwnC W base v (WM.differ (WM.toks a) (WM.toks b))) => Turn_any a fA _ v base W (HM.out.below hW HM.out.2) h (differ_ok tA tB) (differ_hat tA tB)
  have hPb := fun W (hW : Below w.heap.size w W) base v (h : OwnC W base v (WM.turned (WM.toks a) (WM.toks b) (WM.kept (WM.toks a) (WM.toks b)))) => Patch_any T fT _ v base W (HM.out.below hW HM.out.2) h (by rw [hTt]; exact turned_ok tA tB)
  simp only [differ_leads, hT] at hPt
  simp only [differ_back] at hTu
  simp only [hTt, turned_leads, hU] at hPb
  have hD1 := fun W (hW : Below w.heap.size w W) => Distance_any a b fA fB W (HM.out.below hW HM.out.2)
  have hD2 := fun W (hW : Below w.heap.size w W) => Distance_any b a fB fA W (HM.out.below hW HM.out.2)
  simp only [dist_comm (WM.toks a) (WM.toks b)] at hD2
  have hTb := fun W (hW : Below w.heap.size w W) => Tokens_any b (by have := HB.out; omega) W (HM.out.below hW HM.out.2)
  have hTa := fun W (hW : Below w.heap.size w W) => Tokens_any a (by have := HA.out; omega) W (HM.out.below hW HM.out.2)
  have hJb := fun W base v (h : OwnS W base v (WM.toks b)) => Join_any (WM.toks b) base v W h (by have := tB.join; omega)
  have hJa := fun W base v (h : OwnS W base v (WM.toks a)) => Join_any (WM.toks a) base v W h (by have := tA.join; omega)
  unfold SaysL at hJb hJa
  simp only [hT] at hJb
  simp only [hU] at hJa
  have hmv := moved_dist (WM.toks a) (WM.toks b)
  have hpa := differ_parts tA tB
  have hDl := (differ_ok tA tB).len
  have HJ := Lib.hid (And.intro (And.intro hTb hJb) (And.intro hTa hJa))
  clear hTb hTa hJb hJa hT hU tA tB fA fB hTt fT
  generalize dist (WM.toks a) (WM.toks b) = z at *
  generalize WM.turned (WM.toks a) (WM.toks b) (WM.kept (WM.toks a) (WM.toks b)) = B at *
  generalize WM.differ (WM.toks a) (WM.toks b) = D at *
  have HD := Lib.hid (And.intro hmv (And.intro hpa hDl))
  clear hmv hpa hDl
  go_wp2_with fail
  refine (hDf _ HB0.out).mono ?_
  rintro e w4 ⟨v4, rfl, ho4, hb4⟩
  obtain ⟨AD, cD, rfl, hgc⟩ := ho4.rd
  have H4 := Lib.hid (And.intro ho4 (HB0.out.trans (hb4.mono HB0.out.size)))
  have HG := Lib.hid hgc
  have hP4 := hPt _ H4.out.2 _ _ H4.out.1
  clear hb4 ho4 hDf hgc hPt
  go_wp2_with fail
  refine hP4.mono ?_
  rintro e w5 ⟨rfl, hb5⟩
  have H5 := Lib.hid (And.intro hb5 (H4.out.2.trans (hb5.mono H4.out.2.size)))
  have hT5 := hTu w5 H5.out.2 _ _ (H4.out.1.below hb5)
  clear hb5 hP4 hTu
  go_wp2_with fail
  refine hT5.mono ?_
  rintro e w6 ⟨v6, rfl, ho6, hb6⟩
  obtain ⟨AB, cB, rfl, _⟩ := ho6.rd
  have H6 := Lib.hid (And.intro (H5.out.1.trans (hb6.mono H5.out.1.size)) (H5.out.2.trans (hb6.mono H5.out.2.size)))
  have hP6 := hPb w6 H6.out.2 _ _ ho6
  clear hb6 ho6 hT5 hPb
  go_wp2_with fail
  refine hP6.mono ?_
  rintro e w7 ⟨rfl, hb7⟩
  have H7 := Lib.hid (And.intro (H6.out.1.trans (hb7.mono H6.out.1.size)) (H6.out.2.trans (hb7.mono H6.out.2.size)))
  clear hb7 hP6
  go_wp2_with fail
  refine (hD1 _ H7.out.2).mono ?_
  rintro e w8 ⟨rfl, hb8⟩
  have H8 := Lib.hid (And.intro (H7.out.1.trans (hb8.mono H7.out.1.size)) (H7.out.2.trans (hb8.mono H7.out.2.size)))
  clear hb8 hD1
  go_wp2_with fail
  refine (hD2 _ H8.out.2).mono ?_
  rintro e w9 ⟨rfl, hb9⟩
  have H9 := Lib.hid (And.intro (H8.out.1.trans (hb9.mono H8.out.1.size)) (H8.out.2.trans (hb9.mono H8.out.2.size)))
  clear hb9 hD2
  go_wp2_with fail
  obtain ⟨wb, hwb⟩ : ∃ wb, w9.alloc (.cells #[.int .i64 0, .int .i64 0, .int .i64 0, .int .i64 0, .int .i64 0, .int .i64 0] 29) = wb := ⟨_, rfl⟩
  have hc0 : ∀ k, k < 6 → wb.cell? ⟨w9.heap.size, k, none⟩ = some (.int .i64 0) := by
    intro k hk
    rw [← hwb]
    rcases (show k = 0 ∨ k = 1 ∨ k = 2 ∨ k = 3 ∨ k = 4 ∨ k = 5 by omega) with rfl | rfl | rfl | rfl | rfl | rfl <;> exact (Blk.new w9 29 #[.int .i64 0, .int .i64 0, .int .i64 0, .int .i64 0, .int .i64 0, .int .i64 0]).cell _
  have HC := Lib.hid hc0
  clear hc0
  have hltb : w9.heap.size < wb.heap.size := by rw [← hwb]; simp
  have hb9b : Below w9.heap.size w9 wb := by rw [← hwb]; exact (Below.refl _ _).alloc (Nat.le_refl _) _
  have HBB := Lib.hid (And.intro (H9.out.1.trans (hb9b.mono H9.out.1.size)) (H9.out.2.trans (hb9b.mono H9.out.2.size)))
  rw [hwb]
  clear hwb hb9b
  go_loopw [77] (fun i wr => ErRel wb i wr) (fun i _ => (6 - (intOf i).toNat))
  case atStart => exact ⟨0, rfl, by omega, Below.refl _ _⟩
  case round =>
    obtain ⟨k, rfl, hk, hbw⟩ := hrel
    obtain ⟨wo, rfl⟩ : ∃ wo : World, wo = wr := ⟨_, rfl⟩
    by_cases hlt : k < 6
    · have hc := (hbw.cell (p := ⟨w9.heap.size, k, none⟩) hltb).trans (HC.out k hlt)
      have HW := Lib.hid hbw
      clear hbw
      go_wp2_with fail
      exact ⟨⟨k + 1, by simp, by omega, HW.out⟩, by simp [intOf]; omega⟩
    · obtain rfl : k = 6 := by omega
      have HW := Lib.hid (And.intro (HBB.out.1.trans (hbw.mono HBB.out.1.size)) (HBB.out.2.trans (hbw.mono HBB.out.2.size)))
      clear hbw hltb hlt hk
      go_wp2_with fail
      go_loopw [20, 86] (fun m i wr => MvRel wo D m i wr) (fun _ i _ => (D.length - (intOf i).toNat))
      case atStart => exact ⟨0, rfl, rfl, Nat.zero_le _, Below.refl _ _⟩
      case round =>
        obtain ⟨n, rfl, rfl, hn, hbx⟩ := hrel
        obtain ⟨wx, rfl⟩ : ∃ wx : World, wx = wr := ⟨_, rfl⟩
        by_cases hlt : n < D.length
        · obtain ⟨g, rfl, hg, hgc⟩ := HG.out (by omega)
          have hx := List.getElem?_eq_getElem hlt
          generalize D[n] = c at hx
          have b4x : Below w4.heap.size w4 wx := HW.out.1.trans (hbx.mono HW.out.1.size)
          obtain ⟨A1, c1, A2, c2, k0, k1, k2, o1, o2⟩ := hgc wx b4x n c hx
          have q1 := (HD.out.2.1 c (List.mem_of_getElem? hx)).1
          have q2 := (HD.out.2.1 c (List.mem_of_getElem? hx)).2
          have q3 : WM.moved D n ≤ 12000000 := by have h1 := moved_le HD.out.2.1 n; have h2 := HD.out.2.2; omega
          have q4 : n < 3000 := by have := HD.out.2.2; omega
          have HMO := Lib.hid (moved_step hx)
          generalize WM.moved D n = m at *
          have HX := Lib.hid hbx
          clear hx hbx hgc o1 o2 b4x
          go_upto_region 20 with fail
          obtain ⟨w5, hw5⟩ : ∃ w5, wx.alloc (.cells #[.int .i64 (c.at_ : Nat), .slice A1 c.drop.length c1, .slice A2 c.add.length c2] 40) = w5 := ⟨_, rfl⟩
          rw [hw5]
          have B5 := Lib.hid (show Below wx.heap.size wx w5 by rw [← hw5]; exact (Below.refl _ _).alloc (Nat.le_refl _) _)
          have k5 : Blk w5 wx.heap.size 40 #[.int .i64 (c.at_ : Nat), .slice A1 c.drop.length c1, .slice A2 c.add.length c2] := by rw [← hw5]; exact Blk.new wx _ _
          have f1 : w5.cell? ⟨wx.heap.size, 1, none⟩ = some (.slice A1 c.drop.length c1) := k5.cell 1
          have f2 : w5.cell? ⟨wx.heap.size, 2, none⟩ = some (.slice A2 c.add.length c2) := k5.cell 2
          clear hw5 k5 k0 k1 k2
          go_wp2_with fail
          exact ⟨⟨n + 1, by simp, by rw [HMO.out]; simp, by omega, HX.out.trans (B5.out.mono HX.out.size)⟩, by simp [intOf]; omega⟩
        · obtain rfl : n = D.length := by omega
          have hz := HD.out.1
          generalize WM.moved D D.length = m at *
          subst hz
          have HX := Lib.hid (HW.out.2.trans (hbx.mono HW.out.2.size))
          have hTT : (T.toList == T.toList) = true := beq_self_eq_true _
          have hUU : (U.toList == U.toList) = true := beq_self_eq_true _
          clear hbx hlt hn
          go_wp2_with fail
          refine (nears_any _).mono ?_
          rintro e x1 ⟨rfl, hc1⟩
          have Y1 := Lib.hid (HX.out.trans (hc1.mono HX.out.size))
          clear hc1
          go_wp2_with fail
          refine (HJ.out.1.1 _ Y1.out).mono ?_
          rintro e x2 ⟨v2, rfl, ho2, hc2⟩
          have Y2 := Lib.hid (Y1.out.trans (hc2.mono Y1.out.size))
          have hJ2 := HJ.out.1.2 _ _ _ ho2
          clear hc2 ho2
          go_wp2_with fail
          refine hJ2.mono ?_
          rintro e x3 ⟨rfl, hc3⟩
          have Y3 := Lib.hid (Y2.out.trans (hc3.mono Y2.out.size))
          clear hc3 hJ2
          go_wp2_with fail
          refine (HJ.out.2.1 _ Y3.out).mono ?_
          rintro e x4 ⟨v4, rfl, ho4, hc4⟩
          have Y4 := Lib.hid (Y3.out.trans (hc4.mono Y3.out.size))
          have hJ4 := HJ.out.2.2 _ _ _ ho4
          clear hc4 ho4
          go_wp2_with fail
          refine hJ4.mono ?_
          rintro e x5 ⟨rfl, hc5⟩
          have Y5 := Lib.hid (Y4.out.trans (hc5.mono Y4.out.size))
          clear hc5 hJ4
          go_wp2_with fail
          go_ret
          exact ⟨rfl, Y5.out⟩
end Go.Proofs.YtmkbfnghkcjogaaDoor
