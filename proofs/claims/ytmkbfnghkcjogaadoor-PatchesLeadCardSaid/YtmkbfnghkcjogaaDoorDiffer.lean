/- Contract of the program's Differ. -/
import Derived.Test.YtmkbfnghkcjogaaDoorOwnC
import Derived.Deep.DeepCutAuto
import Derived.Deep.RegionHeld3
import Derived.IntWalk
namespace Go.Proofs.YtmkbfnghkcjogaaDoor
open Go.RowKit

/-- append of a pair, as a step of a region that draws -/
theorem step_app_pair {ops : Array Oper} {o : Oper} {a : Act} {K : Act → World → Prop} {Q : Exit → Act → World → Prop} {E : Prop} {st et : TypeId} (ht : Two st et) {w : World} (hgd : o.guard = none) (sl x : Operand)
    (ho : o.op = .call { callee := .builtin .append, args := #[sl, x], argTypes := #[st, st] }) (base : Nat) (v : Value) (L : List (Nat × Nat)) (hs : a.eval sl = v) (hown : OwnQ et w base v L) (ad : Addr) (p q : Nat) (hx : a.eval x = .slice (some ad) 1 1)
    (h : ∀ v' w', OwnQ et w' base v' (L ++ [(p, q)]) → w.grownBy w' v.ownBlock → K (a.put o.dst v') w')
    (hnews : ∀ j u, [Value.int .i64 p, Value.int .i64 q][j]? = some u → w.cell? (ad.add j) = some u) (hb : L.length ≤ 1000000000000) (hbase : base ≤ w.heap.size) :
    if Region.wanted o (yielded ops a.tmps) = true then Oper.wp Tryd.prog o a w K Q else E := by
  have hw : Region.wanted o (yielded ops a.tmps) = true := by simp [Region.wanted, hgd]
  rw [if_pos hw]
  obtain ⟨i0, hi, hz0, hz1, hz2⟩ := info_parts ht.2
  refine wp_append_own w sl x _ ho base et i0 _ 2 16 ht.1 hi hz0 hz1 hz2 rfl (by omega) v L.length (Lib.spanCells L) hs hown ad 1 1 [Value.int .i64 p, Value.int .i64 q] hx rfl hnews ?_ (by unfold maxLen; omega) (by omega) hbase ?_
  · intro u hu
    simp at hu
    rcases hu with rfl | rfl <;> rfl
  intro v' w' h1 h2 _
  refine h v' w' ?_ h2
  unfold OwnQ
  rw [Lib.spanCells_snoc, List.length_append]
  exact h1
/-- a pair that was laid ahead of a call -/
theorem news_far {w w3 : World} {p q : Nat} {t : TypeId} (hb : Below (w.alloc (.cells #[.int .i64 p, .int .i64 q] t)).drew.heap.size (w.alloc (.cells #[.int .i64 p, .int .i64 q] t)).drew w3) : ∀ j u, [Value.int .i64 p, Value.int .i64 q][j]? = some u → w3.cell? ((⟨w.heap.size, 0, none⟩ : Addr).add j) = some u := by
  intro j u h
  refine (hb.cell (p := (⟨w.heap.size, 0, none⟩ : Addr).add j) ?_).trans (lits_pair w p q t j u h)
  have e : ((⟨w.heap.size, 0, none⟩ : Addr).add j).block = w.heap.size := by unfold Addr.add; split <;> rfl
  rw [e, show (w.alloc (.cells #[.int .i64 p, .int .i64 q] t)).drew.heap.size = w.heap.size + 1 from Array.size_push _]
  exact Nat.lt_succ_self _
theorem pair_ne {et : TypeId} {w : World} {b k : Nat} {v : Value} {l : List (Nat × Nat)} (h : OwnQ et w b v l) (hk : k < b) : some k ≠ v.ownBlock := fun e => by
  have := (h.lt k e.symm).1
  omega
/-- changes are answered, with a code -/
def ChgSays (D : List WM.Chg) (w : World) (e : Ending) (w' : World) : Prop := ∃ v, e = .returned (.tuple #[v, .int .i64 0]) ∧ OwnC w' w.heap.size v D ∧ Below w.heap.size w w'
theorem rows_ne {w w' : World} {b b' B z : Nat} {v v' : Value} {l l' : List ByteArray} (hz : z < B) (hB : B ≤ b) (h : OwnS w b v l) (h' : OwnS w' b' v' l') (hb : b ≤ b') : v.ownBlock ≠ some z ∧ v'.ownBlock ≠ some z := by
  refine ⟨fun e => ?_, fun e => ?_⟩
  · have := h.base_le z e; omega
  · have := h'.base_le z e; omega
theorem chg_ne {w : World} {b : Nat} {v : Value} {D : List WM.Chg} (h : OwnC w b v D) : some w.heap.size ≠ v.ownBlock := fun e => by
  have := (h.lt _ e.symm).2
  omega
theorem RowsC.alloc {w : World} {base : Nat} {v : Value} {c : WM.Chg} {x : Nat × Value × Value} (h : RowsC w base v c x) (o : Obj) : RowsC (w.alloc o) base v c x := ⟨h.1, h.2.1.alloc o, h.2.2.1.alloc o, h.2.2.2⟩
def DfRel (wc : World) (X Y : List ByteArray) (E : List (Nat × Nat)) (l i j k : Value) (wr : World) : Prop := ∃ n : Nat, i = .int .i64 (WM.fI E n : Nat) ∧ j = .int .i64 (WM.fJ E n : Nat) ∧ k = .int .i64 n ∧ n ≤ E.length ∧ OwnC wr wc.heap.size l (WM.chgK X Y E n) ∧ Below wc.heap.size wc wr
set_option maxHeartbeats 800000 in
theorem Differ_any (a b : ByteArray) (ha : Few a) (hb : Few b) (w : World) (hm : Mx w) : Calls Tryd.prog 6 #[.string a, .string b] w (ChgSays (WM.differ (WM.toks a) (WM.toks b)) w) := by
  have h1 := bothTokens_any a b ha hb w hm
  obtain ⟨_, la⟩ := ha
  obtain ⟨_, lb⟩ := hb
  generalize WM.toks a = X at *
  generalize WM.toks b = Y at *
  clear hm
  go_enter Tryd.func6, Tryd.ntmps6
  go_wp2_with fail
  refine h1.mono ?_
  rintro e w1 ⟨v1, v2, rfl, ho1, ho2, hb1⟩
  obtain ⟨A1, c1, rfl, hr1⟩ := ho1.rd
  obtain ⟨A2, c2, rfl, hr2⟩ := ho2.rd
  have HC := Lib.hid (And.intro ho1.cap_le ho2.cap_le)
  have HR := Lib.hid (And.intro hr1 hr2)
  have HB := Lib.hid hb1
  have HL := Lib.hid (And.intro la lb)
  clear h1 ho1 ho2 hb1 hr1 hr2 la lb
  go_upto_region 7 with fail
  obtain ⟨w2, hw2⟩ : ∃ w2, w1.alloc (.cells #[.int .i64 (X.length : Nat), .int .i64 (Y.length : Nat)] 50) = w2 := ⟨_, rfl⟩
  rw [hw2]
  have hb2 : Below w1.heap.size w1 w2 := by rw [← hw2]; exact (Below.refl _ _).alloc (Nat.le_refl _) _
  have hk2 : Blk w2 w1.heap.size 50 #[.int .i64 (X.length : Nat), .int .i64 (Y.length : Nat)] := by rw [← hw2]; exact Blk.new w1 _ _
  have l2 := hk2.lt
  have hs2 : w2.heap.size = w1.heap.size + 1 := by rw [← hw2]; simp
  have f0 : w2.cell? ⟨w1.heap.size, 0, none⟩ = some (.int .i64 (X.length : Nat)) := hk2.cell 0
  have f1 : w2.cell? ⟨w1.heap.size, 1, none⟩ = some (.int .i64 (Y.length : Nat)) := hk2.cell 1
  have e0 : w2.drew.cell? ⟨w1.heap.size, 0, none⟩ = some (.int .i64 (X.length : Nat)) := f0
  have e1 : w2.drew.cell? ⟨w1.heap.size, 1, none⟩ = some (.int .i64 (Y.length : Nat)) := f1
  have hK : ∀ W, Below w2.heap.size w2 W → Calls Tryd.prog 16 #[.slice A1 X.length c1, .slice A2 Y.length c2] W (PairsNew 50 (WM.kept X Y) W) := fun W hW =>
    keep_any X Y A1 A2 c1 c2 W (Rd.below (Rd.below HR.out.1 hb2) hW) (Rd.below (Rd.below HR.out.2 hb2) hW) HL.out.1 HL.out.2 HC.out.2
  have hkl := WM.kept_len X Y
  have hll := HL.out.1
  have HB2 := Lib.hid (And.intro hb2 hk2)
  clear hw2 hb2 hk2
  go_cut [35, 36, 37] (fun s35 s36 s37 wx => s36 = .int .i64 ((WM.ends X Y).length : Nat) ∧ s37 = .int .i64 0 ∧ OwnQ 50 wx w2.heap.size s35 (WM.ends X Y) ∧ Below w2.heap.size w2 wx)
  case first =>
    clear hkl hll
    have hKd := hK w2.drew ⟨rfl, rfl, rfl, Nat.le_refl _, fun _ _ => rfl⟩
    have bA : Below w2.heap.size w2 (w2.alloc (.cells #[.int .i64 (X.length : Nat), .int .i64 (Y.length : Nat)] 50)).drew := ((Below.refl _ _).alloc (Nat.le_refl _) _).drew
    have hKa := hK (w2.alloc (.cells #[.int .i64 (X.length : Nat), .int .i64 (Y.length : Nat)] 50)).drew bA
    have q0 : (w2.alloc (.cells #[.int .i64 (X.length : Nat), .int .i64 (Y.length : Nat)] 50)).drew.cell? ⟨w1.heap.size, 0, none⟩ = some (.int .i64 (X.length : Nat)) := (bA.cell (p := ⟨w1.heap.size, 0, none⟩) l2).trans f0
    have q1 : (w2.alloc (.cells #[.int .i64 (X.length : Nat), .int .i64 (Y.length : Nat)] 50)).drew.cell? ⟨w1.heap.size, 1, none⟩ = some (.int .i64 (Y.length : Nat)) := (bA.cell (p := ⟨w1.heap.size, 1, none⟩) l2).trans f1
    have BA := Lib.hid bA
    have HKL := Lib.hid (show (WM.kept X Y).length ≤ 1000000000000 by have := HL.out.1; have := WM.kept_len X Y; omega)
    clear bA hK hs2
    go_region_held3 (fun w' => w'.cell? ⟨w1.heap.size, 0, none⟩ = some (.int .i64 (X.length : Nat)) ∧ w'.cell? ⟨w1.heap.size, 1, none⟩ = some (.int .i64 (Y.length : Nat)))
      (first | (with_reducible exact ⟨f0, f1⟩) | (with_reducible exact ⟨e0, e1⟩) | (with_reducible exact ⟨g0, g1⟩) | (with_reducible exact ⟨q0, q1⟩) | (with_reducible exact ⟨r0, r1⟩) | (with_reducible exact ⟨s0, s1⟩))
      (first
        | ((with_reducible refine hKd.mono ?_); rintro e w3 ⟨v3, rfl, ho3, hb3⟩; replace hb3 : Below w2.heap.size w2 w3 := ⟨hb3.os, hb3.tape, hb3.output, hb3.size, hb3.block⟩; have g0 := (hb3.cell (p := ⟨w1.heap.size, 0, none⟩) l2).trans f0; have g1 := (hb3.cell (p := ⟨w1.heap.size, 1, none⟩) l2).trans f1; have l3 := Nat.lt_of_lt_of_le l2 hb3.size; have r0 := (World.cell?_of_block (a := ⟨w1.heap.size, 0, none⟩) (Below.heap_alloc w3 (.cells #[.int .i64 (X.length : Nat), .int .i64 (Y.length : Nat)] 50) w1.heap.size l3)).trans g0; have r1 := (World.cell?_of_block (a := ⟨w1.heap.size, 1, none⟩) (Below.heap_alloc w3 (.cells #[.int .i64 (X.length : Nat), .int .i64 (Y.length : Nat)] 50) w1.heap.size l3)).trans g1)
        | ((with_reducible refine hKa.mono ?_); rintro e w3 ⟨v3, rfl, ho3, hb3⟩; have l3 := Nat.lt_of_lt_of_le (Nat.lt_of_lt_of_le l2 BA.out.size) hb3.size; have g0 := (hb3.cell (p := ⟨w1.heap.size, 0, none⟩) (Nat.lt_of_lt_of_le l2 BA.out.size)).trans q0; have g1 := (hb3.cell (p := ⟨w1.heap.size, 1, none⟩) (Nat.lt_of_lt_of_le l2 BA.out.size)).trans q1; have hnw : ∀ j u, [Value.int .i64 (X.length : Nat), Value.int .i64 (Y.length : Nat)][j]? = some u → w3.cell? ((⟨w2.heap.size, 0, none⟩ : Addr).add j) = some u := news_far hb3)
        | (have hz := ho3.lt; clear hz; (refine step_app_pair two_kept rfl (.tmp 32) (.tmp 34) rfl w2.heap.size v3 (WM.kept X Y) rfl (ho3.alloc _) _ X.length Y.length rfl ?_ (lits_pair _ X.length Y.length _) HKL.out (Nat.le_trans hb3.size (by simp))); intro v4 w4 hown4 hg4; have s0 := (World.cell?_of_block (a := ⟨w1.heap.size, 0, none⟩) (hg4.block w1.heap.size (Nat.lt_of_lt_of_le l3 (by simp)) (pair_ne ho3 l2))).trans r0; have s1 := (World.cell?_of_block (a := ⟨w1.heap.size, 1, none⟩) (hg4.block w1.heap.size (Nat.lt_of_lt_of_le l3 (by simp)) (pair_ne ho3 l2))).trans r1; have HZ := Lib.hid (And.intro hown4 ((hb3.alloc hb3.size _).grown hg4 (Nat.le_trans hb3.size (by simp)) (fun j hj => (ho3.lt j hj).1))); obtain ⟨A4, c4, rfl, _, _⟩ := hown4.form; clear ho3 hown4)
        | (have hz := ho3.lt; clear hz; (refine step_app_pair two_kept rfl (.tmp 32) (.tmp 34) rfl w2.heap.size v3 (WM.kept X Y) rfl (ho3.less BA.out.size) _ X.length Y.length rfl ?_ hnw HKL.out (Nat.le_trans BA.out.size hb3.size)); intro v4 w4 hown4 hg4; have s0 := (World.cell?_of_block (a := ⟨w1.heap.size, 0, none⟩) (hg4.block w1.heap.size l3 (pair_ne ho3 (Nat.lt_of_lt_of_le l2 BA.out.size)))).trans g0; have s1 := (World.cell?_of_block (a := ⟨w1.heap.size, 1, none⟩) (hg4.block w1.heap.size l3 (pair_ne ho3 (Nat.lt_of_lt_of_le l2 BA.out.size)))).trans g1; have HZ := Lib.hid (And.intro hown4 ((BA.out.trans (hb3.mono BA.out.size)).grown hg4 (Nat.le_trans BA.out.size hb3.size) (fun j hj => Nat.le_trans BA.out.size (ho3.lt j hj).1))); obtain ⟨A4, c4, rfl, _, _⟩ := hown4.form; clear ho3 hown4))
    all_goals (go_wp2_with fail; go_meet; exact ⟨by simp [WM.ends], rfl, HZ.out⟩)
  case rest =>
    obtain ⟨rfl, rfl, hoE, hbE⟩ := hcut
    obtain ⟨AE, cE, rfl, hEl, hfE⟩ := hoE.form
    have HE := Lib.hid (And.intro hoE (And.intro hbE hfE))
    have hrise := Lib.hid (WM.ends_rise X Y)
    have hends := Lib.hid (WM.ends_le X Y)
    have helen := Lib.hid (WM.ends_len X Y)
    generalize hgE : WM.ends X Y = E at *
    have HD := Lib.hid (show WM.differ X Y = WM.chgK X Y E E.length by rw [← hgE]; rfl)
    clear hgE hoE hbE hfE hK f0 f1 e0 e1 hkl hs2 l2
    go_wp2_with fail
    go_loopw [9, 11, 12, 37] (fun l i j k wr => DfRel wc X Y E l i j k wr) (fun _ _ _ k _ => E.length - (intOf k).toNat)
    case atStart => exact ⟨0, rfl, rfl, rfl, Nat.zero_le _, OwnC.nil _ _, Below.refl _ _⟩
    case round =>
      obtain ⟨n, rfl, rfl, rfl, hn, hown, hbw⟩ := hrel
      obtain ⟨wo, rfl⟩ : ∃ wo : World, wo = wr := ⟨_, rfl⟩
      by_cases hlt : n < E.length
      · obtain ⟨g, rfl, hg1, hg2, hgc⟩ := HE.out.2.2 (by omega)
        obtain ⟨⟨p, q⟩, hx⟩ : ∃ x, E[n]? = some x := ⟨_, List.getElem?_eq_getElem hlt⟩
        have k0 := (hbw.cell (p := ⟨g, n * 2, none⟩) hg2).trans (hgc n _ hx).1
        have k1 := (hbw.cell (p := ⟨g, n * 2 + 1, none⟩) hg2).trans (hgc n _ hx).2
        have hr := hrise.out.1 n _ hx
        have he := hends.out n _ hx
        simp only at k0 k1 hr he
        have HX := Lib.hid hx
        have HI := Lib.hid (And.intro (show WM.fI E (n + 1) = p + 1 by simp [WM.fI, hx]) (show WM.fJ E (n + 1) = q + 1 by simp [WM.fJ, hx]))
        have HY := Lib.hid (fun h => WM.chg_yes (A := X) (B := Y) hx h)
        have HN := Lib.hid (fun h => WM.chg_no (A := X) (B := Y) hx h)
        simp only at HY HN
        generalize WM.fI E n = I at *
        generalize WM.fJ E n = J at *
        have HO := Lib.hid (And.intro hown hbw)
        have HRX := Lib.hid (fun W (hW : Below w1.heap.size w1 W) => (Rd.drop (Rd.below HR.out.1 hW) I).take (p - I))
        have HRY := Lib.hid (fun W (hW : Below w1.heap.size w1 W) => (Rd.drop (Rd.below HR.out.2 hW) J).take (q - J))
        have HLX := Lib.hid (show ((X.drop I).take (p - I)).length = p - I by simp; omega)
        have HLY := Lib.hid (show ((Y.drop J).take (q - J)).length = q - J by simp; omega)
        generalize (X.drop I).take (p - I) = DX at *
        generalize (Y.drop J).take (q - J) = DY at *
        clear hx hown hbw hgc
        rcases Nat.lt_or_ge I p with h1 | h1
        · have HOR := Lib.hid (show I < p ∨ J < q from .inl h1)
          go_wp2_with fail
          obtain ⟨w5, hw5⟩ : ∃ w5, wo.alloc (.cells #[.int .i64 (p : Nat), .int .i64 (q : Nat)] 50) = w5 := ⟨_, rfl⟩
          rw [hw5]
          have b5 : Below wo.heap.size wo w5 := by rw [← hw5]; exact (Below.refl _ _).alloc (Nat.le_refl _) _
          have hk5 : Blk w5 wo.heap.size 50 #[.int .i64 (p : Nat), .int .i64 (q : Nat)] := by rw [← hw5]; exact Blk.new wo _ _
          have l5 := hk5.lt
          have f0 : w5.cell? ⟨wo.heap.size, 0, none⟩ = some (.int .i64 (p : Nat)) := hk5.cell 0
          have f1 : w5.cell? ⟨wo.heap.size, 1, none⟩ = some (.int .i64 (q : Nat)) := hk5.cell 1
          have e0 : w5.drew.cell? ⟨wo.heap.size, 0, none⟩ = some (.int .i64 (p : Nat)) := f0
          have e1 : w5.drew.cell? ⟨wo.heap.size, 1, none⟩ = some (.int .i64 (q : Nat)) := f1
          have B5 := Lib.hid b5
          have BW := Lib.hid (show Below w1.heap.size w1 w5 from HB2.out.1.trans (((HE.out.2.1.trans ((HO.out.2.mono HE.out.2.1.size))).trans (b5.mono (Nat.le_trans HE.out.2.1.size HO.out.2.size))).mono HB2.out.1.size))
          clear hw5 b5 hk5 k0 k1
          go_cut [9] (fun s9 wx => OwnC wx wc.heap.size s9 (WM.chgK X Y E (n + 1)) ∧ Below wc.heap.size wc wx ∧ wx.cell? ⟨wo.heap.size, 0, none⟩ = some (.int .i64 (p : Nat)) ∧ wx.cell? ⟨wo.heap.size, 1, none⟩ = some (.int .i64 (q : Nat)))
          case first =>
            have hi1 : (I : Int) ≤ (p : Int) := by omega
            have hi2 : (p : Int) ≤ (c1 : Int) := by have := HC.out.1; omega
            have hj1 : (J : Int) ≤ (q : Int) := by omega
            have hj2 : (q : Int) ≤ (c2 : Int) := by have := HC.out.2; omega
            have HNL := Lib.hid (show (WM.chgK X Y E n).length ≤ 1000000000000 by have := WM.chg_len X Y E n; have := helen.out; have := HL.out.1; omega)
            have hnI : ¬ c1 = I := by omega
            by_cases hnJ : c2 = J
            · obtain rfl : J = q := by have := HC.out.2; omega
              subst hnJ
              have hX := fun W (hW : Below w5.heap.size w5 W) => Clone_any DX (p - I) HLX.out (Option.map (fun x => x.add I) A1) (c1 - I) W (HRX.out W (BW.out.trans (hW.mono BW.out.size))) (by have := HL.out.1; omega)
              have hCx := hX w5.drew ⟨rfl, rfl, rfl, Nat.le_refl _, fun _ _ => rfl⟩
              have hY := fun W (hW : Below w5.heap.size w5 W) => Clone_any DY 0 (by rw [HLY.out]; omega) A2 0 W (RdO.none_ _ _ _ (by rw [HLY.out]; omega)) (by omega)
              clear hr he hX hn hj1 hj2
              go_region_held3 (fun w' => w'.cell? ⟨wo.heap.size, 0, none⟩ = some (.int .i64 (p : Nat)) ∧ w'.cell? ⟨wo.heap.size, 1, none⟩ = some (.int .i64 (c2 : Nat)))
                (first | (with_reducible exact ⟨f0, f1⟩) | (with_reducible exact ⟨e0, e1⟩) | (with_reducible exact ⟨g0, g1⟩) | (with_reducible exact ⟨h0, h1'⟩) | (with_reducible exact ⟨r0, r1⟩) | (with_reducible exact ⟨s0, s1⟩))
                (first
                  | ((with_reducible refine hCx.mono ?_); rintro e w6 ⟨v6, rfl, ho6, hb6⟩; obtain ⟨A6, d6, rfl, _⟩ := ho6.rd; replace hb6 : Below w5.heap.size w5 w6 := ⟨hb6.os, hb6.tape, hb6.output, hb6.size, hb6.block⟩; have g0 := (hb6.cell (p := ⟨wo.heap.size, 0, none⟩) l5).trans f0; have g1 := (hb6.cell (p := ⟨wo.heap.size, 1, none⟩) l5).trans f1; have l6 := Nat.lt_of_lt_of_le l5 hb6.size; have hCy := hY w6 hb6; have H6 := Lib.hid (And.intro ho6 hb6); clear ho6 hb6)
                  | ((with_reducible refine hCy.mono ?_); rintro e w7 ⟨v7, rfl, ho7, hb7⟩; obtain ⟨A7, d7, rfl, _⟩ := ho7.rd; have h0 := (hb7.cell (p := ⟨wo.heap.size, 0, none⟩) l6).trans g0; have h1' := (hb7.cell (p := ⟨wo.heap.size, 1, none⟩) l6).trans g1; have l7 := Nat.lt_of_lt_of_le l6 hb7.size; have B7 := Lib.hid (H6.out.2.trans (hb7.mono H6.out.2.size)); have hrow : RowsC w7 wc.heap.size u9 ⟨I, DX, DY⟩ (I, .slice A6 DX.length d6, .slice A7 DY.length d7) := ⟨rfl, (H6.out.1.below hb7 (Nat.le_refl _)).less (Nat.le_trans HO.out.2.size B5.out.size), ho7.less (Nat.le_trans (Nat.le_trans HO.out.2.size B5.out.size) H6.out.2.size), fun z hz => rows_ne (HO.out.1.lt z hz).2 (Nat.le_trans B5.out.size (Nat.le_refl _)) H6.out.1 ho7 H6.out.2.size⟩; have r0 := (World.cell?_of_block (a := ⟨wo.heap.size, 0, none⟩) (Below.heap_alloc w7 (.cells #[.int .i64 (I : Nat), .slice A6 DX.length d6, .slice A7 DY.length d7] 40) wo.heap.size l7)).trans h0; have r1 := (World.cell?_of_block (a := ⟨wo.heap.size, 1, none⟩) (Below.heap_alloc w7 (.cells #[.int .i64 (I : Nat), .slice A6 DX.length d6, .slice A7 DY.length d7] 40) wo.heap.size l7)).trans h1'; clear ho7 hb7)
                  | (have hz := l7; clear hz; (refine step_app_chg rfl (.tmp 51) (.tmp 66) rfl wc.heap.size u9 (WM.chgK X Y E n) rfl ((HO.out.1.below (B5.out.trans (B7.out.mono B5.out.size))).alloc _) _ ⟨I, DX, DY⟩ (.slice A6 DX.length d6) (.slice A7 DY.length d7) (hrow.alloc _) rfl ?_ (lits_chg w7 I (.slice A6 DX.length d6) (.slice A7 DY.length d7) _) HNL.out (Nat.le_trans (Nat.le_trans HO.out.2.size B5.out.size) (Nat.le_trans B7.out.size (by simp)))); intro v8 w8 hown8 hg8; have s0 := (World.cell?_of_block (a := ⟨wo.heap.size, 0, none⟩) (hg8.block wo.heap.size (Nat.lt_of_lt_of_le l7 (by simp)) (chg_ne HO.out.1))).trans r0; have s1 := (World.cell?_of_block (a := ⟨wo.heap.size, 1, none⟩) (hg8.block wo.heap.size (Nat.lt_of_lt_of_le l7 (by simp)) (chg_ne HO.out.1))).trans r1; have HZ := Lib.hid (And.intro hown8 ((((HO.out.2.trans ((B5.out.trans (B7.out.mono B5.out.size)).mono HO.out.2.size)).alloc (Nat.le_trans (Nat.le_trans HO.out.2.size B5.out.size) B7.out.size) _).grown hg8 (Nat.le_trans (Nat.le_trans HO.out.2.size B5.out.size) (Nat.le_trans B7.out.size (by simp))) (fun j hj => (HO.out.1.lt j hj).1)))); clear hown8))
              all_goals (go_wp2_with fail; go_meet; exact ⟨by rw [HY.out HOR.out]; exact HZ.out.1, HZ.out.2, s0, s1⟩)
            · have hX := fun W (hW : Below w5.heap.size w5 W) => Clone_any DX (p - I) HLX.out (Option.map (fun x => x.add I) A1) (c1 - I) W (HRX.out W (BW.out.trans (hW.mono BW.out.size))) (by have := HL.out.1; omega)
              have hCx := hX w5.drew ⟨rfl, rfl, rfl, Nat.le_refl _, fun _ _ => rfl⟩
              have hY := fun W (hW : Below w5.heap.size w5 W) => Clone_any DY (q - J) HLY.out (Option.map (fun x => x.add J) A2) (c2 - J) W (HRY.out W (BW.out.trans (hW.mono BW.out.size))) (by have := HL.out.2; omega)
              clear hr he hX hn
              go_region_held3 (fun w' => w'.cell? ⟨wo.heap.size, 0, none⟩ = some (.int .i64 (p : Nat)) ∧ w'.cell? ⟨wo.heap.size, 1, none⟩ = some (.int .i64 (q : Nat)))
                (first | (with_reducible exact ⟨f0, f1⟩) | (with_reducible exact ⟨e0, e1⟩) | (with_reducible exact ⟨g0, g1⟩) | (with_reducible exact ⟨h0, h1'⟩) | (with_reducible exact ⟨r0, r1⟩) | (with_reducible exact ⟨s0, s1⟩))
                (first
                  | ((with_reducible refine hCx.mono ?_); rintro e w6 ⟨v6, rfl, ho6, hb6⟩; obtain ⟨A6, d6, rfl, _⟩ := ho6.rd; replace hb6 : Below w5.heap.size w5 w6 := ⟨hb6.os, hb6.tape, hb6.output, hb6.size, hb6.block⟩; have g0 := (hb6.cell (p := ⟨wo.heap.size, 0, none⟩) l5).trans f0; have g1 := (hb6.cell (p := ⟨wo.heap.size, 1, none⟩) l5).trans f1; have l6 := Nat.lt_of_lt_of_le l5 hb6.size; have hCy := hY w6 hb6; have H6 := Lib.hid (And.intro ho6 hb6); clear ho6 hb6)
                  | ((with_reducible refine hCy.mono ?_); rintro e w7 ⟨v7, rfl, ho7, hb7⟩; obtain ⟨A7, d7, rfl, _⟩ := ho7.rd; have h0 := (hb7.cell (p := ⟨wo.heap.size, 0, none⟩) l6).trans g0; have h1' := (hb7.cell (p := ⟨wo.heap.size, 1, none⟩) l6).trans g1; have l7 := Nat.lt_of_lt_of_le l6 hb7.size; have B7 := Lib.hid (H6.out.2.trans (hb7.mono H6.out.2.size)); have hrow : RowsC w7 wc.heap.size u9 ⟨I, DX, DY⟩ (I, .slice A6 DX.length d6, .slice A7 DY.length d7) := ⟨rfl, (H6.out.1.below hb7 (Nat.le_refl _)).less (Nat.le_trans HO.out.2.size B5.out.size), ho7.less (Nat.le_trans (Nat.le_trans HO.out.2.size B5.out.size) H6.out.2.size), fun z hz => rows_ne (HO.out.1.lt z hz).2 (Nat.le_trans B5.out.size (Nat.le_refl _)) H6.out.1 ho7 H6.out.2.size⟩; have r0 := (World.cell?_of_block (a := ⟨wo.heap.size, 0, none⟩) (Below.heap_alloc w7 (.cells #[.int .i64 (I : Nat), .slice A6 DX.length d6, .slice A7 DY.length d7] 40) wo.heap.size l7)).trans h0; have r1 := (World.cell?_of_block (a := ⟨wo.heap.size, 1, none⟩) (Below.heap_alloc w7 (.cells #[.int .i64 (I : Nat), .slice A6 DX.length d6, .slice A7 DY.length d7] 40) wo.heap.size l7)).trans h1'; clear ho7 hb7)
                  | (have hz := l7; clear hz; (refine step_app_chg rfl (.tmp 51) (.tmp 66) rfl wc.heap.size u9 (WM.chgK X Y E n) rfl ((HO.out.1.below (B5.out.trans (B7.out.mono B5.out.size))).alloc _) _ ⟨I, DX, DY⟩ (.slice A6 DX.length d6) (.slice A7 DY.length d7) (hrow.alloc _) rfl ?_ (lits_chg w7 I (.slice A6 DX.length d6) (.slice A7 DY.length d7) _) HNL.out (Nat.le_trans (Nat.le_trans HO.out.2.size B5.out.size) (Nat.le_trans B7.out.size (by simp)))); intro v8 w8 hown8 hg8; have s0 := (World.cell?_of_block (a := ⟨wo.heap.size, 0, none⟩) (hg8.block wo.heap.size (Nat.lt_of_lt_of_le l7 (by simp)) (chg_ne HO.out.1))).trans r0; have s1 := (World.cell?_of_block (a := ⟨wo.heap.size, 1, none⟩) (hg8.block wo.heap.size (Nat.lt_of_lt_of_le l7 (by simp)) (chg_ne HO.out.1))).trans r1; have HZ := Lib.hid (And.intro hown8 ((((HO.out.2.trans ((B5.out.trans (B7.out.mono B5.out.size)).mono HO.out.2.size)).alloc (Nat.le_trans (Nat.le_trans HO.out.2.size B5.out.size) B7.out.size) _).grown hg8 (Nat.le_trans (Nat.le_trans HO.out.2.size B5.out.size) (Nat.le_trans B7.out.size (by simp))) (fun j hj => (HO.out.1.lt j hj).1)))); clear hown8))
              all_goals (go_wp2_with fail; go_meet; exact ⟨by rw [HY.out HOR.out]; exact HZ.out.1, HZ.out.2, s0, s1⟩)
          case rest =>
            obtain ⟨hown9, hb9, d0, d1⟩ := hcut
            have H9 := Lib.hid (And.intro hown9 hb9)
            clear hown9 hb9 f0 f1 e0 e1
            have hpb : (p : Int) ≤ 2000 := by have := HL.out.1; omega
            have hqb : (q : Int) ≤ 2000 := by have := HL.out.2; omega
            go_wp2_with fail
            go_quiet (fail)
            go_wp2_with fail
            exact ⟨⟨n + 1, by rw [HI.out.1]; simp, by rw [HI.out.2]; simp, by simp, by omega, H9.out.1.drewN _, below_drewN H9.out.2 _⟩, by simp [intOf]; omega⟩
        · by_cases h2 : J < q
          · obtain rfl : I = p := by omega
            have HOR := Lib.hid (show I < I ∨ J < q from .inr h2)
            go_wp2_with fail
            obtain ⟨w5, hw5⟩ : ∃ w5, wo.alloc (.cells #[.int .i64 (I : Nat), .int .i64 (q : Nat)] 50) = w5 := ⟨_, rfl⟩
            rw [hw5]
            have b5 : Below wo.heap.size wo w5 := by rw [← hw5]; exact (Below.refl _ _).alloc (Nat.le_refl _) _
            have hk5 : Blk w5 wo.heap.size 50 #[.int .i64 (I : Nat), .int .i64 (q : Nat)] := by rw [← hw5]; exact Blk.new wo _ _
            have l5 := hk5.lt
            have f0 : w5.cell? ⟨wo.heap.size, 0, none⟩ = some (.int .i64 (I : Nat)) := hk5.cell 0
            have f1 : w5.cell? ⟨wo.heap.size, 1, none⟩ = some (.int .i64 (q : Nat)) := hk5.cell 1
            have e0 : w5.drew.cell? ⟨wo.heap.size, 0, none⟩ = some (.int .i64 (I : Nat)) := f0
            have e1 : w5.drew.cell? ⟨wo.heap.size, 1, none⟩ = some (.int .i64 (q : Nat)) := f1
            have B5 := Lib.hid b5
            have BW := Lib.hid (show Below w1.heap.size w1 w5 from HB2.out.1.trans (((HE.out.2.1.trans ((HO.out.2.mono HE.out.2.1.size))).trans (b5.mono (Nat.le_trans HE.out.2.1.size HO.out.2.size))).mono HB2.out.1.size))
            clear hw5 b5 hk5 k0 k1
            go_cut [9] (fun s9 wx => OwnC wx wc.heap.size s9 (WM.chgK X Y E (n + 1)) ∧ Below wc.heap.size wc wx ∧ wx.cell? ⟨wo.heap.size, 0, none⟩ = some (.int .i64 (I : Nat)) ∧ wx.cell? ⟨wo.heap.size, 1, none⟩ = some (.int .i64 (q : Nat)))
            case first =>
              have hi1 : (I : Int) ≤ (I : Int) := by omega
              have hi2 : (I : Int) ≤ (c1 : Int) := by have := HC.out.1; omega
              have hj1 : (J : Int) ≤ (q : Int) := by omega
              have hj2 : (q : Int) ≤ (c2 : Int) := by have := HC.out.2; omega
              have HNL := Lib.hid (show (WM.chgK X Y E n).length ≤ 1000000000000 by have := WM.chg_len X Y E n; have := helen.out; have := HL.out.1; omega)
              have hnJ : ¬ c2 = J := by omega
              by_cases hnI : c1 = I
              · subst hnI
                have hX := fun W => Clone_any DX 0 (by rw [HLX.out]; omega) A1 0 W (RdO.none_ _ _ _ (by rw [HLX.out]; omega)) (by omega)
                have hCx := hX w5.drew
                have hY := fun W (hW : Below w5.heap.size w5 W) => Clone_any DY (q - J) HLY.out (Option.map (fun x => x.add J) A2) (c2 - J) W (HRY.out W (BW.out.trans (hW.mono BW.out.size))) (by have := HL.out.2; omega)
                clear hr he hX hn hi1 hi2
                go_region_held3 (fun w' => w'.cell? ⟨wo.heap.size, 0, none⟩ = some (.int .i64 (c1 : Nat)) ∧ w'.cell? ⟨wo.heap.size, 1, none⟩ = some (.int .i64 (q : Nat)))
                  (first | (with_reducible exact ⟨f0, f1⟩) | (with_reducible exact ⟨e0, e1⟩) | (with_reducible exact ⟨g0, g1⟩) | (with_reducible exact ⟨h0, h1'⟩) | (with_reducible exact ⟨r0, r1⟩) | (with_reducible exact ⟨s0, s1⟩))
                  (first
                    | ((with_reducible refine hCx.mono ?_); rintro e w6 ⟨v6, rfl, ho6, hb6⟩; obtain ⟨A6, d6, rfl, _⟩ := ho6.rd; replace hb6 : Below w5.heap.size w5 w6 := ⟨hb6.os, hb6.tape, hb6.output, hb6.size, hb6.block⟩; have g0 := (hb6.cell (p := ⟨wo.heap.size, 0, none⟩) l5).trans f0; have g1 := (hb6.cell (p := ⟨wo.heap.size, 1, none⟩) l5).trans f1; have l6 := Nat.lt_of_lt_of_le l5 hb6.size; have hCy := hY w6 hb6; have H6 := Lib.hid (And.intro ho6 hb6); clear ho6 hb6)
                    | ((with_reducible refine hCy.mono ?_); rintro e w7 ⟨v7, rfl, ho7, hb7⟩; obtain ⟨A7, d7, rfl, _⟩ := ho7.rd; have h0 := (hb7.cell (p := ⟨wo.heap.size, 0, none⟩) l6).trans g0; have h1' := (hb7.cell (p := ⟨wo.heap.size, 1, none⟩) l6).trans g1; have l7 := Nat.lt_of_lt_of_le l6 hb7.size; have B7 := Lib.hid (H6.out.2.trans (hb7.mono H6.out.2.size)); have hrow : RowsC w7 wc.heap.size u9 ⟨c1, DX, DY⟩ (c1, .slice A6 DX.length d6, .slice A7 DY.length d7) := ⟨rfl, (H6.out.1.below hb7 (Nat.le_refl _)).less (Nat.le_trans HO.out.2.size B5.out.size), ho7.less (Nat.le_trans (Nat.le_trans HO.out.2.size B5.out.size) H6.out.2.size), fun z hz => rows_ne (HO.out.1.lt z hz).2 (Nat.le_trans B5.out.size (Nat.le_refl _)) H6.out.1 ho7 H6.out.2.size⟩; have r0 := (World.cell?_of_block (a := ⟨wo.heap.size, 0, none⟩) (Below.heap_alloc w7 (.cells #[.int .i64 (c1 : Nat), .slice A6 DX.length d6, .slice A7 DY.length d7] 40) wo.heap.size l7)).trans h0; have r1 := (World.cell?_of_block (a := ⟨wo.heap.size, 1, none⟩) (Below.heap_alloc w7 (.cells #[.int .i64 (c1 : Nat), .slice A6 DX.length d6, .slice A7 DY.length d7] 40) wo.heap.size l7)).trans h1'; clear ho7 hb7)
                    | (have hz := l7; clear hz; (refine step_app_chg rfl (.tmp 51) (.tmp 66) rfl wc.heap.size u9 (WM.chgK X Y E n) rfl ((HO.out.1.below (B5.out.trans (B7.out.mono B5.out.size))).alloc _) _ ⟨c1, DX, DY⟩ (.slice A6 DX.length d6) (.slice A7 DY.length d7) (hrow.alloc _) rfl ?_ (lits_chg w7 c1 (.slice A6 DX.length d6) (.slice A7 DY.length d7) _) HNL.out (Nat.le_trans (Nat.le_trans HO.out.2.size B5.out.size) (Nat.le_trans B7.out.size (by simp)))); intro v8 w8 hown8 hg8; have s0 := (World.cell?_of_block (a := ⟨wo.heap.size, 0, none⟩) (hg8.block wo.heap.size (Nat.lt_of_lt_of_le l7 (by simp)) (chg_ne HO.out.1))).trans r0; have s1 := (World.cell?_of_block (a := ⟨wo.heap.size, 1, none⟩) (hg8.block wo.heap.size (Nat.lt_of_lt_of_le l7 (by simp)) (chg_ne HO.out.1))).trans r1; have HZ := Lib.hid (And.intro hown8 ((((HO.out.2.trans ((B5.out.trans (B7.out.mono B5.out.size)).mono HO.out.2.size)).alloc (Nat.le_trans (Nat.le_trans HO.out.2.size B5.out.size) B7.out.size) _).grown hg8 (Nat.le_trans (Nat.le_trans HO.out.2.size B5.out.size) (Nat.le_trans B7.out.size (by simp))) (fun j hj => (HO.out.1.lt j hj).1)))); clear hown8))
                all_goals (go_wp2_with fail; go_meet; exact ⟨by rw [HY.out HOR.out]; exact HZ.out.1, HZ.out.2, s0, s1⟩)
              · have hX := fun W (hW : Below w5.heap.size w5 W) => Clone_any DX 0 (by rw [HLX.out]; omega) (Option.map (fun x => x.add I) A1) (c1 - I) W (RdO.none_ _ _ _ (by rw [HLX.out]; omega)) (by omega)
                have hCx := hX w5.drew ⟨rfl, rfl, rfl, Nat.le_refl _, fun _ _ => rfl⟩
                have hY := fun W (hW : Below w5.heap.size w5 W) => Clone_any DY (q - J) HLY.out (Option.map (fun x => x.add J) A2) (c2 - J) W (HRY.out W (BW.out.trans (hW.mono BW.out.size))) (by have := HL.out.2; omega)
                clear hr he hX hn
                go_region_held3 (fun w' => w'.cell? ⟨wo.heap.size, 0, none⟩ = some (.int .i64 (I : Nat)) ∧ w'.cell? ⟨wo.heap.size, 1, none⟩ = some (.int .i64 (q : Nat)))
                  (first | (with_reducible exact ⟨f0, f1⟩) | (with_reducible exact ⟨e0, e1⟩) | (with_reducible exact ⟨g0, g1⟩) | (with_reducible exact ⟨h0, h1'⟩) | (with_reducible exact ⟨r0, r1⟩) | (with_reducible exact ⟨s0, s1⟩))
                  (first
                    | ((with_reducible refine hCx.mono ?_); rintro e w6 ⟨v6, rfl, ho6, hb6⟩; obtain ⟨A6, d6, rfl, _⟩ := ho6.rd; replace hb6 : Below w5.heap.size w5 w6 := ⟨hb6.os, hb6.tape, hb6.output, hb6.size, hb6.block⟩; have g0 := (hb6.cell (p := ⟨wo.heap.size, 0, none⟩) l5).trans f0; have g1 := (hb6.cell (p := ⟨wo.heap.size, 1, none⟩) l5).trans f1; have l6 := Nat.lt_of_lt_of_le l5 hb6.size; have hCy := hY w6 hb6; have H6 := Lib.hid (And.intro ho6 hb6); clear ho6 hb6)
                    | ((with_reducible refine hCy.mono ?_); rintro e w7 ⟨v7, rfl, ho7, hb7⟩; obtain ⟨A7, d7, rfl, _⟩ := ho7.rd; have h0 := (hb7.cell (p := ⟨wo.heap.size, 0, none⟩) l6).trans g0; have h1' := (hb7.cell (p := ⟨wo.heap.size, 1, none⟩) l6).trans g1; have l7 := Nat.lt_of_lt_of_le l6 hb7.size; have B7 := Lib.hid (H6.out.2.trans (hb7.mono H6.out.2.size)); have hrow : RowsC w7 wc.heap.size u9 ⟨I, DX, DY⟩ (I, .slice A6 DX.length d6, .slice A7 DY.length d7) := ⟨rfl, (H6.out.1.below hb7 (Nat.le_refl _)).less (Nat.le_trans HO.out.2.size B5.out.size), ho7.less (Nat.le_trans (Nat.le_trans HO.out.2.size B5.out.size) H6.out.2.size), fun z hz => rows_ne (HO.out.1.lt z hz).2 (Nat.le_trans B5.out.size (Nat.le_refl _)) H6.out.1 ho7 H6.out.2.size⟩; have r0 := (World.cell?_of_block (a := ⟨wo.heap.size, 0, none⟩) (Below.heap_alloc w7 (.cells #[.int .i64 (I : Nat), .slice A6 DX.length d6, .slice A7 DY.length d7] 40) wo.heap.size l7)).trans h0; have r1 := (World.cell?_of_block (a := ⟨wo.heap.size, 1, none⟩) (Below.heap_alloc w7 (.cells #[.int .i64 (I : Nat), .slice A6 DX.length d6, .slice A7 DY.length d7] 40) wo.heap.size l7)).trans h1'; clear ho7 hb7)
                    | (have hz := l7; clear hz; (refine step_app_chg rfl (.tmp 51) (.tmp 66) rfl wc.heap.size u9 (WM.chgK X Y E n) rfl ((HO.out.1.below (B5.out.trans (B7.out.mono B5.out.size))).alloc _) _ ⟨I, DX, DY⟩ (.slice A6 DX.length d6) (.slice A7 DY.length d7) (hrow.alloc _) rfl ?_ (lits_chg w7 I (.slice A6 DX.length d6) (.slice A7 DY.length d7) _) HNL.out (Nat.le_trans (Nat.le_trans HO.out.2.size B5.out.size) (Nat.le_trans B7.out.size (by simp)))); intro v8 w8 hown8 hg8; have s0 := (World.cell?_of_block (a := ⟨wo.heap.size, 0, none⟩) (hg8.block wo.heap.size (Nat.lt_of_lt_of_le l7 (by simp)) (chg_ne HO.out.1))).trans r0; have s1 := (World.cell?_of_block (a := ⟨wo.heap.size, 1, none⟩) (hg8.block wo.heap.size (Nat.lt_of_lt_of_le l7 (by simp)) (chg_ne HO.out.1))).trans r1; have HZ := Lib.hid (And.intro hown8 ((((HO.out.2.trans ((B5.out.trans (B7.out.mono B5.out.size)).mono HO.out.2.size)).alloc (Nat.le_trans (Nat.le_trans HO.out.2.size B5.out.size) B7.out.size) _).grown hg8 (Nat.le_trans (Nat.le_trans HO.out.2.size B5.out.size) (Nat.le_trans B7.out.size (by simp))) (fun j hj => (HO.out.1.lt j hj).1)))); clear hown8))
                all_goals (go_wp2_with fail; go_meet; exact ⟨by rw [HY.out HOR.out]; exact HZ.out.1, HZ.out.2, s0, s1⟩)
            case rest =>
              obtain ⟨hown9, hb9, d0, d1⟩ := hcut
              have H9 := Lib.hid (And.intro hown9 hb9)
              clear hown9 hb9 f0 f1 e0 e1
              have hpb : (I : Int) ≤ 2000 := by have := HL.out.1; omega
              have hqb : (q : Int) ≤ 2000 := by have := HL.out.2; omega
              go_wp2_with fail
              go_quiet (fail)
              go_wp2_with fail
              exact ⟨⟨n + 1, by rw [HI.out.1]; simp, by rw [HI.out.2]; simp, by simp, by omega, H9.out.1.drewN _, below_drewN H9.out.2 _⟩, by simp [intOf]; omega⟩
          · obtain rfl : I = p := by omega
            obtain rfl : J = q := by omega
            have HM := Lib.hid (HN.out (by omega))
            go_wp2_with fail
            obtain ⟨w5, hw5⟩ : ∃ w5, wo.alloc (.cells #[.int .i64 (I : Nat), .int .i64 (J : Nat)] 50) = w5 := ⟨_, rfl⟩
            rw [hw5]
            have hk5 : Blk w5 wo.heap.size 50 #[.int .i64 (I : Nat), .int .i64 (J : Nat)] := by rw [← hw5]; exact Blk.new wo _ _
            have d0 : w5.cell? ⟨wo.heap.size, 0, none⟩ = some (.int .i64 (I : Nat)) := hk5.cell 0
            have d1 : w5.cell? ⟨wo.heap.size, 1, none⟩ = some (.int .i64 (J : Nat)) := hk5.cell 1
            have H9 := Lib.hid (show OwnC w5 wc.heap.size u9 (WM.chgK X Y E n) ∧ Below wc.heap.size wc w5 by rw [← hw5]; exact ⟨HO.out.1.alloc _, HO.out.2.alloc HO.out.2.size _⟩)
            clear hw5 hk5 k0 k1
            have hpb : (I : Int) ≤ 2000 := by have := HL.out.1; omega
            have hqb : (J : Int) ≤ 2000 := by have := HL.out.2; omega
            go_wp2_with fail
            go_quiet (fail)
            go_wp2_with fail
            exact ⟨⟨n + 1, by rw [HI.out.1]; simp, by rw [HI.out.2]; simp, by simp, by omega, by rw [HM.out]; exact H9.out.1.drewN _, below_drewN H9.out.2 _⟩, by simp [intOf]; omega⟩
      · obtain rfl : n = E.length := by omega
        have HO := Lib.hid (And.intro hown hbw)
        obtain ⟨A9, c9, rfl, _, _⟩ := hown.form
        clear hown hbw
        go_wp2_with fail
        exact bodyPost_ret (v := .tuple #[.slice A9 (WM.chgK X Y E E.length).length c9, .int .i64 0]) (by simp [results, Tryd.results6, go_sem]) rfl ⟨_, rfl, by rw [HD.out]; exact HO.out.1.less (Nat.le_trans HB.out.size (Nat.le_trans HB2.out.1.size HE.out.2.1.size)), HB.out.trans ((HB2.out.1.trans ((HE.out.2.1.trans (HO.out.2.mono HE.out.2.1.size)).mono HB2.out.1.size)).mono HB.out.size)⟩
end Go.Proofs.YtmkbfnghkcjogaaDoor
