/- Contracts of privilege.Without. -/
import Derived.Test.YtflilepmhidndaaDoorUnion
import Derived.Maps.AppendAt
namespace Go.Proofs.YtflilepmhidndaaDoor
open Go.RowKit

/-- append of a span that was just laid; where the row lies then -/
theorem app_spW {ops : Array Oper} {rest : List Oper} {o : Oper} {a : Act} {Q : Exit → Act → World → Prop} (w : World) (hgd : o.guard = none) (sl x : Operand)
    (ho : o.op = .call { callee := .builtin .append, args := #[sl, x], argTypes := #[30, 30] }) (base : Nat) (v : Value) (L : List (Int × Int)) (hs : a.eval sl = v) (hown : OwnI w base v L) (ad : Addr) (p q : Int) (hx : a.eval x = .slice (some ad) 1 1)
    (h : ∀ v' w', OwnI w' base v' (L ++ [(p, q)]) → w.grownBy w' v.ownBlock → (v'.ownBlock = v.ownBlock ∨ v'.ownBlock = some w.heap.size) → wpList Tryd.prog ops Q rest (a.put o.dst v') w')
    (hnews : ∀ j u, [Value.int .i64 p, Value.int .i64 q][j]? = some u → w.cell? (ad.add j) = some u) (hb : L.length ≤ 1000000000000) (hbase : base ≤ w.heap.size) : wpList Tryd.prog ops Q (o :: rest) a w := by
  obtain ⟨i0, hi, hz0, hz1, hz2⟩ := info_parts info_spi
  refine wpList_append_own_at w hgd sl x _ ho base 38 i0 _ 2 16 Tryd.underlying30 hi hz0 hz1 hz2 rfl (by omega) v L.length (icells L) hs hown ad 1 1 [Value.int .i64 p, Value.int .i64 q] hx rfl hnews ?_ (by unfold maxLen; omega) (by omega) hbase ?_
  · intro u hu
    simp at hu
    rcases hu with rfl | rfl <;> rfl
  intro v' w' h1 h2 _ h4
  refine h v' w' ?_ h2 h4
  unfold OwnI
  rw [icells_append, List.length_append]
  exact h1
/-- a box beside a row that grows -/
def Box (w : World) (v : Value) (bx : Nat) (p q : Int) : Prop := Blk w bx 38 #[.int .i64 p, .int .i64 q] ∧ v.ownBlock ≠ some bx
theorem Box.cell {w : World} {v : Value} {bx : Nat} {p q : Int} (h : Box w v bx p q) : w.cell? ⟨bx, 0, none⟩ = some (.int .i64 p) ∧ w.cell? ⟨bx, 1, none⟩ = some (.int .i64 q) := ⟨by rw [h.1.cell 0]; rfl, by rw [h.1.cell 1]; rfl⟩
theorem Box.alloc {w : World} {v : Value} {bx : Nat} {p q : Int} (h : Box w v bx p q) (o : Obj) : Box (w.alloc o) v bx p q := ⟨h.1.alloc o, h.2⟩
theorem Box.new {w : World} {base : Nat} {v : Value} {L : List (Int × Int)} (h : OwnI w base v L) (p q : Int) : Box (w.alloc (.cells #[.int .i64 p, .int .i64 q] 38)) v w.heap.size p q :=
  ⟨Blk.new w _ _, fun e => by have := (h.lt _ e).2; omega⟩
theorem Box.grown {w w' : World} {v v' : Value} {bx : Nat} {p q : Int} (h : Box w v bx p q) (hg : w.grownBy w' v.ownBlock) (h4 : v'.ownBlock = v.ownBlock ∨ v'.ownBlock = some w.heap.size) : Box w' v' bx p q := by
  refine ⟨h.1.grown hg (fun e => h.2 e.symm), fun e => ?_⟩
  have hlt := h.1.lt
  rcases h4 with h4 | h4
  · exact h.2 (h4.symm.trans e)
  · rw [h4] at e; injection e with e; omega
def WtRel (w : World) (X Y : List (Int × Int)) (v i : Value) (wr : World) : Prop := ∃ (k : Nat) (A : List (Int × Int)), i = .int .i64 k ∧ k ≤ X.length ∧ Hid (WM.WoD (X.take k) Y A) ∧ OwnI wr w.heap.size v A ∧ Below w.heap.size w wr
def WtIn (w : World) (X Y : List (Int × Int)) (k bx : Nat) (p q : Int) (v f i : Value) (wr : World) : Prop := ∃ (j : Nat) (A : List (Int × Int)) (z : Int), i = .int .i64 j ∧ f = .int .i64 z ∧ j ≤ Y.length ∧ Hid (WM.Wo (X.take k) Y (Y.take j) (p, q) z A) ∧ OwnI wr w.heap.size v A ∧ Below w.heap.size w wr ∧ Box wr v bx p q
theorem sep_take {L : List (Int × Int)} {k : Nat} {x : Int × Int} (h : WM.sep L) (hx : L[k]? = some x) : x.1 < x.2 ∧ ∀ t, t ∈ L.take k → t.2 < x.1 := by
  have e : L.take k ++ x :: L.drop (k + 1) = L := by rw [← drop_at hx, List.take_append_drop]
  rw [← e] at h
  have := WM.sep_mid h
  exact ⟨this.1, this.2.1⟩
theorem wo_len {X Y T A : List (Int × Int)} {s : Int × Int} {z : Int} {k : Nat} (h : WM.Wo (X.take k) Y T s z A) (hX : X.length ≤ 1000) (hY : Y.length ≤ 1000) (hT : T.length ≤ 1000) : A.length ≤ 1000000000000 := by
  have h1 := h.len
  have h2 : (X.take k).length ≤ 1000 := by rw [List.length_take]; omega
  have h3 := Nat.mul_le_mul h2 (show Y.length + 1 ≤ 1001 by omega)
  omega
set_option maxHeartbeats 4000000 in
theorem Without_bad {w : World} {b1 b2 : Nat} {v1 v2 : Value} {X Y : List (Int × Int)} (h1 : OwnI w b1 v1 X) (h2 : OwnI w b2 v2 Y) (z c : Int) (hc : WM.orC (WM.spFault z X) (WM.spFault z Y) = c) (h0 : c ≠ 0) : Calls Tryd.prog 12 #[v1, v2, .int .i64 z] w (SpSays [] c w) := by
  have hA := checkBoth_any h1 h2 z
  rw [hc] at hA
  have e1 : (c != 0) = true := bne_iff_ne.2 h0
  clear h1 h2 hc h0
  go_enter Tryd.func12, Tryd.ntmps12
  go_wp2_with fail
  refine hA.mono ?_
  rintro e w1 ⟨rfl, hb1⟩
  have HB := Lib.hid hb1
  clear hA hb1
  go_wp2_with fail
  go_ret2
  exact ⟨.slice none 0 0, rfl, OwnI.nil _ _, HB.out⟩
set_option maxHeartbeats 16000000 in
set_option maxRecDepth 100000 in
theorem Without_ok {w : World} {b1 b2 : Nat} {v1 v2 : Value} {X Y : List (Int × Int)} (h1 : OwnI w b1 v1 X) (h2 : OwnI w b2 v2 Y) (z : Int) (hX : WM.spFault z X = 0) (hY : WM.spFault z Y = 0) : Calls Tryd.prog 12 #[v1, v2, .int .i64 z] w (MixSays (fun i => WM.cov X i ∧ ¬ WM.cov Y i) w) := by
  have hA := checkBoth_any h1 h2 z
  rw [hX, hY] at hA
  obtain ⟨-, -, x1, x2, -⟩ := WM.spFault_ok hX
  obtain ⟨-, -, y1, y2, -⟩ := WM.spFault_ok hY
  obtain ⟨A1, c1, rfl, hl1, hf1⟩ := h1.form
  obtain ⟨A2, c2, rfl, hl2, hf2⟩ := h2.form
  have HL := Lib.hid (And.intro x1 y1)
  have HS := Lib.hid (And.intro x2 y2)
  have e0 : WM.orC 0 0 = 0 := rfl
  rw [e0] at hA
  clear h1 h2 hX hY x1 x2 y1 y2
  go_enter Tryd.func12, Tryd.ntmps12
  go_wp2_with fail
  refine hA.mono ?_
  rintro e w1 ⟨rfl, hb1⟩
  have HB1 := Lib.hid hb1
  clear hA hb1
  go_wp2_with fail
  go_loopw [9, 24] (fun v i wr => WtRel w X Y v i wr) (fun _ i _ => X.length - (intOf i).toNat)
  case atStart => exact ⟨0, [], rfl, Nat.zero_le _, Lib.hid (WM.WoD.start Y), OwnI.nil _ _, HB1.out⟩
  case round =>
    obtain ⟨k, A, rfl, hk, HD, ho, hbw⟩ := hrel
    have hsz := hbw.size
    by_cases hlt : k < X.length
    · obtain ⟨g, rfl, hg1, hg2, hfz, hcs⟩ := hf1 (by omega)
      have hx := List.getElem?_eq_getElem hlt
      generalize X[k] = x at hx
      obtain ⟨p, q⟩ := x
      obtain ⟨hc1, hc2⟩ := hcs k _ hx
      have hd1 := (hbw.cell (p := ⟨g, k * 2, none⟩) hg2).trans hc1
      have hd2 := (hbw.cell (p := ⟨g, k * 2 + 1, none⟩) hg2).trans hc2
      simp only at hd1 hd2
      have hst := sep_take HS.out.1 hx
      have HTK := Lib.hid (take_atI hx)
      have HPQ := Lib.hid hst
      have HO := Lib.hid (And.intro (ho.alloc (.cells #[.int .i64 p, .int .i64 q] 38)) (And.intro (hbw.alloc hsz (.cells #[.int .i64 p, .int .i64 q] 38)) (Box.new ho p q)))
      have HW := Lib.hid (WM.Wo.start HD.out hst.1 hst.2)
      clear hx hc1 hc2 hbw hcs hf1 hfz ho hst
      go_wp2_with fail
      go_loopw [9, 12, 32] (fun v f i wr2 => WtIn w X Y k wr.heap.size p q v f i wr2) (fun _ _ i _ => Y.length - (intOf i).toNat)
      case atStart => exact ⟨0, A, p, rfl, rfl, Nat.zero_le _, HW, HO.out.1, HO.out.2.1, HO.out.2.2⟩
      case round =>
        obtain ⟨j, M, f, rfl, rfl, hj, HI, ho, hbw, hbx⟩ := hrel
        clear HO HW hd1 hd2
        have hsz2 := hbw.size
        obtain ⟨A9, c9, rfl, -, -⟩ := ho.form
        have e0 := hbx.cell.1
        have e1 := hbx.cell.2
        have hbl := hbx.1.lt
        have e2 : ∀ o, (wr.alloc o).cell? ⟨_, 1, none⟩ = some (.int .i64 q) := fun o => (hbx.alloc o).cell.2
        by_cases hjl : j < Y.length
        · obtain ⟨g2, rfl, hg21, hg22, hfz2, hcs2⟩ := hf2 (by omega)
          have hy := List.getElem?_eq_getElem hjl
          generalize Y[j] = y at hy
          obtain ⟨r, s⟩ := y
          obtain ⟨hc1, hc2⟩ := hcs2 j _ hy
          have hd1 := (hbw.cell (p := ⟨g2, j * 2, none⟩) hg22).trans hc1
          have hd2 := (hbw.cell (p := ⟨g2, j * 2 + 1, none⟩) hg22).trans hc2
          simp only at hd1 hd2
          have hsy := sep_take HS.out.2 hy
          have HTJ := Lib.hid (take_atI hy)
          have HO := Lib.hid (And.intro ho (And.intro hbw hbx))
          have HML := Lib.hid (wo_len HI.out HL.out.1 HL.out.2 (by rw [List.length_take]; have := HL.out; omega))
          have HSY := Lib.hid hsy
          clear hy hc1 hc2 hcs2 hf2 hfz2 hsy ho hbw hbx
          by_cases a1 : s ≤ f
          · have HN := Lib.hid (HI.out.skip (t := (r, s)) (.inl a1) HSY.out.2 HSY.out.1)
            rw [← HTJ.out] at HN
            go_wp2_with fail
            exact ⟨⟨j + 1, M, f, by simp, rfl, by omega, HN, HO.out.1.alloc _, HO.out.2.1.alloc hsz2 _, HO.out.2.2.alloc _⟩, by simp [intOf]; omega⟩
          by_cases a2 : q ≤ r
          · have HN := Lib.hid (HI.out.skip (t := (r, s)) (.inr a2) HSY.out.2 HSY.out.1)
            rw [← HTJ.out] at HN
            go_wp2_with fail
            exact ⟨⟨j + 1, M, f, by simp, rfl, by omega, HN, HO.out.1.alloc _, HO.out.2.1.alloc hsz2 _, HO.out.2.2.alloc _⟩, by simp [intOf]; omega⟩
          by_cases a3 : f < r
          · have HN := Lib.hid (HI.out.cut (t := (r, s)) a3 HSY.out.1 (by dsimp only; omega))
            rw [← HTJ.out] at HN
            go_wp2_with (at_builtin; refine app_spW _ rfl (.tmp 51) (.tmp 56) rfl w.heap.size _ M rfl ((HO.out.1.alloc _).alloc _) _ f r rfl ?_ (lits_spA _ f r _ _ (by simp)) HML.out ?d2; intro v4 w4 ho4 hg4 hw4; have hib := (((Box.new HO.out.1 r s).alloc _).grown hg4 hw4).cell.2; have HO4 := Lib.hid (And.intro ho4 (And.intro hg4 hw4)); clear ho4 hg4 hw4)
            case d2 => first | omega | (simp; omega)
            exact ⟨⟨j + 1, _, s, by simp, rfl, by omega, HN, HO4.out.1, below_grownI ((HO.out.2.1.alloc hsz2 _).alloc (by simp; omega) _) ((HO.out.1.alloc _).alloc _) HO4.out.2.1 (by simp; omega), ((HO.out.2.2.alloc _).alloc _).grown HO4.out.2.1 HO4.out.2.2⟩, by simp [intOf]; omega⟩
          · have HN := Lib.hid (HI.out.jump (t := (r, s)) (by dsimp only; omega) (by dsimp only; omega) (by dsimp only; omega) HSY.out.2)
            rw [← HTJ.out] at HN
            go_wp2_with fail
            exact ⟨⟨j + 1, M, s, by simp, rfl, by omega, HN, HO.out.1.alloc _, HO.out.2.1.alloc hsz2 _, HO.out.2.2.alloc _⟩, by simp [intOf]; omega⟩
        · obtain rfl : j = Y.length := by omega
          have HI2 := Lib.hid (show WM.Wo (X.take k) Y Y (p, q) f M by have := HI.out; rwa [List.take_length] at this)
          have HO := Lib.hid (And.intro ho (And.intro hbw hbx))
          have HML := Lib.hid (wo_len HI2.out HL.out.1 HL.out.2 HL.out.2)
          clear ho hbw hbx hf2 HI
          by_cases a1 : f < q
          · have HN := Lib.hid (HI2.out.rest a1)
            rw [← HTK.out] at HN
            go_wp2_with (at_builtin; refine app_spW _ rfl (.tmp 65) (.tmp 70) rfl w.heap.size _ M rfl (HO.out.1.alloc _) _ f q rfl ?_ (lits_sp _ f q _) HML.out ?d2; intro v4 w4 ho4 hg4 hw4; have HO4 := Lib.hid (And.intro ho4 (And.intro hg4 hw4)); clear ho4 hg4 hw4)
            case d2 => first | omega | (simp; omega)
            exact ⟨⟨k + 1, _, by simp, by omega, HN, HO4.out.1, below_grownI (HO.out.2.1.alloc hsz2 _) (HO.out.1.alloc _) HO4.out.2.1 (by simp; omega)⟩, by simp [intOf]; omega⟩
          · have HN := Lib.hid (HI2.out.done (by dsimp only; omega))
            rw [← HTK.out] at HN
            go_wp2_with fail
            exact ⟨⟨k + 1, M, by simp, by omega, HN, HO.out.1, HO.out.2.1⟩, by simp [intOf]; omega⟩
    · obtain rfl : k = X.length := by omega
      have hBn := bounded_any ho
      obtain ⟨A9, c9, rfl, -, -⟩ := ho.form
      have HD2 := Lib.hid (show WM.WoD X Y A by have := HD.out; rwa [List.take_length] at this)
      have HB := Lib.hid hbw
      clear ho hbw hf1 hf2 HD
      go_wp2_with fail
      refine hBn.mono ?_
      rintro e w5 ⟨v6, rfl, ho6, rfl⟩
      have HO6 := Lib.hid ho6
      clear hBn ho6
      go_wp2_with fail
      go_ret2
      exact ⟨A, HD2.out.sep, HD2.out.cov, v6, rfl, HO6.out, HB.out⟩
end Go.Proofs.YtflilepmhidndaaDoor
