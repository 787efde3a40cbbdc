/- Rows of words with their places (api.Word) of the call's own; the contract of query.Words. -/
import Derived.Test.YtdmgfkgfcofmhaaDoorSpRow
import Derived.Test.YtdmgfkgfcofmhaaDoorSmall
import Derived.Test.YtdmgfkgfcofmhaaDoorWordB
import Derived.Test.YtdmgfkgfcofmhaaDoorSpApp
namespace WM
/-- the words of the first k bytes (and of the byte behind them): where the last begins, and all -/
def qw (l : List UInt8) : Nat → Nat × List (Nat × Nat)
  | 0 => (0, [])
  | k + 1 => if decide (k < l.length) && wordB (l.getD k 0) then qw l k else (k + 1, if (qw l k).1 < k then (qw l k).2 ++ [((qw l k).1, k)] else (qw l k).2)
theorem qw_le (l : List UInt8) : ∀ k, (qw l k).1 ≤ k ∧ (qw l k).2.length ≤ k
  | 0 => ⟨Nat.le_refl _, Nat.le_refl _⟩
  | k + 1 => by
    have := qw_le l k
    unfold qw
    split
    · omega
    · refine ⟨Nat.le_refl _, ?_⟩
      split
      · rw [List.length_append]; show _ + 1 ≤ _; omega
      · exact Nat.le_succ_of_le this.2
theorem qw_in {l : List UInt8} {k : Nat} (h1 : k < l.length) (h2 : wordB (l.getD k 0) = true) : qw l (k + 1) = qw l k := by
  simp only [qw]; rw [decide_eq_true h1, h2]; rfl
theorem qw_out {l : List UInt8} {k : Nat} (h : (decide (k < l.length) && wordB (l.getD k 0)) = false) : qw l (k + 1) = (k + 1, if (qw l k).1 < k then (qw l k).2 ++ [((qw l k).1, k)] else (qw l k).2) := by
  simp only [qw]; rw [h]; rfl
/-- a word with its place -/
def wordAt (s : ByteArray) (x : Nat × Nat) : Int × Int × ByteArray := (x.1, x.2, s.extract x.1 x.2)
/-- the words of a string -/
def qwords (s : ByteArray) : List (Int × Int × ByteArray) := (qw s.data.toList (s.size + 1)).2.map (wordAt (small s))
end WM
namespace Go.Proofs.YtdmgfkgfcofmhaaDoor
open Go.RowKit

def wcells (L : List (Int × Int × ByteArray)) : List Value := L.flatMap fun x => [Value.int .i64 x.1, Value.int .i64 x.2.1, Value.string x.2.2]
theorem wcells_len (L : List (Int × Int × ByteArray)) : (wcells L).length = L.length * 3 := by
  induction L with
  | nil => rfl
  | cons x t ih => simp [wcells, List.flatMap_cons] at ih ⊢; omega
theorem wcells_append (K L : List (Int × Int × ByteArray)) : wcells (K ++ L) = wcells K ++ wcells L := by simp [wcells]
theorem wcells_cons (x : Int × Int × ByteArray) (L : List (Int × Int × ByteArray)) : wcells (x :: L) = Value.int .i64 x.1 :: Value.int .i64 x.2.1 :: Value.string x.2.2 :: wcells L := by simp [wcells]
theorem wcells_at : ∀ (L : List (Int × Int × ByteArray)) (i : Nat) (x : Int × Int × ByteArray), L[i]? = some x → (wcells L)[i * 3]? = some (Value.int .i64 x.1) ∧ (wcells L)[i * 3 + 1]? = some (Value.int .i64 x.2.1) ∧ (wcells L)[i * 3 + 2]? = some (Value.string x.2.2)
  | [], i, x, h => by simp at h
  | y :: t, 0, x, h => by
    simp at h
    subst h
    simp [wcells]
  | y :: t, i + 1, x, h => by
    have ih := wcells_at t i x (by simpa using h)
    rw [wcells_cons, show (i + 1) * 3 = i * 3 + 1 + 1 + 1 by omega, show i * 3 + 1 + 1 + 1 + 1 = (i * 3 + 1) + 1 + 1 + 1 by omega, show i * 3 + 1 + 1 + 1 + 2 = (i * 3 + 2) + 1 + 1 + 1 by omega]
    simpa using ih
/-- v is a row of the words L in a block from base on -/
def OwnW (w : World) (base : Nat) (v : Value) (L : List (Int × Int × ByteArray)) : Prop := w.ownsRow base 59 3 v L.length (wcells L)
theorem info_wd : (Tryd.prog.info? 59).map (fun i => (i.zero, i.size, i.bytes)) = some (some (.agg #[.int .i64 0, .int .i64 0, .string ⟨#[]⟩]), 3, 32) := by kernel_rfl
section
variable {w w' : World} {base : Nat} {v : Value} {L : List (Int × Int × ByteArray)}
theorem OwnW.lt (h : OwnW w base v L) : ∀ k, v.ownBlock = some k → base ≤ k ∧ k < w.heap.size := fun k hk => World.ownsRow.lt h k hk
theorem OwnW.base_le (h : OwnW w base v L) : ∀ k, v.ownBlock = some k → base ≤ k := fun k hk => (h.lt k hk).1
theorem OwnW.alloc (h : OwnW w base v L) (o : Obj) : OwnW (w.alloc o) base v L := World.ownsRow.alloc h o
theorem OwnW.nil (w : World) (base : Nat) : OwnW w base (.slice none 0 0) [] := ⟨rfl, .inl ⟨rfl, rfl⟩⟩
theorem OwnW.drewN (h : OwnW w base v L) (n : Nat) : OwnW (w.drewN n) base v L := h
theorem OwnW.below (h : OwnW w base v L) (hb : Below w.heap.size w w') : OwnW w' base v L := by
  refine ⟨h.1, ?_⟩
  rcases h.2 with h2 | ⟨g, cap, cur, rfl, hg, hh, r⟩
  · exact .inl h2
  · exact .inr ⟨g, cap, cur, rfl, hg, (hb.block g (h.lt g (by simp [Value.ownBlock])).2).trans hh, r⟩
theorem OwnW.less {b' : Nat} (h : OwnW w base v L) (hB : b' ≤ base) : OwnW w b' v L := by
  refine ⟨h.1, ?_⟩
  rcases h.2 with h2 | ⟨g, cap, cur, rfl, hg, r⟩
  · exact .inl h2
  · exact .inr ⟨g, cap, cur, rfl, by omega, r⟩
theorem OwnW.grown {row : Option Nat} (h : OwnW w base v L) (hg : w.grownBy w' row) (hr : ∀ k, v.ownBlock = some k → row ≠ some k) : OwnW w' base v L := by
  refine ⟨h.1, ?_⟩
  rcases h.2 with h2 | ⟨g, cap, cur, rfl, hgb, hh, r⟩
  · exact .inl h2
  · have hlt := (h.lt g (by simp [Value.ownBlock])).2
    exact .inr ⟨g, cap, cur, rfl, hgb, (hg.block g hlt (fun e => hr g (by simp [Value.ownBlock]) e.symm)).trans hh, r⟩
theorem OwnW.form (h : OwnW w base v L) : ∃ (A : Option Addr) (cap : Nat), v = .slice A L.length cap ∧ L.length ≤ 9223372036854775807 ∧ (0 < L.length → ∃ g, A = some ⟨g, 0, none⟩ ∧ base ≤ g ∧ g < w.heap.size ∧ (∀ i, w.frozen? ⟨g, i, none⟩ = false) ∧ ∀ j x, L[j]? = some x → w.cell? ⟨g, j * 3, none⟩ = some (.int .i64 x.1) ∧ w.cell? ⟨g, j * 3 + 1, none⟩ = some (.int .i64 x.2.1) ∧ w.cell? ⟨g, j * 3 + 2, none⟩ = some (.string x.2.2)) := by
  rcases h.2 with ⟨rfl, h2⟩ | ⟨g, cap, cur, rfl, hg, hh, hn, hc, hsz, ht⟩
  · exact ⟨none, 0, by rw [h2], by omega, fun h0 => by omega⟩
  · refine ⟨_, cap, rfl, by unfold maxLen at hc; omega, fun _ => ⟨g, rfl, hg, (h.lt g (by simp [Value.ownBlock])).2, fun i => by simp [World.frozen?, hh], fun j x hx => ?_⟩⟩
    have hj : j < L.length := (List.getElem?_eq_some_iff.1 hx).1
    obtain ⟨h1, h2, h3⟩ := wcells_at L j x hx
    exact ⟨(World.ownsRow.cellAt h (j * 3) (by omega)).trans h1, (World.ownsRow.cellAt h (j * 3 + 1) (by omega)).trans h2, (World.ownsRow.cellAt h (j * 3 + 2) (by omega)).trans h3⟩
end
/-- append of a word that was just laid -/
theorem app_wd {ops : Array Oper} {rest : List Oper} {o : Oper} {a : Act} {Q : Exit → Act → World → Prop} (w : World) (hgd : o.guard = none) (sl x : Operand)
    (ho : o.op = .call { callee := .builtin .append, args := #[sl, x], argTypes := #[56, 56] }) (base : Nat) (v : Value) (L : List (Int × Int × ByteArray)) (hs : a.eval sl = v) (hown : OwnW w base v L) (ad : Addr) (p q : Int) (u0 : ByteArray) (hx : a.eval x = .slice (some ad) 1 1)
    (h : ∀ v' w', OwnW w' base v' (L ++ [(p, q, u0)]) → w.grownBy w' v.ownBlock → wpList Tryd.prog ops Q rest (a.put o.dst v') w')
    (hnews : ∀ j u, [Value.int .i64 p, Value.int .i64 q, Value.string u0][j]? = some u → w.cell? (ad.add j) = some u) (hb : L.length ≤ 1000000000000) (hbase : base ≤ w.heap.size) : wpList Tryd.prog ops Q (o :: rest) a w := by
  obtain ⟨i0, hi, hz0, hz1, hz2⟩ := info_parts info_wd
  refine wpList_append_own w hgd sl x _ ho base 59 i0 _ 3 32 Tryd.underlying56 hi hz0 hz1 hz2 rfl (by omega) v L.length (wcells L) hs hown ad 1 1 [Value.int .i64 p, Value.int .i64 q, Value.string u0] hx rfl hnews ?_ (by unfold maxLen; omega) (by omega) hbase ?_
  · intro u hu
    simp at hu
    rcases hu with rfl | rfl | rfl <;> rfl
  intro v' w' h1 h2 _
  refine h v' w' ?_ h2
  unfold OwnW
  rw [wcells_append, List.length_append]
  exact h1
theorem lits_wd (w : World) (p q : Int) (u0 : ByteArray) (t : TypeId) : ∀ j u, [Value.int .i64 p, Value.int .i64 q, Value.string u0][j]? = some u → (w.alloc (.cells #[Value.int .i64 p, Value.int .i64 q, Value.string u0] t)).cell? ((⟨w.heap.size, 0, none⟩ : Addr).add j) = some u := by
  intro j u h
  have e : (⟨w.heap.size, 0, none⟩ : Addr).add j = ⟨w.heap.size, j, none⟩ := by unfold Addr.add; split <;> simp_all
  rw [e, cell_of_row _ _ j _ _ _ (heap_alloc_new w _)]
  simpa using h
/-- a row of words is answered -/
def RowOwnW (L : List (Int × Int × ByteArray)) (w : World) (e : Ending) (w' : World) : Prop := ∃ v, e = .returned v ∧ OwnW w' w.heap.size v L ∧ Below w.heap.size w w'
theorem below_grownW {B : Nat} {a w w' : World} {v : Value} {L : List (Int × Int × ByteArray)} (h : Below B a w) (ho : OwnW w B v L) (hg : w.grownBy w' v.ownBlock) (hB : B ≤ w.heap.size) : Below B a w' :=
  ⟨hg.os.trans h.os, hg.tape.trans h.tape, hg.output.trans h.output, Nat.le_trans h.size hg.size, fun i hi => (hg.block i (by omega) (fun e => by have := ho.base_le i e.symm; omega)).trans (h.block i hi)⟩
def QwRel (w : World) (s u : ByteArray) (v f i : Value) (wr : World) : Prop := ∃ k : Nat, i = .int .i64 k ∧ k ≤ s.size + 1 ∧ f = .int .i64 ((WM.qw s.data.toList k).1 : Nat) ∧ Hid (OwnW wr w.heap.size v ((WM.qw s.data.toList k).2.map (WM.wordAt u))) ∧ Below w.heap.size w wr
set_option maxHeartbeats 8000000 in
theorem QWords_any (s : ByteArray) (hs : s.size ≤ 1000000000) (w : World) : Calls Tryd.prog 29 #[.string s] w (RowOwnW (WM.qwords s) w) := by
  have hS := Small_any s (by omega) w
  have hlen : s.data.toList.length = s.size := by simp
  have hsm : (WM.small s).size = s.size := by show ((s.data.map WM.smallB)).size = _; simp
  generalize hu : WM.small s = u at *
  have HU := Lib.hid hu
  clear hu
  go_enter Tryd.func29, Tryd.ntmps29
  go_wp2_with fail
  refine hS.mono ?_
  rintro e w1 ⟨rfl, hb1⟩
  have HB1 := Lib.hid hb1
  have hW1 : IntKind.i64.wrap ((s.size : Int) + 1) = ((s.size + 1 : Nat) : Int) := by rw [show (s.size : Int) + 1 = ((s.size + 1 : Nat) : Int) by omega]; exact IntWalk.i64_in _ ⟨by omega, by omega⟩
  clear hS hb1
  go_wp2_with fail
  go_loopw [4, 5, 12] (fun v f i wr => QwRel w s u v f i wr) (fun _ _ i _ => s.size + 1 - (intOf i).toNat)
  case atStart => exact ⟨0, rfl, by omega, rfl, Lib.hid ⟨rfl, .inl ⟨rfl, rfl⟩⟩, HB1.out⟩
  case round =>
    obtain ⟨k, rfl, hk, rfl, HO, hbw⟩ := hrel
    have hq := WM.qw_le s.data.toList k
    by_cases hlt : k < s.size + 1
    · have hKW : IntKind.i64.wrap ((k : Int) + 1) = ((k + 1 : Nat) : Int) := by rw [show (k : Int) + 1 = ((k + 1 : Nat) : Int) by omega]; exact IntWalk.i64_in _ ⟨by omega, by omega⟩
      have HB := Lib.hid hbw
      by_cases h1 : k < s.size
      · have hg : s[k]'h1 = s.data.toList.getD k 0 := by
          rw [List.getD_eq_getElem?_getD, List.getElem?_eq_getElem (by simpa using h1)]
          simp [ByteArray.getElem_eq_getElem_data]
        cases hc : WM.wordB (s[k]'h1)
        · have hN := WM.qw_out (l := s.data.toList) (k := k) (by rw [← hg, hc, Bool.and_false])
          have hR := fun W => WordByte_any (s[k]'h1) false hc W
          have HN := Lib.hid hN
          generalize hqe : WM.qw s.data.toList k = Q at *
          clear hN hc hg hbw hqe
          have HQL := Lib.hid (show Q.2.length ≤ 1000000000000 by omega)
          by_cases hfk : Q.1 < k
          · have HN2 : Hid (WM.qw s.data.toList (k + 1) = (k + 1, Q.2 ++ [(Q.1, k)])) := Lib.hid (by rw [HN.out, if_pos hfk])
            have j1 : (Q.1 : Int) ≤ (k : Int) := by omega
            have j2 : (k : Int) ≤ (u.size : Int) := by omega
            have hsz : w.heap.size ≤ wr.heap.size := HB.out.size
            obtain ⟨A0, c0, rfl, -, -⟩ := HO.out.form
            rw [List.length_map] at *
            clear hq HN
            go_wp2_with fail
            refine (hR _).mono ?_
            rintro e w' ⟨rfl, nn, rfl⟩
            clear hR
            go_wp2_with (at_builtin; refine app_wd _ rfl (.tmp 28) (.tmp 37) rfl w.heap.size _ (Q.2.map (WM.wordAt u)) rfl ((HO.out.drewN nn).alloc _) _ Q.1 k (u.extract Q.1 k) rfl ?_ (lits_wd _ _ _ _ _) (by rw [List.length_map]; exact HQL.out) ?d2; intro v4 w4 ho4 hg4; have HO4 := Lib.hid (And.intro ho4 hg4); clear ho4 hg4)
            case d2 => simp; omega
            exact ⟨⟨k + 1, by simp, by omega, by rw [HN2.out]; simp, Lib.hid (by rw [HN2.out, List.map_append]; exact HO4.out.1), below_grownW ((below_drewN HB.out nn).alloc hsz _) ((HO.out.drewN nn).alloc _) HO4.out.2 (by simp; omega)⟩, by simp [intOf]; omega⟩
          · have HN2 : Hid (WM.qw s.data.toList (k + 1) = (k + 1, Q.2)) := Lib.hid (by rw [HN.out, if_neg hfk])
            clear hq HN
            go_wp2_with fail
            refine (hR _).mono ?_
            rintro e w' ⟨rfl, nn, rfl⟩
            clear hR
            go_wp2_with fail
            exact ⟨⟨k + 1, by simp, by omega, by rw [HN2.out]; simp, Lib.hid (by rw [HN2.out]; exact HO.out.drewN nn), below_drewN HB.out nn⟩, by simp [intOf]; omega⟩
        · have hN := WM.qw_in (l := s.data.toList) (k := k) (by omega) (by rw [← hg]; exact hc)
          have hR := fun W => WordByte_any (s[k]'h1) true hc W
          have HN := Lib.hid hN
          generalize hqe : WM.qw s.data.toList k = Q at *
          clear hN hc hg hbw
          go_wp2_with fail
          refine (hR _).mono ?_
          rintro e w' ⟨rfl, nn, rfl⟩
          clear hR
          go_wp2_with fail
          exact ⟨⟨k + 1, by simp, by omega, by rw [HN.out], Lib.hid (by rw [HN.out]; exact HO.out.drewN nn), below_drewN HB.out nn⟩, by simp [intOf]; omega⟩
      · have hN := WM.qw_out (l := s.data.toList) (k := k) (by rw [decide_eq_false (by omega), Bool.false_and])
        have HN := Lib.hid hN
        have hd1 : decide ((k : Int) < (s.size : Int)) = false := decide_eq_false (by omega)
        generalize hqe : WM.qw s.data.toList k = Q at *
        clear hN hbw hqe
        have HQL := Lib.hid (show Q.2.length ≤ 1000000000000 by omega)
        by_cases hfk : Q.1 < k
        · have HN2 : Hid (WM.qw s.data.toList (k + 1) = (k + 1, Q.2 ++ [(Q.1, k)])) := Lib.hid (by rw [HN.out, if_pos hfk])
          have j1 : (Q.1 : Int) ≤ (k : Int) := by omega
          have j2 : (k : Int) ≤ (u.size : Int) := by omega
          have hsz : w.heap.size ≤ wr.heap.size := HB.out.size
          obtain ⟨A0, c0, rfl, -, -⟩ := HO.out.form
          rw [List.length_map] at *
          clear hq HN
          go_wp2_with (at_builtin; refine app_wd _ rfl (.tmp 28) (.tmp 37) rfl w.heap.size _ (Q.2.map (WM.wordAt u)) rfl ((HO.out).alloc _) _ Q.1 k (u.extract Q.1 k) rfl ?_ (lits_wd _ _ _ _ _) (by rw [List.length_map]; exact HQL.out) ?d2; intro v4 w4 ho4 hg4; have HO4 := Lib.hid (And.intro ho4 hg4); clear ho4 hg4)
          case d2 => simp; omega
          exact ⟨⟨k + 1, by simp, by omega, by rw [HN2.out]; simp, Lib.hid (by rw [HN2.out, List.map_append]; exact HO4.out.1), below_grownW ((HB.out).alloc hsz _) ((HO.out).alloc _) HO4.out.2 (by simp; omega)⟩, by simp [intOf]; omega⟩
        · have HN2 : Hid (WM.qw s.data.toList (k + 1) = (k + 1, Q.2)) := Lib.hid (by rw [HN.out, if_neg hfk])
          clear hq HN
          go_wp2_with fail
          exact ⟨⟨k + 1, by simp, by omega, by rw [HN2.out]; simp, Lib.hid (by rw [HN2.out]; exact HO.out), HB.out⟩, by simp [intOf]; omega⟩
    · obtain rfl : k = s.size + 1 := by omega
      have HF := Lib.hid (And.intro HO.out hbw)
      obtain ⟨A0, c0, rfl, -, -⟩ := HO.out.form
      clear hbw hq
      go_wp2_with fail
      go_ret
      exact ⟨_, rfl, by unfold WM.qwords; rw [HU.out]; exact HF.out.1, HF.out.2⟩
end Go.Proofs.YtdmgfkgfcofmhaaDoor
